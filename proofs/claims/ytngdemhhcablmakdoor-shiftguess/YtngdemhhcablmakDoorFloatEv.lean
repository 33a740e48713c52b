/-
  Numbers with a point: each operation by its answer, whatever bits a NaN has. No program here but the operations' own laws.
-/
import Derived.Test.YtngdemhhcablmakDoorProg
import Derived.Laws.FloatArith
import Derived.Deep.Draws
namespace Go.Proofs.YtngdemhhcablmakDoor
open Go

/-- The number is none. -/
def Nan (x : Nat) : Prop := (FloatKind.f64.format.read x).isNaN = true
/-- r is an answer of the operation. -/
def FOp (op : BinOp) (x y r : Nat) : Prop :=
  match floatBits op .f64 x y with
  | some v => r = v
  | none => Nan r
/-- The same bits, or both are none. -/
def FSame (x y : Nat) : Prop := x = y ∨ (Nan x ∧ Nan y)
theorem FSame.refl (x : Nat) : FSame x x := .inl rfl
theorem FSame.symm {x y : Nat} (h : FSame x y) : FSame y x := h.elim (fun e => .inl e.symm) fun e => .inr ⟨e.2, e.1⟩
theorem FSame.trans {x y z : Nat} (h : FSame x y) (k : FSame y z) : FSame x z := by
  rcases h with rfl | h
  · exact k
  · rcases k with rfl | k
    · exact .inr h
    · exact .inr ⟨h.1, k.2⟩

/-- the four operations. -/
def isFour (op : BinOp) : Prop := op = .add ∨ op = .sub ∨ op = .mul ∨ op = .quo
theorem nan_is {x : Nat} (h : Nan x) : ∃ s t, FloatKind.f64.format.read x = Ieee.Datum.nan s t := by
  unfold Nan at h
  cases e : FloatKind.f64.format.read x with
  | number s m i => rw [e] at h; cases h
  | infinity s => rw [e] at h; cases h
  | nan s t => exact ⟨s, t, rfl⟩
theorem bits_nan_left {op : BinOp} {x : Nat} (y : Nat) (h : Nan x) : floatBits op .f64 x y = none := by
  obtain ⟨s, t, e⟩ := nan_is h
  unfold floatBits
  split <;> simp [Ieee.Format.add, Ieee.Format.sub, Ieee.Format.mul, Ieee.Format.div, e, Ieee.Datum.sum, Ieee.Datum.product, Ieee.Datum.quotient]
theorem bits_nan_right {op : BinOp} (x : Nat) {y : Nat} (h : Nan y) : floatBits op .f64 x y = none := by
  obtain ⟨s, t, e⟩ := nan_is h
  unfold floatBits
  split
  · simp only [Ieee.Format.add, e]; cases FloatKind.f64.format.read x <;> rfl
  · simp only [Ieee.Format.sub, e]; cases FloatKind.f64.format.read x <;> rfl
  · simp only [Ieee.Format.mul, e]; cases FloatKind.f64.format.read x <;> rfl
  · simp only [Ieee.Format.div, e]; cases FloatKind.f64.format.read x <;> rfl
  · rfl
theorem FOp.same {op : BinOp} {x y r x' y' r' : Nat} (h : FOp op x y r) (h' : FOp op x' y' r') (hx : FSame x x') (hy : FSame y y') : FSame r r' := by
  unfold FOp at h h'
  rcases hx with rfl | ⟨n1, n2⟩
  · rcases hy with rfl | ⟨n1, n2⟩
    · cases e : floatBits op .f64 x y with
      | none => rw [e] at h h'; exact .inr ⟨h, h'⟩
      | some v => rw [e] at h h'; exact .inl (h.trans h'.symm)
    · rw [bits_nan_right x n1] at h
      rw [bits_nan_right x n2] at h'
      exact .inr ⟨h, h'⟩
  · rw [bits_nan_left y n1] at h
    rw [bits_nan_left y' n2] at h'
    exact .inr ⟨h, h'⟩

/-- what an operation gives in a world, and how often it draws. -/
def fnum (op : BinOp) (x y : Nat) (w : World) : Nat :=
  match floatBits op .f64 x y with
  | some v => v
  | none => (Question.nanBits .f64 x y).cut (w.tape w.drawn (.nanBits .f64 x y))
def fdraw (op : BinOp) (x y : Nat) : Nat :=
  match floatBits op .f64 x y with
  | some _ => 0
  | none => 1
theorem nan_cut (x y t : Nat) : Nan ((Question.nanBits .f64 x y).cut t) := by
  unfold Nan
  have e : (Question.nanBits .f64 x y).cut t = (t % 2) * 2 ^ 63 + 0x7ff0000000000000 + 1 + (t / 2) % (2 ^ 52 - 1) := rfl
  rw [e]
  have h1 : t % 2 = 0 ∨ t % 2 = 1 := by omega
  have h2 : (t / 2) % (2 ^ 52 - 1) < 2 ^ 52 - 1 := Nat.mod_lt _ (by decide)
  generalize (t / 2) % (2 ^ 52 - 1) = q at *
  have sw : FloatKind.f64.format.signWeight = 9223372036854775808 := by decide
  have bn : FloatKind.f64.format.binade = 4503599627370496 := by decide
  have ir : FloatKind.f64.format.infRung = 9218868437227405312 := by decide
  unfold Ieee.Format.read
  simp only [sw, bn, ir]
  have hm : ((t % 2) * 2 ^ 63 + 0x7ff0000000000000 + 1 + q) % 9223372036854775808 = 9218868437227405312 + 1 + q := by rcases h1 with h | h <;> rw [h] <;> omega
  rw [hm, if_neg (by omega), if_neg (by omega), if_neg (by omega)]
  rfl
theorem fnum_is (op : BinOp) (x y : Nat) (w : World) : FOp op x y (fnum op x y w) := by
  unfold FOp fnum
  split
  · rfl
  · exact nan_cut x y _
theorem run_float {P : Program} (op : BinOp) (t : TypeId) (x y : Nat) (w : World) (h : isFour op) : (binOp op t (.float .f64 x) (.float .f64 y)).run P w = .ok (.float .f64 (fnum op x y w)) (w.drewN (fdraw op x y)) := by
  cases e : floatBits op .f64 x y with
  | some v =>
    have h1 : fnum op x y w = v := by unfold fnum; rw [e]
    have h2 : fdraw op x y = 0 := by unfold fdraw; rw [e]
    rw [h1, h2]
    exact run_float_arith w op t .f64 x y v e
  | none =>
    have h1 : fnum op x y w = (Question.nanBits .f64 x y).cut (w.tape w.drawn (.nanBits .f64 x y)) := by unfold fnum; rw [e]
    have h2 : fdraw op x y = 1 := by unfold fdraw; rw [e]
    rw [h1, h2]
    unfold floatBits at e
    rcases h with rfl | rfl | rfl | rfl
    all_goals
      simp only at e
      simp [binOp, Op.floatArith, e]
      rfl

theorem run_fadd {P : Program} (t : TypeId) (x y : Nat) (w : World) : (binOp .add t (.float .f64 x) (.float .f64 y)).run P w = .ok (.float .f64 (fnum .add x y w)) (w.drewN (fdraw .add x y)) := run_float _ t x y w (.inl rfl)
theorem run_fsub {P : Program} (t : TypeId) (x y : Nat) (w : World) : (binOp .sub t (.float .f64 x) (.float .f64 y)).run P w = .ok (.float .f64 (fnum .sub x y w)) (w.drewN (fdraw .sub x y)) := run_float _ t x y w (.inr (.inl rfl))
theorem run_fmul {P : Program} (t : TypeId) (x y : Nat) (w : World) : (binOp .mul t (.float .f64 x) (.float .f64 y)).run P w = .ok (.float .f64 (fnum .mul x y w)) (w.drewN (fdraw .mul x y)) := run_float _ t x y w (.inr (.inr (.inl rfl)))
theorem run_fquo {P : Program} (t : TypeId) (x y : Nat) (w : World) : (binOp .quo t (.float .f64 x) (.float .f64 y)).run P w = .ok (.float .f64 (fnum .quo x y w)) (w.drewN (fdraw .quo x y)) := run_float _ t x y w (.inr (.inr (.inr rfl)))

/-- Expressions over numbers that came in, and their answers. -/
inductive FE where
  | num (x : Nat)
  | op (o : BinOp) (a b : FE)
inductive Ev : FE → Nat → Prop where
  | num (x : Nat) : Ev (.num x) x
  | op {o : BinOp} {a b : FE} {x y r : Nat} (ha : Ev a x) (hb : Ev b y) (h : FOp o x y r) : Ev (.op o a b) r
theorem Ev.same {e : FE} {r : Nat} (h : Ev e r) : ∀ {r' : Nat}, Ev e r' → FSame r r' := by
  induction h with
  | num x => intro r' h'; cases h'; exact .refl _
  | op ha hb h iha ihb => intro r' h'; cases h' with
    | op ha' hb' h' => exact h.same h' (iha ha') (ihb hb')
end Go.Proofs.YtngdemhhcablmakDoor
