/-
  A region that draws its order, each operation of which yields ONE OF A SET of values, told ahead, in every world of a class: the order of the text serves every order. (For numbers with a point: which bits a NaN has hangs on the draws.) A region that draws its order, where callees make memory of their own: each operation yields one of a set of values, in every world that keeps what lay below. A region that draws its order and ends with one operation that comes behind all others (a store): the others as in Loose2, the last one in whatever world they leave. A region that draws its order and ends with operations that come behind all others, one behind the other (a store, an assignment): the others as in Loose2, the last ones in whatever world they leave. A region that draws its order and makes new memory for variables ('alloc') among operations that yield one of a set of values: the order of the text serves every order; each new block is one that no other is. What comes behind all others (stores, assignments) is walked in whatever world they leave. A region that draws its order, where a callee hands back what lies in memory that it has made, and another operation of the region uses it: as Loose5, with facts on the world beside the values. Two operations at a region's end that may go either way. A region that draws its order, as Loose6, where some operations reckon alone (pure) and may come behind those of the region's end ('x, l, err := f(..)' with x in a block of its own).
-/
import Derived.Test.YtoacdaemhcbbhaaDoorProg
import Derived.Still
import Derived.Deep.Draws
import Derived.Below
import Derived.WalkSmall
namespace Go.Proofs.YtoacdaemhcbbhaaDoor
open Go

section
variable {P : Program} {ops : Array Oper} {md : Region.Mode} {C : World → Prop} {Ss : Nat → Value → Prop}

def lUpon (P : Program) (C : World → Prop) (S : Value → Prop) : Result Next → Prop
  | .ok (.value u) w' => C w' ∧ S u
  | .ok .skip w' => C w' ∧ S undef
  | .ok (.enter f args) w' => Calls P f args w' fun e w'' => ∃ v, e = .returned v ∧ S v ∧ C w''
  | _ => False
def lAt (P : Program) (C : World → Prop) (S : Value → Prop) (o : Oper) (a : Act) (w : World) : Prop := lUpon P C S ((execOp a.eval o).run P w)
def wantB (ops : Array Oper) (o : Oper) (a : Act) : Bool := Region.wanted o (yielded ops a.tmps)
/-- the values that it may leave. -/
def valsOf (S : Value → Prop) (b : Bool) (v : Value) : Prop := if b then S v else v = undef
/-- if it is wanted, it leaves one of the set, in every world of the class. -/
def Lets (P : Program) (ops : Array Oper) (C : World → Prop) (S : Value → Prop) (o : Oper) (a : Act) : Prop := wantB ops o a = true → (∃ v, S v) ∧ ∀ w, C w → lAt P C S o a w
def lOp (P : Program) (ops : Array Oper) (C : World → Prop) (Ss : Nat → Value → Prop) (i : Nat) (K : Act → Prop) (a : Act) : Prop :=
  ∀ o, ops[i]? = some o → Lets P ops C (Ss i) o a ∧ ∀ v, valsOf (Ss i) (wantB ops o a) v → K (a.put o.dst v)
def wpAnyL (P : Program) (md : Region.Mode) (ops : Array Oper) (C : World → Prop) (Ss : Nat → Value → Prop) (Q : Act → Prop) : Nat → Array Bool → Act → Prop
  | 0, listed, a => Region.ready md ops listed = [] ∧ Q a
  | fuel + 1, listed, a => (Region.ready md ops listed = [] → Q a) ∧ ∀ i ∈ Region.ready md ops listed, lOp P ops C Ss i (wpAnyL P md ops C Ss Q fuel (listed.setIfInBounds i true)) a
/-- the walk in the order of the text. -/
def wpLex (P : Program) (ops : Array Oper) (C : World → Prop) (Ss : Nat → Value → Prop) (Q : Act → Prop) : Nat → List Oper → Act → Prop
  | _, [], a => Q a
  | k, o :: rest, a => Lets P ops C (Ss k) o a ∧ ∀ v, valsOf (Ss k) (wantB ops o a) v → wpLex P ops C Ss Q (k + 1) rest (a.put o.dst v)

theorem Lets.some {S : Value → Prop} {o : Oper} {a : Act} (h : Lets P ops C S o a) : ∃ v, valsOf S (wantB ops o a) v := by
  unfold valsOf
  cases e : wantB ops o a with
  | false => exact ⟨undef, rfl⟩
  | true => exact (h e).1
theorem lOp.mono {i : Nat} {a : Act} {K K' : Act → Prop} (h : ∀ a, K a → K' a) (hh : lOp P ops C Ss i K a) : lOp P ops C Ss i K' a :=
  fun o ho => ⟨(hh o ho).1, fun v hv => h _ ((hh o ho).2 v hv)⟩
theorem wp_of_lets {S : Value → Prop} {o : Oper} {a : Act} {K : Act → Prop} {K' : Act → World → Prop} {Q' : Exit → Act → World → Prop} {w : World} (h : ∀ a w', C w' → K a → K' a w')
    (hl : lAt P C S o a w) (hk : ∀ v, S v → K (a.put o.dst v)) : o.wp P a w K' Q' := by
  unfold lAt at hl
  unfold Oper.wp
  generalize (execOp a.eval o).run P w = r at *
  cases r with
  | ok n w' =>
    cases n <;> simp only [lUpon] at hl <;> simp only [Oper.upon]
    case value u => exact h _ _ hl.1 (hk u hl.2)
    case skip => exact h _ _ hl.1 (hk _ hl.2)
    case enter f args =>
      refine hl.mono ?_
      rintro e w'' ⟨v, rfl, hs, hc⟩
      exact h _ _ hc (hk v hs)
  | halt x w' => simp only [lUpon] at hl
theorem wpOp_of_lOp {i : Nat} {a : Act} {K : Act → Prop} {K' : Act → World → Prop} {Q' : Exit → Act → World → Prop} {w : World} (hC : C w) (h : ∀ a w', C w' → K a → K' a w') (hi : ∃ o, ops[i]? = some o) (hh : lOp P ops C Ss i K a) : wpOp P ops Q' i K' a w := by
  obtain ⟨o, ho⟩ := hi
  obtain ⟨h1, h2⟩ := hh o ho
  unfold wpOp
  simp only [ho]
  have e : Region.wanted o (yielded ops a.tmps) = wantB ops o a := rfl
  rw [e]
  cases hw : wantB ops o a with
  | true =>
    rw [hw] at h2
    simp only [if_true]
    exact .inl (wp_of_lets h ((h1 hw).2 w hC) h2)
  | false =>
    rw [hw] at h2
    simp only [Bool.false_eq_true, if_false]
    exact h _ _ hC (h2 undef rfl)
theorem ready_is {i : Nat} {listed : Array Bool} (h : i ∈ Region.ready md ops listed) : ∃ o, ops[i]? = some o := by
  obtain ⟨_, o, ho, _⟩ := mem_ready.1 h
  exact ⟨o, ho⟩
theorem wpAny_of_lets {Q : Act → Prop} {Q' : Exit → Act → World → Prop} (hQ : ∀ a w, C w → Q a → Q' .normal a w) : ∀ (fuel : Nat) (listed : Array Bool) (a : Act) (w : World), C w → wpAnyL P md ops C Ss Q fuel listed a → wpAny P md ops Q' fuel listed a w
  | 0, _, _, _, hw, h => ⟨h.1, hQ _ _ hw h.2⟩
  | fuel + 1, _, _, _, hw, h => ⟨fun h0 => hQ _ _ hw (h.1 h0), fun i hi => wpOp_of_lOp hw (fun a' w' hw' => wpAny_of_lets hQ fuel _ a' w' hw') (ready_is hi) (h.2 i hi)⟩

theorem want_put {oi oj : Oper} (a : Act) (v : Value) (h : oi.apart ops oj = true) : wantB ops oj (a.put oi.dst v) = wantB ops oj a ∧ wantB ops oi (a.put oj.dst v) = wantB ops oi a := by
  obtain ⟨h1, _, h3⟩ := Oper.apart_spec h
  exact ⟨wanted_put oj a oi.dst v h1, wanted_put oi a oj.dst v h3⟩
theorem Lets.of_put {S : Value → Prop} {o : Oper} {a a' : Act} (he : execOp a'.eval o = execOp a.eval o) (hw : wantB ops o a' = wantB ops o a) (h : Lets P ops C S o a) : Lets P ops C S o a' := by
  unfold Lets lAt at *
  rw [he, hw]
  exact h
/-- one that is apart from it may come ahead. -/
theorem lOp_put {i j : Nat} {oi oj : Oper} (hj : ops[j]? = some oj) (hap : oi.apart ops oj = true) (hsi : ∀ cs b, oi.op ≠ .select cs b) (hsj : ∀ cs b, oj.op ≠ .select cs b) {K : Act → Prop} {a : Act}
    (hy : Lets P ops C (Ss i) oi a) (h : ∀ v, valsOf (Ss i) (wantB ops oi a) v → lOp P ops C Ss j K (a.put oi.dst v)) :
    lOp P ops C Ss j (fun a' => Lets P ops C (Ss i) oi a' ∧ ∀ v, valsOf (Ss i) (wantB ops oi a') v → K (a'.put oi.dst v)) a := by
  obtain ⟨h1, h2, h3⟩ := Oper.apart_spec hap
  intro o ho
  rw [hj] at ho
  cases ho
  obtain ⟨v0, hv0⟩ := hy.some
  refine ⟨Lets.of_put (execOp_put oj hsj a oi.dst v0 h1).symm (want_put a v0 hap).1.symm (h v0 hv0 oj hj).1, ?_⟩
  intro u hu
  refine ⟨Lets.of_put (execOp_put oi hsi a oj.dst u h3) (want_put a u hap).2 hy, ?_⟩
  intro v hv
  rw [(want_put a u hap).2] at hv
  rw [← Act.put_comm a v u h2]
  refine (h v hv oj hj).2 u ?_
  rw [(want_put a v hap).1]
  exact hu
theorem wpAnyL_first {Q : Act → Prop} {i : Nat} {oi : Oper} (hi : ops[i]? = some oi) (hsel : ∀ (j : Nat) (o : Oper) cs b, ops[j]? = some o → o.op ≠ .select cs b) :
    ∀ (fuel : Nat) (listed : Array Bool) (a : Act),
      (∀ j oj, ops[j]? = some oj → j ≠ i → listed.getD j true = false → (∀ e ∈ oj.after, Region.binds md e = true → e.on ≠ i) → oi.apart ops oj = true) →
      i ∈ Region.ready md ops listed → Lets P ops C (Ss i) oi a →
      (∀ v, valsOf (Ss i) (wantB ops oi a) v → wpAnyL P md ops C Ss Q fuel (listed.setIfInBounds i true) (a.put oi.dst v)) → wpAnyL P md ops C Ss Q (fuel + 1) listed a := by
  intro fuel
  induction fuel with
  | zero =>
    intro listed a _ hr hy H
    refine ⟨fun h => (by rw [h] at hr; cases hr), fun j hj => ?_⟩
    by_cases hji : j = i
    · subst hji
      intro o ho
      rw [hi] at ho
      cases ho
      exact ⟨hy, H⟩
    · obtain ⟨v0, hv0⟩ := hy.some
      have h1 := ready_mono hj hji
      rw [(H v0 hv0).1] at h1
      cases h1
  | succ fuel ih =>
    intro listed a hfree hr hy H
    refine ⟨fun h => (by rw [h] at hr; cases hr), fun j hj => ?_⟩
    by_cases hji : j = i
    · subst hji
      intro o ho
      rw [hi] at ho
      cases ho
      exact ⟨hy, H⟩
    · obtain ⟨hjun, oj, hoj, hall⟩ := mem_ready.1 hj
      have hnot : ∀ e ∈ oj.after, Region.binds md e = true → e.on ≠ i := fun e he hb heq => by
        have h1 := hall e he hb
        have h0 := (mem_ready.1 hr).1
        rw [heq] at h1
        rcases Nat.lt_or_ge i listed.size with h' | h'
        · simp [h'] at h0 h1; rw [h0] at h1; cases h1
        · simp [Array.getElem?_eq_none h'] at h1
      have h2 := lOp_put (i := i) (Ss := Ss) hoj (hfree j oj hoj hji hjun hnot) (fun cs b => hsel i oi cs b hi) (fun cs b => hsel j oj cs b hoj) hy (fun v hv => (H v hv).2 j (ready_mono hj hji))
      have hfree' : ∀ k ok, ops[k]? = some ok → k ≠ i → (listed.setIfInBounds j true).getD k true = false → (∀ e ∈ ok.after, Region.binds md e = true → e.on ≠ i) → oi.apart ops ok = true := fun k ok hk hki hun hno => by
        refine hfree k ok hk hki ?_ hno
        by_cases hjk : j = k
        · subst hjk; exact hjun
        · rw [getD_set_ne true hjk] at hun; exact hun
      refine lOp.mono (fun a' h3 => ih (listed.setIfInBounds j true) a' hfree' (ready_mono hr (Ne.symm hji)) h3.1 fun v hv => ?_) h2
      rw [Array.setIfInBounds_comm _ _ hji]
      exact h3.2 v hv
theorem wpAnyL_lex {Q : Act → Prop} (hs : Region.noSelect ops = true) : ∀ (l : List Oper) (k : Nat) (listed : Array Bool) (a : Act), (∀ j, l[j]? = ops[k + j]?) →
    Region.lexFrom md ops l.length k listed = true → wpLex P ops C Ss Q k l a → wpAnyL P md ops C Ss Q l.length listed a
  | [], _, _, _, _, hB, h => ⟨by simpa [Region.lexFrom] using hB, h⟩
  | o :: l, k, listed, a, hl, hB, h => by
    have h0 : ops[k]? = some o := by simpa using (hl 0).symm
    simp only [List.length_cons, Region.lexFrom, Bool.and_eq_true] at hB
    obtain ⟨⟨hr, hf⟩, hB'⟩ := hB
    exact wpAnyL_first h0 (Region.noSelect_spec hs) l.length listed a (Region.free_spec h0 hf) (by simpa using hr) h.1
      fun v hv => wpAnyL_lex hs l (k + 1) _ _ (fun j => by have := hl (j + 1); simpa [Nat.add_assoc, Nat.add_comm 1 j] using this) hB' (h.2 v hv)
/-- the same, the sets in a list. -/
def wpLexL (P : Program) (ops : Array Oper) (C : World → Prop) (Q : Act → Prop) : List (Value → Prop) → List Oper → Act → Prop
  | S :: Sl, o :: rest, a => Lets P ops C S o a ∧ ∀ v, valsOf S (wantB ops o a) v → wpLexL P ops C Q Sl rest (a.put o.dst v)
  | [], [], a => Q a
  | _, _, _ => False
theorem wpLex_of_L {Q : Act → Prop} (Sl : List (Value → Prop)) : ∀ (l : List Oper) (k : Nat) (a : Act), (∀ j, j < Sl.length → Ss (k + j) = Sl.getD j fun _ => False) → wpLexL P ops C Q Sl l a → wpLex P ops C Ss Q k l a := by
  induction Sl with
  | nil =>
    intro l k a _ h
    cases l with
    | nil => exact h
    | cons o rest => exact h.elim
  | cons S Sl ih =>
    intro l k a hs h
    cases l with
    | nil => exact h.elim
    | cons o rest =>
      have e : Ss k = S := by simpa using hs 0 (by simp)
      unfold wpLex
      rw [e]
      refine ⟨h.1, fun v hv => ih rest (k + 1) _ (fun j hj => ?_) (h.2 v hv)⟩
      have h1 := hs (j + 1) (by simpa using hj)
      rw [Nat.add_assoc, Nat.add_comm 1 j, h1]
      simp
theorem lexL_end {Q : Act → Prop} {a : Act} (h : Q a) : wpLexL P ops C Q [] [] a := h
/-- one operation, what follows behind a variable. -/
theorem lexL_step {W : World} {Q : Act → Prop} {S : Value → Prop} {Sl : List (Value → Prop)} {o : Oper} {rest : List Oper} {a : Act}
    (h : ∀ K : Act → Prop, (∀ a, wpLexL P ops (fun w' => ∃ n, w' = W.drewN n) Q Sl rest a → K a) →
      wantB ops o a = true ∧ (∃ v, S v) ∧ (∀ n, lUpon P (fun w' => ∃ n, w' = W.drewN n) S ((execOp a.eval o).run P (W.drewN n))) ∧ ∀ v, S v → K (a.put o.dst v)) :
    wpLexL P ops (fun w' => ∃ n, w' = W.drewN n) Q (S :: Sl) (o :: rest) a := by
  obtain ⟨h1, h2, h3, h4⟩ := h _ (fun _ h => h)
  refine ⟨fun _ => ⟨h2, ?_⟩, ?_⟩
  · rintro w ⟨n, rfl⟩
    exact h3 n
  · intro v hv
    rw [h1] at hv
    exact h4 v hv
theorem wp_region_lets {id : Nat} {Q : Exit → Act → World → Prop} {a : Act} {w : World} {l : List Oper} (Sl : List (Value → Prop)) (hm : P.follows .mixedOrders = true) (hB : Region.lexB .any l.toArray = true)
    (h : wpLexL P l.toArray (fun w' => ∃ n, w' = w.drewN n) (fun a' => ∀ n, Q .normal a' (w.drewN n)) Sl l a) : (Code.region id l.toArray true).wp P Q a w := by
  simp only [Region.lexB, Bool.and_eq_true] at hB
  refine wp_region_any hm (wpAny_of_lets (C := fun w' => ∃ n, w' = w.drewN n) (Ss := fun k => Sl.getD k fun _ => False) (Q := fun a' => ∀ n, Q .normal a' (w.drewN n)) (fun _ w' hw' h => by obtain ⟨n, rfl⟩ := hw'; exact h n) _ _ _ _ ⟨1, rfl⟩ ?_)
  have := wpAnyL_lex (P := P) (C := fun w' => ∃ n, w' = w.drewN n) (Ss := fun k => Sl.getD k fun _ => False) (md := .any) hB.1 l 0 (Array.replicate l.toArray.size false) a (by simp) (by simpa using hB.2)
    (wpLex_of_L Sl l 0 a (fun j _ => by rw [Nat.zero_add]) h)
  simpa using this
/-- what an operation that yields one value in the world that it got asks. -/
theorem lUpon_one {W : World} {n : Nat} {u : Value} : lUpon P (fun w' => ∃ n, w' = W.drewN n) (fun v => v = u) (.ok (.value u) (W.drewN n)) := ⟨⟨n, rfl⟩, rfl⟩
theorem lUpon_in {W : World} {n m : Nat} {u : Value} {S : Value → Prop} (h : S u) : lUpon P (fun w' => ∃ n, w' = W.drewN n) S (.ok (.value u) ((W.drewN n).drewN m)) := ⟨⟨n + m, by rw [World.drewN_drewN]⟩, h⟩
end
end Go.Proofs.YtoacdaemhcbbhaaDoor
namespace Go.Proofs.YtoacdaemhcbbhaaDoor
open Go Go.RowKit

section
variable {P : Program} {ops : Array Oper}
theorem lexB_step {W : World} {B : Nat} {Q : Act → Prop} {S : Value → Prop} {Sl : List (Value → Prop)} {o : Oper} {rest : List Oper} {a : Act}
    (h : ∀ K : Act → Prop, (∀ a, wpLexL P ops (Below B W) Q Sl rest a → K a) →
      wantB ops o a = true ∧ (∃ v, S v) ∧ (∀ v, Below B W v → lUpon P (Below B W) S ((execOp a.eval o).run P v)) ∧ ∀ v, S v → K (a.put o.dst v)) :
    wpLexL P ops (Below B W) Q (S :: Sl) (o :: rest) a := by
  obtain ⟨h1, h2, h3, h4⟩ := h _ (fun _ h => h)
  refine ⟨fun _ => ⟨h2, h3⟩, ?_⟩
  intro v hv
  rw [h1] at hv
  exact h4 v hv
theorem wp_region_letsB {id : Nat} {Q : Exit → Act → World → Prop} {a : Act} {w : World} {l : List Oper} (B : Nat) (Sl : List (Value → Prop)) (hm : P.follows .mixedOrders = true) (hB : Region.lexB .any l.toArray = true)
    (h : wpLexL P l.toArray (Below B w) (fun a' => ∀ v, Below B w v → Q .normal a' v) Sl l a) : (Code.region id l.toArray true).wp P Q a w := by
  simp only [Region.lexB, Bool.and_eq_true] at hB
  refine wp_region_any hm (wpAny_of_lets (C := Below B w) (Ss := fun k => Sl.getD k fun _ => False) (Q := fun a' => ∀ v, Below B w v → Q .normal a' v) (fun _ w' hw' h => h w' hw') _ _ _ _ (below_drewN (Below.refl B w) 1) ?_)
  have := wpAnyL_lex (P := P) (C := Below B w) (Ss := fun k => Sl.getD k fun _ => False) (md := .any) hB.1 l 0 (Array.replicate l.toArray.size false) a (by simp) (by simpa using hB.2)
    (wpLex_of_L Sl l 0 a (fun j _ => by rw [Nat.zero_add]) h)
  simpa using this
theorem lUpon_b {W v : World} {B : Nat} {u : Value} (h : Below B W v) : lUpon P (Below B W) (fun v => v = u) (.ok (.value u) v) := ⟨h, rfl⟩
theorem below_on2 {W v u : World} {B : Nat} (h : Below B W v) (hB : B ≤ W.heap.size) (k : Below v.heap.size v u) : Below B W u := h.trans (k.mono (Nat.le_trans hB h.size))
end
end Go.Proofs.YtoacdaemhcbbhaaDoor
namespace Go.Proofs.YtoacdaemhcbbhaaDoor
open Go Go.RowKit

section
variable {P : Program} {ops : Array Oper} {md : Region.Mode} {C : World → Prop} {Ss : Nat → Value → Prop} {Q' : Exit → Act → World → Prop} {m : Nat}
def lLast (P : Program) (ops : Array Oper) (C : World → Prop) (Q' : Exit → Act → World → Prop) (m : Nat) (a : Act) : Prop := ∀ w, C w → wpOp P ops Q' m (fun a w => Q' .normal a w) a w
def wpAnyM (P : Program) (md : Region.Mode) (ops : Array Oper) (C : World → Prop) (Ss : Nat → Value → Prop) (Q' : Exit → Act → World → Prop) (m : Nat) : Nat → Array Bool → Act → Prop
  | 0, listed, a => Region.ready md ops listed = [] ∧ ∀ w, C w → Q' .normal a w
  | fuel + 1, listed, a => (Region.ready md ops listed = [] → ∀ w, C w → Q' .normal a w) ∧ ∀ i ∈ Region.ready md ops listed,
      (i ≠ m → lOp P ops C Ss i (wpAnyM P md ops C Ss Q' m fuel (listed.setIfInBounds i true)) a) ∧ (i = m → lLast P ops C Q' m a ∧ Region.ready md ops (listed.setIfInBounds m true) = [])
theorem wpOp_mono {i : Nat} {K K' : Act → World → Prop} {a : Act} {w : World} (h : ∀ a w, K a w → K' a w) (k : wpOp P ops Q' i K a w) : wpOp P ops Q' i K' a w := by
  unfold wpOp at *
  cases e : ops[i]? with
  | none => rw [e] at k; exact h _ _ k
  | some o =>
    rw [e] at k
    simp only at k ⊢
    split at k
    · rename_i hw
      rw [if_pos hw]
      rcases k with k | k
      · exact .inl (Oper.wp_mono h k)
      · exact .inr k
    · rename_i hw
      rw [if_neg hw]
      exact h _ _ k
theorem wpAnyM_sound : ∀ (fuel : Nat) (listed : Array Bool) (a : Act) (w : World), C w → wpAnyM P md ops C Ss Q' m fuel listed a → wpAny P md ops Q' fuel listed a w
  | 0, _, _, w, hw, h => ⟨h.1, h.2 w hw⟩
  | fuel + 1, listed, a, w, hw, h => by
    refine ⟨fun h0 => h.1 h0 w hw, fun i hi => ?_⟩
    by_cases him : i = m
    · subst him
      obtain ⟨h1, h2⟩ := (h.2 i hi).2 rfl
      refine wpOp_mono (fun a' w' k => ?_) (h1 w hw)
      cases fuel with
      | zero => exact ⟨h2, k⟩
      | succ n => exact ⟨fun _ => k, fun j hj => by rw [h2] at hj; cases hj⟩
    · exact wpOp_of_lOp hw (fun a' w' hw' h' => wpAnyM_sound fuel _ a' w' hw' h') (ready_is hi) ((h.2 i hi).1 him)
theorem wpAnyM_first {i : Nat} {oi : Oper} (hi : ops[i]? = some oi) (him : i ≠ m) (hlast : ∀ listed, m ∈ Region.ready md ops listed → listed.getD i true = true) (hsel : ∀ (j : Nat) (o : Oper) cs b, ops[j]? = some o → o.op ≠ .select cs b) :
    ∀ (fuel : Nat) (listed : Array Bool) (a : Act),
      (∀ j oj, ops[j]? = some oj → j ≠ i → listed.getD j true = false → (∀ e ∈ oj.after, Region.binds md e = true → e.on ≠ i) → oi.apart ops oj = true) →
      i ∈ Region.ready md ops listed → Lets P ops C (Ss i) oi a →
      (∀ v, valsOf (Ss i) (wantB ops oi a) v → wpAnyM P md ops C Ss Q' m fuel (listed.setIfInBounds i true) (a.put oi.dst v)) → wpAnyM P md ops C Ss Q' m (fuel + 1) listed a := by
  intro fuel
  induction fuel with
  | zero =>
    intro listed a _ hr hy H
    refine ⟨fun h => (by rw [h] at hr; cases hr), fun j hj => ⟨fun _ => ?_, fun hjm => ?_⟩⟩
    · by_cases hji : j = i
      · subst hji
        intro o ho
        rw [hi] at ho
        cases ho
        exact ⟨hy, H⟩
      · obtain ⟨v0, hv0⟩ := hy.some
        have h1 := ready_mono hj hji
        rw [(H v0 hv0).1] at h1
        cases h1
    · subst hjm
      have h1 := hlast _ hj
      rw [(mem_ready.1 hr).1] at h1
      cases h1
  | succ fuel ih =>
    intro listed a hfree hr hy H
    refine ⟨fun h => (by rw [h] at hr; cases hr), fun j hj => ⟨fun hjm => ?_, fun hjm => ?_⟩⟩
    · by_cases hji : j = i
      · subst hji
        intro o ho
        rw [hi] at ho
        cases ho
        exact ⟨hy, H⟩
      · obtain ⟨hjun, oj, hoj, hall⟩ := mem_ready.1 hj
        have hnot : ∀ e ∈ oj.after, Region.binds md e = true → e.on ≠ i := fun e he hb heq => by
          have h1 := hall e he hb
          have h0 := (mem_ready.1 hr).1
          rw [heq] at h1
          rcases Nat.lt_or_ge i listed.size with h' | h'
          · simp [h'] at h0 h1; rw [h0] at h1; cases h1
          · simp [Array.getElem?_eq_none h'] at h1
        have h2 := lOp_put (i := i) (Ss := Ss) hoj (hfree j oj hoj hji hjun hnot) (fun cs b => hsel i oi cs b hi) (fun cs b => hsel j oj cs b hoj) hy (fun v hv => ((H v hv).2 j (ready_mono hj hji)).1 hjm)
        have hfree' : ∀ k ok, ops[k]? = some ok → k ≠ i → (listed.setIfInBounds j true).getD k true = false → (∀ e ∈ ok.after, Region.binds md e = true → e.on ≠ i) → oi.apart ops ok = true := fun k ok hk hki hun hno => by
          refine hfree k ok hk hki ?_ hno
          by_cases hjk : j = k
          · subst hjk; exact hjun
          · rw [getD_set_ne true hjk] at hun; exact hun
        refine lOp.mono (fun a' h3 => ih (listed.setIfInBounds j true) a' hfree' (ready_mono hr (Ne.symm hji)) h3.1 fun v hv => ?_) h2
        rw [Array.setIfInBounds_comm _ _ hji]
        exact h3.2 v hv
    · subst hjm
      have h1 := hlast _ hj
      rw [(mem_ready.1 hr).1] at h1
      cases h1
def lexFromM (md : Region.Mode) (ops : Array Oper) (m : Nat) : Nat → Nat → Array Bool → Bool
  | 0, _, listed => (Region.ready md ops listed == [m]) && (Region.ready md ops (listed.setIfInBounds m true)).isEmpty
  | fuel + 1, k, listed => (Region.ready md ops listed).contains k && (k != m) && Region.free md ops listed k && lexFromM md ops m fuel (k + 1) (listed.setIfInBounds k true)
def lastB (md : Region.Mode) (ops : Array Oper) (m : Nat) : Bool :=
  match ops[m]? with
  | none => false
  | some o => (List.range ops.size).all fun j => j == m || o.after.any fun e => Region.binds md e && e.on == j
theorem lastB_spec (h : lastB md ops m = true) {i : Nat} (hi : i < ops.size) (him : i ≠ m) (listed : Array Bool) (hr : m ∈ Region.ready md ops listed) : listed.getD i true = true := by
  obtain ⟨_, o, ho, hall⟩ := mem_ready.1 hr
  unfold lastB at h
  rw [ho] at h
  simp only [List.all_eq_true, List.mem_range, Bool.or_eq_true, beq_iff_eq, Array.any_eq_true'] at h
  rcases h i hi with h | ⟨e, he, h⟩
  · exact absurd h him
  · rw [Bool.and_eq_true, beq_iff_eq] at h
    have h1 := hall e he h.1
    rw [h.2] at h1
    rcases Nat.lt_or_ge i listed.size with h' | h'
    · simp [h'] at h1 ⊢; exact h1
    · simp [Array.getElem?_eq_none h'] at h1
def wpLexM (P : Program) (ops : Array Oper) (C : World → Prop) (Q : Act → Prop) : List (Value → Prop) → List Oper → Act → Prop
  | S :: Sl, o :: rest, a => Lets P ops C S o a ∧ ∀ v, valsOf S (wantB ops o a) v → wpLexM P ops C Q Sl rest (a.put o.dst v)
  | [], _, a => Q a
  | _ :: _, [], _ => False
theorem wpAnyM_lex (hs : Region.noSelect ops = true) (hl : lastB md ops m = true) (Sl : List (Value → Prop)) : ∀ (l : List Oper) (k : Nat) (listed : Array Bool) (a : Act), (∀ j, l[j]? = ops[k + j]?) → (∀ j, j < Sl.length → Ss (k + j) = Sl.getD j fun _ => False) →
    lexFromM md ops m Sl.length k listed = true → wpLexM P ops C (lLast P ops C Q' m) Sl l a → wpAnyM P md ops C Ss Q' m (Sl.length + 1) listed a := by
  induction Sl with
  | nil =>
    intro l k listed a _ _ hB h
    simp only [List.length_nil, lexFromM, Bool.and_eq_true, beq_iff_eq, List.isEmpty_iff] at hB
    refine ⟨fun h0 => (by rw [h0] at hB; cases hB.1), fun i hi => ?_⟩
    rw [hB.1, List.mem_singleton] at hi
    exact ⟨fun h' => absurd hi h', fun _ => ⟨h, hB.2⟩⟩
  | cons S Sl ih =>
    intro l k listed a hl' hs' hB h
    cases l with
    | nil => exact h.elim
    | cons o rest =>
      have h0 : ops[k]? = some o := by simpa using (hl' 0).symm
      have hk : k < ops.size := by
        rcases Nat.lt_or_ge k ops.size with h' | h'
        · exact h'
        · rw [Array.getElem?_eq_none h'] at h0; cases h0
      simp only [List.length_cons, lexFromM, Bool.and_eq_true, bne_iff_ne] at hB
      obtain ⟨⟨⟨hr, hkm⟩, hf⟩, hB'⟩ := hB
      have e : Ss k = S := by simpa using hs' 0 (by simp)
      refine wpAnyM_first h0 hkm (lastB_spec hl hk hkm) (Region.noSelect_spec hs) (Sl.length + 1) listed a (Region.free_spec h0 hf) (by simpa using hr) (by rw [e]; exact h.1) fun v hv => ?_
      rw [e] at hv
      refine ih rest (k + 1) _ _ (fun j => by have := hl' (j + 1); simpa [Nat.add_assoc, Nat.add_comm 1 j] using this) (fun j hj => ?_) hB' (h.2 v hv)
      have h1 := hs' (j + 1) (by simpa using hj)
      rw [Nat.add_assoc, Nat.add_comm 1 j, h1]
      simp
theorem lexM_step {W : World} {B : Nat} {Q : Act → Prop} {S : Value → Prop} {Sl : List (Value → Prop)} {o : Oper} {rest : List Oper} {a : Act}
    (h : ∀ K : Act → Prop, (∀ a, wpLexM P ops (Below B W) Q Sl rest a → K a) →
      wantB ops o a = true ∧ (∃ v, S v) ∧ (∀ v, Below B W v → lUpon P (Below B W) S ((execOp a.eval o).run P v)) ∧ ∀ v, S v → K (a.put o.dst v)) :
    wpLexM P ops (Below B W) Q (S :: Sl) (o :: rest) a := by
  obtain ⟨h1, h2, h3, h4⟩ := h _ (fun _ h => h)
  refine ⟨fun _ => ⟨h2, h3⟩, ?_⟩
  intro v hv
  rw [h1] at hv
  exact h4 v hv
/-- the last one: what it does in any such world, what follows behind a variable. -/
theorem lexM_end {W : World} {B : Nat} {Q' : Exit → Act → World → Prop} {m : Nat} {o : Oper} {rest : List Oper} {a : Act} (ho : ops[m]? = some o) (hw : wantB ops o a = true) (h : ∀ v, Below B W v → o.wp P a v (fun a w => Q' .normal a w) Q') :
    wpLexM P ops (Below B W) (lLast P ops (Below B W) Q' m) [] rest a := by
  show lLast P ops (Below B W) Q' m a
  intro v hv
  unfold wpOp
  rw [ho]
  have e : Region.wanted o (yielded ops a.tmps) = wantB ops o a := rfl
  simp only [e, hw, if_true]
  exact .inl (h v hv)
theorem wp_region_lastB {id : Nat} {Q : Exit → Act → World → Prop} {a : Act} {w : World} {l : List Oper} (B : Nat) (Sl : List (Value → Prop)) (hm : P.follows .mixedOrders = true) (hn : Region.noSelect l.toArray = true) (hz : l.length = Sl.length + 1)
    (hl : lastB .any l.toArray Sl.length = true) (hB : lexFromM .any l.toArray Sl.length Sl.length 0 (Array.replicate l.toArray.size false) = true)
    (h : wpLexM P l.toArray (Below B w) (lLast P l.toArray (Below B w) Q Sl.length) Sl l a) : (Code.region id l.toArray true).wp P Q a w := by
  refine wp_region_any hm ?_
  have e : l.toArray.size = Sl.length + 1 := by simpa using hz
  rw [e] at hB ⊢
  exact wpAnyM_sound (C := Below B w) (Ss := fun k => Sl.getD k fun _ => False) (m := Sl.length) _ _ _ _ (below_drewN (Below.refl B w) 1) (wpAnyM_lex hn hl Sl l 0 _ a (by simp) (fun j _ => by rw [Nat.zero_add]) hB h)
end
end Go.Proofs.YtoacdaemhcbbhaaDoor
namespace Go.Proofs.YtoacdaemhcbbhaaDoor
open Go Go.RowKit

section
variable {P : Program} {ops : Array Oper} {md : Region.Mode} {C : World → Prop} {Ss : Nat → Value → Prop} {Q' : Exit → Act → World → Prop} {m : Nat}
def wpAnyT (P : Program) (md : Region.Mode) (ops : Array Oper) (C : World → Prop) (Ss : Nat → Value → Prop) (Q' : Exit → Act → World → Prop) (m : Nat) : Nat → Array Bool → Act → Prop
  | 0, listed, a => Region.ready md ops listed = [] ∧ ∀ w, C w → Q' .normal a w
  | fuel + 1, listed, a => (Region.ready md ops listed = [] → ∀ w, C w → Q' .normal a w) ∧ ∀ i ∈ Region.ready md ops listed,
      (i < m → lOp P ops C Ss i (wpAnyT P md ops C Ss Q' m fuel (listed.setIfInBounds i true)) a) ∧ (m ≤ i → ∀ w, C w → wpOp P ops Q' i (wpAny P md ops Q' fuel (listed.setIfInBounds i true)) a w)
theorem wpAnyT_sound : ∀ (fuel : Nat) (listed : Array Bool) (a : Act) (w : World), C w → wpAnyT P md ops C Ss Q' m fuel listed a → wpAny P md ops Q' fuel listed a w
  | 0, _, _, w, hw, h => ⟨h.1, h.2 w hw⟩
  | fuel + 1, listed, a, w, hw, h => by
    refine ⟨fun h0 => h.1 h0 w hw, fun i hi => ?_⟩
    by_cases him : m ≤ i
    · exact (h.2 i hi).2 him w hw
    · exact wpOp_of_lOp hw (fun a' w' hw' h' => wpAnyT_sound fuel _ a' w' hw' h') (ready_is hi) ((h.2 i hi).1 (by omega))
theorem wpAnyT_first {i : Nat} {oi : Oper} (hi : ops[i]? = some oi) (hlast : ∀ j listed, m ≤ j → j ∈ Region.ready md ops listed → listed.getD i true = true) (hsel : ∀ (j : Nat) (o : Oper) cs b, ops[j]? = some o → o.op ≠ .select cs b) :
    ∀ (fuel : Nat) (listed : Array Bool) (a : Act),
      (∀ j oj, ops[j]? = some oj → j ≠ i → listed.getD j true = false → (∀ e ∈ oj.after, Region.binds md e = true → e.on ≠ i) → oi.apart ops oj = true) →
      i ∈ Region.ready md ops listed → Lets P ops C (Ss i) oi a →
      (∀ v, valsOf (Ss i) (wantB ops oi a) v → wpAnyT P md ops C Ss Q' m fuel (listed.setIfInBounds i true) (a.put oi.dst v)) → wpAnyT P md ops C Ss Q' m (fuel + 1) listed a := by
  intro fuel
  induction fuel with
  | zero =>
    intro listed a _ hr hy H
    refine ⟨fun h => (by rw [h] at hr; cases hr), fun j hj => ⟨fun _ => ?_, fun hjm => ?_⟩⟩
    · by_cases hji : j = i
      · subst hji
        intro o ho
        rw [hi] at ho
        cases ho
        exact ⟨hy, H⟩
      · obtain ⟨v0, hv0⟩ := hy.some
        have h1 := ready_mono hj hji
        rw [(H v0 hv0).1] at h1
        cases h1
    · have h1 := hlast j _ hjm hj
      rw [(mem_ready.1 hr).1] at h1
      cases h1
  | succ fuel ih =>
    intro listed a hfree hr hy H
    refine ⟨fun h => (by rw [h] at hr; cases hr), fun j hj => ⟨fun hjm => ?_, fun hjm => ?_⟩⟩
    · by_cases hji : j = i
      · subst hji
        intro o ho
        rw [hi] at ho
        cases ho
        exact ⟨hy, H⟩
      · obtain ⟨hjun, oj, hoj, hall⟩ := mem_ready.1 hj
        have hnot : ∀ e ∈ oj.after, Region.binds md e = true → e.on ≠ i := fun e he hb heq => by
          have h1 := hall e he hb
          have h0 := (mem_ready.1 hr).1
          rw [heq] at h1
          rcases Nat.lt_or_ge i listed.size with h' | h'
          · simp [h'] at h0 h1; rw [h0] at h1; cases h1
          · simp [Array.getElem?_eq_none h'] at h1
        have h2 := lOp_put (i := i) (Ss := Ss) hoj (hfree j oj hoj hji hjun hnot) (fun cs b => hsel i oi cs b hi) (fun cs b => hsel j oj cs b hoj) hy (fun v hv => ((H v hv).2 j (ready_mono hj hji)).1 hjm)
        have hfree' : ∀ k ok, ops[k]? = some ok → k ≠ i → (listed.setIfInBounds j true).getD k true = false → (∀ e ∈ ok.after, Region.binds md e = true → e.on ≠ i) → oi.apart ops ok = true := fun k ok hk hki hun hno => by
          refine hfree k ok hk hki ?_ hno
          by_cases hjk : j = k
          · subst hjk; exact hjun
          · rw [getD_set_ne true hjk] at hun; exact hun
        refine lOp.mono (fun a' h3 => ih (listed.setIfInBounds j true) a' hfree' (ready_mono hr (Ne.symm hji)) h3.1 fun v hv => ?_) h2
        rw [Array.setIfInBounds_comm _ _ hji]
        exact h3.2 v hv
    · have h1 := hlast j _ hjm hj
      rw [(mem_ready.1 hr).1] at h1
      cases h1
def lexFromT (md : Region.Mode) (ops : Array Oper) (m : Nat) (L : Array Bool) : Nat → Nat → Array Bool → Bool
  | 0, _, listed => (listed == L) && (Region.ready md ops listed).all fun i => decide (m ≤ i)
  | fuel + 1, k, listed => (Region.ready md ops listed).contains k && decide (k < m) && Region.free md ops listed k && lexFromT md ops m L fuel (k + 1) (listed.setIfInBounds k true)
def tailB (md : Region.Mode) (ops : Array Oper) (m : Nat) : Bool :=
  (List.range ops.size).all fun t => decide (t < m) || match ops[t]? with
  | none => true
  | some o => (List.range m).all fun j => o.after.any fun e => Region.binds md e && e.on == j
theorem tailB_spec (h : tailB md ops m = true) {i : Nat} (hi : i < m) (t : Nat) (listed : Array Bool) (ht : m ≤ t) (hr : t ∈ Region.ready md ops listed) : listed.getD i true = true := by
  obtain ⟨_, o, ho, hall⟩ := mem_ready.1 hr
  have hts : t < ops.size := by
    rcases Nat.lt_or_ge t ops.size with h' | h'
    · exact h'
    · rw [Array.getElem?_eq_none h'] at ho; cases ho
  unfold tailB at h
  rw [List.all_eq_true] at h
  have h := h t (List.mem_range.2 hts)
  rw [ho] at h
  simp only [Bool.or_eq_true, decide_eq_true_eq, List.all_eq_true, List.mem_range, Array.any_eq_true'] at h
  rcases h with h | h
  · omega
  · obtain ⟨e, he, h⟩ := h i hi
    rw [Bool.and_eq_true, beq_iff_eq] at h
    have h1 := hall e he h.1
    rw [h.2] at h1
    rcases Nat.lt_or_ge i listed.size with h' | h'
    · simp [h'] at h1 ⊢; exact h1
    · simp [Array.getElem?_eq_none h'] at h1
theorem wpAnyT_lex (hs : Region.noSelect ops = true) (hl : tailB md ops m = true) (r : Nat) (L : Array Bool) (Sl : List (Value → Prop)) : ∀ (l : List Oper) (k : Nat) (listed : Array Bool) (a : Act), (∀ j, l[j]? = ops[k + j]?) → (∀ j, j < Sl.length → Ss (k + j) = Sl.getD j fun _ => False) →
    lexFromT md ops m L Sl.length k listed = true → wpLexM P ops C (fun a => ∀ w, C w → wpAny P md ops Q' (r + 1) L a w) Sl l a → wpAnyT P md ops C Ss Q' m (Sl.length + (r + 1)) listed a := by
  induction Sl with
  | nil =>
    intro l k listed a _ _ hB h
    simp only [List.length_nil, lexFromT, Bool.and_eq_true, beq_iff_eq, List.all_eq_true, decide_eq_true_eq] at hB
    obtain ⟨rfl, hB⟩ := hB
    rw [List.length_nil, Nat.zero_add]
    exact ⟨fun h0 w hw => (h w hw).1 h0, fun i hi => ⟨fun h' => absurd (hB i hi) (by omega), fun _ w hw => (h w hw).2 i hi⟩⟩
  | cons S Sl ih =>
    intro l k listed a hl' hs' hB h
    cases l with
    | nil => exact h.elim
    | cons o rest =>
      have h0 : ops[k]? = some o := by simpa using (hl' 0).symm
      simp only [List.length_cons, lexFromT, Bool.and_eq_true, decide_eq_true_eq] at hB
      obtain ⟨⟨⟨hr, hkm⟩, hf⟩, hB'⟩ := hB
      have e : Ss k = S := by simpa using hs' 0 (by simp)
      have en : (S :: Sl).length + (r + 1) = (Sl.length + (r + 1)) + 1 := by simp; omega
      rw [en]
      refine wpAnyT_first h0 (fun t li ht htr => tailB_spec hl hkm t li ht htr) (Region.noSelect_spec hs) (Sl.length + (r + 1)) listed a (Region.free_spec h0 hf) (by simpa using hr) (by rw [e]; exact h.1) fun v hv => ?_
      rw [e] at hv
      refine ih rest (k + 1) _ _ (fun j => by have := hl' (j + 1); simpa [Nat.add_assoc, Nat.add_comm 1 j] using this) (fun j hj => ?_) hB' (h.2 v hv)
      have h1 := hs' (j + 1) (by simpa using hj)
      rw [Nat.add_assoc, Nat.add_comm 1 j, h1]
      simp
theorem wpAny_step {r i : Nat} {L : Array Bool} {a : Act} {v : World} {o : Oper} (hr : Region.ready md ops L = [i]) (ho : ops[i]? = some o) (hw : wantB ops o a = true)
    (h : ∀ K : Act → World → Prop, (∀ a w, wpAny P md ops Q' r (L.setIfInBounds i true) a w → K a w) → o.wp P a v K Q') : wpAny P md ops Q' (r + 1) L a v := by
  refine ⟨fun h0 => (by rw [hr] at h0; cases h0), fun j hj => ?_⟩
  rw [hr, List.mem_singleton] at hj
  subst hj
  unfold wpOp
  rw [ho]
  have e : Region.wanted o (yielded ops a.tmps) = wantB ops o a := rfl
  simp only [e, hw, if_true]
  exact .inl (h _ fun _ _ h => h)
theorem wpAny_end {L : Array Bool} {a : Act} {v : World} (hr : Region.ready md ops L = []) (h : Q' .normal a v) : wpAny P md ops Q' 0 L a v := ⟨hr, h⟩
theorem lexT_end {Q : Act → Prop} {rest : List Oper} {a : Act} (h : Q a) : wpLexM P ops C Q [] rest a := h
theorem wp_region_tailB {id : Nat} {Q : Exit → Act → World → Prop} {a : Act} {w : World} {l : List Oper} (B r : Nat) (L : Array Bool) (Sl : List (Value → Prop)) (hm : P.follows .mixedOrders = true) (hn : Region.noSelect l.toArray = true) (hz : l.length = Sl.length + (r + 1))
    (hl : tailB .any l.toArray Sl.length = true) (hB : lexFromT .any l.toArray Sl.length L Sl.length 0 (Array.replicate l.toArray.size false) = true)
    (h : wpLexM P l.toArray (Below B w) (fun a => ∀ v, Below B w v → wpAny P .any l.toArray Q (r + 1) L a v) Sl l a) : (Code.region id l.toArray true).wp P Q a w := by
  refine wp_region_any hm ?_
  have e : l.toArray.size = Sl.length + (r + 1) := by simpa using hz
  rw [e] at hB ⊢
  exact wpAnyT_sound (C := Below B w) (Ss := fun k => Sl.getD k fun _ => False) (m := Sl.length) _ _ _ _ (below_drewN (Below.refl B w) 1) (wpAnyT_lex hn hl r L Sl l 0 _ a (by simp) (fun j _ => by rw [Nat.zero_add]) hB h)
end
end Go.Proofs.YtoacdaemhcbbhaaDoor
namespace Go.Proofs.YtoacdaemhcbbhaaDoor
open Go Go.RowKit

section
variable {P : Program} {ops : Array Oper} {md : Region.Mode} {Q' : Exit → Act → World → Prop} {m : Nat} {W : World}

/-- what an operation leaves: one of a set; or a pointer to a new block, which holds that. -/
inductive Kd where
  | lets (S : Value → Prop)
  | new (o : Obj)
/-- blocks that are held. -/
def Hd : Type := Nat → Option Obj
def Hd.put (β : Hd) (b : Nat) (o : Obj) : Hd := fun n => if n = b then some o else β n
def hd0 : Hd := fun _ => none
structure CHd (W : World) (β : Hd) (w : World) : Prop where
  low : Below W.heap.size W w
  held : ∀ b o, β b = some o → w.heap[b]? = some o
def ptr (b : Nat) : Value := .pointer (some ⟨b, 0, none⟩)
structure Free (W : World) (β : Hd) (b : Nat) : Prop where
  ge : W.heap.size ≤ b
  no : β b = none
def Hd.fin (β : Hd) : Prop := ∃ N, ∀ b, N ≤ b → β b = none
theorem fin0 : hd0.fin := ⟨0, fun _ _ => rfl⟩
theorem Hd.fin.put {β : Hd} (h : β.fin) (b : Nat) (o : Obj) : (β.put b o).fin := by
  obtain ⟨N, hN⟩ := h
  refine ⟨N + b + 1, fun c hc => ?_⟩
  unfold Hd.put
  rw [if_neg (by omega)]
  exact hN c (by omega)
theorem Hd.fin.some {β : Hd} (h : β.fin) (W : World) : ∃ b, Free W β b := by
  obtain ⟨N, hN⟩ := h
  exact ⟨N + W.heap.size, by omega, hN _ (by omega)⟩
theorem put_swap {β : Hd} {b c : Nat} {o p : Obj} (h : b ≠ c) : (β.put b o).put c p = (β.put c p).put b o := by
  funext n
  unfold Hd.put
  by_cases h1 : n = c
  · rw [if_pos h1, if_neg (by omega), if_pos h1]
  · rw [if_neg h1]
    by_cases h2 : n = b
    · rw [if_pos h2, if_pos h2]
    · rw [if_neg h2, if_neg h2, if_neg h1]
theorem Free.of_put {W : World} {β : Hd} {b c : Nat} {o : Obj} (h : Free W (β.put c o) b) : Free W β b ∧ b ≠ c := by
  obtain ⟨h1, h2⟩ := h
  unfold Hd.put at h2
  by_cases e : b = c
  · rw [if_pos e] at h2
    cases h2
  · rw [if_neg e] at h2
    exact ⟨⟨h1, h2⟩, e⟩
theorem Free.to_put {W : World} {β : Hd} {b c : Nat} {o : Obj} (h : Free W β b) (e : b ≠ c) : Free W (β.put c o) b := ⟨h.ge, by unfold Hd.put; rw [if_neg e]; exact h.no⟩

def mUpon (P : Program) (S : Value → Prop) (w : World) : Result Next → Prop
  | .ok (.value u) w' => Below w.heap.size w w' ∧ S u
  | .ok .skip w' => Below w.heap.size w w' ∧ S undef
  | .ok (.enter f args) w' => Calls P f args w' fun e w'' => ∃ v, e = .returned v ∧ S v ∧ Below w.heap.size w w''
  | _ => False
def LetsM (P : Program) (ops : Array Oper) (W : World) (S : Value → Prop) (o : Oper) (a : Act) : Prop := wantB ops o a = true → (∃ v, S v) ∧ ∀ w, Below W.heap.size W w → mUpon P S w ((execOp a.eval o).run P w)
def IsNew (P : Program) (ops : Array Oper) (obj : Obj) (o : Oper) (a : Act) : Prop := wantB ops o a = true ∧ ∀ w, (execOp a.eval o).run P w = .ok (.value (ptr w.heap.size)) (w.alloc obj)
def kFst (P : Program) (ops : Array Oper) (W : World) (k : Kd) (β : Hd) (o : Oper) (a : Act) (K : Hd → Act → Prop) : Prop :=
  match k with
  | .lets S => LetsM P ops W S o a ∧ ∀ v, valsOf S (wantB ops o a) v → K β (a.put o.dst v)
  | .new obj => IsNew P ops obj o a ∧ ∀ b, Free W β b → K (β.put b obj) (a.put o.dst (ptr b))
def wpAnyK (P : Program) (md : Region.Mode) (ops : Array Oper) (W : World) (Ks : Nat → Kd) (Q' : Exit → Act → World → Prop) (m : Nat) : Nat → Array Bool → Hd → Act → Prop
  | 0, listed, β, a => Region.ready md ops listed = [] ∧ ∀ w, CHd W β w → Q' .normal a w
  | fuel + 1, listed, β, a => (Region.ready md ops listed = [] → ∀ w, CHd W β w → Q' .normal a w) ∧ ∀ i ∈ Region.ready md ops listed,
      (i < m → ∀ o, ops[i]? = some o → kFst P ops W (Ks i) β o a (wpAnyK P md ops W Ks Q' m fuel (listed.setIfInBounds i true))) ∧ (m ≤ i → ∀ w, CHd W β w → wpOp P ops Q' i (wpAny P md ops Q' fuel (listed.setIfInBounds i true)) a w)
theorem lets_of_M {S : Value → Prop} {o : Oper} {a : Act} {β : Hd} (h : LetsM P ops W S o a) : Lets P ops (CHd W β) S o a := by
  intro hw
  obtain ⟨h1, h2⟩ := h hw
  refine ⟨h1, fun w hc => ?_⟩
  have h3 := h2 w hc.low
  have up : ∀ w', Below w.heap.size w w' → CHd W β w' := fun w' k => ⟨hc.low.trans (k.mono hc.low.size), fun b o hb => (k.block _ (Array.getElem?_eq_some_iff.1 (hc.held b o hb)).1).trans (hc.held b o hb)⟩
  unfold lAt
  generalize (execOp a.eval o).run P w = r at *
  cases r with
  | ok n w' =>
    cases n <;> simp only [mUpon] at h3 <;> simp only [lUpon]
    case value u => exact ⟨up _ h3.1, h3.2⟩
    case skip => exact ⟨up _ h3.1, h3.2⟩
    case enter f args =>
      refine h3.mono ?_
      rintro e w'' ⟨v, rfl, hs, hk⟩
      exact ⟨v, rfl, hs, up _ hk⟩
  | halt x w' => simp only [mUpon] at h3
theorem wpAnyK_sound {Ks : Nat → Kd} : ∀ (fuel : Nat) (listed : Array Bool) (β : Hd) (a : Act) (w : World), CHd W β w → wpAnyK P md ops W Ks Q' m fuel listed β a → wpAny P md ops Q' fuel listed a w
  | 0, _, _, _, w, hw, h => ⟨h.1, h.2 w hw⟩
  | fuel + 1, listed, β, a, w, hw, h => by
    refine ⟨fun h0 => h.1 h0 w hw, fun i hi => ?_⟩
    by_cases him : m ≤ i
    · exact (h.2 i hi).2 him w hw
    · obtain ⟨o, ho⟩ := ready_is hi
      have h1 := (h.2 i hi).1 (by omega) o ho
      cases hk : Ks i with
      | lets S =>
        rw [hk] at h1
        refine wpOp_of_lOp (C := CHd W β) (Ss := fun _ => S) (K := wpAnyK P md ops W Ks Q' m fuel (listed.setIfInBounds i true) β) hw (fun a' w' hw' h' => wpAnyK_sound fuel _ β a' w' hw' h') ⟨o, ho⟩ ?_
        intro o' ho'
        rw [ho] at ho'
        cases ho'
        exact ⟨lets_of_M h1.1, h1.2⟩
      | new obj =>
        rw [hk] at h1
        obtain ⟨⟨hwt, hrun⟩, h2⟩ := h1
        have hno : β w.heap.size = none := by
          cases e : β w.heap.size with
          | none => rfl
          | some o' =>
            have := (Array.getElem?_eq_some_iff.1 (hw.held _ _ e)).1
            omega
        unfold wpOp
        rw [ho]
        have e : Region.wanted o (yielded ops a.tmps) = wantB ops o a := rfl
        simp only [e, hwt, if_true]
        refine .inl ?_
        unfold Oper.wp
        rw [hrun]
        simp only [Oper.upon]
        refine wpAnyK_sound fuel _ _ _ _ ⟨hw.low.alloc hw.low.size obj, fun b o' hb => ?_⟩ (h2 w.heap.size ⟨hw.low.size, hno⟩)
        unfold Hd.put at hb
        by_cases eb : b = w.heap.size
        · rw [if_pos eb] at hb
          cases hb
          rw [eb]
          show (w.heap.push obj)[w.heap.size]? = _
          exact Array.getElem?_push_size
        · rw [if_neg eb] at hb
          have h3 := hw.held b o' hb
          have h4 := (Array.getElem?_eq_some_iff.1 h3).1
          rw [← h3]
          show (w.heap.push obj)[b]? = _
          rw [Array.getElem?_push, if_neg (by omega)]
theorem LetsM.of_put {S : Value → Prop} {o : Oper} {a a' : Act} (he : execOp a'.eval o = execOp a.eval o) (hw : wantB ops o a' = wantB ops o a) (h : LetsM P ops W S o a) : LetsM P ops W S o a' := by
  unfold LetsM at *
  rw [he, hw]
  exact h
theorem IsNew.of_put {obj : Obj} {o : Oper} {a a' : Act} (he : execOp a'.eval o = execOp a.eval o) (hw : wantB ops o a' = wantB ops o a) (h : IsNew P ops obj o a) : IsNew P ops obj o a' := by
  unfold IsNew at *
  rw [he, hw]
  exact h
theorem LetsM.some {S : Value → Prop} {o : Oper} {a : Act} (h : LetsM P ops W S o a) : ∃ v, valsOf S (wantB ops o a) v := by
  unfold valsOf
  cases e : wantB ops o a with
  | false => exact ⟨undef, rfl⟩
  | true => exact (h e).1
/-- two that are apart may change places. -/
theorem kFst_swap {ki kj : Kd} {oi oj : Oper} {β : Hd} {a : Act} {K : Hd → Act → Prop} (hap : oi.apart ops oj = true) (hsi : ∀ cs b, oi.op ≠ .select cs b) (hsj : ∀ cs b, oj.op ≠ .select cs b) (hf : β.fin)
    (h : kFst P ops W ki β oi a fun β' a' => kFst P ops W kj β' oj a' K) : kFst P ops W kj β oj a fun β' a' => kFst P ops W ki β' oi a' K := by
  obtain ⟨h1, h2, h3⟩ := Oper.apart_spec hap
  cases ki with
  | lets S =>
    obtain ⟨hy, h⟩ := h
    obtain ⟨v0, hv0⟩ := hy.some
    cases kj with
    | lets T =>
      refine ⟨LetsM.of_put (execOp_put oj hsj a oi.dst v0 h1).symm (want_put a v0 hap).1.symm (h v0 hv0).1, fun u hu => ⟨LetsM.of_put (execOp_put oi hsi a oj.dst u h3) (want_put a u hap).2 hy, fun v hv => ?_⟩⟩
      rw [(want_put a u hap).2] at hv
      rw [← Act.put_comm a v u h2]
      refine (h v hv).2 u ?_
      rw [(want_put a v hap).1]
      exact hu
    | new obj =>
      refine ⟨IsNew.of_put (execOp_put oj hsj a oi.dst v0 h1).symm (want_put a v0 hap).1.symm (h v0 hv0).1, fun b hb => ⟨LetsM.of_put (execOp_put oi hsi a oj.dst (ptr b) h3) (want_put a (ptr b) hap).2 hy, fun v hv => ?_⟩⟩
      rw [(want_put a (ptr b) hap).2] at hv
      rw [← Act.put_comm a v (ptr b) h2]
      exact (h v hv).2 b hb
  | new obj =>
    obtain ⟨hy, h⟩ := h
    obtain ⟨b0, hb0⟩ := hf.some W
    cases kj with
    | lets T =>
      refine ⟨LetsM.of_put (execOp_put oj hsj a oi.dst (ptr b0) h1).symm (want_put a (ptr b0) hap).1.symm (h b0 hb0).1, fun u hu => ⟨IsNew.of_put (execOp_put oi hsi a oj.dst u h3) (want_put a u hap).2 hy, fun b hb => ?_⟩⟩
      rw [← Act.put_comm a (ptr b) u h2]
      refine (h b hb).2 u ?_
      rw [(want_put a (ptr b) hap).1]
      exact hu
    | new obj' =>
      refine ⟨IsNew.of_put (execOp_put oj hsj a oi.dst (ptr b0) h1).symm (want_put a (ptr b0) hap).1.symm (h b0 hb0).1, fun c hc => ⟨IsNew.of_put (execOp_put oi hsi a oj.dst (ptr c) h3) (want_put a (ptr c) hap).2 hy, fun b hb => ?_⟩⟩
      obtain ⟨hb', hne⟩ := hb.of_put
      rw [← Act.put_comm a (ptr b) (ptr c) h2, ← put_swap hne]
      exact (h b hb').2 c (hc.to_put (Ne.symm hne))
theorem kFst_mono {k : Kd} {o : Oper} {β : Hd} {a : Act} {K K' : Hd → Act → Prop} (hf : β.fin) (h : ∀ β' a', β'.fin → K β' a' → K' β' a') (hk : kFst P ops W k β o a K) : kFst P ops W k β o a K' := by
  cases k with
  | lets S => exact ⟨hk.1, fun v hv => h _ _ hf (hk.2 v hv)⟩
  | new obj => exact ⟨hk.1, fun b hb => h _ _ (hf.put b obj) (hk.2 b hb)⟩
theorem kFst_some {k : Kd} {o : Oper} {β : Hd} {a : Act} {K : Hd → Act → Prop} (hf : β.fin) (hk : kFst P ops W k β o a K) : ∃ β' a', K β' a' := by
  cases k with
  | lets S =>
    obtain ⟨v, hv⟩ := hk.1.some
    exact ⟨_, _, hk.2 v hv⟩
  | new obj =>
    obtain ⟨b, hb⟩ := hf.some W
    exact ⟨_, _, hk.2 b hb⟩
/-- what has been done is closed under what it waits for. -/
def Clo (md : Region.Mode) (ops : Array Oper) (listed : Array Bool) : Prop := ∀ k ok, ops[k]? = some ok → listed.getD k false = true → ∀ e ∈ ok.after, Region.binds md e = true → listed.getD e.on false = true
theorem Clo.put {listed : Array Bool} {j : Nat} (h : Clo md ops listed) (hj : j ∈ Region.ready md ops listed) : Clo md ops (listed.setIfInBounds j true) := by
  intro k ok hk hl e he hb
  by_cases hjk : j = k
  · subst hjk
    obtain ⟨_, o, ho, hall⟩ := mem_ready.1 hj
    rw [ho] at hk
    cases hk
    exact getD_set_true (hall e he hb)
  · rw [getD_set_ne false hjk] at hl
    exact getD_set_true (h k ok hk hl e he hb)
def tailB2 (md : Region.Mode) (ops : Array Oper) (m : Nat) : Bool :=
  (List.range ops.size).all fun t => decide (t < m) || match ops[t]? with
  | none => true
  | some o => (List.range m).all fun j => o.after.any fun e => Region.binds md e && (e.on == j || match ops[e.on]? with
    | none => false
    | some ok => ok.after.any fun e' => Region.binds md e' && e'.on == j)
theorem getD_true {listed : Array Bool} {i : Nat} (h : listed.getD i false = true) : listed.getD i true = true := by
  rcases Nat.lt_or_ge i listed.size with h' | h'
  · simp [h'] at h ⊢; exact h
  · simp [Array.getElem?_eq_none h'] at h
theorem tailB2_spec (h : tailB2 md ops m = true) {i : Nat} (hi : i < m) (t : Nat) (listed : Array Bool) (hc : Clo md ops listed) (ht : m ≤ t) (hr : t ∈ Region.ready md ops listed) : listed.getD i true = true := by
  obtain ⟨_, o, ho, hall⟩ := mem_ready.1 hr
  have hts : t < ops.size := (Array.getElem?_eq_some_iff.1 ho).1
  unfold tailB2 at h
  rw [List.all_eq_true] at h
  have h := h t (List.mem_range.2 hts)
  rw [ho] at h
  simp only [Bool.or_eq_true, decide_eq_true_eq, List.all_eq_true, List.mem_range, Array.any_eq_true'] at h
  rcases h with h | h
  · omega
  · obtain ⟨e, he, h⟩ := h i hi
    rw [Bool.and_eq_true, Bool.or_eq_true, beq_iff_eq] at h
    obtain ⟨hb, h⟩ := h
    have h1 := hall e he hb
    rcases h with h | h
    · rw [h] at h1
      exact getD_true h1
    · cases hk : ops[e.on]? with
      | none => rw [hk] at h; cases h
      | some ok =>
        rw [hk] at h
        simp only [Array.any_eq_true'] at h
        obtain ⟨e', he', h⟩ := h
        rw [Bool.and_eq_true, beq_iff_eq] at h
        have h2 := hc _ ok hk h1 e' he' h.1
        rw [h.2] at h2
        exact getD_true h2
theorem wpAnyK_first {Ks : Nat → Kd} {i : Nat} {oi : Oper} (hi : ops[i]? = some oi) (hlast : ∀ j listed, Clo md ops listed → m ≤ j → j ∈ Region.ready md ops listed → listed.getD i true = true) (hsel : ∀ (j : Nat) (o : Oper) cs b, ops[j]? = some o → o.op ≠ .select cs b) :
    ∀ (fuel : Nat) (listed : Array Bool) (β : Hd) (a : Act), β.fin → Clo md ops listed →
      (∀ j oj, ops[j]? = some oj → j ≠ i → listed.getD j true = false → (∀ e ∈ oj.after, Region.binds md e = true → e.on ≠ i) → oi.apart ops oj = true) →
      i ∈ Region.ready md ops listed → kFst P ops W (Ks i) β oi a (wpAnyK P md ops W Ks Q' m fuel (listed.setIfInBounds i true)) → wpAnyK P md ops W Ks Q' m (fuel + 1) listed β a := by
  intro fuel
  induction fuel with
  | zero =>
    intro listed β a hf hc _ hr H
    refine ⟨fun h => (by rw [h] at hr; cases hr), fun j hj => ⟨fun _ => ?_, fun hjm => ?_⟩⟩
    · by_cases hji : j = i
      · subst hji
        intro o ho
        rw [hi] at ho
        cases ho
        exact H
      · obtain ⟨β', a', hK⟩ := kFst_some hf H
        have h1 := ready_mono hj hji
        rw [hK.1] at h1
        cases h1
    · have h1 := hlast j _ hc hjm hj
      rw [(mem_ready.1 hr).1] at h1
      cases h1
  | succ fuel ih =>
    intro listed β a hf hc hfree hr H
    refine ⟨fun h => (by rw [h] at hr; cases hr), fun j hj => ⟨fun hjm => ?_, fun hjm => ?_⟩⟩
    · by_cases hji : j = i
      · subst hji
        intro o ho
        rw [hi] at ho
        cases ho
        exact H
      · obtain ⟨hjun, oj, hoj, hall⟩ := mem_ready.1 hj
        have hnot : ∀ e ∈ oj.after, Region.binds md e = true → e.on ≠ i := fun e he hb heq => by
          have h1 := hall e he hb
          have h0 := (mem_ready.1 hr).1
          rw [heq] at h1
          rcases Nat.lt_or_ge i listed.size with h' | h'
          · simp [h'] at h0 h1; rw [h0] at h1; cases h1
          · simp [Array.getElem?_eq_none h'] at h1
        have h2 := kFst_swap (hfree j oj hoj hji hjun hnot) (fun cs b => hsel i oi cs b hi) (fun cs b => hsel j oj cs b hoj) hf (kFst_mono hf (fun β' a' _ hK => (hK.2 j (ready_mono hj hji)).1 hjm oj hoj) H)
        have hfree' : ∀ k ok, ops[k]? = some ok → k ≠ i → (listed.setIfInBounds j true).getD k true = false → (∀ e ∈ ok.after, Region.binds md e = true → e.on ≠ i) → oi.apart ops ok = true := fun k ok hk hki hun hno => by
          refine hfree k ok hk hki ?_ hno
          by_cases hjk : j = k
          · subst hjk; exact hjun
          · rw [getD_set_ne true hjk] at hun; exact hun
        intro o ho
        rw [hoj] at ho
        cases ho
        refine kFst_mono hf (fun β' a' hf' h3 => ih (listed.setIfInBounds j true) β' a' hf' (hc.put hj) hfree' (ready_mono hr (Ne.symm hji)) ?_) h2
        rw [Array.setIfInBounds_comm _ _ hji]
        exact h3
    · have h1 := hlast j _ hc hjm hj
      rw [(mem_ready.1 hr).1] at h1
      cases h1
def wpLexK (P : Program) (ops : Array Oper) (W : World) (Q : Hd → Act → Prop) : List Kd → List Oper → Hd → Act → Prop
  | k :: Kl, o :: rest, β, a => kFst P ops W k β o a (wpLexK P ops W Q Kl rest)
  | [], _, β, a => Q β a
  | _ :: _, [], _, _ => False
theorem wpAnyK_lex {Ks : Nat → Kd} (hs : Region.noSelect ops = true) (hl : tailB2 md ops m = true) (r : Nat) (L : Array Bool) (Kl : List Kd) : ∀ (l : List Oper) (k : Nat) (listed : Array Bool) (β : Hd) (a : Act), β.fin → Clo md ops listed → (∀ j, l[j]? = ops[k + j]?) → (∀ j, j < Kl.length → Ks (k + j) = Kl.getD j (.lets fun _ => False)) →
    lexFromT md ops m L Kl.length k listed = true → wpLexK P ops W (fun β a => ∀ w, CHd W β w → wpAny P md ops Q' (r + 1) L a w) Kl l β a → wpAnyK P md ops W Ks Q' m (Kl.length + (r + 1)) listed β a := by
  induction Kl with
  | nil =>
    intro l k listed β a _ _ _ _ hB h
    simp only [List.length_nil, lexFromT, Bool.and_eq_true, beq_iff_eq, List.all_eq_true, decide_eq_true_eq] at hB
    obtain ⟨rfl, hB⟩ := hB
    rw [List.length_nil, Nat.zero_add]
    exact ⟨fun h0 w hw => (h w hw).1 h0, fun i hi => ⟨fun h' => absurd (hB i hi) (by omega), fun _ w hw => (h w hw).2 i hi⟩⟩
  | cons S Kl ih =>
    intro l k listed β a hf hc hl' hs' hB h
    cases l with
    | nil => exact h.elim
    | cons o rest =>
      have h0 : ops[k]? = some o := by simpa using (hl' 0).symm
      simp only [List.length_cons, lexFromT, Bool.and_eq_true, decide_eq_true_eq] at hB
      obtain ⟨⟨⟨hr, hkm⟩, hfr⟩, hB'⟩ := hB
      have e : Ks k = S := by simpa using hs' 0 (by simp)
      have en : (S :: Kl).length + (r + 1) = (Kl.length + (r + 1)) + 1 := by simp; omega
      rw [en]
      refine wpAnyK_first h0 (fun t li hci ht htr => tailB2_spec hl hkm t li hci ht htr) (Region.noSelect_spec hs) (Kl.length + (r + 1)) listed β a hf hc (Region.free_spec h0 hfr) (by simpa using hr) ?_
      rw [e]
      refine kFst_mono hf (fun β' a' hf' hK => ?_) h
      refine ih rest (k + 1) _ β' a' hf' (hc.put (by simpa using hr)) (fun j => by have := hl' (j + 1); simpa [Nat.add_assoc, Nat.add_comm 1 j] using this) (fun j hj => ?_) hB' hK
      have h1 := hs' (j + 1) (by simpa using hj)
      rw [Nat.add_assoc, Nat.add_comm 1 j, h1]
      simp
theorem wp_region_new {id : Nat} {Q : Exit → Act → World → Prop} {a : Act} {w : World} {l : List Oper} (r : Nat) (L : Array Bool) (Kl : List Kd) (hm : P.follows .mixedOrders = true) (hn : Region.noSelect l.toArray = true) (hz : l.length = Kl.length + (r + 1))
    (hl : tailB2 .any l.toArray Kl.length = true) (hB : lexFromT .any l.toArray Kl.length L Kl.length 0 (Array.replicate l.toArray.size false) = true)
    (h : wpLexK P l.toArray w (fun β a => ∀ v, CHd w β v → wpAny P .any l.toArray Q (r + 1) L a v) Kl l hd0 a) : (Code.region id l.toArray true).wp P Q a w := by
  refine wp_region_any hm ?_
  have e : l.toArray.size = Kl.length + (r + 1) := by simpa using hz
  rw [e] at hB ⊢
  exact wpAnyK_sound (Ks := fun k => Kl.getD k (.lets fun _ => False)) (m := Kl.length) _ _ _ _ _ ⟨below_drewN (Below.refl _ w) 1, fun _ _ h => (by cases h)⟩ (wpAnyK_lex hn hl r L Kl l 0 _ hd0 a fin0 (fun k ok _ h => absurd h (by simp [Array.getElem?_replicate]; split <;> rfl)) (by simp) (fun j _ => by rw [Nat.zero_add]) hB h)
theorem lexK_step {Q : Hd → Act → Prop} {S : Value → Prop} {Kl : List Kd} {o : Oper} {rest : List Oper} {β : Hd} {a : Act}
    (h : ∀ K : Act → Prop, (∀ a, wpLexK P ops W Q Kl rest β a → K a) →
      wantB ops o a = true ∧ (∃ v, S v) ∧ (∀ v, Below W.heap.size W v → mUpon P S v ((execOp a.eval o).run P v)) ∧ ∀ v, S v → K (a.put o.dst v)) :
    wpLexK P ops W Q (.lets S :: Kl) (o :: rest) β a := by
  obtain ⟨h1, h2, h3, h4⟩ := h _ (fun _ h => h)
  refine ⟨fun _ => ⟨h2, h3⟩, ?_⟩
  intro v hv
  rw [h1] at hv
  exact h4 v hv
theorem lexK_new {Q : Hd → Act → Prop} {obj : Obj} {Kl : List Kd} {o : Oper} {rest : List Oper} {β : Hd} {a : Act}
    (h : ∀ (b : Nat), Free W β b → ∀ K : Act → Prop, (∀ a, wpLexK P ops W Q Kl rest (β.put b obj) a → K a) → wantB ops o a = true ∧ (∀ v, (execOp a.eval o).run P v = .ok (.value (ptr v.heap.size)) (v.alloc obj)) ∧ K (a.put o.dst (ptr b))) (hf : ∃ b, Free W β b) :
    wpLexK P ops W Q (.new obj :: Kl) (o :: rest) β a := by
  obtain ⟨b0, hb0⟩ := hf
  obtain ⟨h1, h2, _⟩ := h b0 hb0 (fun _ => True) (fun _ _ => trivial)
  exact ⟨⟨h1, h2⟩, fun b hb => (h b hb _ (fun _ h => h)).2.2⟩
theorem lexK_end {Q : Hd → Act → Prop} {rest : List Oper} {β : Hd} {a : Act} (h : Q β a) : wpLexK P ops W Q [] rest β a := h
theorem mUpon_b {v : World} {u : Value} : mUpon P (fun v => v = u) v (.ok (.value u) v) := ⟨Below.refl _ _, rfl⟩
theorem free_some {N : Nat} {W : World} {β : Hd} (h : ∀ b, N ≤ b → β b = none) : ∃ b, Free W β b := (show β.fin from ⟨N, h⟩).some W
end
end Go.Proofs.YtoacdaemhcbbhaaDoor
namespace Go.Proofs.YtoacdaemhcbbhaaDoor
open Go Go.RowKit

section
variable {P : Program} {ops : Array Oper} {md : Region.Mode} {Q' : Exit → Act → World → Prop} {m : Nat} {W : World}

/-- what an operation leaves: one of a set; a pointer to a new block; one of a set with a fact on the world that holds on; one of a set, by the facts that others have left. -/
inductive Kx where
  | lets (S : Value → Prop)
  | new (o : Obj)
  | made (T : Value → Prop) (S : Value → World → Prop)
  | uses (S : Value → Prop)
def Stb (γ : World → Prop) : Prop := ∀ w w', γ w → Below w.heap.size w w' → γ w'
structure CX (W : World) (β : Hd) (γ : World → Prop) (w : World) : Prop where
  low : Below W.heap.size W w
  held : ∀ b o, β b = some o → w.heap[b]? = some o
  fact : γ w
theorem CX.up {β : Hd} {γ : World → Prop} {w w' : World} (h : CX W β γ w) (hs : Stb γ) (k : Below w.heap.size w w') : CX W β γ w' :=
  ⟨h.low.trans (k.mono h.low.size), fun b o hb => (k.block _ (Array.getElem?_eq_some_iff.1 (h.held b o hb)).1).trans (h.held b o hb), hs _ _ h.fact k⟩
def mUponW (P : Program) (S : Value → World → Prop) (w : World) : Result Next → Prop
  | .ok (.value u) w' => Below w.heap.size w w' ∧ S u w'
  | .ok .skip w' => Below w.heap.size w w' ∧ S undef w'
  | .ok (.enter f args) w' => Calls P f args w' fun e w'' => ∃ v, e = .returned v ∧ S v w'' ∧ Below w.heap.size w w''
  | _ => False
def Rq (P : Program) (ops : Array Oper) (W : World) (k : Kx) (γ : World → Prop) (o : Oper) (a : Act) : Prop :=
  match k with
  | .lets S => LetsM P ops W S o a
  | .new obj => IsNew P ops obj o a
  | .made T S => wantB ops o a = true ∧ (∃ v, T v) ∧ (∀ v, Stb (S v)) ∧ ∀ w, Below W.heap.size W w → mUponW P (fun v w' => T v ∧ S v w') w ((execOp a.eval o).run P w)
  | .uses S => wantB ops o a = true → (∃ v, S v) ∧ ∀ w, Below W.heap.size W w → γ w → mUpon P S w ((execOp a.eval o).run P w)
def Ef (W : World) (k : Kx) (β : Hd) (γ : World → Prop) (wb : Bool) (v : Value) (β' : Hd) (γ' : World → Prop) : Prop :=
  match k with
  | .lets S => valsOf S wb v ∧ β' = β ∧ γ' = γ
  | .new obj => ∃ b, v = ptr b ∧ Free W β b ∧ β' = β.put b obj ∧ γ' = γ
  | .made T S => T v ∧ β' = β ∧ γ' = fun w => γ w ∧ S v w
  | .uses S => valsOf S wb v ∧ β' = β ∧ γ' = γ
def kF (P : Program) (ops : Array Oper) (W : World) (k : Kx) (β : Hd) (γ : World → Prop) (o : Oper) (a : Act) (K : Hd → (World → Prop) → Act → Prop) : Prop :=
  Rq P ops W k γ o a ∧ ∀ v β' γ', Ef W k β γ (wantB ops o a) v β' γ' → K β' γ' (a.put o.dst v)
def wpAnyX (P : Program) (md : Region.Mode) (ops : Array Oper) (W : World) (Ks : Nat → Kx) (Q' : Exit → Act → World → Prop) (m : Nat) : Nat → Array Bool → Hd → (World → Prop) → Act → Prop
  | 0, listed, β, γ, a => Region.ready md ops listed = [] ∧ ∀ w, CX W β γ w → Q' .normal a w
  | fuel + 1, listed, β, γ, a => (Region.ready md ops listed = [] → ∀ w, CX W β γ w → Q' .normal a w) ∧ ∀ i ∈ Region.ready md ops listed,
      (i < m → ∀ o, ops[i]? = some o → kF P ops W (Ks i) β γ o a (wpAnyX P md ops W Ks Q' m fuel (listed.setIfInBounds i true))) ∧ (m ≤ i → ∀ w, CX W β γ w → wpOp P ops Q' i (wpAny P md ops Q' fuel (listed.setIfInBounds i true)) a w)
theorem ef_stb {k : Kx} {β β' : Hd} {γ γ' : World → Prop} {o : Oper} {a : Act} {wb : Bool} {v : Value} (hr : Rq P ops W k γ o a) (h : Ef W k β γ wb v β' γ') (hs : Stb γ) : Stb γ' := by
  cases k with
  | lets S => rw [h.2.2]; exact hs
  | new obj => obtain ⟨b, _, _, _, e⟩ := h; rw [e]; exact hs
  | made T S => rw [h.2.2]; exact fun w w' hw k => ⟨hs _ _ hw.1 k, hr.2.2.1 v _ _ hw.2 k⟩
  | uses S => rw [h.2.2]; exact hs
theorem ef_fin {k : Kx} {β β' : Hd} {γ γ' : World → Prop} {wb : Bool} {v : Value} (h : Ef W k β γ wb v β' γ') (hf : β.fin) : β'.fin := by
  cases k with
  | lets S => rw [h.2.1]; exact hf
  | new obj => obtain ⟨b, _, _, e, _⟩ := h; rw [e]; exact hf.put b obj
  | made T S => rw [h.2.1]; exact hf
  | uses S => rw [h.2.1]; exact hf
theorem wp_mUpon {S : Value → Prop} {β : Hd} {γ : World → Prop} {o : Oper} {a : Act} {K' : Act → World → Prop} {w : World} (hc : CX W β γ w) (hs : Stb γ) (h : mUpon P S w ((execOp a.eval o).run P w)) (hk : ∀ v w', S v → CX W β γ w' → K' (a.put o.dst v) w') : o.wp P a w K' Q' := by
  unfold Oper.wp
  generalize (execOp a.eval o).run P w = r at *
  cases r with
  | ok n w' =>
    cases n <;> simp only [mUpon] at h <;> simp only [Oper.upon]
    case value u => exact hk _ _ h.2 (hc.up hs h.1)
    case skip => exact hk _ _ h.2 (hc.up hs h.1)
    case enter f args =>
      refine h.mono ?_
      rintro e w'' ⟨v, rfl, hv, hb⟩
      exact hk _ _ hv (hc.up hs hb)
  | halt x w' => simp only [mUpon] at h
theorem wp_mUponW {S : Value → World → Prop} {β : Hd} {γ : World → Prop} {o : Oper} {a : Act} {K' : Act → World → Prop} {w : World} (hc : CX W β γ w) (hs : Stb γ) (h : mUponW P S w ((execOp a.eval o).run P w)) (hk : ∀ v w', S v w' → CX W β γ w' → K' (a.put o.dst v) w') : o.wp P a w K' Q' := by
  unfold Oper.wp
  generalize (execOp a.eval o).run P w = r at *
  cases r with
  | ok n w' =>
    cases n <;> simp only [mUponW] at h <;> simp only [Oper.upon]
    case value u => exact hk _ _ h.2 (hc.up hs h.1)
    case skip => exact hk _ _ h.2 (hc.up hs h.1)
    case enter f args =>
      refine h.mono ?_
      rintro e w'' ⟨v, rfl, hv, hb⟩
      exact hk _ _ hv (hc.up hs hb)
  | halt x w' => simp only [mUponW] at h
theorem wpOp_some {i : Nat} {o : Oper} {a : Act} {w : World} {K : Act → World → Prop} (ho : ops[i]? = some o) (h1 : wantB ops o a = true → o.wp P a w K Q') (h2 : wantB ops o a = false → K (a.put o.dst undef) w) : wpOp P ops Q' i K a w := by
  unfold wpOp
  rw [ho]
  have e : Region.wanted o (yielded ops a.tmps) = wantB ops o a := rfl
  simp only [e]
  cases hw : wantB ops o a with
  | true => simp only [if_true]; exact .inl (h1 hw)
  | false => simp only [Bool.false_eq_true, if_false]; exact h2 hw
theorem wpAnyX_sound {Ks : Nat → Kx} : ∀ (fuel : Nat) (listed : Array Bool) (β : Hd) (γ : World → Prop) (a : Act) (w : World), Stb γ → CX W β γ w → wpAnyX P md ops W Ks Q' m fuel listed β γ a → wpAny P md ops Q' fuel listed a w
  | 0, _, _, _, _, w, _, hw, h => ⟨h.1, h.2 w hw⟩
  | fuel + 1, listed, β, γ, a, w, hs, hw, h => by
    refine ⟨fun h0 => h.1 h0 w hw, fun i hi => ?_⟩
    by_cases him : m ≤ i
    · exact (h.2 i hi).2 him w hw
    · obtain ⟨o, ho⟩ := ready_is hi
      obtain ⟨hq, h1⟩ := (h.2 i hi).1 (by omega) o ho
      have hstb := fun v β' γ' (e : Ef W (Ks i) β γ (wantB ops o a) v β' γ') => ef_stb hq e hs
      cases hk : Ks i with
      | lets S =>
        rw [hk] at hq h1
        refine wpOp_some ho (fun hwt => ?_) (fun hwt => ?_)
        · refine wp_mUpon hw hs ((hq hwt).2 w hw.low) (fun v w' hv hc => wpAnyX_sound fuel _ β γ _ w' hs hc (h1 v β γ ⟨?_, rfl, rfl⟩))
          rw [hwt]
          exact hv
        · refine wpAnyX_sound fuel _ β γ _ w hs hw (h1 undef β γ ⟨?_, rfl, rfl⟩)
          rw [hwt]
          rfl
      | uses S =>
        rw [hk] at hq h1
        refine wpOp_some ho (fun hwt => ?_) (fun hwt => ?_)
        · refine wp_mUpon hw hs ((hq hwt).2 w hw.low hw.fact) (fun v w' hv hc => wpAnyX_sound fuel _ β γ _ w' hs hc (h1 v β γ ⟨?_, rfl, rfl⟩))
          rw [hwt]
          exact hv
        · refine wpAnyX_sound fuel _ β γ _ w hs hw (h1 undef β γ ⟨?_, rfl, rfl⟩)
          rw [hwt]
          rfl
      | made T S =>
        rw [hk] at hq h1 hstb
        refine wpOp_some ho (fun _ => ?_) (fun hwt => (by rw [hq.1] at hwt; cases hwt))
        refine wp_mUponW hw hs (hq.2.2.2 w hw.low) (fun v w' hv hc => ?_)
        exact wpAnyX_sound fuel _ β _ _ w' (hstb v β _ ⟨hv.1, rfl, rfl⟩) ⟨hc.low, hc.held, hc.fact, hv.2⟩ (h1 v β _ ⟨hv.1, rfl, rfl⟩)
      | new obj =>
        rw [hk] at hq h1
        obtain ⟨hwt, hrun⟩ := hq
        have hno : β w.heap.size = none := by
          cases e : β w.heap.size with
          | none => rfl
          | some o' =>
            have := (Array.getElem?_eq_some_iff.1 (hw.held _ _ e)).1
            omega
        refine wpOp_some ho (fun _ => ?_) (fun hwt' => (by rw [hwt] at hwt'; cases hwt'))
        unfold Oper.wp
        rw [hrun]
        simp only [Oper.upon]
        refine wpAnyX_sound fuel _ _ γ _ _ hs ⟨hw.low.alloc hw.low.size obj, fun b o' hb => ?_, hs _ _ hw.fact ((Below.refl _ w).alloc (Nat.le_refl _) obj)⟩ (h1 (ptr w.heap.size) (β.put w.heap.size obj) γ ⟨w.heap.size, rfl, ⟨hw.low.size, hno⟩, rfl, rfl⟩)
        unfold Hd.put at hb
        by_cases eb : b = w.heap.size
        · rw [if_pos eb] at hb
          cases hb
          rw [eb]
          show (w.heap.push obj)[w.heap.size]? = _
          exact Array.getElem?_push_size
        · rw [if_neg eb] at hb
          have h3 := hw.held b o' hb
          have h4 := (Array.getElem?_eq_some_iff.1 h3).1
          rw [← h3]
          show (w.heap.push obj)[b]? = _
          rw [Array.getElem?_push, if_neg (by omega)]
theorem Rq.of_put {k : Kx} {γ : World → Prop} {o : Oper} {a a' : Act} (he : execOp a'.eval o = execOp a.eval o) (hw : wantB ops o a' = wantB ops o a) (h : Rq P ops W k γ o a) : Rq P ops W k γ o a' := by
  cases k with
  | lets S => exact LetsM.of_put he hw h
  | new obj => exact IsNew.of_put he hw h
  | made T S => unfold Rq at *; rw [he, hw]; exact h
  | uses S => unfold Rq at *; rw [he, hw]; exact h
/-- a stronger fact serves as well. -/
theorem Rq.more {k : Kx} {γ γ' : World → Prop} {o : Oper} {a : Act} (hg : ∀ w, γ' w → γ w) (h : Rq P ops W k γ o a) : Rq P ops W k γ' o a := by
  cases k with
  | uses S => exact fun hw => ⟨(h hw).1, fun w hb hf => (h hw).2 w hb (hg w hf)⟩
  | _ => exact h
theorem ef_more {k : Kx} {β β' : Hd} {γ γ' : World → Prop} {wb : Bool} {v : Value} (h : Ef W k β γ wb v β' γ') : ∀ w, γ' w → γ w := by
  cases k with
  | lets S => rw [h.2.2]; exact fun _ h => h
  | new obj => obtain ⟨b, _, _, _, e⟩ := h; rw [e]; exact fun _ h => h
  | made T S => rw [h.2.2]; exact fun _ h => h.1
  | uses S => rw [h.2.2]; exact fun _ h => h
theorem ef_some {k : Kx} {β : Hd} {γ : World → Prop} {o : Oper} {a : Act} (hf : β.fin) (h : Rq P ops W k γ o a) : ∃ v β' γ', Ef W k β γ (wantB ops o a) v β' γ' := by
  cases k with
  | lets S =>
    obtain ⟨v, hv⟩ := LetsM.some h
    exact ⟨v, β, γ, hv, rfl, rfl⟩
  | new obj =>
    obtain ⟨b, hb⟩ := hf.some W
    exact ⟨_, _, γ, b, rfl, hb, rfl, rfl⟩
  | made T S =>
    obtain ⟨v, hv⟩ := h.2.1
    exact ⟨v, β, _, hv, rfl, rfl⟩
  | uses S =>
    cases e : wantB ops o a with
    | false => exact ⟨undef, β, γ, rfl, rfl, rfl⟩
    | true =>
      obtain ⟨v, hv⟩ := (h e).1
      exact ⟨v, β, γ, hv, rfl, rfl⟩
theorem ef_diamond {ki kj : Kx} {β β1 β2 : Hd} {γ γ1 γ2 : World → Prop} {wi wj : Bool} {u v : Value} (hj : Ef W kj β γ wj u β1 γ1) (hi : Ef W ki β1 γ1 wi v β2 γ2) : ∃ β' γ', Ef W ki β γ wi v β' γ' ∧ Ef W kj β' γ' wj u β2 γ2 := by
  have swp : ∀ (A B : World → Prop), (fun w => (γ w ∧ A w) ∧ B w) = fun w => (γ w ∧ B w) ∧ A w := fun A B => by
    funext w
    exact propext ⟨fun ⟨⟨h1, h2⟩, h3⟩ => ⟨⟨h1, h3⟩, h2⟩, fun ⟨⟨h1, h2⟩, h3⟩ => ⟨⟨h1, h3⟩, h2⟩⟩
  cases kj with
  | lets S =>
    obtain ⟨hu, rfl, rfl⟩ := hj
    exact ⟨β2, γ2, hi, hu, rfl, rfl⟩
  | uses S =>
    obtain ⟨hu, rfl, rfl⟩ := hj
    exact ⟨β2, γ2, hi, hu, rfl, rfl⟩
  | made T S =>
    obtain ⟨hu, rfl, rfl⟩ := hj
    cases ki with
    | lets S' =>
      obtain ⟨hv, rfl, rfl⟩ := hi
      exact ⟨_, _, ⟨hv, rfl, rfl⟩, hu, rfl, rfl⟩
    | uses S' =>
      obtain ⟨hv, rfl, rfl⟩ := hi
      exact ⟨_, _, ⟨hv, rfl, rfl⟩, hu, rfl, rfl⟩
    | made T' S' =>
      obtain ⟨hv, rfl, rfl⟩ := hi
      exact ⟨_, _, ⟨hv, rfl, rfl⟩, hu, rfl, swp _ _⟩
    | new obj =>
      obtain ⟨b, rfl, hb, rfl, rfl⟩ := hi
      exact ⟨_, _, ⟨b, rfl, hb, rfl, rfl⟩, hu, rfl, rfl⟩
  | new obj =>
    obtain ⟨c, rfl, hc, rfl, rfl⟩ := hj
    cases ki with
    | lets S' =>
      obtain ⟨hv, rfl, rfl⟩ := hi
      exact ⟨_, _, ⟨hv, rfl, rfl⟩, c, rfl, hc, rfl, rfl⟩
    | uses S' =>
      obtain ⟨hv, rfl, rfl⟩ := hi
      exact ⟨_, _, ⟨hv, rfl, rfl⟩, c, rfl, hc, rfl, rfl⟩
    | made T' S' =>
      obtain ⟨hv, rfl, rfl⟩ := hi
      exact ⟨_, _, ⟨hv, rfl, rfl⟩, c, rfl, hc, rfl, rfl⟩
    | new obj' =>
      obtain ⟨b, rfl, hb, rfl, rfl⟩ := hi
      obtain ⟨hb', hne⟩ := hb.of_put
      exact ⟨_, _, ⟨b, rfl, hb', rfl, rfl⟩, c, rfl, hc.to_put (Ne.symm hne), (put_swap hne).symm, rfl⟩
def Kx.isMade : Kx → Bool | .made .. => true | _ => false
def Kx.isUse : Kx → Bool | .uses .. => true | _ => false
/-- two that are apart may change places. -/
theorem kF_swap {ki kj : Kx} {oi oj : Oper} {β : Hd} {γ : World → Prop} {a : Act} {K : Hd → (World → Prop) → Act → Prop} (hap : oi.apart ops oj = true) (hsi : ∀ cs b, oi.op ≠ .select cs b) (hsj : ∀ cs b, oj.op ≠ .select cs b) (hf : β.fin)
    (hmu : ki.isMade = true → kj.isUse = true → False) (h : kF P ops W ki β γ oi a fun β' γ' a' => kF P ops W kj β' γ' oj a' K) : kF P ops W kj β γ oj a fun β' γ' a' => kF P ops W ki β' γ' oi a' K := by
  obtain ⟨h1, h2, h3⟩ := Oper.apart_spec hap
  obtain ⟨hq, h⟩ := h
  obtain ⟨v0, β0, γ0, e0⟩ := ef_some hf hq
  refine ⟨?_, fun u β1 γ1 e1 => ⟨?_, fun v β2 γ2 e2 => ?_⟩⟩
  · have hqj := Rq.of_put (execOp_put oj hsj a oi.dst v0 h1).symm (want_put a v0 hap).1.symm (h v0 β0 γ0 e0).1
    cases kj with
    | lets S => exact hqj
    | new obj => exact hqj
    | made T S => exact hqj
    | uses S =>
      have hg : γ0 = γ := by
        cases ki with
        | lets S' => exact e0.2.2
        | new obj => obtain ⟨_, _, _, _, e⟩ := e0; exact e
        | made T S' => exact (hmu rfl rfl).elim
        | uses S' => exact e0.2.2
      rw [hg] at hqj
      exact hqj
  · exact Rq.of_put (execOp_put oi hsi a oj.dst u h3) (want_put a u hap).2 (hq.more (ef_more e1))
  · rw [(want_put a u hap).2] at e2
    obtain ⟨β', γ', f1, f2⟩ := ef_diamond e1 e2
    rw [← Act.put_comm a v u h2]
    refine (h v β' γ' f1).2 u β2 γ2 ?_
    rw [(want_put a v hap).1]
    exact f2
theorem kF_mono {k : Kx} {o : Oper} {β : Hd} {γ : World → Prop} {a : Act} {K K' : Hd → (World → Prop) → Act → Prop} (hf : β.fin) (h : ∀ β' γ' a', β'.fin → K β' γ' a' → K' β' γ' a') (hk : kF P ops W k β γ o a K) : kF P ops W k β γ o a K' :=
  ⟨hk.1, fun v β' γ' e => h _ _ _ (ef_fin e hf) (hk.2 v β' γ' e)⟩
theorem wpAnyX_first {Ks : Nat → Kx} {i : Nat} {oi : Oper} (hi : ops[i]? = some oi) (hlast : ∀ j listed, Clo md ops listed → m ≤ j → j ∈ Region.ready md ops listed → listed.getD i true = true) (hsel : ∀ (j : Nat) (o : Oper) cs b, ops[j]? = some o → o.op ≠ .select cs b)
    (hmu : ∀ j oj, ops[j]? = some oj → (Ks i).isMade = true → (Ks j).isUse = true → ∃ e ∈ oj.after, Region.binds md e = true ∧ e.on = i) :
    ∀ (fuel : Nat) (listed : Array Bool) (β : Hd) (γ : World → Prop) (a : Act), β.fin → Clo md ops listed →
      (∀ j oj, ops[j]? = some oj → j ≠ i → listed.getD j true = false → (∀ e ∈ oj.after, Region.binds md e = true → e.on ≠ i) → oi.apart ops oj = true) →
      i ∈ Region.ready md ops listed → kF P ops W (Ks i) β γ oi a (wpAnyX P md ops W Ks Q' m fuel (listed.setIfInBounds i true)) → wpAnyX P md ops W Ks Q' m (fuel + 1) listed β γ a := by
  intro fuel
  induction fuel with
  | zero =>
    intro listed β γ a hf hc _ hr H
    refine ⟨fun h => (by rw [h] at hr; cases hr), fun j hj => ⟨fun _ => ?_, fun hjm => ?_⟩⟩
    · by_cases hji : j = i
      · subst hji
        intro o ho
        rw [hi] at ho
        cases ho
        exact H
      · obtain ⟨v, β', γ', e⟩ := ef_some hf H.1
        have hK := H.2 v β' γ' e
        have h1 := ready_mono hj hji
        rw [hK.1] at h1
        cases h1
    · have h1 := hlast j _ hc hjm hj
      rw [(mem_ready.1 hr).1] at h1
      cases h1
  | succ fuel ih =>
    intro listed β γ a hf hc hfree hr H
    refine ⟨fun h => (by rw [h] at hr; cases hr), fun j hj => ⟨fun hjm => ?_, fun hjm => ?_⟩⟩
    · by_cases hji : j = i
      · subst hji
        intro o ho
        rw [hi] at ho
        cases ho
        exact H
      · obtain ⟨hjun, oj, hoj, hall⟩ := mem_ready.1 hj
        have hnot : ∀ e ∈ oj.after, Region.binds md e = true → e.on ≠ i := fun e he hb heq => by
          have h1 := hall e he hb
          have h0 := (mem_ready.1 hr).1
          rw [heq] at h1
          rcases Nat.lt_or_ge i listed.size with h' | h'
          · simp [h'] at h0 h1; rw [h0] at h1; cases h1
          · simp [Array.getElem?_eq_none h'] at h1
        have hno : (Ks i).isMade = true → (Ks j).isUse = true → False := fun h1 h2 => by
          obtain ⟨e, he, hb, ho⟩ := hmu j oj hoj h1 h2
          exact hnot e he hb ho
        have h2 := kF_swap (hfree j oj hoj hji hjun hnot) (fun cs b => hsel i oi cs b hi) (fun cs b => hsel j oj cs b hoj) hf hno (kF_mono hf (fun β' γ' a' _ hK => (hK.2 j (ready_mono hj hji)).1 hjm oj hoj) H)
        have hfree' : ∀ k ok, ops[k]? = some ok → k ≠ i → (listed.setIfInBounds j true).getD k true = false → (∀ e ∈ ok.after, Region.binds md e = true → e.on ≠ i) → oi.apart ops ok = true := fun k ok hk hki hun hno => by
          refine hfree k ok hk hki ?_ hno
          by_cases hjk : j = k
          · subst hjk; exact hjun
          · rw [getD_set_ne true hjk] at hun; exact hun
        intro o ho
        rw [hoj] at ho
        cases ho
        refine kF_mono hf (fun β' γ' a' hf' h3 => ih (listed.setIfInBounds j true) β' γ' a' hf' (hc.put hj) hfree' (ready_mono hr (Ne.symm hji)) ?_) h2
        rw [Array.setIfInBounds_comm _ _ hji]
        exact h3
    · have h1 := hlast j _ hc hjm hj
      rw [(mem_ready.1 hr).1] at h1
      cases h1
def wpLexX (P : Program) (ops : Array Oper) (W : World) (Q : Hd → (World → Prop) → Act → Prop) : List Kx → List Oper → Hd → (World → Prop) → Act → Prop
  | k :: Kl, o :: rest, β, γ, a => kF P ops W k β γ o a (wpLexX P ops W Q Kl rest)
  | [], _, β, γ, a => Q β γ a
  | _ :: _, [], _, _, _ => False
/-- whoever uses waits for all that are made. -/
def useB (md : Region.Mode) (ops : Array Oper) (ms us : List Nat) : Bool := us.all fun j => match ops[j]? with
  | none => true
  | some o => ms.all fun i => o.after.any fun e => Region.binds md e && e.on == i
/-- one waits for another, by others too. -/
def reachN (md : Region.Mode) (ops : Array Oper) : Nat → Nat → Nat → Bool
  | 0, _, _ => false
  | n + 1, t, j => match ops[t]? with
    | none => false
    | some o => o.after.any fun e => Region.binds md e && (e.on == j || reachN md ops n e.on j)
def tailN (md : Region.Mode) (ops : Array Oper) (m : Nat) : Bool := (List.range ops.size).all fun t => decide (t < m) || (List.range m).all fun j => reachN md ops ops.size t j
theorem reachN_spec {listed : Array Bool} (hc : Clo md ops listed) {j : Nat} : ∀ (n t : Nat), reachN md ops n t j = true → (∀ o, ops[t]? = some o → ∀ e ∈ o.after, Region.binds md e = true → listed.getD e.on false = true) → listed.getD j false = true
  | 0, _, h, _ => by cases h
  | n + 1, t, h, hd => by
    unfold reachN at h
    cases ho : ops[t]? with
    | none => rw [ho] at h; cases h
    | some o =>
      rw [ho] at h
      simp only [Array.any_eq_true'] at h
      obtain ⟨e, he, h⟩ := h
      rw [Bool.and_eq_true, Bool.or_eq_true, beq_iff_eq] at h
      obtain ⟨hb, h⟩ := h
      have h1 := hd o ho e he hb
      rcases h with h | h
      · rw [h] at h1
        exact h1
      · exact reachN_spec hc n e.on h (fun o' ho' e' he' hb' => hc _ o' ho' h1 e' he' hb')
theorem tailN_spec (h : tailN md ops m = true) {i : Nat} (hi : i < m) (t : Nat) (listed : Array Bool) (hc : Clo md ops listed) (ht : m ≤ t) (hr : t ∈ Region.ready md ops listed) : listed.getD i true = true := by
  obtain ⟨_, o, ho, hall⟩ := mem_ready.1 hr
  have hts : t < ops.size := (Array.getElem?_eq_some_iff.1 ho).1
  unfold tailN at h
  rw [List.all_eq_true] at h
  have h := h t (List.mem_range.2 hts)
  simp only [Bool.or_eq_true, decide_eq_true_eq, List.all_eq_true, List.mem_range] at h
  rcases h with h | h
  · omega
  · exact getD_true (reachN_spec hc _ t (h i hi) (fun o' ho' e he hb => by rw [ho] at ho'; cases ho'; exact hall e he hb))
theorem wpAnyX_lex {Ks : Nat → Kx} (hs : Region.noSelect ops = true) (hl : tailN md ops m = true) (hmu : ∀ i j oj, ops[j]? = some oj → (Ks i).isMade = true → (Ks j).isUse = true → ∃ e ∈ oj.after, Region.binds md e = true ∧ e.on = i) (r : Nat) (L : Array Bool) (Kl : List Kx) :
    ∀ (l : List Oper) (k : Nat) (listed : Array Bool) (β : Hd) (γ : World → Prop) (a : Act), β.fin → Clo md ops listed → (∀ j, l[j]? = ops[k + j]?) → (∀ j, j < Kl.length → Ks (k + j) = Kl.getD j (.lets fun _ => False)) →
    lexFromT md ops m L Kl.length k listed = true → wpLexX P ops W (fun β γ a => ∀ w, CX W β γ w → wpAny P md ops Q' (r + 1) L a w) Kl l β γ a → wpAnyX P md ops W Ks Q' m (Kl.length + (r + 1)) listed β γ a := by
  induction Kl with
  | nil =>
    intro l k listed β γ a _ _ _ _ hB h
    simp only [List.length_nil, lexFromT, Bool.and_eq_true, beq_iff_eq, List.all_eq_true, decide_eq_true_eq] at hB
    obtain ⟨rfl, hB⟩ := hB
    rw [List.length_nil, Nat.zero_add]
    exact ⟨fun h0 w hw => (h w hw).1 h0, fun i hi => ⟨fun h' => absurd (hB i hi) (by omega), fun _ w hw => (h w hw).2 i hi⟩⟩
  | cons S Kl ih =>
    intro l k listed β γ a hf hc hl' hs' hB h
    cases l with
    | nil => exact h.elim
    | cons o rest =>
      have h0 : ops[k]? = some o := by simpa using (hl' 0).symm
      simp only [List.length_cons, lexFromT, Bool.and_eq_true, decide_eq_true_eq] at hB
      obtain ⟨⟨⟨hr, hkm⟩, hfr⟩, hB'⟩ := hB
      have e : Ks k = S := by simpa using hs' 0 (by simp)
      have en : (S :: Kl).length + (r + 1) = (Kl.length + (r + 1)) + 1 := by simp; omega
      rw [en]
      refine wpAnyX_first h0 (fun t li hci ht htr => tailN_spec hl hkm t li hci ht htr) (Region.noSelect_spec hs) (fun j oj => hmu k j oj) (Kl.length + (r + 1)) listed β γ a hf hc (Region.free_spec h0 hfr) (by simpa using hr) ?_
      rw [e]
      refine kF_mono hf (fun β' γ' a' hf' hK => ?_) h
      refine ih rest (k + 1) _ β' γ' a' hf' (hc.put (by simpa using hr)) (fun j => by have := hl' (j + 1); simpa [Nat.add_assoc, Nat.add_comm 1 j] using this) (fun j hj => ?_) hB' hK
      have h1 := hs' (j + 1) (by simpa using hj)
      rw [Nat.add_assoc, Nat.add_comm 1 j, h1]
      simp
/-- which are made, which use. -/
def kindsB (Kl : List Kx) (ms us : List Nat) : Prop := (∀ i, (Kl.getD i (.lets fun _ => False)).isMade = true → i ∈ ms) ∧ ∀ i, (Kl.getD i (.lets fun _ => False)).isUse = true → i ∈ us
theorem any_made {Q : Exit → Act → World → Prop} {a : Act} {w : World} {l : List Oper} (r : Nat) (L : Array Bool) (Kl : List Kx) (ms us : List Nat) (hn : Region.noSelect l.toArray = true) (hz : l.length = Kl.length + (r + 1))
    (hk : kindsB Kl ms us) (hu : useB .any l.toArray ms us = true)
    (hl : tailN .any l.toArray Kl.length = true) (hB : lexFromT .any l.toArray Kl.length L Kl.length 0 (Array.replicate l.toArray.size false) = true)
    (h : wpLexX P l.toArray w (fun β γ a => ∀ v, CX w β γ v → wpAny P .any l.toArray Q (r + 1) L a v) Kl l hd0 (fun _ => True) a) : wpAny P .any l.toArray Q l.toArray.size (Array.replicate l.toArray.size false) a (w.drewN 1) := by
  have e : l.toArray.size = Kl.length + (r + 1) := by simpa using hz
  have hmu : ∀ i j oj, l.toArray[j]? = some oj → (Kl.getD i (.lets fun _ => False)).isMade = true → (Kl.getD j (.lets fun _ => False)).isUse = true → ∃ e ∈ oj.after, Region.binds .any e = true ∧ e.on = i := by
    intro i j oj hoj h1 h2
    unfold useB at hu
    rw [List.all_eq_true] at hu
    have h3 := hu j (hk.2 j h2)
    rw [hoj] at h3
    simp only [List.all_eq_true, Array.any_eq_true'] at h3
    obtain ⟨e, he, h4⟩ := h3 i (hk.1 i h1)
    rw [Bool.and_eq_true, beq_iff_eq] at h4
    exact ⟨e, he, h4.1, h4.2⟩
  rw [e] at hB ⊢
  exact wpAnyX_sound (Ks := fun k => Kl.getD k (.lets fun _ => False)) (m := Kl.length) _ _ _ _ _ _ (fun _ _ h _ => h) ⟨below_drewN (Below.refl _ w) 1, fun _ _ h => (by cases h), trivial⟩
    (wpAnyX_lex hn hl hmu r L Kl l 0 _ hd0 _ a fin0 (fun k ok _ h => absurd h (by simp [Array.getElem?_replicate]; split <;> rfl)) (by simp) (fun j _ => by rw [Nat.zero_add]) hB h)
theorem wp_region_made {id : Nat} {Q : Exit → Act → World → Prop} {a : Act} {w : World} {l : List Oper} (r : Nat) (L : Array Bool) (Kl : List Kx) (ms us : List Nat) (hm : P.follows .mixedOrders = true) (hn : Region.noSelect l.toArray = true) (hz : l.length = Kl.length + (r + 1))
    (hk : kindsB Kl ms us) (hu : useB .any l.toArray ms us = true)
    (hl : tailN .any l.toArray Kl.length = true) (hB : lexFromT .any l.toArray Kl.length L Kl.length 0 (Array.replicate l.toArray.size false) = true)
    (h : wpLexX P l.toArray w (fun β γ a => ∀ v, CX w β γ v → wpAny P .any l.toArray Q (r + 1) L a v) Kl l hd0 (fun _ => True) a) : (Code.region id l.toArray true).wp P Q a w :=
  wp_region_any hm (any_made r L Kl ms us hn hz hk hu hl hB h)
theorem lexX_step {Q : Hd → (World → Prop) → Act → Prop} {S : Value → Prop} {Kl : List Kx} {o : Oper} {rest : List Oper} {β : Hd} {γ : World → Prop} {a : Act}
    (h : ∀ K : Act → Prop, (∀ a, wpLexX P ops W Q Kl rest β γ a → K a) →
      wantB ops o a = true ∧ (∃ v, S v) ∧ (∀ v, Below W.heap.size W v → mUpon P S v ((execOp a.eval o).run P v)) ∧ ∀ v, S v → K (a.put o.dst v)) :
    wpLexX P ops W Q (.lets S :: Kl) (o :: rest) β γ a := by
  obtain ⟨h1, h2, h3, h4⟩ := h _ (fun _ h => h)
  refine ⟨fun _ => ⟨h2, h3⟩, ?_⟩
  rintro v β' γ' ⟨hv, rfl, rfl⟩
  rw [h1] at hv
  exact h4 v hv
theorem lexX_uses {Q : Hd → (World → Prop) → Act → Prop} {S : Value → Prop} {Kl : List Kx} {o : Oper} {rest : List Oper} {β : Hd} {γ : World → Prop} {a : Act}
    (h : ∀ K : Act → Prop, (∀ a, wpLexX P ops W Q Kl rest β γ a → K a) →
      wantB ops o a = true ∧ (∃ v, S v) ∧ (∀ v, Below W.heap.size W v → γ v → mUpon P S v ((execOp a.eval o).run P v)) ∧ ∀ v, S v → K (a.put o.dst v)) :
    wpLexX P ops W Q (.uses S :: Kl) (o :: rest) β γ a := by
  obtain ⟨h1, h2, h3, h4⟩ := h _ (fun _ h => h)
  refine ⟨fun _ => ⟨h2, h3⟩, ?_⟩
  rintro v β' γ' ⟨hv, rfl, rfl⟩
  rw [h1] at hv
  exact h4 v hv
theorem lexX_made {Q : Hd → (World → Prop) → Act → Prop} {T : Value → Prop} {S : Value → World → Prop} {Kl : List Kx} {o : Oper} {rest : List Oper} {β : Hd} {γ : World → Prop} {a : Act}
    (h : wantB ops o a = true ∧ (∃ v, T v) ∧ (∀ v, Stb (S v)) ∧ (∀ v, Below W.heap.size W v → mUponW P (fun u w' => T u ∧ S u w') v ((execOp a.eval o).run P v)) ∧ ∀ v, T v → ∀ K : Act → Prop, (∀ a, wpLexX P ops W Q Kl rest β (fun w => γ w ∧ S v w) a → K a) → K (a.put o.dst v)) :
    wpLexX P ops W Q (.made T S :: Kl) (o :: rest) β γ a := by
  obtain ⟨h1, h2, h3, h4, h5⟩ := h
  refine ⟨⟨h1, h2, h3, h4⟩, ?_⟩
  rintro v β' γ' ⟨hv, rfl, rfl⟩
  exact h5 v hv _ (fun _ h => h)
theorem lexX_new {Q : Hd → (World → Prop) → Act → Prop} {obj : Obj} {Kl : List Kx} {o : Oper} {rest : List Oper} {β : Hd} {γ : World → Prop} {a : Act} (hf : ∃ b, Free W β b)
    (h : ∀ (b : Nat), Free W β b → ∀ K : Act → Prop, (∀ a, wpLexX P ops W Q Kl rest (β.put b obj) γ a → K a) → wantB ops o a = true ∧ (∀ v, (execOp a.eval o).run P v = .ok (.value (ptr v.heap.size)) (v.alloc obj)) ∧ K (a.put o.dst (ptr b))) :
    wpLexX P ops W Q (.new obj :: Kl) (o :: rest) β γ a := by
  obtain ⟨b0, hb0⟩ := hf
  obtain ⟨h1, h2, _⟩ := h b0 hb0 (fun _ => True) (fun _ _ => trivial)
  refine ⟨⟨h1, h2⟩, ?_⟩
  rintro v β' γ' ⟨b, rfl, hb, rfl, rfl⟩
  exact (h b hb _ (fun _ h => h)).2.2
theorem lexX_end {Q : Hd → (World → Prop) → Act → Prop} {rest : List Oper} {β : Hd} {γ : World → Prop} {a : Act} (h : Q β γ a) : wpLexX P ops W Q [] rest β γ a := h
end
end Go.Proofs.YtoacdaemhcbbhaaDoor
namespace Go.Proofs.YtoacdaemhcbbhaaDoor
open Go Go.RowKit

section
variable {P : Program} {ops : Array Oper} {md : Region.Mode} {Q' : Exit → Act → World → Prop}
theorem wpAny_two {r i j : Nat} {L : Array Bool} {a : Act} {v : World} {oi oj : Oper} (hr : Region.ready md ops L = [i, j]) (hoi : ops[i]? = some oi) (hoj : ops[j]? = some oj) (hwi : wantB ops oi a = true) (hwj : wantB ops oj a = true)
    (h1 : ∀ K : Act → World → Prop, (∀ a w, wpAny P md ops Q' r (L.setIfInBounds i true) a w → K a w) → oi.wp P a v K Q')
    (h2 : ∀ K : Act → World → Prop, (∀ a w, wpAny P md ops Q' r (L.setIfInBounds j true) a w → K a w) → oj.wp P a v K Q') : wpAny P md ops Q' (r + 1) L a v := by
  refine ⟨fun h0 => (by rw [hr] at h0; cases h0), fun k hk => ?_⟩
  rw [hr] at hk
  rcases List.mem_cons.1 hk with rfl | hk
  · unfold wpOp
    rw [hoi]
    have e : Region.wanted oi (yielded ops a.tmps) = wantB ops oi a := rfl
    simp only [e, hwi, if_true]
    exact .inl (h1 _ fun _ _ h => h)
  · rw [List.mem_singleton] at hk
    subst hk
    unfold wpOp
    rw [hoj]
    have e : Region.wanted oj (yielded ops a.tmps) = wantB ops oj a := rfl
    simp only [e, hwj, if_true]
    exact .inl (h2 _ fun _ _ h => h)
/-- an operation that is not wanted. -/
theorem lexL_skip {C : World → Prop} {Q : Act → Prop} {S : Value → Prop} {Sl : List (Value → Prop)} {o : Oper} {rest : List Oper} {a : Act}
    (h : ∀ K : Act → Prop, (∀ a, wpLexL P ops C Q Sl rest a → K a) → wantB ops o a = false ∧ K (a.put o.dst undef)) :
    wpLexL P ops C Q (S :: Sl) (o :: rest) a := by
  obtain ⟨h1, h2⟩ := h _ (fun _ h => h)
  refine ⟨fun k => (by rw [h1] at k; cases k), fun v hv => ?_⟩
  rw [h1] at hv
  have e : v = undef := hv
  rw [e]
  exact h2
theorem lexX_skip {W : World} {Q : Hd → (World → Prop) → Act → Prop} {S : Value → Prop} {Kl : List Kx} {o : Oper} {rest : List Oper} {β : Hd} {γ : World → Prop} {a : Act}
    (h : ∀ K : Act → Prop, (∀ a, wpLexX P ops W Q Kl rest β γ a → K a) → wantB ops o a = false ∧ K (a.put o.dst undef)) :
    wpLexX P ops W Q (.lets S :: Kl) (o :: rest) β γ a := by
  obtain ⟨h1, h2⟩ := h _ (fun _ h => h)
  refine ⟨fun k => (by rw [h1] at k; cases k), ?_⟩
  rintro v β' γ' ⟨hv, rfl, rfl⟩
  rw [h1] at hv
  have e : v = undef := hv
  rw [e]
  exact h2
end
end Go.Proofs.YtoacdaemhcbbhaaDoor
namespace Go.Proofs.YtoacdaemhcbbhaaDoor.Y
open Go Go.RowKit

section
variable {P : Program} {ops : Array Oper} {md : Region.Mode} {Q' : Exit → Act → World → Prop} {m : Nat} {W : World}

/-- what an operation leaves: one of a set; a pointer to a new block; one of a set with a fact on the world that holds on; one of a set, by the facts that others have left. -/
inductive Kx where
  | lets (S : Value → Prop)
  | new (o : Obj)
  | made (T : Value → Prop) (S : Value → World → Prop)
  | pure (v : Value)
structure CX (W : World) (β : Hd) (γ : World → Prop) (w : World) : Prop where
  low : Below W.heap.size W w
  held : ∀ b o, β b = some o → w.heap[b]? = some o
  fact : γ w
theorem CX.up {β : Hd} {γ : World → Prop} {w w' : World} (h : CX W β γ w) (hs : Stb γ) (k : Below w.heap.size w w') : CX W β γ w' :=
  ⟨h.low.trans (k.mono h.low.size), fun b o hb => (k.block _ (Array.getElem?_eq_some_iff.1 (h.held b o hb)).1).trans (h.held b o hb), hs _ _ h.fact k⟩
def mUponW (P : Program) (S : Value → World → Prop) (w : World) : Result Next → Prop
  | .ok (.value u) w' => Below w.heap.size w w' ∧ S u w'
  | .ok .skip w' => Below w.heap.size w w' ∧ S undef w'
  | .ok (.enter f args) w' => Calls P f args w' fun e w'' => ∃ v, e = .returned v ∧ S v w'' ∧ Below w.heap.size w w''
  | _ => False
def Rq (P : Program) (ops : Array Oper) (W : World) (k : Kx) (o : Oper) (a : Act) : Prop :=
  match k with
  | .lets S => LetsM P ops W S o a
  | .new obj => IsNew P ops obj o a
  | .made T S => wantB ops o a = true ∧ (∃ v, T v) ∧ (∀ v, Stb (S v)) ∧ ∀ w, Below W.heap.size W w → mUponW P (fun v w' => T v ∧ S v w') w ((execOp a.eval o).run P w)
  | .pure v => Yields P ops o v a
def Ef (W : World) (k : Kx) (β : Hd) (γ : World → Prop) (wb : Bool) (v : Value) (β' : Hd) (γ' : World → Prop) : Prop :=
  match k with
  | .lets S => valsOf S wb v ∧ β' = β ∧ γ' = γ
  | .new obj => ∃ b, v = ptr b ∧ Free W β b ∧ β' = β.put b obj ∧ γ' = γ
  | .made T S => T v ∧ β' = β ∧ γ' = fun w => γ w ∧ S v w
  | .pure u => v = u ∧ β' = β ∧ γ' = γ
def kF (P : Program) (ops : Array Oper) (W : World) (k : Kx) (β : Hd) (γ : World → Prop) (o : Oper) (a : Act) (K : Hd → (World → Prop) → Act → Prop) : Prop :=
  Rq P ops W k o a ∧ ∀ v β' γ', Ef W k β γ (wantB ops o a) v β' γ' → K β' γ' (a.put o.dst v)
def wpAnyX (P : Program) (md : Region.Mode) (ops : Array Oper) (W : World) (Ks : Nat → Kx) (Q' : Exit → Act → World → Prop) (m : Nat) : Nat → Array Bool → Hd → (World → Prop) → Act → Prop
  | 0, listed, β, γ, a => Region.ready md ops listed = [] ∧ ∀ w, CX W β γ w → Q' .normal a w
  | fuel + 1, listed, β, γ, a => (Region.ready md ops listed = [] → ∀ w, CX W β γ w → Q' .normal a w) ∧ ∀ i ∈ Region.ready md ops listed,
      (i < m → ∀ o, ops[i]? = some o → kF P ops W (Ks i) β γ o a (wpAnyX P md ops W Ks Q' m fuel (listed.setIfInBounds i true))) ∧ (m ≤ i → ∀ w, CX W β γ w → wpOp P ops Q' i (wpAny P md ops Q' fuel (listed.setIfInBounds i true)) a w)
theorem ef_stb {k : Kx} {β β' : Hd} {γ γ' : World → Prop} {o : Oper} {a : Act} {wb : Bool} {v : Value} (hr : Rq P ops W k o a) (h : Ef W k β γ wb v β' γ') (hs : Stb γ) : Stb γ' := by
  cases k with
  | lets S => rw [h.2.2]; exact hs
  | new obj => obtain ⟨b, _, _, _, e⟩ := h; rw [e]; exact hs
  | made T S => rw [h.2.2]; exact fun w w' hw k => ⟨hs _ _ hw.1 k, hr.2.2.1 v _ _ hw.2 k⟩
  | pure u => rw [h.2.2]; exact hs
theorem ef_fin {k : Kx} {β β' : Hd} {γ γ' : World → Prop} {wb : Bool} {v : Value} (h : Ef W k β γ wb v β' γ') (hf : β.fin) : β'.fin := by
  cases k with
  | lets S => rw [h.2.1]; exact hf
  | new obj => obtain ⟨b, _, _, e, _⟩ := h; rw [e]; exact hf.put b obj
  | made T S => rw [h.2.1]; exact hf
  | pure u => rw [h.2.1]; exact hf
theorem wp_mUpon {S : Value → Prop} {β : Hd} {γ : World → Prop} {o : Oper} {a : Act} {K' : Act → World → Prop} {w : World} (hc : CX W β γ w) (hs : Stb γ) (h : mUpon P S w ((execOp a.eval o).run P w)) (hk : ∀ v w', S v → CX W β γ w' → K' (a.put o.dst v) w') : o.wp P a w K' Q' := by
  unfold Oper.wp
  generalize (execOp a.eval o).run P w = r at *
  cases r with
  | ok n w' =>
    cases n <;> simp only [mUpon] at h <;> simp only [Oper.upon]
    case value u => exact hk _ _ h.2 (hc.up hs h.1)
    case skip => exact hk _ _ h.2 (hc.up hs h.1)
    case enter f args =>
      refine h.mono ?_
      rintro e w'' ⟨v, rfl, hv, hb⟩
      exact hk _ _ hv (hc.up hs hb)
  | halt x w' => simp only [mUpon] at h
theorem wp_mUponW {S : Value → World → Prop} {β : Hd} {γ : World → Prop} {o : Oper} {a : Act} {K' : Act → World → Prop} {w : World} (hc : CX W β γ w) (hs : Stb γ) (h : mUponW P S w ((execOp a.eval o).run P w)) (hk : ∀ v w', S v w' → CX W β γ w' → K' (a.put o.dst v) w') : o.wp P a w K' Q' := by
  unfold Oper.wp
  generalize (execOp a.eval o).run P w = r at *
  cases r with
  | ok n w' =>
    cases n <;> simp only [mUponW] at h <;> simp only [Oper.upon]
    case value u => exact hk _ _ h.2 (hc.up hs h.1)
    case skip => exact hk _ _ h.2 (hc.up hs h.1)
    case enter f args =>
      refine h.mono ?_
      rintro e w'' ⟨v, rfl, hv, hb⟩
      exact hk _ _ hv (hc.up hs hb)
  | halt x w' => simp only [mUponW] at h
theorem wpOp_some {i : Nat} {o : Oper} {a : Act} {w : World} {K : Act → World → Prop} (ho : ops[i]? = some o) (h1 : wantB ops o a = true → o.wp P a w K Q') (h2 : wantB ops o a = false → K (a.put o.dst undef) w) : wpOp P ops Q' i K a w := by
  unfold wpOp
  rw [ho]
  have e : Region.wanted o (yielded ops a.tmps) = wantB ops o a := rfl
  simp only [e]
  cases hw : wantB ops o a with
  | true => simp only [if_true]; exact .inl (h1 hw)
  | false => simp only [Bool.false_eq_true, if_false]; exact h2 hw
theorem wpAnyX_sound {Ks : Nat → Kx} : ∀ (fuel : Nat) (listed : Array Bool) (β : Hd) (γ : World → Prop) (a : Act) (w : World), Stb γ → CX W β γ w → wpAnyX P md ops W Ks Q' m fuel listed β γ a → wpAny P md ops Q' fuel listed a w
  | 0, _, _, _, _, w, _, hw, h => ⟨h.1, h.2 w hw⟩
  | fuel + 1, listed, β, γ, a, w, hs, hw, h => by
    refine ⟨fun h0 => h.1 h0 w hw, fun i hi => ?_⟩
    by_cases him : m ≤ i
    · exact (h.2 i hi).2 him w hw
    · obtain ⟨o, ho⟩ := ready_is hi
      obtain ⟨hq, h1⟩ := (h.2 i hi).1 (by omega) o ho
      have hstb := fun v β' γ' (e : Ef W (Ks i) β γ (wantB ops o a) v β' γ') => ef_stb hq e hs
      cases hk : Ks i with
      | lets S =>
        rw [hk] at hq h1
        refine wpOp_some ho (fun hwt => ?_) (fun hwt => ?_)
        · refine wp_mUpon hw hs ((hq hwt).2 w hw.low) (fun v w' hv hc => wpAnyX_sound fuel _ β γ _ w' hs hc (h1 v β γ ⟨?_, rfl, rfl⟩))
          rw [hwt]
          exact hv
        · refine wpAnyX_sound fuel _ β γ _ w hs hw (h1 undef β γ ⟨?_, rfl, rfl⟩)
          rw [hwt]
          rfl
      | pure u =>
        rw [hk] at hq h1
        exact Yields.wpOp ho hq (wpAnyX_sound fuel _ β γ _ w hs hw (h1 u β γ ⟨rfl, rfl, rfl⟩))
      | made T S =>
        rw [hk] at hq h1 hstb
        refine wpOp_some ho (fun _ => ?_) (fun hwt => (by rw [hq.1] at hwt; cases hwt))
        refine wp_mUponW hw hs (hq.2.2.2 w hw.low) (fun v w' hv hc => ?_)
        exact wpAnyX_sound fuel _ β _ _ w' (hstb v β _ ⟨hv.1, rfl, rfl⟩) ⟨hc.low, hc.held, hc.fact, hv.2⟩ (h1 v β _ ⟨hv.1, rfl, rfl⟩)
      | new obj =>
        rw [hk] at hq h1
        obtain ⟨hwt, hrun⟩ := hq
        have hno : β w.heap.size = none := by
          cases e : β w.heap.size with
          | none => rfl
          | some o' =>
            have := (Array.getElem?_eq_some_iff.1 (hw.held _ _ e)).1
            omega
        refine wpOp_some ho (fun _ => ?_) (fun hwt' => (by rw [hwt] at hwt'; cases hwt'))
        unfold Oper.wp
        rw [hrun]
        simp only [Oper.upon]
        refine wpAnyX_sound fuel _ _ γ _ _ hs ⟨hw.low.alloc hw.low.size obj, fun b o' hb => ?_, hs _ _ hw.fact ((Below.refl _ w).alloc (Nat.le_refl _) obj)⟩ (h1 (ptr w.heap.size) (β.put w.heap.size obj) γ ⟨w.heap.size, rfl, ⟨hw.low.size, hno⟩, rfl, rfl⟩)
        unfold Hd.put at hb
        by_cases eb : b = w.heap.size
        · rw [if_pos eb] at hb
          cases hb
          rw [eb]
          show (w.heap.push obj)[w.heap.size]? = _
          exact Array.getElem?_push_size
        · rw [if_neg eb] at hb
          have h3 := hw.held b o' hb
          have h4 := (Array.getElem?_eq_some_iff.1 h3).1
          rw [← h3]
          show (w.heap.push obj)[b]? = _
          rw [Array.getElem?_push, if_neg (by omega)]
theorem Rq.of_put {k : Kx} {o : Oper} {a a' : Act} (he : execOp a'.eval o = execOp a.eval o) (hw : wantB ops o a' = wantB ops o a) (h : Rq P ops W k o a) : Rq P ops W k o a' := by
  cases k with
  | lets S => exact LetsM.of_put he hw h
  | new obj => exact IsNew.of_put he hw h
  | made T S => unfold Rq at *; rw [he, hw]; exact h
  | pure u => exact Yields.of_same h he hw
theorem ef_some {k : Kx} {β : Hd} (γ : World → Prop) {o : Oper} {a : Act} (hf : β.fin) (h : Rq P ops W k o a) : ∃ v β' γ', Ef W k β γ (wantB ops o a) v β' γ' := by
  cases k with
  | lets S =>
    obtain ⟨v, hv⟩ := LetsM.some h
    exact ⟨v, β, γ, hv, rfl, rfl⟩
  | new obj =>
    obtain ⟨b, hb⟩ := hf.some W
    exact ⟨_, _, γ, b, rfl, hb, rfl, rfl⟩
  | made T S =>
    obtain ⟨v, hv⟩ := h.2.1
    exact ⟨v, β, _, hv, rfl, rfl⟩
  | pure u => exact ⟨u, β, γ, rfl, rfl, rfl⟩
theorem ef_diamond {ki kj : Kx} {β β1 β2 : Hd} {γ γ1 γ2 : World → Prop} {wi wj : Bool} {u v : Value} (hj : Ef W kj β γ wj u β1 γ1) (hi : Ef W ki β1 γ1 wi v β2 γ2) : ∃ β' γ', Ef W ki β γ wi v β' γ' ∧ Ef W kj β' γ' wj u β2 γ2 := by
  have swp : ∀ (A B : World → Prop), (fun w => (γ w ∧ A w) ∧ B w) = fun w => (γ w ∧ B w) ∧ A w := fun A B => by
    funext w
    exact propext ⟨fun ⟨⟨h1, h2⟩, h3⟩ => ⟨⟨h1, h3⟩, h2⟩, fun ⟨⟨h1, h2⟩, h3⟩ => ⟨⟨h1, h3⟩, h2⟩⟩
  cases kj with
  | lets S =>
    obtain ⟨hu, rfl, rfl⟩ := hj
    exact ⟨β2, γ2, hi, hu, rfl, rfl⟩
  | pure S =>
    obtain ⟨hu, rfl, rfl⟩ := hj
    exact ⟨β2, γ2, hi, hu, rfl, rfl⟩
  | made T S =>
    obtain ⟨hu, rfl, rfl⟩ := hj
    cases ki with
    | lets S' =>
      obtain ⟨hv, rfl, rfl⟩ := hi
      exact ⟨_, _, ⟨hv, rfl, rfl⟩, hu, rfl, rfl⟩
    | pure S' =>
      obtain ⟨hv, rfl, rfl⟩ := hi
      exact ⟨_, _, ⟨hv, rfl, rfl⟩, hu, rfl, rfl⟩
    | made T' S' =>
      obtain ⟨hv, rfl, rfl⟩ := hi
      exact ⟨_, _, ⟨hv, rfl, rfl⟩, hu, rfl, swp _ _⟩
    | new obj =>
      obtain ⟨b, rfl, hb, rfl, rfl⟩ := hi
      exact ⟨_, _, ⟨b, rfl, hb, rfl, rfl⟩, hu, rfl, rfl⟩
  | new obj =>
    obtain ⟨c, rfl, hc, rfl, rfl⟩ := hj
    cases ki with
    | lets S' =>
      obtain ⟨hv, rfl, rfl⟩ := hi
      exact ⟨_, _, ⟨hv, rfl, rfl⟩, c, rfl, hc, rfl, rfl⟩
    | pure S' =>
      obtain ⟨hv, rfl, rfl⟩ := hi
      exact ⟨_, _, ⟨hv, rfl, rfl⟩, c, rfl, hc, rfl, rfl⟩
    | made T' S' =>
      obtain ⟨hv, rfl, rfl⟩ := hi
      exact ⟨_, _, ⟨hv, rfl, rfl⟩, c, rfl, hc, rfl, rfl⟩
    | new obj' =>
      obtain ⟨b, rfl, hb, rfl, rfl⟩ := hi
      obtain ⟨hb', hne⟩ := hb.of_put
      exact ⟨_, _, ⟨b, rfl, hb', rfl, rfl⟩, c, rfl, hc.to_put (Ne.symm hne), (put_swap hne).symm, rfl⟩
/-- two that are apart may change places. -/
theorem kF_swap {ki kj : Kx} {oi oj : Oper} {β : Hd} {γ : World → Prop} {a : Act} {K : Hd → (World → Prop) → Act → Prop} (hap : oi.apart ops oj = true) (hsi : ∀ cs b, oi.op ≠ .select cs b) (hsj : ∀ cs b, oj.op ≠ .select cs b) (hf : β.fin)
    (h : kF P ops W ki β γ oi a fun β' γ' a' => kF P ops W kj β' γ' oj a' K) : kF P ops W kj β γ oj a fun β' γ' a' => kF P ops W ki β' γ' oi a' K := by
  obtain ⟨h1, h2, h3⟩ := Oper.apart_spec hap
  obtain ⟨hq, h⟩ := h
  obtain ⟨v0, β0, γ0, e0⟩ := ef_some γ hf hq
  refine ⟨Rq.of_put (execOp_put oj hsj a oi.dst v0 h1).symm (want_put a v0 hap).1.symm (h v0 β0 γ0 e0).1, fun u β1 γ1 e1 => ⟨Rq.of_put (execOp_put oi hsi a oj.dst u h3) (want_put a u hap).2 hq, fun v β2 γ2 e2 => ?_⟩⟩
  rw [(want_put a u hap).2] at e2
  obtain ⟨β', γ', f1, f2⟩ := ef_diamond e1 e2
  rw [← Act.put_comm a v u h2]
  refine (h v β' γ' f1).2 u β2 γ2 ?_
  rw [(want_put a v hap).1]
  exact f2
theorem kF_mono {k : Kx} {o : Oper} {β : Hd} {γ : World → Prop} {a : Act} {K K' : Hd → (World → Prop) → Act → Prop} (hf : β.fin) (hs : Stb γ) (h : ∀ β' γ' a', β'.fin → Stb γ' → K β' γ' a' → K' β' γ' a') (hk : kF P ops W k β γ o a K) : kF P ops W k β γ o a K' :=
  ⟨hk.1, fun v β' γ' e => h _ _ _ (ef_fin e hf) (ef_stb hk.1 e hs) (hk.2 v β' γ' e)⟩
theorem wpAnyX_first {Ks : Nat → Kx} {i : Nat} {oi : Oper} (hi : ops[i]? = some oi) (hlast : (∀ j listed, Clo md ops listed → m ≤ j → j ∈ Region.ready md ops listed → listed.getD i true = true) ∨ ∃ v, Ks i = .pure v ∧ ∀ c a w, Q' (.panic c) (a.put oi.dst v) w → Q' (.panic c) a w) (hsel : ∀ (j : Nat) (o : Oper) cs b, ops[j]? = some o → o.op ≠ .select cs b) :
    ∀ (fuel : Nat) (listed : Array Bool) (β : Hd) (γ : World → Prop) (a : Act), β.fin → Stb γ → Clo md ops listed →
      (∀ j oj, ops[j]? = some oj → j ≠ i → listed.getD j true = false → (∀ e ∈ oj.after, Region.binds md e = true → e.on ≠ i) → oi.apart ops oj = true) →
      i ∈ Region.ready md ops listed → kF P ops W (Ks i) β γ oi a (wpAnyX P md ops W Ks Q' m fuel (listed.setIfInBounds i true)) → wpAnyX P md ops W Ks Q' m (fuel + 1) listed β γ a := by
  intro fuel
  induction fuel with
  | zero =>
    intro listed β γ a hf hs hc hfree hr H
    refine ⟨fun h => (by rw [h] at hr; cases hr), fun j hj => ⟨fun _ => ?_, fun hjm => ?_⟩⟩
    · by_cases hji : j = i
      · subst hji
        intro o ho
        rw [hi] at ho
        cases ho
        exact H
      · obtain ⟨v, β', γ', e⟩ := ef_some γ hf H.1
        have hK := H.2 v β' γ' e
        have h1 := ready_mono hj hji
        rw [hK.1] at h1
        cases h1
    · rcases hlast with hlast | ⟨v, hk, hQ⟩
      · have h1 := hlast j _ hc hjm hj
        rw [(mem_ready.1 hr).1] at h1
        cases h1
      · intro w hw
        rw [hk] at H
        exact (wpAny_first hi hsel hQ _ listed a w hfree hr H.1 (wpAnyX_sound _ _ β γ _ w hs hw (H.2 v β γ ⟨rfl, rfl, rfl⟩))).2 j hj
  | succ fuel ih =>
    intro listed β γ a hf hs hc hfree hr H
    refine ⟨fun h => (by rw [h] at hr; cases hr), fun j hj => ⟨fun hjm => ?_, fun hjm => ?_⟩⟩
    · by_cases hji : j = i
      · subst hji
        intro o ho
        rw [hi] at ho
        cases ho
        exact H
      · obtain ⟨hjun, oj, hoj, hall⟩ := mem_ready.1 hj
        have hnot : ∀ e ∈ oj.after, Region.binds md e = true → e.on ≠ i := fun e he hb heq => by
          have h1 := hall e he hb
          have h0 := (mem_ready.1 hr).1
          rw [heq] at h1
          rcases Nat.lt_or_ge i listed.size with h' | h'
          · simp [h'] at h0 h1; rw [h0] at h1; cases h1
          · simp [Array.getElem?_eq_none h'] at h1
        have h2 := kF_swap (hfree j oj hoj hji hjun hnot) (fun cs b => hsel i oi cs b hi) (fun cs b => hsel j oj cs b hoj) hf (kF_mono hf hs (fun β' γ' a' _ _ hK => (hK.2 j (ready_mono hj hji)).1 hjm oj hoj) H)
        have hfree' : ∀ k ok, ops[k]? = some ok → k ≠ i → (listed.setIfInBounds j true).getD k true = false → (∀ e ∈ ok.after, Region.binds md e = true → e.on ≠ i) → oi.apart ops ok = true := fun k ok hk hki hun hno => by
          refine hfree k ok hk hki ?_ hno
          by_cases hjk : j = k
          · subst hjk; exact hjun
          · rw [getD_set_ne true hjk] at hun; exact hun
        intro o ho
        rw [hoj] at ho
        cases ho
        refine kF_mono hf hs (fun β' γ' a' hf' hs' h3 => ih (listed.setIfInBounds j true) β' γ' a' hf' hs' (hc.put hj) hfree' (ready_mono hr (Ne.symm hji)) ?_) h2
        rw [Array.setIfInBounds_comm _ _ hji]
        exact h3
    · rcases hlast with hlast | ⟨v, hk, hQ⟩
      · have h1 := hlast j _ hc hjm hj
        rw [(mem_ready.1 hr).1] at h1
        cases h1
      · intro w hw
        rw [hk] at H
        exact (wpAny_first hi hsel hQ _ listed a w hfree hr H.1 (wpAnyX_sound _ _ β γ _ w hs hw (H.2 v β γ ⟨rfl, rfl, rfl⟩))).2 j hj
def wpLexX (P : Program) (ops : Array Oper) (W : World) (Q : Hd → (World → Prop) → Act → Prop) : List Kx → List Oper → Hd → (World → Prop) → Act → Prop
  | k :: Kl, o :: rest, β, γ, a => kF P ops W k β γ o a (wpLexX P ops W Q Kl rest)
  | [], _, β, γ, a => Q β γ a
  | _ :: _, [], _, _, _ => False
theorem wpAnyX_lex {Ks : Nat → Kx} (hs : Region.noSelect ops = true) (hl : ∀ k o, ops[k]? = some o → k < m → (∀ j listed, Clo md ops listed → m ≤ j → j ∈ Region.ready md ops listed → listed.getD k true = true) ∨ ∃ v, Ks k = .pure v ∧ ∀ c a w, Q' (.panic c) (a.put o.dst v) w → Q' (.panic c) a w) (r : Nat) (L : Array Bool) (Kl : List Kx) :
    ∀ (l : List Oper) (k : Nat) (listed : Array Bool) (β : Hd) (γ : World → Prop) (a : Act), β.fin → Stb γ → Clo md ops listed → (∀ j, l[j]? = ops[k + j]?) → (∀ j, j < Kl.length → Ks (k + j) = Kl.getD j (.lets fun _ => False)) →
    lexFromT md ops m L Kl.length k listed = true → wpLexX P ops W (fun β γ a => ∀ w, CX W β γ w → wpAny P md ops Q' (r + 1) L a w) Kl l β γ a → wpAnyX P md ops W Ks Q' m (Kl.length + (r + 1)) listed β γ a := by
  induction Kl with
  | nil =>
    intro l k listed β γ a _ _ _ _ _ hB h
    simp only [List.length_nil, lexFromT, Bool.and_eq_true, beq_iff_eq, List.all_eq_true, decide_eq_true_eq] at hB
    obtain ⟨rfl, hB⟩ := hB
    rw [List.length_nil, Nat.zero_add]
    exact ⟨fun h0 w hw => (h w hw).1 h0, fun i hi => ⟨fun h' => absurd (hB i hi) (by omega), fun _ w hw => (h w hw).2 i hi⟩⟩
  | cons S Kl ih =>
    intro l k listed β γ a hf hst hc hl' hs' hB h
    cases l with
    | nil => exact h.elim
    | cons o rest =>
      have h0 : ops[k]? = some o := by simpa using (hl' 0).symm
      simp only [List.length_cons, lexFromT, Bool.and_eq_true, decide_eq_true_eq] at hB
      obtain ⟨⟨⟨hr, hkm⟩, hfr⟩, hB'⟩ := hB
      have e : Ks k = S := by simpa using hs' 0 (by simp)
      have en : (S :: Kl).length + (r + 1) = (Kl.length + (r + 1)) + 1 := by simp; omega
      rw [en]
      refine wpAnyX_first h0 (hl k o h0 hkm) (Region.noSelect_spec hs) (Kl.length + (r + 1)) listed β γ a hf hst hc (Region.free_spec h0 hfr) (by simpa using hr) ?_
      rw [e]
      refine kF_mono hf hst (fun β' γ' a' hf' hst' hK => ?_) h
      refine ih rest (k + 1) _ β' γ' a' hf' hst' (hc.put (by simpa using hr)) (fun j => by have := hl' (j + 1); simpa [Nat.add_assoc, Nat.add_comm 1 j] using this) (fun j hj => ?_) hB' hK
      have h1 := hs' (j + 1) (by simpa using hj)
      rw [Nat.add_assoc, Nat.add_comm 1 j, h1]
      simp
/-- those of the end wait for all but the pure ones. -/
def tailP (md : Region.Mode) (ops : Array Oper) (m : Nat) (ps : List Nat) : Bool := (List.range ops.size).all fun t => decide (t < m) || (List.range m).all fun j => ps.contains j || reachN md ops ops.size t j
theorem tailP_spec {ps : List Nat} (h : tailP md ops m ps = true) {i : Nat} (hi : i < m) (hp : ps.contains i = false) (t : Nat) (listed : Array Bool) (hc : Clo md ops listed) (ht : m ≤ t) (hr : t ∈ Region.ready md ops listed) : listed.getD i true = true := by
  obtain ⟨_, o, ho, hall⟩ := mem_ready.1 hr
  have hts : t < ops.size := (Array.getElem?_eq_some_iff.1 ho).1
  unfold tailP at h
  rw [List.all_eq_true] at h
  have h := h t (List.mem_range.2 hts)
  rw [Bool.or_eq_true, decide_eq_true_eq] at h
  rcases h with h | h
  · omega
  · rw [List.all_eq_true] at h
    have h := h i (List.mem_range.2 hi)
    rw [hp, Bool.false_or] at h
    exact getD_true (reachN_spec hc _ t h (fun o' ho' e he hb => by rw [ho] at ho'; cases ho'; exact hall e he hb))
theorem any_pure {Q : Exit → Act → World → Prop} {a : Act} {w : World} {l : List Oper} (r : Nat) (L : Array Bool) (Kl : List Kx) (ps : List Nat) (hn : Region.noSelect l.toArray = true) (hz : l.length = Kl.length + (r + 1))
    (hp : ∀ i, ps.contains i = true → ∃ v, Kl.getD i (.lets fun _ => False) = .pure v) (hQ : ∀ d v c a w, Q (.panic c) (a.put d v) w → Q (.panic c) a w)
    (hl : tailP .any l.toArray Kl.length ps = true) (hB : lexFromT .any l.toArray Kl.length L Kl.length 0 (Array.replicate l.toArray.size false) = true)
    (h : wpLexX P l.toArray w (fun β γ a => ∀ v, CX w β γ v → wpAny P .any l.toArray Q (r + 1) L a v) Kl l hd0 (fun _ => True) a) : wpAny P .any l.toArray Q l.toArray.size (Array.replicate l.toArray.size false) a (w.drewN 1) := by
  have e : l.toArray.size = Kl.length + (r + 1) := by simpa using hz
  rw [e] at hB ⊢
  refine wpAnyX_sound (Ks := fun k => Kl.getD k (.lets fun _ => False)) (m := Kl.length) _ _ _ _ _ _ (fun _ _ h _ => h) ⟨below_drewN (Below.refl _ w) 1, fun _ _ h => (by cases h), trivial⟩
    (wpAnyX_lex hn (fun k o ho hk => ?_) r L Kl l 0 _ hd0 _ a fin0 (fun _ _ h _ => h) (fun k ok _ h => absurd h (by simp [Array.getElem?_replicate]; split <;> rfl)) (by simp) (fun j _ => by rw [Nat.zero_add]) hB h)
  cases hc : ps.contains k with
  | true =>
    obtain ⟨v, hv⟩ := hp k hc
    exact .inr ⟨v, hv, fun c a w h => hQ _ v c a w h⟩
  | false => exact .inl (fun j listed hcl hj hr => tailP_spec hl hk hc j listed hcl hj hr)
theorem wp_region_pure {id : Nat} {Q : Exit → Act → World → Prop} {a : Act} {w : World} {l : List Oper} (r : Nat) (L : Array Bool) (Kl : List Kx) (ps : List Nat) (hm : P.follows .mixedOrders = true) (hn : Region.noSelect l.toArray = true) (hz : l.length = Kl.length + (r + 1))
    (hp : ∀ i, ps.contains i = true → ∃ v, Kl.getD i (.lets fun _ => False) = .pure v) (hQ : ∀ d v c a w, Q (.panic c) (a.put d v) w → Q (.panic c) a w)
    (hl : tailP .any l.toArray Kl.length ps = true) (hB : lexFromT .any l.toArray Kl.length L Kl.length 0 (Array.replicate l.toArray.size false) = true)
    (h : wpLexX P l.toArray w (fun β γ a => ∀ v, CX w β γ v → wpAny P .any l.toArray Q (r + 1) L a v) Kl l hd0 (fun _ => True) a) : (Code.region id l.toArray true).wp P Q a w :=
  wp_region_any hm (any_pure r L Kl ps hn hz hp hQ hl hB h)
theorem lexX_step {Q : Hd → (World → Prop) → Act → Prop} {S : Value → Prop} {Kl : List Kx} {o : Oper} {rest : List Oper} {β : Hd} {γ : World → Prop} {a : Act}
    (h : ∀ K : Act → Prop, (∀ a, wpLexX P ops W Q Kl rest β γ a → K a) →
      wantB ops o a = true ∧ (∃ v, S v) ∧ (∀ v, Below W.heap.size W v → mUpon P S v ((execOp a.eval o).run P v)) ∧ ∀ v, S v → K (a.put o.dst v)) :
    wpLexX P ops W Q (.lets S :: Kl) (o :: rest) β γ a := by
  obtain ⟨h1, h2, h3, h4⟩ := h _ (fun _ h => h)
  refine ⟨fun _ => ⟨h2, h3⟩, ?_⟩
  rintro v β' γ' ⟨hv, rfl, rfl⟩
  rw [h1] at hv
  exact h4 v hv
theorem lexX_pure {Q : Hd → (World → Prop) → Act → Prop} {v : Value} {Kl : List Kx} {o : Oper} {rest : List Oper} {β : Hd} {γ : World → Prop} {a : Act}
    (h : ∀ K : Act → Prop, (∀ a, wpLexX P ops W Q Kl rest β γ a → K a) → Yields P ops o v a ∧ K (a.put o.dst v)) :
    wpLexX P ops W Q (.pure v :: Kl) (o :: rest) β γ a := by
  obtain ⟨h1, h4⟩ := h _ (fun _ h => h)
  refine ⟨h1, ?_⟩
  rintro u β' γ' ⟨rfl, rfl, rfl⟩
  exact h4
theorem lexX_made {Q : Hd → (World → Prop) → Act → Prop} {T : Value → Prop} {S : Value → World → Prop} {Kl : List Kx} {o : Oper} {rest : List Oper} {β : Hd} {γ : World → Prop} {a : Act}
    (h : wantB ops o a = true ∧ (∃ v, T v) ∧ (∀ v, Stb (S v)) ∧ (∀ v, Below W.heap.size W v → mUponW P (fun u w' => T u ∧ S u w') v ((execOp a.eval o).run P v)) ∧ ∀ v, T v → ∀ K : Act → Prop, (∀ a, wpLexX P ops W Q Kl rest β (fun w => γ w ∧ S v w) a → K a) → K (a.put o.dst v)) :
    wpLexX P ops W Q (.made T S :: Kl) (o :: rest) β γ a := by
  obtain ⟨h1, h2, h3, h4, h5⟩ := h
  refine ⟨⟨h1, h2, h3, h4⟩, ?_⟩
  rintro v β' γ' ⟨hv, rfl, rfl⟩
  exact h5 v hv _ (fun _ h => h)
theorem lexX_new {Q : Hd → (World → Prop) → Act → Prop} {obj : Obj} {Kl : List Kx} {o : Oper} {rest : List Oper} {β : Hd} {γ : World → Prop} {a : Act} (hf : ∃ b, Free W β b)
    (h : ∀ (b : Nat), Free W β b → ∀ K : Act → Prop, (∀ a, wpLexX P ops W Q Kl rest (β.put b obj) γ a → K a) → wantB ops o a = true ∧ (∀ v, (execOp a.eval o).run P v = .ok (.value (ptr v.heap.size)) (v.alloc obj)) ∧ K (a.put o.dst (ptr b))) :
    wpLexX P ops W Q (.new obj :: Kl) (o :: rest) β γ a := by
  obtain ⟨b0, hb0⟩ := hf
  obtain ⟨h1, h2, _⟩ := h b0 hb0 (fun _ => True) (fun _ _ => trivial)
  refine ⟨⟨h1, h2⟩, ?_⟩
  rintro v β' γ' ⟨b, rfl, hb, rfl, rfl⟩
  exact (h b hb _ (fun _ h => h)).2.2
theorem lexX_end {Q : Hd → (World → Prop) → Act → Prop} {rest : List Oper} {β : Hd} {γ : World → Prop} {a : Act} (h : Q β γ a) : wpLexX P ops W Q [] rest β γ a := h
end
end Go.Proofs.YtoacdaemhcbbhaaDoor.Y
