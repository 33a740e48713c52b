/-
  A region that draws its order, each operation of which yields ONE OF A SET of values, told ahead, in every world of a class: the order of the text serves every order. (For numbers with a point: which bits a NaN has hangs on the draws.)
-/
import Derived.Test.YtmgnobeaacjdjacProg
import Derived.Still
import Derived.Deep.Draws
namespace Go.Proofs.Ytmgnobeaacjdjac
open Go

section
variable {P : Program} {ops : Array Oper} {md : Region.Mode} {C : World → Prop} {Ss : Nat → Value → Prop}

def lUpon (P : Program) (C : World → Prop) (S : Value → Prop) : Result Next → Prop
  | .ok (.value u) w' => C w' ∧ S u
  | .ok .skip w' => C w' ∧ S undef
  | .ok (.enter f args) w' => Calls P f args w' fun e w'' => ∃ v, e = .returned v ∧ S v ∧ C w''
  | _ => False
def lAt (P : Program) (C : World → Prop) (S : Value → Prop) (o : Oper) (a : Act) (w : World) : Prop := lUpon P C S ((execOp a.eval o).run P w)
def wantB (ops : Array Oper) (o : Oper) (a : Act) : Bool := Region.wanted o (yielded ops a.tmps)
/-- the values that it may leave. -/
def valsOf (S : Value → Prop) (b : Bool) (v : Value) : Prop := if b then S v else v = undef
/-- if it is wanted, it leaves one of the set, in every world of the class. -/
def Lets (P : Program) (ops : Array Oper) (C : World → Prop) (S : Value → Prop) (o : Oper) (a : Act) : Prop := wantB ops o a = true → (∃ v, S v) ∧ ∀ w, C w → lAt P C S o a w
def lOp (P : Program) (ops : Array Oper) (C : World → Prop) (Ss : Nat → Value → Prop) (i : Nat) (K : Act → Prop) (a : Act) : Prop :=
  ∀ o, ops[i]? = some o → Lets P ops C (Ss i) o a ∧ ∀ v, valsOf (Ss i) (wantB ops o a) v → K (a.put o.dst v)
def wpAnyL (P : Program) (md : Region.Mode) (ops : Array Oper) (C : World → Prop) (Ss : Nat → Value → Prop) (Q : Act → Prop) : Nat → Array Bool → Act → Prop
  | 0, listed, a => Region.ready md ops listed = [] ∧ Q a
  | fuel + 1, listed, a => (Region.ready md ops listed = [] → Q a) ∧ ∀ i ∈ Region.ready md ops listed, lOp P ops C Ss i (wpAnyL P md ops C Ss Q fuel (listed.setIfInBounds i true)) a
/-- the walk in the order of the text. -/
def wpLex (P : Program) (ops : Array Oper) (C : World → Prop) (Ss : Nat → Value → Prop) (Q : Act → Prop) : Nat → List Oper → Act → Prop
  | _, [], a => Q a
  | k, o :: rest, a => Lets P ops C (Ss k) o a ∧ ∀ v, valsOf (Ss k) (wantB ops o a) v → wpLex P ops C Ss Q (k + 1) rest (a.put o.dst v)

theorem Lets.some {S : Value → Prop} {o : Oper} {a : Act} (h : Lets P ops C S o a) : ∃ v, valsOf S (wantB ops o a) v := by
  unfold valsOf
  cases e : wantB ops o a with
  | false => exact ⟨undef, rfl⟩
  | true => exact (h e).1
theorem lOp.mono {i : Nat} {a : Act} {K K' : Act → Prop} (h : ∀ a, K a → K' a) (hh : lOp P ops C Ss i K a) : lOp P ops C Ss i K' a :=
  fun o ho => ⟨(hh o ho).1, fun v hv => h _ ((hh o ho).2 v hv)⟩
theorem wp_of_lets {S : Value → Prop} {o : Oper} {a : Act} {K : Act → Prop} {K' : Act → World → Prop} {Q' : Exit → Act → World → Prop} {w : World} (h : ∀ a w', C w' → K a → K' a w')
    (hl : lAt P C S o a w) (hk : ∀ v, S v → K (a.put o.dst v)) : o.wp P a w K' Q' := by
  unfold lAt at hl
  unfold Oper.wp
  generalize (execOp a.eval o).run P w = r at *
  cases r with
  | ok n w' =>
    cases n <;> simp only [lUpon] at hl <;> simp only [Oper.upon]
    case value u => exact h _ _ hl.1 (hk u hl.2)
    case skip => exact h _ _ hl.1 (hk _ hl.2)
    case enter f args =>
      refine hl.mono ?_
      rintro e w'' ⟨v, rfl, hs, hc⟩
      exact h _ _ hc (hk v hs)
  | halt x w' => simp only [lUpon] at hl
theorem wpOp_of_lOp {i : Nat} {a : Act} {K : Act → Prop} {K' : Act → World → Prop} {Q' : Exit → Act → World → Prop} {w : World} (hC : C w) (h : ∀ a w', C w' → K a → K' a w') (hi : ∃ o, ops[i]? = some o) (hh : lOp P ops C Ss i K a) : wpOp P ops Q' i K' a w := by
  obtain ⟨o, ho⟩ := hi
  obtain ⟨h1, h2⟩ := hh o ho
  unfold wpOp
  simp only [ho]
  have e : Region.wanted o (yielded ops a.tmps) = wantB ops o a := rfl
  rw [e]
  cases hw : wantB ops o a with
  | true =>
    rw [hw] at h2
    simp only [if_true]
    exact .inl (wp_of_lets h ((h1 hw).2 w hC) h2)
  | false =>
    rw [hw] at h2
    simp only [Bool.false_eq_true, if_false]
    exact h _ _ hC (h2 undef rfl)
theorem ready_is {i : Nat} {listed : Array Bool} (h : i ∈ Region.ready md ops listed) : ∃ o, ops[i]? = some o := by
  obtain ⟨_, o, ho, _⟩ := mem_ready.1 h
  exact ⟨o, ho⟩
theorem wpAny_of_lets {Q : Act → Prop} {Q' : Exit → Act → World → Prop} (hQ : ∀ a w, C w → Q a → Q' .normal a w) : ∀ (fuel : Nat) (listed : Array Bool) (a : Act) (w : World), C w → wpAnyL P md ops C Ss Q fuel listed a → wpAny P md ops Q' fuel listed a w
  | 0, _, _, _, hw, h => ⟨h.1, hQ _ _ hw h.2⟩
  | fuel + 1, _, _, _, hw, h => ⟨fun h0 => hQ _ _ hw (h.1 h0), fun i hi => wpOp_of_lOp hw (fun a' w' hw' => wpAny_of_lets hQ fuel _ a' w' hw') (ready_is hi) (h.2 i hi)⟩

theorem want_put {oi oj : Oper} (a : Act) (v : Value) (h : oi.apart ops oj = true) : wantB ops oj (a.put oi.dst v) = wantB ops oj a ∧ wantB ops oi (a.put oj.dst v) = wantB ops oi a := by
  obtain ⟨h1, _, h3⟩ := Oper.apart_spec h
  exact ⟨wanted_put oj a oi.dst v h1, wanted_put oi a oj.dst v h3⟩
theorem Lets.of_put {S : Value → Prop} {o : Oper} {a a' : Act} (he : execOp a'.eval o = execOp a.eval o) (hw : wantB ops o a' = wantB ops o a) (h : Lets P ops C S o a) : Lets P ops C S o a' := by
  unfold Lets lAt at *
  rw [he, hw]
  exact h
/-- one that is apart from it may come ahead. -/
theorem lOp_put {i j : Nat} {oi oj : Oper} (hj : ops[j]? = some oj) (hap : oi.apart ops oj = true) (hsi : ∀ cs b, oi.op ≠ .select cs b) (hsj : ∀ cs b, oj.op ≠ .select cs b) {K : Act → Prop} {a : Act}
    (hy : Lets P ops C (Ss i) oi a) (h : ∀ v, valsOf (Ss i) (wantB ops oi a) v → lOp P ops C Ss j K (a.put oi.dst v)) :
    lOp P ops C Ss j (fun a' => Lets P ops C (Ss i) oi a' ∧ ∀ v, valsOf (Ss i) (wantB ops oi a') v → K (a'.put oi.dst v)) a := by
  obtain ⟨h1, h2, h3⟩ := Oper.apart_spec hap
  intro o ho
  rw [hj] at ho
  cases ho
  obtain ⟨v0, hv0⟩ := hy.some
  refine ⟨Lets.of_put (execOp_put oj hsj a oi.dst v0 h1).symm (want_put a v0 hap).1.symm (h v0 hv0 oj hj).1, ?_⟩
  intro u hu
  refine ⟨Lets.of_put (execOp_put oi hsi a oj.dst u h3) (want_put a u hap).2 hy, ?_⟩
  intro v hv
  rw [(want_put a u hap).2] at hv
  rw [← Act.put_comm a v u h2]
  refine (h v hv oj hj).2 u ?_
  rw [(want_put a v hap).1]
  exact hu
theorem wpAnyL_first {Q : Act → Prop} {i : Nat} {oi : Oper} (hi : ops[i]? = some oi) (hsel : ∀ (j : Nat) (o : Oper) cs b, ops[j]? = some o → o.op ≠ .select cs b) :
    ∀ (fuel : Nat) (listed : Array Bool) (a : Act),
      (∀ j oj, ops[j]? = some oj → j ≠ i → listed.getD j true = false → (∀ e ∈ oj.after, Region.binds md e = true → e.on ≠ i) → oi.apart ops oj = true) →
      i ∈ Region.ready md ops listed → Lets P ops C (Ss i) oi a →
      (∀ v, valsOf (Ss i) (wantB ops oi a) v → wpAnyL P md ops C Ss Q fuel (listed.setIfInBounds i true) (a.put oi.dst v)) → wpAnyL P md ops C Ss Q (fuel + 1) listed a := by
  intro fuel
  induction fuel with
  | zero =>
    intro listed a _ hr hy H
    refine ⟨fun h => (by rw [h] at hr; cases hr), fun j hj => ?_⟩
    by_cases hji : j = i
    · subst hji
      intro o ho
      rw [hi] at ho
      cases ho
      exact ⟨hy, H⟩
    · obtain ⟨v0, hv0⟩ := hy.some
      have h1 := ready_mono hj hji
      rw [(H v0 hv0).1] at h1
      cases h1
  | succ fuel ih =>
    intro listed a hfree hr hy H
    refine ⟨fun h => (by rw [h] at hr; cases hr), fun j hj => ?_⟩
    by_cases hji : j = i
    · subst hji
      intro o ho
      rw [hi] at ho
      cases ho
      exact ⟨hy, H⟩
    · obtain ⟨hjun, oj, hoj, hall⟩ := mem_ready.1 hj
      have hnot : ∀ e ∈ oj.after, Region.binds md e = true → e.on ≠ i := fun e he hb heq => by
        have h1 := hall e he hb
        have h0 := (mem_ready.1 hr).1
        rw [heq] at h1
        rcases Nat.lt_or_ge i listed.size with h' | h'
        · simp [h'] at h0 h1; rw [h0] at h1; cases h1
        · simp [Array.getElem?_eq_none h'] at h1
      have h2 := lOp_put (i := i) (Ss := Ss) hoj (hfree j oj hoj hji hjun hnot) (fun cs b => hsel i oi cs b hi) (fun cs b => hsel j oj cs b hoj) hy (fun v hv => (H v hv).2 j (ready_mono hj hji))
      have hfree' : ∀ k ok, ops[k]? = some ok → k ≠ i → (listed.setIfInBounds j true).getD k true = false → (∀ e ∈ ok.after, Region.binds md e = true → e.on ≠ i) → oi.apart ops ok = true := fun k ok hk hki hun hno => by
        refine hfree k ok hk hki ?_ hno
        by_cases hjk : j = k
        · subst hjk; exact hjun
        · rw [getD_set_ne true hjk] at hun; exact hun
      refine lOp.mono (fun a' h3 => ih (listed.setIfInBounds j true) a' hfree' (ready_mono hr (Ne.symm hji)) h3.1 fun v hv => ?_) h2
      rw [Array.setIfInBounds_comm _ _ hji]
      exact h3.2 v hv
theorem wpAnyL_lex {Q : Act → Prop} (hs : Region.noSelect ops = true) : ∀ (l : List Oper) (k : Nat) (listed : Array Bool) (a : Act), (∀ j, l[j]? = ops[k + j]?) →
    Region.lexFrom md ops l.length k listed = true → wpLex P ops C Ss Q k l a → wpAnyL P md ops C Ss Q l.length listed a
  | [], _, _, _, _, hB, h => ⟨by simpa [Region.lexFrom] using hB, h⟩
  | o :: l, k, listed, a, hl, hB, h => by
    have h0 : ops[k]? = some o := by simpa using (hl 0).symm
    simp only [List.length_cons, Region.lexFrom, Bool.and_eq_true] at hB
    obtain ⟨⟨hr, hf⟩, hB'⟩ := hB
    exact wpAnyL_first h0 (Region.noSelect_spec hs) l.length listed a (Region.free_spec h0 hf) (by simpa using hr) h.1
      fun v hv => wpAnyL_lex hs l (k + 1) _ _ (fun j => by have := hl (j + 1); simpa [Nat.add_assoc, Nat.add_comm 1 j] using this) hB' (h.2 v hv)
/-- the same, the sets in a list. -/
def wpLexL (P : Program) (ops : Array Oper) (C : World → Prop) (Q : Act → Prop) : List (Value → Prop) → List Oper → Act → Prop
  | S :: Sl, o :: rest, a => Lets P ops C S o a ∧ ∀ v, valsOf S (wantB ops o a) v → wpLexL P ops C Q Sl rest (a.put o.dst v)
  | [], [], a => Q a
  | _, _, _ => False
theorem wpLex_of_L {Q : Act → Prop} (Sl : List (Value → Prop)) : ∀ (l : List Oper) (k : Nat) (a : Act), (∀ j, j < Sl.length → Ss (k + j) = Sl.getD j fun _ => False) → wpLexL P ops C Q Sl l a → wpLex P ops C Ss Q k l a := by
  induction Sl with
  | nil =>
    intro l k a _ h
    cases l with
    | nil => exact h
    | cons o rest => exact h.elim
  | cons S Sl ih =>
    intro l k a hs h
    cases l with
    | nil => exact h.elim
    | cons o rest =>
      have e : Ss k = S := by simpa using hs 0 (by simp)
      unfold wpLex
      rw [e]
      refine ⟨h.1, fun v hv => ih rest (k + 1) _ (fun j hj => ?_) (h.2 v hv)⟩
      have h1 := hs (j + 1) (by simpa using hj)
      rw [Nat.add_assoc, Nat.add_comm 1 j, h1]
      simp
theorem lexL_end {Q : Act → Prop} {a : Act} (h : Q a) : wpLexL P ops C Q [] [] a := h
/-- one operation, what follows behind a variable. -/
theorem lexL_step {W : World} {Q : Act → Prop} {S : Value → Prop} {Sl : List (Value → Prop)} {o : Oper} {rest : List Oper} {a : Act}
    (h : ∀ K : Act → Prop, (∀ a, wpLexL P ops (fun w' => ∃ n, w' = W.drewN n) Q Sl rest a → K a) →
      wantB ops o a = true ∧ (∃ v, S v) ∧ (∀ n, lUpon P (fun w' => ∃ n, w' = W.drewN n) S ((execOp a.eval o).run P (W.drewN n))) ∧ ∀ v, S v → K (a.put o.dst v)) :
    wpLexL P ops (fun w' => ∃ n, w' = W.drewN n) Q (S :: Sl) (o :: rest) a := by
  obtain ⟨h1, h2, h3, h4⟩ := h _ (fun _ h => h)
  refine ⟨fun _ => ⟨h2, ?_⟩, ?_⟩
  · rintro w ⟨n, rfl⟩
    exact h3 n
  · intro v hv
    rw [h1] at hv
    exact h4 v hv
theorem wp_region_lets {id : Nat} {Q : Exit → Act → World → Prop} {a : Act} {w : World} {l : List Oper} (Sl : List (Value → Prop)) (hm : P.follows .mixedOrders = true) (hB : Region.lexB .any l.toArray = true)
    (h : wpLexL P l.toArray (fun w' => ∃ n, w' = w.drewN n) (fun a' => ∀ n, Q .normal a' (w.drewN n)) Sl l a) : (Code.region id l.toArray true).wp P Q a w := by
  simp only [Region.lexB, Bool.and_eq_true] at hB
  refine wp_region_any hm (wpAny_of_lets (C := fun w' => ∃ n, w' = w.drewN n) (Ss := fun k => Sl.getD k fun _ => False) (Q := fun a' => ∀ n, Q .normal a' (w.drewN n)) (fun _ w' hw' h => by obtain ⟨n, rfl⟩ := hw'; exact h n) _ _ _ _ ⟨1, rfl⟩ ?_)
  have := wpAnyL_lex (P := P) (C := fun w' => ∃ n, w' = w.drewN n) (Ss := fun k => Sl.getD k fun _ => False) (md := .any) hB.1 l 0 (Array.replicate l.toArray.size false) a (by simp) (by simpa using hB.2)
    (wpLex_of_L Sl l 0 a (fun j _ => by rw [Nat.zero_add]) h)
  simpa using this
/-- what an operation that yields one value in the world that it got asks. -/
theorem lUpon_one {W : World} {n : Nat} {u : Value} : lUpon P (fun w' => ∃ n, w' = W.drewN n) (fun v => v = u) (.ok (.value u) (W.drewN n)) := ⟨⟨n, rfl⟩, rfl⟩
theorem lUpon_in {W : World} {n m : Nat} {u : Value} {S : Value → Prop} (h : S u) : lUpon P (fun w' => ∃ n, w' = W.drewN n) S (.ok (.value u) ((W.drewN n).drewN m)) := ⟨⟨n + m, by rw [World.drewN_drewN]⟩, h⟩
end
end Go.Proofs.Ytmgnobeaacjdjac
