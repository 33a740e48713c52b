/-
  A region that draws its order and ends with one operation that comes behind all others (a store): the others as in Loose2, the last one in whatever world they leave.
-/
import Derived.Test.YtmgnobeaacjdjacLoose2
namespace Go.Proofs.Ytmgnobeaacjdjac
open Go Go.RowKit

section
variable {P : Program} {ops : Array Oper} {md : Region.Mode} {C : World → Prop} {Ss : Nat → Value → Prop} {Q' : Exit → Act → World → Prop} {m : Nat}
def lLast (P : Program) (ops : Array Oper) (C : World → Prop) (Q' : Exit → Act → World → Prop) (m : Nat) (a : Act) : Prop := ∀ w, C w → wpOp P ops Q' m (fun a w => Q' .normal a w) a w
def wpAnyM (P : Program) (md : Region.Mode) (ops : Array Oper) (C : World → Prop) (Ss : Nat → Value → Prop) (Q' : Exit → Act → World → Prop) (m : Nat) : Nat → Array Bool → Act → Prop
  | 0, listed, a => Region.ready md ops listed = [] ∧ ∀ w, C w → Q' .normal a w
  | fuel + 1, listed, a => (Region.ready md ops listed = [] → ∀ w, C w → Q' .normal a w) ∧ ∀ i ∈ Region.ready md ops listed,
      (i ≠ m → lOp P ops C Ss i (wpAnyM P md ops C Ss Q' m fuel (listed.setIfInBounds i true)) a) ∧ (i = m → lLast P ops C Q' m a ∧ Region.ready md ops (listed.setIfInBounds m true) = [])
theorem wpOp_mono {i : Nat} {K K' : Act → World → Prop} {a : Act} {w : World} (h : ∀ a w, K a w → K' a w) (k : wpOp P ops Q' i K a w) : wpOp P ops Q' i K' a w := by
  unfold wpOp at *
  cases e : ops[i]? with
  | none => rw [e] at k; exact h _ _ k
  | some o =>
    rw [e] at k
    simp only at k ⊢
    split at k
    · rename_i hw
      rw [if_pos hw]
      rcases k with k | k
      · exact .inl (Oper.wp_mono h k)
      · exact .inr k
    · rename_i hw
      rw [if_neg hw]
      exact h _ _ k
theorem wpAnyM_sound : ∀ (fuel : Nat) (listed : Array Bool) (a : Act) (w : World), C w → wpAnyM P md ops C Ss Q' m fuel listed a → wpAny P md ops Q' fuel listed a w
  | 0, _, _, w, hw, h => ⟨h.1, h.2 w hw⟩
  | fuel + 1, listed, a, w, hw, h => by
    refine ⟨fun h0 => h.1 h0 w hw, fun i hi => ?_⟩
    by_cases him : i = m
    · subst him
      obtain ⟨h1, h2⟩ := (h.2 i hi).2 rfl
      refine wpOp_mono (fun a' w' k => ?_) (h1 w hw)
      cases fuel with
      | zero => exact ⟨h2, k⟩
      | succ n => exact ⟨fun _ => k, fun j hj => by rw [h2] at hj; cases hj⟩
    · exact wpOp_of_lOp hw (fun a' w' hw' h' => wpAnyM_sound fuel _ a' w' hw' h') (ready_is hi) ((h.2 i hi).1 him)
theorem wpAnyM_first {i : Nat} {oi : Oper} (hi : ops[i]? = some oi) (him : i ≠ m) (hlast : ∀ listed, m ∈ Region.ready md ops listed → listed.getD i true = true) (hsel : ∀ (j : Nat) (o : Oper) cs b, ops[j]? = some o → o.op ≠ .select cs b) :
    ∀ (fuel : Nat) (listed : Array Bool) (a : Act),
      (∀ j oj, ops[j]? = some oj → j ≠ i → listed.getD j true = false → (∀ e ∈ oj.after, Region.binds md e = true → e.on ≠ i) → oi.apart ops oj = true) →
      i ∈ Region.ready md ops listed → Lets P ops C (Ss i) oi a →
      (∀ v, valsOf (Ss i) (wantB ops oi a) v → wpAnyM P md ops C Ss Q' m fuel (listed.setIfInBounds i true) (a.put oi.dst v)) → wpAnyM P md ops C Ss Q' m (fuel + 1) listed a := by
  intro fuel
  induction fuel with
  | zero =>
    intro listed a _ hr hy H
    refine ⟨fun h => (by rw [h] at hr; cases hr), fun j hj => ⟨fun _ => ?_, fun hjm => ?_⟩⟩
    · by_cases hji : j = i
      · subst hji
        intro o ho
        rw [hi] at ho
        cases ho
        exact ⟨hy, H⟩
      · obtain ⟨v0, hv0⟩ := hy.some
        have h1 := ready_mono hj hji
        rw [(H v0 hv0).1] at h1
        cases h1
    · subst hjm
      have h1 := hlast _ hj
      rw [(mem_ready.1 hr).1] at h1
      cases h1
  | succ fuel ih =>
    intro listed a hfree hr hy H
    refine ⟨fun h => (by rw [h] at hr; cases hr), fun j hj => ⟨fun hjm => ?_, fun hjm => ?_⟩⟩
    · by_cases hji : j = i
      · subst hji
        intro o ho
        rw [hi] at ho
        cases ho
        exact ⟨hy, H⟩
      · obtain ⟨hjun, oj, hoj, hall⟩ := mem_ready.1 hj
        have hnot : ∀ e ∈ oj.after, Region.binds md e = true → e.on ≠ i := fun e he hb heq => by
          have h1 := hall e he hb
          have h0 := (mem_ready.1 hr).1
          rw [heq] at h1
          rcases Nat.lt_or_ge i listed.size with h' | h'
          · simp [h'] at h0 h1; rw [h0] at h1; cases h1
          · simp [Array.getElem?_eq_none h'] at h1
        have h2 := lOp_put (i := i) (Ss := Ss) hoj (hfree j oj hoj hji hjun hnot) (fun cs b => hsel i oi cs b hi) (fun cs b => hsel j oj cs b hoj) hy (fun v hv => ((H v hv).2 j (ready_mono hj hji)).1 hjm)
        have hfree' : ∀ k ok, ops[k]? = some ok → k ≠ i → (listed.setIfInBounds j true).getD k true = false → (∀ e ∈ ok.after, Region.binds md e = true → e.on ≠ i) → oi.apart ops ok = true := fun k ok hk hki hun hno => by
          refine hfree k ok hk hki ?_ hno
          by_cases hjk : j = k
          · subst hjk; exact hjun
          · rw [getD_set_ne true hjk] at hun; exact hun
        refine lOp.mono (fun a' h3 => ih (listed.setIfInBounds j true) a' hfree' (ready_mono hr (Ne.symm hji)) h3.1 fun v hv => ?_) h2
        rw [Array.setIfInBounds_comm _ _ hji]
        exact h3.2 v hv
    · subst hjm
      have h1 := hlast _ hj
      rw [(mem_ready.1 hr).1] at h1
      cases h1
def lexFromM (md : Region.Mode) (ops : Array Oper) (m : Nat) : Nat → Nat → Array Bool → Bool
  | 0, _, listed => (Region.ready md ops listed == [m]) && (Region.ready md ops (listed.setIfInBounds m true)).isEmpty
  | fuel + 1, k, listed => (Region.ready md ops listed).contains k && (k != m) && Region.free md ops listed k && lexFromM md ops m fuel (k + 1) (listed.setIfInBounds k true)
def lastB (md : Region.Mode) (ops : Array Oper) (m : Nat) : Bool :=
  match ops[m]? with
  | none => false
  | some o => (List.range ops.size).all fun j => j == m || o.after.any fun e => Region.binds md e && e.on == j
theorem lastB_spec (h : lastB md ops m = true) {i : Nat} (hi : i < ops.size) (him : i ≠ m) (listed : Array Bool) (hr : m ∈ Region.ready md ops listed) : listed.getD i true = true := by
  obtain ⟨_, o, ho, hall⟩ := mem_ready.1 hr
  unfold lastB at h
  rw [ho] at h
  simp only [List.all_eq_true, List.mem_range, Bool.or_eq_true, beq_iff_eq, Array.any_eq_true'] at h
  rcases h i hi with h | ⟨e, he, h⟩
  · exact absurd h him
  · rw [Bool.and_eq_true, beq_iff_eq] at h
    have h1 := hall e he h.1
    rw [h.2] at h1
    rcases Nat.lt_or_ge i listed.size with h' | h'
    · simp [h'] at h1 ⊢; exact h1
    · simp [Array.getElem?_eq_none h'] at h1
def wpLexM (P : Program) (ops : Array Oper) (C : World → Prop) (Q : Act → Prop) : List (Value → Prop) → List Oper → Act → Prop
  | S :: Sl, o :: rest, a => Lets P ops C S o a ∧ ∀ v, valsOf S (wantB ops o a) v → wpLexM P ops C Q Sl rest (a.put o.dst v)
  | [], _, a => Q a
  | _ :: _, [], _ => False
theorem wpAnyM_lex (hs : Region.noSelect ops = true) (hl : lastB md ops m = true) (Sl : List (Value → Prop)) : ∀ (l : List Oper) (k : Nat) (listed : Array Bool) (a : Act), (∀ j, l[j]? = ops[k + j]?) → (∀ j, j < Sl.length → Ss (k + j) = Sl.getD j fun _ => False) →
    lexFromM md ops m Sl.length k listed = true → wpLexM P ops C (lLast P ops C Q' m) Sl l a → wpAnyM P md ops C Ss Q' m (Sl.length + 1) listed a := by
  induction Sl with
  | nil =>
    intro l k listed a _ _ hB h
    simp only [List.length_nil, lexFromM, Bool.and_eq_true, beq_iff_eq, List.isEmpty_iff] at hB
    refine ⟨fun h0 => (by rw [h0] at hB; cases hB.1), fun i hi => ?_⟩
    rw [hB.1, List.mem_singleton] at hi
    exact ⟨fun h' => absurd hi h', fun _ => ⟨h, hB.2⟩⟩
  | cons S Sl ih =>
    intro l k listed a hl' hs' hB h
    cases l with
    | nil => exact h.elim
    | cons o rest =>
      have h0 : ops[k]? = some o := by simpa using (hl' 0).symm
      have hk : k < ops.size := by
        rcases Nat.lt_or_ge k ops.size with h' | h'
        · exact h'
        · rw [Array.getElem?_eq_none h'] at h0; cases h0
      simp only [List.length_cons, lexFromM, Bool.and_eq_true, bne_iff_ne] at hB
      obtain ⟨⟨⟨hr, hkm⟩, hf⟩, hB'⟩ := hB
      have e : Ss k = S := by simpa using hs' 0 (by simp)
      refine wpAnyM_first h0 hkm (lastB_spec hl hk hkm) (Region.noSelect_spec hs) (Sl.length + 1) listed a (Region.free_spec h0 hf) (by simpa using hr) (by rw [e]; exact h.1) fun v hv => ?_
      rw [e] at hv
      refine ih rest (k + 1) _ _ (fun j => by have := hl' (j + 1); simpa [Nat.add_assoc, Nat.add_comm 1 j] using this) (fun j hj => ?_) hB' (h.2 v hv)
      have h1 := hs' (j + 1) (by simpa using hj)
      rw [Nat.add_assoc, Nat.add_comm 1 j, h1]
      simp
theorem lexM_step {W : World} {B : Nat} {Q : Act → Prop} {S : Value → Prop} {Sl : List (Value → Prop)} {o : Oper} {rest : List Oper} {a : Act}
    (h : ∀ K : Act → Prop, (∀ a, wpLexM P ops (Below B W) Q Sl rest a → K a) →
      wantB ops o a = true ∧ (∃ v, S v) ∧ (∀ v, Below B W v → lUpon P (Below B W) S ((execOp a.eval o).run P v)) ∧ ∀ v, S v → K (a.put o.dst v)) :
    wpLexM P ops (Below B W) Q (S :: Sl) (o :: rest) a := by
  obtain ⟨h1, h2, h3, h4⟩ := h _ (fun _ h => h)
  refine ⟨fun _ => ⟨h2, h3⟩, ?_⟩
  intro v hv
  rw [h1] at hv
  exact h4 v hv
/-- the last one: what it does in any such world, what follows behind a variable. -/
theorem lexM_end {W : World} {B : Nat} {Q' : Exit → Act → World → Prop} {m : Nat} {o : Oper} {rest : List Oper} {a : Act} (ho : ops[m]? = some o) (hw : wantB ops o a = true) (h : ∀ v, Below B W v → o.wp P a v (fun a w => Q' .normal a w) Q') :
    wpLexM P ops (Below B W) (lLast P ops (Below B W) Q' m) [] rest a := by
  show lLast P ops (Below B W) Q' m a
  intro v hv
  unfold wpOp
  rw [ho]
  have e : Region.wanted o (yielded ops a.tmps) = wantB ops o a := rfl
  simp only [e, hw, if_true]
  exact .inl (h v hv)
theorem wp_region_lastB {id : Nat} {Q : Exit → Act → World → Prop} {a : Act} {w : World} {l : List Oper} (B : Nat) (Sl : List (Value → Prop)) (hm : P.follows .mixedOrders = true) (hn : Region.noSelect l.toArray = true) (hz : l.length = Sl.length + 1)
    (hl : lastB .any l.toArray Sl.length = true) (hB : lexFromM .any l.toArray Sl.length Sl.length 0 (Array.replicate l.toArray.size false) = true)
    (h : wpLexM P l.toArray (Below B w) (lLast P l.toArray (Below B w) Q Sl.length) Sl l a) : (Code.region id l.toArray true).wp P Q a w := by
  refine wp_region_any hm ?_
  have e : l.toArray.size = Sl.length + 1 := by simpa using hz
  rw [e] at hB ⊢
  exact wpAnyM_sound (C := Below B w) (Ss := fun k => Sl.getD k fun _ => False) (m := Sl.length) _ _ _ _ (below_drewN (Below.refl B w) 1) (wpAnyM_lex hn hl Sl l 0 _ a (by simp) (fun j _ => by rw [Nat.zero_add]) hB h)
end
end Go.Proofs.Ytmgnobeaacjdjac
