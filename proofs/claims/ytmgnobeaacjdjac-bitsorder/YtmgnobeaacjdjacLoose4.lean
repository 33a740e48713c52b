/-
  A region that draws its order and ends with operations that come behind all others, one behind the other (a store, an assignment): the others as in Loose2, the last ones in whatever world they leave.
-/
import Derived.Test.YtmgnobeaacjdjacLoose3
namespace Go.Proofs.Ytmgnobeaacjdjac
open Go Go.RowKit

section
variable {P : Program} {ops : Array Oper} {md : Region.Mode} {C : World → Prop} {Ss : Nat → Value → Prop} {Q' : Exit → Act → World → Prop} {m : Nat}
def wpAnyT (P : Program) (md : Region.Mode) (ops : Array Oper) (C : World → Prop) (Ss : Nat → Value → Prop) (Q' : Exit → Act → World → Prop) (m : Nat) : Nat → Array Bool → Act → Prop
  | 0, listed, a => Region.ready md ops listed = [] ∧ ∀ w, C w → Q' .normal a w
  | fuel + 1, listed, a => (Region.ready md ops listed = [] → ∀ w, C w → Q' .normal a w) ∧ ∀ i ∈ Region.ready md ops listed,
      (i < m → lOp P ops C Ss i (wpAnyT P md ops C Ss Q' m fuel (listed.setIfInBounds i true)) a) ∧ (m ≤ i → ∀ w, C w → wpOp P ops Q' i (wpAny P md ops Q' fuel (listed.setIfInBounds i true)) a w)
theorem wpAnyT_sound : ∀ (fuel : Nat) (listed : Array Bool) (a : Act) (w : World), C w → wpAnyT P md ops C Ss Q' m fuel listed a → wpAny P md ops Q' fuel listed a w
  | 0, _, _, w, hw, h => ⟨h.1, h.2 w hw⟩
  | fuel + 1, listed, a, w, hw, h => by
    refine ⟨fun h0 => h.1 h0 w hw, fun i hi => ?_⟩
    by_cases him : m ≤ i
    · exact (h.2 i hi).2 him w hw
    · exact wpOp_of_lOp hw (fun a' w' hw' h' => wpAnyT_sound fuel _ a' w' hw' h') (ready_is hi) ((h.2 i hi).1 (by omega))
theorem wpAnyT_first {i : Nat} {oi : Oper} (hi : ops[i]? = some oi) (hlast : ∀ j listed, m ≤ j → j ∈ Region.ready md ops listed → listed.getD i true = true) (hsel : ∀ (j : Nat) (o : Oper) cs b, ops[j]? = some o → o.op ≠ .select cs b) :
    ∀ (fuel : Nat) (listed : Array Bool) (a : Act),
      (∀ j oj, ops[j]? = some oj → j ≠ i → listed.getD j true = false → (∀ e ∈ oj.after, Region.binds md e = true → e.on ≠ i) → oi.apart ops oj = true) →
      i ∈ Region.ready md ops listed → Lets P ops C (Ss i) oi a →
      (∀ v, valsOf (Ss i) (wantB ops oi a) v → wpAnyT P md ops C Ss Q' m fuel (listed.setIfInBounds i true) (a.put oi.dst v)) → wpAnyT P md ops C Ss Q' m (fuel + 1) listed a := by
  intro fuel
  induction fuel with
  | zero =>
    intro listed a _ hr hy H
    refine ⟨fun h => (by rw [h] at hr; cases hr), fun j hj => ⟨fun _ => ?_, fun hjm => ?_⟩⟩
    · by_cases hji : j = i
      · subst hji
        intro o ho
        rw [hi] at ho
        cases ho
        exact ⟨hy, H⟩
      · obtain ⟨v0, hv0⟩ := hy.some
        have h1 := ready_mono hj hji
        rw [(H v0 hv0).1] at h1
        cases h1
    · have h1 := hlast j _ hjm hj
      rw [(mem_ready.1 hr).1] at h1
      cases h1
  | succ fuel ih =>
    intro listed a hfree hr hy H
    refine ⟨fun h => (by rw [h] at hr; cases hr), fun j hj => ⟨fun hjm => ?_, fun hjm => ?_⟩⟩
    · by_cases hji : j = i
      · subst hji
        intro o ho
        rw [hi] at ho
        cases ho
        exact ⟨hy, H⟩
      · obtain ⟨hjun, oj, hoj, hall⟩ := mem_ready.1 hj
        have hnot : ∀ e ∈ oj.after, Region.binds md e = true → e.on ≠ i := fun e he hb heq => by
          have h1 := hall e he hb
          have h0 := (mem_ready.1 hr).1
          rw [heq] at h1
          rcases Nat.lt_or_ge i listed.size with h' | h'
          · simp [h'] at h0 h1; rw [h0] at h1; cases h1
          · simp [Array.getElem?_eq_none h'] at h1
        have h2 := lOp_put (i := i) (Ss := Ss) hoj (hfree j oj hoj hji hjun hnot) (fun cs b => hsel i oi cs b hi) (fun cs b => hsel j oj cs b hoj) hy (fun v hv => ((H v hv).2 j (ready_mono hj hji)).1 hjm)
        have hfree' : ∀ k ok, ops[k]? = some ok → k ≠ i → (listed.setIfInBounds j true).getD k true = false → (∀ e ∈ ok.after, Region.binds md e = true → e.on ≠ i) → oi.apart ops ok = true := fun k ok hk hki hun hno => by
          refine hfree k ok hk hki ?_ hno
          by_cases hjk : j = k
          · subst hjk; exact hjun
          · rw [getD_set_ne true hjk] at hun; exact hun
        refine lOp.mono (fun a' h3 => ih (listed.setIfInBounds j true) a' hfree' (ready_mono hr (Ne.symm hji)) h3.1 fun v hv => ?_) h2
        rw [Array.setIfInBounds_comm _ _ hji]
        exact h3.2 v hv
    · have h1 := hlast j _ hjm hj
      rw [(mem_ready.1 hr).1] at h1
      cases h1
def lexFromT (md : Region.Mode) (ops : Array Oper) (m : Nat) (L : Array Bool) : Nat → Nat → Array Bool → Bool
  | 0, _, listed => (listed == L) && (Region.ready md ops listed).all fun i => decide (m ≤ i)
  | fuel + 1, k, listed => (Region.ready md ops listed).contains k && decide (k < m) && Region.free md ops listed k && lexFromT md ops m L fuel (k + 1) (listed.setIfInBounds k true)
def tailB (md : Region.Mode) (ops : Array Oper) (m : Nat) : Bool :=
  (List.range ops.size).all fun t => decide (t < m) || match ops[t]? with
  | none => true
  | some o => (List.range m).all fun j => o.after.any fun e => Region.binds md e && e.on == j
theorem tailB_spec (h : tailB md ops m = true) {i : Nat} (hi : i < m) (t : Nat) (listed : Array Bool) (ht : m ≤ t) (hr : t ∈ Region.ready md ops listed) : listed.getD i true = true := by
  obtain ⟨_, o, ho, hall⟩ := mem_ready.1 hr
  have hts : t < ops.size := by
    rcases Nat.lt_or_ge t ops.size with h' | h'
    · exact h'
    · rw [Array.getElem?_eq_none h'] at ho; cases ho
  unfold tailB at h
  rw [List.all_eq_true] at h
  have h := h t (List.mem_range.2 hts)
  rw [ho] at h
  simp only [Bool.or_eq_true, decide_eq_true_eq, List.all_eq_true, List.mem_range, Array.any_eq_true'] at h
  rcases h with h | h
  · omega
  · obtain ⟨e, he, h⟩ := h i hi
    rw [Bool.and_eq_true, beq_iff_eq] at h
    have h1 := hall e he h.1
    rw [h.2] at h1
    rcases Nat.lt_or_ge i listed.size with h' | h'
    · simp [h'] at h1 ⊢; exact h1
    · simp [Array.getElem?_eq_none h'] at h1
theorem wpAnyT_lex (hs : Region.noSelect ops = true) (hl : tailB md ops m = true) (r : Nat) (L : Array Bool) (Sl : List (Value → Prop)) : ∀ (l : List Oper) (k : Nat) (listed : Array Bool) (a : Act), (∀ j, l[j]? = ops[k + j]?) → (∀ j, j < Sl.length → Ss (k + j) = Sl.getD j fun _ => False) →
    lexFromT md ops m L Sl.length k listed = true → wpLexM P ops C (fun a => ∀ w, C w → wpAny P md ops Q' (r + 1) L a w) Sl l a → wpAnyT P md ops C Ss Q' m (Sl.length + (r + 1)) listed a := by
  induction Sl with
  | nil =>
    intro l k listed a _ _ hB h
    simp only [List.length_nil, lexFromT, Bool.and_eq_true, beq_iff_eq, List.all_eq_true, decide_eq_true_eq] at hB
    obtain ⟨rfl, hB⟩ := hB
    rw [List.length_nil, Nat.zero_add]
    exact ⟨fun h0 w hw => (h w hw).1 h0, fun i hi => ⟨fun h' => absurd (hB i hi) (by omega), fun _ w hw => (h w hw).2 i hi⟩⟩
  | cons S Sl ih =>
    intro l k listed a hl' hs' hB h
    cases l with
    | nil => exact h.elim
    | cons o rest =>
      have h0 : ops[k]? = some o := by simpa using (hl' 0).symm
      simp only [List.length_cons, lexFromT, Bool.and_eq_true, decide_eq_true_eq] at hB
      obtain ⟨⟨⟨hr, hkm⟩, hf⟩, hB'⟩ := hB
      have e : Ss k = S := by simpa using hs' 0 (by simp)
      have en : (S :: Sl).length + (r + 1) = (Sl.length + (r + 1)) + 1 := by simp; omega
      rw [en]
      refine wpAnyT_first h0 (fun t li ht htr => tailB_spec hl hkm t li ht htr) (Region.noSelect_spec hs) (Sl.length + (r + 1)) listed a (Region.free_spec h0 hf) (by simpa using hr) (by rw [e]; exact h.1) fun v hv => ?_
      rw [e] at hv
      refine ih rest (k + 1) _ _ (fun j => by have := hl' (j + 1); simpa [Nat.add_assoc, Nat.add_comm 1 j] using this) (fun j hj => ?_) hB' (h.2 v hv)
      have h1 := hs' (j + 1) (by simpa using hj)
      rw [Nat.add_assoc, Nat.add_comm 1 j, h1]
      simp
theorem wpAny_step {r i : Nat} {L : Array Bool} {a : Act} {v : World} {o : Oper} (hr : Region.ready md ops L = [i]) (ho : ops[i]? = some o) (hw : wantB ops o a = true)
    (h : ∀ K : Act → World → Prop, (∀ a w, wpAny P md ops Q' r (L.setIfInBounds i true) a w → K a w) → o.wp P a v K Q') : wpAny P md ops Q' (r + 1) L a v := by
  refine ⟨fun h0 => (by rw [hr] at h0; cases h0), fun j hj => ?_⟩
  rw [hr, List.mem_singleton] at hj
  subst hj
  unfold wpOp
  rw [ho]
  have e : Region.wanted o (yielded ops a.tmps) = wantB ops o a := rfl
  simp only [e, hw, if_true]
  exact .inl (h _ fun _ _ h => h)
theorem wpAny_end {L : Array Bool} {a : Act} {v : World} (hr : Region.ready md ops L = []) (h : Q' .normal a v) : wpAny P md ops Q' 0 L a v := ⟨hr, h⟩
theorem lexT_end {Q : Act → Prop} {rest : List Oper} {a : Act} (h : Q a) : wpLexM P ops C Q [] rest a := h
theorem wp_region_tailB {id : Nat} {Q : Exit → Act → World → Prop} {a : Act} {w : World} {l : List Oper} (B r : Nat) (L : Array Bool) (Sl : List (Value → Prop)) (hm : P.follows .mixedOrders = true) (hn : Region.noSelect l.toArray = true) (hz : l.length = Sl.length + (r + 1))
    (hl : tailB .any l.toArray Sl.length = true) (hB : lexFromT .any l.toArray Sl.length L Sl.length 0 (Array.replicate l.toArray.size false) = true)
    (h : wpLexM P l.toArray (Below B w) (fun a => ∀ v, Below B w v → wpAny P .any l.toArray Q (r + 1) L a v) Sl l a) : (Code.region id l.toArray true).wp P Q a w := by
  refine wp_region_any hm ?_
  have e : l.toArray.size = Sl.length + (r + 1) := by simpa using hz
  rw [e] at hB ⊢
  exact wpAnyT_sound (C := Below B w) (Ss := fun k => Sl.getD k fun _ => False) (m := Sl.length) _ _ _ _ (below_drewN (Below.refl B w) 1) (wpAnyT_lex hn hl r L Sl l 0 _ a (by simp) (fun j _ => by rw [Nat.zero_add]) hB h)
end
end Go.Proofs.Ytmgnobeaacjdjac
