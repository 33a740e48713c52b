/-
  What the rows of numbers are while the parts are found and numbered. Nothing of the program.
-/
import Derived.Test.YtgmaganajfcpbaiDoorSpN
namespace Go.Proofs.YtgmaganajfcpbaiDoor

/-- the first k pixels have got their own numbers. -/
def Fst (L : List Bool) (k : Nat) (C : List Int) : Prop := C.length = L.length ∧ ∀ j, C.getD j 0 = if j < k ∧ litB L j = true then (j : Int) + 1 else 0
theorem fst0 (L : List Bool) : Fst L 0 (List.replicate L.length 0) := ⟨by simp, fun j => by
  rw [if_neg (by omega), List.getD_eq_getElem?_getD, List.getElem?_replicate]
  by_cases h : j < L.length
  · rw [if_pos h]; rfl
  · rw [if_neg h]; rfl⟩
theorem Fst.dark {L : List Bool} {k : Nat} {C : List Int} (h : Fst L k C) (hk : litB L k = false) : Fst L (k + 1) C := ⟨h.1, fun j => by
  rw [h.2 j]
  by_cases e : j = k
  · subst e
    rw [if_neg (by omega), if_neg (fun q => by rw [hk] at q; cases q.2)]
  · by_cases q : litB L j = true
    · by_cases s : j < k
      · rw [if_pos ⟨s, q⟩, if_pos ⟨by omega, q⟩]
      · rw [if_neg (fun t => s t.1), if_neg (fun t => s (by omega))]
    · rw [if_neg (fun t => q t.2), if_neg (fun t => q t.2)]⟩
theorem Fst.lit {L : List Bool} {k : Nat} {C : List Int} (h : Fst L k C) (hk : litB L k = true) : Fst L (k + 1) (C.set k ((k : Int) + 1)) := by
  have hl : k < C.length := by rw [h.1]; exact lit_lt hk
  refine ⟨by rw [List.length_set]; exact h.1, fun j => ?_⟩
  rw [getD_setI hl, h.2 j]
  by_cases e : k = j
  · subst e
    rw [if_pos rfl, if_pos ⟨by omega, hk⟩]
  · rw [if_neg e]
    by_cases q : litB L j = true
    · by_cases s : j < k
      · rw [if_pos ⟨s, q⟩, if_pos ⟨by omega, q⟩]
      · rw [if_neg (fun t => s t.1), if_neg (fun t => s (by omega))]
    · rw [if_neg (fun t => q t.2), if_neg (fun t => q t.2)]
theorem Fst.way {L : List Bool} {W : Nat} {C : List Int} (h : Fst L L.length C) : OnWay L W C := ⟨h.1, fun i hi => by
  rw [h.2 i, if_neg (fun q => by rw [hi] at q; cases q.2)], fun i hi => ⟨i, by rw [h.2 i, if_pos ⟨lit_lt hi, hi⟩], Nat.le_refl _, .one hi⟩⟩
/-- up to k none has a lesser number around. -/
def StillTo (L : List Bool) (W : Nat) (v : List Int) (k : Nat) : Prop := ∀ i j, i < k → litB L i = true → litB L j = true → Adj W i j → v.getD i 0 ≤ v.getD j 0
theorem still0 (L : List Bool) (W : Nat) (v : List Int) : StillTo L W v 0 := fun i _ h => by omega
theorem StillTo.all {L : List Bool} {W : Nat} {v : List Int} (h : StillTo L W v L.length) : Still L W v := fun i k hi hk a => h i k (lit_lt hi) hi hk a
theorem StillTo.dark {L : List Bool} {W k : Nat} {v : List Int} (h : StillTo L W v k) (hk : litB L k = false) : StillTo L W v (k + 1) := fun i j hi li lj a => by
  by_cases e : i = k
  · subst e; rw [hk] at li; cases li
  · exact h i j (by omega) li lj a
theorem StillTo.least {L : List Bool} {W k : Nat} {v : List Int} {m : Int} (o : OnWay L W v) (h : StillTo L W v k) (g : Least v W k m) (hm : ¬ m < v.getD k 0) : StillTo L W v (k + 1) := fun i j hi li lj a => by
  by_cases e : i = k
  · subst e
    have := g.all j (by rw [o.len]; exact lit_lt lj) a (o.pos.2 lj)
    omega
  · exact h i j (by omega) li lj a
theorem OnWay.least {L : List Bool} {W k : Nat} {v : List Int} {m : Int} (o : OnWay L W v) (hk : litB L k = true) (g : Least v W k m) (hm : m < v.getD k 0) : OnWay L W (v.set k m) ∧ 0 ≤ m := by
  rcases g.is with e | ⟨j, _, a, p, e⟩
  · omega
  · subst e
    exact ⟨o.take hk (o.pos.1 p) a hm, by omega⟩
theorem OnWay.le {L : List Bool} {W : Nat} {v : List Int} (o : OnWay L W v) (i : Nat) : 0 ≤ v.getD i 0 ∧ v.getD i 0 ≤ (i : Int) + 1 := by
  cases h : litB L i with
  | false => rw [o.dark i h]; omega
  | true => obtain ⟨j, e, l, _⟩ := o.lit i h
            rw [e]; omega
theorem OnWay.root {L : List Bool} {W : Nat} {v : List Int} (o : OnWay L W v) (s : Still L W v) {i j : Nat} (h : v.getD j 0 = (i : Int) + 1) : v.getD i 0 = (i : Int) + 1 := by
  have hj : litB L j = true := o.pos.1 (by omega)
  obtain ⟨r, e, _, f, _⟩ := still_root o s hj
  obtain rfl : r = i := by omega
  exact f
theorem rank_le (v : List Int) : ∀ n, rankV v n ≤ n
  | 0 => Nat.le_refl _
  | n + 1 => by
    have := rank_le v n
    unfold rankV
    by_cases e : v.getD n 0 = (n : Int) + 1
    · rw [if_pos e]; omega
    · rw [if_neg e]; omega
theorem rank_yes {v : List Int} {i : Nat} (h : v.getD i 0 = (i : Int) + 1) : rankV v (i + 1) = rankV v i + 1 := by
  conv => lhs; unfold rankV; rw [if_pos h]
theorem rank_no {v : List Int} {i : Nat} (h : ¬ v.getD i 0 = (i : Int) + 1) : rankV v (i + 1) = rankV v i := by
  conv => lhs; unfold rankV; rw [if_neg h, Nat.add_zero]
/-- numbered anew up to i, and i's own up to k. -/
def midV (v : List Int) (i k j : Nat) : Int := if v.getD j 0 ≤ (i : Int) then - numV2 v j else if v.getD j 0 = (i : Int) + 1 ∧ j < k then - (rankV v (i + 1) : Nat) else v.getD j 0
def Mid (v : List Int) (i k : Nat) (C : List Int) : Prop := C.length = v.length ∧ ∀ j, C.getD j 0 = midV v i k j
theorem num_nat (v : List Int) (j : Nat) : 0 ≤ numV2 v j := by
  unfold numV2
  by_cases h : v.getD j 0 = 0
  · rw [if_pos h]; omega
  · rw [if_neg h]; omega
section
variable {L : List Bool} {W : Nat} {v : List Int}
theorem mid0 (o : OnWay L W v) : Mid v 0 0 v := ⟨rfl, fun j => by
  unfold midV
  have := o.le j
  by_cases h : v.getD j 0 ≤ ((0 : Nat) : Int)
  · have e : v.getD j 0 = 0 := by omega
    rw [if_pos h]
    unfold numV2
    rw [e, if_pos rfl]
    rfl
  · rw [if_neg h, if_neg (by omega)]⟩
theorem Mid.own {i : Nat} {C : List Int} (o : OnWay L W v) (h : Mid v i 0 C) : Mid v i i C := ⟨h.1, fun j => by
  rw [h.2 j]
  have := o.le j
  unfold midV
  by_cases q : v.getD j 0 ≤ (i : Int)
  · rw [if_pos q, if_pos q]
  · rw [if_neg q, if_neg q, if_neg (by omega), if_neg (by omega)]⟩
theorem Mid.is {i k : Nat} {C : List Int} (h : Mid v i k C) : C.getD k 0 = (i : Int) + 1 ↔ v.getD k 0 = (i : Int) + 1 := by
  rw [h.2 k]
  have := num_nat v k
  unfold midV
  by_cases q : v.getD k 0 ≤ (i : Int)
  · rw [if_pos q]
    constructor <;> intro t <;> omega
  · rw [if_neg q, if_neg (by omega)]
theorem Mid.put {i k : Nat} {C : List Int} (h : Mid v i k C) (hk : k < v.length) (e : v.getD k 0 = (i : Int) + 1) : Mid v i (k + 1) (C.set k (- (rankV v (i + 1) : Nat))) := ⟨by rw [List.length_set]; exact h.1, fun j => by
  rw [getD_setI (by rw [h.1]; exact hk), h.2 j]
  unfold midV
  by_cases q : k = j
  · subst q
    rw [if_pos rfl, if_neg (by omega), if_pos ⟨e, by omega⟩]
  · rw [if_neg q]
    by_cases s : v.getD j 0 = (i : Int) + 1
    · have hs : ¬ v.getD j 0 ≤ (i : Int) := by omega
      rw [if_neg hs, if_neg hs]
      by_cases t : j < k
      · rw [if_pos ⟨s, t⟩, if_pos ⟨s, by omega⟩]
      · rw [if_neg (fun z => t z.2), if_neg (fun z => t (by omega))]
    · by_cases t : v.getD j 0 ≤ (i : Int)
      · rw [if_pos t, if_pos t]
      · rw [if_neg t, if_neg t, if_neg (fun z => s z.1), if_neg (fun z => s z.1)]⟩
theorem Mid.skip {i k : Nat} {C : List Int} (h : Mid v i k C) (e : ¬ v.getD k 0 = (i : Int) + 1) : Mid v i (k + 1) C := ⟨h.1, fun j => by
  rw [h.2 j]
  unfold midV
  by_cases s : v.getD j 0 = (i : Int) + 1
  · have hs : ¬ v.getD j 0 ≤ (i : Int) := by omega
    rw [if_neg hs, if_neg hs]
    by_cases q : j = k
    · subst q; exact absurd s e
    · by_cases t : j < k
      · rw [if_pos ⟨s, t⟩, if_pos ⟨s, by omega⟩]
      · rw [if_neg (fun z => t z.2), if_neg (fun z => t (by omega))]
  · by_cases t : v.getD j 0 ≤ (i : Int)
    · rw [if_pos t, if_pos t]
    · rw [if_neg t, if_neg t, if_neg (fun z => s z.1), if_neg (fun z => s z.1)]⟩
theorem get_lt {j : Nat} (h : v.getD j 0 ≠ 0) : j < v.length := by
  refine Decidable.byContradiction (fun q => h ?_)
  rw [List.getD_eq_getElem?_getD, List.getElem?_eq_none (by omega)]
  rfl
theorem num_at {i j : Nat} (e : v.getD j 0 = (i : Int) + 1) : numV2 v j = (rankV v (i + 1) : Nat) := by
  unfold numV2
  rw [if_neg (by omega), e]
  rfl
theorem Mid.next {i : Nat} {C : List Int} (h : Mid v i v.length C) : Mid v (i + 1) 0 C := ⟨h.1, fun j => by
  rw [h.2 j]
  unfold midV
  by_cases s : v.getD j 0 = (i : Int) + 1
  · rw [if_neg (by omega), if_pos ⟨s, get_lt (by omega)⟩, if_pos (by omega), num_at s]
  · by_cases t : v.getD j 0 ≤ (i : Int)
    · rw [if_pos t, if_pos (by omega)]
    · rw [if_neg t, if_neg (fun z => s z.1), if_neg (by omega), if_neg (fun z => by omega)]⟩
theorem Mid.none {i : Nat} {C : List Int} (o : OnWay L W v) (s : Still L W v) (h : Mid v i 0 C) (e : ¬ v.getD i 0 = (i : Int) + 1) : Mid v (i + 1) 0 C := ⟨h.1, fun j => by
  rw [h.2 j]
  have no : ¬ v.getD j 0 = (i : Int) + 1 := fun q => e (o.root s q)
  unfold midV
  by_cases t : v.getD j 0 ≤ (i : Int)
  · rw [if_pos t, if_pos (by omega)]
  · rw [if_neg t, if_neg (fun z => no z.1), if_neg (by omega), if_neg (fun z => by omega)]⟩
/-- turned up to i. -/
def NegTo (v : List Int) (i : Nat) (C : List Int) : Prop := C.length = v.length ∧ ∀ j, C.getD j 0 = if j < i then numV2 v j else - numV2 v j
theorem Mid.neg {C : List Int} (o : OnWay L W v) (h : Mid v v.length 0 C) : NegTo v 0 C := ⟨h.1, fun j => by
  rw [h.2 j, if_neg (by omega)]
  unfold midV
  have := o.le j
  by_cases q : v.getD j 0 = 0
  · rw [if_pos (by omega)]
  · have := get_lt q
    rw [if_pos (by omega)]⟩
theorem NegTo.put {i : Nat} {C : List Int} (h : NegTo v i C) (hi : i < v.length) : NegTo v (i + 1) (C.set i (numV2 v i)) ∧ C.getD i 0 = - numV2 v i := ⟨⟨by rw [List.length_set]; exact h.1, fun j => by
  rw [getD_setI (by rw [h.1]; exact hi), h.2 j]
  by_cases q : i = j
  · subst q
    rw [if_pos rfl, if_pos (by omega)]
  · rw [if_neg q]
    by_cases t : j < i
    · rw [if_pos t, if_pos (by omega)]
    · rw [if_neg t, if_neg (by omega)]⟩, by rw [h.2 i, if_neg (by omega)]⟩
theorem NegTo.done {C : List Int} (h : NegTo v v.length C) : C = labV v := by
  have hl : (labV v).length = v.length := by unfold labV; rw [List.length_map, List.length_range]
  refine List.ext_getElem (by rw [h.1, hl]) (fun i h1 h2 => ?_)
  have e := h.2 i
  have f := lab_at (v := v) (i := i) (by rw [← h.1]; exact h1)
  rw [if_pos (by rw [← h.1]; exact h1), ← f] at e
  simpa [List.getD, List.getElem?_eq_getElem h1, List.getElem?_eq_getElem h2] using e
theorem num_le {j : Nat} (o : OnWay L W v) : numV2 v j ≤ (v.length : Nat) := by
  unfold numV2
  by_cases q : v.getD j 0 = 0
  · rw [if_pos q]; omega
  · rw [if_neg q]
    have h1 := rank_le v (v.getD j 0).toNat
    have h2 := o.le j
    have h3 := get_lt q
    omega
end
end Go.Proofs.YtgmaganajfcpbaiDoor
