/-
  The nearest one: what the search chooses is what the document asks for. Nothing of the program.
-/
import Derived.Test.YtfonpobdnhifgamGreatDoorAtTB
namespace Go.Proofs.YtfonpobdnhifgamGreatDoor
open Go Go.RowKit

/-- whether one is taken. -/
def chB (f : Int) (z : Int) (x y : ByteArray) : Bool := decide (f < 0) || (decide (0 < z) || lessB x y)
/-- the cosine to a star. -/
def cTo (K : List En) (d : Dr) (i : Nat) : Co := coTo d (K.getD i en0).d
def enN (K : List En) (d : Dr) (f : Int) (c : Co) : Bool := decide (f < 0) || (decide (f.toNat < K.length) && decide (0 ≤ coCmp c (cTo K d f.toNat)))
def tkN (K : List En) (d : Dr) (f : Int) (i : Nat) : Int := if chB f (coCmp (cTo K d i) (cTo K d f.toNat)) (K.getD i en0).nm (K.getD f.toNat en0).nm then (i : Nat) else f

theorem nr_co {d a b : Dr} (ha : dirB a = true) (hb : dirB b = true) : nrV d a b = coCmp (coTo d a) (coTo d b) := by
  have h1 := dir_is ha
  have h2 := dir_is hb
  have g1 : 0 < dtV a a := dt_pos (by omega)
  have g2 : 0 < dtV b b := dt_pos (by omega)
  rw [coCmp_is (coTo_ok g1) (coTo_ok g2)]
  unfold nrV Co.x coTo
  simp only
  generalize dtV d a = x at *
  generalize dtV d b = y at *
  generalize dtV a a = A at *
  generalize dtV b b = B at *
  rw [Int.mul_assoc (sgV x), Int.mul_assoc (sgV y)]
  have n1 : 0 ≤ x * x * B := Int.mul_nonneg (sq_nn x) (by omega)
  have n2 : 0 ≤ y * y * A := Int.mul_nonneg (sq_nn y) (by omega)
  have n3 : x ≠ 0 → 0 < x * x * B := fun h => Int.mul_pos (sq_pos h) g2
  have n4 : y ≠ 0 → 0 < y * y * A := fun h => Int.mul_pos (sq_pos h) g1
  have n5 : x = 0 → x * x * B = 0 := fun h => by rw [h]; simp
  have n6 : y = 0 → y * y * A = 0 := fun h => by rw [h]; simp
  generalize x * x * B = P at *
  generalize y * y * A = Q at *
  unfold cmpZ cmp3
  rcases sg_ok x with ⟨s1, o1⟩ | ⟨s1, o1⟩ | ⟨s1, o1⟩ <;> rcases sg_ok y with ⟨s2, o2⟩ | ⟨s2, o2⟩ | ⟨s2, o2⟩ <;> rw [s1, s2] <;> (repeat' split) <;> omega

section
variable {K : List En} {d : Dr}
/-- one is better than another: nearer, or as near with the lesser name. -/
def bt (K : List En) (d : Dr) (k j : Nat) : Bool := btB d (K.getD k en0) (K.getD j en0)
theorem cTo_ok (hK : ∀ e ∈ K, dirB e.d = true) {k : Nat} (hk : k < K.length) : (cTo K d k).Ok := by
  have h1 := dir_is (getD_dir hK hk)
  exact coTo_ok (dt_pos (by omega))
theorem bt_is (hK : ∀ e ∈ K, dirB e.d = true) {k j : Nat} (hk : k < K.length) (hj : j < K.length) : bt K d k j = (decide (0 < coCmp (cTo K d k) (cTo K d j)) || (decide (coCmp (cTo K d k) (cTo K d j) = 0) && lessB (K.getD k en0).nm (K.getD j en0).nm)) := by
  unfold bt btB
  rw [nr_co (getD_dir hK hk) (getD_dir hK hj)]
  rfl
/-- not better. -/
theorem nbt_iff (hK : ∀ e ∈ K, dirB e.d = true) {k j : Nat} (hk : k < K.length) (hj : j < K.length) : bt K d k j = false ↔ (cTo K d k).le (cTo K d j) ∧ ((cTo K d j).le (cTo K d k) → (K.getD j en0).nm.data.toList ≤ (K.getD k en0).nm.data.toList) := by
  rw [bt_is hK hk hj, less_is, Bool.or_eq_false_iff, decide_eq_false_iff_not, coCmp_pos (cTo_ok hK hk) (cTo_ok hK hj)]
  have n1 := coCmp_nn (cTo_ok (d := d) hK hk) (cTo_ok (d := d) hK hj)
  have n2 := coCmp_pos (cTo_ok (d := d) hK hk) (cTo_ok (d := d) hK hj)
  constructor
  · rintro ⟨h1, h2⟩
    have h1 := Classical.not_not.1 h1
    refine ⟨h1, fun h => ?_⟩
    have h3 : coCmp (cTo K d k) (cTo K d j) = 0 := by
      have a1 := n1.2 h
      have a2 : ¬ 0 < coCmp (cTo K d k) (cTo K d j) := fun q => n2.1 q h1
      omega
    rw [decide_eq_true h3, Bool.true_and, decide_eq_false_iff_not] at h2
    exact List.not_lt.1 h2
  · rintro ⟨h1, h2⟩
    refine ⟨fun q => q h1, ?_⟩
    rw [Bool.and_eq_false_iff]
    by_cases h : (cTo K d j).le (cTo K d k)
    · exact .inr (decide_eq_false (List.not_lt.2 (h2 h)))
    · refine .inl (decide_eq_false (fun q => h (n1.1 (by omega))))
theorem nbt_trans (hK : ∀ e ∈ K, dirB e.d = true) {k j i : Nat} (hk : k < K.length) (hj : j < K.length) (hi : i < K.length) (h1 : bt K d k j = false) (h2 : bt K d j i = false) : bt K d k i = false := by
  obtain ⟨a1, b1⟩ := (nbt_iff hK hk hj).1 h1
  obtain ⟨a2, b2⟩ := (nbt_iff hK hj hi).1 h2
  have ok := cTo_ok (d := d) hK hk
  have oj := cTo_ok (d := d) hK hj
  have oi := cTo_ok (d := d) hK hi
  refine (nbt_iff hK hk hi).2 ⟨a1.trans a2 ok oj oi, fun h => ?_⟩
  exact List.le_trans (b2 (h.trans a1 oi ok oj)) (b1 (a2.trans h oj oi ok))
theorem bt_asym (hK : ∀ e ∈ K, dirB e.d = true) {k j : Nat} (hk : k < K.length) (hj : j < K.length) (h : bt K d k j = true) : bt K d j k = false := by
  refine (nbt_iff hK hj hk).2 ?_
  have q : ¬ ((cTo K d k).le (cTo K d j) ∧ ((cTo K d j).le (cTo K d k) → (K.getD j en0).nm.data.toList ≤ (K.getD k en0).nm.data.toList)) := fun q => by
    rw [(nbt_iff hK hk hj).2 q] at h
    cases h
  by_cases h1 : (cTo K d k).le (cTo K d j)
  · have h2 : ¬ ((cTo K d j).le (cTo K d k) → (K.getD j en0).nm.data.toList ≤ (K.getD k en0).nm.data.toList) := fun z => q ⟨h1, z⟩
    by_cases h3 : (cTo K d j).le (cTo K d k)
    · refine ⟨h3, fun _ => ?_⟩
      rcases List.le_total (K.getD k en0).nm.data.toList (K.getD j en0).nm.data.toList with z | z
      · exact z
      · exact absurd (fun _ => z) h2
    · exact absurd (fun z => absurd z h3) h2
  · refine ⟨((cTo K d k).le_total (cTo K d j)).resolve_left h1, fun z => absurd z h1⟩
/-- two of which none is better have one name. -/
theorem bt_same (hK : ∀ e ∈ K, dirB e.d = true) {k j : Nat} (hk : k < K.length) (hj : j < K.length) (h1 : bt K d k j = false) (h2 : bt K d j k = false) : (K.getD k en0).nm = (K.getD j en0).nm := by
  obtain ⟨a1, b1⟩ := (nbt_iff hK hk hj).1 h1
  obtain ⟨a2, b2⟩ := (nbt_iff hK hj hk).1 h2
  have := List.le_antisymm (b2 a1) (b1 a2)
  have e : (K.getD k en0).nm.data = (K.getD j en0).nm.data := Array.toList_inj.1 this
  generalize (K.getD k en0).nm = a at *
  generalize (K.getD j en0).nm = b at *
  cases a
  cases b
  exact congrArg ByteArray.mk e
theorem stp_is (hK : ∀ e ∈ K, dirB e.d = true) {x : Int} (hx : x < (K.length : Int)) {z : Nat} (hz : z < K.length) : stp K d (enN K d) (tkN K d) x (z : Int) = if x < 0 then (z : Int) else if bt K d z x.toNat then (z : Int) else x := by
  unfold stp
  rw [Int.toNat_natCast]
  unfold enN tkN chB
  show (if (decide (x < 0) || (decide (x.toNat < K.length) && decide (0 ≤ coCmp (cTo K d z) (cTo K d x.toNat)))) then _ else _) = _
  by_cases h0 : x < 0
  · rw [decide_eq_true h0, if_pos h0]
    simp
  · have hx2 : x.toNat < K.length := by omega
    rw [decide_eq_false h0, if_neg h0, decide_eq_true hx2, bt_is hK hz hx2, Bool.false_or, Bool.true_and, Bool.false_or]
    generalize coCmp (cTo K d z) (cTo K d x.toNat) = c
    generalize lessB (K.getD z en0).nm (K.getD x.toNat en0).nm = l
    by_cases h1 : 0 < c
    · rw [decide_eq_true h1, decide_eq_true (show 0 ≤ c by omega)]; simp
    · rw [decide_eq_false h1]
      by_cases h2 : c = 0
      · rw [decide_eq_true h2, decide_eq_true (show 0 ≤ c by omega)]; cases l <;> simp
      · rw [decide_eq_false h2, decide_eq_false (show ¬ 0 ≤ c by omega)]; simp
theorem stp_lt (hK : ∀ e ∈ K, dirB e.d = true) {x : Int} (hx : x < (K.length : Int)) {z : Nat} (hz : z < K.length) : 0 ≤ stp K d (enN K d) (tkN K d) x (z : Int) ∧ stp K d (enN K d) (tkN K d) x (z : Int) < (K.length : Int) := by
  rw [stp_is hK hx hz]
  split
  · omega
  · split <;> omega
theorem fold_best (hK : ∀ e ∈ K, dirB e.d = true) : ∀ (V : List Int) (x : Int), (∀ z ∈ V, 0 ≤ z ∧ z < (K.length : Int)) → x < (K.length : Int) → V.foldl (stp K d (enN K d) (tkN K d)) x < (K.length : Int) ∧ (0 ≤ x → 0 ≤ V.foldl (stp K d (enN K d) (tkN K d)) x ∧ bt K d x.toNat (V.foldl (stp K d (enN K d) (tkN K d)) x).toNat = false) ∧ ∀ z ∈ V, 0 ≤ V.foldl (stp K d (enN K d) (tkN K d)) x ∧ bt K d z.toNat (V.foldl (stp K d (enN K d) (tkN K d)) x).toNat = false
  | [], x, _, hx => by
    refine ⟨hx, fun h => ⟨h, ?_⟩, (fun _ h => nomatch h)⟩
    have hx2 : x.toNat < K.length := by omega
    show bt K d x.toNat x.toNat = false
    exact (nbt_iff hK hx2 hx2).2 ⟨Co.le_refl _, fun _ => List.le_refl _⟩
  | z :: V, x, hV, hx => by
    have hz := hV z (List.mem_cons_self ..)
    obtain ⟨zn, rfl⟩ : ∃ zn : Nat, z = zn := ⟨z.toNat, by omega⟩
    have hzn : zn < K.length := by omega
    have hs := stp_lt (d := d) hK hx hzn
    have he := stp_is (d := d) hK hx hzn
    obtain ⟨i1, i2, i3⟩ := fold_best hK V (stp K d (enN K d) (tkN K d) x (zn : Int)) (fun y hy => hV y (List.mem_cons_of_mem _ hy)) hs.2
    obtain ⟨j1, j2⟩ := i2 hs.1
    show V.foldl _ (stp K d (enN K d) (tkN K d) x (zn : Int)) < _ ∧ (_ → 0 ≤ V.foldl _ (stp K d (enN K d) (tkN K d) x (zn : Int)) ∧ bt K d _ (V.foldl _ (stp K d (enN K d) (tkN K d) x (zn : Int))).toNat = false) ∧ ∀ z ∈ _, 0 ≤ V.foldl _ (stp K d (enN K d) (tkN K d) x (zn : Int)) ∧ bt K d _ (V.foldl _ (stp K d (enN K d) (tkN K d) x (zn : Int))).toNat = false
    generalize V.foldl (stp K d (enN K d) (tkN K d)) (stp K d (enN K d) (tkN K d) x (zn : Int)) = y at *
    generalize stp K d (enN K d) (tkN K d) x (zn : Int) = x1 at *
    have hy : y.toNat < K.length := by omega
    have key : (0 ≤ x → bt K d x.toNat y.toNat = false) ∧ bt K d zn y.toNat = false := by
      by_cases h0 : x < 0
      · rw [if_pos h0] at he
        subst he
        rw [Int.toNat_natCast] at j2
        exact ⟨fun q => absurd q (by omega), j2⟩
      · rw [if_neg h0] at he
        have hx2 : x.toNat < K.length := by omega
        cases hb : bt K d zn x.toNat
        · rw [hb, if_neg (by decide)] at he
          subst he
          exact ⟨fun _ => j2, nbt_trans hK hzn hx2 hy hb j2⟩
        · rw [hb, if_pos rfl] at he
          subst he
          rw [Int.toNat_natCast] at j2
          exact ⟨fun _ => nbt_trans hK hx2 hzn hy (bt_asym hK hzn hx2 hb) j2, j2⟩
    refine ⟨i1, fun h => ⟨j1, key.1 h⟩, fun t ht => ?_⟩
    rcases List.mem_cons.1 ht with rfl | ht
    · rw [Int.toNat_natCast]
      exact ⟨j1, key.2⟩
    · exact i3 t ht
theorem nb_best (hK : ∀ e ∈ K, dirB e.d = true) : ∀ i, i ≤ K.length → (0 < i → 0 ≤ nbV d K i) ∧ nbV d K i < (i : Int) ∧ ∀ k, k < i → bt K d k (nbV d K i).toNat = false
  | 0, _ => ⟨fun h => absurd h (Nat.lt_irrefl 0), by show (-1 : Int) < _; omega, fun k h => absurd h (Nat.not_lt_zero k)⟩
  | i + 1, hi => by
    obtain ⟨h1, h2, h3⟩ := nb_best hK i (by omega)
    have e : nbV d K (i + 1) = if nbV d K i < 0 then ((i : Nat) : Int) else if bt K d i (nbV d K i).toNat then ((i : Nat) : Int) else nbV d K i := rfl
    rw [e]
    generalize nbV d K i = y at *
    have self : ∀ {k : Nat}, k < K.length → bt K d k k = false := fun {k} hk => (nbt_iff hK hk hk).2 ⟨Co.le_refl _, fun _ => List.le_refl _⟩
    by_cases h0 : y < 0
    · rw [if_pos h0]
      refine ⟨fun _ => by omega, by omega, fun k hk => ?_⟩
      rw [Int.toNat_natCast]
      have : i = 0 := by
        rcases Nat.eq_zero_or_pos i with q | q
        · exact q
        · have := h1 q; omega
      obtain rfl : k = i := by omega
      exact self (by omega)
    · rw [if_neg h0]
      have hy : y.toNat < K.length := by omega
      cases hb : bt K d i y.toNat
      · rw [if_neg (by decide)]
        refine ⟨fun _ => by omega, by omega, fun k hk => ?_⟩
        by_cases q : k = i
        · subst q; exact hb
        · exact h3 k (by omega)
      · rw [if_pos rfl]
        refine ⟨fun _ => by omega, by omega, fun k hk => ?_⟩
        rw [Int.toNat_natCast]
        by_cases q : k = i
        · subst q; exact self (by omega)
        · exact nbt_trans hK (by omega) hy (by omega) (h3 k (by omega)) (bt_asym hK (by omega) hy hb)
/-- what is found is the nearest. -/
theorem near_is {lv : Int} (hlv : 0 ≤ lv) (hK : ∀ e ∈ K, dirB e.d = true) (h0 : 0 < K.length) {y : Int} (h : Cv lv K d (enN K d) (tkN K d) (facL 6) (-1) y) : 0 ≤ y ∧ y < (K.length : Int) ∧ ∀ k, k < K.length → bt K d k y.toNat = false := by
  obtain ⟨V, e1, n1, s1, c1⟩ := h
  have hV : ∀ z ∈ V, 0 ≤ z ∧ z < (K.length : Int) := fun z hz => by
    obtain ⟨s, _, h3⟩ := s1 z hz
    exact gof_in h3
  obtain ⟨f1, _, f3⟩ := fold_best (d := d) hK V (-1) hV (by omega)
  rw [← e1] at f1 f3
  have all : ∀ k : Nat, k < K.length → (k : Int) ∈ V ∨ enN K d y (cTo K d k) = false := fun k hk => by
    obtain ⟨s, hs, hm⟩ := fac_all hK hlv hk
    have := c1 s hs _ hm
    rw [Int.toNat_natCast] at this
    exact this
  have hy0 : 0 ≤ y := by
    rcases all 0 h0 with q | q
    · exact (f3 _ q).1
    · unfold enN at q
      rw [Bool.or_eq_false_iff] at q
      have := of_decide_eq_false q.1
      omega
  refine ⟨hy0, f1, fun k hk => ?_⟩
  rcases all k hk with q | q
  · have := (f3 _ q).2
    rwa [Int.toNat_natCast] at this
  · have hy : y.toNat < K.length := by omega
    unfold enN at q
    rw [Bool.or_eq_false_iff, decide_eq_true hy, Bool.true_and, decide_eq_false_iff_not, decide_eq_false_iff_not, coCmp_nn (cTo_ok hK hk) (cTo_ok hK hy)] at q
    exact (nbt_iff hK hk hy).2 ⟨((cTo K d k).le_total (cTo K d y.toNat)).resolve_right q.2, fun z => absurd z q.2⟩
theorem nn_is {lv : Int} (hlv : 0 ≤ lv) (hK : ∀ e ∈ K, dirB e.d = true) (h0 : 0 < K.length) {y : Int} (h : Cv lv K d (enN K d) (tkN K d) (facL 6) (-1) y) : 0 ≤ nbV d K K.length ∧ (K.getD y.toNat en0).nm = nnV d K := by
  obtain ⟨h1, h2, h3⟩ := near_is hlv hK h0 h
  obtain ⟨g1, g2, g3⟩ := nb_best (d := d) hK K.length (Nat.le_refl _)
  have hn := g1 h0
  refine ⟨hn, ?_⟩
  unfold nnV
  rw [if_pos hn]
  exact bt_same hK (by omega) (by omega) (g3 _ (by omega)) (h3 _ (by omega))
/-- where no name comes twice, it is that number. -/
theorem nb_is {lv : Int} (hlv : 0 ≤ lv) (hK : ∀ e ∈ K, dirB e.d = true) (h0 : 0 < K.length) (hN : ∀ i j, i < K.length → j < K.length → (K.getD i en0).nm = (K.getD j en0).nm → i = j) {y : Int} (h : Cv lv K d (enN K d) (tkN K d) (facL 6) (-1) y) : y = nbV d K K.length := by
  obtain ⟨h1, h2, h3⟩ := near_is hlv hK h0 h
  obtain ⟨g1, g2, g3⟩ := nb_best (d := d) hK K.length (Nat.le_refl _)
  have hn := g1 h0
  have := hN _ _ (by omega) (by omega) (bt_same hK (show y.toNat < K.length by omega) (by omega) (g3 _ (by omega)) (h3 _ (by omega)))
  omega
theorem mo_near (_hd : dirB d = true) (hK : ∀ e ∈ K, dirB e.d = true) : SeaMo K d (enN K d) (tkN K d) where
  mono := fun x i c hi hc h1 h2 => by
    unfold enN at h1 h2 ⊢
    rw [Bool.or_eq_true] at h1 ⊢
    rcases h1 with h1 | h1
    · exact .inl h1
    · rw [Bool.and_eq_true] at h1
      have hx := of_decide_eq_true h1.1
      refine .inr ?_
      rw [Bool.and_eq_true]
      refine ⟨h1.1, ?_⟩
      have ox := cTo_ok (d := d) hK hx
      have oi := cTo_ok (d := d) hK hi
      have l1 : (cTo K d x.toNat).le (cTo K d i) := (coCmp_nn oi ox).1 (of_decide_eq_true h1.2)
      unfold tkN at h2
      split at h2
      · rw [Bool.or_eq_true] at h2
        rcases h2 with h2 | h2
        · have := of_decide_eq_true h2; omega
        · rw [Bool.and_eq_true, Int.toNat_natCast] at h2
          exact decide_eq_true ((coCmp_nn hc.ok ox).2 (l1.trans ((coCmp_nn hc.ok oi).1 (of_decide_eq_true h2.2)) ox oi hc.ok))
      · rw [Bool.or_eq_true] at h2
        rcases h2 with h2 | h2
        · rename_i q
          unfold chB at q
          rw [h2] at q
          simp at q
        · rw [Bool.and_eq_true] at h2
          exact h2.2
  anti := fun x c c' hc hc' hle h => by
    unfold enN at h ⊢
    rw [Bool.or_eq_true] at h ⊢
    rcases h with h | h
    · exact .inl h
    · rw [Bool.and_eq_true] at h
      have hx := of_decide_eq_true h.1
      have ox := cTo_ok (d := d) hK hx
      refine .inr ?_
      rw [Bool.and_eq_true]
      exact ⟨h.1, decide_eq_true ((coCmp_nn hc'.ok ox).2 (((coCmp_nn hc.ok ox).1 (of_decide_eq_true h.2)).trans hle ox hc.ok hc'.ok))⟩
end
end Go.Proofs.YtfonpobdnhifgamGreatDoor
