/-
  A plan out of the best row is worth what the row is. Nothing of the program.
-/
import Derived.Test.YtoacdaemhcbbhaaDoorNgG8
import Derived.Test.YtoacdaemhcbbhaaDoorNgH4
namespace Go.Proofs.YtoacdaemhcbbhaaDoor
open Go Go.RowKit

/-- no two jobs have one name. -/
def Dis (l : List Jb) : Prop := ∀ a b, a < l.length → b < l.length → a ≠ b → eqN (l.getD a jb0).nm (l.getD b jb0).nm = false
theorem eqN_comm (x y : ByteArray) : eqN x y = eqN y x := by
  unfold eqN
  exact Bool.beq_comm
theorem dis_of {l : List Jb} (h : ∀ i, i < l.length → nmX l i = false) : Dis l := by
  have key : ∀ a b, a < b → b < l.length → eqN (l.getD a jb0).nm (l.getD b jb0).nm = false := fun a b hab hb => by
    have := h b hb
    unfold nmX at this
    rw [Bool.or_eq_false_iff] at this
    have h2 := of_decide_eq_false this.2
    exact Bool.eq_false_iff.2 (fun z => h2 ⟨a, hab, z⟩)
  intro a b ha hb hab
  rcases Nat.lt_or_ge a b with q | q
  · exact key a b q hb
  · rw [eqN_comm]
    exact key b a (by omega) ha
theorem eqN_self (x : ByteArray) : eqN x x = true := by
  unfold eqN
  simp
theorem kK_name {l : List Jb} (hd : Dis l) {k : Nat} (hk : k < l.length) : ∀ n, n ≤ l.length → k < n → kK l (l.getD k jb0).nm n = (k : Nat)
  | 0, _, h => absurd h (Nat.not_lt_zero k)
  | n + 1, hn, h => by
    show (if eqN (l.getD n jb0).nm (l.getD k jb0).nm then ((n : Nat) : Int) else kK l (l.getD k jb0).nm n) = _
    by_cases e : n = k
    · subst e
      rw [eqN_self, if_pos rfl]
    · rw [hd n k (by omega) hk e, if_neg (by decide)]
      exact kK_name hd hk n (by omega) (by omega)
theorem endK_name {l : List Jb} (hd : Dis l) {k : Nat} (hk : k < l.length) (fr : Int) : ∀ m, m ≤ l.length → endK l (l.getD k jb0).nm fr m = if k < m then fr + (l.getD k jb0).lo else fr
  | 0, _ => rfl
  | m + 1, hm => by
    show (if eqN (l.getD m jb0).nm (l.getD k jb0).nm then endK l (l.getD k jb0).nm fr m + (l.getD m jb0).lo else endK l (l.getD k jb0).nm fr m) = _
    rw [endK_name hd hk fr m (by omega)]
    by_cases e : m = k
    · subst e
      rw [eqN_self, if_pos rfl, if_neg (Nat.lt_irrefl _), if_pos (by omega)]
    · rw [hd m k (by omega) hk e, if_neg (by decide)]
      by_cases q : k < m
      · rw [if_pos q, if_pos (by omega)]
      · rw [if_neg q, if_neg (by omega)]
theorem in_of_so {j : Jb} {t a : Int} (h : soF j.lo t j.ws = some a) : inWB j a = true := by
  obtain ⟨s, h1, h2, h3⟩ := soF_in h
  obtain ⟨i, hi, rfl⟩ := List.mem_iff_getElem.1 h1
  refine anyN_iff.2 ⟨i, hi, ?_⟩
  unfold inP
  rw [List.getD_eq_getElem?_getD, List.getElem?_eq_getElem hi]
  show (decide (j.ws[i].f ≤ a) && decide (a ≤ j.ws[i].t - j.lo)) = true
  rw [decide_eq_true h2, decide_eq_true (by omega)]
  rfl
theorem slL_get (l : List Jb) (Q : List (Nat × Int)) {i : Nat} (h : i < Q.length) : (slL l Q).getD i sl0 = ⟨(l.getD Q[i].1 jb0).nm, Q[i].2⟩ := by
  unfold slL
  rw [List.getD_eq_getElem?_getD, List.getElem?_map, List.getElem?_eq_getElem h]
  rfl
theorem chain_worth {l : List Jb} (hd : Dis l) {Q : List (Nat × Int)} (hm : ∀ x ∈ Q, x.1 < l.length ∧ ∃ t, soF (l.getD x.1 jb0).lo t (l.getD x.1 jb0).ws = some x.2) (hp : Q.Pairwise fun x y => x.1 ≠ y.1 ∧ x.2 + (l.getD x.1 jb0).lo ≤ y.2) : ∀ i, i ≤ Q.length → worK l (slL l Q) i = some ((Q.take i).map fun x => (l.getD x.1 jb0).wo).sum
  | 0, _ => rfl
  | i + 1, hi => by
    have ih := chain_worth hd hm hp i (by omega)
    have hiQ : i < Q.length := by omega
    obtain ⟨h1, t, h2⟩ := hm Q[i] (List.getElem_mem hiQ)
    show (match worK l (slL l Q) i with | none => none | some w => _) = _
    rw [ih]
    have e1 := slL_get l Q hiQ
    have e2 := kK_name hd h1 l.length (Nat.le_refl _) h1
    have e3 : anyN (badB l (slL l Q) i) i = false := Bool.eq_false_iff.2 (fun z => by
      obtain ⟨n, hn, hb⟩ := anyN_iff.1 z
      have hnQ : n < Q.length := by omega
      obtain ⟨g1, _⟩ := hm Q[n] (List.getElem_mem hnQ)
      obtain ⟨p1, p2⟩ := List.pairwise_iff_getElem.1 hp n i hnQ hiQ hn
      unfold badB at hb
      rw [slL_get l Q hnQ, e1] at hb
      simp only at hb
      rw [hd _ _ g1 h1 p1, Bool.false_or, endK_name hd g1 _ l.length (Nat.le_refl _), if_pos g1] at hb
      have := of_decide_eq_true hb
      omega)
    simp only [e1, e2, e3]
    rw [if_neg (by omega), Int.toNat_natCast, in_of_so h2, if_neg (by decide), if_neg (by decide), List.take_add_one, List.getElem?_eq_getElem hiQ, List.map_append, List.sum_append]
    simp
/-- the best plan. -/
theorem plan_worth {l : List Jb} (hn : l.length ≤ 6) (h0 : joE l = 0) {b : Nat} (hb : BestI l b) : worK l (slL l (backL (jo l) tMin 6 b)).reverse (slL l (backL (jo l) tMin 6 b)).reverse.length = some (rowV (jo l) tMin b).wo := by
  obtain ⟨_, hx, hok⟩ := joE_ok h0
  have hJ := jo_ok hn hok
  have hc := back_chain hJ b hb.lt hb.can 6 (by have := (sumS_card (s := b) (jo l).n).2; have : (jo l).n = l.length := rfl; omega)
  generalize backL (jo l) tMin 6 b = B at *
  have e : (slL l B).reverse = slL l B.reverse := by unfold slL; exact List.map_reverse.symm
  rw [e, slL_len, ← hc.sum]
  have h1 := chain_worth (dis_of hx) (Q := B.reverse) (fun x hx => by
    obtain ⟨m1, _, m3, _⟩ := hc.mem x (List.mem_reverse.1 hx)
    exact ⟨m1, m3⟩) (List.pairwise_reverse.2 (hc.pw.imp (fun h => ⟨fun q => h.1 q.symm, h.2⟩))) B.reverse.length (Nat.le_refl _)
  rw [h1, List.take_length, List.map_reverse, List.sum_reverse]
  rfl
theorem soF_far {lo t t' : Int} : ∀ {ws : List Spn}, (∀ s ∈ ws, t ≤ s.f ∧ t' ≤ s.f) → soF lo t ws = soF lo t' ws
  | [], _ => rfl
  | s :: ws, h => by
    obtain ⟨h1, h2⟩ := h s (List.mem_cons_self ..)
    rw [soF_cons, soF_cons, if_neg (show ¬ s.f < t by omega), if_neg (show ¬ s.f < t' by omega), soF_far (fun s' hs' => h s' (List.mem_cons_of_mem _ hs'))]
theorem plan_most {l : List Jb} (hn : l.length ≤ 6) (h0 : joE l = 0) {b : Nat} (hb : BestI l b) : (rowV (jo l) tMin b).wo = mostF (jo l) l.length (fun _ => false) (-4611686018427387904) := by
  obtain ⟨_, hx, hok⟩ := joE_ok h0
  exact most_is (jo_ok hn hok) (T' := -4611686018427387904) (fun i hi => soF_far (fun s hs => by
    have := ok_bd (hok i hi) hs
    unfold tMin
    omega)) hb.lt hb.can hb.le
end Go.Proofs.YtoacdaemhcbbhaaDoor
