/-
  Jobs as a plan sees them. Nothing of the program.
-/
import Derived.Test.YtoacdaemhcbbhaaDoorNgG2
import Derived.Test.YtoacdaemhcbbhaaDoorEvSpP
namespace Go.Proofs.YtoacdaemhcbbhaaDoor
open Go Go.RowKit

def jo (l : List Jb) : Jo := ⟨l.length, fun i => (l.getD i jb0).lo, fun i => (l.getD i jb0).wo, fun i t => soF (l.getD i jb0).lo t (l.getD i jb0).ws⟩
theorem mx {s t : Int} : ∃ m, (if s < t then t else s) = m ∧ t ≤ m ∧ s ≤ m ∧ (m = t ∨ m = s) := ⟨_, rfl, by split <;> omega⟩
theorem soF_cons (lo t : Int) (s : Spn) (ws : List Spn) : soF lo t (s :: ws) = if (if s.f < t then t else s.f) + lo ≤ s.t then some (if s.f < t then t else s.f) else soF lo t ws := rfl
theorem soF_ge {lo t : Int} : ∀ {ws : List Spn} {a : Int}, soF lo t ws = some a → t ≤ a
  | [], _, h => nomatch h
  | s :: ws, a, h => by
    rw [soF_cons] at h
    obtain ⟨m, hm, m1, m2, _⟩ := mx (s := s.f) (t := t)
    rw [hm] at h
    by_cases q : m + lo ≤ s.t
    · rw [if_pos q] at h
      injection h with h
      omega
    · rw [if_neg q] at h
      exact soF_ge h
theorem soF_in {lo t : Int} : ∀ {ws : List Spn} {a : Int}, soF lo t ws = some a → ∃ s ∈ ws, s.f ≤ a ∧ a + lo ≤ s.t
  | [], _, h => nomatch h
  | s :: ws, a, h => by
    rw [soF_cons] at h
    obtain ⟨m, hm, m1, m2, _⟩ := mx (s := s.f) (t := t)
    rw [hm] at h
    by_cases q : m + lo ≤ s.t
    · rw [if_pos q] at h
      injection h with h
      exact ⟨s, List.mem_cons_self .., by omega, by omega⟩
    · rw [if_neg q] at h
      obtain ⟨s', h1, h2⟩ := soF_in h
      exact ⟨s', List.mem_cons_of_mem _ h1, h2⟩
theorem soF_mo {lo t t' : Int} (hlo : 1 ≤ lo) (ht : t' ≤ t) : ∀ {ws : List Spn} {a : Int}, ws.Pairwise (fun a b => a.t < b.f) → soF lo t ws = some a → ∃ a', soF lo t' ws = some a' ∧ a' ≤ a
  | [], _, _, h => nomatch h
  | s :: ws, a, hp, h => by
    rw [soF_cons] at h ⊢
    obtain ⟨p1, p2⟩ := List.pairwise_cons.1 hp
    obtain ⟨m, hm, m1, m2, m3⟩ := mx (s := s.f) (t := t)
    obtain ⟨m', hm', n1, n2, n3⟩ := mx (s := s.f) (t := t')
    rw [hm] at h
    rw [hm']
    by_cases q : m' + lo ≤ s.t
    · rw [if_pos q]
      refine ⟨_, rfl, ?_⟩
      by_cases q2 : m + lo ≤ s.t
      · rw [if_pos q2] at h
        injection h with h
        omega
      · rw [if_neg q2] at h
        obtain ⟨s', h1, h2, h3⟩ := soF_in h
        have := p1 s' h1
        omega
    · rw [if_neg q]
      rw [if_neg (by omega)] at h
      exact soF_mo hlo ht p2 h
theorem ok_pw {j : Jb} (h : j.Ok) : j.ws.Pairwise (fun a b => a.t < b.f) := by
  refine List.pairwise_iff_getElem.2 (fun i k hi hk hik => ?_)
  have hr : riseV j.ws := fun i hi => by
    have := h.r i hi
    unfold Spn.Ok at this
    exact ⟨this.1, this.2.2.2⟩
  obtain ⟨d, rfl⟩ : ∃ d, k = i + d + 1 := ⟨k - i - 1, by omega⟩
  have := rise_far hr d hk
  rw [List.getD_eq_getElem?_getD, List.getD_eq_getElem?_getD, List.getElem?_eq_getElem hi, List.getElem?_eq_getElem hk] at this
  exact this
theorem ok_bd {j : Jb} (h : j.Ok) {s : Spn} (hs : s ∈ j.ws) : -1152921504606846976 ≤ s.f ∧ s.f < s.t ∧ s.t ≤ 1152921504606846976 := by
  obtain ⟨i, hi, rfl⟩ := List.mem_iff_getElem.1 hs
  have := h.r i hi
  unfold Spn.Ok at this
  rw [List.getD_eq_getElem?_getD, List.getElem?_eq_getElem hi] at this
  exact ⟨this.2.1, this.1, this.2.2.1⟩
theorem so_bd {j : Jb} (h : j.Ok) {t a : Int} (ha : soF j.lo t j.ws = some a) : -1152921504606846976 ≤ a ∧ a + j.lo ≤ 1152921504606846976 := by
  obtain ⟨s, h1, h2, h3⟩ := soF_in ha
  have := ok_bd h h1
  omega
theorem le_ok {j : Jb} (h : j.Ok) : WsOk (leL j.lo j.ws) := by
  have hm : ∀ k, k < (leL j.lo j.ws).length → (leL j.lo j.ws).getD k sp0 ∈ j.ws := fun k hk => by
    rw [List.getD_eq_getElem?_getD, List.getElem?_eq_getElem hk]
    exact (List.mem_filter.1 (List.getElem_mem hk)).1
  have hp : (leL j.lo j.ws).Pairwise (fun a b => a.t < b.f) := (ok_pw h).filter _
  refine ⟨Nat.le_trans (leL_len _ _) h.n, fun k hk => ok_bd h (hm k hk), fun i k hik hk => ?_⟩
  have h1 := List.pairwise_iff_getElem.1 hp i k (by omega) hk hik
  have h2 := ok_bd h (hm k hk)
  have e1 : (leL j.lo j.ws).getD k sp0 = (leL j.lo j.ws)[k] := by rw [List.getD_eq_getElem?_getD, List.getElem?_eq_getElem hk]; rfl
  have e2 : (leL j.lo j.ws).getD i sp0 = (leL j.lo j.ws)[i] := by rw [List.getD_eq_getElem?_getD, List.getElem?_eq_getElem (by omega)]; rfl
  rw [e1] at h2 ⊢
  rw [e2]
  omega
theorem jo_ok {l : List Jb} (hn : l.length ≤ 6) (hk : ∀ k, k < l.length → (l.getD k jb0).Ok) : (jo l).Ok where
  n := hn
  wo := fun i hi => by have := (hk i hi).w1; show 0 < (l.getD i jb0).wo; omega
  lo := fun i hi => by have := (hk i hi).l1; show 0 < (l.getD i jb0).lo; omega
  ge := fun h => soF_ge h
  mo := fun {i t t' a} ht h => by
    by_cases q : i < l.length
    · exact soF_mo (hk i q).l1 ht (ok_pw (hk i q)) h
    · have e : l.getD i jb0 = jb0 := by rw [List.getD_eq_getElem?_getD, List.getElem?_eq_none (by omega)]; rfl
      have h : soF (l.getD i jb0).lo t (l.getD i jb0).ws = some a := h
      rw [e] at h
      exact nomatch h
def tMin : Int := -9223372036854775808
theorem sumS_bd {g : Nat → Int} {B : Int} (hB : 0 ≤ B) {s : Nat} : ∀ k, (∀ i, i < k → 0 ≤ g i ∧ g i ≤ B) → 0 ≤ sumS g s k ∧ sumS g s k ≤ (k : Int) * B
  | 0, _ => ⟨Int.le_refl _, by simp [sumS]⟩
  | k + 1, h => by
    have ih := sumS_bd hB (s := s) k (fun i hi => h i (by omega))
    have hk := h k (by omega)
    have e : ((k + 1 : Nat) : Int) * B = (k : Int) * B + B := by
      rw [Int.natCast_add, Int.add_mul]
      simp
    show 0 ≤ (if s.testBit k then sumS g s k + g k else sumS g s k) ∧ (if s.testBit k then sumS g s k + g k else sumS g s k) ≤ _
    rw [e]
    split <;> omega
theorem row_wo_bd {l : List Jb} (hn : l.length ≤ 6) (hk : ∀ k, k < l.length → (l.getD k jb0).Ok) {T : Int} {s : Nat} (hs : s < 2 ^ l.length) : 0 ≤ (rowV (jo l) T s).wo ∧ (rowV (jo l) T s).wo ≤ 6597069766656 := by
  have hJ := jo_ok hn hk
  have h64 := pow_six hn
  cases hc : (rowV (jo l) T s).can
  · rcases Nat.eq_zero_or_pos s with rfl | q
    · cases hc
    · rcases row_from (J := jo l) (T := T) q with ⟨_, h⟩ | ⟨h, _⟩
      · rw [h]
        exact ⟨Int.le_refl _, by decide⟩
      · rw [h] at hc; cases hc
  · rw [row_worth hJ s (by omega) hc]
    have := sumS_bd (g := (jo l).wo) (B := 1099511627776) (by decide) (s := s) l.length (fun i hi => by
      have h1 := (hk i hi).w1
      have h2 := (hk i hi).w2
      show 0 ≤ (l.getD i jb0).wo ∧ (l.getD i jb0).wo ≤ _
      omega)
    refine ⟨this.1, Int.le_trans this.2 ?_⟩
    have : (l.length : Int) ≤ 6 := by omega
    omega
theorem bg_so {j : Jb} (t : Int) : bgV j.lo t (leL j.lo j.ws) = soF j.lo t j.ws := (soF_is j.lo t j.ws).symm
end Go.Proofs.YtoacdaemhcbbhaaDoor
