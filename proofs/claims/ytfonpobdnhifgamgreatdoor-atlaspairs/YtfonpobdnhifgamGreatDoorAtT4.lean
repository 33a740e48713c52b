/-
  What is found within is what the document asks for.
-/
import Derived.Test.YtfonpobdnhifgamGreatDoorAtTA
import Derived.Test.YtfonpobdnhifgamGreatDoorAtXw
namespace Go.Proofs.YtfonpobdnhifgamGreatDoor
open Go Go.RowKit

theorem insB_perm {M N : List ByteArray} (h : M.Perm N) : insB M = insB N := by
  obtain ⟨p1, s1⟩ := insB_both M
  obtain ⟨p2, s2⟩ := insB_both N
  refine List.Perm.eq_of_pairwise (le := leN) (fun a b _ _ h1 h2 => ?_) s1 s2 (p1.trans (h.trans p2.symm))
  have := List.le_antisymm h1 h2
  have e : a.data = b.data := Array.toList_inj.1 this
  cases a
  cases b
  exact congrArg ByteArray.mk e
theorem fold_within {K : List En} {d : Dr} {lc : Co} : ∀ (V : List Int) (x : List Nat), V.foldl (stp K d (enW lc) tkW) x = x ++ (V.filter fun z => enW lc [] (coTo d (K.getD z.toNat en0).d)).map Int.toNat
  | [], x => by simp
  | z :: V, x => by
    have ih := fold_within (K := K) (d := d) (lc := lc) V (stp K d (enW lc) tkW x z)
    show V.foldl (stp K d (enW lc) tkW) (stp K d (enW lc) tkW x z) = _
    rw [ih]
    have e : ∀ y, enW lc y (coTo d (K.getD z.toNat en0).d) = enW lc [] (coTo d (K.getD z.toNat en0).d) := fun _ => rfl
    unfold stp
    rw [e, List.filter_cons]
    split
    · rename_i h
      show (x ++ [z.toNat]) ++ _ = _
      rw [List.append_assoc]
      rfl
    · rfl
theorem coB_is {d e : Dr} (hd : dirB d = true) (he : dirB e = true) {num den : Int} (hden : 0 < den) : coB d e num den = decide (0 ≤ coCmp (coTo d e) (coFrom d num den)) := by
  have h1 := dir_is hd
  have h2 := dir_is he
  have g1 : 0 < dtV d d := dt_pos (by omega)
  have g2 : 0 < dtV e e := dt_pos (by omega)
  rw [Bool.eq_iff_iff, decide_eq_true_iff, coCmp_nn (coTo_ok g2) (coFrom_ok g1 hden)]
  unfold Co.le LeF Co.x coTo coFrom coB
  simp only
  have q1 : 0 < den * den := Int.mul_pos hden hden
  have q2 : 0 < dtV d d * dtV e e := Int.mul_pos g1 g2
  generalize dtV d e = t at *
  generalize den * den = D at *
  have e1 : ∀ s : Int, s * (num * num * dtV d d) * dtV e e = s * (num * num * (dtV d d * dtV e e)) := fun s => by
    rw [Int.mul_assoc s, Int.mul_assoc (num * num)]
  rw [e1]
  generalize dtV d d * dtV e e = P at *
  have e2 : sgV t * (t * t) * D = sgV t * (t * t * D) := Int.mul_assoc ..
  rw [e2]
  have n1 : 0 ≤ num * num * P := Int.mul_nonneg (sq_nn num) (by omega)
  have n2 : 0 ≤ t * t * D := Int.mul_nonneg (sq_nn t) (by omega)
  have n3 : num ≠ 0 → 0 < num * num * P := fun h => Int.mul_pos (sq_pos h) q2
  have n4 : t ≠ 0 → 0 < t * t * D := fun h => Int.mul_pos (sq_pos h) q1
  have n5 : num = 0 → num * num * P = 0 := fun h => by rw [h]; simp
  have n6 : t = 0 → t * t * D = 0 := fun h => by rw [h]; simp
  generalize num * num * P = A at *
  generalize t * t * D = B at *
  rcases sg_ok num with ⟨s1, o1⟩ | ⟨s1, o1⟩ | ⟨s1, o1⟩ <;> rcases sg_ok t with ⟨s2, o2⟩ | ⟨s2, o2⟩ | ⟨s2, o2⟩ <;> rw [s1, s2] <;> (repeat' split) <;> simp only [decide_eq_true_eq] <;> omega
theorem cn_is {lv : Int} {K : List En} (hlv : 0 ≤ lv) (hK : ∀ e ∈ K, dirB e.d = true) {d : Dr} (hd : dirB d = true) {num den : Int} (hden : 0 < den) {x : List Nat} (h : Cv lv K d (enW (coFrom d num den)) tkW (facL 6) [] x) : insB (x.map fun i => (K.getD i en0).nm) = cnV d num den K K.length := by
  obtain ⟨V, e1, n1, s1, c1⟩ := h
  rw [fold_within, List.nil_append] at e1
  have hV : ∀ z ∈ V, 0 ≤ z ∧ z < (K.length : Int) := fun z hz => by
    obtain ⟨s, _, h3⟩ := s1 z hz
    exact gof_in h3
  have hcn := ixN (p := fun e => coB d e.d num den) (cnV d num den K) rfl (fun i _ => rfl) K.length (Nat.le_refl _)
  rw [hcn]
  refine insB_perm ?_
  rw [e1, List.map_map]
  have ef : (V.filter fun z => enW (coFrom d num den) [] (coTo d (K.getD z.toNat en0).d)).map ((fun i => (K.getD i en0).nm) ∘ Int.toNat) = (V.filter fun z => enW (coFrom d num den) [] (coTo d (K.getD z.toNat en0).d)).map (nmAt K) := rfl
  rw [ef]
  refine List.Perm.map _ ?_
  refine (List.perm_ext_iff_of_nodup (n1.filter _) (ixL_nodup _ _ _)).2 (fun z => ?_)
  rw [List.mem_filter, ixL_mem]
  constructor
  · rintro ⟨h1, h2⟩
    have hz := hV z h1
    refine ⟨z.toNat, by omega, by omega, ?_⟩
    show coB d (K.getD z.toNat en0).d num den = true
    rw [coB_is hd (getD_dir hK (by omega)) hden]
    exact h2
  · rintro ⟨k, rfl, h2, h3⟩
    have h4 : enW (coFrom d num den) [] (coTo d (K.getD k en0).d) = true := by
      have := coB_is hd (getD_dir hK h2) hden (num := num)
      unfold enW
      rw [← this]
      exact h3
    obtain ⟨s, hs, hm⟩ := fac_all hK hlv h2
    rw [Int.toNat_natCast]
    refine ⟨?_, h4⟩
    rcases c1 s hs _ hm with q | q
    · exact q
    · rw [Int.toNat_natCast] at q
      have h5 : enW (coFrom d num den) x (coTo d (K.getD k en0).d) = true := h4
      rw [h5] at q
      cases q
end Go.Proofs.YtfonpobdnhifgamGreatDoor
