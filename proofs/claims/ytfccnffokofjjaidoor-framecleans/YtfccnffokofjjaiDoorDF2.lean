/-
  The program's At, of a picture.
-/
import Derived.Test.YtfccnffokofjjaiDoorDF1
namespace Go.Proofs.YtfccnffokofjjaiDoor
open Go Go.RowKit

theorem wrap_small {x : Int} (h1 : -9223372036854775808 ≤ x) (h2 : x ≤ 9223372036854775807) : IntKind.i64.wrap x = x := by
  unfold IntKind.wrap
  simp [IntKind.signed, IntKind.bits]
  omega
set_option maxRecDepth 100000 in
set_option maxHeartbeats 1600000 in
theorem at_one : FrOne := by
  intro w v p x y hv hok
  obtain ⟨ad, cap, rfl, hc, hl⟩ := hv
  obtain ⟨W, H, L⟩ := p
  obtain ⟨w1, w2, h1, h2, hlen, _⟩ := hok
  have hE : picE ⟨W, H, L⟩ = 0 := pic_right ⟨w1, w2, h1, h2, hlen, by assumption⟩
  simp only at hc hl w1 w2 h1 h2 hlen ⊢
  have hb := below_a w (.cells #[.int .i64 W, .int .i64 H, .slice ad L.length cap] 27)
  obtain ⟨c0, c1, c2⟩ := pic_three (alloc_last w (.cells #[.int .i64 W, .int .i64 H, .slice ad L.length cap] 27))
  have hc2 := hc.below hb
  have HB := hideR hb
  clear hb hc
  by_cases hin : 0 ≤ x ∧ 0 ≤ y ∧ x < W ∧ y < H
  · obtain ⟨i1, i2, i3, i4⟩ := hin
    have hB : atB ⟨W, H, L⟩ x y = true := by unfold atB; simp [hE, i1, i2, i3, i4]
    obtain ⟨_, _, _, _, _, a1, a2, a3⟩ := at_in hB
    simp only at a1 a2 a3
    have hV : atV ⟨W, H, L⟩ x y = L.getD (y * W + x).toNat 0 := by unfold atV; rw [if_pos hB]
    obtain ⟨b, o, rfl, _, hx⟩ := hc2.at_ _ a3
    rw [hB, hV]
    generalize L.getD (y * W + x).toNat 0 = r at hx
    clear hB hV hE hc2
    have iw : IntKind.i64.wrap (y * W) = y * W := wrap_small (by omega) (by omega)
    have hq : y ≤ ((L.length : Int) - 1 - x) / W := by
      refine (Int.le_ediv_iff_mul_le (by omega)).2 ?_
      omega
    have hq2 : ((L.length : Int) - 1 - x).tdiv W = ((L.length : Int) - 1 - x) / W := Int.tdiv_eq_ediv_of_nonneg (by omega)
    have hq3 : ((L.length : Int) - 1 - x) / W ≤ (L.length : Int) - 1 - x := Int.ediv_le_self _ (by omega)
    generalize hQ : ((L.length : Int) - 1 - x) / W = Q at hq hq2 hq3
    clear hQ
    generalize hM : y * W = M at iw a1 a2 a3 hx
    have hlx : M + x < (L.length : Int) := by omega
    have hx' : w.cell? ⟨b, o + (M + x).toNat, none⟩ = some (.int .i64 r) ∨ True := .inr trivial
    clear hx' hlen a3
    go_enter Tryd.func10, Tryd.ntmps10
    go_wp2
    go_ret2
    exact ⟨rfl, unhideR HB⟩
  · have hB : atB ⟨W, H, L⟩ x y = false := by
      cases e : atB ⟨W, H, L⟩ x y with
      | false => rfl
      | true => obtain ⟨_, q1, q2, q3, q4, _⟩ := at_in e; exact absurd ⟨q1, q2, q3, q4⟩ hin
    have hV : atV ⟨W, H, L⟩ x y = 0 := by unfold atV; rw [if_neg (by rw [hB]; exact Bool.false_ne_true)]
    rw [hB, hV]
    clear hB hV hE hlen hc2
    by_cases j1 : x < 0
    · clear hin
      go_enter Tryd.func10, Tryd.ntmps10
      go_wp2
      go_ret2
      exact ⟨rfl, unhideR HB⟩
    · by_cases j2 : W ≤ x
      · clear hin
        go_enter Tryd.func10, Tryd.ntmps10
        go_wp2
        go_ret2
        exact ⟨rfl, unhideR HB⟩
      · by_cases j3 : y < 0
        · clear hin
          go_enter Tryd.func10, Tryd.ntmps10
          go_wp2
          go_ret2
          exact ⟨rfl, unhideR HB⟩
        · have j4 : H ≤ y := by omega
          clear hin
          go_enter Tryd.func10, Tryd.ntmps10
          go_wp2
          go_ret2
          exact ⟨rfl, unhideR HB⟩
end Go.Proofs.YtfccnffokofjjaiDoor
