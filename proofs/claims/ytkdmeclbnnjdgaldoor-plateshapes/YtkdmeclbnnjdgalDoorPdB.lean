/-
  How far two numbers of two words are from each other; which parts differ by little: the program's, by contract.
-/
import Derived.Test.YtkdmeclbnnjdgalDoorWdD
import Derived.Test.YtkdmeclbnnjdgalDoorSu64
import Derived.Test.YtkdmeclbnnjdgalDoorPlPt
import Derived.Deep.CutRange
namespace Go.Proofs.YtkdmeclbnnjdgalDoor
open Go Go.RowKit

theorem set2_atW {v : World} {b : Nat} {x y a0 a1 : Value} {ty : TypeId} (h : v.heap[b]? = some (.cells #[a0, a1] ty)) : ((v.setCell ⟨b, 0, none⟩ x).setCell ⟨b, 1, none⟩ y).heap[b]? = some (.cells #[x, y] ty) := by
  simp [World.setCell, Array.getElem?_modify, h]
theorem set2_otherW {v : World} {b c : Nat} {x y : Value} (h : c ≠ b) : ((v.setCell ⟨b, 0, none⟩ x).setCell ⟨b, 1, none⟩ y).heap[c]? = v.heap[c]? := by
  rw [Below.heap_setCell _ _ _ _ h, Below.heap_setCell _ _ _ _ h]
theorem bset2 {B : Nat} {w u : World} (h : Below B w u) {k : Nat} (hk : B ≤ k) (x y : Value) : Below B w ((u.setCell ⟨k, 0, none⟩ x).setCell ⟨k, 1, none⟩ y) := (h.setCell hk x).setCell hk y
def dif (m n : Nat) : Nat := if m < n then n - m else m - n
/-- the two words of a difference. -/
theorem sub_words {a b c d : Nat} (ha : a < 18446744073709551616) (hb : b < 18446744073709551616) (hc : c < 18446744073709551616) (hd : d < 18446744073709551616) (h : c * 18446744073709551616 + d ≤ a * 18446744073709551616 + b) :
    (b + 18446744073709551616 - d - 0) % 18446744073709551616 = (a * 18446744073709551616 + b - (c * 18446744073709551616 + d)) % 18446744073709551616 ∧
    (a + 18446744073709551616 - c - (if b < d + 0 then 1 else 0)) % 18446744073709551616 = (a * 18446744073709551616 + b - (c * 18446744073709551616 + d)) / 18446744073709551616 := by
  by_cases q : b < d
  · rw [if_pos (by omega)]
    omega
  · rw [if_neg (by omega)]
    omega
set_option maxRecDepth 100000 in
set_option maxHeartbeats 3200000 in
theorem apart_any (m n : Nat) (w : World) (hm : m < 340282366920938463463374607431768211456) (hn : n < 340282366920938463463374607431768211456) :
    Calls Tryd.prog 90 #[wdV m, wdV n] w fun e w' => e = .returned (wdV (dif m n)) ∧ Below w.heap.size w w' := by
  have hl := fun u => wcmp_any m n u
  unfold wdV at *
  obtain ⟨a, ha⟩ : ∃ a, m / 18446744073709551616 = a := ⟨_, rfl⟩
  obtain ⟨b, hb⟩ : ∃ a, m % 18446744073709551616 = a := ⟨_, rfl⟩
  obtain ⟨c, hc⟩ : ∃ a, n / 18446744073709551616 = a := ⟨_, rfl⟩
  obtain ⟨d, hd⟩ : ∃ a, n % 18446744073709551616 = a := ⟨_, rfl⟩
  have la : a < 18446744073709551616 := by omega
  have lb : b < 18446744073709551616 := by omega
  have lc : c < 18446744073709551616 := by omega
  have ld : d < 18446744073709551616 := by omega
  have em : m = a * 18446744073709551616 + b := by omega
  have en : n = c * 18446744073709551616 + d := by omega
  rw [ha, hb, hc, hd] at hl
  rw [ha, hb, hc, hd]
  clear ha hb hc hd hm hn
  obtain ⟨H, hH⟩ : ∃ H, dif m n / 18446744073709551616 = H := ⟨_, rfl⟩
  obtain ⟨L, hL⟩ : ∃ L, dif m n % 18446744073709551616 = L := ⟨_, rfl⟩
  rw [hH, hL]
  obtain ⟨z1, z2, z3, hbw⟩ := three_alloc w (.cells #[.int .u64 (a : Nat), .int .u64 (b : Nat)] 157) (.cells #[.int .u64 (c : Nat), .int .u64 (d : Nat)] 157) (.cells #[.int .u64 0, .int .u64 0] 157)
  by_cases q : m < n
  · have hq := sub_words lc ld la lb (by omega)
    unfold dif at hH hL
    rw [if_pos q, en, em] at hH hL
    rw [hH, hL] at hq
    obtain ⟨B, hB⟩ : ∃ B, (if d < b + 0 then 1 else 0) = B := ⟨_, rfl⟩
    have hB1 : B ≤ 1 := by rw [← hB]; split <;> omega
    have r1 := fun w => run_sub64 d b 0 (by omega) w
    simp only [show ((0 : Nat) : Int) = 0 from rfl] at r1
    have r2 := fun w => run_sub64 c a B hB1 w
    generalize (if c < a + B then 1 else 0) = B2 at r2
    rw [hB] at hq
    rw [hq.2] at r2
    rw [hq.1, hB] at r1
    rw [show cmpN m n = -1 by unfold cmpN; rw [if_pos q]] at hl
    clear hq hB hB1 hH hL em en q la lb lc ld
    go_enter Tryd.func90, Tryd.ntmps90
    go_wp2_with fail
    refine (hl _).mono ?_
    rintro e w2 ⟨rfl, k⟩
    replace hbw := below_go hbw k
    replace z1 := keepB z1 k
    replace z2 := keepB z2 k
    replace z3 := keepB z3 k
    clear k hl
    obtain ⟨K, hK⟩ : ∃ K, w.heap.size = K := ⟨_, rfl⟩
    rw [hK] at z1 z2 z3 ⊢
    have HK := hideR hK
    have HB := hideR hbw
    clear hK hbw
    have x0 := (cells_at z1 0 (by simp)).1
    have x1 := (cells_at z1 1 (by simp)).1
    have f0 := (cells_at z1 0 (by simp)).2
    have f1 := (cells_at z1 1 (by simp)).2
    have y0 := (cells_at z2 0 (by simp)).1
    have y1 := (cells_at z2 1 (by simp)).1
    have g0 := (cells_at z2 0 (by simp)).2
    have g1 := (cells_at z2 1 (by simp)).2
    go_upto_region 3 with fail
    have v1 : ((((w2.setCell ⟨K, 0, none⟩ (.int .u64 (c : Nat))).setCell ⟨K, 1, none⟩ (.int .u64 (d : Nat))).setCell ⟨K + 1, 0, none⟩ (.int .u64 (a : Nat))).setCell ⟨K + 1, 1, none⟩ (.int .u64 (b : Nat))).heap[K]? = some (.cells #[.int .u64 (c : Nat), .int .u64 (d : Nat)] 157) := by
      rw [set2_otherW (by omega)]
      exact set2_atW z1
    have v2 : ((((w2.setCell ⟨K, 0, none⟩ (.int .u64 (c : Nat))).setCell ⟨K, 1, none⟩ (.int .u64 (d : Nat))).setCell ⟨K + 1, 0, none⟩ (.int .u64 (a : Nat))).setCell ⟨K + 1, 1, none⟩ (.int .u64 (b : Nat))).heap[K + 1]? = some (.cells #[.int .u64 (a : Nat), .int .u64 (b : Nat)] 157) := set2_atW (by rw [set2_otherW (by omega)]; exact z2)
    have v3 : ((((w2.setCell ⟨K, 0, none⟩ (.int .u64 (c : Nat))).setCell ⟨K, 1, none⟩ (.int .u64 (d : Nat))).setCell ⟨K + 1, 0, none⟩ (.int .u64 (a : Nat))).setCell ⟨K + 1, 1, none⟩ (.int .u64 (b : Nat))).heap[K + 1 + 1]? = some (.cells #[.int .u64 0, .int .u64 0] 157) := by
      rw [set2_otherW (by omega), set2_otherW (by omega)]
      exact z3
    have HB2 := hideR (bset2 (bset2 (unhideR HB) (show w.heap.size ≤ K by have := unhideR HK; omega) (.int .u64 (c : Nat)) (.int .u64 (d : Nat))) (show w.heap.size ≤ K + 1 by have := unhideR HK; omega) (.int .u64 (a : Nat)) (.int .u64 (b : Nat)))
    generalize (((w2.setCell ⟨K, 0, none⟩ (.int .u64 (c : Nat))).setCell ⟨K, 1, none⟩ (.int .u64 (d : Nat))).setCell ⟨K + 1, 0, none⟩ (.int .u64 (a : Nat))).setCell ⟨K + 1, 1, none⟩ (.int .u64 (b : Nat)) = w3 at *
    clear x0 x1 y0 y1 f0 f1 g0 g1 HB z1 z2 z3
    clear w2
    have x0 := (cells_at v1 0 (by simp)).1
    have x1 := (cells_at v1 1 (by simp)).1
    have y0 := (cells_at v2 0 (by simp)).1
    have y1 := (cells_at v2 1 (by simp)).1
    have d0 := (cells_at v3 0 (by simp)).1
    have d1 := (cells_at v3 1 (by simp)).1
    have f0 := (cells_at v3 0 (by simp)).2
    have f1 := (cells_at v3 1 (by simp)).2
    have HF := hideR (bset2 (unhideR HB2) (show w.heap.size ≤ K + 1 + 1 by have := unhideR HK; omega) (.int .u64 (H : Nat)) (.int .u64 (L : Nat)))
    clear v1 v2 v3 HB2 HK
    go_wp2
    simp [bodyPost, results, Tryd.results90, go_sem, d0, d1]
    exact unhideR HF
  · have hq := sub_words la lb lc ld (by omega)
    unfold dif at hH hL
    rw [if_neg q, en, em] at hH hL
    rw [hH, hL] at hq
    obtain ⟨B, hB⟩ : ∃ B, (if b < d + 0 then 1 else 0) = B := ⟨_, rfl⟩
    have hB1 : B ≤ 1 := by rw [← hB]; split <;> omega
    have r1 := fun w => run_sub64 b d 0 (by omega) w
    simp only [show ((0 : Nat) : Int) = 0 from rfl] at r1
    have r2 := fun w => run_sub64 a c B hB1 w
    generalize (if a < c + B then 1 else 0) = B2 at r2
    rw [hB] at hq
    rw [hq.2] at r2
    rw [hq.1, hB] at r1
    obtain ⟨cc, hcc⟩ : ∃ cc, cmpN m n = cc := ⟨_, rfl⟩
    have hc0 : 0 ≤ cc := by
      rw [← hcc]
      unfold cmpN
      rw [if_neg q]
      split <;> omega
    have tcc : decide (cc < 0) = false := decide_eq_false (by omega)
    rw [hcc] at hl
    clear hcc hc0
    clear hq hB hB1 hH hL em en q la lb lc ld
    go_enter Tryd.func90, Tryd.ntmps90
    go_wp2_with fail
    refine (hl _).mono ?_
    rintro e w2 ⟨rfl, k⟩
    replace hbw := below_go hbw k
    replace z1 := keepB z1 k
    replace z2 := keepB z2 k
    replace z3 := keepB z3 k
    clear k hl
    obtain ⟨K, hK⟩ : ∃ K, w.heap.size = K := ⟨_, rfl⟩
    rw [hK] at z1 z2 z3 ⊢
    have HK := hideR hK
    have HB := hideR hbw
    clear hK hbw
    have x0 := (cells_at z1 0 (by simp)).1
    have x1 := (cells_at z1 1 (by simp)).1
    have y0 := (cells_at z2 0 (by simp)).1
    have y1 := (cells_at z2 1 (by simp)).1
    have d0 := (cells_at z3 0 (by simp)).1
    have d1 := (cells_at z3 1 (by simp)).1
    have f0 := (cells_at z3 0 (by simp)).2
    have f1 := (cells_at z3 1 (by simp)).2
    have HF := hideR (bset2 (unhideR HB) (show w.heap.size ≤ K + 1 + 1 by have := unhideR HK; omega) (.int .u64 (H : Nat)) (.int .u64 (L : Nat)))
    clear z1 z2 z3 HB HK
    go_wp2
    simp [bodyPost, results, Tryd.results90, go_sem, d0, d1]
    exact unhideR HF
/-- 1000 * |side * oL - other * long| is at most k * long * oL. -/
theorem near_nat {m l M L k : Nat} : nearB m l M L k = !decide (k * l * L < dif (1000 * m * L) (1000 * M * l)) := by
  unfold nearB dif
  have e1 : ((m : Int) * L) = ((m * L : Nat) : Int) := (Int.natCast_mul m L).symm
  have e2 : ((M : Int) * l) = ((M * l : Nat) : Int) := (Int.natCast_mul M l).symm
  have e3 : ((l : Int) * L * k) = ((k * l * L : Nat) : Int) := by
    rw [← Int.natCast_mul, ← Int.natCast_mul, Nat.mul_comm (l * L) k, Nat.mul_assoc]
  have e4 : 1000 * m * L = 1000 * (m * L) := Nat.mul_assoc _ _ _
  have e5 : 1000 * M * l = 1000 * (M * l) := Nat.mul_assoc _ _ _
  rw [e1, e2, e3, e4, e5]
  generalize m * L = x
  generalize M * l = y
  generalize k * l * L = t
  rw [Bool.eq_iff_iff]
  simp only [decide_eq_true_eq, Bool.not_eq_true', decide_eq_false_iff_not]
  split <;> omega
theorem prod_lt {a b x y : Nat} (ha : a ≤ x) (hb : b ≤ y) : a * b ≤ x * y := Nat.mul_le_mul ha hb
set_option maxRecDepth 100000 in
set_option maxHeartbeats 3200000 in
theorem within_any (m l M L k : Nat) (w : World) (hm : m ≤ 274877906944) (hl : l ≤ 274877906944) (hM : M ≤ 274877906944) (hL : L ≤ 274877906944) (hk : k ≤ 1000) :
    Calls Tryd.prog 67 #[.int .i64 (m : Nat), .int .i64 (l : Nat), .int .i64 (M : Nat), .int .i64 (L : Nat), .int .i64 (k : Nat)] w fun e w' => e = .returned (.bool (nearB m l M L k)) ∧ Below w.heap.size w w' := by
  rw [near_nat]
  have p1 := prod_lt (show 1000 * m ≤ 274877906944000 by omega) hL
  have p2 := prod_lt (show 1000 * M ≤ 274877906944000 by omega) hl
  have p3 := prod_lt hk hl
  have p4 := prod_lt (show k * l ≤ 274877906944000 by omega) hL
  have w1 : IntKind.i64.wrap (1000 * (m : Int)) = ((1000 * m : Nat) : Int) := by rw [show 1000 * (m : Int) = ((1000 * m : Nat) : Int) by omega]; exact iwrap (by omega) (by omega)
  have w2 : IntKind.i64.wrap (1000 * (M : Int)) = ((1000 * M : Nat) : Int) := by rw [show 1000 * (M : Int) = ((1000 * M : Nat) : Int) by omega]; exact iwrap (by omega) (by omega)
  have w3 : IntKind.i64.wrap ((k : Int) * (l : Int)) = ((k * l : Nat) : Int) := by rw [← Int.natCast_mul]; exact iwrap (by omega) (by omega)
  have c1 := fun u => wprod_any (1000 * m) L u (by omega) (by omega)
  have c2 := fun u => wprod_any (1000 * M) l u (by omega) (by omega)
  have c3 := fun u => wprod_any (k * l) L u (by omega) (by omega)
  have c4 := fun u => apart_any (1000 * m * L) (1000 * M * l) u (by omega) (by omega)
  have c5 := fun u => wcmp_any (k * l * L) (dif (1000 * m * L) (1000 * M * l)) u
  have hgt : decide (0 ≤ cmpN (k * l * L) (dif (1000 * m * L) (1000 * M * l))) = !decide (k * l * L < dif (1000 * m * L) (1000 * M * l)) := by
    unfold cmpN
    by_cases q : k * l * L < dif (1000 * m * L) (1000 * M * l)
    · rw [if_pos q, decide_eq_true q]; rfl
    · rw [if_neg q, decide_eq_false q]
      split <;> rfl
  clear p1 p2 p3 p4 hm hl hM hL hk
  generalize 1000 * m * L = x at *
  generalize 1000 * M * l = y at *
  generalize k * l * L = t at *
  generalize hkl : k * l = kl at *
  generalize dif x y = z at *
  generalize decide (t < z) = R at *
  generalize cmpN t z = C at *
  unfold wdV at *
  generalize 1000 * m = mm at *
  generalize 1000 * M = MM at *
  clear hkl
  generalize x / 18446744073709551616 = xh at *
  generalize x % 18446744073709551616 = xl at *
  generalize y / 18446744073709551616 = yh at *
  generalize y % 18446744073709551616 = yl at *
  generalize z / 18446744073709551616 = zh at *
  generalize z % 18446744073709551616 = zl at *
  generalize t / 18446744073709551616 = th at *
  generalize t % 18446744073709551616 = tl at *
  go_enter Tryd.func67, Tryd.ntmps67
  go_wp2_with fail
  refine (c1 _).mono ?_
  rintro e v1 ⟨rfl, k1⟩
  go_wp2_with fail
  refine (c2 _).mono ?_
  rintro e v2 ⟨rfl, k2⟩
  go_wp2_with fail
  refine (c4 _).mono ?_
  rintro e v3 ⟨rfl, k3⟩
  have hb := below_go (below_go k1 k2) k3
  clear k1 k2 k3 c1 c2 c4 w1 w2
  have z1 := alloc_last v3 (.cells #[.int .u64 (zh : Nat), .int .u64 (zl : Nat)] 157)
  replace hb := below_go hb (below_a v3 (.cells #[.int .u64 (zh : Nat), .int .u64 (zl : Nat)] 157))
  go_upto_region 2 with fail
  generalize v3.alloc (.cells #[.int .u64 (zh : Nat), .int .u64 (zl : Nat)] 157) = wa at *
  refine wp_region_made 0 #[true, true, true, true, true, true, true, true, false] [.lets (· = .int .i64 (k : Nat)),
    .lets (· = .int .i64 (l : Nat)),
    .lets (· = .int .i64 (kl : Nat)),
    .lets (· = .int .i64 (L : Nat)),
    .lets (· = .agg #[.int .u64 (th : Nat), .int .u64 (tl : Nat)]),
    .lets (· = .agg #[.int .u64 (zh : Nat), .int .u64 (zl : Nat)]),
    .lets (· = .int .i64 C),
    .lets (· = .bool !R)] [] [] (by kernel_rfl) (by kernel_rfl) rfl ?kinds (by kernel_rfl) (by kernel_rfl) (by kernel_rfl) ?_
  case kinds =>
    constructor
    · intro i h
      rcases i with _ | _ | _ | _ | _ | _ | _ | _ | i <;> simp [Kx.isMade] at h
    · intro i h
      rcases i with _ | _ | _ | _ | _ | _ | _ | _ | i <;> simp [Kx.isUse] at h
  refine lexX_step (fun K hK => ⟨by kernel_rfl, ⟨_, rfl⟩, fun v hv => ?_, fun v hv => ?_⟩)
  · go_simp
    exact mUpon_b
  subst hv
  go_simp
  refine hK _ ?_
  clear hK K
  refine lexX_step (fun K hK => ⟨by kernel_rfl, ⟨_, rfl⟩, fun v hv => ?_, fun v hv => ?_⟩)
  · go_simp
    exact mUpon_b
  subst hv
  go_simp
  refine hK _ ?_
  clear hK K
  refine lexX_step (fun K hK => ⟨by kernel_rfl, ⟨_, rfl⟩, fun v hv => ?_, fun v hv => ?_⟩)
  · go_simp
    exact mUpon_b
  subst hv
  go_simp
  refine hK _ ?_
  clear hK K
  refine lexX_step (fun K hK => ⟨by kernel_rfl, ⟨_, rfl⟩, fun v hv => ?_, fun v hv => ?_⟩)
  · go_simp
    exact mUpon_b
  subst hv
  go_simp
  refine hK _ ?_
  clear hK K
  refine lexX_step (fun K hK => ⟨by kernel_rfl, ⟨_, rfl⟩, fun v hv => ?_, fun v hv => ?_⟩)
  · go_simp
    refine (c3 _).mono ?_
    rintro e w9 ⟨rfl, k⟩
    exact ⟨_, rfl, rfl, k⟩
  subst hv
  go_simp
  refine hK _ ?_
  clear hK K
  refine lexX_step (fun K hK => ⟨by kernel_rfl, ⟨_, rfl⟩, fun v hv => ?_, fun v hv => ?_⟩)
  · have q9 := keepB z1 hv
    have q0 := (cells_at q9 0 (by simp)).1
    have q1 := (cells_at q9 1 (by simp)).1
    go_simp
    exact mUpon_b
  subst hv
  go_simp
  refine hK _ ?_
  clear hK K
  refine lexX_step (fun K hK => ⟨by kernel_rfl, ⟨_, rfl⟩, fun v hv => ?_, fun v hv => ?_⟩)
  · go_simp
    refine (c5 _).mono ?_
    rintro e w9 ⟨rfl, k⟩
    exact ⟨_, rfl, rfl, k⟩
  subst hv
  go_simp
  refine hK _ ?_
  clear hK K
  refine lexX_step (fun K hK => ⟨by kernel_rfl, ⟨_, rfl⟩, fun v hv => ?_, fun v hv => ?_⟩)
  · go_simp
    exact mUpon_b
  subst hv
  go_simp
  refine hK _ ?_
  clear hK K
  refine lexX_end (fun v5 hv => ?_)
  have k5 := hv.low
  clear hv c3 c5
  refine wpAny_step (i := 8) (by kernel_rfl) rfl (by kernel_rfl) (fun K hK => ?_)
  unfold Oper.wp
  go_simp
  refine hK _ _ ?_
  clear hK K
  refine wpAny_end (by kernel_rfl) ?_
  replace hb := below_go hb k5
  clear z1 k5
  go_wp2
  go_ret
  exact ⟨rfl, hb⟩
end Go.Proofs.YtkdmeclbnnjdgalDoor
