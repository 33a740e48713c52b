/-
  Which shapes are alike: the document's, by contract.
-/
import Derived.Test.YtkdmeclbnnjdgalDoorBigAs
namespace Go.Proofs.YtkdmeclbnnjdgalDoor
open Go Go.RowKit

theorem cmp3_lt0 {a b : Int} : decide (cmp3 a b < 0) = decide (a < b) := by
  unfold cmp3
  by_cases h : a < b
  · rw [if_pos h, decide_eq_true h]
    rfl
  · rw [if_neg h, decide_eq_false h]
    by_cases k : b < a
    · rw [if_pos k]
      rfl
    · rw [if_neg k]
      rfl
theorem cmp3_le0 {a b : Int} : decide (cmp3 a b ≤ 0) = decide (a ≤ b) := by
  unfold cmp3
  by_cases h : a < b
  · rw [if_pos h, decide_eq_true (show a ≤ b by omega)]
    rfl
  · rw [if_neg h]
    by_cases k : b < a
    · rw [if_pos k, decide_eq_false (show ¬ a ≤ b by omega)]
      rfl
    · rw [if_neg k, decide_eq_true (show a ≤ b by omega)]
      rfl
/-- 1000 * |m * L - M * l| is at most k * l * L. -/
def nearB (m l M L k : Int) : Bool := decide ((m * L - M * l) * 1000 ≤ l * L * k ∧ (M * l - m * L) * 1000 ≤ l * L * k)
theorem near_one {x y t : Int} (h : y ≤ x) (h0 : 0 ≤ t) : decide ((x - y) * 1000 ≤ t ∧ (y - x) * 1000 ≤ t) = decide ((x - y) * 1000 ≤ t) := by
  rw [decide_eq_decide]
  omega
theorem near_one2 {x y t : Int} (h : x ≤ y) (h0 : 0 ≤ t) : decide ((x - y) * 1000 ≤ t ∧ (y - x) * 1000 ≤ t) = decide ((y - x) * 1000 ≤ t) := by
  rw [decide_eq_decide]
  omega
set_option maxRecDepth 100000 in
set_option maxHeartbeats 6400000 in
theorem nearRatio_any (m l M L k : Int) (w : World) (m0 : 0 ≤ m) (m1 : m ≤ 274877906944) (l0 : 0 ≤ l) (l1 : l ≤ 274877906944) (M0 : 0 ≤ M) (M1 : M ≤ 274877906944) (L0 : 0 ≤ L) (L1 : L ≤ 274877906944) (k0 : 0 ≤ k) (k1 : k ≤ 1000) :
    Calls Tryd.prog 42 #[.int .i64 m, .int .i64 l, .int .i64 M, .int .i64 L, .int .i64 k] w fun e w' => e = .returned (.bool (nearB m l M L k)) ∧ Below w.heap.size w w' := by
  have HZk : HeldR (0 ≤ l * L * k) := hideR (Int.mul_nonneg (Int.mul_nonneg l0 L0) k0)
  unfold nearB
  obtain ⟨R, hR⟩ : ∃ R, decide ((m * L - M * l) * 1000 ≤ l * L * k ∧ (M * l - m * L) * 1000 ≤ l * L * k) = R := ⟨_, rfl⟩
  rw [hR]
  have HRx := hideR hR
  clear hR
  go_enter Tryd.func42, Tryd.ntmps42
  go_wp2_with fail
  refine (bigOfV (m) _ (by omega) (by omega)).mono ?_
  rintro e y0 ⟨adBm, cBm, Bm, rfl, hBm, hvBm, hlBm, k0⟩
  have HW := hideR k0
  have HBm := hideR hBm
  have HVBm := hideR hvBm
  clear hBm hvBm k0
  go_wp2_with fail
  refine (bigOfV (L) _ (by omega) (by omega)).mono ?_
  rintro e y1 ⟨adBL, cBL, BL, rfl, hBL, hvBL, hlBL, k1⟩
  replace HBm := hideR ((unhideR HBm).below k1)
  replace HW := hideR (below_go (unhideR HW) k1)
  have HBL := hideR hBL
  have HVBL := hideR hvBL
  clear hBL hvBL k1
  go_wp2_with fail
  refine (bigMulV adBm adBL cBm cBL Bm BL _ (by omega) (by omega) (unhideR HBm) (unhideR HBL)).mono ?_
  rintro e y2 ⟨adX, cX, X, rfl, hX, hvX, hlX, k2⟩
  replace HBm := hideR ((unhideR HBm).below k2)
  replace HBL := hideR ((unhideR HBL).below k2)
  replace HW := hideR (below_go (unhideR HW) k2)
  have HX := hideR hX
  have HVX := hideR hvX
  clear hX hvX k2
  clear HBm HBL
  go_wp2_with fail
  refine (bigOfV (M) _ (by omega) (by omega)).mono ?_
  rintro e y3 ⟨adBM, cBM, BM, rfl, hBM, hvBM, hlBM, k3⟩
  replace HX := hideR ((unhideR HX).below k3)
  replace HW := hideR (below_go (unhideR HW) k3)
  have HBM := hideR hBM
  have HVBM := hideR hvBM
  clear hBM hvBM k3
  go_wp2_with fail
  refine (bigOfV (l) _ (by omega) (by omega)).mono ?_
  rintro e y4 ⟨adBl, cBl, Bl, rfl, hBl, hvBl, hlBl, k4⟩
  replace HX := hideR ((unhideR HX).below k4)
  replace HBM := hideR ((unhideR HBM).below k4)
  replace HW := hideR (below_go (unhideR HW) k4)
  have HBl := hideR hBl
  have HVBl := hideR hvBl
  clear hBl hvBl k4
  go_wp2_with fail
  refine (bigMulV adBM adBl cBM cBl BM Bl _ (by omega) (by omega) (unhideR HBM) (unhideR HBl)).mono ?_
  rintro e y5 ⟨adY, cY, Y, rfl, hY, hvY, hlY, k5⟩
  replace HX := hideR ((unhideR HX).below k5)
  replace HBM := hideR ((unhideR HBM).below k5)
  replace HBl := hideR ((unhideR HBl).below k5)
  replace HW := hideR (below_go (unhideR HW) k5)
  have HY := hideR hY
  have HVY := hideR hvY
  clear hY hvY k5
  clear HBM HBl
  have vx : val X = m * L := by rw [unhideR HVX, unhideR HVBm, unhideR HVBL]
  have vy : val Y = M * l := by rw [unhideR HVY, unhideR HVBM, unhideR HVBl]
  have hcm := bigCmpV adX adY cX cY X Y _ (by omega) (unhideR HX) (unhideR HY)
  rw [vx, vy] at hcm
  have hlt := cmp3_lt0 (a := m * L) (b := M * l)
  have HVx := hideR vx
  have HVy := hideR vy
  clear vx vy
  generalize hmL : m * L = x at *
  generalize hMl : M * l = y at *
  generalize hlL : l * L = z at *
  have hx0 : 0 ≤ x := by rw [← hmL]; exact Int.mul_nonneg (by omega) (by omega)
  have hy0 : 0 ≤ y := by rw [← hMl]; exact Int.mul_nonneg (by omega) (by omega)
  have HlL := hideR hlL
  clear hmL hMl hlL
  generalize cmp3 x y = cq at *
  by_cases q : x < y
  · rw [decide_eq_true q] at hlt
    have hk : cq < 0 := of_decide_eq_true hlt
    go_wp2_with fail
    refine hcm.mono ?_
    rintro e yc ⟨rfl, kc⟩
    replace HX := hideR ((unhideR HX).below kc)
    replace HY := hideR ((unhideR HY).below kc)
    replace HW := hideR (below_go (unhideR HW) kc)
    clear kc hcm
    have hle : val X ≤ val Y := by rw [unhideR HVx, unhideR HVy]; omega
    go_wp2_with fail
    refine (bigSubV adY adX cY cX Y X _ (by omega) (by omega) (unhideR HY) (unhideR HX) hle).mono ?_
    rintro e y6 ⟨adD, cD, D, rfl, hD, hvD, hlD, k6⟩
    replace HX := hideR ((unhideR HX).below k6)
    replace HY := hideR ((unhideR HY).below k6)
    replace HW := hideR (below_go (unhideR HW) k6)
    have HD := hideR hD
    have HVD := hideR hvD
    clear hD hvD k6
    clear HX HY
    clear hle
    go_wp2_with fail
    refine (bigOfV (1000) _ (by omega) (by omega)).mono ?_
    rintro e y7 ⟨adBt, cBt, Bt, rfl, hBt, hvBt, hlBt, k7⟩
    replace HD := hideR ((unhideR HD).below k7)
    replace HW := hideR (below_go (unhideR HW) k7)
    have HBt := hideR hBt
    have HVBt := hideR hvBt
    clear hBt hvBt k7
    go_wp2_with fail
    refine (bigMulV adD adBt cD cBt D Bt _ (by omega) (by omega) (unhideR HD) (unhideR HBt)).mono ?_
    rintro e y8 ⟨adE, cE, E, rfl, hE, hvE, hlE, k8⟩
    replace HD := hideR ((unhideR HD).below k8)
    replace HBt := hideR ((unhideR HBt).below k8)
    replace HW := hideR (below_go (unhideR HW) k8)
    have HE := hideR hE
    have HVE := hideR hvE
    clear hE hvE k8
    clear HD HBt
    go_wp2_with fail
    refine (bigOfV (l) _ (by omega) (by omega)).mono ?_
    rintro e y9 ⟨adBl2, cBl2, Bl2, rfl, hBl2, hvBl2, hlBl2, k9⟩
    replace HE := hideR ((unhideR HE).below k9)
    replace HW := hideR (below_go (unhideR HW) k9)
    have HBl2 := hideR hBl2
    have HVBl2 := hideR hvBl2
    clear hBl2 hvBl2 k9
    go_wp2_with fail
    refine (bigOfV (L) _ (by omega) (by omega)).mono ?_
    rintro e y10 ⟨adBL2, cBL2, BL2, rfl, hBL2, hvBL2, hlBL2, k10⟩
    replace HE := hideR ((unhideR HE).below k10)
    replace HBl2 := hideR ((unhideR HBl2).below k10)
    replace HW := hideR (below_go (unhideR HW) k10)
    have HBL2 := hideR hBL2
    have HVBL2 := hideR hvBL2
    clear hBL2 hvBL2 k10
    go_wp2_with fail
    refine (bigMulV adBl2 adBL2 cBl2 cBL2 Bl2 BL2 _ (by omega) (by omega) (unhideR HBl2) (unhideR HBL2)).mono ?_
    rintro e y11 ⟨adZ, cZ, Z, rfl, hZ, hvZ, hlZ, k11⟩
    replace HE := hideR ((unhideR HE).below k11)
    replace HBl2 := hideR ((unhideR HBl2).below k11)
    replace HBL2 := hideR ((unhideR HBL2).below k11)
    replace HW := hideR (below_go (unhideR HW) k11)
    have HZ := hideR hZ
    have HVZ := hideR hvZ
    clear hZ hvZ k11
    clear HBl2 HBL2
    go_wp2_with fail
    refine (bigOfV (k) _ (by omega) (by omega)).mono ?_
    rintro e y12 ⟨adBk, cBk, Bk, rfl, hBk, hvBk, hlBk, k12⟩
    replace HE := hideR ((unhideR HE).below k12)
    replace HZ := hideR ((unhideR HZ).below k12)
    replace HW := hideR (below_go (unhideR HW) k12)
    have HBk := hideR hBk
    have HVBk := hideR hvBk
    clear hBk hvBk k12
    go_wp2_with fail
    refine (bigMulV adZ adBk cZ cBk Z Bk _ (by omega) (by omega) (unhideR HZ) (unhideR HBk)).mono ?_
    rintro e y13 ⟨adT, cT, T, rfl, hT, hvT, hlT, k13⟩
    replace HE := hideR ((unhideR HE).below k13)
    replace HZ := hideR ((unhideR HZ).below k13)
    replace HBk := hideR ((unhideR HBk).below k13)
    replace HW := hideR (below_go (unhideR HW) k13)
    have HT := hideR hT
    have HVT := hideR hvT
    clear hT hvT k13
    clear HZ HBk
    have ve : val E = (y - x) * 1000 := by rw [unhideR HVE, unhideR HVD, unhideR HVBt, unhideR HVx, unhideR HVy]
    have vt : val T = z * k := by rw [unhideR HVT, unhideR HVZ, unhideR HVBl2, unhideR HVBL2, unhideR HVBk, unhideR HlL]
    have hcm := bigCmpV adE adT cE cT E T _ (by omega) (unhideR HE) (unhideR HT)
    rw [ve, vt] at hcm
    have hle := cmp3_le0 (a := (y - x) * 1000) (b := z * k)
    have HF : HeldR (R = decide (cmp3 ((y - x) * 1000) (z * k) ≤ 0)) := hideR (by rw [hle, ← unhideR HRx]; exact near_one2 (by omega) (unhideR HZk))
    generalize cmp3 ((y - x) * 1000) (z * k) = cr at *
    clear hle ve vt HE HT hlt hk HRx
    go_wp2_with fail
    refine hcm.mono ?_
    rintro e yd ⟨rfl, kd⟩
    replace HW := hideR (below_go (unhideR HW) kd)
    clear kd hcm
    go_wp2
    go_ret
    exact ⟨congrArg (fun b => Ending.returned (.bool b)) (unhideR HF).symm, unhideR HW⟩
  · rw [decide_eq_false q] at hlt
    have hk : ¬ cq < 0 := of_decide_eq_false hlt
    go_wp2_with fail
    refine hcm.mono ?_
    rintro e yc ⟨rfl, kc⟩
    replace HX := hideR ((unhideR HX).below kc)
    replace HY := hideR ((unhideR HY).below kc)
    replace HW := hideR (below_go (unhideR HW) kc)
    clear kc hcm
    have hle : val Y ≤ val X := by rw [unhideR HVx, unhideR HVy]; omega
    go_wp2_with fail
    refine (bigSubV adX adY cX cY X Y _ (by omega) (by omega) (unhideR HX) (unhideR HY) hle).mono ?_
    rintro e y6 ⟨adD, cD, D, rfl, hD, hvD, hlD, k6⟩
    replace HX := hideR ((unhideR HX).below k6)
    replace HY := hideR ((unhideR HY).below k6)
    replace HW := hideR (below_go (unhideR HW) k6)
    have HD := hideR hD
    have HVD := hideR hvD
    clear hD hvD k6
    clear HX HY
    clear hle
    go_wp2_with fail
    refine (bigOfV (1000) _ (by omega) (by omega)).mono ?_
    rintro e y7 ⟨adBt, cBt, Bt, rfl, hBt, hvBt, hlBt, k7⟩
    replace HD := hideR ((unhideR HD).below k7)
    replace HW := hideR (below_go (unhideR HW) k7)
    have HBt := hideR hBt
    have HVBt := hideR hvBt
    clear hBt hvBt k7
    go_wp2_with fail
    refine (bigMulV adD adBt cD cBt D Bt _ (by omega) (by omega) (unhideR HD) (unhideR HBt)).mono ?_
    rintro e y8 ⟨adE, cE, E, rfl, hE, hvE, hlE, k8⟩
    replace HD := hideR ((unhideR HD).below k8)
    replace HBt := hideR ((unhideR HBt).below k8)
    replace HW := hideR (below_go (unhideR HW) k8)
    have HE := hideR hE
    have HVE := hideR hvE
    clear hE hvE k8
    clear HD HBt
    go_wp2_with fail
    refine (bigOfV (l) _ (by omega) (by omega)).mono ?_
    rintro e y9 ⟨adBl2, cBl2, Bl2, rfl, hBl2, hvBl2, hlBl2, k9⟩
    replace HE := hideR ((unhideR HE).below k9)
    replace HW := hideR (below_go (unhideR HW) k9)
    have HBl2 := hideR hBl2
    have HVBl2 := hideR hvBl2
    clear hBl2 hvBl2 k9
    go_wp2_with fail
    refine (bigOfV (L) _ (by omega) (by omega)).mono ?_
    rintro e y10 ⟨adBL2, cBL2, BL2, rfl, hBL2, hvBL2, hlBL2, k10⟩
    replace HE := hideR ((unhideR HE).below k10)
    replace HBl2 := hideR ((unhideR HBl2).below k10)
    replace HW := hideR (below_go (unhideR HW) k10)
    have HBL2 := hideR hBL2
    have HVBL2 := hideR hvBL2
    clear hBL2 hvBL2 k10
    go_wp2_with fail
    refine (bigMulV adBl2 adBL2 cBl2 cBL2 Bl2 BL2 _ (by omega) (by omega) (unhideR HBl2) (unhideR HBL2)).mono ?_
    rintro e y11 ⟨adZ, cZ, Z, rfl, hZ, hvZ, hlZ, k11⟩
    replace HE := hideR ((unhideR HE).below k11)
    replace HBl2 := hideR ((unhideR HBl2).below k11)
    replace HBL2 := hideR ((unhideR HBL2).below k11)
    replace HW := hideR (below_go (unhideR HW) k11)
    have HZ := hideR hZ
    have HVZ := hideR hvZ
    clear hZ hvZ k11
    clear HBl2 HBL2
    go_wp2_with fail
    refine (bigOfV (k) _ (by omega) (by omega)).mono ?_
    rintro e y12 ⟨adBk, cBk, Bk, rfl, hBk, hvBk, hlBk, k12⟩
    replace HE := hideR ((unhideR HE).below k12)
    replace HZ := hideR ((unhideR HZ).below k12)
    replace HW := hideR (below_go (unhideR HW) k12)
    have HBk := hideR hBk
    have HVBk := hideR hvBk
    clear hBk hvBk k12
    go_wp2_with fail
    refine (bigMulV adZ adBk cZ cBk Z Bk _ (by omega) (by omega) (unhideR HZ) (unhideR HBk)).mono ?_
    rintro e y13 ⟨adT, cT, T, rfl, hT, hvT, hlT, k13⟩
    replace HE := hideR ((unhideR HE).below k13)
    replace HZ := hideR ((unhideR HZ).below k13)
    replace HBk := hideR ((unhideR HBk).below k13)
    replace HW := hideR (below_go (unhideR HW) k13)
    have HT := hideR hT
    have HVT := hideR hvT
    clear hT hvT k13
    clear HZ HBk
    have ve : val E = (x - y) * 1000 := by rw [unhideR HVE, unhideR HVD, unhideR HVBt, unhideR HVx, unhideR HVy]
    have vt : val T = z * k := by rw [unhideR HVT, unhideR HVZ, unhideR HVBl2, unhideR HVBL2, unhideR HVBk, unhideR HlL]
    have hcm := bigCmpV adE adT cE cT E T _ (by omega) (unhideR HE) (unhideR HT)
    rw [ve, vt] at hcm
    have hle := cmp3_le0 (a := (x - y) * 1000) (b := z * k)
    have HF : HeldR (R = decide (cmp3 ((x - y) * 1000) (z * k) ≤ 0)) := hideR (by rw [hle, ← unhideR HRx]; exact near_one (by omega) (unhideR HZk))
    generalize cmp3 ((x - y) * 1000) (z * k) = cr at *
    clear hle ve vt HE HT hlt hk HRx
    go_wp2_with fail
    refine hcm.mono ?_
    rintro e yd ⟨rfl, kd⟩
    replace HW := hideR (below_go (unhideR HW) kd)
    clear kd hcm
    go_wp2
    go_ret
    exact ⟨congrArg (fun b => Ending.returned (.bool b)) (unhideR HF).symm, unhideR HW⟩
/-- four whole numbers of a shape. -/
structure Shp where
  lo : Int
  mi : Int
  sh : Int
  ha : Int
def Shp.val (s : Shp) : Value := .agg #[.int .i64 s.lo, .int .i64 s.mi, .int .i64 s.sh, .int .i64 s.ha]
def shpB (s : Shp) : Bool := decide (1 ≤ s.sh ∧ s.sh ≤ s.mi ∧ s.mi ≤ s.lo ∧ s.lo ≤ 274877906944 ∧ -1 ≤ s.ha ∧ s.ha ≤ 1)
def alikeB (a b : Shp) (k : Int) : Bool := decide (a.ha = b.ha) && (nearB a.mi a.lo b.mi b.lo k && nearB a.sh a.lo b.sh b.lo k)
set_option maxRecDepth 100000 in
set_option maxHeartbeats 3200000 in
theorem alikeShapes_any (a b : Shp) (k : Int) (w : World) (ha : shpB a = true) (hb : shpB b = true) (k0 : 0 ≤ k) (k1 : k ≤ 1000) :
    Calls Tryd.prog 17 #[a.val, b.val, .int .i64 k] w fun e w' => e = .returned (.bool (alikeB a b k)) ∧ Below w.heap.size w w' := by
  obtain ⟨a1, a2, a3, a4, _, _⟩ := of_decide_eq_true ha
  obtain ⟨b1, b2, b3, b4, _, _⟩ := of_decide_eq_true hb
  clear ha hb
  have h1 := fun u => nearRatio_any a.mi a.lo b.mi b.lo k u (by omega) (by omega) (by omega) (by omega) (by omega) (by omega) (by omega) (by omega) k0 k1
  have h2 := fun u => nearRatio_any a.sh a.lo b.sh b.lo k u (by omega) (by omega) (by omega) (by omega) (by omega) (by omega) (by omega) (by omega) k0 k1
  obtain ⟨al, am, az, ah⟩ := a
  obtain ⟨bl, bm, bs, bh⟩ := b
  unfold alikeB
  unfold Shp.val
  simp only at *
  generalize nearB am al bm bl k = n1 at *
  generalize nearB az al bs bl k = n2 at *
  clear a1 a2 a3 a4 b1 b2 b3 b4 k0 k1
  have hz1 := keepA (o' := .cells #[.int .i64 bl, .int .i64 bm, .int .i64 bs, .int .i64 bh] 36) (alloc_last w (.cells #[.int .i64 al, .int .i64 am, .int .i64 az, .int .i64 ah] 36))
  have hz2 : ((w.alloc (.cells #[.int .i64 al, .int .i64 am, .int .i64 az, .int .i64 ah] 36)).alloc (.cells #[.int .i64 bl, .int .i64 bm, .int .i64 bs, .int .i64 bh] 36)).heap[w.heap.size + 1]? = some (.cells #[.int .i64 bl, .int .i64 bm, .int .i64 bs, .int .i64 bh] 36) := by
    have := alloc_last (w.alloc (.cells #[.int .i64 al, .int .i64 am, .int .i64 az, .int .i64 ah] 36)) (.cells #[.int .i64 bl, .int .i64 bm, .int .i64 bs, .int .i64 bh] 36)
    simpa using this
  have hbw := below_go (below_a w (.cells #[.int .i64 al, .int .i64 am, .int .i64 az, .int .i64 ah] 36)) (below_a (w.alloc (.cells #[.int .i64 al, .int .i64 am, .int .i64 az, .int .i64 ah] 36)) (.cells #[.int .i64 bl, .int .i64 bm, .int .i64 bs, .int .i64 bh] 36))
  have HA : HeldR (∀ u, Below w.heap.size w u → True) := hideR (fun _ _ => trivial)
  by_cases q : ah = bh
  · subst q
    have t : (ah != ah) = false := by simp
    rw [decide_eq_true (rfl : ah = ah), Bool.true_and]
    go_enter Tryd.func17, Tryd.ntmps17
    have x0 := (cells_at hz1 0 (by simp)).1
    have x1 := (cells_at hz1 1 (by simp)).1
    have x2 := (cells_at hz1 2 (by simp)).1
    have x3 := (cells_at hz1 3 (by simp)).1
    have y0 := (cells_at hz2 0 (by simp)).1
    have y1 := (cells_at hz2 1 (by simp)).1
    have y2 := (cells_at hz2 2 (by simp)).1
    have y3 := (cells_at hz2 3 (by simp)).1
    go_wp2_with fail
    refine (h1 _).mono ?_
    rintro e w1 ⟨rfl, k1⟩
    have z1 := keepB hz1 k1
    have z2 := keepB hz2 k1
    have HW := hideR (below_go hbw k1)
    clear h1 x0 x1 x2 x3 y0 y1 y2 y3 hz1 hz2 hbw k1
    have x0 := (cells_at z1 0 (by simp)).1
    have x2 := (cells_at z1 2 (by simp)).1
    have y0 := (cells_at z2 0 (by simp)).1
    have y2 := (cells_at z2 2 (by simp)).1
    go_wp2_with fail
    refine (h2 _).mono ?_
    rintro e w2 ⟨rfl, k2⟩
    replace HW := hideR (below_go (unhideR HW) k2)
    clear h2 x0 x2 y0 y2 k2 z1 z2
    cases n1 with
    | true =>
      go_wp2
      go_ret
      exact ⟨by simp, unhideR HW⟩
    | false =>
      go_wp2
      go_ret
      exact ⟨by simp, unhideR HW⟩
  · have t : (ah != bh) = true := by simp [q]
    rw [decide_eq_false q, Bool.false_and]
    have x3 := (cells_at hz1 3 (by simp)).1
    have y3 := (cells_at hz2 3 (by simp)).1
    clear h1 h2
    go_enter Tryd.func17, Tryd.ntmps17
    go_wp2
    go_ret
    exact ⟨rfl, hbw⟩
end Go.Proofs.YtkdmeclbnnjdgalDoor
