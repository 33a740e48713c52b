/-
  The program's cosines: made and compared, by contract. The program's cosines, walked.
-/
import Derived.Test.YtfonpobdnhifgamGreatDoorWdA
import Derived.Test.YtfonpobdnhifgamGreatDoorAtD1
import Derived.Test.YtfonpobdnhifgamGreatDoorAtGA
import Derived.Deep.CutRange
import Derived.Deep.QuietTactic
import Derived.Deep.RegionWith
namespace Go.Proofs.YtfonpobdnhifgamGreatDoor
open Go Go.RowKit

theorem isNaNI_any (x : Int) (w : World) : Calls Tryz.prog 82 #[.int .i64 x] w fun e w' => e = .returned (.bool false) ∧ w' = w := by
  go_enter Tryz.func82, Tryz.ntmps82
  go_wp2
  go_ret
  exact ⟨rfl, rfl⟩
set_option maxHeartbeats 800000 in
theorem compareI_any (x y : Int) (w : World) : Calls Tryz.prog 59 #[.int .i64 x, .int .i64 y] w fun e w' => e = .returned (.int .i64 (cmpZ x y)) ∧ w' = w := by
  unfold cmpZ
  by_cases h1 : x < y
  · rw [if_pos h1]
    go_enter Tryz.func59, Tryz.ntmps59
    go_wp2_with (go_at_call 82; refine (isNaNI_any _ _).mono ?_; rintro e w' ⟨rfl, rfl⟩)
    all_goals
      go_ret
      exact ⟨rfl, rfl⟩
  · rw [if_neg h1]
    by_cases h2 : y < x
    · rw [if_pos h2]
      go_enter Tryz.func59, Tryz.ntmps59
      go_wp2_with (go_at_call 82; refine (isNaNI_any _ _).mono ?_; rintro e w' ⟨rfl, rfl⟩)
      all_goals
        go_ret
        exact ⟨rfl, rfl⟩
    · rw [if_neg h2]
      go_enter Tryz.func59, Tryz.ntmps59
      go_wp2_with (go_at_call 82; refine (isNaNI_any _ _).mono ?_; rintro e w' ⟨rfl, rfl⟩)
      all_goals
        go_ret
        exact ⟨rfl, rfl⟩
theorem cmpZ_sg (n : Int) : cmpZ n 0 = sgV n := rfl
theorem cmpZ_nat (x y : Nat) : cmpN x y = cmpZ (x : Int) (y : Int) := by
  unfold cmpN cmpZ
  by_cases h1 : x < y
  · rw [if_pos h1, if_pos (by omega)]
  · rw [if_neg h1, if_neg (show ¬ ((x : Int) < y) by omega)]
    by_cases h2 : y < x
    · rw [if_pos h2, if_pos (by omega)]
    · rw [if_neg h2, if_neg (by omega)]
/-- a cosine as a value. -/
def coV (c : Co) : Value := .agg #[.int .i64 c.sg, .int .u64 ((c.ov.toNat / 18446744073709551616 : Nat) : Int), .int .u64 ((c.ov.toNat % 18446744073709551616 : Nat) : Int), .int .i64 c.un]
theorem mulP {x y A B : Int} (h1 : -A ≤ x ∧ x ≤ A) (h2 : -B ≤ y ∧ y ≤ B) (hA : 0 ≤ A) (_hB : 0 ≤ B) : -(A * B) ≤ x * y ∧ x * y ≤ A * B := by
  have p : ∀ x y : Int, 0 ≤ x → x ≤ A → 0 ≤ y → y ≤ B → 0 ≤ x * y ∧ x * y ≤ A * B := fun x y a1 a2 a3 a4 => ⟨Int.mul_nonneg a1 a3, Int.mul_le_mul a2 a4 a3 hA⟩
  rcases Int.le_total 0 x with q | q <;> rcases Int.le_total 0 y with r | r
  · have := p x y q h1.2 r h2.2; omega
  · have := p x (-y) q h1.2 (by omega) (by omega); rw [Int.mul_neg] at this; omega
  · have := p (-x) y (by omega) (by omega) r h2.2; rw [Int.neg_mul] at this; omega
  · have := p (-x) (-y) (by omega) (by omega) (by omega) (by omega); rw [Int.neg_mul_neg] at this; omega
theorem dtP {d e : Dr} (hd : dirB d = true) (he : dirB e = true) : (-1099511627776 ≤ d.x * e.x ∧ d.x * e.x ≤ 1099511627776) ∧ (-1099511627776 ≤ d.y * e.y ∧ d.y * e.y ≤ 1099511627776) ∧ (-1099511627776 ≤ d.z * e.z ∧ d.z * e.z ≤ 1099511627776) := by
  have h1 := dir_is hd
  have h2 := dir_is he
  have a := mulP (x := d.x) (y := e.x) (A := 1048576) (B := 1048576) ⟨by omega, by omega⟩ ⟨by omega, by omega⟩ (by omega) (by omega)
  have b := mulP (x := d.y) (y := e.y) (A := 1048576) (B := 1048576) ⟨by omega, by omega⟩ ⟨by omega, by omega⟩ (by omega) (by omega)
  have c := mulP (x := d.z) (y := e.z) (A := 1048576) (B := 1048576) ⟨by omega, by omega⟩ ⟨by omega, by omega⟩ (by omega) (by omega)
  omega
theorem dtB {d e : Dr} (hd : dirB d = true) (he : dirB e = true) : -3298534883328 ≤ dtV d e ∧ dtV d e ≤ 3298534883328 := by
  have := dtP hd he
  unfold dtV
  omega
theorem dt1 {d : Dr} (hd : dirB d = true) : 1 ≤ dtV d d := by
  have := dt_pos (dir_is hd).2.2.2.2.2.2
  omega
set_option maxRecDepth 100000 in
set_option maxHeartbeats 1600000 in
theorem pdot_any (d e : Dr) (hd : dirB d = true) (he : dirB e = true) (w : World) : Calls Tryz.prog 61 #[d.val, e.val] w fun r w' => r = .returned (.int .i64 (dtV d e)) ∧ Below w.heap.size w w' := by
  have hp := dtP hd he
  unfold dtV Dr.val
  obtain ⟨a, b, c⟩ := d
  obtain ⟨x, y, z⟩ := e
  simp only at *
  obtain ⟨z1, z2, hbw⟩ := two_allocW w (.cells #[.int .i64 a, .int .i64 b, .int .i64 c] 24) (.cells #[.int .i64 x, .int .i64 y, .int .i64 z] 24)
  obtain ⟨p, ep⟩ : ∃ p, a * x = p := ⟨_, rfl⟩
  obtain ⟨q, eq⟩ : ∃ p, b * y = p := ⟨_, rfl⟩
  obtain ⟨r, er⟩ : ∃ p, c * z = p := ⟨_, rfl⟩
  rw [ep, eq, er] at hp
  have w1 : IntKind.i64.wrap (a * x) = p := by rw [ep]; exact iwrap (by omega) (by omega)
  have w2 : IntKind.i64.wrap (b * y) = q := by rw [eq]; exact iwrap (by omega) (by omega)
  have w3 : IntKind.i64.wrap (c * z) = r := by rw [er]; exact iwrap (by omega) (by omega)
  rw [ep, eq, er]
  clear ep eq er
  have x0 := (cells_at z1 0 (by simp)).1
  have x1 := (cells_at z1 1 (by simp)).1
  have x2 := (cells_at z1 2 (by simp)).1
  have y0 := (cells_at z2 0 (by simp)).1
  have y1 := (cells_at z2 1 (by simp)).1
  have y2 := (cells_at z2 2 (by simp)).1
  clear z1 z2 hd he
  go_enter Tryz.func61, Tryz.ntmps61
  go_wp2
  go_ret
  exact ⟨rfl, by first | exact hbw | exact below_go (below_a w _) (below_a _ _)⟩
set_option maxRecDepth 100000 in
set_option maxHeartbeats 1600000 in
theorem piscos_any (num den : Int) (w : World) : Calls Tryz.prog 28 #[.int .i64 num, .int .i64 den] w fun e w' => e = .returned (.bool (decide (1 ≤ den ∧ den ≤ 1048576 ∧ -den ≤ num ∧ num ≤ den))) ∧ w' = w := by
  obtain ⟨R, hR⟩ : ∃ R, decide (1 ≤ den ∧ den ≤ 1048576 ∧ -den ≤ num ∧ num ≤ den) = R := ⟨_, rfl⟩
  rw [hR]
  have HR := hideR hR
  clear hR
  go_enter Tryz.func28, Tryz.ntmps28
  go_wp2
  all_goals go_ret
  all_goals
    refine ⟨congrArg (fun b => Ending.returned (.bool b)) ?_, rfl⟩
    rw [← unhideR HR, Bool.eq_iff_iff]
    simp
    try omega
end Go.Proofs.YtfonpobdnhifgamGreatDoor
namespace Go.Proofs.YtfonpobdnhifgamGreatDoor
open Go Go.RowKit

theorem three_allocN (w : World) (o1 o2 o3 : Obj) : (((w.alloc o1).alloc o2).alloc o3).heap[w.heap.size]? = some o1 ∧ (((w.alloc o1).alloc o2).alloc o3).heap[w.heap.size + 1]? = some o2 ∧ (((w.alloc o1).alloc o2).alloc o3).heap[w.heap.size + 1 + 1]? = some o3 ∧ Below w.heap.size w (((w.alloc o1).alloc o2).alloc o3) := by
  refine ⟨keepA (keepA (alloc_last w o1)), keepA ?_, ?_, below_go (below_go (below_a w o1) (below_a _ o2)) (below_a _ o3)⟩
  · have := alloc_last (w.alloc o1) o2
    simpa using this
  · have := alloc_last ((w.alloc o1).alloc o2) o3
    simpa using this
theorem set4_at4 {w : World} {g : Nat} {a b c d : Value} {ty : TypeId} (h : w.heap[g]? = some (.cells #[a, b, c, d] ty)) (x y z t : Value) : ((((w.setCell ⟨g, 0, none⟩ x).setCell ⟨g, 1, none⟩ y).setCell ⟨g, 2, none⟩ z).setCell ⟨g, 3, none⟩ t).heap[g]? = some (.cells #[x, y, z, t] ty) := by
  have h1 : (w.setCell ⟨g, 0, none⟩ x).heap[g]? = some (.cells #[x, b, c, d] ty) := heap_setCell_same _ _ _ _ _ _ h
  have h2 : ((w.setCell ⟨g, 0, none⟩ x).setCell ⟨g, 1, none⟩ y).heap[g]? = some (.cells #[x, y, c, d] ty) := heap_setCell_same _ _ _ _ _ _ h1
  have h3 : (((w.setCell ⟨g, 0, none⟩ x).setCell ⟨g, 1, none⟩ y).setCell ⟨g, 2, none⟩ z).heap[g]? = some (.cells #[x, y, z, d] ty) := heap_setCell_same _ _ _ _ _ _ h2
  exact heap_setCell_same _ _ _ _ _ _ h3
theorem set4_bl4 {B : Nat} {w u : World} (h : Below B w u) {k : Nat} (hk : B ≤ k) (x y z t : Value) : Below B w ((((u.setCell ⟨k, 0, none⟩ x).setCell ⟨k, 1, none⟩ y).setCell ⟨k, 2, none⟩ z).setCell ⟨k, 3, none⟩ t) := (((h.setCell hk x).setCell hk y).setCell hk z).setCell hk t
theorem sz_sqN (n : Int) {s : Nat} (h : szV n = s) : (n * n).toNat = s * s := by
  have : n * n = ((s * s : Nat) : Int) := by
    rw [Int.natCast_mul, ← h]
    rcases (sz_is n).2.2 with q | q <;> rw [q]
    rw [Int.neg_mul_neg]
  rw [this, Int.toNat_natCast]
theorem sz_nn (n : Int) : 0 ≤ szV n := by
  have := sz_is n
  omega
set_option maxRecDepth 100000 in
set_option maxHeartbeats 3200000 in
theorem pcosTo_any (d e : Dr) (hd : dirB d = true) (he : dirB e = true) (w : World) : Calls Tryz.prog 37 #[d.val, e.val] w fun r w' => r = .returned (coV (coTo d e)) ∧ Below w.heap.size w w' := by
  have hb := dtB hd he
  obtain ⟨n, hn⟩ : ∃ n, dtV d e = n := ⟨_, rfl⟩
  rw [hn] at hb
  obtain ⟨s, hs⟩ : ∃ s : Nat, szV n = s := ⟨(szV n).toNat, by have := sz_nn n; omega⟩
  have hs2 : s ≤ 3298534883328 := by
    have := sz_is n
    omega
  have hd0 := fun u => pdot_any d e hd he u
  have hdt := fun u => pdot_any e e he he u
  have hcm := fun u => compareI_any n 0 u
  have hsz := fun u => psize_any n (by omega) (by omega) u
  have hpr := fun u => wprod_any s s u (by omega) (by omega)
  rw [cmpZ_sg] at hcm
  rw [hs] at hsz
  unfold wdV at hpr
  unfold coV coTo
  simp only
  rw [hn] at hd0 ⊢
  rw [sz_sqN n hs]
  generalize sgV n = g at *
  generalize dtV e e = q at *
  generalize s * s / 18446744073709551616 = h at *
  generalize s * s % 18446744073709551616 = l at *
  clear hs hs2 hn hd he
  unfold Dr.val at *
  obtain ⟨z1, z2, zr, hbw⟩ := three_allocN w (.cells #[.int .i64 d.x, .int .i64 d.y, .int .i64 d.z] 24) (.cells #[.int .i64 e.x, .int .i64 e.y, .int .i64 e.z] 24) (.cells #[.int .i64 0, .int .u64 0, .int .u64 0, .int .i64 0] 76)
  have HB := hideR hbw
  clear hbw
  go_enter Tryz.func37, Tryz.ntmps37
  go_wp2_with fail
  refine (hd0 _).mono ?_
  rintro r u1 ⟨rfl, k1⟩
  replace z2 := keepB z2 k1
  replace zr := keepB zr k1
  replace HB := hideR (below_go (unhideR HB) k1)
  clear k1 hd0 z1
  go_upto_region 2 with fail
  obtain ⟨K, hK⟩ : ∃ K, w.heap.size = K := ⟨_, rfl⟩
  have HK := hideR hK
  rw [hK] at z2 zr ⊢
  clear hK
  refine wp_region_made 0 #[true, true, true, true, true, true, true, true, true, true, true, false] [.lets (· = .int .i64 n),
    .lets (· = .int .i64 g),
    .lets (· = .int .i64 n),
    .lets (· = .int .i64 (s : Nat)),
    .lets (· = .int .i64 n),
    .lets (· = .int .i64 (s : Nat)),
    .lets (· = .agg #[.int .u64 (h : Nat), .int .u64 (l : Nat)]),
    .lets (· = .agg #[.int .i64 e.x, .int .i64 e.y, .int .i64 e.z]),
    .lets (· = .agg #[.int .i64 e.x, .int .i64 e.y, .int .i64 e.z]),
    .lets (· = .int .i64 q),
    .lets (· = .agg #[.int .i64 g, .int .u64 (h : Nat), .int .u64 (l : Nat), .int .i64 q])] [] [] (by kernel_rfl) (by kernel_rfl) rfl ?kinds (by kernel_rfl) (by kernel_rfl) (by kernel_rfl) ?_
  case kinds =>
    constructor
    · intro i h
      rcases i with _ | _ | _ | _ | _ | _ | _ | _ | _ | _ | _ | i <;> simp [Kx.isMade] at h
    · intro i h
      rcases i with _ | _ | _ | _ | _ | _ | _ | _ | _ | _ | _ | i <;> simp [Kx.isUse] at h
  refine lexX_step (fun K hK => ⟨by kernel_rfl, ⟨_, rfl⟩, fun v hv => ?_, fun v hv => ?_⟩)
  · go_simp
    exact mUpon_b
  subst hv
  go_simp
  refine hK _ ?_
  clear hK K
  refine lexX_step (fun K hK => ⟨by kernel_rfl, ⟨_, rfl⟩, fun v hv => ?_, fun v hv => ?_⟩)
  · go_simp
    refine (hcm v).mono ?_
    rintro e w9 ⟨rfl, rfl⟩
    exact ⟨_, rfl, rfl, Below.refl _ _⟩
  subst hv
  go_simp
  refine hK _ ?_
  clear hK K
  refine lexX_step (fun K hK => ⟨by kernel_rfl, ⟨_, rfl⟩, fun v hv => ?_, fun v hv => ?_⟩)
  · go_simp
    exact mUpon_b
  subst hv
  go_simp
  refine hK _ ?_
  clear hK K
  refine lexX_step (fun K hK => ⟨by kernel_rfl, ⟨_, rfl⟩, fun v hv => ?_, fun v hv => ?_⟩)
  · go_simp
    refine (hsz v).mono ?_
    rintro e w9 ⟨rfl, rfl⟩
    exact ⟨_, rfl, rfl, Below.refl _ _⟩
  subst hv
  go_simp
  refine hK _ ?_
  clear hK K
  refine lexX_step (fun K hK => ⟨by kernel_rfl, ⟨_, rfl⟩, fun v hv => ?_, fun v hv => ?_⟩)
  · go_simp
    exact mUpon_b
  subst hv
  go_simp
  refine hK _ ?_
  clear hK K
  refine lexX_step (fun K hK => ⟨by kernel_rfl, ⟨_, rfl⟩, fun v hv => ?_, fun v hv => ?_⟩)
  · go_simp
    refine (hsz v).mono ?_
    rintro e w9 ⟨rfl, rfl⟩
    exact ⟨_, rfl, rfl, Below.refl _ _⟩
  subst hv
  go_simp
  refine hK _ ?_
  clear hK K
  refine lexX_step (fun K hK => ⟨by kernel_rfl, ⟨_, rfl⟩, fun v hv => ?_, fun v hv => ?_⟩)
  · go_simp
    refine (hpr v).mono ?_
    rintro e w9 ⟨rfl, k⟩
    exact ⟨_, rfl, rfl, k⟩
  subst hv
  go_simp
  refine hK _ ?_
  clear hK K
  refine lexX_step (fun K hK => ⟨by kernel_rfl, ⟨_, rfl⟩, fun v hv => ?_, fun v hv => ?_⟩)
  · have y0 := (cells_at (keepB z2 hv) 0 (by simp)).1
    have y1 := (cells_at (keepB z2 hv) 1 (by simp)).1
    have y2 := (cells_at (keepB z2 hv) 2 (by simp)).1
    go_simp
    exact mUpon_b
  subst hv
  go_simp
  refine hK _ ?_
  clear hK K
  refine lexX_step (fun K hK => ⟨by kernel_rfl, ⟨_, rfl⟩, fun v hv => ?_, fun v hv => ?_⟩)
  · have y0 := (cells_at (keepB z2 hv) 0 (by simp)).1
    have y1 := (cells_at (keepB z2 hv) 1 (by simp)).1
    have y2 := (cells_at (keepB z2 hv) 2 (by simp)).1
    go_simp
    exact mUpon_b
  subst hv
  go_simp
  refine hK _ ?_
  clear hK K
  refine lexX_step (fun K hK => ⟨by kernel_rfl, ⟨_, rfl⟩, fun v hv => ?_, fun v hv => ?_⟩)
  · go_simp
    refine (hdt v).mono ?_
    rintro e w9 ⟨rfl, k⟩
    exact ⟨_, rfl, rfl, k⟩
  subst hv
  go_simp
  refine hK _ ?_
  clear hK K
  refine lexX_step (fun K hK => ⟨by kernel_rfl, ⟨_, rfl⟩, fun v hv => ?_, fun v hv => ?_⟩)
  · go_simp
    exact mUpon_b
  subst hv
  go_simp
  refine hK _ ?_
  clear hK K
  refine lexX_end (fun v5 hv => ?_)
  have HK5 := hideR hv.low
  clear hv
  replace zr := keepB zr (unhideR HK5)
  replace HB := hideR (below_go (unhideR HB) (unhideR HK5))
  clear HK5
  have d0 := (cells_at zr 0 (by simp)).1
  have d1 := (cells_at zr 1 (by simp)).1
  have d2 := (cells_at zr 2 (by simp)).1
  have d3 := (cells_at zr 3 (by simp)).1
  have f0 := (cells_at zr 0 (by simp)).2
  have f1 := (cells_at zr 1 (by simp)).2
  have f2 := (cells_at zr 2 (by simp)).2
  have f3 := (cells_at zr 3 (by simp)).2
  refine wpAny_step (i := 11) (by kernel_rfl) rfl (by kernel_rfl) (fun K hK => ?_)
  unfold Oper.wp
  go_simp
  refine hK _ _ ?_
  clear hK K
  refine wpAny_end (by kernel_rfl) ?_
  have HB2 := hideR (set4_bl4 (unhideR HB) (show w.heap.size ≤ K + 1 + 1 by have := unhideR HK; omega) (.int .i64 g) (.int .u64 (h : Nat)) (.int .u64 (l : Nat)) (.int .i64 q))
  have o := set4_at4 zr (.int .i64 g) (.int .u64 (h : Nat)) (.int .u64 (l : Nat)) (.int .i64 q)
  have o0 := (cells_at o 0 (by simp)).1
  have o1 := (cells_at o 1 (by simp)).1
  have o2 := (cells_at o 2 (by simp)).1
  have o3 := (cells_at o 3 (by simp)).1
  clear d0 d1 d2 d3 f0 f1 f2 f3 o zr HB
  go_wp2
  simp [bodyPost, results, Tryz.results37, go_sem, o0, o1, o2, o3]
  exact unhideR HB2
theorem sq_toNat {x : Int} {A : Int} (h : -A ≤ x ∧ x ≤ A) (hA : 0 ≤ A) : 0 ≤ x * x ∧ x * x ≤ A * A := ⟨sq_nn x, (mulP h h hA hA).2⟩
set_option maxRecDepth 100000 in
set_option maxHeartbeats 3200000 in
theorem pcosFrom_any (d : Dr) (hd : dirB d = true) (num den : Int) (hn : -1048576 ≤ num ∧ num ≤ 1048576) (hdn : 1 ≤ den ∧ den ≤ 1048576) (w : World) : Calls Tryz.prog 30 #[d.val, .int .i64 num, .int .i64 den] w fun r w' => r = .returned (coV (coFrom d num den)) ∧ Below w.heap.size w w' := by
  have hb := dtB hd hd
  have h1 := dt1 hd
  have hq := sq_toNat hn (by omega)
  have hq2 := sq_toNat (x := den) (A := 1048576) ⟨by omega, by omega⟩ (by omega)
  obtain ⟨s, hs⟩ : ∃ s : Nat, num * num = s := ⟨(num * num).toNat, by omega⟩
  obtain ⟨t, ht⟩ : ∃ t : Nat, dtV d d = t := ⟨(dtV d d).toNat, by omega⟩
  obtain ⟨q, eq⟩ : ∃ q, den * den = q := ⟨_, rfl⟩
  have hdt := fun u => pdot_any d d hd hd u
  have hcm := fun u => compareI_any num 0 u
  have hpr := fun u => wprod_any s t u (by omega) (by omega)
  have w1 : IntKind.i64.wrap (num * num) = (s : Int) := by rw [hs]; exact iwrap (by omega) (by omega)
  have w2 : IntKind.i64.wrap (den * den) = q := by rw [eq]; exact iwrap (by omega) (by omega)
  rw [cmpZ_sg] at hcm
  rw [ht] at hdt
  unfold wdV at hpr
  unfold coV coFrom
  simp only
  rw [hs, ht, eq, ← Int.natCast_mul, Int.toNat_natCast]
  generalize sgV num = g at *
  generalize s * t / 18446744073709551616 = h at *
  generalize s * t % 18446744073709551616 = l at *
  clear hs ht eq hb h1 hq hq2 hd hn hdn
  unfold Dr.val at *
  obtain ⟨z1, zr, hbw⟩ := two_allocW w (.cells #[.int .i64 d.x, .int .i64 d.y, .int .i64 d.z] 24) (.cells #[.int .i64 0, .int .u64 0, .int .u64 0, .int .i64 0] 76)
  have HB := hideR hbw
  clear hbw
  go_enter Tryz.func30, Tryz.ntmps30
  go_upto_region 1 with fail
  generalize (w.alloc (.cells #[.int .i64 d.x, .int .i64 d.y, .int .i64 d.z] 24)).alloc (.cells #[.int .i64 0, .int .u64 0, .int .u64 0, .int .i64 0] 76) = u0 at *
  obtain ⟨K, hK⟩ : ∃ K, w.heap.size = K := ⟨_, rfl⟩
  have HK := hideR hK
  rw [hK] at z1 zr ⊢
  clear hK
  refine wp_region_made 0 #[true, true, true, true, true, true, true, true, true, true, true, true, true, false] [.lets (· = .int .i64 num),
    .lets (· = .int .i64 g),
    .lets (· = .int .i64 num),
    .lets (· = .int .i64 num),
    .lets (· = .int .i64 (s : Nat)),
    .lets (· = .agg #[.int .i64 d.x, .int .i64 d.y, .int .i64 d.z]),
    .lets (· = .agg #[.int .i64 d.x, .int .i64 d.y, .int .i64 d.z]),
    .lets (· = .int .i64 (t : Nat)),
    .lets (· = .agg #[.int .u64 (h : Nat), .int .u64 (l : Nat)]),
    .lets (· = .int .i64 den),
    .lets (· = .int .i64 den),
    .lets (· = .int .i64 q),
    .lets (· = .agg #[.int .i64 g, .int .u64 (h : Nat), .int .u64 (l : Nat), .int .i64 q])] [] [] (by kernel_rfl) (by kernel_rfl) rfl ?kinds (by kernel_rfl) (by kernel_rfl) (by kernel_rfl) ?_
  case kinds =>
    constructor
    · intro i h
      rcases i with _ | _ | _ | _ | _ | _ | _ | _ | _ | _ | _ | _ | _ | i <;> simp [Kx.isMade] at h
    · intro i h
      rcases i with _ | _ | _ | _ | _ | _ | _ | _ | _ | _ | _ | _ | _ | i <;> simp [Kx.isUse] at h
  refine lexX_step (fun K hK => ⟨by kernel_rfl, ⟨_, rfl⟩, fun v hv => ?_, fun v hv => ?_⟩)
  · go_simp
    exact mUpon_b
  subst hv
  go_simp
  refine hK _ ?_
  clear hK K
  refine lexX_step (fun K hK => ⟨by kernel_rfl, ⟨_, rfl⟩, fun v hv => ?_, fun v hv => ?_⟩)
  · go_simp
    refine (hcm v).mono ?_
    rintro e w9 ⟨rfl, rfl⟩
    exact ⟨_, rfl, rfl, Below.refl _ _⟩
  subst hv
  go_simp
  refine hK _ ?_
  clear hK K
  refine lexX_step (fun K hK => ⟨by kernel_rfl, ⟨_, rfl⟩, fun v hv => ?_, fun v hv => ?_⟩)
  · go_simp
    exact mUpon_b
  subst hv
  go_simp
  refine hK _ ?_
  clear hK K
  refine lexX_step (fun K hK => ⟨by kernel_rfl, ⟨_, rfl⟩, fun v hv => ?_, fun v hv => ?_⟩)
  · go_simp
    exact mUpon_b
  subst hv
  go_simp
  refine hK _ ?_
  clear hK K
  refine lexX_step (fun K hK => ⟨by kernel_rfl, ⟨_, rfl⟩, fun v hv => ?_, fun v hv => ?_⟩)
  · go_simp
    exact mUpon_b
  subst hv
  go_simp
  refine hK _ ?_
  clear hK K
  refine lexX_step (fun K hK => ⟨by kernel_rfl, ⟨_, rfl⟩, fun v hv => ?_, fun v hv => ?_⟩)
  · have y0 := (cells_at (keepB z1 hv) 0 (by simp)).1
    have y1 := (cells_at (keepB z1 hv) 1 (by simp)).1
    have y2 := (cells_at (keepB z1 hv) 2 (by simp)).1
    go_simp
    exact mUpon_b
  subst hv
  go_simp
  refine hK _ ?_
  clear hK K
  refine lexX_step (fun K hK => ⟨by kernel_rfl, ⟨_, rfl⟩, fun v hv => ?_, fun v hv => ?_⟩)
  · have y0 := (cells_at (keepB z1 hv) 0 (by simp)).1
    have y1 := (cells_at (keepB z1 hv) 1 (by simp)).1
    have y2 := (cells_at (keepB z1 hv) 2 (by simp)).1
    go_simp
    exact mUpon_b
  subst hv
  go_simp
  refine hK _ ?_
  clear hK K
  refine lexX_step (fun K hK => ⟨by kernel_rfl, ⟨_, rfl⟩, fun v hv => ?_, fun v hv => ?_⟩)
  · go_simp
    refine (hdt v).mono ?_
    rintro e w9 ⟨rfl, k⟩
    exact ⟨_, rfl, rfl, k⟩
  subst hv
  go_simp
  refine hK _ ?_
  clear hK K
  refine lexX_step (fun K hK => ⟨by kernel_rfl, ⟨_, rfl⟩, fun v hv => ?_, fun v hv => ?_⟩)
  · go_simp
    refine (hpr v).mono ?_
    rintro e w9 ⟨rfl, k⟩
    exact ⟨_, rfl, rfl, k⟩
  subst hv
  go_simp
  refine hK _ ?_
  clear hK K
  refine lexX_step (fun K hK => ⟨by kernel_rfl, ⟨_, rfl⟩, fun v hv => ?_, fun v hv => ?_⟩)
  · go_simp
    exact mUpon_b
  subst hv
  go_simp
  refine hK _ ?_
  clear hK K
  refine lexX_step (fun K hK => ⟨by kernel_rfl, ⟨_, rfl⟩, fun v hv => ?_, fun v hv => ?_⟩)
  · go_simp
    exact mUpon_b
  subst hv
  go_simp
  refine hK _ ?_
  clear hK K
  refine lexX_step (fun K hK => ⟨by kernel_rfl, ⟨_, rfl⟩, fun v hv => ?_, fun v hv => ?_⟩)
  · go_simp
    exact mUpon_b
  subst hv
  go_simp
  refine hK _ ?_
  clear hK K
  refine lexX_step (fun K hK => ⟨by kernel_rfl, ⟨_, rfl⟩, fun v hv => ?_, fun v hv => ?_⟩)
  · go_simp
    exact mUpon_b
  subst hv
  go_simp
  refine hK _ ?_
  clear hK K
  refine lexX_end (fun v5 hv => ?_)
  have HK5 := hideR hv.low
  clear hv
  replace zr := keepB zr (unhideR HK5)
  replace HB := hideR (below_go (unhideR HB) (unhideR HK5))
  clear HK5
  have d0 := (cells_at zr 0 (by simp)).1
  have d1 := (cells_at zr 1 (by simp)).1
  have d2 := (cells_at zr 2 (by simp)).1
  have d3 := (cells_at zr 3 (by simp)).1
  have f0 := (cells_at zr 0 (by simp)).2
  have f1 := (cells_at zr 1 (by simp)).2
  have f2 := (cells_at zr 2 (by simp)).2
  have f3 := (cells_at zr 3 (by simp)).2
  refine wpAny_step (i := 13) (by kernel_rfl) rfl (by kernel_rfl) (fun K hK => ?_)
  unfold Oper.wp
  go_simp
  refine hK _ _ ?_
  clear hK K
  refine wpAny_end (by kernel_rfl) ?_
  have HB2 := hideR (set4_bl4 (unhideR HB) (show w.heap.size ≤ K + 1 by have := unhideR HK; omega) (.int .i64 g) (.int .u64 (h : Nat)) (.int .u64 (l : Nat)) (.int .i64 q))
  have o := set4_at4 zr (.int .i64 g) (.int .u64 (h : Nat)) (.int .u64 (l : Nat)) (.int .i64 q)
  have o0 := (cells_at o 0 (by simp)).1
  have o1 := (cells_at o 1 (by simp)).1
  have o2 := (cells_at o 2 (by simp)).1
  have o3 := (cells_at o 3 (by simp)).1
  clear d0 d1 d2 d3 f0 f1 f2 f3 o zr HB
  go_wp2
  simp [bodyPost, results, Tryz.results30, go_sem, o0, o1, o2, o3]
  exact unhideR HB2
/-- one whose numbers are small enough to be compared. -/
structure Co.Sm (c : Co) : Prop where
  sg : c.sg = 0 ∨ c.sg = 1 ∨ c.sg = -1
  ov : 0 ≤ c.ov ∧ c.ov ≤ 19342813113834066795298816
  un : 0 < c.un ∧ c.un ≤ 4398046511104
theorem Co.Ok.sm {c : Co} (h : c.Ok) (h1 : c.ov ≤ 19342813113834066795298816) (h2 : c.un ≤ 4398046511104) : c.Sm := by
  refine ⟨?_, ?_, h.un, h2⟩
  · rcases h.sg with ⟨q, _⟩ | ⟨q, _⟩ | ⟨q, _⟩
    · exact .inl q
    · exact .inr (.inl q)
    · exact .inr (.inr q)
  · rcases h.sg with ⟨_, q⟩ | ⟨_, q⟩ | ⟨_, q⟩ <;> omega
set_option maxRecDepth 100000 in
set_option maxHeartbeats 3200000 in
theorem pcmp_any (a b : Co) (ha : a.Sm) (hb : b.Sm) (w : World) : Calls Tryz.prog 38 #[coV a, coV b] w fun r w' => r = .returned (.int .i64 (coCmp a b)) ∧ Below w.heap.size w w' := by
  have a1 := ha.ov
  have a2 := ha.un
  have b1 := hb.ov
  have b2 := hb.un
  have hsg := fun u => compareI_any a.sg b.sg u
  have hr : coCmp a b = if a.sg ≠ b.sg then cmpZ a.sg b.sg else a.sg * cmpZ (a.ov * b.un) (b.ov * a.un) := rfl
  obtain ⟨av, hav⟩ : ∃ v : Nat, a.ov = v := ⟨a.ov.toNat, by omega⟩
  obtain ⟨bv, hbv⟩ : ∃ v : Nat, b.ov = v := ⟨b.ov.toNat, by omega⟩
  obtain ⟨au, hau⟩ : ∃ v : Nat, a.un = v := ⟨a.un.toNat, by omega⟩
  obtain ⟨bu, hbu⟩ : ∃ v : Nat, b.un = v := ⟨b.un.toNat, by omega⟩
  have m1 := Nat.mul_le_mul (show av ≤ 19342813113834066795298816 by omega) (show bu ≤ 4398046511104 by omega)
  have m2 := Nat.mul_le_mul (show bv ≤ 19342813113834066795298816 by omega) (show au ≤ 4398046511104 by omega)
  have ht1 := fun u => wtimes_any av bu u (by omega) (by omega)
  have ht2 := fun u => wtimes_any bv au u (by omega) (by omega)
  have hcm := fun u => wcmp_any (av * bu) (bv * au) u
  rw [hav, hbv, hau, hbu, ← Int.natCast_mul, ← Int.natCast_mul, ← cmpZ_nat] at hr
  have hc3 : cmpN (av * bu) (bv * au) = 0 ∨ cmpN (av * bu) (bv * au) = 1 ∨ cmpN (av * bu) (bv * au) = -1 := by
    unfold cmpN
    split
    · exact .inr (.inr rfl)
    · split
      · exact .inr (.inl rfl)
      · exact .inl rfl
  unfold coV
  rw [hav, hbv, hau, hbu, Int.toNat_natCast, Int.toNat_natCast]
  unfold wdV at ht1 ht2 hcm
  generalize cmpN (av * bu) (bv * au) = c at *
  generalize av * bu / 18446744073709551616 = xh at *
  generalize av * bu % 18446744073709551616 = xl at *
  generalize bv * au / 18446744073709551616 = yh at *
  generalize bv * au % 18446744073709551616 = yl at *
  generalize av / 18446744073709551616 = ah at *
  generalize av % 18446744073709551616 = al at *
  generalize bv / 18446744073709551616 = bh at *
  generalize bv % 18446744073709551616 = bl at *
  have hg := ha.sg
  generalize a.sg = g at *
  generalize b.sg = g2 at *
  obtain ⟨R, hR⟩ : ∃ R, coCmp a b = R := ⟨_, rfl⟩
  rw [hR] at hr ⊢
  clear hR m1 m2 a1 a2 b1 b2 hav hbv hau hbu ha hb
  obtain ⟨z1, z2, hbw⟩ := two_allocW w (.cells #[.int .i64 g, .int .u64 (ah : Nat), .int .u64 (al : Nat), .int .i64 (au : Nat)] 76) (.cells #[.int .i64 g2, .int .u64 (bh : Nat), .int .u64 (bl : Nat), .int .i64 (bu : Nat)] 76)
  have HB := hideR hbw
  clear hbw
  have x0 := (cells_at z1 0 (by simp)).1
  have y0 := (cells_at z2 0 (by simp)).1
  by_cases q : g = g2
  case neg =>
    have tq : (g != g2) = true := by simpa using q
    rw [if_pos q] at hr
    rw [← hr] at hsg
    clear hr hg hc3 ht1 ht2 hcm z1 z2
    go_enter Tryz.func38, Tryz.ntmps38
    go_wp2_with fail
    refine (hsg _).mono ?_
    rintro e u1 ⟨rfl, rfl⟩
    clear hsg
    go_wp2
    go_ret
    exact ⟨rfl, unhideR HB⟩
  subst q
  rw [if_neg (fun h => h rfl)] at hr
  have wr : IntKind.i64.wrap (g * c) = R := by
    rw [hr]
    rcases hg with e | e | e <;> rcases hc3 with e2 | e2 | e2 <;> rw [e, e2] <;> rfl
  clear hr hg hc3 hsg
  go_enter Tryz.func38, Tryz.ntmps38
  go_upto_region 3 with fail
  clear x0 y0
  generalize (w.alloc (.cells #[.int .i64 g, .int .u64 (ah : Nat), .int .u64 (al : Nat), .int .i64 (au : Nat)] 76)).alloc (.cells #[.int .i64 g, .int .u64 (bh : Nat), .int .u64 (bl : Nat), .int .i64 (bu : Nat)] 76) = u0 at *
  obtain ⟨K, hK⟩ : ∃ K, w.heap.size = K := ⟨_, rfl⟩
  have HK := hideR hK
  rw [hK] at z1 z2 ⊢
  clear hK
  refine wp_region_made 0 #[true, true, true, true, true, true, true, true, true, true, true, true, true, true, false] [.lets (· = .pointer (some ⟨K, 0, none⟩)),
    .lets (· = .int .i64 g),
    .lets (· = .pointer (some ⟨K, 1, none⟩)),
    .lets (· = .agg #[.int .u64 (ah : Nat), .int .u64 (al : Nat)]),
    .lets (· = .pointer (some ⟨K + 1, 3, none⟩)),
    .lets (· = .int .i64 (bu : Nat)),
    .lets (· = .agg #[.int .u64 (xh : Nat), .int .u64 (xl : Nat)]),
    .lets (· = .pointer (some ⟨K + 1, 1, none⟩)),
    .lets (· = .agg #[.int .u64 (bh : Nat), .int .u64 (bl : Nat)]),
    .lets (· = .pointer (some ⟨K, 3, none⟩)),
    .lets (· = .int .i64 (au : Nat)),
    .lets (· = .agg #[.int .u64 (yh : Nat), .int .u64 (yl : Nat)]),
    .lets (· = .int .i64 c),
    .lets (· = .int .i64 R)] [] [] (by kernel_rfl) (by kernel_rfl) rfl ?kinds (by kernel_rfl) (by kernel_rfl) (by kernel_rfl) ?_
  case kinds =>
    constructor
    · intro i h
      rcases i with _ | _ | _ | _ | _ | _ | _ | _ | _ | _ | _ | _ | _ | _ | i <;> simp [Kx.isMade] at h
    · intro i h
      rcases i with _ | _ | _ | _ | _ | _ | _ | _ | _ | _ | _ | _ | _ | _ | i <;> simp [Kx.isUse] at h
  refine lexX_step (fun K hK => ⟨by kernel_rfl, ⟨_, rfl⟩, fun v hv => ?_, fun v hv => ?_⟩)
  · go_simp
    exact mUpon_b
  subst hv
  go_simp
  refine hK _ ?_
  clear hK K
  refine lexX_step (fun K hK => ⟨by kernel_rfl, ⟨_, rfl⟩, fun v hv => ?_, fun v hv => ?_⟩)
  · have y := (cells_at (keepB z1 hv) 0 (by simp)).1
    go_simp
    exact mUpon_b
  subst hv
  go_simp
  refine hK _ ?_
  clear hK K
  refine lexX_step (fun K hK => ⟨by kernel_rfl, ⟨_, rfl⟩, fun v hv => ?_, fun v hv => ?_⟩)
  · go_simp
    exact mUpon_b
  subst hv
  go_simp
  refine hK _ ?_
  clear hK K
  refine lexX_step (fun K hK => ⟨by kernel_rfl, ⟨_, rfl⟩, fun v hv => ?_, fun v hv => ?_⟩)
  · have y := (cells_at (keepB z1 hv) 1 (by simp)).1
    have y' := (cells_at (keepB z1 hv) 2 (by simp)).1
    go_simp
    exact mUpon_b
  subst hv
  go_simp
  refine hK _ ?_
  clear hK K
  refine lexX_step (fun K hK => ⟨by kernel_rfl, ⟨_, rfl⟩, fun v hv => ?_, fun v hv => ?_⟩)
  · go_simp
    exact mUpon_b
  subst hv
  go_simp
  refine hK _ ?_
  clear hK K
  refine lexX_step (fun K hK => ⟨by kernel_rfl, ⟨_, rfl⟩, fun v hv => ?_, fun v hv => ?_⟩)
  · have y := (cells_at (keepB z2 hv) 3 (by simp)).1
    go_simp
    exact mUpon_b
  subst hv
  go_simp
  refine hK _ ?_
  clear hK K
  refine lexX_step (fun K hK => ⟨by kernel_rfl, ⟨_, rfl⟩, fun v hv => ?_, fun v hv => ?_⟩)
  · go_simp
    refine (ht1 v).mono ?_
    rintro e w9 ⟨rfl, k⟩
    exact ⟨_, rfl, rfl, k⟩
  subst hv
  go_simp
  refine hK _ ?_
  clear hK K
  refine lexX_step (fun K hK => ⟨by kernel_rfl, ⟨_, rfl⟩, fun v hv => ?_, fun v hv => ?_⟩)
  · go_simp
    exact mUpon_b
  subst hv
  go_simp
  refine hK _ ?_
  clear hK K
  refine lexX_step (fun K hK => ⟨by kernel_rfl, ⟨_, rfl⟩, fun v hv => ?_, fun v hv => ?_⟩)
  · have y := (cells_at (keepB z2 hv) 1 (by simp)).1
    have y' := (cells_at (keepB z2 hv) 2 (by simp)).1
    go_simp
    exact mUpon_b
  subst hv
  go_simp
  refine hK _ ?_
  clear hK K
  refine lexX_step (fun K hK => ⟨by kernel_rfl, ⟨_, rfl⟩, fun v hv => ?_, fun v hv => ?_⟩)
  · go_simp
    exact mUpon_b
  subst hv
  go_simp
  refine hK _ ?_
  clear hK K
  refine lexX_step (fun K hK => ⟨by kernel_rfl, ⟨_, rfl⟩, fun v hv => ?_, fun v hv => ?_⟩)
  · have y := (cells_at (keepB z1 hv) 3 (by simp)).1
    go_simp
    exact mUpon_b
  subst hv
  go_simp
  refine hK _ ?_
  clear hK K
  refine lexX_step (fun K hK => ⟨by kernel_rfl, ⟨_, rfl⟩, fun v hv => ?_, fun v hv => ?_⟩)
  · go_simp
    refine (ht2 v).mono ?_
    rintro e w9 ⟨rfl, k⟩
    exact ⟨_, rfl, rfl, k⟩
  subst hv
  go_simp
  refine hK _ ?_
  clear hK K
  refine lexX_step (fun K hK => ⟨by kernel_rfl, ⟨_, rfl⟩, fun v hv => ?_, fun v hv => ?_⟩)
  · go_simp
    refine (hcm v).mono ?_
    rintro e w9 ⟨rfl, k⟩
    exact ⟨_, rfl, rfl, k⟩
  subst hv
  go_simp
  refine hK _ ?_
  clear hK K
  refine lexX_step (fun K hK => ⟨by kernel_rfl, ⟨_, rfl⟩, fun v hv => ?_, fun v hv => ?_⟩)
  · go_simp
    exact mUpon_b
  subst hv
  go_simp
  refine hK _ ?_
  clear hK K
  refine lexX_end (fun v5 hv => ?_)
  replace HB := hideR (below_go (unhideR HB) hv.low)
  clear hv z1 z2
  refine wpAny_step (i := 14) (by kernel_rfl) rfl (by kernel_rfl) (fun K hK => ?_)
  unfold Oper.wp
  go_simp
  refine hK _ _ ?_
  clear hK K
  refine wpAny_end (by kernel_rfl) ?_
  go_wp2
  go_ret
  exact ⟨rfl, unhideR HB⟩
end Go.Proofs.YtfonpobdnhifgamGreatDoor
