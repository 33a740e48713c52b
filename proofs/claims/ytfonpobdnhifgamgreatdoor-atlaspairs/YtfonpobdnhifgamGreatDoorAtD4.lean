/-
  The program's cells: the cell of a direction, and that in which it lies.
-/
import Derived.Test.YtfonpobdnhifgamGreatDoorAtDA
import Derived.Test.YtfonpobdnhifgamGreatDoorAtSp0
namespace Go.Proofs.YtfonpobdnhifgamGreatDoor
open Go Go.RowKit

theorem two_allocD (w : World) (o1 o2 : Obj) : ((w.alloc o1).alloc o2).heap[w.heap.size]? = some o1 ∧ ((w.alloc o1).alloc o2).heap[w.heap.size + 1]? = some o2 ∧ Below w.heap.size w ((w.alloc o1).alloc o2) := by
  have h := alloc_last (w.alloc o1) o2
  rw [World.size_alloc] at h
  exact ⟨keepA (alloc_last w o1), h, below_go (below_a w o1) (below_a _ o2)⟩
theorem set4_at {w : World} {g : Nat} {a b c d : Value} {ty : TypeId} (h : w.heap[g]? = some (.cells #[a, b, c, d] ty)) (x y z t : Value) : ((((w.setCell ⟨g, 0, none⟩ x).setCell ⟨g, 1, none⟩ y).setCell ⟨g, 2, none⟩ z).setCell ⟨g, 3, none⟩ t).heap[g]? = some (.cells #[x, y, z, t] ty) := by
  have h1 : (w.setCell ⟨g, 0, none⟩ x).heap[g]? = some (.cells #[x, b, c, d] ty) := heap_setCell_same _ _ _ _ _ _ h
  have h2 : ((w.setCell ⟨g, 0, none⟩ x).setCell ⟨g, 1, none⟩ y).heap[g]? = some (.cells #[x, y, c, d] ty) := heap_setCell_same _ _ _ _ _ _ h1
  have h3 : (((w.setCell ⟨g, 0, none⟩ x).setCell ⟨g, 1, none⟩ y).setCell ⟨g, 2, none⟩ z).heap[g]? = some (.cells #[x, y, z, d] ty) := heap_setCell_same _ _ _ _ _ _ h2
  exact heap_setCell_same _ _ _ _ _ _ h3
theorem tu_face (d : Dr) : tuV d (faV d) = ⟨mV d, uV d, vV d⟩ := by
  have h := axV_lt d
  have h3 : axV d = 0 ∨ axV d = 1 ∨ axV d = 2 := by omega
  unfold tuV tuB faV mV uV vV atV szV
  rcases h3 with e | e | e <;> rw [e] <;> simp <;> (split <;> simp)
theorem col_min {u m : Int} {l : Nat} (_m1 : 1 ≤ m) (u1 : -m ≤ u) : (if 2 ^ l - 1 < ((u + m) * 2 ^ l).tdiv (2 * m) then 2 ^ l - 1 else ((u + m) * 2 ^ l).tdiv (2 * m)) = colV u m l := by
  have hp : (0 : Int) ≤ 2 ^ l := Int.pow_nonneg (by decide)
  have h0 : 0 ≤ (u + m) * 2 ^ l := Int.mul_nonneg (by omega) hp
  rw [Int.tdiv_eq_ediv_of_nonneg h0]
  unfold colV
  split <;> split <;> omega
set_option maxRecDepth 100000 in
set_option maxHeartbeats 3200000 in
theorem placed_at {w : World} {bt bs : Nat} {m u v n : Int} {l : Nat} (hl : l ≤ 12) (ht : w.heap[bt]? = some (.cells #[.int .i64 m, .int .i64 u, .int .i64 v] 24)) (hs : w.heap[bs]? = some (.cells #[.int .i64 (2 ^ l)] 3)) (m1 : 1 ≤ m) (m2 : m ≤ 1048576) (n1 : -m ≤ n) (n2 : n ≤ m) :
    Calls Tryz.prog 76 #[.int .i64 n, .pointer (some ⟨bt, 0, none⟩), .pointer (some ⟨bs, 0, none⟩)] w fun e w' => e = .returned (.int .i64 (colV n m l)) ∧ Below w.heap.size w w' := by
  have hc := col_min (l := l) m1 n1
  have hp := pow12 hl
  generalize colV n m l = C at *
  obtain ⟨S, hS⟩ : ∃ S : Int, 2 ^ l = S := ⟨_, rfl⟩
  rw [hS] at hs hc hp
  have b1 := mul_b (a := n + m) (b := S) (A := 2097152) (B := 4096) (by omega) (by omega) (by omega) (by omega) (by omega)
  obtain ⟨T, hT⟩ : ∃ T, (n + m) * S = T := ⟨_, rfl⟩
  have hT0 : 0 ≤ T := by rw [← hT]; exact Int.mul_nonneg (by omega) (by omega)
  rw [hT] at b1
  rw [hT, Int.tdiv_eq_ediv_of_nonneg hT0] at hc
  have q1 : 0 ≤ T / (2 * m) := Int.ediv_nonneg hT0 (by omega)
  have q2 : T / (2 * m) ≤ T := Int.ediv_le_self _ hT0
  have x0 := (cells_at ht 0 (by simp)).1
  have y0 := (cells_at hs 0 (by simp)).1
  have w2 : IntKind.i64.wrap ((n + m) * S) = T := by rw [hT]; exact iwrap (by omega) (by omega)
  clear hT hs ht
  go_enter Tryz.func76, Tryz.ntmps76
  go_wp2
  go_region
  go_wp2
  go_ret
  exact ⟨rfl, drewF (Below.refl _ _)⟩
set_option maxRecDepth 100000 in
set_option maxHeartbeats 3200000 in
theorem pcell_any (d : Dr) (hd : dirB d = true) {l : Nat} (hl : l ≤ 12) (w : World) : Calls Tryz.prog 50 #[d.val, .int .i64 (l : Int)] w fun e w' => e = .returned (sqV d l).val ∧ Below w.heap.size w w' := by
  have hb := dir_is hd
  have hm := dir_m hd
  have hf := fa_in d
  have hfa := fun u => face_any d hd u
  have htu := fun u => turned_any d (by omega) (by omega) (by omega) (faV d) hf u
  have hsh := fun u => shl1 hl 3 u
  have hp := pow12 hl
  rw [tu_face] at htu
  have hpl := fun (u : World) (bt bs : Nat) (n : Int) (ht : u.heap[bt]? = some (.cells #[.int .i64 (mV d), .int .i64 (uV d), .int .i64 (vV d)] 24)) (hs : u.heap[bs]? = some (.cells #[.int .i64 (2 ^ l)] 3)) (n1 : -mV d ≤ n) (n2 : n ≤ mV d) => placed_at (w := u) (n := n) hl ht hs hm.1 hm.2.1 n1 n2
  have HU := hideR (And.intro hm.2.2.1 hm.2.2.2.1)
  have HV := hideR (And.intro hm.2.2.2.2.1 hm.2.2.2.2.2)
  unfold sqV Dr.val Sq.val at *
  simp only at *
  generalize faV d = F at *
  generalize mV d = M at *
  generalize uV d = U at *
  generalize vV d = V at *
  obtain ⟨S, hS⟩ : ∃ S : Int, 2 ^ l = S := ⟨_, rfl⟩
  have hw64 : wrap64 (2 ^ l) = S := by rw [← hS]; exact IntWalk.wrap64_in _ (by omega)
  rw [hS] at hsh hp hpl
  clear hS hb hm hf hd
  go_enter Tryz.func50, Tryz.ntmps50
  obtain ⟨z1, z2, hbw⟩ := two_allocD w (.cells #[.int .i64 d.x, .int .i64 d.y, .int .i64 d.z] 24) (.cells #[.int .i64 0, .int .i64 0, .int .i64 0, .int .i64 0] 61)
  go_wp2_with fail
  refine (hfa _).mono ?_
  rintro e u1 ⟨rfl, k1⟩
  replace z1 := keepB z1 k1
  replace z2 := keepB z2 k1
  have HB := hideR (below_go hbw k1)
  clear k1 hfa hbw
  have x0 := (cells_at z1 0 (by simp)).1
  have x1 := (cells_at z1 1 (by simp)).1
  have x2 := (cells_at z1 2 (by simp)).1
  go_wp2_with fail
  refine (htu _).mono ?_
  rintro e u2 ⟨rfl, k2⟩
  replace z2 := keepB z2 k2
  replace HB := hideR (below_go (unhideR HB) k2)
  clear k2 htu x0 x1 x2 z1
  go_upto_region 5 with fail
  obtain ⟨z3, z4, hb3⟩ := two_allocD u2 (.cells #[.int .i64 M, .int .i64 U, .int .i64 V] 24) (.cells #[.int .i64 S] 3)
  replace z2 := keepB z2 hb3
  replace HB := hideR (below_go (unhideR HB) hb3)
  clear hb3
  generalize (u2.alloc (.cells #[.int .i64 M, .int .i64 U, .int .i64 V] 24)).alloc (.cells #[.int .i64 S] 3) = u3 at *
  generalize u2.heap.size = J at *
  obtain ⟨K, hK⟩ : ∃ K, w.heap.size = K := ⟨_, rfl⟩
  have HK := hideR hK
  rw [hK] at z2 ⊢
  clear hK hsh hp
  refine wp_region_made 0 #[true, true, true, true, true, true, true, true, true, true, true, false] [.lets (· = .int .i64 F),
    .lets (· = .int .i64 (l : Int)),
    .lets (· = .func (Fn.func 76) #[] #[.pointer (some ⟨J, 0, none⟩), .pointer (some ⟨J + 1, 0, none⟩)]),
    .lets (· = .pointer (some ⟨J, 1, none⟩)),
    .lets (· = .int .i64 U),
    .lets (· = .int .i64 (colV U M l)),
    .lets (· = .func (Fn.func 76) #[] #[.pointer (some ⟨J, 0, none⟩), .pointer (some ⟨J + 1, 0, none⟩)]),
    .lets (· = .pointer (some ⟨J, 2, none⟩)),
    .lets (· = .int .i64 V),
    .lets (· = .int .i64 (colV V M l)),
    .lets (· = .agg #[.int .i64 F, .int .i64 (l : Int), .int .i64 (colV U M l), .int .i64 (colV V M l)])] [] [] (by kernel_rfl) (by kernel_rfl) rfl ?kinds (by kernel_rfl) (by kernel_rfl) (by kernel_rfl) ?_
  case kinds =>
    constructor
    · intro i h
      rcases i with _ | _ | _ | _ | _ | _ | _ | _ | _ | _ | _ | i <;> simp [Kx.isMade] at h
    · intro i h
      rcases i with _ | _ | _ | _ | _ | _ | _ | _ | _ | _ | _ | i <;> simp [Kx.isUse] at h
  refine lexX_step (fun K hK => ⟨by kernel_rfl, ⟨_, rfl⟩, fun v hv => ?_, fun v hv => ?_⟩)
  · go_simp
    exact mUpon_b
  subst hv
  go_simp
  refine hK _ ?_
  clear hK K
  refine lexX_step (fun K hK => ⟨by kernel_rfl, ⟨_, rfl⟩, fun v hv => ?_, fun v hv => ?_⟩)
  · go_simp
    exact mUpon_b
  subst hv
  go_simp
  refine hK _ ?_
  clear hK K
  refine lexX_step (fun K hK => ⟨by kernel_rfl, ⟨_, rfl⟩, fun v hv => ?_, fun v hv => ?_⟩)
  · go_simp
    exact mUpon_b
  subst hv
  go_simp
  refine hK _ ?_
  clear hK K
  refine lexX_step (fun K hK => ⟨by kernel_rfl, ⟨_, rfl⟩, fun v hv => ?_, fun v hv => ?_⟩)
  · go_simp
    exact mUpon_b
  subst hv
  go_simp
  refine hK _ ?_
  clear hK K
  refine lexX_step (fun K hK => ⟨by kernel_rfl, ⟨_, rfl⟩, fun v hv => ?_, fun v hv => ?_⟩)
  · have y1 := (cells_at (keepB z3 hv) 1 (by simp)).1
    go_simp
    exact mUpon_b
  subst hv
  go_simp
  refine hK _ ?_
  clear hK K
  refine lexX_step (fun K hK => ⟨by kernel_rfl, ⟨_, rfl⟩, fun v hv => ?_, fun v hv => ?_⟩)
  · go_simp
    refine (hpl v J (J + 1) U (keepB z3 hv) (keepB z4 hv) (unhideR HU).1 (unhideR HU).2).mono ?_
    rintro e w9 ⟨rfl, k⟩
    exact ⟨_, rfl, rfl, k⟩
  subst hv
  go_simp
  refine hK _ ?_
  clear hK K
  refine lexX_step (fun K hK => ⟨by kernel_rfl, ⟨_, rfl⟩, fun v hv => ?_, fun v hv => ?_⟩)
  · go_simp
    exact mUpon_b
  subst hv
  go_simp
  refine hK _ ?_
  clear hK K
  refine lexX_step (fun K hK => ⟨by kernel_rfl, ⟨_, rfl⟩, fun v hv => ?_, fun v hv => ?_⟩)
  · go_simp
    exact mUpon_b
  subst hv
  go_simp
  refine hK _ ?_
  clear hK K
  refine lexX_step (fun K hK => ⟨by kernel_rfl, ⟨_, rfl⟩, fun v hv => ?_, fun v hv => ?_⟩)
  · have y2 := (cells_at (keepB z3 hv) 2 (by simp)).1
    go_simp
    exact mUpon_b
  subst hv
  go_simp
  refine hK _ ?_
  clear hK K
  refine lexX_step (fun K hK => ⟨by kernel_rfl, ⟨_, rfl⟩, fun v hv => ?_, fun v hv => ?_⟩)
  · go_simp
    refine (hpl v J (J + 1) V (keepB z3 hv) (keepB z4 hv) (unhideR HV).1 (unhideR HV).2).mono ?_
    rintro e w9 ⟨rfl, k⟩
    exact ⟨_, rfl, rfl, k⟩
  subst hv
  go_simp
  refine hK _ ?_
  clear hK K
  refine lexX_step (fun K hK => ⟨by kernel_rfl, ⟨_, rfl⟩, fun v hv => ?_, fun v hv => ?_⟩)
  · go_simp
    exact mUpon_b
  subst hv
  go_simp
  refine hK _ ?_
  clear hK K
  refine lexX_end (fun v5 hv => ?_)
  have HK5 := hideR hv.low
  clear hv
  replace z2 := keepB z2 (unhideR HK5)
  replace HB := hideR (below_go (unhideR HB) (unhideR HK5))
  clear HK5 z3 z4 hpl HU HV
  have d0 := (cells_at z2 0 (by simp)).1
  have d1 := (cells_at z2 1 (by simp)).1
  have d2 := (cells_at z2 2 (by simp)).1
  have d3 := (cells_at z2 3 (by simp)).1
  have f0 := (cells_at z2 0 (by simp)).2
  have f1 := (cells_at z2 1 (by simp)).2
  have f2 := (cells_at z2 2 (by simp)).2
  have f3 := (cells_at z2 3 (by simp)).2
  refine wpAny_step (i := 11) (by kernel_rfl) rfl (by kernel_rfl) (fun K hK => ?_)
  unfold Oper.wp
  go_simp
  refine hK _ _ ?_
  clear hK K
  refine wpAny_end (by kernel_rfl) ?_
  have HB2 := hideR (set4_blL (unhideR HB) (show w.heap.size ≤ K + 1 by have := unhideR HK; omega) (.int .i64 F) (.int .i64 (l : Int)) (.int .i64 (colV U M l)) (.int .i64 (colV V M l)))
  have o := set4_at z2 (.int .i64 F) (.int .i64 (l : Int)) (.int .i64 (colV U M l)) (.int .i64 (colV V M l))
  have o0 := (cells_at o 0 (by simp)).1
  have o1 := (cells_at o 1 (by simp)).1
  have o2 := (cells_at o 2 (by simp)).1
  have o3 := (cells_at o 3 (by simp)).1
  clear d0 d1 d2 d3 f0 f1 f2 f3 o z2 HB
  go_wp2
  simp [bodyPost, results, Tryz.results50, go_sem, o0, o1, o2, o3]
  exact unhideR HB2
-- END CELLOF
set_option maxRecDepth 100000 in
set_option maxHeartbeats 3200000 in
theorem pup_any (s : Sq) (hl : -4611686018427387904 ≤ s.l ∧ s.l ≤ 4611686018427387904) (hc : 0 ≤ s.c ∧ s.c ≤ 4611686018427387904) (hr : 0 ≤ s.r ∧ s.r ≤ 4611686018427387904) (w : World) : Calls Tryz.prog 77 #[s.val] w fun e w' => e = .returned (Sq.val ⟨s.f, s.l - 1, s.c / 2, s.r / 2⟩) ∧ Below w.heap.size w w' := by
  obtain ⟨f, l, c, r⟩ := s
  unfold Sq.val
  simp only at *
  go_enter Tryz.func77, Tryz.ntmps77
  go_wp2
  simp [bodyPost, results, Tryz.results77, go_sem]
  exact below_go (below_a w _) (below_a _ _)
end Go.Proofs.YtfonpobdnhifgamGreatDoor
