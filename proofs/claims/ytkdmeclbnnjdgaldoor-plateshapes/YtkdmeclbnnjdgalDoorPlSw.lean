/-
  The law of shapes: what the program's Of and Alike answer is the document's.
-/
import Derived.Test.YtkdmeclbnnjdgalDoorPlLw
import Derived.Test.YtkdmeclbnnjdgalDoorPlHg
import Derived.Test.YtkdmeclbnnjdgalDoorPdC
import Derived.Test.YtkdmeclbnnjdgalDoorCodK5
import Derived.Test.YtkdmeclbnnjdgalDoorLooseA
namespace Go.Proofs.YtkdmeclbnnjdgalDoor
open Go Go.RowKit

def R4At (N : Nat) (v : Value) (w : World) : Prop := ∀ b, v = .pointer (some ⟨b, 0, none⟩) → w.heap[b]? = some (.cells #[.int .i64 0, .int .i64 0, .int .i64 0, .int .i64 0] 41) ∧ N ≤ b
theorem r4_stb (N : Nat) (v : Value) : Stb (R4At N v) := fun _ _ h hb b e => ⟨keepB (h b e).1 hb, (h b e).2⟩
theorem four_cell {v : World} {g b o k : Nat} {x y z t : Value} (h : b ≠ g) : ((((v.setCell ⟨g, o, none⟩ x).setCell ⟨g, o + 1, none⟩ y).setCell ⟨g, o + 2, none⟩ z).setCell ⟨g, o + 3, none⟩ t).cell? ⟨b, k, none⟩ = v.cell? ⟨b, k, none⟩ := by
  rw [one_cellN h, one_cellN h, one_cellN h, one_cellN h]
theorem Pt3.set4 {v : World} {g b off : Nat} {p0 p1 p2 : Pt} (h : Pt3 v b off p0 p1 p2) (o : Nat) (x y z t : Value) (hb : b ≠ g) : Pt3 ((((v.setCell ⟨g, o, none⟩ x).setCell ⟨g, o + 1, none⟩ y).setCell ⟨g, o + 2, none⟩ z).setCell ⟨g, o + 3, none⟩ t) b off p0 p1 p2 :=
  ⟨⟨(four_cell hb).trans h.a0.c0, (four_cell hb).trans h.a0.c1, (four_cell hb).trans h.a0.c2⟩, ⟨(four_cell hb).trans h.a1.c0, (four_cell hb).trans h.a1.c1, (four_cell hb).trans h.a1.c2⟩, ⟨(four_cell hb).trans h.a2.c0, (four_cell hb).trans h.a2.c1, (four_cell hb).trans h.a2.c2⟩, by
    have := h.lt
    simpa [World.setCell] using this⟩
def ER0 (g : Nat → Addr) (TB SA SB : Bool) : Value := if TB && (SA && SB) then .nilIface else .iface 207 (.pointer (some (g 4)))
/-- what the document's RankOf answers. -/
def RankOK : Prop := ∀ {u : World} {b off n cap : Nat} {p0 p1 p2 : Pt}, Pt3 u b off p0 p1 p2 → 3 ≤ n → Calls Tryd.prog 13 #[.slice (some ⟨b, off, none⟩) n cap, .int .i64 0, .int .i64 1, .int .i64 2] u fun e w' => RkPost p0 p1 p2 e ∧ Below u.heap.size u w'
set_option maxRecDepth 1000000 in
set_option maxHeartbeats 4000000 in
theorem shapes_walk (hRk : RankOK) {g : Nat → Addr} {w : World} {ad : Option Addr} {c1 : Nat} {L : List Pt} (hS : Sents w g) (hL : PtCame w ad L) (l1 : L.length ≤ 9223372036854775807) (A B : Shp) (k : Int) :
    Calls Tryd.prog 4 #[.slice ad L.length c1, A.val, B.val, .int .i64 k] w fun e w' => e = .returned (.bool true) ∧ Below w.heap.size w w' := by
  have HL : HeldR (∀ u, Below w.heap.size w u → PtCame u ad L) := hideR (fun u q => hL.below q)
  have HAl0 : HeldR (∀ u, Below w.heap.size w u → Calls Tryd.prog 15 #[A.val, B.val, .int .i64 k] u (AlPost g A B k u)) := hideR (fun u q => alike_ok (hS.below q (Nat.le_refl _)) A B k)
  have HCo0 : HeldR (∀ u, Below w.heap.size w u → Calls Tryd.prog 8 #[.iface 207 (.pointer (some (g 4))), .int .i64 5] u fun e w' => e = .returned (.bool true) ∧ Below u.heap.size u w') := hideR (fun u q => coded_sent (hS.below q (Nat.le_refl _)) 4 (by omega) 5)
  have HDo0 : HeldR (okAl A B k = true → ∀ u, Calls Tryd.prog 17 #[A.val, B.val, .int .i64 k] u fun e w' => e = .returned (.bool (alikeB A B k)) ∧ Below u.heap.size u w') := hideR (fun q u => by
    unfold okAl at q
    simp only [Bool.and_eq_true] at q
    exact alikeShapes_any A B k u q.2.1 q.2.2 (of_decide_eq_true q.1).1 (of_decide_eq_true q.1).2)
  have HsA := hideR (fun u => isShape_any A u)
  have HsB := hideR (fun u => isShape_any B u)
  have ha := fun u => shapeL_any A u
  have hb := fun u => shapeL_any B u
  have hOk : okAl A B k = (tolB k && (shpB A && shpB B)) := rfl
  obtain ⟨TB, hTB⟩ : ∃ T, tolB k = T := ⟨_, rfl⟩
  obtain ⟨SA, hSA⟩ : ∃ T, shpB A = T := ⟨_, rfl⟩
  obtain ⟨SB, hSB⟩ : ∃ T, shpB B = T := ⟨_, rfl⟩
  rw [hTB, hSA, hSB] at hOk
  rw [hSA] at HsA
  rw [hSB] at HsB
  unfold tolB at hTB
  have HTB := hideR hTB
  unfold AlPost at HAl0
  rw [hOk] at HAl0 HDo0
  clear hTB hSA hSB hOk hS hL
  generalize alikeB A B k = AK at *
  obtain ⟨al, am, as_, ah⟩ := A
  obtain ⟨bl, bm, bs, bh⟩ := B
  unfold Shp.val at *
  simp only at *
  have h1 := shaped_any
  obtain ⟨n, hn⟩ : ∃ n, L.length = n := ⟨_, rfl⟩
  have Hn := hideR hn
  rw [hn] at l1 ⊢
  clear hn
  obtain ⟨z1, z2, HB⟩ : ((w.alloc (.cells #[.int .i64 al, .int .i64 am, .int .i64 as_, .int .i64 ah] 36)).alloc (.cells #[.int .i64 bl, .int .i64 bm, .int .i64 bs, .int .i64 bh] 36)).heap[w.heap.size]? = some (.cells #[.int .i64 al, .int .i64 am, .int .i64 as_, .int .i64 ah] 36) ∧ ((w.alloc (.cells #[.int .i64 al, .int .i64 am, .int .i64 as_, .int .i64 ah] 36)).alloc (.cells #[.int .i64 bl, .int .i64 bm, .int .i64 bs, .int .i64 bh] 36)).heap[w.heap.size + 1]? = some (.cells #[.int .i64 bl, .int .i64 bm, .int .i64 bs, .int .i64 bh] 36) ∧ HeldR (Below w.heap.size w ((w.alloc (.cells #[.int .i64 al, .int .i64 am, .int .i64 as_, .int .i64 ah] 36)).alloc (.cells #[.int .i64 bl, .int .i64 bm, .int .i64 bs, .int .i64 bh] 36))) := by
    refine ⟨keepA (alloc_last w _), ?_, hideR (below_go (below_a w _) (below_a _ _))⟩
    have := alloc_last (w.alloc (.cells #[.int .i64 al, .int .i64 am, .int .i64 as_, .int .i64 ah] 36)) (.cells #[.int .i64 bl, .int .i64 bm, .int .i64 bs, .int .i64 bh] 36)
    simpa using this
  go_enter Tryd.func4, Tryd.ntmps4
  go_upto_region 1 with fail
  generalize (w.alloc (.cells #[.int .i64 al, .int .i64 am, .int .i64 as_, .int .i64 ah] 36)).alloc (.cells #[.int .i64 bl, .int .i64 bm, .int .i64 bs, .int .i64 bh] 36) = u0 at *
  obtain ⟨K, hK⟩ : ∃ K, w.heap.size = K := ⟨_, rfl⟩
  have HK := hideR hK
  rw [hK] at z1 z2 ⊢
  clear hK
  go_wp2_with fail
  refine (h1 _).mono ?_
  rintro e u1 ⟨rfl, k1⟩
  replace z1 := keepB z1 k1
  replace z2 := keepB z2 k1
  replace HB := hideR (below_go (unhideR HB) k1)
  clear k1 h1
  by_cases q3 : n < 3
  · have t3 : decide ((n : Int) < 3) = true := decide_eq_true (by omega)
    have t3n : decide (n < 3) = true := decide_eq_true q3
    clear z1 z2 HAl0 HCo0 HDo0 HL ha hb
    go_wp2
    go_ret
    exact ⟨rfl, unhideR HB⟩
  have t3 : decide ((n : Int) < 3) = false := decide_eq_false (by omega)
  have t3n : decide (n < 3) = false := decide_eq_false q3
  obtain ⟨b, off, had, hp⟩ := (unhideR HL u1 (unhideR HB)).three (by have := unhideR Hn; omega)
  subst had
  have HX : HeldR (∀ i, i < 3 → PtAt u1 b (off + i * 3) (L.getD i pt0)) := hideR (fun i hi => by
    obtain ⟨b', off', e, _, h⟩ := (unhideR HL u1 (unhideR HB)).at_ i (by have := unhideR Hn; omega)
    cases e
    exact h)
  have Hb : HeldR (b < u1.heap.size) := hideR hp.lt
  have ho := fun u => of_any (L.getD 0 pt0) (L.getD 1 pt0) (L.getD 2 pt0) u
  have HRk : HeldR (∀ u, Pt3 u b off (L.getD 0 pt0) (L.getD 1 pt0) (L.getD 2 pt0) → Calls Tryd.prog 13 #[.slice (some ⟨b, off, none⟩) n c1, .int .i64 0, .int .i64 1, .int .i64 2] u fun e w' => (∃ q0 q1 q2 : Int, e = .returned (.tuple #[.agg #[.int .i64 (ofV (L.getD 0 pt0) (L.getD 1 pt0) (L.getD 2 pt0)).lo, .int .i64 (ofV (L.getD 0 pt0) (L.getD 1 pt0) (L.getD 2 pt0)).mi, .int .i64 (ofV (L.getD 0 pt0) (L.getD 1 pt0) (L.getD 2 pt0)).sh, .int .i64 (ofV (L.getD 0 pt0) (L.getD 1 pt0) (L.getD 2 pt0)).ha, .int .i64 q0, .int .i64 q1, .int .i64 q2], .bool (ofB (L.getD 0 pt0) (L.getD 1 pt0) (L.getD 2 pt0))])) ∧ Below u.heap.size u w') := hideR (fun u h => (hRk h (by omega)).mono fun e w' h => ⟨rk_of h.1, h.2⟩)
  generalize L.getD 0 pt0 = p0 at *
  generalize L.getD 1 pt0 = p1 at *
  generalize L.getD 2 pt0 = p2 at *
  generalize ofV p0 p1 p2 = R at *
  generalize ofB p0 p1 p2 = Bo at *
  obtain ⟨sl, sm, ss, sh⟩ := R
  unfold Pt.val Shp.val at *
  simp only at *
  have hsh := fun u => shapeL_any ⟨sl, sm, ss, sh⟩ u
  unfold Shp.val at hsh
  simp only at hsh
  have l0 : (0 : Int) < (n : Int) := by omega
  have l2 : (1 : Int) < (n : Int) := by omega
  have l3 : (2 : Int) < (n : Int) := by omega
  have l4 : 0 < n := by omega
  have l5 : 1 < n := by omega
  have l6 : 2 < n := by omega
  clear HL hRk
  go_upto_region 4 with fail
  go_wp2_with fail
  go_loopw [10] (fun iv wl => ∃ i : Nat, i ≤ 3 ∧ iv = .int .i64 (i : Nat) ∧ wl = u1) (fun iv _ => 4 - (intOf iv).toNat)
  case atStart => exact ⟨0, by omega, rfl, rfl⟩
  case round =>
    obtain ⟨i, hi, rfl, rfl⟩ := hrel
    by_cases hi3 : i < 3
    · have ti : decide ((i : Int) < 3) = true := decide_eq_true (by omega)
      have tin : decide (i < 3) = true := decide_eq_true hi3
      have wi : IntKind.i64.wrap ((i : Int) + 1) = (i : Int) + 1 := iwrap (by omega) (by omega)
      have hin : (i : Int) < (n : Int) := by omega
      have hinn : i < n := by omega
      have hx := unhideR HX i hi3
      have x0 := hx.c0
      have x1 := hx.c1
      have c0 := fun u => huge_any (L.getD i pt0).x u
      have c1 := fun u => huge_any (L.getD i pt0).y u
      generalize hugeB (L.getD i pt0).x = H1 at *
      generalize hugeB (L.getD i pt0).y = H2 at *
      clear hx HX ho HRk hsh HAl0 HCo0 HDo0 ha hb z1 z2 hp
      go_wp2_with fail
      refine (c0 _).mono ?_
      rintro e v1 ⟨rfl, rfl⟩
      go_wp2_with fail
      refine (c1 _).mono ?_
      rintro e v2 ⟨rfl, rfl⟩
      clear c0 c1
      cases H1 with
      | true =>
        go_wp2
        go_ret
        exact ⟨rfl, unhideR HB⟩
      | false =>
        cases H2 with
        | true =>
          go_wp2
          go_ret
          exact ⟨rfl, unhideR HB⟩
        | false =>
          go_wp2
          exact ⟨⟨i + 1, by omega, by go_num, by first | rfl | trivial⟩, by simp [intOf]; omega⟩
    · obtain rfl : i = 3 := by omega
      clear hi hi3 HX
      go_upto_region 11 with fail
      refine Y.wp_region_pure 1 #[true, true, true, true, true, true, true, true, true, true, true, true, true, true, false, false] [.lets (· = .slice (some ⟨b, off, none⟩) n c1),
        .lets (· = .pointer (some ⟨b, off, none⟩)),
        .lets (· = .agg #[.int .i64 p0.x, .int .i64 p0.y, .int .i64 p0.z]),
        .lets (· = .slice (some ⟨b, off, none⟩) n c1),
        .lets (· = .pointer (some ⟨b, off + 3, none⟩)),
        .lets (· = .agg #[.int .i64 p1.x, .int .i64 p1.y, .int .i64 p1.z]),
        .lets (· = .slice (some ⟨b, off, none⟩) n c1),
        .lets (· = .pointer (some ⟨b, off + 6, none⟩)),
        .lets (· = .agg #[.int .i64 p2.x, .int .i64 p2.y, .int .i64 p2.z]),
        .lets (· = .tuple #[.agg #[.int .i64 sl, .int .i64 sm, .int .i64 ss, .int .i64 sh], .bool Bo]),
        .lets (· = .tuple #[.agg #[.int .i64 sl, .int .i64 sm, .int .i64 ss, .int .i64 sh], .bool Bo]),
        .lets (· = .agg #[.int .i64 sl, .int .i64 sm, .int .i64 ss, .int .i64 sh]),
        .pure (.bool Bo),
        .made MdP (R4At wr.heap.size)] [12] (by kernel_rfl) (by kernel_rfl) rfl ?pures (fun d _ _ _ _ h => by cases d <;> exact h) (by kernel_rfl) (by kernel_rfl) ?_
      case pures =>
        intro i h
        rcases i with _ | _ | _ | _ | _ | _ | _ | _ | _ | _ | _ | _ | _ | _ | i <;> first | exact ⟨_, rfl⟩ | (simp at h)
      refine Y.lexX_step (fun K hK => ⟨by kernel_rfl, ⟨_, rfl⟩, fun v hv => ?_, fun v hv => ?_⟩)
      · go_simp
        exact mUpon_b
      subst hv
      go_simp
      refine hK _ ?_
      clear hK K
      refine Y.lexX_step (fun K hK => ⟨by kernel_rfl, ⟨_, rfl⟩, fun v hv => ?_, fun v hv => ?_⟩)
      · go_simp
        exact mUpon_b
      subst hv
      go_simp
      refine hK _ ?_
      clear hK K
      refine Y.lexX_step (fun K hK => ⟨by kernel_rfl, ⟨_, rfl⟩, fun v hv => ?_, fun v hv => ?_⟩)
      · have q9 := hp.below hv
        have q0 := q9.a0.c0
        have q1 := q9.a0.c1
        have q2 := q9.a0.c2
        go_simp
        exact mUpon_b
      subst hv
      go_simp
      refine hK _ ?_
      clear hK K
      refine Y.lexX_step (fun K hK => ⟨by kernel_rfl, ⟨_, rfl⟩, fun v hv => ?_, fun v hv => ?_⟩)
      · go_simp
        exact mUpon_b
      subst hv
      go_simp
      refine hK _ ?_
      clear hK K
      refine Y.lexX_step (fun K hK => ⟨by kernel_rfl, ⟨_, rfl⟩, fun v hv => ?_, fun v hv => ?_⟩)
      · go_simp
        exact mUpon_b
      subst hv
      go_simp
      refine hK _ ?_
      clear hK K
      refine Y.lexX_step (fun K hK => ⟨by kernel_rfl, ⟨_, rfl⟩, fun v hv => ?_, fun v hv => ?_⟩)
      · have q9 := hp.below hv
        have q0 := q9.a1.c0
        have q1 := q9.a1.c1
        have q2 := q9.a1.c2
        go_simp
        exact mUpon_b
      subst hv
      go_simp
      refine hK _ ?_
      clear hK K
      refine Y.lexX_step (fun K hK => ⟨by kernel_rfl, ⟨_, rfl⟩, fun v hv => ?_, fun v hv => ?_⟩)
      · go_simp
        exact mUpon_b
      subst hv
      go_simp
      refine hK _ ?_
      clear hK K
      refine Y.lexX_step (fun K hK => ⟨by kernel_rfl, ⟨_, rfl⟩, fun v hv => ?_, fun v hv => ?_⟩)
      · go_simp
        exact mUpon_b
      subst hv
      go_simp
      refine hK _ ?_
      clear hK K
      refine Y.lexX_step (fun K hK => ⟨by kernel_rfl, ⟨_, rfl⟩, fun v hv => ?_, fun v hv => ?_⟩)
      · have q9 := hp.below hv
        have q0 := q9.a2.c0
        have q1 := q9.a2.c1
        have q2 := q9.a2.c2
        go_simp
        exact mUpon_b
      subst hv
      go_simp
      refine hK _ ?_
      clear hK K
      refine Y.lexX_step (fun K hK => ⟨by kernel_rfl, ⟨_, rfl⟩, fun v hv => ?_, fun v hv => ?_⟩)
      · go_simp
        refine (ho _).mono ?_
        rintro e w9 ⟨rfl, k⟩
        exact ⟨_, rfl, rfl, k⟩
      subst hv
      go_simp
      refine hK _ ?_
      clear hK K
      refine Y.lexX_step (fun K hK => ⟨by kernel_rfl, ⟨_, rfl⟩, fun v hv => ?_, fun v hv => ?_⟩)
      · go_simp
        exact mUpon_b
      subst hv
      go_simp
      refine hK _ ?_
      clear hK K
      refine Y.lexX_step (fun K hK => ⟨by kernel_rfl, ⟨_, rfl⟩, fun v hv => ?_, fun v hv => ?_⟩)
      · go_simp
        exact mUpon_b
      subst hv
      go_simp
      refine hK _ ?_
      clear hK K
      refine Y.lexX_pure (fun K hK => ⟨.inl ⟨by kernel_rfl, fun v => ?_⟩, ?_⟩)
      · go_simp
      go_simp
      refine hK _ ?_
      clear hK K
      refine Y.lexX_made ⟨by kernel_rfl, ⟨_, 0, rfl⟩, r4_stb _, fun v hv => ?_, ?_⟩
      · go_simp
        refine ⟨below_a v _, ⟨_, rfl⟩, fun b' e => ?_⟩
        cases e
        exact ⟨alloc_last v _, hv.size⟩
      rintro _ ⟨G, rfl⟩ K hK
      go_simp
      refine hK _ ?_
      clear hK K
      refine Y.lexX_end (fun v11 hv => ?_)
      have hn := hv.fact.2 G rfl
      have k5 := hv.low
      clear hv ho
      replace hp := hp.below k5
      have HG : HeldR (b < G ∧ K < G ∧ K + 1 < G ∧ w.heap.size ≤ G) := hideR (by
        have q1 := hn.2
        have q2 := (Array.getElem?_eq_some_iff.1 z1).1
        have q3 := (Array.getElem?_eq_some_iff.1 z2).1
        have q4 := unhideR Hb
        have q5 := (unhideR HB).size
        omega)
      replace z1 := keepB z1 k5
      replace z2 := keepB z2 k5
      replace HB := hideR (below_go (unhideR HB) k5)
      have zN := hn.1
      clear hn k5 Hb
      have o0 := (cells_at zN 0 (by simp)).1
      have f0 := (cells_at zN 0 (by simp)).2
      have o1 := (cells_at zN 1 (by simp)).1
      have f1 := (cells_at zN 1 (by simp)).2
      have o2 := (cells_at zN 2 (by simp)).1
      have f2 := (cells_at zN 2 (by simp)).2
      have o3 := (cells_at zN 3 (by simp)).1
      have f3 := (cells_at zN 3 (by simp)).2
      have zG : ((((v11.setCell ⟨G, 0, none⟩ (.int .i64 sl)).setCell ⟨G, 1, none⟩ (.int .i64 sm)).setCell ⟨G, 2, none⟩ (.int .i64 ss)).setCell ⟨G, 3, none⟩ (.int .i64 sh)).heap[G]? = some (.cells #[.int .i64 sl, .int .i64 sm, .int .i64 ss, .int .i64 sh] 41) := by simp [World.setCell, Array.getElem?_modify, zN]
      have y1 := set4_ne (o := 0) (.int .i64 sl) (.int .i64 sm) (.int .i64 ss) (.int .i64 sh) z1 (show K ≠ G by have := unhideR HG; omega)
      have y2 := set4_ne (o := 0) (.int .i64 sl) (.int .i64 sm) (.int .i64 ss) (.int .i64 sh) z2 (show K + 1 ≠ G by have := unhideR HG; omega)
      have hB := hideR (set4_bl (unhideR HB) 0 (unhideR HG).2.2.2 (.int .i64 sl) (.int .i64 sm) (.int .i64 ss) (.int .i64 sh))
      have hq := hp.set4 0 (.int .i64 sl) (.int .i64 sm) (.int .i64 ss) (.int .i64 sh) (show b ≠ G by have := unhideR HG; omega)
      clear zN z1 z2 HB hp
      refine wpAny_step (i := 14) (by kernel_rfl) rfl (by kernel_rfl) (fun K hK => ?_)
      unfold Oper.wp
      go_simp
      refine hK _ _ ?_
      clear hK K
      refine wpAny_step (i := 15) (by kernel_rfl) rfl (by kernel_rfl) (fun K hK => ?_)
      unfold Oper.wp
      go_simp
      refine hK _ _ ?_
      clear hK K
      refine wpAny_end (by kernel_rfl) ?_
      clear o0 f0 o1 f1 o2 f2 o3 f3
      generalize ((((v11.setCell ⟨G, 0, none⟩ (.int .i64 sl)).setCell ⟨G, 1, none⟩ (.int .i64 sm)).setCell ⟨G, 2, none⟩ (.int .i64 ss)).setCell ⟨G, 3, none⟩ (.int .i64 sh)) = u2 at *
      go_wp2_with fail
      refine (unhideR HRk _ hq).mono ?_
      rintro e v12 ⟨⟨r0, r1, r2, rfl⟩, k5⟩
      replace zG := keepB zG k5
      replace y1 := keepB y1 k5
      replace y2 := keepB y2 k5
      replace hB := hideR (below_go (unhideR hB) k5)
      clear k5 hq HRk HG
      have zR := alloc_last v12 (.cells #[.int .i64 sl, .int .i64 sm, .int .i64 ss, .int .i64 sh, .int .i64 r0, .int .i64 r1, .int .i64 r2] 45)
      have k5 := below_a v12 (.cells #[.int .i64 sl, .int .i64 sm, .int .i64 ss, .int .i64 sh, .int .i64 r0, .int .i64 r1, .int .i64 r2] 45)
      replace zG := keepB zG k5
      replace y1 := keepB y1 k5
      replace y2 := keepB y2 k5
      replace hB := hideR (below_go (unhideR hB) k5)
      clear k5
      go_upto_region 13 with fail
      generalize v12.alloc (.cells #[.int .i64 sl, .int .i64 sm, .int .i64 ss, .int .i64 sh, .int .i64 r0, .int .i64 r1, .int .i64 r2] 45) = u3 at *
      generalize v12.heap.size = G2 at *
      have hbb : (Bo != Bo) = false := by simp
      have hnq := neq_shape sl sm ss sh
      have hgd := guard_shape
      refine wp_region_made 0 #[true, true, true, true, true, true, true, true, true, false] [.lets (· = .bool Bo),
        .lets (· = .bool Bo),
        .lets (· = .bool false),
        .lets (· = .bool false),
        .lets (· = .agg #[.int .i64 sl, .int .i64 sm, .int .i64 ss, .int .i64 sh]),
        .lets (· = .pointer (some ⟨G2, 0, none⟩)),
        .lets (· = .agg #[.int .i64 sl, .int .i64 sm, .int .i64 ss, .int .i64 sh]),
        .lets (· = .agg #[.int .i64 sl, .int .i64 sm, .int .i64 ss, .int .i64 sh]),
        .lets (· = .bool false)] [] [] (by kernel_rfl) (by kernel_rfl) rfl ?kinds (by kernel_rfl) (by kernel_rfl) (by kernel_rfl) ?_
      case kinds =>
        constructor
        · intro i h
          rcases i with _ | _ | _ | _ | _ | _ | _ | _ | _ | i <;> simp [Kx.isMade] at h
        · intro i h
          rcases i with _ | _ | _ | _ | _ | _ | _ | _ | _ | i <;> simp [Kx.isUse] at h
      refine lexX_step (fun K hK => ⟨by kernel_rfl, ⟨_, rfl⟩, fun v hv => ?_, fun v hv => ?_⟩)
      · go_simp
        exact mUpon_b
      subst hv
      go_simp
      refine hK _ ?_
      clear hK K
      refine lexX_step (fun K hK => ⟨by kernel_rfl, ⟨_, rfl⟩, fun v hv => ?_, fun v hv => ?_⟩)
      · go_simp
        exact mUpon_b
      subst hv
      go_simp
      refine hK _ ?_
      clear hK K
      refine lexX_step (fun K hK => ⟨by kernel_rfl, ⟨_, rfl⟩, fun v hv => ?_, fun v hv => ?_⟩)
      · go_simp
        exact mUpon_b
      subst hv
      go_simp
      refine hK _ ?_
      clear hK K
      refine lexX_step (fun K hK => ⟨by kernel_rfl, ⟨_, rfl⟩, fun v hv => ?_, fun v hv => ?_⟩)
      · go_simp
        exact mUpon_b
      subst hv
      go_simp
      refine hK _ ?_
      clear hK K
      refine lexX_step (fun K hK => ⟨by kernel_rfl, ⟨_, rfl⟩, fun v hv => ?_, fun v hv => ?_⟩)
      · have q9 := keepB zG hv
        have q0 := (cells_at q9 0 (by simp)).1
        have q1 := (cells_at q9 1 (by simp)).1
        have q2 := (cells_at q9 2 (by simp)).1
        have q3 := (cells_at q9 3 (by simp)).1
        go_simp
        exact mUpon_b
      subst hv
      go_simp
      refine hK _ ?_
      clear hK K
      refine lexX_step (fun K hK => ⟨by kernel_rfl, ⟨_, rfl⟩, fun v hv => ?_, fun v hv => ?_⟩)
      · go_simp
        exact mUpon_b
      subst hv
      go_simp
      refine hK _ ?_
      clear hK K
      refine lexX_step (fun K hK => ⟨by kernel_rfl, ⟨_, rfl⟩, fun v hv => ?_, fun v hv => ?_⟩)
      · have q9 := keepB zR hv
        have q0 := (cells_at q9 0 (by simp)).1
        have q1 := (cells_at q9 1 (by simp)).1
        have q2 := (cells_at q9 2 (by simp)).1
        have q3 := (cells_at q9 3 (by simp)).1
        go_simp
        exact mUpon_b
      subst hv
      go_simp
      refine hK _ ?_
      clear hK K
      refine lexX_step (fun K hK => ⟨by kernel_rfl, ⟨_, rfl⟩, fun v hv => ?_, fun v hv => ?_⟩)
      · go_simp
        refine (hsh _).mono ?_
        rintro e w9 ⟨rfl, k⟩
        exact ⟨_, rfl, rfl, k⟩
      subst hv
      go_simp
      refine hK _ ?_
      clear hK K
      refine lexX_step (fun K hK => ⟨by kernel_rfl, ⟨_, rfl⟩, fun v hv => ?_, fun v hv => ?_⟩)
      · go_simp
        exact mUpon_b
      subst hv
      go_simp
      refine hK _ ?_
      clear hK K
      refine lexX_end (fun v13 hv => ?_)
      have k5 := hv.low
      clear hv hsh zG zR
      replace y1 := keepB y1 k5
      replace y2 := keepB y2 k5
      replace hB := hideR (below_go (unhideR hB) k5)
      clear k5
      refine wpAny_step (i := 9) (by kernel_rfl) rfl (by kernel_rfl) (fun K hK => ?_)
      unfold Oper.wp
      go_simp
      refine hK _ _ ?_
      clear hK K
      refine wpAny_end (by kernel_rfl) ?_
      clear hbb hnq hgd
      go_upto_region 15 with fail
      have HER : HeldR ((TB && (SA && SB)) = true → ER0 g TB SA SB = .nilIface) := hideR (fun q => by unfold ER0; rw [q]; rfl)
      have HEN : HeldR ((TB && (SA && SB)) = false → ER0 g TB SA SB = .iface 207 (.pointer (some (g 4)))) := hideR (fun q => by unfold ER0; rw [q]; rfl)
      have HAl : HeldR (∀ u, Below w.heap.size w u → Calls Tryd.prog 15 #[.agg #[.int .i64 al, .int .i64 am, .int .i64 as_, .int .i64 ah], .agg #[.int .i64 bl, .int .i64 bm, .int .i64 bs, .int .i64 bh], .int .i64 k] u fun e w' => e = .returned (.tuple #[.bool (TB && (SA && SB) && AK), ER0 g TB SA SB]) ∧ Below u.heap.size u w') := HAl0
      clear HAl0
      generalize ER0 g TB SA SB = ER at *
      obtain ⟨SM, hSM⟩ : ∃ SM, (TB && (SA && SB) && AK) = SM := ⟨_, rfl⟩
      rw [hSM] at HAl
      have HSM := hideR hSM
      clear hSM
      refine Y.wp_region_pure 1 #[true, true, true, true, true, true, true, true, true, false, false] [.lets (· = .agg #[.int .i64 al, .int .i64 am, .int .i64 as_, .int .i64 ah]),
        .lets (· = .agg #[.int .i64 al, .int .i64 am, .int .i64 as_, .int .i64 ah]),
        .lets (· = .agg #[.int .i64 bl, .int .i64 bm, .int .i64 bs, .int .i64 bh]),
        .lets (· = .agg #[.int .i64 bl, .int .i64 bm, .int .i64 bs, .int .i64 bh]),
        .lets (· = .int .i64 k),
        .lets (· = .tuple #[.bool SM, ER]),
        .lets (· = .tuple #[.bool SM, ER]),
        .lets (· = .bool SM),
        .pure ER] [8] (by kernel_rfl) (by kernel_rfl) rfl ?pures (fun d _ _ _ _ h => by cases d <;> exact h) (by kernel_rfl) (by kernel_rfl) ?_
      case pures =>
        intro i h
        rcases i with _ | _ | _ | _ | _ | _ | _ | _ | _ | i <;> first | exact ⟨_, rfl⟩ | (simp at h)
      refine Y.lexX_step (fun K hK => ⟨by kernel_rfl, ⟨_, rfl⟩, fun v hv => ?_, fun v hv => ?_⟩)
      · have q9 := keepB y1 hv
        have q0 := (cells_at q9 0 (by simp)).1
        have q1 := (cells_at q9 1 (by simp)).1
        have q2 := (cells_at q9 2 (by simp)).1
        have q3 := (cells_at q9 3 (by simp)).1
        go_simp
        exact mUpon_b
      subst hv
      go_simp
      refine hK _ ?_
      clear hK K
      refine Y.lexX_step (fun K hK => ⟨by kernel_rfl, ⟨_, rfl⟩, fun v hv => ?_, fun v hv => ?_⟩)
      · go_simp
        refine (ha _).mono ?_
        rintro e w9 ⟨rfl, k⟩
        exact ⟨_, rfl, rfl, k⟩
      subst hv
      go_simp
      refine hK _ ?_
      clear hK K
      refine Y.lexX_step (fun K hK => ⟨by kernel_rfl, ⟨_, rfl⟩, fun v hv => ?_, fun v hv => ?_⟩)
      · have q9 := keepB y2 hv
        have q0 := (cells_at q9 0 (by simp)).1
        have q1 := (cells_at q9 1 (by simp)).1
        have q2 := (cells_at q9 2 (by simp)).1
        have q3 := (cells_at q9 3 (by simp)).1
        go_simp
        exact mUpon_b
      subst hv
      go_simp
      refine hK _ ?_
      clear hK K
      refine Y.lexX_step (fun K hK => ⟨by kernel_rfl, ⟨_, rfl⟩, fun v hv => ?_, fun v hv => ?_⟩)
      · go_simp
        refine (hb _).mono ?_
        rintro e w9 ⟨rfl, k⟩
        exact ⟨_, rfl, rfl, k⟩
      subst hv
      go_simp
      refine hK _ ?_
      clear hK K
      refine Y.lexX_step (fun K hK => ⟨by kernel_rfl, ⟨_, rfl⟩, fun v hv => ?_, fun v hv => ?_⟩)
      · go_simp
        exact mUpon_b
      subst hv
      go_simp
      refine hK _ ?_
      clear hK K
      refine Y.lexX_step (fun K hK => ⟨by kernel_rfl, ⟨_, rfl⟩, fun v hv => ?_, fun v hv => ?_⟩)
      · go_simp
        refine (unhideR HAl v (below_go (unhideR hB) hv)).mono ?_
        rintro e w9 ⟨rfl, k⟩
        exact ⟨_, rfl, rfl, k⟩
      subst hv
      go_simp
      refine hK _ ?_
      clear hK K
      refine Y.lexX_step (fun K hK => ⟨by kernel_rfl, ⟨_, rfl⟩, fun v hv => ?_, fun v hv => ?_⟩)
      · go_simp
        exact mUpon_b
      subst hv
      go_simp
      refine hK _ ?_
      clear hK K
      refine Y.lexX_step (fun K hK => ⟨by kernel_rfl, ⟨_, rfl⟩, fun v hv => ?_, fun v hv => ?_⟩)
      · go_simp
        exact mUpon_b
      subst hv
      go_simp
      refine hK _ ?_
      clear hK K
      refine Y.lexX_pure (fun K hK => ⟨.inl ⟨by kernel_rfl, fun v => ?_⟩, ?_⟩)
      · go_simp
      go_simp
      refine hK _ ?_
      clear hK K
      refine Y.lexX_end (fun v15 hv => ?_)
      have k5 := hv.low
      clear hv ha hb HAl
      replace y1 := keepB y1 k5
      replace y2 := keepB y2 k5
      replace hB := hideR (below_go (unhideR hB) k5)
      clear k5
      refine wpAny_step (i := 9) (by kernel_rfl) rfl (by kernel_rfl) (fun K hK => ?_)
      unfold Oper.wp
      go_simp
      refine hK _ _ ?_
      clear hK K
      refine wpAny_step (i := 10) (by kernel_rfl) rfl (by kernel_rfl) (fun K hK => ?_)
      unfold Oper.wp
      go_simp
      refine hK _ _ ?_
      clear hK K
      refine wpAny_end (by kernel_rfl) ?_
      have x0 := (cells_at y1 0 (by simp)).1
      have w0 := (cells_at y2 0 (by simp)).1
      have x1 := (cells_at y1 1 (by simp)).1
      have w1 := (cells_at y2 1 (by simp)).1
      have x2 := (cells_at y1 2 (by simp)).1
      have w2 := (cells_at y2 2 (by simp)).1
      have x3 := (cells_at y1 3 (by simp)).1
      have w3 := (cells_at y2 3 (by simp)).1
      go_wp2_with fail
      refine (unhideR HsA _).mono ?_
      rintro e v16 ⟨rfl, k5⟩
      replace y1 := keepB y1 k5
      replace y2 := keepB y2 k5
      replace hB := hideR (below_go (unhideR hB) k5)
      clear k5 x0 w0 x1 w1 x2 w2 x3 w3
      have x0 := (cells_at y1 0 (by simp)).1
      have w0 := (cells_at y2 0 (by simp)).1
      have x1 := (cells_at y1 1 (by simp)).1
      have w1 := (cells_at y2 1 (by simp)).1
      have x2 := (cells_at y1 2 (by simp)).1
      have w2 := (cells_at y2 2 (by simp)).1
      have x3 := (cells_at y1 3 (by simp)).1
      have w3 := (cells_at y2 3 (by simp)).1
      go_wp2_with fail
      refine (unhideR HsB _).mono ?_
      rintro e v17 ⟨rfl, k5⟩
      replace y1 := keepB y1 k5
      replace y2 := keepB y2 k5
      replace hB := hideR (below_go (unhideR hB) k5)
      clear k5 x0 w0 x1 w1 x2 w2 x3 w3
      have x0 := (cells_at y1 0 (by simp)).1
      have w0 := (cells_at y2 0 (by simp)).1
      have x1 := (cells_at y1 1 (by simp)).1
      have w1 := (cells_at y2 1 (by simp)).1
      have x2 := (cells_at y1 2 (by simp)).1
      have w2 := (cells_at y2 2 (by simp)).1
      have x3 := (cells_at y1 3 (by simp)).1
      have w3 := (cells_at y2 3 (by simp)).1
      clear HsA HsB
      have HCo := HCo0
      clear HCo0
      cases SA with
      | false =>
        have e1 := unhideR HEN (by cases TB <;> rfl)
        have e2 : SM = false := by rw [← unhideR HSM]; cases TB <;> rfl
        subst e1 e2
        clear HER HEN HSM HTB HDo0
        have hco := unhideR HCo _ (unhideR hB)
        go_wp2_with fail
        refine hco.mono ?_
        rintro e v19 ⟨rfl, k5⟩
        have HE := hideR (below_go (unhideR hB) k5)
        clear x0 w0 x1 w1 x2 w2 x3 w3 y1 y2 hB k5 hco
        go_wp2
        go_ret
        exact ⟨rfl, unhideR HE⟩
      | true =>
      cases SB with
      | false =>
        have e1 := unhideR HEN (by cases TB <;> rfl)
        have e2 : SM = false := by rw [← unhideR HSM]; cases TB <;> rfl
        subst e1 e2
        clear HER HEN HSM HTB HDo0
        have hco := unhideR HCo _ (unhideR hB)
        go_wp2_with fail
        refine hco.mono ?_
        rintro e v19 ⟨rfl, k5⟩
        have HE := hideR (below_go (unhideR hB) k5)
        clear x0 w0 x1 w1 x2 w2 x3 w3 y1 y2 hB k5 hco
        go_wp2
        go_ret
        exact ⟨rfl, unhideR HE⟩
      | true =>
      cases TB with
      | false =>
        have e1 := unhideR HEN rfl
        have e2 : SM = false := by rw [← unhideR HSM]; rfl
        subst e1 e2
        have hk := of_decide_eq_false (unhideR HTB)
        clear HER HEN HSM HTB HDo0
        by_cases q0 : k < 0
        · have tk : decide (k < 0) = true := decide_eq_true q0
          clear hk q0
          have hco := unhideR HCo _ (unhideR hB)
          go_wp2_with fail
          refine hco.mono ?_
          rintro e v19 ⟨rfl, k5⟩
          have HE := hideR (below_go (unhideR hB) k5)
          clear x0 w0 x1 w1 x2 w2 x3 w3 y1 y2 hB k5 hco
          go_wp2
          go_ret
          exact ⟨rfl, unhideR HE⟩
        · have tk : decide (k < 0) = false := decide_eq_false q0
          have tk2 : decide (1000 < k) = true := decide_eq_true (by omega)
          clear hk q0
          have hco := unhideR HCo _ (unhideR hB)
          go_wp2_with fail
          refine hco.mono ?_
          rintro e v19 ⟨rfl, k5⟩
          have HE := hideR (below_go (unhideR hB) k5)
          clear x0 w0 x1 w1 x2 w2 x3 w3 y1 y2 hB k5 hco
          go_wp2
          go_ret
          exact ⟨rfl, unhideR HE⟩
      | true =>
        have e1 := unhideR HER rfl
        have e2 : SM = AK := by rw [← unhideR HSM]; rfl
        subst e1 e2
        have hk := of_decide_eq_true (unhideR HTB)
        have tk : decide (k < 0) = false := decide_eq_false (by omega)
        have tk2 : decide (1000 < k) = false := decide_eq_false (by omega)
        have hdo := unhideR HDo0 rfl
        clear HER HEN HSM HTB HDo0 hk HCo
        go_wp2_with fail
        refine (hdo _).mono ?_
        rintro e v20 ⟨rfl, k5⟩
        have HE := hideR (below_go (unhideR hB) k5)
        clear x0 w0 x1 w1 x2 w2 x3 w3 y1 y2 hB k5 hdo
        cases SM with
        | false =>
          go_wp2
          go_ret
          exact ⟨rfl, unhideR HE⟩
        | true =>
          go_wp2
          go_ret
          exact ⟨rfl, unhideR HE⟩
end Go.Proofs.YtkdmeclbnnjdgalDoor
