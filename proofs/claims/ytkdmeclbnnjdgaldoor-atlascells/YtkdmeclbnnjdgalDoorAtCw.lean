/-
  The law of cells, walked.
-/
import Derived.Test.YtkdmeclbnnjdgalDoorAtSp
namespace Go.Proofs.YtkdmeclbnnjdgalDoor
open Go Go.RowKit

theorem keepB' {w v : World} {b : Nat} {o : Obj} (h : w.heap[b]? = some o) (k : Below w.heap.size w v) : v.heap[b]? = some o := keepB h k
def fcB (s : Sq) : Bool := decide (0 ≤ s.f ∧ s.f < 6 ∧ 0 ≤ s.l ∧ s.l ≤ 12)
def icB (s : Sq) (N : Int) : Bool := decide (0 ≤ s.c ∧ s.c < N ∧ 0 ≤ s.r ∧ s.r < N)
/-- two to a number, up to 20. -/
def pwV : Nat → Int
  | 0 => 1
  | i + 1 => pwV i * 2
theorem pw_is : ∀ i, pwV i = 2 ^ i
  | 0 => rfl
  | i + 1 => by
    show pwV i * 2 = _
    rw [pw_is i, Int.pow_succ]
theorem pw_bd {i : Nat} (h : i ≤ 20) : 1 ≤ pwV i ∧ pwV i ≤ 1048576 := by
  rcases (show i = 0 ∨ i = 1 ∨ i = 2 ∨ i = 3 ∨ i = 4 ∨ i = 5 ∨ i = 6 ∨ i = 7 ∨ i = 8 ∨ i = 9 ∨ i = 10 ∨ i = 11 ∨ i = 12 ∨ i = 13 ∨ i = 14 ∨ i = 15 ∨ i = 16 ∨ i = 17 ∨ i = 18 ∨ i = 19 ∨ i = 20 by omega) with rfl | rfl | rfl | rfl | rfl | rfl | rfl | rfl | rfl | rfl | rfl | rfl | rfl | rfl | rfl | rfl | rfl | rfl | rfl | rfl | rfl <;> decide
theorem va_is (s : Sq) {i : Nat} (h1 : (i : Int) < s.l → i = 20) (h2 : 0 < i → (i : Int) ≤ s.l) : vaB s = (fcB s && icB s (pwV i)) := by
  rw [pw_is]
  unfold vaB fcB icB
  by_cases q : 0 ≤ s.f ∧ s.f < 6 ∧ 0 ≤ s.l ∧ s.l ≤ 12
  · rw [decide_eq_true q, Bool.true_and, decide_eq_decide]
    have e : s.l.toNat = i := by omega
    rw [e]
    constructor
    · rintro ⟨_, _, _, _, a, b, c, d⟩
      exact ⟨a, b, c, d⟩
    · rintro ⟨a, b, c, d⟩
      exact ⟨q.1, q.2.1, q.2.2.1, q.2.2.2, a, b, c, d⟩
  · rw [decide_eq_false q, Bool.false_and]
    exact decide_eq_false (fun h => q ⟨h.1, h.2.1, h.2.2.1, h.2.2.2.1⟩)
theorem in_len (s : Sq) (lv : Int) (M : List En) (h : M.length ≤ 4000) : (inV s lv M).length ≤ 4000 := by
  unfold inV
  split
  · simp
  · exact Nat.le_trans (ic_len s M _) h
set_option maxRecDepth 1000000 in
set_option maxHeartbeats 6400000 in
theorem cells_walk {a : Nat → Addr} {Rep : RepT} (hP : EnProg a Rep) (hC : ClProg a) (hI : InProg a Rep) {w : World} (hS : Sents w a) {ad0 : Option Addr} {cap0 : Nat} {l : List En} (hl : EnCame w ad0 l) (hll : l.length ≤ 140737488355328) (hls : ∀ k, k < l.length → (l.getD k en0).nm.size ≤ 140737488355328) (lv : Int) (d : Dr) (s : Sq) (hsq : SqOk s) :
    Calls Tryd.prog 5 #[.slice ad0 l.length cap0, .int .i64 lv, d.val, s.val] w fun e w' => e = .returned (.bool true) ∧ Below w.heap.size w w' := by
  have HL : HeldR (∀ u, Below w.heap.size w u → EnCame u ad0 l) := hideR (fun u q => hl.below q)
  have HS : HeldR (∀ u, Below w.heap.size w u → Sents u a) := hideR (fun u q => hS.below q (Nat.le_refl _))
  have HC := hideR hC
  have HSq := hideR hsq
  clear hsq
  have hFw := fun u (q : Below w.heap.size w u) => fewEntries_any (cap := cap0) (unhideR HL u q) hll hls
  have hli := fun u (q : Below w.heap.size w u) => listed_any hC.toCe (unhideR HS u q)
  have hco := fun u (q : Below w.heap.size w u) => hC.toCe.cellOf (unhideR HS u q) d lv
  have hca := fun u => cellAt_any d lv u
  have hcb := fun u => cellAt_any d (lv - 1) u
  have hen := fun u (q : Below w.heap.size w u) (f : fewB l = true) => entries_any (cap0 := cap0) hP (unhideR HS u q) (unhideR HL u q) f lv
  have hhx := fun u => huge_any d.x u
  have hhy := fun u => huge_any d.y u
  have hhz := fun u => huge_any d.z u
  have hso := fun u => spotOf_any s u
  have hsv := fun u => hC.valid s u
  have z1 := keepA (o' := .cells #[.int .i64 s.f, .int .i64 s.l, .int .i64 s.c, .int .i64 s.r] 56) (alloc_last w (.cells #[.int .i64 d.x, .int .i64 d.y, .int .i64 d.z] 40))
  have z2 : ((w.alloc (.cells #[.int .i64 d.x, .int .i64 d.y, .int .i64 d.z] 40)).alloc (.cells #[.int .i64 s.f, .int .i64 s.l, .int .i64 s.c, .int .i64 s.r] 56)).heap[w.heap.size + 1]? = some (.cells #[.int .i64 s.f, .int .i64 s.l, .int .i64 s.c, .int .i64 s.r] 56) := by
    have := alloc_last (w.alloc (.cells #[.int .i64 d.x, .int .i64 d.y, .int .i64 d.z] 40)) (.cells #[.int .i64 s.f, .int .i64 s.l, .int .i64 s.c, .int .i64 s.r] 56)
    simpa using this
  have HB := hideR (below_al2 w (.cells #[.int .i64 d.x, .int .i64 d.y, .int .i64 d.z] 40) (.cells #[.int .i64 s.f, .int .i64 s.l, .int .i64 s.c, .int .i64 s.r] 56))
  unfold Dr.val Sq.val
  unfold Dr.val at hco hca hcb
  unfold Sq.val at hso hsv hco
  clear hl hls hS hC
  obtain ⟨F, hF⟩ : ∃ F, fewB l = F := ⟨_, rfl⟩
  have HF := hideR hF
  rw [hF] at hFw hen
  clear hF
  generalize hugeB d.x = X at *
  generalize hugeB d.y = Y at *
  generalize hugeB d.z = Z at *
  go_enter Tryd.func5, Tryd.ntmps5
  go_upto_region 1 with fail
  generalize (w.alloc (.cells #[.int .i64 d.x, .int .i64 d.y, .int .i64 d.z] 40)).alloc (.cells #[.int .i64 s.f, .int .i64 s.l, .int .i64 s.c, .int .i64 s.r] 56) = u0 at *
  obtain ⟨K, hK⟩ : ∃ K, w.heap.size = K := ⟨_, rfl⟩
  have HK := hideR hK
  rw [hK] at z1 z2 ⊢
  clear hK
  go_wp2_with fail
  refine (hli _ (unhideR HB)).mono ?_
  rintro e u1 ⟨rfl, k1⟩
  have y1 := keepB z1 k1
  have y2 := keepB z2 k1
  replace HB := hideR (below_go (unhideR HB) k1)
  clear z1 z2 k1 hli u0
  have x0 := (cells_at y1 0 (by simp)).1
  have x1 := (cells_at y1 1 (by simp)).1
  have x2 := (cells_at y1 2 (by simp)).1
  go_wp2_with fail
  refine (hFw _ (unhideR HB)).mono ?_
  rintro e v ⟨rfl, rfl⟩
  go_wp2_with fail
  refine (hhx _).mono ?_
  rintro e v ⟨rfl, rfl⟩
  go_wp2_with fail
  refine (hhy _).mono ?_
  rintro e v ⟨rfl, rfl⟩
  go_wp2_with fail
  refine (hhz _).mono ?_
  rintro e v ⟨rfl, rfl⟩
  clear hFw hhx hhy hhz
  by_cases qF : F = true ∧ X = false ∧ Y = false ∧ Z = false
  case neg =>
    cases F <;> cases X <;> cases Y <;> cases Z <;> first
      | exact absurd ⟨rfl, rfl, rfl, rfl⟩ qF
      | (go_wp2; go_ret; exact ⟨rfl, unhideR HB⟩)
  obtain ⟨rfl, rfl, rfl, rfl⟩ := qF
  replace hen := fun u (q : Below w.heap.size w u) => hen u q rfl
  go_wp2_with fail
  refine (hco _ (unhideR HB)).mono ?_
  rintro e u2 ⟨E, rfl, hE, k2⟩
  have HEr := hideR hE
  have y1' := keepB y1 k2
  have y2' := keepB y2 k2
  replace HB := hideR (below_go (unhideR HB) k2)
  clear y1 y2 k2 hco x0 x1 x2 hE
  have HUp : HeldR (sqE d lv = 0 → upV (sqA d lv) = sqA d (lv - 1) ∧ upB (sqA d lv) = decide (0 < lv) ∧ vaB (sqA d lv) = true ∧ 0 ≤ lv ∧ lv ≤ 12) := hideR (fun q => ⟨(up_cell q).1, (up_cell q).2.1, (up_cell q).2.2, (sqE_zero q).2.1, (sqE_zero q).2.2⟩)
  generalize sqA d lv = c at *
  generalize sqE d lv = EE at *
  generalize sqA d (lv - 1) = o at *
  generalize sqE d (lv - 1) = EO at *
  have hsc := fun u => spotOf_any c u
  have hso2 := fun u => spotOf_any o u
  have hnc := fun u => neq_sq c u
  have hno := fun u => neq_sq o u
  have hgd := guard_asq .neq
  have hup := fun u => (unhideR HC).up c u
  have hvc := fun u => (unhideR HC).valid c u
  unfold Sq.val at hca hcb hsc hso2 hnc hno hup hvc
  go_upto_region 9 with fail
  have zc := alloc_last u2 (.cells #[.int .i64 c.f, .int .i64 c.l, .int .i64 c.c, .int .i64 c.r] 58)
  have y1 := keepA (o' := .cells #[.int .i64 c.f, .int .i64 c.l, .int .i64 c.c, .int .i64 c.r] 58) y1'
  have y2 := keepA (o' := .cells #[.int .i64 c.f, .int .i64 c.l, .int .i64 c.c, .int .i64 c.r] 58) y2'
  replace HB := hideR (below_go (unhideR HB) (below_a u2 (.cells #[.int .i64 c.f, .int .i64 c.l, .int .i64 c.c, .int .i64 c.r] 58)))
  clear y1' y2'
  generalize u2.alloc (.cells #[.int .i64 c.f, .int .i64 c.l, .int .i64 c.c, .int .i64 c.r] 58) = u3 at *
  generalize u2.heap.size = C at *
  clear u2
  have x0 := (cells_at y1 0 (by simp)).1
  have x1 := (cells_at y1 1 (by simp)).1
  have x2 := (cells_at y1 2 (by simp)).1
  go_wp2_with fail
  refine (hca _).mono ?_
  rintro e u4 ⟨rfl, k4⟩
  have zw := alloc_last u4 (.cells #[.int .i64 c.f, .int .i64 c.l, .int .i64 c.c, .int .i64 c.r] 56)
  have zc' := keepA (o' := .cells #[.int .i64 c.f, .int .i64 c.l, .int .i64 c.c, .int .i64 c.r] 56) (keepB zc k4)
  have y1' := keepA (o' := .cells #[.int .i64 c.f, .int .i64 c.l, .int .i64 c.c, .int .i64 c.r] 56) (keepB y1 k4)
  have y2' := keepA (o' := .cells #[.int .i64 c.f, .int .i64 c.l, .int .i64 c.c, .int .i64 c.r] 56) (keepB y2 k4)
  replace HB := hideR (below_go (below_go (unhideR HB) k4) (below_a u4 (.cells #[.int .i64 c.f, .int .i64 c.l, .int .i64 c.c, .int .i64 c.r] 56)))
  clear hca k4 x0 x1 x2 y1 y2 zc
  go_upto_region 10 with fail
  generalize u4.alloc (.cells #[.int .i64 c.f, .int .i64 c.l, .int .i64 c.c, .int .i64 c.r] 56) = u4b at *
  generalize u4.heap.size = Wt at *
  have hcd := coded_err (unhideR HS _ (unhideR HB)) (unhideR HEr)
  go_wp2_with fail
  refine hcd.mono ?_
  rintro e u5 ⟨rfl, k5⟩
  replace zw := keepB zw k5
  have zc := keepB zc' k5
  have y1 := keepB y1' k5
  have y2 := keepB y2' k5
  replace HB := hideR (below_go (unhideR HB) k5)
  clear hcd k5 zc' y1' y2' HEr
  go_upto_region 11 with fail
  refine wp_region_letsB u5.heap.size [(· = .bool true), (· = .bool false), (· = .bool false), (· = .agg #[.int .i64 c.f, .int .i64 c.l, .int .i64 c.c, .int .i64 c.r]), (· = .agg #[.int .i64 c.f, .int .i64 c.l, .int .i64 c.c, .int .i64 c.r]), (· = .agg #[.int .i64 c.f, .int .i64 c.l, .int .i64 c.c, .int .i64 c.r]), (· = .bool false), (· = .bool false)] (by kernel_rfl) (by kernel_rfl) ?_
  refine lexB_step (fun K hK => ⟨by kernel_rfl, ⟨_, rfl⟩, fun v hv => ?_, fun v hv => ?_⟩)
  · go_simp
    exact lUpon_b hv
  subst hv
  go_simp
  refine hK _ ?_
  clear hK K
  refine lexB_step (fun K hK => ⟨by kernel_rfl, ⟨_, rfl⟩, fun v hv => ?_, fun v hv => ?_⟩)
  · go_simp
    exact lUpon_b hv
  subst hv
  go_simp
  refine hK _ ?_
  clear hK K
  refine lexB_step (fun K hK => ⟨by kernel_rfl, ⟨_, rfl⟩, fun v hv => ?_, fun v hv => ?_⟩)
  · go_simp
    exact lUpon_b hv
  subst hv
  go_simp
  refine hK _ ?_
  clear hK K
  refine lexB_step (fun K hK => ⟨by kernel_rfl, ⟨_, rfl⟩, fun v hv => ?_, fun v hv => ?_⟩)
  · have q9 := keepB zc hv
    have q0 := (cells_at q9 0 (by simp)).1
    have q1 := (cells_at q9 1 (by simp)).1
    have q2 := (cells_at q9 2 (by simp)).1
    have q3 := (cells_at q9 3 (by simp)).1
    go_simp
    exact lUpon_b hv
  subst hv
  go_simp
  refine hK _ ?_
  clear hK K
  refine lexB_step (fun K hK => ⟨by kernel_rfl, ⟨_, rfl⟩, fun v hv => ?_, fun v hv => ?_⟩)
  · have q9 := keepB zw hv
    have q0 := (cells_at q9 0 (by simp)).1
    have q1 := (cells_at q9 1 (by simp)).1
    have q2 := (cells_at q9 2 (by simp)).1
    have q3 := (cells_at q9 3 (by simp)).1
    go_simp
    exact lUpon_b hv
  subst hv
  go_simp
  refine hK _ ?_
  clear hK K
  refine lexB_step (fun K hK => ⟨by kernel_rfl, ⟨_, rfl⟩, fun v hv => ?_, fun v hv => ?_⟩)
  · go_simp
    refine (hsc _).mono ?_
    rintro e w9 ⟨rfl, k⟩
    exact ⟨_, rfl, rfl, below_on2 hv (Nat.le_refl _) k⟩
  subst hv
  go_simp
  refine hK _ ?_
  clear hK K
  refine lexB_step (fun K hK => ⟨by kernel_rfl, ⟨_, rfl⟩, fun v hv => ?_, fun v hv => ?_⟩)
  · go_simp
    exact lUpon_b hv
  subst hv
  go_simp
  refine hK _ ?_
  clear hK K
  refine lexB_step (fun K hK => ⟨by kernel_rfl, ⟨_, rfl⟩, fun v hv => ?_, fun v hv => ?_⟩)
  · go_simp
    exact lUpon_b hv
  subst hv
  go_simp
  refine hK _ ?_
  clear hK K
  refine lexL_end ?_
  intro u6 hu6
  replace zc := keepB zc hu6
  replace y1 := keepB y1 hu6
  replace y2 := keepB y2 hu6
  replace HB := hideR (below_go (unhideR HB) hu6)
  clear zw hsc hnc hu6 u5
  go_upto_if 84 with fail
  go_cut [18] from 18 to 113 (fun s18 wx => s18 = .bool true ∧ wx.heap[K + 1]? = some (.cells #[.int .i64 s.f, .int .i64 s.l, .int .i64 s.c, .int .i64 s.r] 56) ∧ HeldR (Below w.heap.size w wx))
  case' first =>
    by_cases qE : EE = 0
    case' neg =>
      have tE : (EE == 0) = false := by simpa using qE
      clear hup hvc hcb HUp
      go_wp2
      go_meet
      exact ⟨rfl, y2, HB⟩
    case' pos =>
      have tE : (EE == 0) = true := by simpa using qE
      obtain ⟨e1, e2, e3, l0, l1⟩ := unhideR HUp qE
      rw [e1, e2] at hup
      rw [e3] at hvc
      have wl : IntKind.i64.wrap (lv - 1) = lv - 1 := iwrap (by omega) (by omega)
      clear HUp e1 e2 e3 qE
      have c0 := (cells_at zc 0 (by simp)).1
      have c1 := (cells_at zc 1 (by simp)).1
      have c2 := (cells_at zc 2 (by simp)).1
      have c3 := (cells_at zc 3 (by simp)).1
      go_wp2_with fail
      refine (hup _).mono ?_
      rintro e v1 ⟨rfl, k1⟩
      have zu := alloc_last v1 (.cells #[.int .i64 o.f, .int .i64 o.l, .int .i64 o.c, .int .i64 o.r] 58)
      have zc' := keepA (o' := .cells #[.int .i64 o.f, .int .i64 o.l, .int .i64 o.c, .int .i64 o.r] 58) (keepB zc k1)
      have y1' := keepA (o' := .cells #[.int .i64 o.f, .int .i64 o.l, .int .i64 o.c, .int .i64 o.r] 58) (keepB y1 k1)
      have y2' := keepA (o' := .cells #[.int .i64 o.f, .int .i64 o.l, .int .i64 o.c, .int .i64 o.r] 58) (keepB y2 k1)
      replace HB := hideR (below_go (below_go (unhideR HB) k1) (below_a v1 (.cells #[.int .i64 o.f, .int .i64 o.l, .int .i64 o.c, .int .i64 o.r] 58)))
      clear zc y1 y2 k1 hup c0 c1 c2 c3
      go_upto_region 15 with fail
      generalize v1.alloc (.cells #[.int .i64 o.f, .int .i64 o.l, .int .i64 o.c, .int .i64 o.r] 58) = v2 at *
      generalize v1.heap.size = U at *
      have x0 := (cells_at y1' 0 (by simp)).1
      have x1 := (cells_at y1' 1 (by simp)).1
      have x2 := (cells_at y1' 2 (by simp)).1
      go_wp2_with fail
      refine (hcb _).mono ?_
      rintro e v3 ⟨rfl, k3⟩
      have zo := alloc_last v3 (.cells #[.int .i64 o.f, .int .i64 o.l, .int .i64 o.c, .int .i64 o.r] 56)
      have zu' := keepA (o' := .cells #[.int .i64 o.f, .int .i64 o.l, .int .i64 o.c, .int .i64 o.r] 56) (keepB zu k3)
      have zc := keepA (o' := .cells #[.int .i64 o.f, .int .i64 o.l, .int .i64 o.c, .int .i64 o.r] 56) (keepB zc' k3)
      have y2 := keepA (o' := .cells #[.int .i64 o.f, .int .i64 o.l, .int .i64 o.c, .int .i64 o.r] 56) (keepB y2' k3)
      replace HB := hideR (below_go (below_go (unhideR HB) k3) (below_a v3 (.cells #[.int .i64 o.f, .int .i64 o.l, .int .i64 o.c, .int .i64 o.r] 56)))
      clear zu zc' y1' y2' k3 hcb x0 x1 x2
      go_upto_region 16 with fail
      generalize v3.alloc (.cells #[.int .i64 o.f, .int .i64 o.l, .int .i64 o.c, .int .i64 o.r] 56) = v4 at *
      generalize v3.heap.size = V at *
      have c0 := (cells_at zc 0 (by simp)).1
      have c1 := (cells_at zc 1 (by simp)).1
      have c2 := (cells_at zc 2 (by simp)).1
      have c3 := (cells_at zc 3 (by simp)).1
      go_wp2_with fail
      refine (hvc _).mono ?_
      rintro e v5 ⟨rfl, k5⟩
      replace zo := keepB zo k5
      have zu := keepB zu' k5
      replace y2 := keepB y2 k5
      replace HB := hideR (below_go (unhideR HB) k5)
      clear zu' zc k5 hvc c0 c1 c2 c3
      go_upto_region 17 with fail
      refine wp_region_letsB v5.heap.size [(· = .bool (decide (0 < lv))), (· = .int .i64 lv), (· = .bool (decide (0 < lv))), (· = .bool false), (· = .bool false), (· = .agg #[.int .i64 o.f, .int .i64 o.l, .int .i64 o.c, .int .i64 o.r]), (· = .agg #[.int .i64 o.f, .int .i64 o.l, .int .i64 o.c, .int .i64 o.r]), (· = .agg #[.int .i64 o.f, .int .i64 o.l, .int .i64 o.c, .int .i64 o.r]), (· = .bool false), (· = .bool false), (· = .bool false), (· = .bool true), (· = .bool false), (· = .bool false)] (by kernel_rfl) (by kernel_rfl) ?_
      refine lexB_step (fun K hK => ⟨by kernel_rfl, ⟨_, rfl⟩, fun v hv => ?_, fun v hv => ?_⟩)
      · go_simp
        exact lUpon_b hv
      subst hv
      go_simp
      refine hK _ ?_
      clear hK K
      refine lexB_step (fun K hK => ⟨by kernel_rfl, ⟨_, rfl⟩, fun v hv => ?_, fun v hv => ?_⟩)
      · go_simp
        exact lUpon_b hv
      subst hv
      go_simp
      refine hK _ ?_
      clear hK K
      refine lexB_step (fun K hK => ⟨by kernel_rfl, ⟨_, rfl⟩, fun v hv => ?_, fun v hv => ?_⟩)
      · go_simp
        exact lUpon_b hv
      subst hv
      go_simp
      refine hK _ ?_
      clear hK K
      refine lexB_step (fun K hK => ⟨by kernel_rfl, ⟨_, rfl⟩, fun v hv => ?_, fun v hv => ?_⟩)
      · go_simp
        exact lUpon_b hv
      subst hv
      go_simp
      refine hK _ ?_
      clear hK K
      refine lexB_step (fun K hK => ⟨by kernel_rfl, ⟨_, rfl⟩, fun v hv => ?_, fun v hv => ?_⟩)
      · go_simp
        exact lUpon_b hv
      subst hv
      go_simp
      refine hK _ ?_
      clear hK K
      refine lexB_step (fun K hK => ⟨by kernel_rfl, ⟨_, rfl⟩, fun v hv => ?_, fun v hv => ?_⟩)
      · have q9 := keepB zu hv
        have q0 := (cells_at q9 0 (by simp)).1
        have q1 := (cells_at q9 1 (by simp)).1
        have q2 := (cells_at q9 2 (by simp)).1
        have q3 := (cells_at q9 3 (by simp)).1
        go_simp
        exact lUpon_b hv
      subst hv
      go_simp
      refine hK _ ?_
      clear hK K
      refine lexB_step (fun K hK => ⟨by kernel_rfl, ⟨_, rfl⟩, fun v hv => ?_, fun v hv => ?_⟩)
      · have q9 := keepB zo hv
        have q0 := (cells_at q9 0 (by simp)).1
        have q1 := (cells_at q9 1 (by simp)).1
        have q2 := (cells_at q9 2 (by simp)).1
        have q3 := (cells_at q9 3 (by simp)).1
        go_simp
        exact lUpon_b hv
      subst hv
      go_simp
      refine hK _ ?_
      clear hK K
      refine lexB_step (fun K hK => ⟨by kernel_rfl, ⟨_, rfl⟩, fun v hv => ?_, fun v hv => ?_⟩)
      · go_simp
        refine (hso2 _).mono ?_
        rintro e w9 ⟨rfl, k⟩
        exact ⟨_, rfl, rfl, below_on2 hv (Nat.le_refl _) k⟩
      subst hv
      go_simp
      refine hK _ ?_
      clear hK K
      refine lexB_step (fun K hK => ⟨by kernel_rfl, ⟨_, rfl⟩, fun v hv => ?_, fun v hv => ?_⟩)
      · go_simp
        exact lUpon_b hv
      subst hv
      go_simp
      refine hK _ ?_
      clear hK K
      refine lexB_step (fun K hK => ⟨by kernel_rfl, ⟨_, rfl⟩, fun v hv => ?_, fun v hv => ?_⟩)
      · go_simp
        exact lUpon_b hv
      subst hv
      go_simp
      refine hK _ ?_
      clear hK K
      refine lexB_step (fun K hK => ⟨by kernel_rfl, ⟨_, rfl⟩, fun v hv => ?_, fun v hv => ?_⟩)
      · go_simp
        exact lUpon_b hv
      subst hv
      go_simp
      refine hK _ ?_
      clear hK K
      refine lexB_step (fun K hK => ⟨by kernel_rfl, ⟨_, rfl⟩, fun v hv => ?_, fun v hv => ?_⟩)
      · go_simp
        exact lUpon_b hv
      subst hv
      go_simp
      refine hK _ ?_
      clear hK K
      refine lexB_step (fun K hK => ⟨by kernel_rfl, ⟨_, rfl⟩, fun v hv => ?_, fun v hv => ?_⟩)
      · go_simp
        exact lUpon_b hv
      subst hv
      go_simp
      refine hK _ ?_
      clear hK K
      refine lexB_step (fun K hK => ⟨by kernel_rfl, ⟨_, rfl⟩, fun v hv => ?_, fun v hv => ?_⟩)
      · go_simp
        exact lUpon_b hv
      subst hv
      go_simp
      refine hK _ ?_
      clear hK K
      refine lexL_end ?_
      intro v6 hv6
      replace y2 := keepB y2 hv6
      replace HB := hideR (below_go (unhideR HB) hv6)
      clear zu zo hv6 hso2 hno hgd
      go_wp2
      go_meet
      exact ⟨rfl, y2, HB⟩
  obtain ⟨rfl, y2, HB⟩ := hcut
  clear hup hvc hcb HUp hso2 hno hgd zc y1
  go_wp2_with fail
  refine (hen _ (unhideR HB)).mono ?_
  intro e v1 hpo
  unfold EsPost at hpo
  by_cases qv : lvB lv = true
  case neg =>
    rw [if_neg qv] at hpo
    obtain ⟨rfl, k1⟩ := hpo
    replace HB := hideR (below_go (unhideR HB) k1)
    clear hen k1 y2 hsv hso
    go_wp2
    go_ret
    exact ⟨rfl, unhideR HB⟩
  rw [if_pos qv] at hpo
  obtain ⟨p, g, O, ad, cap, sn, rfl, hEI⟩ := hpo
  have hml : (adL l l.length).length ≤ 200 := Nat.le_trans (adL_len l _) (few_is (unhideR HF)).2
  generalize adL l l.length = M at *
  replace y2 := keepB y2 hEI.d.bel
  replace HB := hideR (below_go (unhideR HB) hEI.d.bel)
  have HI := hideR hEI
  have HIn := hideR hI
  clear hen hEI hI qv
  have s0 := (cells_at y2 0 (by simp)).1
  have s1 := (cells_at y2 1 (by simp)).1
  have s2 := (cells_at y2 2 (by simp)).1
  have s3 := (cells_at y2 3 (by simp)).1
  go_wp2_with fail
  refine (hso _).mono ?_
  rintro e v2 ⟨rfl, k2⟩
  go_wp2_with fail
  refine (hsv _).mono ?_
  rintro e v3 ⟨rfl, k3⟩
  have k23 := below_go k2 k3
  replace y2 := keepB y2 k23
  replace HB := hideR (below_go (unhideR HB) k23)
  replace HI := hideR ((unhideR HI).below hP k23)
  clear s0 s1 s2 s3 k2 k3 k23 hsv
  obtain ⟨V, hV⟩ : ∃ V, vaB s = V := ⟨_, rfl⟩
  have HV := hideR hV
  rw [hV]
  clear hV
  go_wp2_with fail
  go_loopw [27, 28] (fun nv iv wl => ∃ i : Nat, i ≤ 20 ∧ iv = .int .i64 (i : Nat) ∧ nv = .int .i64 (pwV i) ∧ HeldR (0 < i → (i : Int) ≤ s.l) ∧ wl = v3) (fun _ iv _ => 21 - (intOf iv).toNat)
  case atStart => exact ⟨0, by omega, rfl, rfl, hideR (fun h => absurd h (by omega)), rfl⟩
  case round =>
    obtain ⟨i, hi, rfl, rfl, H2, rfl⟩ := hrel
    have s1 := (cells_at y2 1 (by simp)).1
    by_cases q1 : (i : Int) < s.l ∧ i < 20
    · have t1 : decide ((i : Int) < s.l) = true := decide_eq_true q1.1
      have t2 : decide ((i : Int) < 20) = true := decide_eq_true (by omega)
      have wi : IntKind.i64.wrap ((i : Int) + 1) = (i : Int) + 1 := iwrap (by omega) (by omega)
      have hpb := pw_bd (show i ≤ 20 by omega)
      have wp : IntKind.i64.wrap (pwV i * 2) = pwV i * 2 := iwrap (by omega) (by omega)
      have H3 : HeldR (0 < i + 1 → ((i + 1 : Nat) : Int) ≤ s.l) := hideR (fun _ => by omega)
      clear H2 hpb
      go_wp2
      exact ⟨⟨i + 1, by omega, by go_num, rfl, H3, by first | exact trivial | rfl⟩, by simp [intOf]; omega⟩
    · have HN : HeldR (vaB s = (fcB s && icB s (pwV i))) := hideR (va_is s (fun h => by omega) (unhideR H2))
      rw [unhideR HV] at HN
      have HFc : HeldR (fcB s = decide (0 ≤ s.f ∧ s.f < 6 ∧ 0 ≤ s.l ∧ s.l ≤ 12)) := hideR rfl
      have HIc : HeldR (icB s (pwV i) = decide (0 ≤ s.c ∧ s.c < pwV i ∧ 0 ≤ s.r ∧ s.r < pwV i)) := hideR rfl
      generalize icB s (pwV i) = f2 at *
      generalize fcB s = f1 at *
      generalize pwV i = N at *
      have s0 := (cells_at y2 0 (by simp)).1
      have s2 := (cells_at y2 2 (by simp)).1
      have s3 := (cells_at y2 3 (by simp)).1
      clear H2
      go_upto_region 27 with fail
      go_cut [135] from 128 to 136 (fun s135 wx => s135 = .bool false ∧ wx = wr)
      case' first =>
        by_cases q2 : (i : Int) < s.l
        · have t1 : decide ((i : Int) < s.l) = true := decide_eq_true q2
          have t2 : decide ((i : Int) < 20) = false := decide_eq_false (by omega)
          clear q1 q2
          go_wp2
          go_meet
          exact ⟨rfl, rfl⟩
        · have t1 : decide ((i : Int) < s.l) = false := decide_eq_false q2
          clear q1 q2
          go_wp2
          go_meet
          exact ⟨rfl, rfl⟩
      obtain ⟨rfl, rfl⟩ := hcut
      clear q1
      go_upto_region 30 with fail
      go_cut [29] from 140 to 158 (fun s29 wx => s29 = .bool f1 ∧ wx = wc)
      case' first =>
        go_wp2
        all_goals
          go_meet
          refine ⟨congrArg Value.bool ?_, rfl⟩
          rw [unhideR HFc, Bool.eq_iff_iff]
          simp
          try omega
      obtain ⟨rfl, rfl⟩ := hcut
      go_upto_region 31 with fail
      go_cut [30] from 158 to 178 (fun s30 wx => s30 = .bool f2 ∧ wx = wc)
      case' first =>
        go_wp2
        all_goals
          go_meet
          refine ⟨congrArg Value.bool ?_, rfl⟩
          rw [unhideR HIc, Bool.eq_iff_iff]
          simp
          try omega
      obtain ⟨rfl, rfl⟩ := hcut
      clear HIc HFc
      go_upto_region 32 with fail
      go_cut [183] from 178 to 184 (fun s183 wx => s183 = .bool false ∧ wx = wc)
      case' first =>
        have e := unhideR HN
        cases f1 <;> cases f2 <;> simp at e <;> subst e
        all_goals
          go_wp2
          go_meet
          exact ⟨rfl, rfl⟩
      obtain ⟨rfl, rfl⟩ := hcut
      clear HN
      go_wp2_with fail
      refine (hso _).mono ?_
      rintro e v4 ⟨rfl, k4⟩
      replace y2 := keepB y2 k4
      replace HB := hideR (below_go (unhideR HB) k4)
      replace HI := hideR ((unhideR HI).below hP k4)
      clear s0 s1 s2 s3 k4 hso
      have hin := (unhideR HIn).in_ (unhideR HI).rep hml s (unhideR HSq)
      rw [unhideR HV] at hin
      unfold Sq.val at hin
      go_wp2_with fail
      refine hin.mono ?_
      rintro e v5 ⟨⟨nv, rfl, hnm⟩, k5⟩
      replace y2 := keepB y2 k5
      replace HB := hideR (below_go (unhideR HB) k5)
      replace HI := hideR ((unhideR HI).below hP k5)
      clear hin k5
      cases V with
      | false =>
        obtain ⟨adn, capn, rfl, _⟩ := hnm
        clear y2 HI
        simp only [Bool.false_eq_true, if_false, List.length_nil]
        go_wp2
        go_ret
        exact ⟨rfl, unhideR HB⟩
      | true =>
        obtain ⟨adn, capn, rfl, hsc⟩ := hnm
        simp only [if_true] at hsc
        simp only [if_true]
        have hdi := in_any s (unhideR HI).d.doc (by omega)
        have HLe : HeldR ((inV s lv M).length ≤ 4000) := hideR (in_len s lv M (by omega))
        unfold Sq.val at hdi
        have HSc := hideR hsc
        generalize inV s lv M = NN at *
        have s0 := (cells_at y2 0 (by simp)).1
        have s1 := (cells_at y2 1 (by simp)).1
        have s2 := (cells_at y2 2 (by simp)).1
        have s3 := (cells_at y2 3 (by simp)).1
        clear hsc
        go_wp2_with fail
        refine hdi.mono ?_
        rintro e v6 ⟨⟨dv, rfl, hnw⟩, k6⟩
        obtain ⟨BB, hnw⟩ := hnw
        obtain ⟨ad6, cap6, rfl, hs6, _⟩ := own_str hnw
        have hsn := sameNames_any (c1 := capn) (c2 := cap6) ((unhideR HSc).below k6) hs6 (unhideR HLe)
        replace HB := hideR (below_go (unhideR HB) k6)
        clear hdi k6 hnw hs6 y2 s0 s1 s2 s3
        go_wp2_with fail
        refine hsn.mono ?_
        rintro e v7 ⟨rfl, k7⟩
        replace HB := hideR (below_go (unhideR HB) k7)
        clear k7 hsn
        go_wp2
        go_ret
        exact ⟨rfl, unhideR HB⟩
end Go.Proofs.YtkdmeclbnnjdgalDoor
