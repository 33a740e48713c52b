/-
  The feet on a window's edges: the program's, by contract. The feet of a window: the program's, by contract. The greatest of cosines: slices.MaxFunc, by contract.
-/
import Derived.Test.YtfonpobdnhifgamGreatDoorAtNB
import Derived.RangeFuncBox
import Derived.Test.YtfonpobdnhifgamGreatDoorAtMB
namespace Go.Proofs.YtfonpobdnhifgamGreatDoor
open Go Go.RowKit

theorem infoCo : (Tryz.prog.info? 76).map (fun i => (i.zero, i.size, i.bytes)) = some (some (.agg #[.int .i64 0, .int .u64 0, .int .u64 0, .int .i64 0]), 4, 32) := by kernel_rfl
theorem one_co {w : World} {g : Nat} {e : Co} (h : w.heap[g]? = some (.cells #[.int .i64 e.sg, .int .u64 (ohV e), .int .u64 (olV e), .int .i64 e.un] 76)) : ∀ k u, (valCo e)[k]? = some u → w.cell? ((⟨g, 0, none⟩ : Addr).add k) = some u := by
  intro k u hu
  rw [add_plS, Nat.zero_add]
  rcases k with _ | _ | _ | _ | k
  · rw [← hu]; exact (cells_at h 0 (by simp)).1
  · rw [← hu]; exact (cells_at h 1 (by simp)).1
  · rw [← hu]; exact (cells_at h 2 (by simp)).1
  · rw [← hu]; exact (cells_at h 3 (by simp)).1
  · simp [valCo] at hu
def apC (ok : Bool) (C : List Co) (c : Co) : List Co := if ok then C ++ [c] else C
/-- what feet$1 leaves. -/
def FtPost (N bl : Nat) (C : List Co) (w : World) (r : Ending) (w' : World) : Prop := r = .returned (.tuple #[]) ∧ (∃ v', Boxed w' bl 208 v' ∧ CRow w' N v' C) ∧ Below N w w' ∧ ∀ b cs ty, ty ≠ 76 → b ≠ bl → w.heap[b]? = some (.cells cs ty) → w'.heap[b]? = some (.cells cs ty)
set_option maxRecDepth 1000000 in
set_option maxHeartbeats 3200000 in
theorem pftadd_any {w : World} {N bl : Nat} {v : Value} {C : List Co} (hN : N ≤ bl) (hb : Boxed w bl 208 v) (hr : CRow w N v C) (hC : C.length ≤ 8) (c : Co) (ok : Bool) :
    Calls Tryz.prog 137 #[coV c, .bool ok, .pointer (some ⟨bl, 0, none⟩)] w (FtPost N bl (apC ok C c) w) := by
  have hlt := hb.lt
  obtain ⟨i0, hi, hz0, hz1, hz2⟩ := info_parts infoCo
  obtain ⟨ad, cap, ev, _, _⟩ := hr.at
  subst ev
  rw [coV_is]
  have z1 := alloc_last w (.cells #[.int .i64 c.sg, .int .u64 (ohV c), .int .u64 (olV c), .int .i64 c.un] 76)
  cases ok
  · have HR : HeldR (FtPost N bl (apC false C c) w (.returned (.tuple #[])) (w.alloc (.cells #[.int .i64 c.sg, .int .u64 (ohV c), .int .u64 (olV c), .int .i64 c.un] 76))) := hideR ⟨rfl, ⟨_, hb.alloc _, hr.alloc _⟩, (Below.refl N w).alloc (by omega) _, fun b cs ty _ _ h => keepA h⟩
    generalize FtPost N bl (apC false C c) w = AP at *
    clear hb hr z1
    go_enter Tryz.func137, Tryz.ntmps137
    go_wp2
    simp [bodyPost, results, Tryz.results137, go_sem]
    exact unhideR HR
  have Hb := hideR (hb.alloc (.cells #[.int .i64 c.sg, .int .u64 (ohV c), .int .u64 (olV c), .int .i64 c.un] 76))
  have Hr := hideR (hr.alloc (.cells #[.int .i64 c.sg, .int .u64 (ohV c), .int .u64 (olV c), .int .i64 c.un] 76))
  have HP : HeldR (∀ w', (∃ v', Boxed w' bl 208 v' ∧ CRow w' N v' (C ++ [c])) → Below N w w' → (∀ b cs ty, ty ≠ 76 → b ≠ bl → w.heap[b]? = some (.cells cs ty) → w'.heap[b]? = some (.cells cs ty)) → FtPost N bl (apC true C c) w (.returned (.tuple #[])) w') := hideR (fun w' h1 h2 h3 => ⟨rfl, h1, h2, h3⟩)
  generalize FtPost N bl (apC true C c) w = AP at *
  have c0 := (unhideR Hb).cell
  have x0 := (cells_at z1 0 (by simp)).1
  have x1 := (cells_at z1 1 (by simp)).1
  have x2 := (cells_at z1 2 (by simp)).1
  have x3 := (cells_at z1 3 (by simp)).1
  clear hb hr z1
  go_enter Tryz.func137, Tryz.ntmps137
  go_wp2_with (first
      | (at_builtin; refine wpList_append_own _ rfl _ _ 208 rfl N 76 i0 (.agg #[.int .i64 0, .int .u64 0, .int .u64 0, .int .i64 0]) 4 32 Tryz.underlying208 hi hz0 hz1 hz2 rfl (by decide) _ C.length _ rfl ((unhideR Hr).alloc _) ⟨w.heap.size + 1, 0, none⟩ 1 1 (valCo c) rfl rfl ?c1 ?c2 ?c3 ?c4 ?c5 ?_))
  case c1 => exact one_co (by have := alloc_last (w.alloc (.cells #[.int .i64 c.sg, .int .u64 (ohV c), .int .u64 (olV c), .int .i64 c.un] 76)) (.cells #[.int .i64 c.sg, .int .u64 (ohV c), .int .u64 (olV c), .int .i64 c.un] 76); simpa using this)
  case c2 =>
    intro u hu
    simp [valCo] at hu
    rcases hu with rfl | rfl | rfl | rfl <;> rfl
  case c3 => unfold maxLen; omega
  case c4 => omega
  case c5 => simp; omega
  intro v' w1 hown' hgrow _
  have hA := (unhideR Hb).appended (by decide) (unhideR Hr) (by simp; omega) hN hown' hgrow
  obtain ⟨g, cap', rfl⟩ := ownsRow_succ hown'
  have HQ := hideR (unhideR HP (w1.setCell ⟨bl, 0, none⟩ (.slice (some ⟨g, 0, none⟩) (C.length + 1) cap')) ⟨_, hA.2.1, by
      have := hA.2.2.1
      show World.ownsRow _ N 76 4 _ (C ++ [c]).length (flatCo (C ++ [c]))
      rw [List.length_append, flatCo_append]
      simpa [flatCo] using this⟩ (((Below.refl N w).alloc (by omega) _).trans hA.2.2.2.2) (fun b cs ty hty hbl h => by
      refine (Below.heap_setCell _ _ _ b (fun e => hbl (by rw [e]))).trans ?_
      refine (hgrow.block b (by have := ltB h; simp; omega) ?_).trans (keepA (keepA h))
      intro e
      rcases (unhideR Hr).2 with ⟨e1, _⟩ | ⟨g1, cap1, cur1, e1, _, hh, _⟩
      · rw [e1] at e; simp [Value.ownBlock] at e
      · rw [e1] at e
        obtain rfl : b = g1 := by simpa [Value.ownBlock] using e
        have := (keepA h).symm.trans hh
        simp at this
        exact hty this.2))
  have d0 := hA.1.cell
  have d1 := hA.1.frozen
  clear hA hown' hgrow Hb Hr HP c0 x0 x1 x2 x3
  go_wp2
  simp [bodyPost, results, Tryz.results137, go_sem]
  exact unhideR HQ
end Go.Proofs.YtfonpobdnhifgamGreatDoor
namespace Go.Proofs.YtfonpobdnhifgamGreatDoor
open Go Go.RowKit

theorem apC_ft (d : Dr) (o u lo hi : Int) (C : List Co) : apC (ftB d o u lo hi) C (ftA d o u lo hi) = C ++ ftL d o u lo hi := by
  unfold apC ftA ftL
  cases ftB d o u lo hi
  · rw [if_neg (by decide), if_neg (by decide), List.append_nil]
  · rw [if_pos rfl, if_pos rfl, if_pos rfl]
theorem ftL_len (d : Dr) (o u lo hi : Int) : (ftL d o u lo hi).length ≤ 1 := by
  unfold ftL
  split
  · exact Nat.le_refl _
  · exact Nat.zero_le _
structure FSt (w0 : World) (K : Nat) (W : Wn) (d : Dr) (C : List Co) (x : World) : Prop where
  hw : x.heap[K]? = some (.cells #[.int .i64 W.o, .int .i64 W.l, .int .i64 W.r, .int .i64 W.b, .int .i64 W.t] 205)
  hd : x.heap[K + 1]? = some (.cells #[.int .i64 d.x, .int .i64 d.y, .int .i64 d.z] 24)
  row : ∃ v, Boxed x (K + 2) 208 v ∧ CRow x K v C
  lo : Below K w0 x
theorem FSt.below {w0 : World} {K : Nat} {W : Wn} {d : Dr} {C : List Co} {x y : World} (h : FSt w0 K W d C x) (k : Below x.heap.size x y) : FSt w0 K W d C y := by
  obtain ⟨v, h1, h2⟩ := h.row
  have hK : K < x.heap.size := ltB h.hw
  exact ⟨keepB h.hw k, keepB h.hd k, ⟨v, keepB h1 k, own_belowC h2 k⟩, h.lo.trans (k.mono (by omega))⟩
theorem FSt.add {w0 : World} {K : Nat} {W : Wn} {d : Dr} {C C' : List Co} {x y : World} {r : Ending} (h : FSt w0 K W d C x) (k : FtPost K (K + 2) C' x r y) : FSt w0 K W d C' y :=
  ⟨k.2.2.2 _ _ _ (by decide) (by omega) h.hw, k.2.2.2 _ _ _ (by decide) (by omega) h.hd, k.2.1, h.lo.trans k.2.2.1⟩
theorem mi_dir {d : Dr} (h : dirB d = true) : dirB (miV d) = true := by
  have := dir_is h
  refine decide_eq_true ?_
  unfold miV
  simp only
  omega
set_option maxRecDepth 1000000 in
set_option maxHeartbeats 6400000 in
theorem pfeet_any (W : Wn) (d : Dr) (hW : W.Sm) (hO : W.Ok) (hd : dirB d = true) (w : World) : Calls Tryz.prog 131 #[wnV W, d.val] w (RowPost (W.feet d) w) := by
  have ho : 1 ≤ W.o ∧ W.o ≤ 4096 := hW.o
  have f1 := fun x => pfoot_any d hd W.o W.l W.b W.t ho hW.l hW.b hW.t hO.bt x
  have f2 := fun x => pfoot_any d hd W.o W.r W.b W.t ho hW.r hW.b hW.t hO.bt x
  have f3 := fun x => pfoot_any (miV d) (mi_dir hd) W.o W.b W.l W.r ho hW.b hW.l hW.r hO.lr x
  have f4 := fun x => pfoot_any (miV d) (mi_dir hd) W.o W.t W.l W.r ho hW.t hW.l hW.r hO.lr x
  have HP : HeldR (∀ x, FSt w w.heap.size W d (W.feet d) x → ∀ v, Boxed x (w.heap.size + 2) 208 v → RowPost (W.feet d) w (.returned v) x) := hideR (fun x h v hv => by
    obtain ⟨v', h1, h2⟩ := h.row
    have e : v = v' := by
      have := hv.symm.trans h1
      simpa using this
    subst e
    exact ⟨⟨v, rfl, h2⟩, h.lo⟩)
  have hfe : W.feet d = (([] ++ ftL d W.o W.l W.b W.t) ++ ftL d W.o W.r W.b W.t) ++ ftL (miV d) W.o W.b W.l W.r ++ ftL (miV d) W.o W.t W.l W.r := rfl
  have l1 := ftL_len d W.o W.l W.b W.t
  have l2 := ftL_len d W.o W.r W.b W.t
  have l3 := ftL_len (miV d) W.o W.b W.l W.r
  rw [← apC_ft d W.o W.l W.b W.t, ← apC_ft d W.o W.r W.b W.t, ← apC_ft (miV d) W.o W.b W.l W.r, ← apC_ft (miV d) W.o W.t W.l W.r] at hfe
  have k1 : (apC (ftB d W.o W.l W.b W.t) [] (ftA d W.o W.l W.b W.t)).length ≤ 8 := by rw [apC_ft]; simp; omega
  have k2 : (apC (ftB d W.o W.r W.b W.t) (apC (ftB d W.o W.l W.b W.t) [] (ftA d W.o W.l W.b W.t)) (ftA d W.o W.r W.b W.t)).length ≤ 8 := by rw [apC_ft, apC_ft]; simp; omega
  have k3 : (apC (ftB (miV d) W.o W.b W.l W.r) (apC (ftB d W.o W.r W.b W.t) (apC (ftB d W.o W.l W.b W.t) [] (ftA d W.o W.l W.b W.t)) (ftA d W.o W.r W.b W.t)) (ftA (miV d) W.o W.b W.l W.r)).length ≤ 8 := by rw [apC_ft, apC_ft, apC_ft]; simp; omega
  generalize ftB d W.o W.l W.b W.t = B1 at *
  generalize ftA d W.o W.l W.b W.t = A1 at *
  generalize ftB d W.o W.r W.b W.t = B2 at *
  generalize ftA d W.o W.r W.b W.t = A2 at *
  generalize ftB (miV d) W.o W.b W.l W.r = B3 at *
  generalize ftA (miV d) W.o W.b W.l W.r = A3 at *
  generalize ftB (miV d) W.o W.t W.l W.r = B4 at *
  generalize ftA (miV d) W.o W.t W.l W.r = A4 at *
  obtain ⟨C1, e1⟩ : ∃ C, apC B1 [] A1 = C := ⟨_, rfl⟩
  rw [e1] at hfe k1 k2 k3
  obtain ⟨C2, e2⟩ : ∃ C, apC B2 C1 A2 = C := ⟨_, rfl⟩
  rw [e2] at hfe k2 k3
  obtain ⟨C3, e3⟩ : ∃ C, apC B3 C2 A3 = C := ⟨_, rfl⟩
  rw [e3] at hfe k3
  have E1 := hideR e1
  have E2 := hideR e2
  have E3 := hideR e3
  have E4 := hideR hfe
  have HS : HeldR (FSt w w.heap.size W d [] (((w.alloc (.cells #[.int .i64 W.o, .int .i64 W.l, .int .i64 W.r, .int .i64 W.b, .int .i64 W.t] 205)).alloc (.cells #[.int .i64 d.x, .int .i64 d.y, .int .i64 d.z] 24)).alloc (.cells #[.slice none 0 0] 208))) := hideR (by
    obtain ⟨z1, z2, hbw⟩ := two_allocW w (.cells #[.int .i64 W.o, .int .i64 W.l, .int .i64 W.r, .int .i64 W.b, .int .i64 W.t] 205) (.cells #[.int .i64 d.x, .int .i64 d.y, .int .i64 d.z] 24)
    refine ⟨keepA z1, keepA z2, ⟨.slice none 0 0, ?_, World.ownsRow_nil _ _ _ _⟩, hbw.alloc hbw.size _⟩
    have := alloc_last ((w.alloc (.cells #[.int .i64 W.o, .int .i64 W.l, .int .i64 W.r, .int .i64 W.b, .int .i64 W.t] 205)).alloc (.cells #[.int .i64 d.x, .int .i64 d.y, .int .i64 d.z] 24)) (.cells #[.slice none 0 0] 208)
    simpa [Boxed] using this)
  unfold wnV
  unfold Dr.val at f1 f2 f3 f4 ⊢
  generalize RowPost (W.feet d) w = RP at *
  clear hW hO hd ho l1 l2 l3 hfe
  have q1 := (cells_at (unhideR HS).hw 0 (by simp)).1
  have q2 := (cells_at (unhideR HS).hw 1 (by simp)).1
  have q3 := (cells_at (unhideR HS).hw 3 (by simp)).1
  have q4 := (cells_at (unhideR HS).hw 4 (by simp)).1
  have q5 := (cells_at (unhideR HS).hd 0 (by simp)).1
  have q6 := (cells_at (unhideR HS).hd 1 (by simp)).1
  have q7 := (cells_at (unhideR HS).hd 2 (by simp)).1
  go_enter Tryz.func131, Tryz.ntmps131
  go_upto_region 3 with fail
  generalize ((w.alloc (.cells #[.int .i64 W.o, .int .i64 W.l, .int .i64 W.r, .int .i64 W.b, .int .i64 W.t] 205)).alloc (.cells #[.int .i64 d.x, .int .i64 d.y, .int .i64 d.z] 24)).alloc (.cells #[.slice none 0 0] 208) = u0 at *
  generalize w.heap.size = K at *
  go_wp2_with fail
  refine (f1 _).mono ?_
  rintro r u1 ⟨rfl, b1⟩
  replace HS := hideR ((unhideR HS).below b1)
  obtain ⟨v1, h1, h2⟩ := (unhideR HS).row
  have ha := pftadd_any (by omega) h1 h2 (by decide) A1 B1
  clear q1 q2 q3 q4 q5 q6 q7 b1 f1 h1 h2 u0
  rw [unhideR E1] at ha
  go_wp2_with fail
  refine ha.mono ?_
  rintro r u2 hq
  obtain rfl := hq.1
  replace HS := hideR ((unhideR HS).add hq)
  clear hq ha v1
  have q1 := (cells_at (unhideR HS).hw 0 (by simp)).1
  have q2 := (cells_at (unhideR HS).hw 2 (by simp)).1
  have q3 := (cells_at (unhideR HS).hw 3 (by simp)).1
  have q4 := (cells_at (unhideR HS).hw 4 (by simp)).1
  have q5 := (cells_at (unhideR HS).hd 0 (by simp)).1
  have q6 := (cells_at (unhideR HS).hd 1 (by simp)).1
  have q7 := (cells_at (unhideR HS).hd 2 (by simp)).1
  go_wp2_with fail
  refine (f2 _).mono ?_
  rintro r u3 ⟨rfl, b1⟩
  replace HS := hideR ((unhideR HS).below b1)
  obtain ⟨v1, h1, h2⟩ := (unhideR HS).row
  have ha := pftadd_any (by omega) h1 h2 (by omega) A2 B2
  clear q1 q2 q3 q4 q5 q6 q7 b1 f2 h1 h2 u1 u2
  rw [unhideR E2] at ha
  go_wp2_with fail
  refine ha.mono ?_
  rintro r u4 hq
  obtain rfl := hq.1
  replace HS := hideR ((unhideR HS).add hq)
  clear hq ha v1 u3
  have q5 := (cells_at (unhideR HS).hd 0 (by simp)).1
  have q6 := (cells_at (unhideR HS).hd 1 (by simp)).1
  have q7 := (cells_at (unhideR HS).hd 2 (by simp)).1
  go_upto_region 6 with fail
  have zm := alloc_last u4 (.cells #[.int .i64 d.x, .int .i64 d.z, .int .i64 d.y] 24)
  have hMK : K + 2 < u4.heap.size := (unhideR HS).row.elim (fun v h => h.1.lt)
  replace HS := hideR ((unhideR HS).below (below_a u4 (.cells #[.int .i64 d.x, .int .i64 d.z, .int .i64 d.y] 24)))
  clear q5 q6 q7
  generalize u4.alloc (.cells #[.int .i64 d.x, .int .i64 d.z, .int .i64 d.y] 24) = u5 at *
  generalize u4.heap.size = M at *
  unfold miV at f3 f4
  simp only at f3 f4
  have q1 := (cells_at (unhideR HS).hw 0 (by simp)).1
  have q2 := (cells_at (unhideR HS).hw 1 (by simp)).1
  have q3 := (cells_at (unhideR HS).hw 2 (by simp)).1
  have q4 := (cells_at (unhideR HS).hw 3 (by simp)).1
  have q5 := (cells_at zm 0 (by simp)).1
  have q6 := (cells_at zm 1 (by simp)).1
  have q7 := (cells_at zm 2 (by simp)).1
  go_wp2_with fail
  refine (f3 _).mono ?_
  rintro r u6 ⟨rfl, b1⟩
  replace HS := hideR ((unhideR HS).below b1)
  replace zm := keepB zm b1
  obtain ⟨v1, h1, h2⟩ := (unhideR HS).row
  have ha := pftadd_any (by omega) h1 h2 (by omega) A3 B3
  clear q1 q2 q3 q4 q5 q6 q7 b1 f3 h1 h2 u4 u5
  rw [unhideR E3] at ha
  go_wp2_with fail
  refine ha.mono ?_
  rintro r u7 hq
  obtain rfl := hq.1
  replace HS := hideR ((unhideR HS).add hq)
  replace zm := hq.2.2.2 _ _ _ (by decide) (by omega) zm
  clear hq ha v1 u6
  have q1 := (cells_at (unhideR HS).hw 0 (by simp)).1
  have q2 := (cells_at (unhideR HS).hw 1 (by simp)).1
  have q3 := (cells_at (unhideR HS).hw 2 (by simp)).1
  have q4 := (cells_at (unhideR HS).hw 4 (by simp)).1
  have q5 := (cells_at zm 0 (by simp)).1
  have q6 := (cells_at zm 1 (by simp)).1
  have q7 := (cells_at zm 2 (by simp)).1
  go_wp2_with fail
  refine (f4 _).mono ?_
  rintro r u8 ⟨rfl, b1⟩
  replace HS := hideR ((unhideR HS).below b1)
  obtain ⟨v1, h1, h2⟩ := (unhideR HS).row
  have ha := pftadd_any (by omega) h1 h2 (by omega) A4 B4
  clear q1 q2 q3 q4 q5 q6 q7 b1 f4 h1 h2 zm u7
  rw [← unhideR E4] at ha
  go_wp2_with fail
  refine ha.mono ?_
  rintro r u9 hq
  obtain rfl := hq.1
  replace HS := hideR ((unhideR HS).add hq)
  clear hq ha v1 u8
  obtain ⟨v1, h1, h2⟩ := (unhideR HS).row
  obtain ⟨ad, cap, ev, _, _⟩ := h2.at
  subst ev
  have c0 := h1.cell
  have HQ := hideR (unhideR HP _ (unhideR HS) _ h1)
  clear h1 h2 HS HP
  go_wp2
  exact unhideR HQ
end Go.Proofs.YtfonpobdnhifgamGreatDoor
namespace Go.Proofs.YtfonpobdnhifgamGreatDoor
open Go Go.RowKit

/-- a cosine that is right and small. -/
structure Co.Gd (c : Co) : Prop where
  ok : c.Ok
  sm : c.Sm
/-- the greatest so far. -/
structure MSt (w : World) (K : Nat) (C : List Co) (k : Nat) (c : Co) (x : World) : Prop where
  r : x.heap[K]? = some (.cells #[.int .i64 0, .int .u64 0, .int .u64 0, .int .i64 0] 76)
  m : x.heap[K + 1]? = some (.cells #[.int .i64 c.sg, .int .u64 (ohV c), .int .u64 (olV c), .int .i64 c.un] 76)
  lo : Below K w x
  mem : c ∈ C
  all : ∀ j, j < k → (C.getD j co0).le c
theorem MSt.below {w : World} {K : Nat} {C : List Co} {k : Nat} {c : Co} {x y : World} (h : MSt w K C k c x) (q : Below x.heap.size x y) : MSt w K C k c y := by
  have hK : K < x.heap.size := ltB h.r
  exact ⟨keepB h.r q, keepB h.m q, h.lo.trans (q.mono (by omega)), h.mem, h.all⟩
theorem MSt.keep {w : World} {K : Nat} {C : List Co} {k : Nat} {c : Co} {x : World} (h : MSt w K C k c x) (q : (C.getD k co0).le c) : MSt w K C (k + 1) c x :=
  ⟨h.r, h.m, h.lo, h.mem, fun j hj => by
    rcases Nat.lt_succ_iff_lt_or_eq.1 hj with q1 | q1
    · exact h.all j q1
    · rw [q1]; exact q⟩
theorem getD_mem {C : List Co} {k : Nat} (h : k < C.length) : C.getD k co0 ∈ C := by
  rw [List.getD_eq_getElem?_getD, List.getElem?_eq_getElem h]
  exact List.getElem_mem h
theorem MSt.take {w : World} {K : Nat} {C : List Co} {k : Nat} {c : Co} {x y : World} (h : MSt w K C k c x) (hk : k < C.length) (hC : ∀ c ∈ C, c.Gd) (_hj : k ≤ C.length) (q : c.le (C.getD k co0)) (hr : y.heap[K]? = some (.cells #[.int .i64 0, .int .u64 0, .int .u64 0, .int .i64 0] 76)) (hm : y.heap[K + 1]? = some (.cells #[.int .i64 (C.getD k co0).sg, .int .u64 (ohV (C.getD k co0)), .int .u64 (olV (C.getD k co0)), .int .i64 (C.getD k co0).un] 76)) (hlo : Below K w y) : MSt w K C (k + 1) (C.getD k co0) y :=
  ⟨hr, hm, hlo, getD_mem hk, fun j hj => by
    rcases Nat.lt_succ_iff_lt_or_eq.1 hj with q1 | q1
    · exact (h.all j q1).trans q (hC _ (getD_mem (by omega))).ok (hC _ h.mem).ok (hC _ (getD_mem hk)).ok
    · rw [q1]; exact Co.le_refl _⟩
theorem set4_oth {v : World} {g b : Nat} {x y z t : Value} (h : b ≠ g) : ((((v.setCell ⟨g, 0, none⟩ x).setCell ⟨g, 1, none⟩ y).setCell ⟨g, 2, none⟩ z).setCell ⟨g, 3, none⟩ t).heap[b]? = v.heap[b]? := by
  rw [Below.heap_setCell _ _ _ b h, Below.heap_setCell _ _ _ b h, Below.heap_setCell _ _ _ b h, Below.heap_setCell _ _ _ b h]
def MaxPost (C : List Co) (w : World) (r : Ending) (w' : World) : Prop := (∃ c ∈ C, r = .returned (coV c) ∧ ∀ e ∈ C, e.le c) ∧ Below w.heap.size w w'
theorem MSt.fin {w : World} {C : List Co} {c : Co} {x y : World} (h : MSt w w.heap.size C C.length c x) (hy : Below w.heap.size w y) : MaxPost C w (.returned (.agg #[.int .i64 c.sg, .int .u64 (ohV c), .int .u64 (olV c), .int .i64 c.un])) y :=
  ⟨⟨c, h.mem, rfl, fun e he => by
    obtain ⟨j, hj, rfl⟩ := List.getElem_of_mem he
    have := h.all j hj
    rwa [List.getD_eq_getElem?_getD, List.getElem?_eq_getElem hj] at this⟩, hy⟩
set_option maxRecDepth 1000000 in
set_option maxHeartbeats 6400000 in
theorem pmax_any {w : World} {b cap : Nat} {C : List Co} (hC : ∀ c ∈ C, c.Gd) (h0 : 1 ≤ C.length) (hl : C.length ≤ 16) (hb : b < w.heap.size) (hx : ∀ k, k < C.length → CoAt w b (k * 4) (C.getD k co0)) :
    Calls Tryz.prog 129 #[.slice (some ⟨b, 0, none⟩) C.length cap, .func (Fn.func 38) #[] #[]] w (MaxPost C w) := by
  have hpc := fun (k : Nat) (hk : k < C.length) (c : Co) (hc : c ∈ C) (x : World) => pcmp_any (C.getD k co0) c (hC _ (getD_mem hk)).sm (hC _ hc).sm x
  have Hcm : HeldR (∀ (k : Nat) (c : Co), k < C.length → c ∈ C → (0 < coCmp (C.getD k co0) c ↔ ¬ (C.getD k co0).le c)) := hideR (fun k c hk hc => coCmp_pos (hC _ (getD_mem hk)).ok (hC _ hc).ok)
  have HC := hideR hC
  have Hx := hideR hx
  have HP : HeldR (∀ c x y, MSt w w.heap.size C C.length c x → Below w.heap.size w y → MaxPost C w (.returned (.agg #[.int .i64 c.sg, .int .u64 (ohV c), .int .u64 (olV c), .int .i64 c.un])) y) := hideR (fun c x y h hy => h.fin hy)
  have Hpc := hideR hpc
  obtain ⟨x0, x1, x2, x3⟩ := hx 0 h0
  have e0 : C.getD 0 co0 ∈ C := getD_mem h0
  have HS : HeldR (MSt w w.heap.size C 1 (C.getD 0 co0) ((w.alloc (.cells #[.int .i64 0, .int .u64 0, .int .u64 0, .int .i64 0] 76)).alloc (.cells #[.int .i64 (C.getD 0 co0).sg, .int .u64 (ohV (C.getD 0 co0)), .int .u64 (olV (C.getD 0 co0)), .int .i64 (C.getD 0 co0).un] 76))) := hideR (by
    obtain ⟨z1, z2, hbw⟩ := two_allocW w (.cells #[.int .i64 0, .int .u64 0, .int .u64 0, .int .i64 0] 76) (.cells #[.int .i64 (C.getD 0 co0).sg, .int .u64 (ohV (C.getD 0 co0)), .int .u64 (olV (C.getD 0 co0)), .int .i64 (C.getD 0 co0).un] 76)
    refine ⟨z1, z2, hbw, e0, fun j hj => ?_⟩
    obtain rfl : j = 0 := by omega
    exact Co.le_refl _)
  have y0 := (World.cell?_of_block (a := ⟨b, 0 * 4, none⟩) ((below_a w (.cells #[.int .i64 0, .int .u64 0, .int .u64 0, .int .i64 0] 76)).block b hb)).trans x0
  have y1 := (World.cell?_of_block (a := ⟨b, 0 * 4 + 1, none⟩) ((below_a w (.cells #[.int .i64 0, .int .u64 0, .int .u64 0, .int .i64 0] 76)).block b hb)).trans x1
  have y2 := (World.cell?_of_block (a := ⟨b, 0 * 4 + 2, none⟩) ((below_a w (.cells #[.int .i64 0, .int .u64 0, .int .u64 0, .int .i64 0] 76)).block b hb)).trans x2
  have y3 := (World.cell?_of_block (a := ⟨b, 0 * 4 + 3, none⟩) ((below_a w (.cells #[.int .i64 0, .int .u64 0, .int .u64 0, .int .i64 0] 76)).block b hb)).trans x3
  rw [Nat.zero_mul] at y0 y1 y2 y3
  rw [Nat.zero_add] at y1 y2 y3
  obtain ⟨n, hn⟩ : ∃ n, C.length = n := ⟨_, rfl⟩
  have Hn := hideR hn
  rw [hn] at h0 hl ⊢
  have hn1 : ¬ (n : Int) < 1 := by omega
  have hn0 : (0 : Int) < (n : Int) := by omega
  generalize MaxPost C w = MP at *
  generalize C.getD 0 co0 = c0 at *
  clear hC hx hpc x0 x1 x2 x3 e0 hn
  go_enter Tryz.func129, Tryz.ntmps129
  go_upto_region 4 with fail
  clear y0 y1 y2 y3
  generalize (w.alloc (.cells #[.int .i64 0, .int .u64 0, .int .u64 0, .int .i64 0] 76)).alloc (.cells #[.int .i64 c0.sg, .int .u64 (ohV c0), .int .u64 (olV c0), .int .i64 c0.un] 76) = u0 at *
  obtain ⟨K, hK⟩ : ∃ K, w.heap.size = K := ⟨_, rfl⟩
  have HK := hideR hK
  rw [hK] at HS HP hb ⊢
  clear hK
  go_wp2_with fail
  go_loopw [6] (fun iv wl => ∃ (k : Nat) (c : Co), k ≤ n ∧ iv = .int .i64 (k : Nat) ∧ HeldR (MSt w K C k c wl)) (fun iv _ => n + 1 - (intOf iv).toNat)
  case atStart => exact ⟨1, c0, h0, rfl, HS⟩
  case round =>
    clear HS u0
    obtain ⟨k, c, hk, rfl, HS⟩ := hrel
    by_cases q : k < n
    case neg =>
      obtain rfl : k = n := by omega
      have ti : decide ((k : Int) < (k : Int)) = false := decide_eq_false (by omega)
      have tin : decide (k < k) = false := decide_eq_false (by omega)
      have m0 := (cells_at (unhideR HS).m 0 (by simp)).1
      have m1 := (cells_at (unhideR HS).m 1 (by simp)).1
      have m2 := (cells_at (unhideR HS).m 2 (by simp)).1
      have m3 := (cells_at (unhideR HS).m 3 (by simp)).1
      have r0 := (cells_at (unhideR HS).r 0 (by simp)).1
      have r1 := (cells_at (unhideR HS).r 1 (by simp)).1
      have r2 := (cells_at (unhideR HS).r 2 (by simp)).1
      have r3 := (cells_at (unhideR HS).r 3 (by simp)).1
      have f0 := (cells_at (unhideR HS).r 0 (by simp)).2
      have f1 := (cells_at (unhideR HS).r 1 (by simp)).2
      have f2 := (cells_at (unhideR HS).r 2 (by simp)).2
      have f3 := (cells_at (unhideR HS).r 3 (by simp)).2
      have o := set4_at4 (unhideR HS).r (.int .i64 c.sg) (.int .u64 (ohV c)) (.int .u64 (olV c)) (.int .i64 c.un)
      have o0 := (cells_at o 0 (by simp)).1
      have o1 := (cells_at o 1 (by simp)).1
      have o2 := (cells_at o 2 (by simp)).1
      have o3 := (cells_at o 3 (by simp)).1
      have HQ := hideR (unhideR HP c _ _ (by rw [unhideR Hn]; exact unhideR HS) (set4_bl4 (unhideR HS).lo (Nat.le_refl K) (.int .i64 c.sg) (.int .u64 (ohV c)) (.int .u64 (olV c)) (.int .i64 c.un)))
      clear o HS
      go_wp2
      simp [bodyPost, results, Tryz.results129, go_sem, o0, o1, o2, o3]
      exact unhideR HQ
    have ti : decide ((k : Int) < (n : Int)) = true := decide_eq_true (by omega)
    have tin : decide (k < n) = true := decide_eq_true q
    have wi : IntKind.i64.wrap ((k : Int) + 1) = (k : Int) + 1 := iwrap (by omega) (by omega)
    have hkn : (k : Int) < (n : Int) := by omega
    have hkl : k < C.length := by rw [unhideR Hn]; exact q
    have hcall := unhideR Hpc k hkl c (unhideR HS).mem
    have hcm := unhideR Hcm k c hkl (unhideR HS).mem
    have hat := unhideR Hx k hkl
    have HT : HeldR (∀ y, c.le (C.getD k co0) → y.heap[K]? = some (.cells #[.int .i64 0, .int .u64 0, .int .u64 0, .int .i64 0] 76) → y.heap[K + 1]? = some (.cells #[.int .i64 (C.getD k co0).sg, .int .u64 (ohV (C.getD k co0)), .int .u64 (olV (C.getD k co0)), .int .i64 (C.getD k co0).un] 76) → Below K w y → MSt w K C (k + 1) (C.getD k co0) y) := hideR (fun y q1 q2 q3 q4 => (unhideR HS).take hkl (unhideR HC) (by omega) q1 q2 q3 q4)
    have HU : HeldR (∀ y, Below wr.heap.size wr y → (C.getD k co0).le c → MSt w K C (k + 1) c y) := hideR (fun y q1 q2 => ((unhideR HS).below q1).keep q2)
    obtain ⟨g, hg⟩ : ∃ g, C.getD k co0 = g := ⟨_, rfl⟩
    rw [hg] at hcall hcm hat HT HU
    have hato : ∀ v, Below wr.heap.size wr v → CoAt v b (k * 4) g := fun v hv => by
      have hbl : Below K w v := (unhideR HS).lo.trans (hv.mono (by have := ltB (unhideR HS).r; omega))
      have bb := hbl.block b hb
      exact ⟨(World.cell?_of_block (a := ⟨b, k * 4, none⟩) bb).trans hat.c0, (World.cell?_of_block (a := ⟨b, k * 4 + 1, none⟩) bb).trans hat.c1, (World.cell?_of_block (a := ⟨b, k * 4 + 2, none⟩) bb).trans hat.c2, (World.cell?_of_block (a := ⟨b, k * 4 + 3, none⟩) bb).trans hat.c3⟩
    have hmo : ∀ v, Below wr.heap.size wr v → v.heap[K + 1]? = some (.cells #[.int .i64 c.sg, .int .u64 (ohV c), .int .u64 (olV c), .int .i64 c.un] 76) := fun v hv => ((unhideR HS).below hv).m
    have HM := hideR hmo
    have HA := hideR hato
    have HG := hideR hg
    generalize coCmp g c = z at *
    simp only [coV_is] at hcall
    clear hg hat hato hmo hkl
    go_upto_region 7 with fail
    refine wp_region_made 0 #[true, true, true, true, true, true, true, false] [.lets (· = .func (Fn.func 38) #[] #[]),
      .lets (· = .slice (some ⟨b, 0, none⟩) n cap),
      .lets (· = .int .i64 (k : Nat)),
      .lets (· = .pointer (some ⟨b, k * 4, none⟩)),
      .lets (· = .agg #[.int .i64 g.sg, .int .u64 (ohV g), .int .u64 (olV g), .int .i64 g.un]),
      .lets (· = .agg #[.int .i64 c.sg, .int .u64 (ohV c), .int .u64 (olV c), .int .i64 c.un]),
      .lets (· = .int .i64 z)] [] [] (by kernel_rfl) (by kernel_rfl) rfl ?kinds (by kernel_rfl) (by kernel_rfl) (by kernel_rfl) ?_
    case kinds =>
      constructor
      · intro i h
        rcases i with _ | _ | _ | _ | _ | _ | _ | i <;> simp [Kx.isMade] at h
      · intro i h
        rcases i with _ | _ | _ | _ | _ | _ | _ | i <;> simp [Kx.isUse] at h
    refine lexX_step (fun K hK => ⟨by kernel_rfl, ⟨_, rfl⟩, fun v hv => ?_, fun v hv => ?_⟩)
    · go_simp
      exact mUpon_b
    subst hv
    go_simp
    refine hK _ ?_
    clear hK K
    refine lexX_step (fun K hK => ⟨by kernel_rfl, ⟨_, rfl⟩, fun v hv => ?_, fun v hv => ?_⟩)
    · go_simp
      exact mUpon_b
    subst hv
    go_simp
    refine hK _ ?_
    clear hK K
    refine lexX_step (fun K hK => ⟨by kernel_rfl, ⟨_, rfl⟩, fun v hv => ?_, fun v hv => ?_⟩)
    · go_simp
      exact mUpon_b
    subst hv
    go_simp
    refine hK _ ?_
    clear hK K
    refine lexX_step (fun K hK => ⟨by kernel_rfl, ⟨_, rfl⟩, fun v hv => ?_, fun v hv => ?_⟩)
    · go_simp
      exact mUpon_b
    subst hv
    go_simp
    refine hK _ ?_
    clear hK K
    refine lexX_step (fun K hK => ⟨by kernel_rfl, ⟨_, rfl⟩, fun v hv => ?_, fun v hv => ?_⟩)
    · obtain ⟨a0, a1, a2, a3⟩ := unhideR HA v hv
      go_simp
      exact mUpon_b
    subst hv
    go_simp
    refine hK _ ?_
    clear hK K
    refine lexX_step (fun K hK => ⟨by kernel_rfl, ⟨_, rfl⟩, fun v hv => ?_, fun v hv => ?_⟩)
    · have a0 := (cells_at (unhideR HM v hv) 0 (by simp)).1
      have a1 := (cells_at (unhideR HM v hv) 1 (by simp)).1
      have a2 := (cells_at (unhideR HM v hv) 2 (by simp)).1
      have a3 := (cells_at (unhideR HM v hv) 3 (by simp)).1
      go_simp
      exact mUpon_b
    subst hv
    go_simp
    refine hK _ ?_
    clear hK K
    refine lexX_step (fun K hK => ⟨by kernel_rfl, ⟨_, rfl⟩, fun v hv => ?_, fun v hv => ?_⟩)
    · go_simp
      refine (hcall v).mono ?_
      rintro e w9 ⟨rfl, k⟩
      exact ⟨_, rfl, rfl, k⟩
    subst hv
    go_simp
    refine hK _ ?_
    clear hK K
    refine lexX_end (fun v5 hv => ?_)
    have HV := hideR hv.low
    clear hv hcall
    refine wpAny_step (i := 7) (by kernel_rfl) rfl (by kernel_rfl) (fun K hK => ?_)
    unfold Oper.wp
    go_simp
    refine hK _ _ ?_
    clear hK K
    refine wpAny_end (by kernel_rfl) ?_
    have a := unhideR HA v5 (unhideR HV)
    obtain ⟨a0, a1, a2, a3⟩ := a
    have S5 := (unhideR HS).below (unhideR HV)
    have HS5 := hideR S5
    clear S5
    have fm0 := (cells_at (unhideR HS5).m 0 (by simp)).1
    have fm1 := (cells_at (unhideR HS5).m 1 (by simp)).1
    have fm2 := (cells_at (unhideR HS5).m 2 (by simp)).1
    have fm3 := (cells_at (unhideR HS5).m 3 (by simp)).1
    have ff0 := (cells_at (unhideR HS5).m 0 (by simp)).2
    have ff1 := (cells_at (unhideR HS5).m 1 (by simp)).2
    have ff2 := (cells_at (unhideR HS5).m 2 (by simp)).2
    have ff3 := (cells_at (unhideR HS5).m 3 (by simp)).2
    by_cases hz : 0 < z
    · have tz : decide (0 < z) = true := decide_eq_true hz
      have hle : c.le g := by
        rcases Co.le_total c g with q1 | q1
        · exact q1
        · exact absurd q1 (hcm.1 hz)
      have HQ := hideR (unhideR HT _ hle (by
          have e := (unhideR HS5).r
          rw [← e]
          exact set4_oth (by omega)) (set4_at4 (unhideR HS5).m (.int .i64 g.sg) (.int .u64 (ohV g)) (.int .u64 (olV g)) (.int .i64 g.un)) (set4_bl4 (unhideR HS5).lo (show K ≤ K + 1 by omega) (.int .i64 g.sg) (.int .u64 (ohV g)) (.int .u64 (olV g)) (.int .i64 g.un)))
      clear HT HU HA HM HS HS5 HV hcm
      go_wp2
      exact ⟨⟨k + 1, _, by omega, by go_num, HQ⟩, by simp [intOf]; omega⟩
    · have tz : decide (0 < z) = false := decide_eq_false hz
      have hle : g.le c := Classical.byContradiction (fun h => hz (hcm.2 h))
      have HQ := hideR (unhideR HU v5 (unhideR HV) hle)
      clear HT HU HA HM HS HS5 HV hcm
      go_wp2
      exact ⟨⟨k + 1, c, by omega, by go_num, HQ⟩, by simp [intOf]; omega⟩
end Go.Proofs.YtfonpobdnhifgamGreatDoor
