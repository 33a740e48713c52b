/-
  An empty picture like another.
-/
import Derived.Test.YtncbmkflilcdgahDoorDF3
import Derived.Test.YtncbmkflilcdgahDoorFrSm0
import Derived.Laws.OwnMore
namespace Go.Proofs.YtncbmkflilcdgahDoor
open Go Go.RowKit

theorem cell_in {w : World} {g : Nat} {cs : Array Value} {ty : TypeId} (h : w.heap[g]? = some (.cells cs ty)) (k : Nat) (hk : k < cs.size) : w.cell? ⟨g, k, none⟩ = some cs[k] ∧ w.frozen? ⟨g, k, none⟩ = false := by
  constructor
  · simp [World.cell?, h, hk]
  · simp [World.frozen?, h]
def SlZ (n : Nat) (v : Value) : Prop := ∃ g, v = .slice (some ⟨g, 0, none⟩) n n
def OwnZ (B n : Nat) (v : Value) (w : World) : Prop := w.ownsRow B 3 1 v n ((List.replicate n (0 : Int)).map (Value.int .i64))
theorem ownZ_stb (B n : Nat) (v : Value) : Stb (OwnZ B n v) := fun _ _ h k => own_below2 h k
theorem make_zero {w : World} {n : Nat} (B : Nat) (hB : B ≤ w.heap.size) (hn : n ≤ 65536) : ∃ w', (Instr.makeSlice 23 (.int .i64 (n : Int)) (.int .i64 (n : Int))).run Tryd.prog w = .ok (.slice (some ⟨w.heap.size, 0, none⟩) n n) w' ∧ OwnZ B n (.slice (some ⟨w.heap.size, 0, none⟩) n n) w' ∧ Below w.heap.size w w' := by
  obtain ⟨i0, hi0, hz0, hz1, hz2⟩ := info_parts infoI
  obtain ⟨w', h1, h2, h3⟩ := run_make_full (P := Tryd.prog) w B 23 3 i0 (.int .i64 0) 1 (by kernel_rfl) hi0 hz0 hz1 .i64 .i64 n (by rw [hz2]; omega) (by simp [maxLen]; omega) hB
  refine ⟨w', h1, ?_, (Below.refl _ _).grown h3 (Nat.le_refl _) (fun k hk => by cases hk)⟩
  unfold OwnZ
  have e : (madeCells (Value.cells (.int .i64 0)) (n * 1)).toList = (List.replicate n (0 : Int)).map (Value.int .i64) := by
    rw [Nat.mul_one, show (Value.cells (.int .i64 0)) = #[.int .i64 0] from rfl, toList_madeCells_one, List.map_replicate]
  rw [← e]
  exact h2
theorem own_low {w : World} {B C n s : Nat} {e : TypeId} {v : Value} {xs : List Value} (h : w.ownsRow B e s v n xs) (hb : C ≤ B) : w.ownsRow C e s v n xs := by
  obtain ⟨h1, h2⟩ := h
  refine ⟨h1, ?_⟩
  rcases h2 with h2 | ⟨g, cap, cur, hv, hg, hh⟩
  · exact Or.inl h2
  · exact Or.inr ⟨g, cap, cur, hv, Nat.le_trans hb hg, hh⟩
def EmptyPost (W H : Int) (n : Nat) (w : World) (e : Ending) (w' : World) : Prop := ∃ g, e = .returned (.agg #[.int .i64 W, .int .i64 H, .slice (some ⟨g, 0, none⟩) n n]) ∧ OwnZ w.heap.size n (.slice (some ⟨g, 0, none⟩) n n) w' ∧ Below w.heap.size w w'
theorem three_set {w : World} {g : Nat} {x0 x1 x2 y0 y1 y2 : Value} {ty : TypeId} (h : w.heap[g]? = some (.cells #[x0, x1, x2] ty)) : (((w.setCell ⟨g, 0, none⟩ y0).setCell ⟨g, 1, none⟩ y1).setCell ⟨g, 2, none⟩ y2).heap[g]? = some (.cells #[y0, y1, y2] ty) := by
  have h1 := heap_setCell_same w g 0 _ _ y0 h
  have h2 := heap_setCell_same _ g 1 _ _ y1 h1
  have h3 := heap_setCell_same _ g 2 _ _ y2 h2
  exact h3
theorem three_below {w u : World} {B g : Nat} {y0 y1 y2 : Value} (h : Below B w u) (hg : B ≤ g) : Below B w (((u.setCell ⟨g, 0, none⟩ y0).setCell ⟨g, 1, none⟩ y1).setCell ⟨g, 2, none⟩ y2) := ((h.setCell (by simpa using hg) _).setCell (by simpa using hg) _).setCell (by simpa using hg) _
theorem three_own {w : World} {B g n s : Nat} {e : TypeId} {v : Value} {xs : List Value} {y0 y1 y2 : Value} (h : w.ownsRow B e s v n xs) (hg : g < B) : (((w.setCell ⟨g, 0, none⟩ y0).setCell ⟨g, 1, none⟩ y1).setCell ⟨g, 2, none⟩ y2).ownsRow B e s v n xs :=
  ownsRow_setCell_below (ownsRow_setCell_below (ownsRow_setCell_below h (by simpa using hg) _) (by simpa using hg) _) (by simpa using hg) _
set_option maxRecDepth 100000 in
set_option maxHeartbeats 1600000 in
theorem empty_any (W H : Int) (ad : Option Addr) (n cap : Nat) (w : World) (hn : n ≤ 65536) : Calls Tryd.prog 107 #[.agg #[.int .i64 W, .int .i64 H, .slice ad n cap]] w (EmptyPost W H n w) := by
  have HG := hideR (alloc_last w (.cells #[.int .i64 W, .int .i64 H, .slice ad n cap] 94))
  have HB := hideR (below_a w (.cells #[.int .i64 W, .int .i64 H, .slice ad n cap] 94))
  go_enter Tryd.func107, Tryd.ntmps107
  go_wp2_with fail
  replace HG := hideR (keepA (o' := .cells #[.int .i64 0, .int .i64 0, .slice none 0 0] 94) (unhideR HG))
  replace HB := hideR (below_go (unhideR HB) (below_a _ (.cells #[.int .i64 0, .int .i64 0, .slice none 0 0] 94)))
  have HC := hideR (alloc_last (w.alloc (.cells #[.int .i64 W, .int .i64 H, .slice ad n cap] 94)) (.cells #[.int .i64 0, .int .i64 0, .slice none 0 0] 94))
  have hsz : (w.alloc (.cells #[.int .i64 W, .int .i64 H, .slice ad n cap] 94)).heap.size = w.heap.size + 1 := by simp
  rw [hsz] at HC
  generalize (w.alloc (.cells #[.int .i64 W, .int .i64 H, .slice ad n cap] 94)).alloc (.cells #[.int .i64 0, .int .i64 0, .slice none 0 0] 94) = W0 at *
  clear hsz
  refine wp_region_made 1 #[true, true, true, true, true, true, true, true, false, false] [.lets (· = .pointer (some ⟨w.heap.size, 0, none⟩)),
    .lets (· = .int .i64 W),
    .lets (· = .pointer (some ⟨w.heap.size, 1, none⟩)),
    .lets (· = .int .i64 H),
    .lets (· = .pointer (some ⟨w.heap.size, 2, none⟩)),
    .lets (· = .slice ad n cap),
    .lets (· = .int .i64 (n : Nat)),
    .made (SlZ n) (OwnZ W0.heap.size n)] [7] [] (by kernel_rfl) (by kernel_rfl) rfl ?kinds (by kernel_rfl) (by kernel_rfl) (by kernel_rfl) ?_
  case kinds =>
    constructor
    · intro i h
      rcases i with _ | _ | _ | _ | _ | _ | _ | _ | i <;> simp [Kx.isMade] at h ⊢
    · intro i h
      rcases i with _ | _ | _ | _ | _ | _ | _ | _ | i <;> simp [Kx.isUse] at h
  refine lexX_step (fun K hK => ⟨by kernel_rfl, ⟨_, rfl⟩, fun v hv => ?_, fun v hv => ?_⟩)
  · go_simp
    exact mUpon_b
  subst hv
  go_simp
  refine hK _ ?_
  clear hK K
  refine lexX_step (fun K hK => ⟨by kernel_rfl, ⟨_, rfl⟩, fun v hv => ?_, fun v hv => ?_⟩)
  · obtain ⟨c0, c1, c2⟩ := pic_three (keepB (unhideR HG) hv)
    go_simp
    exact mUpon_b
  subst hv
  go_simp
  refine hK _ ?_
  clear hK K
  refine lexX_step (fun K hK => ⟨by kernel_rfl, ⟨_, rfl⟩, fun v hv => ?_, fun v hv => ?_⟩)
  · go_simp
    exact mUpon_b
  subst hv
  go_simp
  refine hK _ ?_
  clear hK K
  refine lexX_step (fun K hK => ⟨by kernel_rfl, ⟨_, rfl⟩, fun v hv => ?_, fun v hv => ?_⟩)
  · obtain ⟨c0, c1, c2⟩ := pic_three (keepB (unhideR HG) hv)
    go_simp
    exact mUpon_b
  subst hv
  go_simp
  refine hK _ ?_
  clear hK K
  refine lexX_step (fun K hK => ⟨by kernel_rfl, ⟨_, rfl⟩, fun v hv => ?_, fun v hv => ?_⟩)
  · go_simp
    exact mUpon_b
  subst hv
  go_simp
  refine hK _ ?_
  clear hK K
  refine lexX_step (fun K hK => ⟨by kernel_rfl, ⟨_, rfl⟩, fun v hv => ?_, fun v hv => ?_⟩)
  · obtain ⟨c0, c1, c2⟩ := pic_three (keepB (unhideR HG) hv)
    go_simp
    exact mUpon_b
  subst hv
  go_simp
  refine hK _ ?_
  clear hK K
  refine lexX_step (fun K hK => ⟨by kernel_rfl, ⟨_, rfl⟩, fun v hv => ?_, fun v hv => ?_⟩)
  · go_simp
    exact mUpon_b
  subst hv
  go_simp
  refine hK _ ?_
  clear hK K
  refine lexX_made ⟨by kernel_rfl, ⟨_, 0, rfl⟩, ownZ_stb _ _, fun v hv => ?_, ?_⟩
  · obtain ⟨v', hr, ho, hb⟩ := make_zero (n := n) W0.heap.size hv.size hn
    go_simp
    exact ⟨hb, ⟨_, rfl⟩, ho⟩
  rintro _ ⟨g, rfl⟩ K hK
  go_simp
  refine hK _ ?_
  clear hK K
  refine lexX_end (fun v5 hv => ?_)
  have HO := hideR hv.fact.2
  have HV := hideR hv.low
  have hc := keepB (unhideR HC) hv.low
  obtain ⟨q0, q1, q2⟩ := pic_three hc
  obtain ⟨z0, z1, z2⟩ := pic_open hc
  clear hv hc
  refine wpAny_step (i := 8) (by kernel_rfl) rfl (by kernel_rfl) (fun K hK => ?_)
  unfold Oper.wp
  go_simp
  refine hK _ _ ?_
  clear hK K
  refine wpAny_step (i := 9) (by kernel_rfl) rfl (by kernel_rfl) (fun K hK => ?_)
  unfold Oper.wp
  go_simp
  refine hK _ _ ?_
  clear hK K
  refine wpAny_end (by kernel_rfl) ?_
  have hc := three_set (y0 := .int .i64 W) (y1 := .int .i64 H) (y2 := .slice (some ⟨g, 0, none⟩) n n) (keepB (unhideR HC) (unhideR HV))
  have HO2 := hideR (three_own (y0 := .int .i64 W) (y1 := .int .i64 H) (y2 := .slice (some ⟨g, 0, none⟩) n n) (unhideR HO) (ltB (unhideR HC)))
  have HB2 := hideR (three_below (g := w.heap.size + 1) (y0 := .int .i64 W) (y1 := .int .i64 H) (y2 := .slice (some ⟨g, 0, none⟩) n n) (below_go (unhideR HB) (unhideR HV)) (by omega))
  clear q0 q1 q2 z0 z1 z2
  generalize ((v5.setCell ⟨w.heap.size + 1, 0, none⟩ (.int .i64 W)).setCell ⟨w.heap.size + 1, 1, none⟩ (.int .i64 H)).setCell ⟨w.heap.size + 1, 2, none⟩ (.slice (some ⟨g, 0, none⟩) n n) = u5 at *
  obtain ⟨q0, q1, q2⟩ := pic_three hc
  clear hc
  go_wp2
  simp [bodyPost, results, Tryd.results107, go_sem, q0, q1, q2]
  exact ⟨g, rfl, own_low (unhideR HO2) (unhideR HB).size, unhideR HB2⟩
end Go.Proofs.YtncbmkflilcdgahDoor
