/-
  The corners of three points, by the sides across from them: the program's, by contract.
-/
import Derived.Test.YtkdmeclbnnjdgalDoorPdE
namespace Go.Proofs.YtkdmeclbnnjdgalDoor
open Go Go.RowKit Go.Shelf Go.Lib Go.Sort

set_option maxRecDepth 1000000 in
set_option maxHeartbeats 4000000 in
theorem stable3_any {k : Nat} (zE : ∀ w, (Go.sizeOf 84).run Tryd.prog w = .ok k w) {w0 w : World} {blk cap : Nat} {p : Nat → Cor} (R : Row0 k w0 blk 3) (S : Srt k w0 blk 3 p w) :
    Calls Tryd.prog 88 #[.slice (some ⟨blk, 0, none⟩) 3 cap, .int .i64 3, .func (.func 65) #[] #[]] w fun e w' => e = .returned (.tuple #[]) ∧ Srt k w0 blk 3 (insF 2 (insF 1 p)) w' := by
  have hi := insert3_any zE (cap := cap) R S
  have HT : HeldR True := hideR trivial
  clear R S zE
  go_enter Tryd.func88, Tryd.ntmps88
  go_wp2
  go_loopw [7, 8] (fun av bv wl => av = .int .i64 0 ∧ bv = .int .i64 20 ∧ wl = w) (fun _ _ _ => 0)
  case atStart => exact ⟨rfl, rfl, rfl⟩
  case round =>
    obtain ⟨rfl, rfl, rfl⟩ := hrel
    go_wp2_with fail
    refine hi.mono ?_
    rintro e w2 ⟨rfl, S2⟩
    have HS2 := hideR S2
    clear S2 hi
    go_wp2
    go_loopw [6] (fun sv wl => sv = .int .i64 20 ∧ wl = w2) (fun _ _ => 0)
    case atStart => exact ⟨rfl, rfl⟩
    case round =>
      obtain ⟨rfl, rfl⟩ := hrel
      go_wp2
      go_end0
      exact ⟨rfl, unhideR HS2⟩
set_option maxRecDepth 1000000 in
set_option maxHeartbeats 4000000 in
theorem sorts3_any {k : Nat} (zE : ∀ w, (Go.sizeOf 84).run Tryd.prog w = .ok k w) {w0 w : World} {blk : Nat} {p : Nat → Cor} (R : Row0 k w0 blk 3) (S : Srt k w0 blk 3 p w) :
    Calls Tryd.prog 64 #[.slice (some ⟨blk, 0, none⟩) 3 3, .func (.func 65) #[] #[]] w fun e w' => e = .returned (.tuple #[]) ∧ Srt k w0 blk 3 (insF 2 (insF 1 p)) w' := by
  have hi := stable3_any zE (cap := 3) R S
  clear R S zE
  go_enter Tryd.func64, Tryd.ntmps64
  go_wp2_with fail
  refine hi.mono ?_
  rintro e w2 ⟨rfl, S2⟩
  have HS2 := hideR S2
  clear S2 hi
  go_wp2
  go_end0
  exact ⟨rfl, unhideR HS2⟩
/-- fifteen numbers of three corners. -/
def cells3 (a b c : Cor) : Array Value := (encC a ++ encC b ++ encC c).toArray
def tri3 (a b c : Cor) : Nat → Cor := pa #[a, b, c]
theorem row3_start {w : World} {g : Nat} {a b c : Cor} (h : w.heap[g]? = some (.cells (cells3 a b c) 85)) : Row0 5 w g 3 ∧ Srt 5 w g 3 (tri3 a b c) w := by
  have hlt : g < w.heap.size := (Array.getElem?_eq_some_iff.1 h).1
  have hH : HoldsK encC 5 w g 0 #[a, b, c] := by
    intro j hj
    have hj2 : j < 15 := by simpa using hj
    have q := cells_at h j (by simpa [cells3, encC] using hj2)
    rw [Nat.zero_add]
    refine ⟨q.1.trans ?_, q.2⟩
    rw [get_flatK _ _ _ _ (by simpa using hj2)]
    rcases (show j = 0 ∨ j = 1 ∨ j = 2 ∨ j = 3 ∨ j = 4 ∨ j = 5 ∨ j = 6 ∨ j = 7 ∨ j = 8 ∨ j = 9 ∨ j = 10 ∨ j = 11 ∨ j = 12 ∨ j = 13 ∨ j = 14 by omega) with rfl | rfl | rfl | rfl | rfl | rfl | rfl | rfl | rfl | rfl | rfl | rfl | rfl | rfl | rfl <;> rfl
  exact ⟨⟨_, rfl, encC_len, encC_one, hH, hlt⟩, _, rfl, rfl, SWK.start hH⟩
theorem sort3_below (w : World) (g n B : Nat) (d : Array Cor) (os : Array Obj) (hB : B ≤ g) (hg : g < w.heap.size) : Below B w (sortWorldK encC 5 w g 0 n d os) := by
  refine ⟨rfl, rfl, rfl, ?_, fun k hk => ?_⟩
  · simp [sortWorldK, grow, putRowK]
  · simp only [sortWorldK, grow, putRowK, putRow, mapBlock, heap_ahead]
    rw [Array.getElem?_append_left (by simp; omega), Array.getElem?_modify, if_neg (by omega)]
theorem row3_end {w v : World} {g : Nat} {q : Nat → Cor} (R : Row0 5 w g 3) (S : Srt 5 w g 3 q v) : (∀ j, j < 15 → v.cell? ⟨g, j, none⟩ = (cells3 (q 0) (q 1) (q 2))[j]?) ∧ Below g w v := by
  obtain ⟨d0, hd0, R⟩ := R
  obtain ⟨d, hd, hp, S⟩ := S
  have hH := S.holds R.hblk R.hH (by omega)
  constructor
  · intro j hj
    have h1 := (hH j (by rw [size_flatK]; omega)).1
    rw [get_flatK _ _ _ _ (by omega), Nat.zero_add] at h1
    rw [h1, ← hp]
    rcases (show j = 0 ∨ j = 1 ∨ j = 2 ∨ j = 3 ∨ j = 4 ∨ j = 5 ∨ j = 6 ∨ j = 7 ∨ j = 8 ∨ j = 9 ∨ j = 10 ∨ j = 11 ∨ j = 12 ∨ j = 13 ∨ j = 14 by omega) with rfl | rfl | rfl | rfl | rfl | rfl | rfl | rfl | rfl | rfl | rfl | rfl | rfl | rfl | rfl <;> rfl
  · obtain ⟨n, os, rfl⟩ := S
    exact sort3_below w g n g d os (Nat.le_refl _) R.hblk
set_option maxRecDepth 100000 in
set_option maxHeartbeats 1600000 in
theorem across0_any (p0 p1 p2 : Pt) {w : World} {g : Nat} (z1 : w.heap[g]? = some (.cells #[.int .i64 p0.x, .int .i64 p0.y, .int .i64 p0.z, .int .i64 p1.x, .int .i64 p1.y, .int .i64 p1.z, .int .i64 p2.x, .int .i64 p2.y, .int .i64 p2.z] 87)) (_h0 : isPtB p0 = true) (h1 : isPtB p1 = true) (h2 : isPtB p2 = true) :
    Calls Tryd.prog 62 #[.int .i64 0, .pointer (some ⟨g, 0, none⟩)] w fun e w' => e = .returned (.int .i64 (btw p1 p2)) ∧ Below w.heap.size w w' := by
  have hs := fun u => square_any p1 p2 u h1 h2
  generalize btw p1 p2 = D at *
  unfold Pt.val at *
  clear h1 h2
  go_enter Tryd.func62, Tryd.ntmps62
  go_upto_region 1 with fail
  refine wp_region_made 0 #[true, true, true, true, true, true, true, true, true, true, true, false] [.lets (· = .int .i64 0),
    .lets (· = .int .i64 1),
    .lets (· = .int .i64 1),
    .lets (· = .pointer (some ⟨g, 3, none⟩)),
    .lets (· = .agg #[.int .i64 p1.x, .int .i64 p1.y, .int .i64 p1.z]),
    .lets (· = .int .i64 0),
    .lets (· = .int .i64 2),
    .lets (· = .int .i64 2),
    .lets (· = .pointer (some ⟨g, 6, none⟩)),
    .lets (· = .agg #[.int .i64 p2.x, .int .i64 p2.y, .int .i64 p2.z]),
    .lets (· = .int .i64 D)] [] [] (by kernel_rfl) (by kernel_rfl) rfl ?kinds (by kernel_rfl) (by kernel_rfl) (by kernel_rfl) ?_
  case kinds =>
    constructor
    · intro i h
      rcases i with _ | _ | _ | _ | _ | _ | _ | _ | _ | _ | _ | i <;> simp [Kx.isMade] at h
    · intro i h
      rcases i with _ | _ | _ | _ | _ | _ | _ | _ | _ | _ | _ | i <;> simp [Kx.isUse] at h
  refine lexX_step (fun K hK => ⟨by kernel_rfl, ⟨_, rfl⟩, fun v hv => ?_, fun v hv => ?_⟩)
  · go_simp
    exact mUpon_b
  subst hv
  go_simp
  refine hK _ ?_
  clear hK K
  refine lexX_step (fun K hK => ⟨by kernel_rfl, ⟨_, rfl⟩, fun v hv => ?_, fun v hv => ?_⟩)
  · go_simp
    exact mUpon_b
  subst hv
  go_simp
  refine hK _ ?_
  clear hK K
  refine lexX_step (fun K hK => ⟨by kernel_rfl, ⟨_, rfl⟩, fun v hv => ?_, fun v hv => ?_⟩)
  · go_simp
    exact mUpon_b
  subst hv
  go_simp
  refine hK _ ?_
  clear hK K
  refine lexX_step (fun K hK => ⟨by kernel_rfl, ⟨_, rfl⟩, fun v hv => ?_, fun v hv => ?_⟩)
  · go_simp
    exact mUpon_b
  subst hv
  go_simp
  refine hK _ ?_
  clear hK K
  refine lexX_step (fun K hK => ⟨by kernel_rfl, ⟨_, rfl⟩, fun v hv => ?_, fun v hv => ?_⟩)
  · have q9 := keepB z1 hv
    have q0 := (cells_at q9 3 (by simp)).1
    have q1 := (cells_at q9 4 (by simp)).1
    have q2 := (cells_at q9 5 (by simp)).1
    go_simp
    exact mUpon_b
  subst hv
  go_simp
  refine hK _ ?_
  clear hK K
  refine lexX_step (fun K hK => ⟨by kernel_rfl, ⟨_, rfl⟩, fun v hv => ?_, fun v hv => ?_⟩)
  · go_simp
    exact mUpon_b
  subst hv
  go_simp
  refine hK _ ?_
  clear hK K
  refine lexX_step (fun K hK => ⟨by kernel_rfl, ⟨_, rfl⟩, fun v hv => ?_, fun v hv => ?_⟩)
  · go_simp
    exact mUpon_b
  subst hv
  go_simp
  refine hK _ ?_
  clear hK K
  refine lexX_step (fun K hK => ⟨by kernel_rfl, ⟨_, rfl⟩, fun v hv => ?_, fun v hv => ?_⟩)
  · go_simp
    exact mUpon_b
  subst hv
  go_simp
  refine hK _ ?_
  clear hK K
  refine lexX_step (fun K hK => ⟨by kernel_rfl, ⟨_, rfl⟩, fun v hv => ?_, fun v hv => ?_⟩)
  · go_simp
    exact mUpon_b
  subst hv
  go_simp
  refine hK _ ?_
  clear hK K
  refine lexX_step (fun K hK => ⟨by kernel_rfl, ⟨_, rfl⟩, fun v hv => ?_, fun v hv => ?_⟩)
  · have q9 := keepB z1 hv
    have q0 := (cells_at q9 6 (by simp)).1
    have q1 := (cells_at q9 7 (by simp)).1
    have q2 := (cells_at q9 8 (by simp)).1
    go_simp
    exact mUpon_b
  subst hv
  go_simp
  refine hK _ ?_
  clear hK K
  refine lexX_step (fun K hK => ⟨by kernel_rfl, ⟨_, rfl⟩, fun v hv => ?_, fun v hv => ?_⟩)
  · go_simp
    refine (hs _).mono ?_
    rintro e w9 ⟨rfl, k⟩
    exact ⟨_, rfl, rfl, k⟩
  subst hv
  go_simp
  refine hK _ ?_
  clear hK K
  refine lexX_end (fun v5 hv => ?_)
  have k5 := hv.low
  clear hv hs
  refine wpAny_step (i := 11) (by kernel_rfl) rfl (by kernel_rfl) (fun K hK => ?_)
  unfold Oper.wp
  go_simp
  refine hK _ _ ?_
  clear hK K
  refine wpAny_end (by kernel_rfl) ?_
  clear z1
  go_wp2
  go_ret
  exact ⟨rfl, k5⟩
set_option maxRecDepth 100000 in
set_option maxHeartbeats 1600000 in
theorem across1_any (p0 p1 p2 : Pt) {w : World} {g : Nat} (z1 : w.heap[g]? = some (.cells #[.int .i64 p0.x, .int .i64 p0.y, .int .i64 p0.z, .int .i64 p1.x, .int .i64 p1.y, .int .i64 p1.z, .int .i64 p2.x, .int .i64 p2.y, .int .i64 p2.z] 87)) (h0 : isPtB p0 = true) (_h1 : isPtB p1 = true) (h2 : isPtB p2 = true) :
    Calls Tryd.prog 62 #[.int .i64 1, .pointer (some ⟨g, 0, none⟩)] w fun e w' => e = .returned (.int .i64 (btw p2 p0)) ∧ Below w.heap.size w w' := by
  have hs := fun u => square_any p2 p0 u h2 h0
  generalize btw p2 p0 = D at *
  unfold Pt.val at *
  clear h0 h2
  go_enter Tryd.func62, Tryd.ntmps62
  go_upto_region 1 with fail
  refine wp_region_made 0 #[true, true, true, true, true, true, true, true, true, true, true, false] [.lets (· = .int .i64 1),
    .lets (· = .int .i64 2),
    .lets (· = .int .i64 2),
    .lets (· = .pointer (some ⟨g, 6, none⟩)),
    .lets (· = .agg #[.int .i64 p2.x, .int .i64 p2.y, .int .i64 p2.z]),
    .lets (· = .int .i64 1),
    .lets (· = .int .i64 3),
    .lets (· = .int .i64 0),
    .lets (· = .pointer (some ⟨g, 0, none⟩)),
    .lets (· = .agg #[.int .i64 p0.x, .int .i64 p0.y, .int .i64 p0.z]),
    .lets (· = .int .i64 D)] [] [] (by kernel_rfl) (by kernel_rfl) rfl ?kinds (by kernel_rfl) (by kernel_rfl) (by kernel_rfl) ?_
  case kinds =>
    constructor
    · intro i h
      rcases i with _ | _ | _ | _ | _ | _ | _ | _ | _ | _ | _ | i <;> simp [Kx.isMade] at h
    · intro i h
      rcases i with _ | _ | _ | _ | _ | _ | _ | _ | _ | _ | _ | i <;> simp [Kx.isUse] at h
  refine lexX_step (fun K hK => ⟨by kernel_rfl, ⟨_, rfl⟩, fun v hv => ?_, fun v hv => ?_⟩)
  · go_simp
    exact mUpon_b
  subst hv
  go_simp
  refine hK _ ?_
  clear hK K
  refine lexX_step (fun K hK => ⟨by kernel_rfl, ⟨_, rfl⟩, fun v hv => ?_, fun v hv => ?_⟩)
  · go_simp
    exact mUpon_b
  subst hv
  go_simp
  refine hK _ ?_
  clear hK K
  refine lexX_step (fun K hK => ⟨by kernel_rfl, ⟨_, rfl⟩, fun v hv => ?_, fun v hv => ?_⟩)
  · go_simp
    exact mUpon_b
  subst hv
  go_simp
  refine hK _ ?_
  clear hK K
  refine lexX_step (fun K hK => ⟨by kernel_rfl, ⟨_, rfl⟩, fun v hv => ?_, fun v hv => ?_⟩)
  · go_simp
    exact mUpon_b
  subst hv
  go_simp
  refine hK _ ?_
  clear hK K
  refine lexX_step (fun K hK => ⟨by kernel_rfl, ⟨_, rfl⟩, fun v hv => ?_, fun v hv => ?_⟩)
  · have q9 := keepB z1 hv
    have q0 := (cells_at q9 6 (by simp)).1
    have q1 := (cells_at q9 7 (by simp)).1
    have q2 := (cells_at q9 8 (by simp)).1
    go_simp
    exact mUpon_b
  subst hv
  go_simp
  refine hK _ ?_
  clear hK K
  refine lexX_step (fun K hK => ⟨by kernel_rfl, ⟨_, rfl⟩, fun v hv => ?_, fun v hv => ?_⟩)
  · go_simp
    exact mUpon_b
  subst hv
  go_simp
  refine hK _ ?_
  clear hK K
  refine lexX_step (fun K hK => ⟨by kernel_rfl, ⟨_, rfl⟩, fun v hv => ?_, fun v hv => ?_⟩)
  · go_simp
    exact mUpon_b
  subst hv
  go_simp
  refine hK _ ?_
  clear hK K
  refine lexX_step (fun K hK => ⟨by kernel_rfl, ⟨_, rfl⟩, fun v hv => ?_, fun v hv => ?_⟩)
  · go_simp
    exact mUpon_b
  subst hv
  go_simp
  refine hK _ ?_
  clear hK K
  refine lexX_step (fun K hK => ⟨by kernel_rfl, ⟨_, rfl⟩, fun v hv => ?_, fun v hv => ?_⟩)
  · go_simp
    exact mUpon_b
  subst hv
  go_simp
  refine hK _ ?_
  clear hK K
  refine lexX_step (fun K hK => ⟨by kernel_rfl, ⟨_, rfl⟩, fun v hv => ?_, fun v hv => ?_⟩)
  · have q9 := keepB z1 hv
    have q0 := (cells_at q9 0 (by simp)).1
    have q1 := (cells_at q9 1 (by simp)).1
    have q2 := (cells_at q9 2 (by simp)).1
    go_simp
    exact mUpon_b
  subst hv
  go_simp
  refine hK _ ?_
  clear hK K
  refine lexX_step (fun K hK => ⟨by kernel_rfl, ⟨_, rfl⟩, fun v hv => ?_, fun v hv => ?_⟩)
  · go_simp
    refine (hs _).mono ?_
    rintro e w9 ⟨rfl, k⟩
    exact ⟨_, rfl, rfl, k⟩
  subst hv
  go_simp
  refine hK _ ?_
  clear hK K
  refine lexX_end (fun v5 hv => ?_)
  have k5 := hv.low
  clear hv hs
  refine wpAny_step (i := 11) (by kernel_rfl) rfl (by kernel_rfl) (fun K hK => ?_)
  unfold Oper.wp
  go_simp
  refine hK _ _ ?_
  clear hK K
  refine wpAny_end (by kernel_rfl) ?_
  clear z1
  go_wp2
  go_ret
  exact ⟨rfl, k5⟩
set_option maxRecDepth 100000 in
set_option maxHeartbeats 1600000 in
theorem across2_any (p0 p1 p2 : Pt) {w : World} {g : Nat} (z1 : w.heap[g]? = some (.cells #[.int .i64 p0.x, .int .i64 p0.y, .int .i64 p0.z, .int .i64 p1.x, .int .i64 p1.y, .int .i64 p1.z, .int .i64 p2.x, .int .i64 p2.y, .int .i64 p2.z] 87)) (h0 : isPtB p0 = true) (h1 : isPtB p1 = true) (_h2 : isPtB p2 = true) :
    Calls Tryd.prog 62 #[.int .i64 2, .pointer (some ⟨g, 0, none⟩)] w fun e w' => e = .returned (.int .i64 (btw p0 p1)) ∧ Below w.heap.size w w' := by
  have hs := fun u => square_any p0 p1 u h0 h1
  generalize btw p0 p1 = D at *
  unfold Pt.val at *
  clear h0 h1
  go_enter Tryd.func62, Tryd.ntmps62
  go_upto_region 1 with fail
  refine wp_region_made 0 #[true, true, true, true, true, true, true, true, true, true, true, false] [.lets (· = .int .i64 2),
    .lets (· = .int .i64 3),
    .lets (· = .int .i64 0),
    .lets (· = .pointer (some ⟨g, 0, none⟩)),
    .lets (· = .agg #[.int .i64 p0.x, .int .i64 p0.y, .int .i64 p0.z]),
    .lets (· = .int .i64 2),
    .lets (· = .int .i64 4),
    .lets (· = .int .i64 1),
    .lets (· = .pointer (some ⟨g, 3, none⟩)),
    .lets (· = .agg #[.int .i64 p1.x, .int .i64 p1.y, .int .i64 p1.z]),
    .lets (· = .int .i64 D)] [] [] (by kernel_rfl) (by kernel_rfl) rfl ?kinds (by kernel_rfl) (by kernel_rfl) (by kernel_rfl) ?_
  case kinds =>
    constructor
    · intro i h
      rcases i with _ | _ | _ | _ | _ | _ | _ | _ | _ | _ | _ | i <;> simp [Kx.isMade] at h
    · intro i h
      rcases i with _ | _ | _ | _ | _ | _ | _ | _ | _ | _ | _ | i <;> simp [Kx.isUse] at h
  refine lexX_step (fun K hK => ⟨by kernel_rfl, ⟨_, rfl⟩, fun v hv => ?_, fun v hv => ?_⟩)
  · go_simp
    exact mUpon_b
  subst hv
  go_simp
  refine hK _ ?_
  clear hK K
  refine lexX_step (fun K hK => ⟨by kernel_rfl, ⟨_, rfl⟩, fun v hv => ?_, fun v hv => ?_⟩)
  · go_simp
    exact mUpon_b
  subst hv
  go_simp
  refine hK _ ?_
  clear hK K
  refine lexX_step (fun K hK => ⟨by kernel_rfl, ⟨_, rfl⟩, fun v hv => ?_, fun v hv => ?_⟩)
  · go_simp
    exact mUpon_b
  subst hv
  go_simp
  refine hK _ ?_
  clear hK K
  refine lexX_step (fun K hK => ⟨by kernel_rfl, ⟨_, rfl⟩, fun v hv => ?_, fun v hv => ?_⟩)
  · go_simp
    exact mUpon_b
  subst hv
  go_simp
  refine hK _ ?_
  clear hK K
  refine lexX_step (fun K hK => ⟨by kernel_rfl, ⟨_, rfl⟩, fun v hv => ?_, fun v hv => ?_⟩)
  · have q9 := keepB z1 hv
    have q0 := (cells_at q9 0 (by simp)).1
    have q1 := (cells_at q9 1 (by simp)).1
    have q2 := (cells_at q9 2 (by simp)).1
    go_simp
    exact mUpon_b
  subst hv
  go_simp
  refine hK _ ?_
  clear hK K
  refine lexX_step (fun K hK => ⟨by kernel_rfl, ⟨_, rfl⟩, fun v hv => ?_, fun v hv => ?_⟩)
  · go_simp
    exact mUpon_b
  subst hv
  go_simp
  refine hK _ ?_
  clear hK K
  refine lexX_step (fun K hK => ⟨by kernel_rfl, ⟨_, rfl⟩, fun v hv => ?_, fun v hv => ?_⟩)
  · go_simp
    exact mUpon_b
  subst hv
  go_simp
  refine hK _ ?_
  clear hK K
  refine lexX_step (fun K hK => ⟨by kernel_rfl, ⟨_, rfl⟩, fun v hv => ?_, fun v hv => ?_⟩)
  · go_simp
    exact mUpon_b
  subst hv
  go_simp
  refine hK _ ?_
  clear hK K
  refine lexX_step (fun K hK => ⟨by kernel_rfl, ⟨_, rfl⟩, fun v hv => ?_, fun v hv => ?_⟩)
  · go_simp
    exact mUpon_b
  subst hv
  go_simp
  refine hK _ ?_
  clear hK K
  refine lexX_step (fun K hK => ⟨by kernel_rfl, ⟨_, rfl⟩, fun v hv => ?_, fun v hv => ?_⟩)
  · have q9 := keepB z1 hv
    have q0 := (cells_at q9 3 (by simp)).1
    have q1 := (cells_at q9 4 (by simp)).1
    have q2 := (cells_at q9 5 (by simp)).1
    go_simp
    exact mUpon_b
  subst hv
  go_simp
  refine hK _ ?_
  clear hK K
  refine lexX_step (fun K hK => ⟨by kernel_rfl, ⟨_, rfl⟩, fun v hv => ?_, fun v hv => ?_⟩)
  · go_simp
    refine (hs _).mono ?_
    rintro e w9 ⟨rfl, k⟩
    exact ⟨_, rfl, rfl, k⟩
  subst hv
  go_simp
  refine hK _ ?_
  clear hK K
  refine lexX_end (fun v5 hv => ?_)
  have k5 := hv.low
  clear hv hs
  refine wpAny_step (i := 11) (by kernel_rfl) rfl (by kernel_rfl) (fun K hK => ?_)
  unfold Oper.wp
  go_simp
  refine hK _ _ ?_
  clear hK K
  refine wpAny_end (by kernel_rfl) ?_
  clear z1
  go_wp2
  go_ret
  exact ⟨rfl, k5⟩
end Go.Proofs.YtkdmeclbnnjdgalDoor
