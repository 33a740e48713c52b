/-
  The program's bodies: gains, differences, limits, by contracts.
-/
import Derived.Test.YtdngkmobkbiflagDoorKickP
import Derived.Test.YtdngkmobkbiflagDoorDPl
namespace Go.Proofs.YtdngkmobkbiflagDoor
open Go Go.RowKit

set_option maxHeartbeats 800000 in
theorem gain_any (a : Cl) (k : Int) (b : Cl) (w : World) (h : MoreOk a k b) : Calls Tryd.prog 40 #[.agg #[.int .i64 a.x, .int .i64 a.y, .int .i64 a.z], .int .i64 k, .agg #[.int .i64 b.x, .int .i64 b.y, .int .i64 b.z]] w fun e w' => e = .returned (a.add (Cl.mul k b)).val ∧ Below w.heap.size w w' := by
  obtain ⟨x1, x2, y1, y2, z1, z2⟩ := h
  go_enter Tryd.func40, Tryd.ntmps40
  go_wp2
  simp [bodyPost, results, Tryd.results40, go_sem]
  exact ⟨rfl, below_al3 w _ _ _⟩
def Bd.val (s : Bd) : Value := .agg #[.int .i64 s.at_.x, .int .i64 s.at_.y, .int .i64 s.at_.z, .int .i64 s.sp.x, .int .i64 s.sp.y, .int .i64 s.sp.z, .int .i64 s.m]
theorem less_ok {p q : Cl} (hp : p.In 3458764513822638080) (hq : q.In 3458764513822638080) : MoreOk p (-1) q := by
  obtain ⟨a1, a2, a3, a4, a5, a6⟩ := hp
  obtain ⟨b1, b2, b3, b4, b5, b6⟩ := hq
  exact ⟨by omega, by omega, by omega, by omega, by omega, by omega⟩
theorem less_is (p q : Cl) : p.add (Cl.mul (-1) q) = p.sub q := by
  unfold Cl.add Cl.mul Cl.sub
  refine Cl.ext' ?_ ?_ ?_
  · show p.x + -1 * q.x = p.x - q.x; omega
  · show p.y + -1 * q.y = p.y - q.y; omega
  · show p.z + -1 * q.z = p.z - q.z; omega
set_option maxHeartbeats 800000 in
theorem between_any (s t : Bd) (w : World) (hs : s.at_.In 3458764513822638080) (ht : t.at_.In 3458764513822638080) :
    Calls Tryd.prog 42 #[.agg #[.int .i64 s.at_.x, .int .i64 s.at_.y, .int .i64 s.at_.z, .int .i64 s.sp.x, .int .i64 s.sp.y, .int .i64 s.sp.z, .int .i64 s.m], .agg #[.int .i64 t.at_.x, .int .i64 t.at_.y, .int .i64 t.at_.z, .int .i64 t.sp.x, .int .i64 t.sp.y, .int .i64 t.sp.z, .int .i64 t.m]] w fun e w' => e = .returned (t.at_.sub s.at_).val ∧ Below w.heap.size w w' := by
  have hg := fun u => gain_any t.at_ (-1) s.at_ u (less_ok ht hs)
  rw [less_is] at hg
  generalize t.at_.sub s.at_ = D at *
  unfold Cl.val at hg ⊢
  clear hs ht
  go_enter Tryd.func42, Tryd.ntmps42
  go_wp2_with fail
  refine (hg _).mono ?_
  rintro e w1 ⟨rfl, k⟩
  obtain ⟨_, _, b2, k1⟩ := three_blocks k
  obtain ⟨⟨d0, d1, d2⟩, f0, f1, f2⟩ := cell_at b2
  have HW := hideR k1
  clear k k1 b2
  go_wp2
  simp [bodyPost, results, Tryd.results42, go_sem, d0, d1, d2]
  exact below_three (unhideR HW) (by omega) _ _ _
/-- a body in a block of its own. -/
theorem bat_blk {w : World} {b : Nat} {s : Bd} {ty : TypeId} (h : w.heap[b]? = some (.cells #[.int .i64 s.at_.x, .int .i64 s.at_.y, .int .i64 s.at_.z, .int .i64 s.sp.x, .int .i64 s.sp.y, .int .i64 s.sp.z, .int .i64 s.m] ty)) : BAt w b 0 s :=
  ⟨(cells_at h 0 (by simp)).1, (cells_at h 1 (by simp)).1, (cells_at h 2 (by simp)).1, (cells_at h 3 (by simp)).1, (cells_at h 4 (by simp)).1, (cells_at h 5 (by simp)).1, (cells_at h 6 (by simp)).1⟩
set_option maxRecDepth 100000 in
set_option maxHeartbeats 800000 in
theorem inLimits_any (ad : Option Addr) (cap : Nat) (L : List Bd) (w : World) (hr : BCame w ad L) (hl : L.length ≤ 9223372036854775807) :
    Calls Tryd.prog 26 #[.slice ad L.length cap] w fun e w' => e = .returned (.bool (ats L && sps L)) ∧ Below w.heap.size w w' := by
  obtain ⟨E, hE⟩ : ∃ E : Bool, (ats L && sps L) = E := ⟨_, rfl⟩
  rw [hE]
  have HE := hideR hE
  have HR := hideR hr
  clear hr hE
  go_enter Tryd.func26, Tryd.ntmps26
  go_wp2
  go_loopw [7] (fun kv wl => ∃ k : Nat, k ≤ L.length ∧ kv = .int .i64 (k : Nat) ∧ HeldR ((ats (L.take k) && sps (L.take k)) = true) ∧ HeldR (Below w.heap.size w wl)) (fun kv _ => L.length + 1 - (intOf kv).toNat)
  case atStart => exact ⟨0, by omega, rfl, hideR rfl, hideR (Below.refl _ _)⟩
  case round =>
    obtain ⟨k, hk, rfl, HM, HW⟩ := hrel
    by_cases hlt : k < L.length
    · obtain ⟨b, off, rfl, hb, hat⟩ := ((unhideR HR).below (unhideR HW)).at_ k hlt
      obtain ⟨c0, c1, c2, c3, c4, c5, c6⟩ := hat
      have ht := take_at hlt
      have HA : HeldR (ats (L.take (k + 1)) = (ats (L.take k) && decide ((L.getD k bd0).at_.In 1048576))) := by unfold ats; rw [ht, all_snoc]; rfl
      have HS : HeldR (sps (L.take (k + 1)) = (sps (L.take k) && decide ((L.getD k bd0).sp.In 1048576))) := by unfold sps; rw [ht, all_snoc]; rfl
      clear ht
      generalize L.getD k bd0 = s at *
      have hia := fun u => within_any s.at_ 1048576 u (by decide) (by decide)
      have hiq := fun u => within_any s.sp 1048576 u (by decide) (by decide)
      have hm1 : ats (L.take k) = true ∧ sps (L.take k) = true := by
        have := unhideR HM
        rwa [Bool.and_eq_true] at this
      have HX : HeldR ((ats (L.take (k + 1)) && sps (L.take (k + 1))) = (decide (s.at_.In 1048576) && decide (s.sp.In 1048576))) := by
        unfold HeldR
        rw [unhideR HA, unhideR HS, hm1.1, hm1.2]
        rfl
      have HN : HeldR ((ats (L.take (k + 1)) && sps (L.take (k + 1))) = false → E = false) := by
        intro e
        rw [← unhideR HE]
        cases e1 : ats L with
        | false => rfl
        | true =>
          cases e2 : sps L with
          | false => rfl
          | true =>
            have q1 := all_take (k + 1) e1
            have q2 := all_take (k + 1) e2
            unfold ats sps at e
            rw [q1, q2] at e
            cases e
      clear HA HS hm1 HM
      generalize decide (s.at_.In 1048576) = da at *
      generalize decide (s.sp.In 1048576) = dq at *
      cases da
      · have hE : E = false := unhideR HN ((unhideR HX).trans rfl)
        subst hE
        clear HX HN HE hiq
        go_wp2_with fail
        refine (hia _).mono ?_
        rintro e w1 ⟨rfl, k1⟩
        replace HW := hideR (below_go (below_go (unhideR HW) (below_a _ _)) k1)
        clear k1 c0 c1 c2 c3 c4 c5 c6
        go_wp2
        all_goals
          go_ret
          exact ⟨rfl, unhideR HW⟩
      · go_wp2_with fail
        refine (hia _).mono ?_
        rintro e w1 ⟨rfl, k1⟩
        obtain ⟨_, _, _, d3, d4, d5, _⟩ := (bat_blk (s := s) (alloc_last wr _)).below k1 (by simp)
        replace HW := hideR (below_go (below_go (unhideR HW) (below_a _ _)) k1)
        clear k1 c0 c1 c2 c3 c4 c5 c6
        go_wp2_with fail
        refine (hiq _).mono ?_
        rintro e w2 ⟨rfl, k2⟩
        replace HW := hideR (below_go (unhideR HW) k2)
        clear k2 d3 d4 d5
        cases dq
        · have hE : E = false := unhideR HN ((unhideR HX).trans rfl)
          subst hE
          clear HX HN HE
          go_wp2
          all_goals
            go_ret
            exact ⟨rfl, unhideR HW⟩
        · have HM2 : HeldR ((ats (L.take (k + 1)) && sps (L.take (k + 1))) = true) := (unhideR HX).trans rfl
          clear HX HN
          go_wp2
          exact ⟨⟨k + 1, by omega, by go_num, HM2, HW⟩, by simp [intOf]; omega⟩
    · obtain rfl : k = L.length := by omega
      have hE : E = true := by
        rw [← unhideR HE]
        have := unhideR HM
        rwa [List.take_length] at this
      subst hE
      clear HE HM HR
      go_wp2
      go_ret
      exact ⟨rfl, unhideR HW⟩
end Go.Proofs.YtdngkmobkbiflagDoor
