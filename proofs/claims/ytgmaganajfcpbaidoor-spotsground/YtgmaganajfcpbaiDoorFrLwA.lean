/-
  The laws of pictures: what they call of the law's own.
-/
import Derived.Test.YtgmaganajfcpbaiDoorFrA
import Derived.Test.YtgmaganajfcpbaiDoorCodK4
namespace Go.Proofs.YtgmaganajfcpbaiDoor
open Go Go.RowKit

set_option maxRecDepth 100000 in
set_option maxHeartbeats 1600000 in
theorem sameInts_any {w : World} {c1 c2 : Nat} {ad1 ad2 : Option Addr} {A : List Int} (h1 : ICame w ad1 A) (h2 : ICame w ad2 A) (hl : A.length ≤ 9223372036854775806) :
    Calls Tryd.prog 12 #[.slice ad1 A.length c1, .slice ad2 A.length c2] w fun e w' => e = .returned (.bool true) ∧ Below w.heap.size w w' := by
  have H1 := hideR h1
  have H2 := hideR h2
  have t0 : ((A.length : Int) != (A.length : Int)) = false := by simp
  clear h1 h2
  go_enter Tryd.func12, Tryd.ntmps12
  go_wp2
  go_loopw [5] (fun kv wl => ∃ k : Nat, k ≤ A.length ∧ kv = .int .i64 (k : Nat) ∧ HeldR (Below w.heap.size w wl)) (fun kv _ => A.length + 1 - (intOf kv).toNat)
  case atStart => exact ⟨0, by omega, rfl, hideR (Below.refl _ _)⟩
  case round =>
    obtain ⟨k, hk, rfl, HW⟩ := hrel
    by_cases hlt : k < A.length
    · obtain ⟨b1, o1, rfl, _, x1⟩ := ((unhideR H1).below (unhideR HW)).at_ k hlt
      obtain ⟨b2, o2, rfl, _, x2⟩ := ((unhideR H2).below (unhideR HW)).at_ k hlt
      generalize A.getD k 0 = x at x1 x2
      have t1 : (x != x) = false := by simp
      go_wp2_with fail
      refine wp_region_lets [(· = .slice (some ⟨b1, o1, none⟩) A.length c1),
        (· = .int .i64 (k : Nat)),
        (· = .pointer (some ⟨b1, o1 + k, none⟩)),
        (· = .int .i64 x),
        (· = .slice (some ⟨b2, o2, none⟩) A.length c2),
        (· = .int .i64 (k : Nat)),
        (· = .pointer (some ⟨b2, o2 + k, none⟩)),
        (· = .int .i64 x),
        (· = .bool false)] (by kernel_rfl) (by kernel_rfl) ?_
      refine lexL_step (fun K hK => ⟨by kernel_rfl, ⟨_, rfl⟩, fun n => ?_, fun v hv => ?_⟩)
      · go_simp
        exact lUpon_one
      subst hv
      go_simp
      refine hK _ ?_
      clear hK K
      refine lexL_step (fun K hK => ⟨by kernel_rfl, ⟨_, rfl⟩, fun n => ?_, fun v hv => ?_⟩)
      · go_simp
        exact lUpon_one
      subst hv
      go_simp
      refine hK _ ?_
      clear hK K
      refine lexL_step (fun K hK => ⟨by kernel_rfl, ⟨_, rfl⟩, fun n => ?_, fun v hv => ?_⟩)
      · go_simp
        exact lUpon_one
      subst hv
      go_simp
      refine hK _ ?_
      clear hK K
      refine lexL_step (fun K hK => ⟨by kernel_rfl, ⟨_, rfl⟩, fun n => ?_, fun v hv => ?_⟩)
      · go_simp
        exact lUpon_one
      subst hv
      go_simp
      refine hK _ ?_
      clear hK K
      refine lexL_step (fun K hK => ⟨by kernel_rfl, ⟨_, rfl⟩, fun n => ?_, fun v hv => ?_⟩)
      · go_simp
        exact lUpon_one
      subst hv
      go_simp
      refine hK _ ?_
      clear hK K
      refine lexL_step (fun K hK => ⟨by kernel_rfl, ⟨_, rfl⟩, fun n => ?_, fun v hv => ?_⟩)
      · go_simp
        exact lUpon_one
      subst hv
      go_simp
      refine hK _ ?_
      clear hK K
      refine lexL_step (fun K hK => ⟨by kernel_rfl, ⟨_, rfl⟩, fun n => ?_, fun v hv => ?_⟩)
      · go_simp
        exact lUpon_one
      subst hv
      go_simp
      refine hK _ ?_
      clear hK K
      refine lexL_step (fun K hK => ⟨by kernel_rfl, ⟨_, rfl⟩, fun n => ?_, fun v hv => ?_⟩)
      · go_simp
        exact lUpon_one
      subst hv
      go_simp
      refine hK _ ?_
      clear hK K
      refine lexL_step (fun K hK => ⟨by kernel_rfl, ⟨_, rfl⟩, fun n => ?_, fun v hv => ?_⟩)
      · go_simp
        exact lUpon_one
      subst hv
      go_simp
      refine hK _ ?_
      clear hK K
      refine lexL_end ?_
      intro n9
      replace HW := hideR (below_go (unhideR HW) (drawn_below wr n9))
      clear x1 x2
      go_wp2
      exact ⟨⟨k + 1, by omega, by go_num, HW⟩, by simp [intOf]; omega⟩
    · obtain rfl : k = A.length := by omega
      go_wp2
      go_ret
      exact ⟨rfl, unhideR HW⟩
end Go.Proofs.YtgmaganajfcpbaiDoor
