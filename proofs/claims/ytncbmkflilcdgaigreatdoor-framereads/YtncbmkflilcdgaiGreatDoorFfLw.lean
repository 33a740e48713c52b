/-
  The law FrameFiles: what a program's files must be, as contracts; the law's own looks.
-/
import Derived.Test.YtncbmkflilcdgaiGreatDoorFfFile
import Derived.Test.YtncbmkflilcdgaiGreatDoorFrLw0
namespace Go.Proofs.YtncbmkflilcdgaiGreatDoor
open Go Go.RowKit

set_option maxRecDepth 100000 in
set_option maxHeartbeats 3200000 in
theorem samePicture_any {w : World} {b o cap cx : Nat} {ad ax : Option Addr} {p : Pic} (hx : ICame w ax p.L) (hp : PicAt w b o ad cap p) (hl : p.L.length * 8 ≤ 140737488355328) :
    Calls Tryz.prog 11 #[.agg #[.int .i64 p.wide, .int .i64 p.high, .slice ax p.L.length cx], .pointer (some ⟨b, o, none⟩)] w fun e w' => e = .returned (.bool true) ∧ Below w.heap.size w w' := by
  have k0 := below_a w (.cells #[.int .i64 p.wide, .int .i64 p.high, .slice ax p.L.length cx] 33)
  have HX := hideR (alloc_last w (.cells #[.int .i64 p.wide, .int .i64 p.high, .slice ax p.L.length cx] 33))
  have HP := hideR (hp.below k0)
  have HI := hideR (hx.below k0)
  have HK := hideR k0
  have t1 : (p.wide == p.wide) = true := beq_self_eq_true _
  have t2 : (p.high == p.high) = true := beq_self_eq_true _
  clear k0 hx hp
  go_enter Tryz.func11, Tryz.ntmps11
  go_wp2_with fail
  generalize w.alloc (.cells #[.int .i64 p.wide, .int .i64 p.high, .slice ax p.L.length cx] 33) = W1 at *
  have hsi := fun (u : World) (k : Below W1.heap.size W1 u) => sameInts_any (c1 := cx) (c2 := cap) ((unhideR HI).below k) ((unhideR HP).row.below k) (by omega)
  refine wp_region_letsB W1.heap.size [(· = .pointer (some ⟨w.heap.size, 0, none⟩)), (· = .int .i64 p.wide), (· = .pointer (some ⟨b, o, none⟩)), (· = .pointer (some ⟨b, o, none⟩)), (· = .pointer (some ⟨b, o, none⟩)), (· = .int .i64 p.wide), (· = .bool true), (· = .bool true), (· = .pointer (some ⟨w.heap.size, 1, none⟩)), (· = .int .i64 p.high), (· = .pointer (some ⟨b, o, none⟩)), (· = .pointer (some ⟨b, o, none⟩)), (· = .pointer (some ⟨b, o + 1, none⟩)), (· = .int .i64 p.high), (· = .bool true), (· = .bool true), (· = .bool true), (· = .pointer (some ⟨w.heap.size, 2, none⟩)), (· = .slice ax p.L.length cx), (· = .pointer (some ⟨b, o, none⟩)), (· = .pointer (some ⟨b, o, none⟩)), (· = .pointer (some ⟨b, o + 2, none⟩)), (· = .slice ad p.L.length cap), (· = .bool true), (· = .bool true), (· = .bool true)] (by kernel_rfl) (by kernel_rfl) ?_
  refine lexB_step (fun K hK => ⟨by kernel_rfl, ⟨_, rfl⟩, fun v hv => ?_, fun v hv => ?_⟩)
  · go_simp
    exact lUpon_b hv
  subst hv
  go_simp
  refine hK _ ?_
  clear hK K
  refine lexB_step (fun K hK => ⟨by kernel_rfl, ⟨_, rfl⟩, fun v hv => ?_, fun v hv => ?_⟩)
  · have c : v.cell? ⟨w.heap.size, 0, none⟩ = some (.int .i64 p.wide) := (cells_at (keepB (unhideR HX) hv) 0 (by simp)).1
    go_simp
    exact lUpon_b hv
  subst hv
  go_simp
  refine hK _ ?_
  clear hK K
  refine lexB_step (fun K hK => ⟨by kernel_rfl, ⟨_, rfl⟩, fun v hv => ?_, fun v hv => ?_⟩)
  · go_simp
    exact lUpon_b hv
  subst hv
  go_simp
  refine hK _ ?_
  clear hK K
  refine lexB_step (fun K hK => ⟨by kernel_rfl, ⟨_, rfl⟩, fun v hv => ?_, fun v hv => ?_⟩)
  · go_simp
    exact lUpon_b hv
  subst hv
  go_simp
  refine hK _ ?_
  clear hK K
  refine lexB_step (fun K hK => ⟨by kernel_rfl, ⟨_, rfl⟩, fun v hv => ?_, fun v hv => ?_⟩)
  · go_simp
    exact lUpon_b hv
  subst hv
  go_simp
  refine hK _ ?_
  clear hK K
  refine lexB_step (fun K hK => ⟨by kernel_rfl, ⟨_, rfl⟩, fun v hv => ?_, fun v hv => ?_⟩)
  · have c := ((unhideR HP).below hv).c0
    go_simp
    exact lUpon_b hv
  subst hv
  go_simp
  refine hK _ ?_
  clear hK K
  refine lexB_step (fun K hK => ⟨by kernel_rfl, ⟨_, rfl⟩, fun v hv => ?_, fun v hv => ?_⟩)
  · go_simp
    exact lUpon_b hv
  subst hv
  go_simp
  refine hK _ ?_
  clear hK K
  refine lexB_step (fun K hK => ⟨by kernel_rfl, ⟨_, rfl⟩, fun v hv => ?_, fun v hv => ?_⟩)
  · go_simp
    exact lUpon_b hv
  subst hv
  go_simp
  refine hK _ ?_
  clear hK K
  refine lexB_step (fun K hK => ⟨by kernel_rfl, ⟨_, rfl⟩, fun v hv => ?_, fun v hv => ?_⟩)
  · go_simp
    exact lUpon_b hv
  subst hv
  go_simp
  refine hK _ ?_
  clear hK K
  refine lexB_step (fun K hK => ⟨by kernel_rfl, ⟨_, rfl⟩, fun v hv => ?_, fun v hv => ?_⟩)
  · have c : v.cell? ⟨w.heap.size, 1, none⟩ = some (.int .i64 p.high) := (cells_at (keepB (unhideR HX) hv) 1 (by simp)).1
    go_simp
    exact lUpon_b hv
  subst hv
  go_simp
  refine hK _ ?_
  clear hK K
  refine lexB_step (fun K hK => ⟨by kernel_rfl, ⟨_, rfl⟩, fun v hv => ?_, fun v hv => ?_⟩)
  · go_simp
    exact lUpon_b hv
  subst hv
  go_simp
  refine hK _ ?_
  clear hK K
  refine lexB_step (fun K hK => ⟨by kernel_rfl, ⟨_, rfl⟩, fun v hv => ?_, fun v hv => ?_⟩)
  · go_simp
    exact lUpon_b hv
  subst hv
  go_simp
  refine hK _ ?_
  clear hK K
  refine lexB_step (fun K hK => ⟨by kernel_rfl, ⟨_, rfl⟩, fun v hv => ?_, fun v hv => ?_⟩)
  · go_simp
    exact lUpon_b hv
  subst hv
  go_simp
  refine hK _ ?_
  clear hK K
  refine lexB_step (fun K hK => ⟨by kernel_rfl, ⟨_, rfl⟩, fun v hv => ?_, fun v hv => ?_⟩)
  · have c := ((unhideR HP).below hv).c1
    go_simp
    exact lUpon_b hv
  subst hv
  go_simp
  refine hK _ ?_
  clear hK K
  refine lexB_step (fun K hK => ⟨by kernel_rfl, ⟨_, rfl⟩, fun v hv => ?_, fun v hv => ?_⟩)
  · go_simp
    exact lUpon_b hv
  subst hv
  go_simp
  refine hK _ ?_
  clear hK K
  refine lexB_step (fun K hK => ⟨by kernel_rfl, ⟨_, rfl⟩, fun v hv => ?_, fun v hv => ?_⟩)
  · go_simp
    exact lUpon_b hv
  subst hv
  go_simp
  refine hK _ ?_
  clear hK K
  refine lexB_step (fun K hK => ⟨by kernel_rfl, ⟨_, rfl⟩, fun v hv => ?_, fun v hv => ?_⟩)
  · go_simp
    exact lUpon_b hv
  subst hv
  go_simp
  refine hK _ ?_
  clear hK K
  refine lexB_step (fun K hK => ⟨by kernel_rfl, ⟨_, rfl⟩, fun v hv => ?_, fun v hv => ?_⟩)
  · go_simp
    exact lUpon_b hv
  subst hv
  go_simp
  refine hK _ ?_
  clear hK K
  refine lexB_step (fun K hK => ⟨by kernel_rfl, ⟨_, rfl⟩, fun v hv => ?_, fun v hv => ?_⟩)
  · have c : v.cell? ⟨w.heap.size, 2, none⟩ = some (.slice ax p.L.length cx) := (cells_at (keepB (unhideR HX) hv) 2 (by simp)).1
    go_simp
    exact lUpon_b hv
  subst hv
  go_simp
  refine hK _ ?_
  clear hK K
  refine lexB_step (fun K hK => ⟨by kernel_rfl, ⟨_, rfl⟩, fun v hv => ?_, fun v hv => ?_⟩)
  · go_simp
    exact lUpon_b hv
  subst hv
  go_simp
  refine hK _ ?_
  clear hK K
  refine lexB_step (fun K hK => ⟨by kernel_rfl, ⟨_, rfl⟩, fun v hv => ?_, fun v hv => ?_⟩)
  · go_simp
    exact lUpon_b hv
  subst hv
  go_simp
  refine hK _ ?_
  clear hK K
  refine lexB_step (fun K hK => ⟨by kernel_rfl, ⟨_, rfl⟩, fun v hv => ?_, fun v hv => ?_⟩)
  · go_simp
    exact lUpon_b hv
  subst hv
  go_simp
  refine hK _ ?_
  clear hK K
  refine lexB_step (fun K hK => ⟨by kernel_rfl, ⟨_, rfl⟩, fun v hv => ?_, fun v hv => ?_⟩)
  · have c := ((unhideR HP).below hv).c2
    go_simp
    exact lUpon_b hv
  subst hv
  go_simp
  refine hK _ ?_
  clear hK K
  refine lexB_step (fun K hK => ⟨by kernel_rfl, ⟨_, rfl⟩, fun v hv => ?_, fun v hv => ?_⟩)
  · go_simp
    refine (hsi _ hv).mono ?_
    rintro e w9 ⟨rfl, k⟩
    exact ⟨_, rfl, rfl, below_on2 hv (Nat.le_refl _) k⟩
  subst hv
  go_simp
  refine hK _ ?_
  clear hK K
  refine lexB_step (fun K hK => ⟨by kernel_rfl, ⟨_, rfl⟩, fun v hv => ?_, fun v hv => ?_⟩)
  · go_simp
    exact lUpon_b hv
  subst hv
  go_simp
  refine hK _ ?_
  clear hK K
  refine lexB_step (fun K hK => ⟨by kernel_rfl, ⟨_, rfl⟩, fun v hv => ?_, fun v hv => ?_⟩)
  · go_simp
    exact lUpon_b hv
  subst hv
  go_simp
  refine hK _ ?_
  clear hK K
  refine lexL_end ?_
  intro W2 hW2
  replace HK := hideR (below_go (unhideR HK) hW2)
  clear hsi hW2
  go_wp2
  go_ret
  exact ⟨rfl, unhideR HK⟩
set_option maxRecDepth 100000 in
set_option maxHeartbeats 1600000 in
theorem sameCards_any {w : World} {c1 c2 : Nat} {a1 a2 : Option Addr} {L : List CrdS} (h1 : CCame w a1 L) (h2 : CCame w a2 L) (hl : L.length ≤ 1000000) :
    Calls Tryz.prog 12 #[.slice a1 L.length c1, .slice a2 L.length c2] w fun e w' => e = .returned (.bool true) ∧ Below w.heap.size w w' := by
  have H1 := hideR h1
  have H2 := hideR h2
  clear h1 h2
  have t0 : ((L.length : Int) != (L.length : Int)) = false := by simp
  go_enter Tryz.func12, Tryz.ntmps12
  go_wp2
  go_loopw [5] (fun iv wl => ∃ i : Nat, i ≤ L.length ∧ iv = .int .i64 (i : Nat) ∧ HeldR (Below w.heap.size w wl)) (fun iv _ => L.length + 1 - (intOf iv).toNat)
  case atStart => exact ⟨0, by omega, rfl, hideR (Below.refl _ _)⟩
  case round =>
    obtain ⟨i, hi, rfl, HK⟩ := hrel
    by_cases hil : i < L.length
    · have ti : decide ((i : Int) < (L.length : Nat)) = true := decide_eq_true (by omega)
      obtain ⟨b1, o1, rfl, _, x1, x2, _, _⟩ := ((unhideR H1).below (unhideR HK)).at_ i hil
      obtain ⟨b2, o2, rfl, _, y1, y2, _, _⟩ := ((unhideR H2).below (unhideR HK)).at_ i hil
      generalize L.getD i crdS0 = C at *
      go_wp2_with fail
      refine wp_region_lets [(· = .slice (some ⟨b1, o1, none⟩) L.length c1),
        (· = .int .i64 (i : Nat)),
        (· = .pointer (some ⟨b1, o1 + i * 2, none⟩)),
        (· = .agg #[.string C.name, .string C.value]),
        (· = .slice (some ⟨b2, o2, none⟩) L.length c2),
        (· = .int .i64 (i : Nat)),
        (· = .pointer (some ⟨b2, o2 + i * 2, none⟩)),
        (· = .agg #[.string C.name, .string C.value]),
        (· = .bool false)] (by kernel_rfl) (by kernel_rfl) ?_
      refine lexL_step (fun K hK => ⟨by kernel_rfl, ⟨_, rfl⟩, fun n => ?_, fun v hv => ?_⟩)
      · go_simp
        exact lUpon_one
      subst hv
      go_simp
      refine hK _ ?_
      clear hK K
      refine lexL_step (fun K hK => ⟨by kernel_rfl, ⟨_, rfl⟩, fun n => ?_, fun v hv => ?_⟩)
      · go_simp
        exact lUpon_one
      subst hv
      go_simp
      refine hK _ ?_
      clear hK K
      refine lexL_step (fun K hK => ⟨by kernel_rfl, ⟨_, rfl⟩, fun n => ?_, fun v hv => ?_⟩)
      · go_simp
        exact lUpon_one
      subst hv
      go_simp
      refine hK _ ?_
      clear hK K
      refine lexL_step (fun K hK => ⟨by kernel_rfl, ⟨_, rfl⟩, fun n => ?_, fun v hv => ?_⟩)
      · go_simp
        exact lUpon_one
      subst hv
      go_simp
      refine hK _ ?_
      clear hK K
      refine lexL_step (fun K hK => ⟨by kernel_rfl, ⟨_, rfl⟩, fun n => ?_, fun v hv => ?_⟩)
      · go_simp
        exact lUpon_one
      subst hv
      go_simp
      refine hK _ ?_
      clear hK K
      refine lexL_step (fun K hK => ⟨by kernel_rfl, ⟨_, rfl⟩, fun n => ?_, fun v hv => ?_⟩)
      · go_simp
        exact lUpon_one
      subst hv
      go_simp
      refine hK _ ?_
      clear hK K
      refine lexL_step (fun K hK => ⟨by kernel_rfl, ⟨_, rfl⟩, fun n => ?_, fun v hv => ?_⟩)
      · go_simp
        exact lUpon_one
      subst hv
      go_simp
      refine hK _ ?_
      clear hK K
      refine lexL_step (fun K hK => ⟨by kernel_rfl, ⟨_, rfl⟩, fun n => ?_, fun v hv => ?_⟩)
      · go_simp
        exact lUpon_one
      subst hv
      go_simp
      refine hK _ ?_
      clear hK K
      refine lexL_step (fun K hK => ⟨by kernel_rfl, ⟨_, rfl⟩, fun n => ?_, fun v hv => ?_⟩)
      · go_simp
        exact lUpon_one
      subst hv
      go_simp
      refine hK _ ?_
      clear hK K
      refine lexL_end ?_
      intro n1
      have HK2 := hideR (below_go (unhideR HK) (drawn_below wr n1))
      go_wp2
      exact ⟨⟨i + 1, by omega, by go_num, HK2⟩, by simp [intOf]; omega⟩
    · obtain rfl : i = L.length := by omega
      have ti : decide ((L.length : Int) < (L.length : Nat)) = false := decide_eq_false (by omega)
      go_wp2
      go_ret
      exact ⟨rfl, unhideR HK⟩
end Go.Proofs.YtncbmkflilcdgaiGreatDoor
