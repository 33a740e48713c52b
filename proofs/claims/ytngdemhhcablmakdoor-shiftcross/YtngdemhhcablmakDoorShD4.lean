/-
  The program's Best and Proved, by contract.
-/
import Derived.Test.YtngdemhhcablmakDoorShD2
import Derived.Test.YtngdemhhcablmakDoorShD3
namespace Go.Proofs.YtngdemhhcablmakDoor
open Go Go.RowKit

set_option maxRecDepth 100000 in
set_option maxHeartbeats 1600000 in
theorem shBest_ok (a : Nat → Addr) : ShBestOK a := by
  intro w a1 a2 c1 c2 A B hS hA hB l1 l2
  have hcr := cross_ok a (c1 := c1) (c2 := c2) hS hA hB l1 l2
  by_cases e0 : rowsE A B = 0
  case neg =>
    have HF : HeldR (∀ er u, ErrIs a (rowsE A B) er → Below w.heap.size w u → ShPost a A B w (.returned (.tuple #[.int .i64 0, .int .i64 0, er])) u) := hideR (fun er u h k => ⟨er, by rw [if_neg e0, if_neg e0], h, k⟩)
    have HE := hideR e0
    obtain ⟨nA, hnA⟩ : ∃ n, A.length = n := ⟨_, rfl⟩
    obtain ⟨nB, hnB⟩ : ∃ n, B.length = n := ⟨_, rfl⟩
    rw [hnA] at hcr l1 ⊢
    rw [hnB] at hcr l2 ⊢
    clear hS hA hB e0 hnA hnB
    go_enter Tryd.func20, Tryd.ntmps20
    go_wp2_with fail
    refine hcr.mono ?_
    rintro e u ⟨X, ad, cap, er, rfl, her, hX, _, _, hb⟩
    have HR := hideR (unhideR HF er u her hb)
    obtain rfl := hX (unhideR HE)
    obtain ⟨kk, rfl⟩ := errIs_ne her (unhideR HE)
    clear hcr her hb
    go_wp2
    go_ret3
    exact unhideR HR
  case pos =>
  obtain ⟨n, hO⟩ := rows_ok e0
  have HF : HeldR (∀ u, Below w.heap.size w u → ShPost a A B w (.returned (.tuple #[.int .i64 (shB A B : Nat), .int .i64 (shS A B), .nilIface])) u) := hideR (fun u k => ⟨.nilIface, by rw [if_pos e0, if_pos e0], .inl ⟨e0, rfl⟩, k⟩)
  have HSB : HeldR (shB A B = bestI (crossL A B) n ∧ (crossL A B).length = n) := hideR ⟨by unfold shB; rw [hO.la], by rw [crossL_len, hO.la]⟩
  have HSS : HeldR (shS A B = (crossL A B).getD (shB A B) 0) := hideR rfl
  have HLt : HeldR (shB A B < n) := hideR (by unfold shB; rw [hO.la]; exact bestI_lt _ hO.pos _ (Nat.le_refl _))
  unfold CrPost at hcr
  rw [e0] at hcr
  rw [hO.la, hO.lb] at hcr ⊢
  have hfew := hO.few
  have hpos := hO.pos
  clear hS hA hB l1 l2 e0 hO
  go_enter Tryd.func20, Tryd.ntmps20
  go_wp2_with fail
  refine hcr.mono ?_
  rintro e u ⟨X, ad, cap, er, rfl, her, _, hX, hc, hb⟩
  obtain rfl := hX trivial
  obtain rfl := errIs_0 her
  have hfg := firstGreatest_any (cap := cap) hc (by rw [(unhideR HSB).2]; omega) (by rw [(unhideR HSB).2]; omega)
  rw [(unhideR HSB).2, ← (unhideR HSB).1] at hfg
  rw [(unhideR HSB).2]
  obtain ⟨b1, o1, rfl, _, x1⟩ := hc.at_ (shB A B) (by rw [(unhideR HSB).2]; exact unhideR HLt)
  rw [← unhideR HSS] at x1
  have HR := hideR (unhideR HF)
  have HBu := hideR hb
  have hlt := unhideR HLt
  clear hcr her hX hc hb HSB HSS HLt HF
  generalize shB A B = sb at *
  generalize shS A B = sv at *
  have js : (sb : Int) < (n : Int) := by omega
  go_wp2_with fail
  refine hfg.mono ?_
  rintro e u2 ⟨rfl, rfl⟩
  clear hfg
  go_wp2
  go_region
  go_wp2
  go_ret3
  exact unhideR HR _ (drew1_go (unhideR HBu))
theorem pv_bit {A B : List Int} {n : Nat} (hO : RowsOk A B n) (s : Int) : prB A B s = (decide (0 ≤ s) && (decide (s < (n : Int)) && decide ((crossL A B).getD s.toNat 0 = shS A B))) := by
  unfold prB
  rw [hO.la, Bool.eq_iff_iff]
  simp
set_option maxRecDepth 100000 in
set_option maxHeartbeats 1600000 in
theorem proved_ok (a : Nat → Addr) : ProvedOK a := by
  intro w a1 a2 c1 c2 A B s hS hA hB l1 l2
  have hcr := cross_ok a (c1 := c1) (c2 := c2) hS hA hB l1 l2
  by_cases e0 : rowsE A B = 0
  case neg =>
    have HF : HeldR (∀ er u, ErrIs a (rowsE A B) er → Below w.heap.size w u → PvdPost a A B s w (.returned (.tuple #[.bool false, er])) u) := hideR (fun er u h k => ⟨er, by rw [show decide (rowsE A B = 0) = false from decide_eq_false e0]; rfl, h, k⟩)
    have HE := hideR e0
    obtain ⟨nA, hnA⟩ : ∃ n, A.length = n := ⟨_, rfl⟩
    obtain ⟨nB, hnB⟩ : ∃ n, B.length = n := ⟨_, rfl⟩
    rw [hnA] at hcr l1 ⊢
    rw [hnB] at hcr l2 ⊢
    clear hS hA hB e0 hnA hnB
    go_enter Tryd.func22, Tryd.ntmps22
    go_wp2_with fail
    refine hcr.mono ?_
    rintro e u ⟨X, ad, cap, er, rfl, her, hX, _, _, hb⟩
    have HR := hideR (unhideR HF er u her hb)
    obtain rfl := hX (unhideR HE)
    obtain ⟨kk, rfl⟩ := errIs_ne her (unhideR HE)
    clear hcr her hb
    go_wp2
    go_ret2
    exact unhideR HR
  case pos =>
  obtain ⟨n, hO⟩ := rows_ok e0
  have HF : HeldR (∀ u, Below w.heap.size w u → PvdPost a A B s w (.returned (.tuple #[.bool (prB A B s), .nilIface])) u) := hideR (fun u k => ⟨.nilIface, by rw [show decide (rowsE A B = 0) = true from decide_eq_true e0]; rfl, .inl ⟨e0, rfl⟩, k⟩)
  rw [pv_bit hO s] at HF
  have HSB : HeldR (shS A B = (crossL A B).getD (bestI (crossL A B) n) 0 ∧ (crossL A B).length = n) := hideR ⟨by unfold shS shB; rw [hO.la], by rw [crossL_len, hO.la]⟩
  unfold CrPost at hcr
  rw [e0] at hcr
  rw [hO.la, hO.lb] at hcr ⊢
  have hfew := hO.few
  have hpos := hO.pos
  clear hS hA hB l1 l2 e0 hO
  go_enter Tryd.func22, Tryd.ntmps22
  go_wp2_with fail
  refine hcr.mono ?_
  rintro e u ⟨X, ad, cap, er, rfl, her, _, hX, hc, hb⟩
  obtain rfl := hX trivial
  obtain rfl := errIs_0 her
  have hmx := fun v (k : Below u.heap.size u v) => max_any (cap := cap) (hc.below k) (by rw [(unhideR HSB).2]; omega) (by rw [(unhideR HSB).2]; omega)
  rw [(unhideR HSB).2, ← (unhideR HSB).1] at hmx
  rw [(unhideR HSB).2]
  have HC := hideR hc
  have HBu := hideR hb
  clear hcr her hX hc hb
  by_cases s0 : 0 ≤ s
  case neg =>
    have t0 : decide (0 ≤ s) = false := decide_eq_false s0
    rw [t0, Bool.false_and] at HF
    clear hmx HSB HC
    go_wp2
    go_region
    go_wp2
    go_ret2
    exact unhideR HF _ (drew1_go (unhideR HBu))
  case pos =>
  have t0 : decide (0 ≤ s) = true := decide_eq_true s0
  rw [t0, Bool.true_and] at HF
  by_cases s1 : s < (n : Int)
  case neg =>
    have t1 : decide (s < (n : Int)) = false := decide_eq_false s1
    rw [t1, Bool.false_and] at HF
    clear hmx HSB HC
    go_wp2
    go_region
    go_wp2
    go_ret2
    exact unhideR HF _ (drew1_go (unhideR HBu))
  case pos =>
  have t1 : decide (s < (n : Int)) = true := decide_eq_true s1
  rw [t1, Bool.true_and] at HF
  obtain ⟨k, rfl⟩ : ∃ k : Nat, s = (k : Nat) := ⟨s.toNat, by omega⟩
  obtain ⟨b1, o1, rfl, _, x1⟩ := (unhideR HC).at_ k (by rw [(unhideR HSB).2]; omega)
  rw [Int.toNat_natCast] at HF
  clear HSB HC
  generalize (crossL A B).getD k 0 = v at *
  generalize shS A B = sv at *
  go_wp2
  go_quiet (first | (go_at_call 40; exact Calls.quiet_of_same (hmx _ (by first | exact Below.refl _ _ | exact drew_below _ _ (Below.refl _ _)))))
  go_wp2
  go_ret2
  exact unhideR HF _ (drew_below _ _ (unhideR HBu))
end Go.Proofs.YtngdemhhcablmakDoor
