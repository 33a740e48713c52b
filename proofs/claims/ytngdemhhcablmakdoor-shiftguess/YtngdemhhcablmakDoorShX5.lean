/-
  The program's Fast, by contract.
-/
import Derived.Test.YtngdemhhcablmakDoorShX4
import Derived.Test.YtngdemhhcablmakDoorShFA
namespace Go.Proofs.YtngdemhhcablmakDoor
open Go Go.RowKit

theorem pow_test : ∀ n : Fin 257, (decide (0 < n.val) && bits BinOp.and IntKind.i64 (n.val : Int) ((n.val - 1 : Nat) : Int) == 0) = twoB n.val := by decide +kernel
set_option maxRecDepth 100000 in
theorem isPower_any (n : Nat) (hn : n ≤ 256) (w : World) : Calls Tryd.prog 35 #[.int .i64 (n : Nat)] w fun e w' => e = .returned (.bool (twoB n)) ∧ w' = w := by
  have ht := pow_test ⟨n, by omega⟩
  simp only at ht
  by_cases q : 0 < n
  · have t0 : decide ((0 : Int) < (n : Int)) = true := decide_eq_true (by omega)
    have t0n : decide (0 < n) = true := decide_eq_true q
    have w1 : IntKind.i64.wrap ((n : Int) - 1) = ((n - 1 : Nat) : Int) := by rw [show (n : Int) - 1 = ((n - 1 : Nat) : Int) by omega]; exact iwrap (by omega) (by omega)
    rw [t0n, Bool.true_and] at ht
    rw [← ht]
    obtain ⟨m, hm⟩ : ∃ m, n - 1 = m := ⟨_, rfl⟩
    rw [hm] at w1 ⊢
    clear ht
    go_enter Tryd.func35, Tryd.ntmps35
    go_wp2
    go_ret
    exact ⟨rfl, rfl⟩
  · have t0 : decide ((0 : Int) < (n : Int)) = false := decide_eq_false (by omega)
    have t0n : decide (0 < n) = false := decide_eq_false q
    rw [t0n, Bool.false_and] at ht
    rw [← ht]
    clear ht
    go_enter Tryd.func35, Tryd.ntmps35
    go_wp2
    go_ret
    exact ⟨rfl, rfl⟩
def FwPost (L : List (Nat × Nat)) (d : Nat) (back : Bool) (w : World) (e : Ending) (w' : World) : Prop := ∃ (M : List (Nat × Nat)) (g n : Nat), e = .returned (.slice (some ⟨g, 0, none⟩) n n) ∧ n = 2 ^ d ∧ M.length = n ∧ FsEnd L d back M ∧ CxOwn w' w.heap.size (.slice (some ⟨g, 0, none⟩) n n) M ∧ Below w.heap.size w w'
set_option maxRecDepth 100000 in
set_option maxHeartbeats 400000 in
theorem fastWaves_any {w : World} {a1 : Option Addr} {c1 d : Nat} {L : List (Nat × Nat)} (hL : CxCame w a1 L) (hd : L.length = 2 ^ d) (hl : L.length ≤ 256) (back : Bool) : Calls Tryd.prog 36 #[.slice a1 L.length c1, .bool back] w (FwPost L d back w) := by
  have hcH := halved_any back d (w := w) (a1 := a1) (c1 := c1) (L := L) hL hd hl
  have HD : HeldR (2 ^ d ≤ 256) := hideR (by rw [← hd]; omega)
  generalize hN : L.length = N at hcH hd hl ⊢
  clear hL hN hd
  go_enter Tryd.func36, Tryd.ntmps36
  go_wp2_with fail
  refine hcH.mono ?_
  rintro e w1 ⟨X, g, n, rfl, hn, lX, rX, oX, bX⟩
  have HN := hideR hn
  have hnl : n ≤ 256 := by rw [hn]; exact unhideR HD
  clear hcH hn
  cases hbk : back with
  | false =>
    have HR : HeldR (FwPost L d false w (.returned (.slice (some ⟨g, 0, none⟩) n n)) w1) := hideR ⟨X, g, n, rfl, unhideR HN, lX, ⟨X, by rw [lX, unhideR HN], by rw [← hbk]; exact rX, fun _ => rfl, fun q => by cases q⟩, oX, bX⟩
    clear rX lX oX bX HN
    subst hbk
    go_wp2
    go_ret
    exact unhideR HR
  | true =>
    have hov := divide_any oX lX hnl
    have HR : HeldR (∀ e w', DvPost w.heap.size g n X w1 e w' → e = .returned (.tuple #[]) ∧ FwPost L d true w (.returned (.slice (some ⟨g, 0, none⟩) n n)) w') := hideR (fun e w' h => by
      obtain ⟨rfl, Y, g1, g2, g3⟩ := h
      refine ⟨rfl, Y, g, n, rfl, unhideR HN, g1.len.trans lX, ⟨X, by rw [lX, unhideR HN], by rw [← hbk]; exact rX, (fun q => by cases q), fun _ => ?_⟩, g2, bX.trans g3⟩
      rw [← unhideR HN]
      exact ⟨g1.len.trans lX, fun i hi => g1.done i hi⟩)
    clear rX oX bX HN lX
    subst hbk
    go_wp2_with fail
    refine hov.mono ?_
    intro e w2 h
    obtain ⟨rfl, hp⟩ := unhideR HR e w2 h
    have HR2 := hideR hp
    clear hov h hp HR
    go_wp2
    go_ret
    exact unhideR HR2
/-- 0, or the error of a length. -/
def fsE (n : Nat) : Int := if 256 < n then 2 else if twoB n = true then 0 else 5
def FaPost (a : Nat → Addr) (L : List (Nat × Nat)) (back : Bool) (w : World) (e : Ending) (w' : World) : Prop := ∃ (X : List (Nat × Nat)) (ad : Option Addr) (cap : Nat) (er : Value), e = .returned (.tuple #[.slice ad X.length cap, er]) ∧ ErrIs a (fsE L.length) er ∧ (fsE L.length ≠ 0 → X = []) ∧ (fsE L.length = 0 → ∃ d, L.length = 2 ^ d ∧ FsEnd L d back X) ∧ CxCame w' ad X ∧ Below w.heap.size w w'
theorem fa_none {a : Nat → Addr} {L : List (Nat × Nat)} {back : Bool} {w w' : World} {er : Value} (h : ErrIs a (fsE L.length) er) (h0 : fsE L.length ≠ 0) (k : Below w.heap.size w w') : FaPost a L back w (.returned (.tuple #[.slice none 0 0, er])) w' :=
  ⟨[], none, 0, er, rfl, h, fun _ => rfl, fun q => absurd q h0, CxCame.nil _ _, k⟩
set_option maxRecDepth 100000 in
set_option maxHeartbeats 1600000 in
theorem fast_ok (a : Nat → Addr) {w : World} {a1 : Option Addr} {c1 : Nat} {L : List (Nat × Nat)} (back : Bool) (hS : Er2 w a) (hL : CxCame w a1 L) (l1 : L.length ≤ 9223372036854775807) : Calls Tryd.prog 15 #[.slice a1 L.length c1, .bool back] w (FaPost a L back w) := by
  have x1 := hS.g1
  have x4 := hS.g4
  have HNo : HeldR (∀ er u, ErrIs a (fsE L.length) er → fsE L.length ≠ 0 → Below w.heap.size w u → FaPost a L back w (.returned (.tuple #[.slice none 0 0, er])) u) := hideR (fun er u h h0 k => fa_none h h0 k)
  have HFin : HeldR (fsE L.length = 0 → ∀ d (X : List (Nat × Nat)) g n u, L.length = 2 ^ d → n = X.length → FsEnd L d back X → CxCame u (some ⟨g, 0, none⟩) X → Below w.heap.size w u → FaPost a L back w (.returned (.tuple #[.slice (some ⟨g, 0, none⟩) n n, .nilIface])) u) := hideR (fun e0 d X g n u h1 h2 h3 h4 h5 => by
    subst h2
    exact ⟨X, some ⟨g, 0, none⟩, _, .nilIface, rfl, .inl ⟨e0, rfl⟩, fun q => absurd e0 q, fun _ => ⟨d, h1, h3⟩, h4, h5⟩)
  have HFw : HeldR (∀ d, L.length = 2 ^ d → L.length ≤ 256 → Calls Tryd.prog 36 #[.slice a1 L.length c1, .bool back] w (FwPost L d back w)) := hideR (fun d h1 h2 => fastWaves_any hL h1 h2 back)
  have HB0 := hideR (Below.refl w.heap.size w)
  obtain ⟨n, hn⟩ : ∃ n, L.length = n := ⟨_, rfl⟩
  rw [hn] at l1 HNo HFin HFw ⊢
  clear hS hL hn
  by_cases q1 : 256 < n
  · have t1 : decide ((256 : Int) < (n : Int)) = true := decide_eq_true (by omega)
    have t1n : decide (256 < n) = true := decide_eq_true q1
    have hE : fsE n = 2 := by unfold fsE; rw [if_pos q1]
    have HR := hideR (fun u => unhideR HNo (.iface 120 (.pointer (some (a 1)))) u (by rw [hE]; exact err_at 1 (by decide)) (by rw [hE]; decide))
    clear HNo HFin HFw hE
    go_enter Tryd.func15, Tryd.ntmps15
    go_wp2
    go_region
    go_wp2
    go_ret2
    exact unhideR HR _ (drew1_go0 (unhideR HB0))
  have t1 : decide ((256 : Int) < (n : Int)) = false := decide_eq_false (by omega)
  have t1n : decide (256 < n) = false := decide_eq_false q1
  have hpw := isPower_any n (by omega) w
  cases q2 : twoB n with
  | false =>
    have hE : fsE n = 5 := by unfold fsE; rw [if_neg q1, q2]; rfl
    have HR := hideR (fun u => unhideR HNo (.iface 120 (.pointer (some (a 4)))) u (by rw [hE]; exact err_at 4 (by decide)) (by rw [hE]; decide))
    rw [q2] at hpw
    clear HNo HFin HFw hE
    go_enter Tryd.func15, Tryd.ntmps15
    go_wp2_with fail
    refine hpw.mono ?_
    rintro e u ⟨rfl, rfl⟩
    clear hpw
    go_wp2
    go_region
    go_wp2
    go_ret2
    exact unhideR HR _ (drew1_go0 (unhideR HB0))
  | true =>
    have hE : fsE n = 0 := by unfold fsE; rw [if_neg q1, q2]; rfl
    obtain ⟨d, hd⟩ := twoB_is q2
    have hfw := unhideR HFw d hd (by omega)
    have HR := hideR (fun X g n' u => unhideR HFin hE d X g n' u hd)
    rw [q2] at hpw
    clear HNo HFin HFw hE hd x1 x4
    go_enter Tryd.func15, Tryd.ntmps15
    go_wp2_with fail
    refine hpw.mono ?_
    rintro e u ⟨rfl, rfl⟩
    clear hpw
    go_wp2_with fail
    refine hfw.mono ?_
    rintro e w2 ⟨M, g, m, rfl, hm, hM, hF, hO, hb⟩
    have HR2 := hideR (unhideR HR M g m w2 hM.symm hF hO.row hb)
    clear hfw hm hM hF hO hb HR
    go_wp2
    go_ret2
    exact unhideR HR2
theorem FsEnd.same {L M M' : List (Nat × Nat)} {d : Nat} {back : Bool} (h : FsEnd L d back M) (g : FsEnd L d back M') : ∀ k, k < 2 ^ d → CSame (M.getD k (0, 0)) (M'.getD k (0, 0)) := by
  intro k hk
  obtain ⟨X, h1, h2, h3, h4⟩ := h
  obtain ⟨X', g1, g2, g3, g4⟩ := g
  have s := h2.same g2 (fun i _ => CSame.refl _) k hk
  cases back with
  | false => rw [h3 rfl, g3 rfl]; exact s
  | true => exact COv.same ((h4 rfl).is k hk) ((g4 rfl).is k hk) s
end Go.Proofs.YtngdemhhcablmakDoor
