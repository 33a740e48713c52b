/-
  The program's numbers of parts, by contract.
-/
import Derived.Test.YtgmaganajfcpbaiDoorDQ2
import Derived.Test.YtgmaganajfcpbaiDoorSpLb
namespace Go.Proofs.YtgmaganajfcpbaiDoor
open Go Go.RowKit

theorem IOwn.size {w : World} {B g n c : Nat} {C : List Int} (h : IOwn w B (.slice (some ⟨g, 0, none⟩) n c) C) : g < w.heap.size := by
  unfold IOwn at h
  rcases h.2 with ⟨h1, _⟩ | ⟨g', c, cur, h1, _, hh, _⟩
  · cases h1
  · injection h1 with h1 _ _
    injection h1 with h1
    injection h1 with h1
    subst h1
    exact (Array.getElem?_eq_some_iff.1 hh).1
set_option maxRecDepth 100000 in
set_option maxHeartbeats 12800000 in
theorem numbered_any {w : World} {ad : Option Addr} {cap W : Nat} {L : List Bool} (hL : LCame w ad L) (hW : 1 ≤ W) (H : Nat) (hH : L.length = H * W) (hn : L.length ≤ 65536) :
    Calls Tryd.prog 34 #[.slice ad L.length cap, .int .i64 (W : Nat)] w (LbPost L W w) := by
  obtain ⟨w1, hmk, ho, hb1⟩ := make_zeroS (w := w) (n := L.length) w.heap.size (Nat.le_refl _) hn
  have HS0 : HeldR (LbS w w.heap.size L.length (List.replicate L.length 0) w1) := hideR ⟨ho, by simp, hb1⟩
  have HF0 := hideR (num0 (L := L) (W := W))
  have HL : HeldR (∀ u, Below w.heap.size w u → LCame u ad L) := hideR (fun u k => hL.below k)
  have HLb : HeldR (∀ k, k < L.length → ∃ b o, ad = some ⟨b, o, none⟩ ∧ b < w.heap.size) := hideR (fun k hk => by
    obtain ⟨b, o, e, hb, _⟩ := hL.at_ k hk
    exact ⟨b, o, e, hb⟩)
  have HEnd : HeldR (∀ C p u, NumTo L W L.length C p → p ≤ L.length → LbS w w.heap.size L.length C u → LbPost L W w (.returned (.tuple #[.slice (some ⟨w.heap.size, 0, none⟩) L.length L.length, .int .i64 (p : Nat)])) u) := hideR (fun C p u h hp s => ⟨_, _, C, p, rfl, h.done rfl, hp, s.own.row, s.bel⟩)
  generalize hC0 : List.replicate L.length (0 : Int) = C0 at *
  have HSp : HeldR (∀ (u : World) (bl ol i p : Nat) (C : List Int), ad = some ⟨bl, ol, none⟩ → bl < w.heap.size → LbS w w.heap.size L.length C u → NumTo L W i C p → litB L i = true → C.getD i 0 = 0 → p ≤ 70000 → Calls Tryd.prog 49 #[.slice (some ⟨bl, ol, none⟩) L.length cap, .slice (some ⟨w.heap.size, 0, none⟩) L.length L.length, .int .i64 (W : Nat), .int .i64 (i : Nat), .int .i64 ((p : Int) + 1)] u fun e w' => e = .returned (.tuple #[]) ∧ ∃ D, HeldR (NumTo L W (i + 1) D (p + 1)) ∧ HeldR (LbS w w.heap.size L.length D w')) := hideR (fun u bl ol i p C e hb s h hi h0 hp => by
    subst e
    have hc := spread_any (num := p + 1) (cap := cap) (i := i) (hL.below s.bel) hb hW H hH hn s.own s.len s.own.size hi (fresh_of h h0) (by omega) (by omega)
    refine hc.mono ?_
    rintro e w' ⟨rfl, D, hs, ho, hl, hb⟩
    refine ⟨rfl, D, hideR (h.more hi h0 ?_), hideR ⟨ho, hl, s.bel.trans hb⟩⟩
    exact hs)
  obtain ⟨n, hnn⟩ : ∃ n, L.length = n := ⟨_, rfl⟩
  have HN := hideR hnn
  rw [hnn] at hmk HS0 HEnd hn HLb HSp ⊢
  clear ho hb1 hL hC0 hnn hH
  go_enter Tryd.func34, Tryd.ntmps34
  go_wp2
  clear hmk
  generalize w.heap.size = g at *
  go_loopw [7, 14] (fun pv iv wl => ∃ (i p : Nat) (C : List Int), i ≤ n ∧ p ≤ i ∧ pv = .int .i64 (p : Nat) ∧ iv = .int .i64 (i : Nat) ∧ HeldR (LbS w g n C wl) ∧ HeldR (NumTo L W i C p)) (fun _ iv _ => 100000 - (intOf iv).toNat)
  case atStart => exact ⟨0, 0, C0, by omega, by omega, rfl, rfl, HS0, HF0⟩
  case round =>
    clear HS0 HF0
    obtain ⟨i, p, C, hin, hpi, rfl, rfl, HS, HF⟩ := hrel
    by_cases hi : i < n
    · obtain ⟨b, o, e, hb⟩ := unhideR HLb i hi
      obtain ⟨b2, o2, e2, _, xl⟩ := (unhideR HL wr (unhideR HS).bel).at_ i (by rw [unhideR HN]; exact hi)
      subst e
      injection e2 with e2
      injection e2 with e3 e4
      subst e3
      subst e4
      obtain ⟨xo, fo⟩ := (unhideR HS).own.has (unhideR HS).len hi
      have tin : decide (i < n) = true := decide_eq_true hi
      have wi : IntKind.i64.wrap ((i : Int) + 1) = (i : Int) + 1 := iwrap (by omega) (by omega)
      have wp : IntKind.i64.wrap ((p : Int) + 1) = (p : Int) + 1 := iwrap (by omega) (by omega)
      cases hlb : litB L i with
      | true =>
        have xl2 : wr.cell? ⟨b, o + i, none⟩ = some (.bool true) := by rw [← hlb]; exact xl
        by_cases hz : C.getD i 0 = 0
        · have hsp := unhideR HSp wr b o i p C rfl hb (unhideR HS) (unhideR HF) hlb hz (by omega)
          rw [hz] at xo
          clear xl hlb HF HS hb hz
          go_wp2_with fail
          refine hsp.mono ?_
          rintro e w2 ⟨rfl, D, HF2, HS2⟩
          clear hsp xl2 xo fo
          go_wp2
          exact ⟨⟨i + 1, p + 1, D, by omega, by omega, by go_num, by go_num, HS2, HF2⟩, by simp [intOf]; omega⟩
        · have HF2 := hideR ((unhideR HF).skip (.inr hz))
          obtain ⟨x, hx⟩ : ∃ x, C.getD i 0 = x := ⟨_, rfl⟩
          rw [hx] at xo hz
          have hz2 : decide (x = 0) = false := decide_eq_false hz
          clear xl hlb HF hb hx
          go_wp2
          exact ⟨⟨i + 1, p, C, by omega, by omega, rfl, by go_num, HS, HF2⟩, by simp [intOf]; omega⟩
      | false =>
        have HF2 := hideR ((unhideR HF).skip (.inl hlb))
        have xl2 : wr.cell? ⟨b, o + i, none⟩ = some (.bool false) := by rw [← hlb]; exact xl
        clear xl hlb HF hb
        go_wp2
        exact ⟨⟨i + 1, p, C, by omega, by omega, rfl, by go_num, HS, HF2⟩, by simp [intOf]; omega⟩
    · obtain rfl : n = i := by omega
      have tin : decide (n < n) = false := decide_eq_false hi
      have HR := hideR (unhideR HEnd C p wr (unhideR HF) hpi (unhideR HS))
      clear HF HS
      go_wp2
      go_ret2
      exact unhideR HR
end Go.Proofs.YtgmaganajfcpbaiDoor
