/-
  The waves by halves: the document's, by contract.
-/
import Derived.Test.YtngdemhhcablmakDoorShHv
namespace Go.Proofs.YtngdemhhcablmakDoor
open Go Go.RowKit

/-- the waves by halves, of 2 to the power of d numbers. -/
def FsEnd (L : List (Nat × Nat)) (d : Nat) (back : Bool) (M : List (Nat × Nat)) : Prop := ∃ X : List (Nat × Nat), X.length = 2 ^ d ∧ HvR back d (fun i => L.getD i (0, 0)) (fun i => X.getD i (0, 0)) ∧ (back = false → M = X) ∧ (back = true → OvK (floatOfInt .f64 ((2 ^ d : Nat) : Int)) X M (2 ^ d))
theorem FsEnd.len {L M : List (Nat × Nat)} {d : Nat} {back : Bool} (h : FsEnd L d back M) : M.length = 2 ^ d := by
  obtain ⟨X, h1, _, h3, h4⟩ := h
  cases back with
  | false => rw [h3 rfl, h1]
  | true => exact (h4 rfl).len
def FsPost (L : List (Nat × Nat)) (d : Nat) (back : Bool) (w : World) (e : Ending) (w' : World) : Prop := ∃ (M : List (Nat × Nat)) (ad : Option Addr) (cap : Nat), e = .returned (.slice ad M.length cap) ∧ FsEnd L d back M ∧ PrCame w' ad M ∧ Below w.heap.size w w'
set_option maxRecDepth 100000 in
set_option maxHeartbeats 400000 in
theorem fastOf_any {w : World} {a1 : Option Addr} {c1 d : Nat} {L : List (Nat × Nat)} (hL : PrCame w a1 L) (hd : L.length = 2 ^ d) (hl : L.length ≤ 256) (back : Bool) : Calls Tryd.prog 17 #[.slice a1 L.length c1, .bool back] w (FsPost L d back w) := by
  have hcH : Calls Tryd.prog 37 #[.slice a1 L.length c1, .int .i64 0, .int .i64 1, .bool back] w (HvPost L 0 1 d back w) := halves_any back d (w := w) (a1 := a1) (c1 := c1) (L := L) 1 0 hL (by rw [Nat.one_mul]; exact hd) hl (by decide)
  have HD : HeldR (2 ^ d ≤ 100000) := hideR (by rw [← hd]; omega)
  have HX : HeldR (∀ X : List (Nat × Nat), HvR back d (fun i => L.getD (0 + i * 1) (0, 0)) (fun i => X.getD i (0, 0)) → HvR back d (fun i => L.getD i (0, 0)) (fun i => X.getD i (0, 0))) := hideR (fun X h => h.congr (fun i _ => by show L.getD i (0, 0) = L.getD (0 + i * 1) (0, 0); rw [Nat.mul_one, Nat.zero_add]))
  generalize hN : L.length = N at hcH hd hl ⊢
  clear hL hN hd
  go_enter Tryd.func17, Tryd.ntmps17
  go_wp2_with fail
  refine hcH.mono ?_
  rintro e w1 ⟨X, ad, cap, rfl, lX, rX, cX, bX⟩
  have hrX := unhideR HX X rX
  clear hcH rX
  cases hbk : back with
  | false =>
    have HR : HeldR (FsPost L d false w (.returned (.slice ad X.length cap)) w1) := hideR ⟨X, ad, cap, rfl, ⟨X, lX, by rw [← hbk]; exact hrX, fun _ => rfl, fun q => by cases q⟩, cX, bX⟩
    generalize X.length = m at *
    clear hrX lX cX bX HX
    subst hbk
    go_wp2
    go_ret
    exact unhideR HR
  | true =>
    have hov := over_any (c1 := cap) cX (by rw [lX]; exact unhideR HD)
    have HR : HeldR (∀ e w', OvPost X w1 e w' → ∃ v, e = .returned v ∧ FsPost L d true w (.returned v) w') := hideR (fun e w' h => by
      obtain ⟨M, v, rfl, g1, g2, g3⟩ := h
      obtain ⟨ad2, cap2, rfl, hc2⟩ := Prown g2
      rw [lX] at g1
      exact ⟨_, rfl, M, ad2, cap2, rfl, ⟨X, lX, by rw [← hbk]; exact hrX, (fun q => by cases q), fun _ => g1⟩, hc2, below_go bX g3⟩)
    generalize X.length = m at *
    clear hrX cX bX HX lX
    subst hbk
    go_wp2_with fail
    refine hov.mono ?_
    intro e w2 h
    obtain ⟨v, rfl, hp⟩ := unhideR HR e w2 h
    have HR2 := hideR hp
    clear hov h hp HR
    go_wp2
    go_ret
    exact unhideR HR2
end Go.Proofs.YtngdemhhcablmakDoor
