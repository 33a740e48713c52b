/-
  The law's planned, by contract.
-/
import Derived.Test.YtoacdaemhcbbhaaDoorNgG8
namespace Go.Proofs.YtoacdaemhcbbhaaDoor
open Go Go.RowKit

def nmA : ByteArray := ⟨#[97]⟩
def lA : List Jb := [⟨nmA, [⟨0, 9⟩], 5, 3⟩]
theorem lA_ok : joE lA = 0 := by
  unfold joE
  rw [if_neg (by decide), if_neg, if_neg]
  · rintro ⟨i, h1, h2⟩
    obtain rfl : i = 0 := by have : lA.length = 1 := rfl; omega
    revert h2
    decide +kernel
  · rintro ⟨i, h1, h2⟩
    obtain rfl : i = 0 := by have : lA.length = 1 := rfl; omega
    revert h2
    decide +kernel
theorem lA_best {b : Nat} (h : BestI lA b) : (rowV (jo lA) tMin b).wo = 3 ∧ (slL lA (backL (jo lA) tMin 6 b)).length = 1 := by
  have h1 := h.lt
  have h3 := h.le 1 (by decide)
  have e1 : (rowV (jo lA) tMin 1).wo = 3 := by decide +kernel
  have h1 : b < 2 := h1
  rcases (show b = 0 ∨ b = 1 by omega) with rfl | rfl
  · have e0 : (rowV (jo lA) tMin 0).wo = 0 := rfl
    omega
  · exact ⟨e1, by decide +kernel⟩
set_option maxRecDepth 100000 in
set_option maxHeartbeats 1600000 in
theorem planned_any {a : Nat → Addr} {w : World} (hS : Sents w a) :
    Calls Tryd.prog 6 #[] w fun e w' => e = .returned (.bool true) ∧ Below w.heap.size w w' := by
  have b1 := below_a w (.cells #[.int .i64 0, .int .i64 9] 69)
  have b2 := below_a (w.alloc (.cells #[.int .i64 0, .int .i64 9] 69)) (.cells #[.string ⟨#[97]⟩, .slice (some ⟨w.heap.size, 0, none⟩) 1 1, .int .i64 5, .int .i64 3] 72)
  have z1 := keepB (alloc_last w (.cells #[.int .i64 0, .int .i64 9] 69)) b2
  have z2 := alloc_last (w.alloc (.cells #[.int .i64 0, .int .i64 9] 69)) (.cells #[.string ⟨#[97]⟩, .slice (some ⟨w.heap.size, 0, none⟩) 1 1, .int .i64 5, .int .i64 3] 72)
  rw [World.size_alloc] at z2
  have HB := hideR (below_go b1 b2)
  have hl : JbCame ((w.alloc (.cells #[.int .i64 0, .int .i64 9] 69)).alloc (.cells #[.string ⟨#[97]⟩, .slice (some ⟨w.heap.size, 0, none⟩) 1 1, .int .i64 5, .int .i64 3] 72)) (some ⟨w.heap.size + 1, 0, none⟩) lA := ⟨fun k hk => by
    obtain rfl : k = 0 := by have : lA.length = 1 := rfl; omega
    refine ⟨_, 0, rfl, ltB z2, ⟨(cells_at z2 0 (by simp)).1, ⟨_, _, (cells_at z2 1 (by simp)).1, ⟨fun k hk => ?_⟩⟩, (cells_at z2 2 (by simp)).1, (cells_at z2 3 (by simp)).1⟩⟩
    obtain rfl : k = 0 := by have : (lA.getD 0 jb0).ws.length = 1 := rfl; omega
    exact ⟨_, 0, rfl, ltB z1, ⟨(cells_at z1 0 (by simp)).1, (cells_at z1 1 (by simp)).1⟩⟩⟩
  have hbe := pbest_any (a := a) (cap := 1) (hS.below (unhideR HB) (Nat.le_refl _)) hl (Nat.le_refl _) (by decide) (fun k hk => by
    obtain rfl : k = 0 := by have : lA.length = 1 := rfl; omega
    decide) (.inl (by decide))
  have hlen : lA.length = 1 := rfl
  rw [hlen] at hbe
  clear hl z1 z2 b1 b2 hS
  go_enter Tryd.func6, Tryd.ntmps6
  go_wp2_with fail
  refine hbe.mono ?_
  rintro e u2 ⟨h1, k2⟩
  have HB2 := hideR (below_go (unhideR HB) k2)
  clear hbe k2 HB hlen
  rcases h1 with ⟨h1, _⟩ | ⟨_, b, ad, cap, hb, rfl, _⟩
  · exact absurd lA_ok h1
  obtain ⟨hw, hn⟩ := lA_best hb
  rw [hw, hn]
  clear hw hn hb
  go_wp2
  go_ret
  exact ⟨rfl, unhideR HB2⟩
end Go.Proofs.YtoacdaemhcbbhaaDoor
