/-
  How far one goes along pixels: the program's, by contract.
-/
import Derived.Test.YtmgnobeaacjdjajGreatDoorDZ3
namespace Go.Proofs.YtmgnobeaacjdjajGreatDoor
open Go Go.RowKit

def RhPost (D : List Px) (hund : Int) (w : World) (e : Ending) (w' : World) : Prop := ∃ k, k < D.length ∧ e = .returned (.int .i64 (D.getD k px0).far) ∧ hund ≤ 100 * csP (D.take (k + 1)) ∧ 100 * csP (D.take k) < hund ∧ Below w.heap.size w w'
/-- behind k pixels. -/
def Along (D : List Px) (hund : Int) (k : Nat) (F : Int) : Prop := (k = 0 ∧ F = 0) ∨ ∃ j, k = j + 1 ∧ F = (D.getD j px0).far ∧ 100 * csP (D.take j) < hund
theorem two_at {w : World} {g : Nat} {x y : Int} {ty : TypeId} (h : w.heap[g]? = some (.cells #[.int .i64 x, .int .i64 y] ty)) : w.cell? ⟨g, 0, none⟩ = some (.int .i64 x) ∧ w.cell? ⟨g, 1, none⟩ = some (.int .i64 y) :=
  ⟨(cells_at h 0 (by simp)).1, (cells_at h 1 (by simp)).1⟩
set_option maxRecDepth 100000 in
set_option maxHeartbeats 3200000 in
theorem reach_any {w : World} {ad : Option Addr} {cap : Nat} {D : List Px} {hund : Int} (hc : PxCame w ad D) (hb : ∀ k, 0 ≤ csP (D.take k) ∧ csP (D.take k) ≤ 4700000000) (hz : 0 < D.length) (hl : D.length ≤ 100000) (h0 : 0 < hund) (h1 : hund ≤ 100 * csP D) :
    Calls Tryz.prog 22 #[.slice ad D.length cap, .int .i64 hund] w (RhPost D hund w) := by
  have HC := hideR hc
  have HBd := hideR hb
  have HEnd : HeldR (∀ k F u, Along D hund k F → k ≤ D.length → hund ≤ 100 * csP (D.take k) → Below w.heap.size w u → RhPost D hund w (.returned (.int .i64 F)) u) := hideR (fun k F u ha hk hh kb => by
    rcases ha with ⟨rfl, _⟩ | ⟨j, rfl, rfl, hj⟩
    · rw [List.take_zero] at hh
      simp only [csP] at hh
      omega
    · exact ⟨j, by omega, rfl, hh, hj, kb⟩)
  have HLast : HeldR (hund ≤ 100 * csP (D.take D.length)) := hideR (by rw [List.take_length]; exact h1)
  have HNx : HeldR (∀ k, k < D.length → csP (D.take (k + 1)) = csP (D.take k) + (D.getD k px0).cnt) := hideR (fun k hk => by
    rw [take_next hk, csP_app]
    simp [csP])
  obtain ⟨N, hN⟩ : ∃ N, D.length = N := ⟨_, rfl⟩
  have HN := hideR hN
  rw [hN] at hz hl HEnd HLast HNx ⊢
  clear hc hb h1 hN
  go_enter Tryz.func22, Tryz.ntmps22
  go_wp2
  go_loopw [5, 6, 11] (fun fv sv iv wl => ∃ (k : Nat) (F : Int), k ≤ N ∧ iv = .int .i64 (k : Nat) ∧ fv = .int .i64 F ∧ sv = .int .i64 (csP (D.take k)) ∧ HeldR (Along D hund k F) ∧ HeldR (Below w.heap.size w wl)) (fun _ _ iv _ => N + 1 - (intOf iv).toNat)
  case atStart => exact ⟨0, 0, by omega, rfl, rfl, by rw [List.take_zero]; rfl, hideR (.inl ⟨rfl, rfl⟩), hideR (Below.refl _ _)⟩
  case round =>
    obtain ⟨k, F, hk, rfl, rfl, rfl, HA, HB⟩ := hrel
    have hbd := unhideR HBd k
    obtain ⟨sm, hsm⟩ : ∃ sm, csP (D.take k) = sm := ⟨_, rfl⟩
    have HSm := hideR hsm
    rw [hsm] at hbd ⊢
    have ws : IntKind.i64.wrap (100 * sm) = 100 * sm := iwrap (by omega) (by omega)
    by_cases hlt : k < N
    · have tk : decide (k < N) = true := decide_eq_true hlt
      have jk : (k : Int) < (N : Int) := by omega
      have wk : IntKind.i64.wrap ((k : Int) + 1) = ((k + 1 : Nat) : Int) := by rw [show (k : Int) + 1 = ((k + 1 : Nat) : Int) by omega]; exact iwrap (by omega) (by omega)
      obtain ⟨b1, o1, rfl, hb1, x1⟩ := ((unhideR HC).below (unhideR HB)).at_ k (by rw [unhideR HN]; exact hlt)
      have hnx := unhideR HNx k hlt
      have hbn := unhideR HBd (k + 1)
      rw [hnx, hsm] at hbn
      rw [hsm] at hnx
      have HAn : 100 * sm < hund → HeldR (Along D hund (k + 1) (D.getD k px0).far) := fun q => hideR (.inr ⟨k, rfl, rfl, by rw [hsm]; exact q⟩)
      obtain ⟨fr, hfr⟩ : ∃ fr, (D.getD k px0).far = fr := ⟨_, rfl⟩
      obtain ⟨ct, hct⟩ : ∃ ct, (D.getD k px0).cnt = ct := ⟨_, rfl⟩
      obtain ⟨y0, y1⟩ := x1
      rw [hfr] at y0 HAn
      rw [hct] at y1 hnx hbn
      have HNn := hideR hnx
      have wn : IntKind.i64.wrap (sm + ct) = sm + ct := iwrap (by omega) (by omega)
      have k5 := below_a wr (.cells #[.int .i64 fr, .int .i64 ct] 61)
      have HB5 := hideR (below_go (unhideR HB) k5)
      obtain ⟨z0, z1⟩ := two_at (alloc_last wr (.cells #[.int .i64 fr, .int .i64 ct] 61))
      clear hnx hsm hfr hct k5 hb1
      by_cases hq : hund ≤ 100 * sm
      · have tq : decide (hund ≤ 100 * sm) = true := decide_eq_true hq
        have HF := hideR (unhideR HEnd k F (wr.alloc (.cells #[.int .i64 fr, .int .i64 ct] 61)) (unhideR HA) hk (by rw [unhideR HSm]; exact hq) (unhideR HB5))
        clear HAn HA hq
        go_wp2
        go_ret
        exact unhideR HF
      · have tq : decide (hund ≤ 100 * sm) = false := decide_eq_false hq
        have HA2 := HAn (by omega)
        clear HAn HA
        go_wp2
        exact ⟨⟨k + 1, fr, by omega, rfl, rfl, by rw [unhideR HNn], HA2, HB5⟩, by simp [intOf]; omega⟩
    · obtain rfl : k = N := by omega
      have tk : decide (k < k) = false := decide_eq_false hlt
      have HF := hideR (unhideR HEnd k F wr (unhideR HA) hk (unhideR HLast) (unhideR HB))
      clear HA
      go_wp2
      go_ret
      exact unhideR HF
end Go.Proofs.YtmgnobeaacjdjajGreatDoor
