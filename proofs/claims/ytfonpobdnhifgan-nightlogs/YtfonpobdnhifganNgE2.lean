/-
  A result's bytes and their sum: the program's numbersOf, sumBehind, resultOf, by contract.
-/
import Derived.Test.YtfonpobdnhifganNgE1
import Derived.Test.YtfonpobdnhifganNgL0
namespace Go.Proofs.Ytfonpobdnhifgan
open Go Go.RowKit

def numsF (V : List Int) : Nat → Bs
  | 0 => []
  | i + 1 => numsF V i ++ leB 8 (u64 (V.getD i 0))
theorem numsF_len (V : List Int) : ∀ i, (numsF V i).length = 8 * i
  | 0 => rfl
  | i + 1 => by
    show (numsF V i ++ leB 8 _).length = _
    rw [List.length_append, numsF_len V i, leB_len]
    omega
theorem numsF_rec (r : Res) : numsF [r.i, r.s, r.l] 3 = recB r := by
  show (([] ++ leB 8 (u64 r.i)) ++ leB 8 (u64 r.s)) ++ leB 8 (u64 r.l) = _
  unfold recB
  rw [List.nil_append, List.append_assoc]
theorem own_lower {w : World} {A B n s : Nat} {e : TypeId} {v : Value} {xs : List Value} (h : w.ownsRow B e s v n xs) (hb : A ≤ B) : w.ownsRow A e s v n xs := ⟨h.1, h.2.imp id fun ⟨g, cap, cur, h1, h2, h3⟩ => ⟨g, cap, cur, h1, Nat.le_trans hb h2, h3⟩⟩
set_option maxRecDepth 100000 in
set_option maxHeartbeats 3200000 in
theorem pnums_any (r : Res) (w : World) : Calls Try.prog 12 #[r.val] w (RowPost w.heap.size w (recB r)) := by
  have HP : HeldR (∀ v' w', BOwn w' w.heap.size v' (numsF [r.i, r.s, r.l] 3) → Below w.heap.size w w' → RowPost w.heap.size w (recB r) (.returned v') w') := hideR (fun v' w' h1 h2 => ⟨v', rfl, by rw [← numsF_rec]; exact h1, h2⟩)
  generalize RowPost w.heap.size w (recB r) = POST at *
  unfold Res.val
  have z0 := alloc_last w (.cells #[.int .i64 r.i, .int .i64 r.s, .int .i64 r.l] 28)
  have x0 := (cells_at z0 0 (by simp)).1
  have x1 := (cells_at z0 1 (by simp)).1
  have x2 := (cells_at z0 2 (by simp)).1
  have hb1 := below_a w (.cells #[.int .i64 r.i, .int .i64 r.s, .int .i64 r.l] 28)
  have z1 := alloc_last (w.alloc (.cells #[.int .i64 r.i, .int .i64 r.s, .int .i64 r.l] 28)) (.cells #[.int .i64 r.i, .int .i64 r.s, .int .i64 r.l] 3)
  have hb2 := below_go hb1 (below_a _ (.cells #[.int .i64 r.i, .int .i64 r.s, .int .i64 r.l] 3))
  rw [World.size_alloc] at z1
  have HZ := hideR z1
  have HB0 := hideR hb2
  clear z0 z1 hb1 hb2
  have HV : HeldR (∀ u : World, u.heap[w.heap.size + 1]? = some (.cells #[.int .i64 r.i, .int .i64 r.s, .int .i64 r.l] 3) → ∀ i, i < 3 → u.cell? ⟨w.heap.size + 1, i, none⟩ = some (.int .i64 ([r.i, r.s, r.l].getD i 0))) := hideR (fun u hu i hi => by
    have : i = 0 ∨ i = 1 ∨ i = 2 := by omega
    rcases this with rfl | rfl | rfl
    · exact (cells_at hu 0 (by simp)).1
    · exact (cells_at hu 1 (by simp)).1
    · exact (cells_at hu 2 (by simp)).1)
  go_enter Try.func12, Try.ntmps12
  go_wp2_with fail
  clear x0 x1 x2
  generalize (w.alloc (.cells #[.int .i64 r.i, .int .i64 r.s, .int .i64 r.l] 28)).alloc (.cells #[.int .i64 r.i, .int .i64 r.s, .int .i64 r.l] 3) = u0 at *
  generalize [r.i, r.s, r.l] = V at *
  go_loopw [3, 14] (fun bv iv wl => ∃ (i : Nat), i ≤ 3 ∧ iv = .int .i64 (i : Nat) ∧ HeldR (BOwn wl u0.heap.size bv (numsF V i)) ∧ HeldR (Below u0.heap.size u0 wl)) (fun _ iv _ => 4 - (intOf iv).toNat)
  case atStart => exact ⟨0, by omega, rfl, hideR (World.ownsRow_nil _ _ _ _), hideR (Below.refl _ _)⟩
  case round =>
    obtain ⟨i, hi, rfl, HO, HB⟩ := hrel
    by_cases q : i < 3
    · have ti : decide ((i : Int) < 3) = true := decide_eq_true (by omega)
      have tin : decide (i < 3) = true := decide_eq_true q
      have wi : IntKind.i64.wrap ((i : Int) + 1) = (i : Int) + 1 := iwrap (by omega) (by omega)
      have hii : (i : Int) < 3 := by omega
      have hc := unhideR HV wr (keepB (unhideR HZ) (unhideR HB)) i q
      have hl := plow_any (u64 (V.getD i 0)) 8 (unhideR HB).size (unhideR HO) (u64_lt _) (by omega) (by rw [numsF_len]; omega)
      have hw := wrap_u64 (V.getD i 0)
      obtain ⟨n, hn⟩ : ∃ n, V.getD i 0 = n := ⟨_, rfl⟩
      have HN : HeldR (numsF V i ++ leB 8 (u64 n) = numsF V (i + 1)) := hideR (by rw [← hn]; rfl)
      rw [hn] at hc hl hw
      obtain ⟨ad, cap, e⟩ := (unhideR HO).slice
      subst e
      have hl8 : ((8 : Nat) : Int) = 8 := rfl
      rw [hl8] at hl
      clear hn HO
      go_wp2_with fail
      refine hl.mono ?_
      rintro r1 u1 ⟨v1, rfl, h1, k1⟩
      have HO2 := hideR (show BOwn u1 u0.heap.size v1 (numsF V (i + 1)) from unhideR HN ▸ h1)
      have HB2 := hideR ((unhideR HB).trans k1)
      clear h1 k1 hl hc HB HN
      go_wp2
      exact ⟨⟨i + 1, by omega, by go_num, HO2, HB2⟩, by simp [intOf]; omega⟩
    · obtain rfl : i = 3 := by omega
      have ti : decide (((3 : Nat) : Int) < 3) = false := decide_eq_false (by omega)
      have tin : decide ((3 : Nat) < 3) = false := decide_eq_false (by omega)
      go_wp2
      exact unhideR HP _ _ (own_lower (unhideR HO) (unhideR HB0).size) ((unhideR HB0).trans ((unhideR HB).mono (unhideR HB0).size))
end Go.Proofs.Ytfonpobdnhifgan
