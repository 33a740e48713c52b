/-
  How long spans are, by the program, by contract.
-/
import Derived.Test.YtoacdaemhcbbhaaDoorDS5
namespace Go.Proofs.YtoacdaemhcbbhaaDoor
open Go Go.RowKit

theorem long_end {l : List Spn} (h : rightV l = true) (k : Nat) (hk : k ≤ l.length) : 0 ≤ longK l k ∧ longK l k ≤ 2305843009213693952 := by
  rcases Nat.eq_zero_or_pos k with rfl | hp
  · exact ⟨Int.le_refl _, by show (0 : Int) ≤ _; omega⟩
  · obtain ⟨m, rfl⟩ : ∃ m, k = m + 1 := ⟨k - 1, by omega⟩
    have a := long_in h m (by omega)
    have b := right_in h (k := m) (by omega)
    unfold longK
    omega
def LongPost (a : Nat → Addr) (A : List Spn) (w : World) (e : Ending) (w' : World) : Prop := ∃ (n : Int) (x : Value), e = .returned (.tuple #[.int .i64 n, x]) ∧ ErrIs a (spE A []) x ∧ (spE A [] = 0 → n = longK A A.length) ∧ Below w.heap.size w w'
set_option maxRecDepth 100000 in
set_option maxHeartbeats 3200000 in
theorem long_ok (a : Nat → Addr) : LongOK a := by
  intro ad c A w hSe hr hl
  show Calls _ _ _ _ (LongPost a A w)
  have hva := valid_one a ad c A w hSe hr hl
  have HR := hideR hr
  clear hr hSe
  go_enter Tryd.func54, Tryd.ntmps54
  go_wp2_with fail
  refine hva.mono ?_
  rintro e w1 ⟨y, rfl, hy, k1⟩
  have HW := hideR k1
  clear k1 hva
  rcases hy with ⟨hy0, rfl⟩ | ⟨k, hk, hyk, rfl⟩
  case inr =>
    have HF : HeldR (LongPost a A w (.returned (.tuple #[.int .i64 0, .iface 190 (.pointer (some (a k)))])) w1) := ⟨0, _, rfl, by rw [hyk]; exact err_at k hk, fun q => by omega, unhideR HW⟩
    clear hyk
    go_wp2
    go_ret2
    exact unhideR HF
  case inl =>
    have hq := hy0
    rw [spE_nil] at hq
    have h4 : A.length ≤ 4000 := by
      by_cases q : 4000 < A.length
      · rw [if_pos q] at hq
        cases hq
      · omega
    have hR : rightV A = true := by
      rw [if_neg (by omega)] at hq
      cases e : rightV A with
      | true => rfl
      | false =>
        rw [if_pos e] at hq
        cases hq
    have HY := hideR hy0
    have HRt := hideR hR
    have HL := hideR (fun k hk => long_end hR k hk)
    have HP : HeldR (∀ wl, Below w.heap.size w wl → LongPost a A w (.returned (.tuple #[.int .i64 (longK A A.length), .nilIface])) wl) := fun wl k => ⟨_, _, rfl, .inl ⟨unhideR HY, rfl⟩, fun _ => rfl, k⟩
    clear hq hy0 hR
    go_wp2
    go_loopw [5, 16] (fun nv kv wl => ∃ k : Nat, k ≤ A.length ∧ kv = .int .i64 (k : Nat) ∧ nv = .int .i64 (longK A k) ∧ HeldR (Below w.heap.size w wl)) (fun _ kv _ => A.length + 1 - (intOf kv).toNat)
    case atStart => exact ⟨0, by omega, rfl, rfl, HW⟩
    case round =>
      clear HW
      obtain ⟨k, hk, rfl, rfl, HK⟩ := hrel
      by_cases hlt : k < A.length
      · obtain ⟨b, off, rfl, hb, hat⟩ := ((unhideR HR).below (unhideR HK)).at_ k hlt
        obtain ⟨c0, c1⟩ := hat
        have q1 := unhideR HL k hk
        have q2 := unhideR HL (k + 1) hlt
        have q3 := right_in (unhideR HRt) hlt
        have eN : longK A (k + 1) = longK A k + ((A.getD k sp0).t - (A.getD k sp0).f) := rfl
        have HEN := hideR eN
        rw [eN] at q2
        clear eN
        generalize A.getD k sp0 = s at *
        generalize hn : longK A k = n at *
        have w1' : IntKind.i64.wrap (s.t - s.f) = s.t - s.f := iwrap (by omega) (by omega)
        have w2' : IntKind.i64.wrap (n + (s.t - s.f)) = n + (s.t - s.f) := iwrap (by omega) (by omega)
        have HK2 := fun o => hideR (below_go (unhideR HK) (below_a wr o))
        clear HK hn
        go_wp2
        exact ⟨⟨k + 1, by omega, by go_num, by rw [unhideR HEN], HK2 _⟩, by simp [intOf]; omega⟩
      · obtain rfl : k = A.length := by omega
        have HF := hideR (unhideR HP _ (unhideR HK))
        clear HP
        generalize longK A A.length = n at *
        go_wp2
        go_ret2
        exact unhideR HF
end Go.Proofs.YtoacdaemhcbbhaaDoor
