/-
  The program's Label by contract; the law of parts.
-/
import Derived.Test.YtgmaganajfcpbaiDoorDQ3
namespace Go.Proofs.YtgmaganajfcpbaiDoor
open Go Go.RowKit

def labE (n : Nat) (W : Int) : Int := if 65536 < n then 2 else if W < 1 ∨ n % W.toNat ≠ 0 then 5 else 0
def LabelPost (a : Nat → Addr) (L : List Bool) (W : Int) (w : World) (e : Ending) (w' : World) : Prop := ∃ (ad : Option Addr) (n cap p : Nat) (er : Value), e = .returned (.tuple #[.slice ad n cap, .int .i64 (p : Nat), er]) ∧ ErrIs a (labE L.length W) er ∧ Below w.heap.size w w' ∧
  (labE L.length W ≠ 0 → n = 0 ∧ p = 0) ∧ (labE L.length W = 0 → ∃ l, l.length = n ∧ IsLabels L W.toNat l p ∧ ICame w' ad l)
set_option maxRecDepth 100000 in
set_option maxHeartbeats 3200000 in
theorem label_any {a : Nat → Addr} {w : World} {ad : Option Addr} {cap : Nat} {L : List Bool} (hS : Sents w a) (hL : LCame w ad L) (W : Int) :
    Calls Tryd.prog 18 #[.slice ad L.length cap, .int .i64 W] w (LabelPost a L W w) := by
  obtain ⟨n, hn⟩ : ∃ n, L.length = n := ⟨_, rfl⟩
  have x1 := hS.g1
  have x4 := hS.g4
  have HBd : HeldR (∀ q, Below w.heap.size w (w.drewN q)) := hideR (fun q => ⟨rfl, rfl, rfl, Nat.le_refl _, fun _ _ => rfl⟩)
  have HEr : HeldR (∀ (q k : Nat), k < 10 → labE n W = (k : Int) + 1 → LabelPost a L W w (.returned (.tuple #[.slice none 0 0, .int .i64 0, .iface 158 (.pointer (some (a k)))])) (w.drewN q)) := hideR (fun q k hk e => by
    refine ⟨none, 0, 0, 0, _, rfl, ?_, unhideR HBd q, fun _ => ⟨rfl, rfl⟩, fun h => ?_⟩
    · rw [hn, e]; exact err_at k hk
    · rw [hn, e] at h; omega)
  by_cases h1 : 65536 < n
  · have t1 : decide ((65536 : Int) < (n : Int)) = true := decide_eq_true (by omega)
    have t1n : decide (65536 < n) = true := decide_eq_true h1
    have HF := fun q => unhideR HEr q 1 (by omega) (by unfold labE; rw [if_pos h1]; rfl)
    have HFF := hideR HF
    rw [hn]
    clear hL HEr HF hn hS
    go_enter Tryd.func18, Tryd.ntmps18
    go_wp2
    go_quiet (fail)
    go_wp2
    go_ret3
    exact unhideR HFF _
  · have t1 : decide ((65536 : Int) < (n : Int)) = false := decide_eq_false (by omega)
    have t1n : decide (65536 < n) = false := decide_eq_false h1
    by_cases h2 : W < 1
    · have t2 : decide (W < 1) = true := decide_eq_true h2
      have HF := fun q => unhideR HEr q 4 (by omega) (by unfold labE; rw [if_neg h1, if_pos (.inl h2)]; rfl)
      have HFF := hideR HF
      rw [hn]
      clear hL HEr HF hn hS
      go_enter Tryd.func18, Tryd.ntmps18
      go_wp2
      go_quiet (fail)
      go_wp2
      go_ret3
      exact unhideR HFF _
    · obtain ⟨V, rfl⟩ : ∃ V : Nat, W = (V : Nat) := ⟨W.toNat, by omega⟩
      have t2 : decide ((V : Int) < 1) = false := decide_eq_false h2
      have t2n : decide (V < 1) = false := decide_eq_false (by omega)
      have hV0 : (V : Int) ≠ 0 := by omega
      have hV0' : V ≠ 0 := by omega
      have hm1 : (n : Int) % (V : Int) = ((n % V : Nat) : Int) := (Int.natCast_emod n V).symm
      have hm2 : (n : Int).tmod (V : Int) = ((n % V : Nat) : Int) := (Int.tmod_eq_emod_of_nonneg (Int.natCast_nonneg n)).trans hm1
      have hmb : n % V ≤ n := Nat.mod_le _ _
      obtain ⟨r, hr⟩ : ∃ r, n % V = r := ⟨_, rfl⟩
      rw [hr] at hm1 hm2 hmb
      have wr : IntKind.i64.wrap (r : Int) = (r : Int) := iwrap (by omega) (by omega)
      by_cases h3 : r = 0
      · subst h3
        have hH : L.length = (n / V) * V := by
          rw [hn]
          have := Nat.div_add_mod n V
          rw [hr, Nat.mul_comm] at this
          omega
        have hnb := numbered_any (W := V) (cap := cap) hL (by omega) (n / V) hH (by omega)
        have hE0 : labE n (V : Nat) = 0 := by
          unfold labE
          rw [if_neg h1, if_neg]
          rintro (q | q)
          · omega
          · rw [Int.toNat_natCast] at q
            exact q hr
        have HF : HeldR (∀ e u, LbPost L V w e u → ∃ (ad : Option Addr) (n cap p : Nat), e = .returned (.tuple #[.slice ad n cap, .int .i64 (p : Nat)]) ∧ HeldR (LabelPost a L (V : Nat) w (.returned (.tuple #[.slice ad n cap, .int .i64 (p : Nat), .nilIface])) u)) := hideR (by
          rintro e u ⟨ad2, c2, l, p, rfl, hl, _, hc, hb⟩
          refine ⟨_, _, _, _, rfl, hideR ⟨ad2, _, c2, p, _, rfl, ?_, hb, fun q => ?_, fun _ => ⟨l, hl.len, ?_, hc⟩⟩⟩
          · rw [hn, hE0]; exact .inl ⟨rfl, rfl⟩
          · rw [hn, hE0] at q; exact absurd rfl q
          · rw [Int.toNat_natCast]; exact hl)
        rw [hn] at hnb ⊢
        clear hL HEr hn hS hH hE0 hr
        go_enter Tryd.func18, Tryd.ntmps18
        go_wp2_with fail
        refine hnb.mono ?_
        intro e u hp
        obtain ⟨a2, n2, c2, p2, rfl, HR⟩ := unhideR HF e u hp
        clear hp hnb
        go_wp2
        go_ret3
        exact unhideR HR
      · have t3 : decide ((r : Int) = 0) = false := decide_eq_false (by omega)
        have t3n : decide (r = 0) = false := decide_eq_false h3
        have HF := fun q => unhideR HEr q 4 (by omega) (by
          unfold labE
          rw [if_neg h1, if_pos (.inr (by rw [Int.toNat_natCast, hr]; exact h3))]
          rfl)
        have HFF := hideR HF
        rw [hn]
        clear hL HEr HF hn hS hr
        go_enter Tryd.func18, Tryd.ntmps18
        go_wp2
        go_quiet (fail)
        go_wp2
        go_ret3
        exact unhideR HFF _
end Go.Proofs.YtgmaganajfcpbaiDoor
