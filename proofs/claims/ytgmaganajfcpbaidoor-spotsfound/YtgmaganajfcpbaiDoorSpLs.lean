/-
  The document's least number around, by contract.
-/
import Derived.Test.YtgmaganajfcpbaiDoorPureA
import Derived.Test.YtgmaganajfcpbaiDoorSpKA
namespace Go.Proofs.YtgmaganajfcpbaiDoor
open Go Go.RowKit

def LsPost (v : List Int) (W i : Nat) (w : World) (e : Ending) (w' : World) : Prop := ∃ m : Int, e = .returned (.int .i64 m) ∧ Least v W i m ∧ w' = w
set_option maxRecDepth 100000 in
set_option maxHeartbeats 6400000 in
theorem least_any {w : World} {ad : Option Addr} {cap i W : Nat} {v : List Int} (hr : ICame w ad v) (hi : i < v.length) (hW : 1 ≤ W) (hWb : W ≤ 100000) (hn : v.length ≤ 100000) :
    Calls Tryd.prog 35 #[.slice ad v.length cap, .int .i64 (i : Nat), .int .i64 (W : Nat)] w (LsPost v W i w) := by
  obtain ⟨bl, ol, rfl, hbl, xi⟩ := hr.at_ i hi
  have HR := hideR hr
  obtain ⟨n, hnn⟩ : ∃ n, v.length = n := ⟨_, rfl⟩
  have HN := hideR hnn
  rw [hnn] at hi hn ⊢
  have hm1 : (i : Int) % (W : Int) = ((i % W : Nat) : Int) := (Int.natCast_emod i W).symm
  have hm2 : (i : Int).tmod (W : Int) = ((i % W : Nat) : Int) := (Int.tmod_eq_emod_of_nonneg (Int.natCast_nonneg i)).trans hm1
  have hxW : i % W < W := Nat.mod_lt _ (by omega)
  obtain ⟨x, hx⟩ : ∃ x, i % W = x := ⟨_, rfl⟩
  rw [hx] at hm1 hm2 hxW
  have HX := hideR hx
  have HV0 := hideR (vis0 v W i)
  have hW0 : (W : Int) ≠ 0 := by omega
  have hW0' : W ≠ 0 := by omega
  have wx : IntKind.i64.wrap (x : Int) = (x : Int) := iwrap (by omega) (by omega)
  have j0 : (i : Int) < (n : Int) := by omega
  have HEnd : HeldR (∀ best, Vis v W i 3 0 best → LsPost v W i w (.returned (.int .i64 best)) w) := hideR (fun best h => ⟨best, rfl, h.done hW, rfl⟩)
  clear hr hnn hx
  generalize hb0 : v.getD i 0 = b0 at xi HV0
  clear hb0
  go_enter Tryd.func35, Tryd.ntmps35
  go_wp2
  go_loop [7, 9] (fun bv yv => ∃ (a : Nat) (dy best : Int), HeldR ((a : Int) = dy + 1) ∧ -1 ≤ dy ∧ dy ≤ 2 ∧ bv = .int .i64 best ∧ yv = .int .i64 dy ∧ HeldR (Vis v W i a 0 best)) (fun _ yv => (3 - intOf yv).toNat)
  case atStart => exact ⟨0, -1, b0, hideR (by omega), by omega, by omega, rfl, rfl, HV0⟩
  case round =>
    obtain ⟨a, dy, best, HA, hd1, hd2, rfl, rfl, HVi0⟩ := hrel
    by_cases hdy : dy ≤ 1
    · have wdy : IntKind.i64.wrap (dy + 1) = dy + 1 := iwrap (by omega) (by omega)
      obtain ⟨DW, hDW⟩ : ∃ DW, dy * (W : Int) = DW := ⟨_, rfl⟩
      have hDb : DW = -(W : Int) ∨ DW = 0 ∨ DW = (W : Int) := by
        rw [← hDW]
        rcases (show dy = -1 ∨ dy = 0 ∨ dy = 1 by omega) with e | e | e
        · subst e; left; omega
        · subst e; right; left; omega
        · subst e; right; right; omega
      have wDW : IntKind.i64.wrap (dy * (W : Int)) = DW := by rw [hDW]; exact iwrap (by omega) (by omega)
      have HDW := hideR hDW
      obtain ⟨I1, hI1⟩ : ∃ I1, (i : Int) + DW = I1 := ⟨_, rfl⟩
      have wI1 : IntKind.i64.wrap ((i : Int) + DW) = I1 := by rw [hI1]; exact iwrap (by omega) (by omega)
      have hI1b : -200000 ≤ I1 ∧ I1 ≤ 200000 := by omega
      have HI1 := hideR hI1
      clear hDW hI1 hDb
      go_wp2
      go_loop [7, 10] (fun bv xv => ∃ (c : Nat) (dx best : Int), HeldR ((c : Int) = dx + 1) ∧ -1 ≤ dx ∧ dx ≤ 2 ∧ c ≤ 3 ∧ xv = .int .i64 dx ∧ bv = .int .i64 best ∧ HeldR (Vis v W i a c best)) (fun _ xv => (3 - intOf xv).toNat)
      case atStart => exact ⟨0, -1, best, hideR (by omega), by omega, by omega, by omega, rfl, rfl, HVi0⟩
      case round =>
        clear HVi0
        obtain ⟨c, dx, best, HC, hx1, hx2, hc3, rfl, rfl, HVi⟩ := hrel
        have hcx := unhideR HC
        by_cases hdx : dx ≤ 1
        · have wdx : IntKind.i64.wrap (dx + 1) = dx + 1 := iwrap (by omega) (by omega)
          have HC2 : HeldR (((c + 1 : Nat) : Int) = dx + 1 + 1) := hideR (by omega)
          obtain ⟨K, hK⟩ : ∃ K, I1 + dx = K := ⟨_, rfl⟩
          have wK : IntKind.i64.wrap (I1 + dx) = K := by rw [hK]; exact iwrap (by omega) (by omega)
          obtain ⟨XD, hXD⟩ : ∃ XD, (x : Int) + dx = XD := ⟨_, rfl⟩
          have wXD : IntKind.i64.wrap ((x : Int) + dx) = XD := by rw [hXD]; exact iwrap (by omega) (by omega)
          have HNb : HeldR (∀ k : Nat, NbAt W v.length i a c k ↔ ((k : Int) = K ∧ 0 ≤ XD ∧ XD < (W : Int) ∧ k < n)) := hideR (fun k => by
            have ea := unhideR HA
            have eN := unhideR HN
            have eX := unhideR HX
            have eD := unhideR HDW
            have eI := unhideR HI1
            unfold NbAt
            rw [eX, eN, show (a : Int) - 1 = dy by omega, show (c : Int) - 1 = dx by omega, eD]
            constructor
            · rintro ⟨_, _, h1, h2, h3, h4⟩
              exact ⟨by omega, by omega, by omega, h4⟩
            · rintro ⟨h1, h2, h3, h4⟩
              exact ⟨by omega, by omega, by omega, by omega, by omega, h4⟩)
          have hc4 : c + 1 ≤ 3 := by omega
          clear hcx hK hXD
          by_cases s1 : XD < 0
          · have t1 : decide (XD < 0) = true := decide_eq_true s1
            have HVi2 := hideR ((unhideR HVi).skip (fun m nb => by have q := (unhideR HNb m).1 nb; omega))
            clear HVi HNb
            go_wp2
            exact ⟨⟨c + 1, dx + 1, best, HC2, by omega, by omega, hc4, by go_num, rfl, HVi2⟩, by simp [intOf]; omega⟩
          by_cases s2 : (W : Int) ≤ XD
          · have t1 : decide (XD < 0) = false := decide_eq_false s1
            have t2 : decide ((W : Int) ≤ XD) = true := decide_eq_true s2
            have HVi2 := hideR ((unhideR HVi).skip (fun m nb => by have q := (unhideR HNb m).1 nb; omega))
            clear HVi HNb
            go_wp2
            exact ⟨⟨c + 1, dx + 1, best, HC2, by omega, by omega, hc4, by go_num, rfl, HVi2⟩, by simp [intOf]; omega⟩
          by_cases s3 : K < 0
          · have t1 : decide (XD < 0) = false := decide_eq_false s1
            have t2 : decide ((W : Int) ≤ XD) = false := decide_eq_false s2
            have t3 : decide (K < 0) = true := decide_eq_true s3
            have HVi2 := hideR ((unhideR HVi).skip (fun m nb => by have q := (unhideR HNb m).1 nb; omega))
            clear HVi HNb
            go_wp2
            exact ⟨⟨c + 1, dx + 1, best, HC2, by omega, by omega, hc4, by go_num, rfl, HVi2⟩, by simp [intOf]; omega⟩
          by_cases s4 : (n : Int) ≤ K
          · have t1 : decide (XD < 0) = false := decide_eq_false s1
            have t2 : decide ((W : Int) ≤ XD) = false := decide_eq_false s2
            have t3 : decide (K < 0) = false := decide_eq_false s3
            have t4 : decide ((n : Int) ≤ K) = true := decide_eq_true s4
            have HVi2 := hideR ((unhideR HVi).skip (fun m nb => by have q := (unhideR HNb m).1 nb; omega))
            clear HVi HNb
            go_wp2
            exact ⟨⟨c + 1, dx + 1, best, HC2, by omega, by omega, hc4, by go_num, rfl, HVi2⟩, by simp [intOf]; omega⟩
          obtain ⟨k, rfl⟩ : ∃ k : Nat, K = (k : Nat) := ⟨K.toNat, by omega⟩
          have hk : k < n := by omega
          have hkl : k < v.length := by rw [unhideR HN]; exact hk
          have HNk := hideR ((unhideR HNb k).2 ⟨rfl, by omega, by omega, hk⟩)
          obtain ⟨bl', ol', e, _, xk⟩ := (unhideR HR).at_ k hkl
          cases e
          have HVn := hideR ((unhideR HVi).look hW (unhideR HNk))
          have t1 : decide (XD < 0) = false := decide_eq_false s1
          have t2 : decide ((W : Int) ≤ XD) = false := decide_eq_false s2
          have t4 : decide ((n : Int) ≤ (k : Nat)) = false := decide_eq_false s4
          have t4n : decide (n ≤ k) = false := decide_eq_false (by omega)
          have j1 : (k : Int) < (n : Int) := by omega
          generalize v.getD k 0 = vk at xk HVn
          clear HVi HNb HNk s1 s2 s3 s4
          by_cases p1 : 0 < vk
          · by_cases p2 : vk < best
            · rw [if_pos ⟨p1, p2⟩] at HVn
              go_wp2
              exact ⟨⟨c + 1, dx + 1, vk, HC2, by omega, by omega, hc4, by go_num, rfl, HVn⟩, by simp [intOf]; omega⟩
            · rw [if_neg (fun q => p2 q.2)] at HVn
              go_wp2
              exact ⟨⟨c + 1, dx + 1, best, HC2, by omega, by omega, hc4, by go_num, rfl, HVn⟩, by simp [intOf]; omega⟩
          · rw [if_neg (fun q => p1 q.1)] at HVn
            go_wp2
            exact ⟨⟨c + 1, dx + 1, best, HC2, by omega, by omega, hc4, by go_num, rfl, HVn⟩, by simp [intOf]; omega⟩
        · obtain rfl : c = 3 := by omega
          have HVr := hideR (unhideR HVi).row
          have HA2 : HeldR (((a + 1 : Nat) : Int) = dy + 1 + 1) := hideR (by have := unhideR HA; omega)
          clear HVi hcx
          go_wp2
          exact ⟨⟨a + 1, dy + 1, best, HA2, by omega, by omega, rfl, by go_num, HVr⟩, by simp [intOf]; omega⟩
    · obtain rfl : a = 3 := by have := unhideR HA; omega
      have HF := hideR (unhideR HEnd best (unhideR HVi0))
      clear HVi0
      go_wp2
      go_ret
      exact unhideR HF
end Go.Proofs.YtgmaganajfcpbaiDoor
