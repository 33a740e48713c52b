/-
  The law of waves by halves: its walk.
-/
import Derived.Test.YtngdemhhcablmakDoorShX5
namespace Go.Proofs.YtngdemhhcablmakDoor
open Go Go.RowKit

def c3F (n : Nat) : Bool := decide (300 < n)
set_option maxRecDepth 100000 in
set_option maxHeartbeats 6400000 in
theorem fast_walk {a : Nat → Addr} {w : World} {a1 : Option Addr} {c1 : Nat} {L : List (Nat × Nat)} (hS : Sents w a) (hL : PrCame w a1 L) (l1 : L.length ≤ 9223372036854775807) (back : Bool) :
    Calls Tryd.prog 4 #[.slice a1 L.length c1, .bool back] w (WdPost' w) := by
  have HS : HeldR (∀ u, Below w.heap.size w u → Sents u a) := hideR (fun u k => hS.below k (Nat.le_refl _))
  have HL : HeldR (∀ u, Below w.heap.size w u → PrCame u a1 L) := hideR (fun u k => hL.below k)
  have HFv : HeldR (∀ (u : World) (ad : Option Addr) (cap : Nat), Below w.heap.size w u → CxCame u ad L → Calls Tryd.prog 15 #[.slice ad L.length cap, .bool back] u (FaPost a L back u)) := hideR (fun _ _ _ k h => fast_ok a back (unhideR HS _ k).er2 h l1)
  have HNu : HeldR (L.length ≤ 300 → ∀ u, Below w.heap.size w u → Calls Tryd.prog 10 #[.slice a1 L.length c1] u (NuPost L u)) := hideR (fun q u k => numbers_any (unhideR HL u k) (by omega))
  have HFo : HeldR (∀ d, L.length = 2 ^ d → L.length ≤ 256 → ∀ u, Below w.heap.size w u → Calls Tryd.prog 17 #[.slice a1 L.length c1, .bool back] u (FsPost L d back u)) := hideR (fun d q1 q2 u k => fastOf_any (unhideR HL u k) q1 q2 back)
  have h1 := waved_any (waves_ok a) hS.er2
  obtain ⟨n, hn⟩ : ∃ n, L.length = n := ⟨_, rfl⟩
  rw [hn] at l1 HFv HNu HFo ⊢
  have HN := hideR hn
  clear hS hL hn
  go_enter Tryd.func4, Tryd.ntmps4
  go_wp2_with fail
  refine h1.mono ?_
  rintro e w1 ⟨rfl, k1⟩
  have HB1 := hideR k1
  clear h1 k1
  by_cases q300 : 300 < n
  · have t3 : decide ((300 : Int) < (n : Int)) = true := decide_eq_true (by omega)
    have t3n : decide (300 < n) = true := decide_eq_true q300
    clear HFv HNu HFo
    go_wp2
    go_ret
    exact ⟨rfl, unhideR HB1⟩
  have t3 : decide ((300 : Int) < (n : Int)) = false := decide_eq_false (by omega)
  have t3n : decide (300 < n) = false := decide_eq_false q300
  have h2 := unhideR HNu (by omega) w1 (unhideR HB1)
  go_wp2_with fail
  refine h2.mono ?_
  rintro e w2 ⟨ad2, cap2, rfl, hc2, k2⟩
  rw [unhideR HN]
  have HB2 := hideR (below_go (unhideR HB1) k2)
  have h3 := unhideR HFv _ _ cap2 (unhideR HB2) hc2
  clear h2 k2 hc2
  go_wp2_with fail
  refine h3.mono ?_
  rintro e w3 ⟨X, ad3, cap3, er, rfl, her, hX0, hX1, hc3, k3⟩
  have HB3 := hideR (below_go (unhideR HB2) k3)
  have HX0 := hideR hX0
  have HX1 := hideR hX1
  have HE := hideR her
  have HC3 : HeldR (∀ u, Below w3.heap.size w3 u → CxCame u ad3 X) := hideR (fun u k => hc3.below k)
  rw [unhideR HN] at HX0 HX1 HE
  obtain ⟨nX, hnX⟩ : ∃ m, X.length = m := ⟨_, rfl⟩
  rw [hnX]
  have HnX := hideR hnX
  have h4 := lengthError_any (n : Int) w3
  have h4b := isTwo_any n (by omega) w3
  clear h3 her hX0 hX1 hc3 k3 hnX
  rw [show (if 256 < (n : Int) then (2 : Int) else if (n : Int) < 1 then 5 else 0) = lenE n from rfl] at h4
  obtain ⟨E, hE⟩ : ∃ E, fsE n = E := ⟨_, rfl⟩
  have HEe := hideR hE
  have HE2 : HeldR ((if lenE n = 0 ∧ twoB n = false then 5 else lenE n) = E) := hideR (by
    rw [← hE]
    unfold fsE lenE
    by_cases q1 : 256 < n
    · rw [if_pos q1, if_pos (show 256 < (n : Int) by omega), if_neg (by intro q; exact absurd q.1 (by decide))]
    · rw [if_neg q1, if_neg (show ¬ 256 < (n : Int) by omega)]
      by_cases q2 : (n : Int) < 1
      · obtain rfl : n = 0 := by omega
        rfl
      · rw [if_neg q2]
        cases twoB n <;> rfl)
  rw [hE] at HX0 HX1 HE
  clear hE
  generalize lenE n = e1 at *
  generalize twoB n = tw at *
  go_wp2_with fail
  refine h4.mono ?_
  rintro e w3' ⟨rfl, rfl⟩
  clear h4
  go_wp2_with fail
  refine h4b.mono ?_
  rintro e w3'' ⟨rfl, rfl⟩
  clear h4b
  have hx := unhideR HE2
  clear HE2
  by_cases q1 : e1 = 0
  case neg =>
    have tq : (e1 == 0) = false := beq_eq_false_iff_ne.2 q1
    rw [if_neg (fun q => q1 q.1)] at hx
    have hne : E ≠ 0 := by omega
    have hpos : 0 < E := by
      have := unhideR HEe
      unfold fsE at this
      split at this
      · omega
      · split at this <;> omega
    have tE : decide (0 < E) = true := decide_eq_true hpos
    obtain rfl := unhideR HX0 hne
    obtain rfl : 0 = nX := unhideR HnX
    have h5 := coded_err (unhideR HS _ (unhideR HB3)) (unhideR HE)
    subst hx
    clear HX0 HX1 HE HEe
    go_wp2_with fail
    refine h5.mono ?_
    rintro e w5 ⟨rfl, k5⟩
    have HB5 := hideR (below_go (unhideR HB3) k5)
    clear h5 k5
    go_wp2
    go_ret
    exact ⟨rfl, unhideR HB5⟩
  case pos =>
  subst q1
  cases tw with
  | false =>
    rw [if_pos ⟨rfl, rfl⟩] at hx
    have hne : E ≠ 0 := by omega
    have hpos : 0 < E := by
      have := unhideR HEe
      unfold fsE at this
      split at this
      · omega
      · split at this <;> omega
    have tE : decide (0 < E) = true := decide_eq_true hpos
    obtain rfl := unhideR HX0 hne
    obtain rfl : 0 = nX := unhideR HnX
    have h5 := coded_err (unhideR HS _ (unhideR HB3)) (unhideR HE)
    subst hx
    clear HX0 HX1 HE HEe
    go_wp2_with fail
    refine h5.mono ?_
    rintro e w5 ⟨rfl, k5⟩
    have HB5 := hideR (below_go (unhideR HB3) k5)
    clear h5 k5
    go_wp2
    go_ret
    exact ⟨rfl, unhideR HB5⟩
  | true =>
  rw [if_neg (by simp)] at hx
  have e0 : E = 0 := hx.symm
  clear hx
  subst e0
  obtain ⟨d, hd, hXk⟩ := unhideR HX1 rfl
  obtain rfl : nX = n := by rw [← unhideR HnX, hXk.len, hd]
  have hrange : nX ≤ 256 := by
    have := unhideR HEe
    unfold fsE at this
    split at this
    · omega
    · omega
  obtain rfl : er = .nilIface := by
    rcases unhideR HE with ⟨_, q⟩ | ⟨k9, _, q, _⟩
    · exact q
    · omega
  have HXk := hideR hXk
  have HD := hideR hd
  have h6 := unhideR HFo d hd hrange w3'' (unhideR HB3)
  clear hXk HX0 HX1 HE HEe hd
  go_wp2_with fail
  refine h6.mono ?_
  rintro e w6 ⟨M, ad6, cap6, rfl, hM, hc6, k6⟩
  have hMl : M.length = nX := by rw [hM.len, unhideR HD]
  have HB6 := hideR (below_go (unhideR HB3) k6)
  have h7 := samePairs_any (c1 := cap3) (c2 := cap6) (unhideR HC3 w6 k6) hc6 (unhideR HnX) hMl (by omega) (fun k hk => (unhideR HXk).same hM k (by rw [← unhideR HD]; exact hk))
  rw [hMl]
  clear h6 hM hc6 k6 hMl HD
  go_wp2_with fail
  refine h7.mono ?_
  rintro e w7 ⟨rfl, k7⟩
  have HB7 := hideR (below_go (unhideR HB6) k7)
  clear h7 k7
  go_wp2
  go_ret
  exact ⟨rfl, unhideR HB7⟩
end Go.Proofs.YtngdemhhcablmakDoor
