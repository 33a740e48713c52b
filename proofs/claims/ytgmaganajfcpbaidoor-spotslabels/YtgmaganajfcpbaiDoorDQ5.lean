/-
  The law of parts: its walk.
-/
import Derived.Test.YtgmaganajfcpbaiDoorDQ4
import Derived.Test.YtgmaganajfcpbaiDoorFrSm
namespace Go.Proofs.YtgmaganajfcpbaiDoor
open Go Go.RowKit

/-- the first look's three pixels: two parts. -/
theorem lab_first : IsLabels [true, false, true] 3 [1, 0, 2] 2 := by
  have lit : ∀ i, litB [true, false, true] i = true → i = 0 ∨ i = 2 := fun i h => by
    have := lit_lt h
    rcases (show i = 0 ∨ i = 1 ∨ i = 2 by simp at this; omega) with rfl | rfl | rfl
    · exact .inl rfl
    · exact absurd h (by decide)
    · exact .inr rfl
  have one : ∀ i j, Conn [true, false, true] 3 i j → i = j := fun i j c => by
    induction c with
    | one _ => rfl
    | more c a l ih =>
      rw [ih]
      rcases lit _ c.lit2 with e1 | e1 <;> rcases lit _ l with e2 | e2 <;> subst e1 <;> subst e2
      · rfl
      · exact absurd a (by decide)
      · exact absurd a (by decide)
      · rfl
  refine ⟨rfl, fun i h => ?_, fun i h => ?_, fun i h => ?_, fun i j hi hj => ?_, fun i a hi h1 h2 => ?_, .inr ⟨2, by decide, by decide⟩⟩
  · by_cases q : i < 3
    · rcases (show i = 0 ∨ i = 1 ∨ i = 2 by omega) with rfl | rfl | rfl
      · exact absurd h (by decide)
      · decide
      · exact absurd h (by decide)
    · rw [List.getD_eq_getElem?_getD, List.getElem?_eq_none (by simp; omega)]
      rfl
  · rcases lit i h with rfl | rfl <;> decide
  · rcases lit i h with rfl | rfl <;> decide
  · constructor
    · intro e
      rcases lit i hi with rfl | rfl <;> rcases lit j hj with rfl | rfl
      · exact .one hi
      · exact absurd e (by decide)
      · exact absurd e (by decide)
      · exact .one hi
    · intro c
      rw [one i j c]
  · rcases lit i hi with rfl | rfl
    · have : a < 1 := h2
      omega
    · have : a < 2 := h2
      exact ⟨0, by omega, by decide, by show (1 : Int) = a; omega⟩
def LawPost (w : World) (e : Ending) (w' : World) : Prop := e = .returned (.bool true) ∧ Below w.heap.size w w'
theorem lab3_at (w : World) : LCame (w.alloc (.cells #[.bool true, .bool false, .bool true] 4)) (some ⟨w.heap.size, 0, none⟩) [true, false, true] := ⟨fun k hk => by
  refine ⟨_, _, rfl, ltB (alloc_last w _), ?_⟩
  rw [Nat.zero_add, (cells_at (alloc_last w (.cells #[.bool true, .bool false, .bool true] 4)) k (by simpa using hk)).1]
  rcases (show k = 0 ∨ k = 1 ∨ k = 2 by simp at hk; omega) with rfl | rfl | rfl
  · rfl
  · rfl
  · rfl⟩
set_option maxRecDepth 100000 in
set_option maxHeartbeats 3200000 in
theorem labels_walk {a : Nat → Addr} {w : World} {ad : Option Addr} {cap : Nat} {L : List Bool} (hS : Sents w a) (hL : LCame w ad L) (W : Int) :
    Calls Tryd.prog 5 #[.slice ad L.length cap, .int .i64 W] w (LawPost w) := by
  have hb0 := below_a w (.cells #[.bool true, .bool false, .bool true] 4)
  have hf := label_any (cap := 3) (hS.below hb0 (Nat.le_refl _)) (lab3_at w) 3
  have hf' : Calls Tryd.prog 18 #[.slice (some ⟨w.heap.size, 0, none⟩) 3 3, .int .i64 3] (w.alloc (.cells #[.bool true, .bool false, .bool true] 4)) fun e w' => ∃ (ad : Option Addr) (cap : Nat), e = .returned (.tuple #[.slice ad 3 cap, .int .i64 2, .nilIface]) ∧ Below w.heap.size w w' := hf.mono (by
    rintro e w' ⟨ad1, n1, c1, p1, er1, rfl, he1, hb1, _, hk1⟩
    have hE : labE ([true, false, true] : List Bool).length 3 = 0 := by decide
    rw [hE] at he1 hk1
    obtain ⟨l, hl1, hi1, _⟩ := hk1 rfl
    obtain ⟨q1, q2⟩ := labels_one hi1 lab_first
    subst q1
    subst q2
    rcases he1 with ⟨_, rfl⟩ | ⟨k, _, q, _⟩
    · refine ⟨ad1, c1, ?_, below_go hb0 hb1⟩
      rw [← hl1]
      rfl
    · omega)
  have HSb : HeldR (∀ u, Below w.heap.size w u → Sents u a) := hideR (fun u k => hS.below k (Nat.le_refl _))
  have HLb : HeldR (∀ u, Below w.heap.size w u → LCame u ad L) := hideR (fun u k => hL.below k)
  obtain ⟨n, hn⟩ : ∃ n, L.length = n := ⟨_, rfl⟩
  have HN := hideR hn
  rw [hn]
  clear hf hb0 hS hL hn
  go_enter Tryd.func5, Tryd.ntmps5
  go_wp2_with fail
  refine hf'.mono ?_
  rintro e w1 ⟨a1, c1, rfl, k1⟩
  have HW1 := hideR k1
  clear hf' k1
  by_cases h7 : 700 < n ∧ n ≤ 65536
  · have t1 : decide ((700 : Int) < (n : Int)) = true := decide_eq_true (by omega)
    have t1n : decide (700 < n) = true := decide_eq_true h7.1
    have t2 : decide ((n : Int) ≤ 65536) = true := decide_eq_true (by omega)
    have t2n : decide (n ≤ 65536) = true := decide_eq_true h7.2
    go_wp2
    go_ret
    exact ⟨rfl, unhideR HW1⟩
  · have hlb := label_any (cap := cap) (unhideR HSb w1 (unhideR HW1)) (unhideR HLb w1 (unhideR HW1)) W
    unfold LabelPost at hlb
    rw [unhideR HN] at hlb
    by_cases h2 : 65536 < n
    · have t1 : decide ((700 : Int) < (n : Int)) = true := decide_eq_true (by omega)
      have t1n : decide (700 < n) = true := decide_eq_true (by omega)
      have t2 : decide ((n : Int) ≤ 65536) = false := decide_eq_false (by omega)
      have t2n : decide (n ≤ 65536) = false := decide_eq_false (by omega)
      have t3 : decide ((65536 : Int) < (n : Int)) = true := decide_eq_true (by omega)
      have t3n : decide (65536 < n) = true := decide_eq_true h2
      have hE : labE n W = 2 := by unfold labE; rw [if_pos h2]
      rw [hE] at hlb
      clear hE
      go_wp2_with fail
      refine hlb.mono ?_
      rintro e w2 ⟨a2, n2, c2, p2, er, rfl, her, k2, hz, _⟩
      obtain ⟨rfl, rfl⟩ := hz (by decide)
      have k2' := below_go (unhideR HW1) k2
      have hcd := coded_err (unhideR HSb w2 k2') her
      have HW2 := hideR k2'
      clear hlb her k2 hz HW1 k2'
      go_wp2_with fail
      refine hcd.mono ?_
      rintro e w3 ⟨rfl, k3⟩
      have HW3 := hideR (below_go (unhideR HW2) k3)
      clear hcd k3 HW2
      go_wp2
      go_ret
      exact ⟨rfl, unhideR HW3⟩
    · have hn7 : n ≤ 700 := by omega
      have t1 : decide ((700 : Int) < (n : Int)) = false := decide_eq_false (by omega)
      have t1n : decide (700 < n) = false := decide_eq_false (by omega)
      have t3 : decide ((65536 : Int) < (n : Int)) = false := decide_eq_false (by omega)
      have t3n : decide (65536 < n) = false := decide_eq_false h2
      by_cases h3 : W < 1
      · have t4 : decide (W < 1) = true := decide_eq_true h3
        have hE : labE n W = 5 := by unfold labE; rw [if_neg h2, if_pos (.inl h3)]
        rw [hE] at hlb
        clear hE
        go_wp2_with fail
        refine hlb.mono ?_
        rintro e w2 ⟨a2, n2, c2, p2, er, rfl, her, k2, hz, _⟩
        obtain ⟨rfl, rfl⟩ := hz (by decide)
        have k2' := below_go (unhideR HW1) k2
        have hcd := coded_err (unhideR HSb w2 k2') her
        have HW2 := hideR k2'
        clear hlb her k2 hz HW1 k2'
        go_wp2_with fail
        refine hcd.mono ?_
        rintro e w3 ⟨rfl, k3⟩
        have HW3 := hideR (below_go (unhideR HW2) k3)
        clear hcd k3 HW2
        go_wp2
        go_ret
        exact ⟨rfl, unhideR HW3⟩
      · obtain ⟨V, rfl⟩ : ∃ V : Nat, W = (V : Nat) := ⟨W.toNat, by omega⟩
        have t4 : decide ((V : Int) < 1) = false := decide_eq_false h3
        have t4n : decide (V < 1) = false := decide_eq_false (by omega)
        have hV0 : (V : Int) ≠ 0 := by omega
        have hV0' : V ≠ 0 := by omega
        have hm1 : (n : Int) % (V : Int) = ((n % V : Nat) : Int) := (Int.natCast_emod n V).symm
        have hm2 : (n : Int).tmod (V : Int) = ((n % V : Nat) : Int) := (Int.tmod_eq_emod_of_nonneg (Int.natCast_nonneg n)).trans hm1
        have hmb : n % V ≤ n := Nat.mod_le _ _
        obtain ⟨r, hr⟩ : ∃ r, n % V = r := ⟨_, rfl⟩
        rw [hr] at hm1 hm2 hmb
        have wr : IntKind.i64.wrap (r : Int) = (r : Int) := iwrap (by omega) (by omega)
        by_cases h5 : r = 0
        · subst h5
          have hE : labE n (V : Nat) = 0 := by
            unfold labE
            rw [if_neg h2, if_neg]
            rintro (q | q)
            · omega
            · rw [Int.toNat_natCast] at q
              exact q hr
          have hVn : 0 < n → V ≤ 65536 := fun h0 => by
            have := Nat.le_of_dvd h0 (Nat.dvd_of_mod_eq_zero hr)
            omega
          rw [hE, Int.toNat_natCast] at hlb
          clear hE hr
          go_wp2_with fail
          refine hlb.mono ?_
          rintro e w2 ⟨a2, n2, c2, p2, er, rfl, her, k2, _, hk⟩
          obtain ⟨l, rfl, hil, hcl⟩ := hk trivial
          obtain rfl : er = .nilIface := by
            rcases her with ⟨_, e⟩ | ⟨k, _, q, _⟩
            · exact e
            · omega
          have k2' := below_go (unhideR HW1) k2
          have hdo := labelsOf_any (W := V) (cap := cap) (unhideR HLb w2 k2') (by omega) (by rw [unhideR HN]; exact hVn) (by rw [unhideR HN]; omega)
          have HW2 := hideR k2'
          have HIl := hideR hil
          have HCl := hideR hcl
          have hll : l.length = n := hil.len.trans (unhideR HN)
          have HLl := hideR hll
          rw [unhideR HN] at hdo
          rw [hll]
          clear hlb her k2 hk HW1 k2' hil hcl hll
          go_wp2_with fail
          refine hdo.mono ?_
          rintro e w3 ⟨a3, c3, m, p3, rfl, him, hp3, hcm, k3⟩
          rw [unhideR HN]
          obtain ⟨rfl, rfl⟩ := labels_one (unhideR HIl) him
          have hsm := sameInts_any (c1 := c2) (c2 := c3) ((unhideR HCl).below k3) hcm (by rw [unhideR HLl]; omega)
          rw [unhideR HLl] at hsm
          have HW3 := hideR (below_go (unhideR HW2) k3)
          clear hdo k3 HW2 him hcm hp3
          go_wp2_with fail
          refine hsm.mono ?_
          rintro e w4 ⟨rfl, k4⟩
          have HW4 := hideR (below_go (unhideR HW3) k4)
          clear hsm k4 HW3
          go_wp2
          go_ret
          exact ⟨rfl, unhideR HW4⟩
        · have t5 : decide ((r : Int) = 0) = false := decide_eq_false (by omega)
          have t5n : decide (r = 0) = false := decide_eq_false h5
          have hE : labE n (V : Nat) = 5 := by
            unfold labE
            rw [if_neg h2, if_pos (.inr (by rw [Int.toNat_natCast, hr]; exact h5))]
          rw [hE] at hlb
          clear hE hr
          go_wp2_with fail
          refine hlb.mono ?_
          rintro e w2 ⟨a2, n2, c2, p2, er, rfl, her, k2, hz, _⟩
          obtain ⟨rfl, rfl⟩ := hz (by decide)
          have k2' := below_go (unhideR HW1) k2
          have hcd := coded_err (unhideR HSb w2 k2') her
          have HW2 := hideR k2'
          clear hlb her k2 hz HW1 k2'
          go_wp2_with fail
          refine hcd.mono ?_
          rintro e w3 ⟨rfl, k3⟩
          have HW3 := hideR (below_go (unhideR HW2) k3)
          clear hcd k3 HW2
          go_wp2
          go_ret
          exact ⟨rfl, unhideR HW3⟩
end Go.Proofs.YtgmaganajfcpbaiDoor
