/-
  How two rows go together: the document's, by contract.
-/
import Derived.Test.YtngdemhhcablmakDoorShC
import Derived.Test.YtngdemhhcablmakDoorKitA
import Derived.Test.YtngdemhhcablmakDoorLooseA
import Derived.Deep.CutRange
namespace Go.Proofs.YtngdemhhcablmakDoor
open Go Go.RowKit

def RePost (A B : List Int) (w : World) (e : Ending) (w' : World) : Prop := e = .returned (.int .i64 (rowsE A B)) ∧ w' = w
set_option maxRecDepth 100000 in
set_option maxHeartbeats 3200000 in
theorem rowsError_any {w : World} {a1 a2 : Option Addr} {c1 c2 : Nat} {A B : List Int} (hA : ICame w a1 A) (hB : ICame w a2 B) (l1 : A.length ≤ 9223372036854775807) (l2 : B.length ≤ 9223372036854775807) :
    Calls Tryd.prog 23 #[.slice a1 A.length c1, .slice a2 B.length c2] w (RePost A B w) := by
  have HA := hideR hA
  have HB := hideR hB
  have HE1 : HeldR (256 < A.length ∨ 256 < B.length → RePost A B w (.returned (.int .i64 2)) w) := hideR (fun q => ⟨by unfold rowsE; rw [if_pos q], rfl⟩)
  have HE2 : HeldR (¬ (256 < A.length ∨ 256 < B.length) → A.length = 0 ∨ A.length ≠ B.length → RePost A B w (.returned (.int .i64 5)) w) := hideR (fun q q2 => ⟨by unfold rowsE; rw [if_neg q, if_pos q2], rfl⟩)
  have HE3 : HeldR (¬ (256 < A.length ∨ 256 < B.length) → ¬ (A.length = 0 ∨ A.length ≠ B.length) → (∃ k, k < A.length ∧ (bigB (A.getD k 0) || bigB (B.getD k 0)) = true) → RePost A B w (.returned (.int .i64 2)) w) := hideR (fun q q2 ⟨k, hk, h⟩ => ⟨by unfold rowsE; rw [if_neg q, if_neg q2, if_pos (badAB_yes hk h)], rfl⟩)
  have HE4 : HeldR (¬ (256 < A.length ∨ 256 < B.length) → ¬ (A.length = 0 ∨ A.length ≠ B.length) → (∀ k, k < A.length → (bigB (A.getD k 0) || bigB (B.getD k 0)) = false) → RePost A B w (.returned (.int .i64 0)) w) := hideR (fun q q2 h => ⟨by unfold rowsE; rw [if_neg q, if_neg q2, if_neg (by rw [badAB_none h]; decide)], rfl⟩)
  obtain ⟨nA, hnA⟩ : ∃ n, A.length = n := ⟨_, rfl⟩
  obtain ⟨nB, hnB⟩ : ∃ n, B.length = n := ⟨_, rfl⟩
  rw [hnA] at l1 HE1 HE2 HE3 HE4 ⊢
  rw [hnB] at l2 HE1 HE2 HE3 HE4 ⊢
  have HnA := hideR hnA
  have HnB := hideR hnB
  clear hA hB hnA hnB
  by_cases q1 : 256 < nA
  · have t1 : decide ((256 : Int) < (nA : Int)) = true := decide_eq_true (by omega)
    have t1n : decide (256 < nA) = true := decide_eq_true q1
    have HR := hideR (unhideR HE1 (.inl q1))
    clear HE1 HE2 HE3 HE4
    go_enter Tryd.func23, Tryd.ntmps23
    go_wp2
    go_ret
    exact unhideR HR
  have t1 : decide ((256 : Int) < (nA : Int)) = false := decide_eq_false (by omega)
  have t1n : decide (256 < nA) = false := decide_eq_false q1
  by_cases q2 : 256 < nB
  · have t2 : decide ((256 : Int) < (nB : Int)) = true := decide_eq_true (by omega)
    have t2n : decide (256 < nB) = true := decide_eq_true q2
    have HR := hideR (unhideR HE1 (.inr q2))
    clear HE1 HE2 HE3 HE4
    go_enter Tryd.func23, Tryd.ntmps23
    go_wp2
    go_ret
    exact unhideR HR
  have t2 : decide ((256 : Int) < (nB : Int)) = false := decide_eq_false (by omega)
  have t2n : decide (256 < nB) = false := decide_eq_false q2
  have q12 : ¬ (256 < nA ∨ 256 < nB) := fun q => q.elim q1 q2
  by_cases q3 : nA = 0
  · have t3 : ((nA : Int) == 0) = true := by simp; omega
    have t3n : (nA == 0) = true := by simp; omega
    have HR := hideR (unhideR HE2 q12 (.inl q3))
    clear HE1 HE2 HE3 HE4 q3
    go_enter Tryd.func23, Tryd.ntmps23
    go_wp2
    go_ret
    exact unhideR HR
  have t3 : ((nA : Int) == 0) = false := by simp; omega
  have t3n : (nA == 0) = false := by simp; omega
  by_cases q4 : nA = nB
  case neg =>
    have t4 : ((nA : Int) != (nB : Int)) = true := by simp; omega
    have t4n : (nA != nB) = true := by simp; omega
    have HR := hideR (unhideR HE2 q12 (.inr q4))
    clear HE1 HE2 HE3 HE4 q4
    go_enter Tryd.func23, Tryd.ntmps23
    go_wp2
    go_ret
    exact unhideR HR
  case pos =>
  subst q4
  have t4 : ((nA : Int) != (nA : Int)) = false := by simp
  have t4n : (nA != nA) = false := by simp
  have q34 : ¬ (nA = 0 ∨ nA ≠ nA) := fun q => q.elim q3 (fun q => q rfl)
  have HE3' := hideR (unhideR HE3 q12 q34)
  have HE4' := hideR (unhideR HE4 q12 q34)
  clear HE1 HE2 HE3 HE4 q12 q34 q3
  go_enter Tryd.func23, Tryd.ntmps23
  go_wp2
  go_loop [5] (fun kv => ∃ k : Nat, k ≤ nA ∧ kv = .int .i64 (k : Nat) ∧ HeldR (∀ j, j < k → (bigB (A.getD j 0) || bigB (B.getD j 0)) = false)) (fun kv => nA + 1 - (intOf kv).toNat)
  case atStart => exact ⟨0, by omega, rfl, fun j hj => absurd hj (Nat.not_lt_zero j)⟩
  case round =>
    obtain ⟨k, hk, rfl, HK⟩ := hrel
    by_cases hlt : k < nA
    · have tk : decide (k < nA) = true := decide_eq_true hlt
      have jk : (k : Int) < (nA : Int) := by omega
      have wk : IntKind.i64.wrap ((k : Int) + 1) = ((k + 1 : Nat) : Int) := by rw [show (k : Int) + 1 = ((k + 1 : Nat) : Int) by omega]; exact iwrap (by omega) (by omega)
      obtain ⟨b1, o1, rfl, _, x1⟩ := (unhideR HA).at_ k (by rw [unhideR HnA]; exact hlt)
      obtain ⟨b2, o2, rfl, _, x2⟩ := (unhideR HB).at_ k (by rw [unhideR HnB]; exact hlt)
      have HBad : HeldR ((bigB (A.getD k 0) || bigB (B.getD k 0)) = true → RePost A B w (.returned (.int .i64 2)) w) := hideR (fun h => unhideR HE3' ⟨k, hlt, h⟩)
      have HGood : HeldR ((bigB (A.getD k 0) || bigB (B.getD k 0)) = false → ∀ j, j < k + 1 → (bigB (A.getD j 0) || bigB (B.getD j 0)) = false) := hideR (fun h j hj => by
        by_cases e : j = k
        · rw [e]; exact h
        · exact (unhideR HK) j (by omega))
      generalize A.getD k 0 = x at x1 HBad HGood
      generalize B.getD k 0 = y at x2 HBad HGood
      clear HK
      by_cases h1 : 1048576 < x
      · have u1 : decide (1048576 < x) = true := decide_eq_true h1
        have HR := hideR (unhideR HBad (by rw [show bigB x = true from decide_eq_true (.inl h1)]; rfl))
        clear HBad HGood
        go_wp2
        go_ret
        exact unhideR HR
      have u1 : decide (1048576 < x) = false := decide_eq_false h1
      by_cases h2 : x < -1048576
      · have u2 : decide (x < -1048576) = true := decide_eq_true h2
        have HR := hideR (unhideR HBad (by rw [show bigB x = true from decide_eq_true (.inr h2)]; rfl))
        clear HBad HGood
        go_wp2
        go_ret
        exact unhideR HR
      have u2 : decide (x < -1048576) = false := decide_eq_false h2
      have ux : bigB x = false := decide_eq_false (by omega)
      by_cases h3 : 1048576 < y
      · have u3 : decide (1048576 < y) = true := decide_eq_true h3
        have HR := hideR (unhideR HBad (by rw [show bigB y = true from decide_eq_true (.inl h3), Bool.or_true]))
        clear HBad HGood ux
        go_wp2
        go_ret
        exact unhideR HR
      have u3 : decide (1048576 < y) = false := decide_eq_false h3
      by_cases h4 : y < -1048576
      · have u4 : decide (y < -1048576) = true := decide_eq_true h4
        have HR := hideR (unhideR HBad (by rw [show bigB y = true from decide_eq_true (.inr h4), Bool.or_true]))
        clear HBad HGood ux
        go_wp2
        go_ret
        exact unhideR HR
      have u4 : decide (y < -1048576) = false := decide_eq_false h4
      have HN := hideR (unhideR HGood (by rw [ux, show bigB y = false from decide_eq_false (by omega)]; rfl))
      clear HBad HGood ux
      go_wp2
      exact ⟨⟨k + 1, by omega, by first | rfl | go_num, HN⟩, by simp [intOf]; omega⟩
    · obtain rfl : k = nA := by omega
      have tk : decide (k < k) = false := decide_eq_false hlt
      have HR := hideR (unhideR HE4' (unhideR HK))
      clear HE3' HE4' HK
      go_wp2
      go_ret
      exact unhideR HR
def CaPost (A B : List Int) (s : Nat) (w : World) (e : Ending) (w' : World) : Prop := e = .returned (.int .i64 (crossV A B s)) ∧ ∃ n, w' = w.drewN n
set_option maxRecDepth 100000 in
set_option maxHeartbeats 3200000 in
theorem crossAt_any {w : World} {a1 a2 : Option Addr} {c1 c2 n : Nat} {A B : List Int} (hA : ICame w a1 A) (hB : ICame w a2 B) (hO : RowsOk A B n) (s : Nat) (hs : s < n) :
    Calls Tryd.prog 24 #[.slice a1 n c1, .slice a2 n c2, .int .i64 (s : Nat)] w (CaPost A B s w) := by
  have HA := hideR hA
  have HB := hideR hB
  have HO := hideR hO
  have hfew := hO.few
  have hpos := hO.pos
  have HE : HeldR (∀ m, CaPost A B s w (.returned (.int .i64 (crossK A B n s n))) (w.drewN m)) := hideR (fun m => ⟨by unfold crossV; rw [hO.la], m, rfl⟩)
  have hn0 : (n : Int) ≠ 0 := by omega
  have hn0n : n ≠ 0 := by omega
  clear hA hB hO
  go_enter Tryd.func24, Tryd.ntmps24
  go_wp2
  go_loopw [8, 9] (fun sv iv wl => ∃ (k m : Nat), k ≤ n ∧ iv = .int .i64 (k : Nat) ∧ sv = .int .i64 (crossK A B n s k) ∧ wl = w.drewN m) (fun _ iv _ => n + 1 - (intOf iv).toNat)
  case atStart => exact ⟨0, 0, by omega, rfl, rfl, rfl⟩
  case round =>
    obtain ⟨k, m, hk, rfl, rfl, rfl⟩ := hrel
    by_cases hlt : k < n
    · have tk : decide (k < n) = true := decide_eq_true hlt
      have tki : decide ((k : Int) < (n : Int)) = true := decide_eq_true (by omega)
      have jk : (k : Int) < (n : Int) := by omega
      have wk : IntKind.i64.wrap ((k : Int) + 1) = ((k + 1 : Nat) : Int) := by rw [show (k : Int) + 1 = ((k + 1 : Nat) : Int) by omega]; exact iwrap (by omega) (by omega)
      obtain ⟨b1, o1, rfl, _, x1⟩ := (unhideR HA).at_ k (by rw [(unhideR HO).la]; exact hlt)
      obtain ⟨j, hj⟩ : ∃ j, (k + s) % n = j := ⟨_, rfl⟩
      have hjn : j < n := by rw [← hj]; exact Nat.mod_lt _ hpos
      obtain ⟨b2, o2, rfl, _, x2⟩ := (unhideR HB).at_ j (by rw [(unhideR HO).lb]; exact hjn)
      have jj : (j : Int) < (n : Int) := by omega
      have ws : IntKind.i64.wrap ((k : Int) + (s : Int)) = ((k + s : Nat) : Int) := by rw [show (k : Int) + (s : Int) = ((k + s : Nat) : Int) by omega]; exact iwrap (by omega) (by omega)
      obtain ⟨ks, hks⟩ : ∃ ks, k + s = ks := ⟨_, rfl⟩
      rw [hks] at hj ws
      have hm1 : (ks : Int) % (n : Int) = (j : Nat) := by rw [← hj]; exact (Int.natCast_emod ks n).symm
      have hm2 : (ks : Int).tmod (n : Int) = (j : Nat) := (Int.tmod_eq_emod_of_nonneg (Int.natCast_nonneg ks)).trans hm1
      have HNx : HeldR (crossK A B n s (k + 1) = crossK A B n s k + A.getD k 0 * B.getD j 0) := hideR (by rw [← hj, ← hks]; rfl)
      have hr := crossK_range (unhideR HO).each n s k
      have hmul := mul_20 ⟨((unhideR HO).each k).1, ((unhideR HO).each k).2.1⟩ ⟨((unhideR HO).each j).2.2.1, ((unhideR HO).each j).2.2.2⟩
      generalize A.getD k 0 = x at *
      generalize B.getD j 0 = y at *
      generalize crossK A B n s k = cs at *
      obtain ⟨p, hp⟩ : ∃ p, x * y = p := ⟨_, rfl⟩
      rw [hp] at hmul HNx
      have wp : IntKind.i64.wrap (x * y) = p := by rw [hp]; clear hm1 hm2 hp; exact iwrap (by omega) (by omega)
      have wc : IntKind.i64.wrap (cs + p) = cs + p := by clear hm1 hm2 hp; exact iwrap (by omega) (by omega)
      clear hj hks hp hr hmul
      go_wp2
      go_quiet (fail)
      go_wp2
      exact ⟨⟨k + 1, _, by omega, by first | rfl | go_num, by rw [unhideR HNx], rfl⟩, by clear hm1 hm2; simp [intOf]; omega⟩
    · obtain rfl : k = n := by omega
      have tk : decide (k < k) = false := decide_eq_false hlt
      have HR := hideR (unhideR HE m)
      clear HE
      generalize crossK A B k s k = cs at *
      go_wp2
      go_ret
      exact unhideR HR
end Go.Proofs.YtngdemhhcablmakDoor
