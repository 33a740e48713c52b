/-
  How two rows go together: the document's, by contract. The law of shifts: its walk, given what the program's Cross, Best and Proved must answer.
-/
import Derived.Test.YtngdemhhcablmakDoorShC
import Derived.Test.YtngdemhhcablmakDoorKitA
import Derived.Test.YtngdemhhcablmakDoorLooseA
import Derived.Deep.CutRange
import Derived.Test.YtngdemhhcablmakDoorCodK5
import Derived.Test.YtngdemhhcablmakDoorDT2e
import Derived.Deep.QuietTactic
namespace Go.Proofs.YtngdemhhcablmakDoor
open Go Go.RowKit

def RePost (A B : List Int) (w : World) (e : Ending) (w' : World) : Prop := e = .returned (.int .i64 (rowsE A B)) ∧ w' = w
set_option maxRecDepth 100000 in
set_option maxHeartbeats 3200000 in
theorem rowsError_any {w : World} {a1 a2 : Option Addr} {c1 c2 : Nat} {A B : List Int} (hA : ICame w a1 A) (hB : ICame w a2 B) (l1 : A.length ≤ 9223372036854775807) (l2 : B.length ≤ 9223372036854775807) :
    Calls Tryd.prog 23 #[.slice a1 A.length c1, .slice a2 B.length c2] w (RePost A B w) := by
  have HA := hideR hA
  have HB := hideR hB
  have HE1 : HeldR (256 < A.length ∨ 256 < B.length → RePost A B w (.returned (.int .i64 2)) w) := hideR (fun q => ⟨by unfold rowsE; rw [if_pos q], rfl⟩)
  have HE2 : HeldR (¬ (256 < A.length ∨ 256 < B.length) → A.length = 0 ∨ A.length ≠ B.length → RePost A B w (.returned (.int .i64 5)) w) := hideR (fun q q2 => ⟨by unfold rowsE; rw [if_neg q, if_pos q2], rfl⟩)
  have HE3 : HeldR (¬ (256 < A.length ∨ 256 < B.length) → ¬ (A.length = 0 ∨ A.length ≠ B.length) → (∃ k, k < A.length ∧ (bigB (A.getD k 0) || bigB (B.getD k 0)) = true) → RePost A B w (.returned (.int .i64 2)) w) := hideR (fun q q2 ⟨k, hk, h⟩ => ⟨by unfold rowsE; rw [if_neg q, if_neg q2, if_pos (badAB_yes hk h)], rfl⟩)
  have HE4 : HeldR (¬ (256 < A.length ∨ 256 < B.length) → ¬ (A.length = 0 ∨ A.length ≠ B.length) → (∀ k, k < A.length → (bigB (A.getD k 0) || bigB (B.getD k 0)) = false) → RePost A B w (.returned (.int .i64 0)) w) := hideR (fun q q2 h => ⟨by unfold rowsE; rw [if_neg q, if_neg q2, if_neg (by rw [badAB_none h]; decide)], rfl⟩)
  obtain ⟨nA, hnA⟩ : ∃ n, A.length = n := ⟨_, rfl⟩
  obtain ⟨nB, hnB⟩ : ∃ n, B.length = n := ⟨_, rfl⟩
  rw [hnA] at l1 HE1 HE2 HE3 HE4 ⊢
  rw [hnB] at l2 HE1 HE2 HE3 HE4 ⊢
  have HnA := hideR hnA
  have HnB := hideR hnB
  clear hA hB hnA hnB
  by_cases q1 : 256 < nA
  · have t1 : decide ((256 : Int) < (nA : Int)) = true := decide_eq_true (by omega)
    have t1n : decide (256 < nA) = true := decide_eq_true q1
    have HR := hideR (unhideR HE1 (.inl q1))
    clear HE1 HE2 HE3 HE4
    go_enter Tryd.func23, Tryd.ntmps23
    go_wp2
    go_ret
    exact unhideR HR
  have t1 : decide ((256 : Int) < (nA : Int)) = false := decide_eq_false (by omega)
  have t1n : decide (256 < nA) = false := decide_eq_false q1
  by_cases q2 : 256 < nB
  · have t2 : decide ((256 : Int) < (nB : Int)) = true := decide_eq_true (by omega)
    have t2n : decide (256 < nB) = true := decide_eq_true q2
    have HR := hideR (unhideR HE1 (.inr q2))
    clear HE1 HE2 HE3 HE4
    go_enter Tryd.func23, Tryd.ntmps23
    go_wp2
    go_ret
    exact unhideR HR
  have t2 : decide ((256 : Int) < (nB : Int)) = false := decide_eq_false (by omega)
  have t2n : decide (256 < nB) = false := decide_eq_false q2
  have q12 : ¬ (256 < nA ∨ 256 < nB) := fun q => q.elim q1 q2
  by_cases q3 : nA = 0
  · have t3 : ((nA : Int) == 0) = true := by simp; omega
    have t3n : (nA == 0) = true := by simp; omega
    have HR := hideR (unhideR HE2 q12 (.inl q3))
    clear HE1 HE2 HE3 HE4 q3
    go_enter Tryd.func23, Tryd.ntmps23
    go_wp2
    go_ret
    exact unhideR HR
  have t3 : ((nA : Int) == 0) = false := by simp; omega
  have t3n : (nA == 0) = false := by simp; omega
  by_cases q4 : nA = nB
  case neg =>
    have t4 : ((nA : Int) != (nB : Int)) = true := by simp; omega
    have t4n : (nA != nB) = true := by simp; omega
    have HR := hideR (unhideR HE2 q12 (.inr q4))
    clear HE1 HE2 HE3 HE4 q4
    go_enter Tryd.func23, Tryd.ntmps23
    go_wp2
    go_ret
    exact unhideR HR
  case pos =>
  subst q4
  have t4 : ((nA : Int) != (nA : Int)) = false := by simp
  have t4n : (nA != nA) = false := by simp
  have q34 : ¬ (nA = 0 ∨ nA ≠ nA) := fun q => q.elim q3 (fun q => q rfl)
  have HE3' := hideR (unhideR HE3 q12 q34)
  have HE4' := hideR (unhideR HE4 q12 q34)
  clear HE1 HE2 HE3 HE4 q12 q34 q3
  go_enter Tryd.func23, Tryd.ntmps23
  go_wp2
  go_loop [5] (fun kv => ∃ k : Nat, k ≤ nA ∧ kv = .int .i64 (k : Nat) ∧ HeldR (∀ j, j < k → (bigB (A.getD j 0) || bigB (B.getD j 0)) = false)) (fun kv => nA + 1 - (intOf kv).toNat)
  case atStart => exact ⟨0, by omega, rfl, fun j hj => absurd hj (Nat.not_lt_zero j)⟩
  case round =>
    obtain ⟨k, hk, rfl, HK⟩ := hrel
    by_cases hlt : k < nA
    · have tk : decide (k < nA) = true := decide_eq_true hlt
      have jk : (k : Int) < (nA : Int) := by omega
      have wk : IntKind.i64.wrap ((k : Int) + 1) = ((k + 1 : Nat) : Int) := by rw [show (k : Int) + 1 = ((k + 1 : Nat) : Int) by omega]; exact iwrap (by omega) (by omega)
      obtain ⟨b1, o1, rfl, _, x1⟩ := (unhideR HA).at_ k (by rw [unhideR HnA]; exact hlt)
      obtain ⟨b2, o2, rfl, _, x2⟩ := (unhideR HB).at_ k (by rw [unhideR HnB]; exact hlt)
      have HBad : HeldR ((bigB (A.getD k 0) || bigB (B.getD k 0)) = true → RePost A B w (.returned (.int .i64 2)) w) := hideR (fun h => unhideR HE3' ⟨k, hlt, h⟩)
      have HGood : HeldR ((bigB (A.getD k 0) || bigB (B.getD k 0)) = false → ∀ j, j < k + 1 → (bigB (A.getD j 0) || bigB (B.getD j 0)) = false) := hideR (fun h j hj => by
        by_cases e : j = k
        · rw [e]; exact h
        · exact (unhideR HK) j (by omega))
      generalize A.getD k 0 = x at x1 HBad HGood
      generalize B.getD k 0 = y at x2 HBad HGood
      clear HK
      by_cases h1 : 1048576 < x
      · have u1 : decide (1048576 < x) = true := decide_eq_true h1
        have HR := hideR (unhideR HBad (by rw [show bigB x = true from decide_eq_true (.inl h1)]; rfl))
        clear HBad HGood
        go_wp2
        go_ret
        exact unhideR HR
      have u1 : decide (1048576 < x) = false := decide_eq_false h1
      by_cases h2 : x < -1048576
      · have u2 : decide (x < -1048576) = true := decide_eq_true h2
        have HR := hideR (unhideR HBad (by rw [show bigB x = true from decide_eq_true (.inr h2)]; rfl))
        clear HBad HGood
        go_wp2
        go_ret
        exact unhideR HR
      have u2 : decide (x < -1048576) = false := decide_eq_false h2
      have ux : bigB x = false := decide_eq_false (by omega)
      by_cases h3 : 1048576 < y
      · have u3 : decide (1048576 < y) = true := decide_eq_true h3
        have HR := hideR (unhideR HBad (by rw [show bigB y = true from decide_eq_true (.inl h3), Bool.or_true]))
        clear HBad HGood ux
        go_wp2
        go_ret
        exact unhideR HR
      have u3 : decide (1048576 < y) = false := decide_eq_false h3
      by_cases h4 : y < -1048576
      · have u4 : decide (y < -1048576) = true := decide_eq_true h4
        have HR := hideR (unhideR HBad (by rw [show bigB y = true from decide_eq_true (.inr h4), Bool.or_true]))
        clear HBad HGood ux
        go_wp2
        go_ret
        exact unhideR HR
      have u4 : decide (y < -1048576) = false := decide_eq_false h4
      have HN := hideR (unhideR HGood (by rw [ux, show bigB y = false from decide_eq_false (by omega)]; rfl))
      clear HBad HGood ux
      go_wp2
      exact ⟨⟨k + 1, by omega, by first | rfl | go_num, HN⟩, by simp [intOf]; omega⟩
    · obtain rfl : k = nA := by omega
      have tk : decide (k < k) = false := decide_eq_false hlt
      have HR := hideR (unhideR HE4' (unhideR HK))
      clear HE3' HE4' HK
      go_wp2
      go_ret
      exact unhideR HR
def CaPost (A B : List Int) (s : Nat) (w : World) (e : Ending) (w' : World) : Prop := e = .returned (.int .i64 (crossV A B s)) ∧ ∃ n, w' = w.drewN n
set_option maxRecDepth 100000 in
set_option maxHeartbeats 3200000 in
theorem crossAt_any {w : World} {a1 a2 : Option Addr} {c1 c2 n : Nat} {A B : List Int} (hA : ICame w a1 A) (hB : ICame w a2 B) (hO : RowsOk A B n) (s : Nat) (hs : s < n) :
    Calls Tryd.prog 24 #[.slice a1 n c1, .slice a2 n c2, .int .i64 (s : Nat)] w (CaPost A B s w) := by
  have HA := hideR hA
  have HB := hideR hB
  have HO := hideR hO
  have hfew := hO.few
  have hpos := hO.pos
  have HE : HeldR (∀ m, CaPost A B s w (.returned (.int .i64 (crossK A B n s n))) (w.drewN m)) := hideR (fun m => ⟨by unfold crossV; rw [hO.la], m, rfl⟩)
  have hn0 : (n : Int) ≠ 0 := by omega
  have hn0n : n ≠ 0 := by omega
  clear hA hB hO
  go_enter Tryd.func24, Tryd.ntmps24
  go_wp2
  go_loopw [8, 9] (fun sv iv wl => ∃ (k m : Nat), k ≤ n ∧ iv = .int .i64 (k : Nat) ∧ sv = .int .i64 (crossK A B n s k) ∧ wl = w.drewN m) (fun _ iv _ => n + 1 - (intOf iv).toNat)
  case atStart => exact ⟨0, 0, by omega, rfl, rfl, rfl⟩
  case round =>
    obtain ⟨k, m, hk, rfl, rfl, rfl⟩ := hrel
    by_cases hlt : k < n
    · have tk : decide (k < n) = true := decide_eq_true hlt
      have tki : decide ((k : Int) < (n : Int)) = true := decide_eq_true (by omega)
      have jk : (k : Int) < (n : Int) := by omega
      have wk : IntKind.i64.wrap ((k : Int) + 1) = ((k + 1 : Nat) : Int) := by rw [show (k : Int) + 1 = ((k + 1 : Nat) : Int) by omega]; exact iwrap (by omega) (by omega)
      obtain ⟨b1, o1, rfl, _, x1⟩ := (unhideR HA).at_ k (by rw [(unhideR HO).la]; exact hlt)
      obtain ⟨j, hj⟩ : ∃ j, (k + s) % n = j := ⟨_, rfl⟩
      have hjn : j < n := by rw [← hj]; exact Nat.mod_lt _ hpos
      obtain ⟨b2, o2, rfl, _, x2⟩ := (unhideR HB).at_ j (by rw [(unhideR HO).lb]; exact hjn)
      have jj : (j : Int) < (n : Int) := by omega
      have ws : IntKind.i64.wrap ((k : Int) + (s : Int)) = ((k + s : Nat) : Int) := by rw [show (k : Int) + (s : Int) = ((k + s : Nat) : Int) by omega]; exact iwrap (by omega) (by omega)
      obtain ⟨ks, hks⟩ : ∃ ks, k + s = ks := ⟨_, rfl⟩
      rw [hks] at hj ws
      have hm1 : (ks : Int) % (n : Int) = (j : Nat) := by rw [← hj]; exact (Int.natCast_emod ks n).symm
      have hm2 : (ks : Int).tmod (n : Int) = (j : Nat) := (Int.tmod_eq_emod_of_nonneg (Int.natCast_nonneg ks)).trans hm1
      have HNx : HeldR (crossK A B n s (k + 1) = crossK A B n s k + A.getD k 0 * B.getD j 0) := hideR (by rw [← hj, ← hks]; rfl)
      have hr := crossK_range (unhideR HO).each n s k
      have hmul := mul_20 ⟨((unhideR HO).each k).1, ((unhideR HO).each k).2.1⟩ ⟨((unhideR HO).each j).2.2.1, ((unhideR HO).each j).2.2.2⟩
      generalize A.getD k 0 = x at *
      generalize B.getD j 0 = y at *
      generalize crossK A B n s k = cs at *
      obtain ⟨p, hp⟩ : ∃ p, x * y = p := ⟨_, rfl⟩
      rw [hp] at hmul HNx
      have wp : IntKind.i64.wrap (x * y) = p := by rw [hp]; clear hm1 hm2 hp; exact iwrap (by omega) (by omega)
      have wc : IntKind.i64.wrap (cs + p) = cs + p := by clear hm1 hm2 hp; exact iwrap (by omega) (by omega)
      clear hj hks hp hr hmul
      go_wp2
      go_quiet (fail)
      go_wp2
      exact ⟨⟨k + 1, _, by omega, by first | rfl | go_num, by rw [unhideR HNx], rfl⟩, by clear hm1 hm2; simp [intOf]; omega⟩
    · obtain rfl : k = n := by omega
      have tk : decide (k < k) = false := decide_eq_false hlt
      have HR := hideR (unhideR HE m)
      clear HE
      generalize crossK A B k s k = cs at *
      go_wp2
      go_ret
      exact unhideR HR
end Go.Proofs.YtngdemhhcablmakDoor
namespace Go.Proofs.YtngdemhhcablmakDoor
open Go Go.RowKit

/-- the best shift of rows that are right. -/
def shB (A B : List Int) : Nat := bestI (crossL A B) A.length
def shS (A B : List Int) : Int := (crossL A B).getD (shB A B) 0
def prB (A B : List Int) (s : Int) : Bool := decide (0 ≤ s ∧ s < (A.length : Int) ∧ (crossL A B).getD s.toNat 0 = shS A B)
def CrPost (a : Nat → Addr) (A B : List Int) (w : World) (e : Ending) (w' : World) : Prop := ∃ (X : List Int) (ad : Option Addr) (cap : Nat) (er : Value), e = .returned (.tuple #[.slice ad X.length cap, er]) ∧ ErrIs a (rowsE A B) er ∧ (rowsE A B ≠ 0 → X = []) ∧ (rowsE A B = 0 → X = crossL A B) ∧ ICame w' ad X ∧ Below w.heap.size w w'
def ShPost (a : Nat → Addr) (A B : List Int) (w : World) (e : Ending) (w' : World) : Prop := ∃ er : Value, e = .returned (.tuple #[.int .i64 (if rowsE A B = 0 then (shB A B : Nat) else (0 : Int)), .int .i64 (if rowsE A B = 0 then shS A B else 0), er]) ∧ ErrIs a (rowsE A B) er ∧ Below w.heap.size w w'
def PvdPost (a : Nat → Addr) (A B : List Int) (s : Int) (w : World) (e : Ending) (w' : World) : Prop := ∃ er : Value, e = .returned (.tuple #[.bool (decide (rowsE A B = 0) && prB A B s), er]) ∧ ErrIs a (rowsE A B) er ∧ Below w.heap.size w w'
/-- WHAT THE PROGRAM'S Cross, Best, Proved MUST ANSWER. -/
def CrossOK (a : Nat → Addr) : Prop := ∀ {w : World} {a1 a2 : Option Addr} {c1 c2 : Nat} {A B : List Int}, Sents w a → ICame w a1 A → ICame w a2 B → A.length ≤ 9223372036854775807 → B.length ≤ 9223372036854775807 → Calls Tryd.prog 21 #[.slice a1 A.length c1, .slice a2 B.length c2] w (CrPost a A B w)
def ShBestOK (a : Nat → Addr) : Prop := ∀ {w : World} {a1 a2 : Option Addr} {c1 c2 : Nat} {A B : List Int}, Sents w a → ICame w a1 A → ICame w a2 B → A.length ≤ 9223372036854775807 → B.length ≤ 9223372036854775807 → Calls Tryd.prog 20 #[.slice a1 A.length c1, .slice a2 B.length c2] w (ShPost a A B w)
def ProvedOK (a : Nat → Addr) : Prop := ∀ {w : World} {a1 a2 : Option Addr} {c1 c2 : Nat} {A B : List Int} (s : Int), Sents w a → ICame w a1 A → ICame w a2 B → A.length ≤ 9223372036854775807 → B.length ≤ 9223372036854775807 → Calls Tryd.prog 22 #[.slice a1 A.length c1, .slice a2 B.length c2, .int .i64 s] w (PvdPost a A B s w)
theorem first_rows : rowsE [0, 1, 0] [0, 0, 1] = 0 ∧ shB [0, 1, 0] [0, 0, 1] = 1 ∧ shS [0, 1, 0] [0, 0, 1] = 1 := by decide +kernel
def c4C (nA nB : Nat) : Bool := decide ((60 < nA ∧ nA ≤ 256) ∨ (60 < nB ∧ nB ≤ 256) ∨ 300 < nA ∨ 300 < nB)
theorem three_came {w : World} {g : Nat} {x y z : Int} (h : w.heap[g]? = some (.cells #[.int .i64 x, .int .i64 y, .int .i64 z] 3)) : ICame w (some ⟨g, 0, none⟩) [x, y, z] := ⟨fun k hk => by
  refine ⟨g, 0, rfl, ltB h, ?_⟩
  rw [Nat.zero_add]
  rcases (show k = 0 ∨ k = 1 ∨ k = 2 by simp at hk; omega) with rfl | rfl | rfl
  · exact (cells_at h 0 (by simp)).1
  · exact (cells_at h 1 (by simp)).1
  · exact (cells_at h 2 (by simp)).1⟩
def SwPost (w : World) (e : Ending) (w' : World) : Prop := e = .returned (.bool true) ∧ Below w.heap.size w w'
set_option maxRecDepth 100000 in
set_option maxHeartbeats 6400000 in
theorem cross_walk {a : Nat → Addr} (hC : CrossOK a) (hBt : ShBestOK a) (hP : ProvedOK a) {w : World} {a1 a2 : Option Addr} {c1 c2 : Nat} {A B : List Int} (hS : Sents w a) (hA : ICame w a1 A) (hB : ICame w a2 B) (l1 : A.length ≤ 9223372036854775807) (l2 : B.length ≤ 9223372036854775807) (s : Int) :
    Calls Tryd.prog 6 #[.slice a1 A.length c1, .slice a2 B.length c2, .int .i64 s] w (SwPost w) := by
  have HS : HeldR (∀ u, Below w.heap.size w u → Sents u a) := hideR (fun u k => hS.below k (Nat.le_refl _))
  have HA : HeldR (∀ u, Below w.heap.size w u → ICame u a1 A) := hideR (fun u k => hA.below k)
  have HB : HeldR (∀ u, Below w.heap.size w u → ICame u a2 B) := hideR (fun u k => hB.below k)
  have hb0 := below_a w (.cells #[.int .i64 0, .int .i64 1, .int .i64 0] 3)
  have hb1 := below_go hb0 (below_a (w.alloc (.cells #[.int .i64 0, .int .i64 1, .int .i64 0] 3)) (.cells #[.int .i64 0, .int .i64 0, .int .i64 1] 3))
  have hg0 := keepA (o' := .cells #[.int .i64 0, .int .i64 0, .int .i64 1] 3) (alloc_last w (.cells #[.int .i64 0, .int .i64 1, .int .i64 0] 3))
  have hg1 : ((w.alloc (.cells #[.int .i64 0, .int .i64 1, .int .i64 0] 3)).alloc (.cells #[.int .i64 0, .int .i64 0, .int .i64 1] 3)).heap[w.heap.size + 1]? = some (.cells #[.int .i64 0, .int .i64 0, .int .i64 1] 3) := by
    have := alloc_last (w.alloc (.cells #[.int .i64 0, .int .i64 1, .int .i64 0] 3)) (.cells #[.int .i64 0, .int .i64 0, .int .i64 1] 3)
    simpa using this
  have hf : Calls Tryd.prog 20 #[.slice (some ⟨w.heap.size, 0, none⟩) 3 3, .slice (some ⟨w.heap.size + 1, 0, none⟩) 3 3] ((w.alloc (.cells #[.int .i64 0, .int .i64 1, .int .i64 0] 3)).alloc (.cells #[.int .i64 0, .int .i64 0, .int .i64 1] 3)) fun e w' => e = .returned (.tuple #[.int .i64 1, .int .i64 1, .nilIface]) ∧ HeldR (Below w.heap.size w w') := by
    refine (hBt (c1 := 3) (c2 := 3) (A := [0, 1, 0]) (B := [0, 0, 1]) (unhideR HS _ hb1) (three_came hg0) (three_came hg1) (by decide) (by decide)).mono ?_
    rintro e w' ⟨er, rfl, her, k⟩
    obtain ⟨f1, f2, f3⟩ := first_rows
    rw [f1] at her ⊢
    rw [f2, f3]
    rcases her with ⟨_, rfl⟩ | ⟨k9, _, q, _⟩
    · exact ⟨rfl, hideR (below_go hb1 k)⟩
    · omega
  have HCr : HeldR (∀ u, Below w.heap.size w u → Calls Tryd.prog 21 #[.slice a1 A.length c1, .slice a2 B.length c2] u (CrPost a A B u)) := hideR (fun u k => hC (unhideR HS u k) (unhideR HA u k) (unhideR HB u k) l1 l2)
  have HBt : HeldR (∀ u, Below w.heap.size w u → Calls Tryd.prog 20 #[.slice a1 A.length c1, .slice a2 B.length c2] u (ShPost a A B u)) := hideR (fun u k => hBt (unhideR HS u k) (unhideR HA u k) (unhideR HB u k) l1 l2)
  have HPv : HeldR (∀ u, Below w.heap.size w u → Calls Tryd.prog 22 #[.slice a1 A.length c1, .slice a2 B.length c2, .int .i64 s] u (PvdPost a A B s u)) := hideR (fun u k => hP s (unhideR HS u k) (unhideR HA u k) (unhideR HB u k) l1 l2)
  have HRe : HeldR (∀ u, Below w.heap.size w u → Calls Tryd.prog 23 #[.slice a1 A.length c1, .slice a2 B.length c2] u (RePost A B u)) := hideR (fun u k => rowsError_any (unhideR HA u k) (unhideR HB u k) l1 l2)
  obtain ⟨nA, hnA⟩ : ∃ n, A.length = n := ⟨_, rfl⟩
  obtain ⟨nB, hnB⟩ : ∃ n, B.length = n := ⟨_, rfl⟩
  rw [hnA] at l1 HCr HBt HPv HRe ⊢
  rw [hnB] at l2 HCr HBt HPv HRe ⊢
  have HnA := hideR hnA
  have HnB := hideR hnB
  clear hS hA hB hb0 hb1 hg0 hg1 hnA hnB
  go_enter Tryd.func6, Tryd.ntmps6
  go_wp2_with fail
  refine hf.mono ?_
  rintro e w1 ⟨rfl, HB1⟩
  clear hf
  go_upto_region 4 with fail
  go_cut [62] from 35 to 62 (fun s62 wx => s62 = .bool (c4C nA nB) ∧ wx = w1)
  case' first =>
    go_wp2
    all_goals
      go_meet
      refine ⟨congrArg Value.bool ?_, rfl⟩
      unfold c4C
      rw [Bool.eq_iff_iff]
      simp only [decide_eq_true_eq, true_iff]
      first | omega | (constructor <;> intro q <;> first | omega | (simp at q ⊢; omega) | (exfalso; omega) | trace_state)
  obtain ⟨rfl, rfl⟩ := hcut
  cases C4 : c4C nA nB with
  | true =>
    clear HCr HBt HPv HRe
    go_wp2
    go_ret
    exact ⟨rfl, unhideR HB1⟩
  | false =>
  have hfew := of_decide_eq_false C4
  clear C4
  have h1 := unhideR HCr wc (unhideR HB1)
  go_wp2_with fail
  refine h1.mono ?_
  rintro e w2 ⟨X, ad, cap, er1, rfl, her1, hX0, hX1, hXc, k2⟩
  have HB2 := hideR (below_go (unhideR HB1) k2)
  have HE1 := hideR her1
  have HXc : HeldR (∀ u, Below w2.heap.size w2 u → ICame u ad X) := hideR (fun u k => hXc.below k)
  have HX0 := hideR hX0
  have HX1 := hideR hX1
  obtain ⟨nX, hnX⟩ : ∃ n, X.length = n := ⟨_, rfl⟩
  rw [hnX]
  have HnX := hideR hnX
  have h2 := unhideR HBt w2 (unhideR HB2)
  clear h1 her1 hX0 hX1 hXc k2 hnX
  go_wp2_with fail
  refine h2.mono ?_
  rintro e w3 ⟨er2, rfl, her2, k3⟩
  have HB3 := hideR (below_go (unhideR HB2) k3)
  have HK3 := hideR k3
  have HE2 := hideR her2
  have h3 := unhideR HPv w3 (unhideR HB3)
  obtain ⟨vn, hvn⟩ : ∃ v, (if rowsE A B = 0 then ((shB A B : Nat) : Int) else 0) = v := ⟨_, rfl⟩
  obtain ⟨vs, hvs⟩ : ∃ v, (if rowsE A B = 0 then shS A B else 0) = v := ⟨_, rfl⟩
  rw [hvn, hvs]
  have HVn := hideR hvn
  have HVs := hideR hvs
  clear h2 her2 k3 hvn hvs
  go_wp2_with fail
  refine h3.mono ?_
  rintro e w4 ⟨er3, rfl, her3, k4⟩
  have HB4 := hideR (below_go (unhideR HB3) k4)
  have HK4 := hideR (below_go (unhideR HK3) k4)
  have HE3 := hideR her3
  have h4 := unhideR HRe w4 (unhideR HB4)
  obtain ⟨vp, hvp⟩ : ∃ v, (decide (rowsE A B = 0) && prB A B s) = v := ⟨_, rfl⟩
  rw [hvp]
  have HVp := hideR hvp
  clear h3 her3 k4 hvp HB3 HK3
  unfold RePost at h4
  obtain ⟨E, hE⟩ : ∃ E, rowsE A B = E := ⟨_, rfl⟩
  rw [hE] at h4 HE1 HE2 HE3 HX0 HX1 HVn HVs HVp
  have HE := hideR hE
  clear hE
  go_wp2_with fail
  refine h4.mono ?_
  rintro e w4' ⟨rfl, rfl⟩
  have h5 := coded_err (unhideR HS _ (unhideR HB4)) (unhideR HE1)
  clear h4
  go_wp2_with fail
  refine h5.mono ?_
  rintro e w5 ⟨rfl, k5⟩
  have HB5 := hideR (below_go (unhideR HB4) k5)
  have HK5 := hideR (below_go (unhideR HK4) k5)
  have h6 := coded_err (unhideR HS _ (unhideR HB5)) (unhideR HE2)
  clear h5 k5 HB4 HK4
  go_wp2_with fail
  refine h6.mono ?_
  rintro e w6 ⟨rfl, k6⟩
  have HB6 := hideR (below_go (unhideR HB5) k6)
  have HK6 := hideR (below_go (unhideR HK5) k6)
  have h7 := coded_err (unhideR HS _ (unhideR HB6)) (unhideR HE3)
  clear h6 k6 HB5 HK5
  go_wp2_with fail
  refine h7.mono ?_
  rintro e w7 ⟨rfl, k7⟩
  have HB7 := hideR (below_go (unhideR HB6) k7)
  have HK7 := hideR (below_go (unhideR HK6) k7)
  clear h7 k7 HB6 HK6 HE1 HE2 HE3
  by_cases e0 : E = 0
  case neg =>
    have hpos : 0 < E := by
      have := unhideR HE
      unfold rowsE at this
      split at this
      · omega
      · split at this
        · omega
        · split at this <;> omega
    have tE : decide (0 < E) = true := decide_eq_true hpos
    obtain rfl := unhideR HX0 e0
    obtain rfl : 0 = nX := unhideR HnX
    obtain rfl : 0 = vn := by rw [← unhideR HVn, if_neg e0]
    obtain rfl : 0 = vs := by rw [← unhideR HVs, if_neg e0]
    obtain rfl : false = vp := by rw [← unhideR HVp, decide_eq_false e0]; rfl
    clear HX0 HX1 HVn HVs HVp
    go_wp2
    go_ret
    exact ⟨rfl, unhideR HB7⟩
  case pos =>
  subst e0
  obtain rfl := unhideR HX1 rfl
  have hn1 : nX = nA := by rw [← unhideR HnX, crossL_len]; exact unhideR HnA
  subst hn1
  obtain rfl : ((shB A B : Nat) : Int) = vn := by rw [← unhideR HVn, if_pos rfl]
  obtain rfl : shS A B = vs := by rw [← unhideR HVs, if_pos rfl]
  obtain rfl : prB A B s = vp := by rw [← unhideR HVp]; simp
  obtain ⟨n, hO⟩ := rows_ok (unhideR HE)
  obtain rfl : nX = n := by rw [← unhideR HnA, hO.la]
  have hB2 : nB = nX := by rw [← unhideR HnB, hO.lb]
  subst hB2
  have hposn := hO.pos
  have hfewn := hO.few
  have HO := hideR hO
  have HL : HeldR (∀ u, Below w7.heap.size w7 u → ICame u ad (crossL A B)) := hideR (fun u k => unhideR HXc u (below_go (unhideR HK7) k))
  have HCa : HeldR (∀ u k, Below w7.heap.size w7 u → k < nB → Calls Tryd.prog 24 #[.slice a1 nB c1, .slice a2 nB c2, .int .i64 (k : Nat)] u (CaPost A B k u)) := hideR (fun u k hb hk => crossAt_any (unhideR HA u (below_go (unhideR HB7) hb)) (unhideR HB u (below_go (unhideR HB7) hb)) (unhideR HO) k hk)
  have HAt : HeldR (∀ k, k < nB → (crossL A B).getD k 0 = crossV A B k) := hideR (fun k hk => crossL_at (by rw [(unhideR HO).la]; exact hk))
  have HLn : HeldR ((crossL A B).length = nB) := hideR (by rw [crossL_len]; exact (unhideR HO).la)
  have HBi : HeldR (shB A B = bestI (crossL A B) nB) := hideR (by unfold shB; rw [(unhideR HO).la])
  have HSi : HeldR (shS A B = (crossL A B).getD (bestI (crossL A B) nB) 0) := hideR (by unfold shS; rw [unhideR HBi])
  have HPi : HeldR (prB A B s = decide (0 ≤ s ∧ s < (nB : Int) ∧ (crossL A B).getD s.toNat 0 = (crossL A B).getD (bestI (crossL A B) nB) 0)) := hideR (by unfold prB; rw [(unhideR HO).la, unhideR HSi])
  have HBl : HeldR (∀ k, k ≤ nB → bestI (crossL A B) k < nB) := hideR (fun k hk => bestI_lt _ hposn k hk)
  generalize shB A B = sb at *
  generalize shS A B = ss at *
  generalize prB A B s = pv at *
  have HNx : HeldR (∀ k, bestI (crossL A B) (k + 1) = if (crossL A B).getD (bestI (crossL A B) k) 0 < (crossL A B).getD k 0 then k else bestI (crossL A B) k) := hideR (fun k => rfl)
  have HB0 : HeldR (bestI (crossL A B) 0 = 0) := hideR rfl
  generalize crossL A B = M at *
  clear HX0 HX1 HVn HVs HVp HCr HBt HPv HRe HXc HnX HnA HnB HA HB HE
  have tnn : ((nB : Int) != (nB : Int)) = false := by simp
  have tnn' : (nB != nB) = false := by simp
  go_wp2
  go_loopw [19, 20] (fun bv iv wl => ∃ k : Nat, k ≤ nB ∧ iv = .int .i64 (k : Nat) ∧ bv = .int .i64 ((bestI M k : Nat) : Int) ∧ HeldR (Below w7.heap.size w7 wl)) (fun _ iv _ => nB + 1 - (intOf iv).toNat)
  case atStart => exact ⟨0, by omega, rfl, rfl, hideR (Below.refl _ _)⟩
  case round =>
    obtain ⟨k, hk, rfl, rfl, HW⟩ := hrel
    by_cases hlt : k < nB
    · have tk : decide (k < nB) = true := decide_eq_true hlt
      have jk : (k : Int) < (nB : Int) := by omega
      have wk : IntKind.i64.wrap ((k : Int) + 1) = ((k + 1 : Nat) : Int) := by rw [show (k : Int) + 1 = ((k + 1 : Nat) : Int) by omega]; exact iwrap (by omega) (by omega)
      obtain ⟨bl, ol, rfl, _, x1⟩ := (unhideR HL wr (unhideR HW)).at_ k (by rw [unhideR HLn]; exact hlt)
      have hca : ∀ q, Calls Tryd.prog 24 #[.slice a1 nB c1, .slice a2 nB c2, .int .i64 (k : Nat)] (wr.drewN q) fun e w' => e = .returned (.int .i64 (M.getD k 0)) ∧ ∃ n, w' = (wr.drewN q).drewN n := fun q => by
        have := unhideR HCa (wr.drewN q) k (drew_below _ _ (unhideR HW)) hlt
        rw [unhideR HAt k hlt]
        exact this
      have hbl := unhideR HBl k hk
      have HXj : HeldR (∀ q j, j < nB → (wr.drewN q).cell? ⟨bl, ol + j, none⟩ = some (.int .i64 (M.getD j 0))) := hideR (fun q j hj => by
        obtain ⟨b9, o9, e9, _, x9⟩ := (unhideR HL wr (unhideR HW)).at_ j (by rw [unhideR HLn]; exact hj)
        cases e9
        exact x9)
      have HNk := hideR (unhideR HNx k)
      obtain ⟨bk, hbk⟩ : ∃ b, bestI M k = b := ⟨_, rfl⟩
      rw [hbk] at hbl HNk ⊢
      have jb : (bk : Int) < (nB : Int) := by omega
      have y1 := fun q => unhideR HXj q k hlt
      have y2 := fun q => unhideR HXj q bk hbl
      obtain ⟨ck, hck⟩ : ∃ c, M.getD k 0 = c := ⟨_, rfl⟩
      obtain ⟨cb, hcb⟩ : ∃ c, M.getD bk 0 = c := ⟨_, rfl⟩
      rw [hck] at x1 hca y1 HNk
      rw [hcb] at y2 HNk
      clear hck hcb hbk
      go_wp2
      go_quiet (first | (go_at_call 24; exact Calls.quiet_of (hca _)))
      have z1 := y1 nq
      have z2 := y2 nq
      have HW2 := hideR (drew_below wr nq (unhideR HW))
      clear y1 y2 x1 hca HXj
      generalize wr.drewN nq = wq at *
      clear nq
      by_cases hq : cb < ck
      · have tq : decide (cb < ck) = true := decide_eq_true hq
        rw [if_pos hq] at HNk
        go_wp2
        go_quiet (fail)
        have HW3 := hideR (drew_below wq nq (unhideR HW2))
        go_wp2
        exact ⟨⟨k + 1, by omega, by first | rfl | go_num, by rw [unhideR HNk], HW3⟩, by simp [intOf]; omega⟩
      · have tq : decide (cb < ck) = false := decide_eq_false hq
        rw [if_neg hq] at HNk
        go_wp2
        go_quiet (fail)
        have HW3 := hideR (drew_below wq nq (unhideR HW2))
        go_wp2
        exact ⟨⟨k + 1, by omega, by first | rfl | go_num, by rw [unhideR HNk], HW3⟩, by simp [intOf]; omega⟩
    · obtain rfl : k = nB := by omega
      have tk : decide (k < k) = false := decide_eq_false hlt
      have hbl := unhideR HBl k (Nat.le_refl _)
      obtain ⟨bl, ol, rfl, _, x0⟩ := (unhideR HL wr (unhideR HW)).at_ 0 (by rw [unhideR HLn]; exact hposn)
      have HXj : HeldR (∀ u, Below w7.heap.size w7 u → ∀ j, j < k → u.cell? ⟨bl, ol + j, none⟩ = some (.int .i64 (M.getD j 0))) := hideR (fun u hu j hj => by
        obtain ⟨b9, o9, e9, _, x9⟩ := (unhideR HL u hu).at_ j (by rw [unhideR HLn]; exact hj)
        cases e9
        exact x9)
      obtain ⟨bk, hbk⟩ : ∃ b, bestI M k = b := ⟨_, rfl⟩
      have hsb : sb = bk := (unhideR HBi).trans hbk
      have hss : ss = M.getD bk 0 := by rw [unhideR HSi, hbk]
      have hpi := unhideR HPi
      rw [hbk] at hbl hpi ⊢
      subst hsb
      subst hss
      have jb : (sb : Int) < (k : Int) := by omega
      have y2 := unhideR HXj wr (unhideR HW) sb hbl
      clear x0 hbk HCa HAt HBi HSi HPi HBl HNx HB0 HL HLn
      by_cases s0 : 0 ≤ s
      · have u0 : decide (0 ≤ s) = true := decide_eq_true s0
        by_cases s1 : s < (k : Int)
        · have u1 : decide (s < (k : Int)) = true := decide_eq_true s1
          obtain ⟨m, rfl⟩ : ∃ m : Nat, s = (m : Nat) := ⟨s.toNat, by omega⟩
          have hm : m < k := by omega
          have u1n : decide (m < k) = true := decide_eq_true hm
          have y1 := unhideR HXj wr (unhideR HW) m hm
          rw [Int.toNat_natCast] at hpi
          have HX1 : HeldR (∀ q, (wr.drewN q).cell? ⟨bl, ol + m, none⟩ = some (.int .i64 (M.getD m 0))) := hideR (fun q => y1)
          have HX2 : HeldR (∀ q, (wr.drewN q).cell? ⟨bl, ol + sb, none⟩ = some (.int .i64 (M.getD sb 0))) := hideR (fun q => y2)
          generalize M.getD m 0 = cm at *
          generalize M.getD sb 0 = cb at *
          have hpv : pv = (cm == cb) := by
            rw [hpi, Bool.eq_iff_iff]
            simp
            omega
          subst hpv
          clear hpi HXj y1 y2
          go_upto_region 25 with fail
          refine wp_region_lets [(· = .int .i64 (m : Nat)),
            (· = .bool true),
            (· = .bool true),
            (· = .int .i64 (m : Nat)),
            (· = .slice (some ⟨bl, ol, none⟩) k cap),
            (· = .int .i64 (k : Nat)),
            (· = .bool true),
            (· = .bool true),
            (· = .bool true),
            (· = .slice (some ⟨bl, ol, none⟩) k cap),
            (· = .int .i64 (m : Nat)),
            (· = .pointer (some ⟨bl, ol + m, none⟩)),
            (· = .int .i64 cm),
            (· = .slice (some ⟨bl, ol, none⟩) k cap),
            (· = .int .i64 (sb : Nat)),
            (· = .pointer (some ⟨bl, ol + sb, none⟩)),
            (· = .int .i64 cb),
            (· = .bool (cm == cb)),
            (· = .bool (cm == cb)),
            (· = .bool (cm == cb))] (by kernel_rfl) (by kernel_rfl) ?_
          refine lexL_step (fun K hK => ⟨by kernel_rfl, ⟨_, rfl⟩, fun n => ?_, fun v hv => ?_⟩)
          · go_simp
            exact lUpon_one
          subst hv
          go_simp
          refine hK _ ?_
          clear hK K
          refine lexL_step (fun K hK => ⟨by kernel_rfl, ⟨_, rfl⟩, fun n => ?_, fun v hv => ?_⟩)
          · go_simp
            exact lUpon_one
          subst hv
          go_simp
          refine hK _ ?_
          clear hK K
          refine lexL_step (fun K hK => ⟨by kernel_rfl, ⟨_, rfl⟩, fun n => ?_, fun v hv => ?_⟩)
          · go_simp
            exact lUpon_one
          subst hv
          go_simp
          refine hK _ ?_
          clear hK K
          refine lexL_step (fun K hK => ⟨by kernel_rfl, ⟨_, rfl⟩, fun n => ?_, fun v hv => ?_⟩)
          · go_simp
            exact lUpon_one
          subst hv
          go_simp
          refine hK _ ?_
          clear hK K
          refine lexL_step (fun K hK => ⟨by kernel_rfl, ⟨_, rfl⟩, fun n => ?_, fun v hv => ?_⟩)
          · go_simp
            exact lUpon_one
          subst hv
          go_simp
          refine hK _ ?_
          clear hK K
          refine lexL_step (fun K hK => ⟨by kernel_rfl, ⟨_, rfl⟩, fun n => ?_, fun v hv => ?_⟩)
          · go_simp
            exact lUpon_one
          subst hv
          go_simp
          refine hK _ ?_
          clear hK K
          refine lexL_step (fun K hK => ⟨by kernel_rfl, ⟨_, rfl⟩, fun n => ?_, fun v hv => ?_⟩)
          · go_simp
            exact lUpon_one
          subst hv
          go_simp
          refine hK _ ?_
          clear hK K
          refine lexL_step (fun K hK => ⟨by kernel_rfl, ⟨_, rfl⟩, fun n => ?_, fun v hv => ?_⟩)
          · go_simp
            exact lUpon_one
          subst hv
          go_simp
          refine hK _ ?_
          clear hK K
          refine lexL_step (fun K hK => ⟨by kernel_rfl, ⟨_, rfl⟩, fun n => ?_, fun v hv => ?_⟩)
          · go_simp
            exact lUpon_one
          subst hv
          go_simp
          refine hK _ ?_
          clear hK K
          refine lexL_step (fun K hK => ⟨by kernel_rfl, ⟨_, rfl⟩, fun n => ?_, fun v hv => ?_⟩)
          · go_simp
            exact lUpon_one
          subst hv
          go_simp
          refine hK _ ?_
          clear hK K
          refine lexL_step (fun K hK => ⟨by kernel_rfl, ⟨_, rfl⟩, fun n => ?_, fun v hv => ?_⟩)
          · go_simp
            exact lUpon_one
          subst hv
          go_simp
          refine hK _ ?_
          clear hK K
          refine lexL_step (fun K hK => ⟨by kernel_rfl, ⟨_, rfl⟩, fun n => ?_, fun v hv => ?_⟩)
          · go_simp
            exact lUpon_one
          subst hv
          go_simp
          refine hK _ ?_
          clear hK K
          refine lexL_step (fun K hK => ⟨by kernel_rfl, ⟨_, rfl⟩, fun n => ?_, fun v hv => ?_⟩)
          · have z1 := unhideR HX1 n
            have z2 := unhideR HX2 n
            go_simp
            exact lUpon_one
          subst hv
          go_simp
          refine hK _ ?_
          clear hK K
          refine lexL_step (fun K hK => ⟨by kernel_rfl, ⟨_, rfl⟩, fun n => ?_, fun v hv => ?_⟩)
          · go_simp
            exact lUpon_one
          subst hv
          go_simp
          refine hK _ ?_
          clear hK K
          refine lexL_step (fun K hK => ⟨by kernel_rfl, ⟨_, rfl⟩, fun n => ?_, fun v hv => ?_⟩)
          · go_simp
            exact lUpon_one
          subst hv
          go_simp
          refine hK _ ?_
          clear hK K
          refine lexL_step (fun K hK => ⟨by kernel_rfl, ⟨_, rfl⟩, fun n => ?_, fun v hv => ?_⟩)
          · go_simp
            exact lUpon_one
          subst hv
          go_simp
          refine hK _ ?_
          clear hK K
          refine lexL_step (fun K hK => ⟨by kernel_rfl, ⟨_, rfl⟩, fun n => ?_, fun v hv => ?_⟩)
          · have z1 := unhideR HX1 n
            have z2 := unhideR HX2 n
            go_simp
            exact lUpon_one
          subst hv
          go_simp
          refine hK _ ?_
          clear hK K
          refine lexL_step (fun K hK => ⟨by kernel_rfl, ⟨_, rfl⟩, fun n => ?_, fun v hv => ?_⟩)
          · go_simp
            exact lUpon_one
          subst hv
          go_simp
          refine hK _ ?_
          clear hK K
          refine lexL_step (fun K hK => ⟨by kernel_rfl, ⟨_, rfl⟩, fun n => ?_, fun v hv => ?_⟩)
          · go_simp
            exact lUpon_one
          subst hv
          go_simp
          refine hK _ ?_
          clear hK K
          refine lexL_step (fun K hK => ⟨by kernel_rfl, ⟨_, rfl⟩, fun n => ?_, fun v hv => ?_⟩)
          · go_simp
            exact lUpon_one
          subst hv
          go_simp
          refine hK _ ?_
          clear hK K
          refine lexL_end ?_
          intro nq
          have y3 := unhideR HX2 nq
          have HW3 := hideR (below_go (unhideR HB7) (drew_below wr nq (unhideR HW)))
          generalize wr.drewN nq = wq at *
          go_wp2
          go_ret
          exact ⟨rfl, unhideR HW3⟩
        · have u1 : decide (s < (k : Int)) = false := decide_eq_false s1
          obtain rfl : pv = false := by rw [hpi]; exact decide_eq_false (fun q => s1 q.2.1)
          have HX2 : HeldR (∀ q, (wr.drewN q).cell? ⟨bl, ol + sb, none⟩ = some (.int .i64 (M.getD sb 0))) := hideR (fun q => y2)
          generalize M.getD sb 0 = cb at *
          clear hpi HXj y2
          go_upto_region 25 with fail
          refine wp_region_lets [(· = .int .i64 s),
            (· = .bool true),
            (· = .bool true),
            (· = .int .i64 s),
            (· = .slice (some ⟨bl, ol, none⟩) k cap),
            (· = .int .i64 (k : Nat)),
            (· = .bool false),
            (· = .bool false),
            (· = .bool false),
            (· = undef),
            (· = undef),
            (· = undef),
            (· = undef),
            (· = undef),
            (· = undef),
            (· = undef),
            (· = undef),
            (· = undef),
            (· = .bool false),
            (· = .bool false)] (by kernel_rfl) (by kernel_rfl) ?_
          refine lexL_step (fun K hK => ⟨by kernel_rfl, ⟨_, rfl⟩, fun n => ?_, fun v hv => ?_⟩)
          · go_simp
            exact lUpon_one
          subst hv
          go_simp
          refine hK _ ?_
          clear hK K
          refine lexL_step (fun K hK => ⟨by kernel_rfl, ⟨_, rfl⟩, fun n => ?_, fun v hv => ?_⟩)
          · go_simp
            exact lUpon_one
          subst hv
          go_simp
          refine hK _ ?_
          clear hK K
          refine lexL_step (fun K hK => ⟨by kernel_rfl, ⟨_, rfl⟩, fun n => ?_, fun v hv => ?_⟩)
          · go_simp
            exact lUpon_one
          subst hv
          go_simp
          refine hK _ ?_
          clear hK K
          refine lexL_step (fun K hK => ⟨by kernel_rfl, ⟨_, rfl⟩, fun n => ?_, fun v hv => ?_⟩)
          · go_simp
            exact lUpon_one
          subst hv
          go_simp
          refine hK _ ?_
          clear hK K
          refine lexL_step (fun K hK => ⟨by kernel_rfl, ⟨_, rfl⟩, fun n => ?_, fun v hv => ?_⟩)
          · go_simp
            exact lUpon_one
          subst hv
          go_simp
          refine hK _ ?_
          clear hK K
          refine lexL_step (fun K hK => ⟨by kernel_rfl, ⟨_, rfl⟩, fun n => ?_, fun v hv => ?_⟩)
          · go_simp
            exact lUpon_one
          subst hv
          go_simp
          refine hK _ ?_
          clear hK K
          refine lexL_step (fun K hK => ⟨by kernel_rfl, ⟨_, rfl⟩, fun n => ?_, fun v hv => ?_⟩)
          · go_simp
            exact lUpon_one
          subst hv
          go_simp
          refine hK _ ?_
          clear hK K
          refine lexL_step (fun K hK => ⟨by kernel_rfl, ⟨_, rfl⟩, fun n => ?_, fun v hv => ?_⟩)
          · go_simp
            exact lUpon_one
          subst hv
          go_simp
          refine hK _ ?_
          clear hK K
          refine lexL_step (fun K hK => ⟨by kernel_rfl, ⟨_, rfl⟩, fun n => ?_, fun v hv => ?_⟩)
          · go_simp
            exact lUpon_one
          subst hv
          go_simp
          refine hK _ ?_
          clear hK K
          refine lexL_skip (fun K hK => ⟨by kernel_rfl, ?_⟩)
          go_simp
          refine hK _ ?_
          clear hK K
          refine lexL_skip (fun K hK => ⟨by kernel_rfl, ?_⟩)
          go_simp
          refine hK _ ?_
          clear hK K
          refine lexL_skip (fun K hK => ⟨by kernel_rfl, ?_⟩)
          go_simp
          refine hK _ ?_
          clear hK K
          refine lexL_skip (fun K hK => ⟨by kernel_rfl, ?_⟩)
          go_simp
          refine hK _ ?_
          clear hK K
          refine lexL_skip (fun K hK => ⟨by kernel_rfl, ?_⟩)
          go_simp
          refine hK _ ?_
          clear hK K
          refine lexL_skip (fun K hK => ⟨by kernel_rfl, ?_⟩)
          go_simp
          refine hK _ ?_
          clear hK K
          refine lexL_skip (fun K hK => ⟨by kernel_rfl, ?_⟩)
          go_simp
          refine hK _ ?_
          clear hK K
          refine lexL_skip (fun K hK => ⟨by kernel_rfl, ?_⟩)
          go_simp
          refine hK _ ?_
          clear hK K
          refine lexL_skip (fun K hK => ⟨by kernel_rfl, ?_⟩)
          go_simp
          refine hK _ ?_
          clear hK K
          refine lexL_step (fun K hK => ⟨by kernel_rfl, ⟨_, rfl⟩, fun n => ?_, fun v hv => ?_⟩)
          · go_simp
            exact lUpon_one
          subst hv
          go_simp
          refine hK _ ?_
          clear hK K
          refine lexL_step (fun K hK => ⟨by kernel_rfl, ⟨_, rfl⟩, fun n => ?_, fun v hv => ?_⟩)
          · go_simp
            exact lUpon_one
          subst hv
          go_simp
          refine hK _ ?_
          clear hK K
          refine lexL_end ?_
          intro nq
          have y3 := unhideR HX2 nq
          have HW3 := hideR (below_go (unhideR HB7) (drew_below wr nq (unhideR HW)))
          generalize wr.drewN nq = wq at *
          go_wp2
          go_ret
          exact ⟨rfl, unhideR HW3⟩
      · have u0 : decide (0 ≤ s) = false := decide_eq_false s0
        obtain rfl : pv = false := by rw [hpi]; exact decide_eq_false (fun q => s0 q.1)
        have HX2 : HeldR (∀ q, (wr.drewN q).cell? ⟨bl, ol + sb, none⟩ = some (.int .i64 (M.getD sb 0))) := hideR (fun q => y2)
        generalize M.getD sb 0 = cb at *
        clear hpi HXj y2
        go_upto_region 25 with fail
        refine wp_region_lets [(· = .int .i64 s),
          (· = .bool false),
          (· = .bool false),
          (· = undef),
          (· = undef),
          (· = undef),
          (· = undef),
          (· = .bool false),
          (· = .bool false),
          (· = undef),
          (· = undef),
          (· = undef),
          (· = undef),
          (· = undef),
          (· = undef),
          (· = undef),
          (· = undef),
          (· = undef),
          (· = .bool false),
          (· = .bool false)] (by kernel_rfl) (by kernel_rfl) ?_
        refine lexL_step (fun K hK => ⟨by kernel_rfl, ⟨_, rfl⟩, fun n => ?_, fun v hv => ?_⟩)
        · go_simp
          exact lUpon_one
        subst hv
        go_simp
        refine hK _ ?_
        clear hK K
        refine lexL_step (fun K hK => ⟨by kernel_rfl, ⟨_, rfl⟩, fun n => ?_, fun v hv => ?_⟩)
        · go_simp
          exact lUpon_one
        subst hv
        go_simp
        refine hK _ ?_
        clear hK K
        refine lexL_step (fun K hK => ⟨by kernel_rfl, ⟨_, rfl⟩, fun n => ?_, fun v hv => ?_⟩)
        · go_simp
          exact lUpon_one
        subst hv
        go_simp
        refine hK _ ?_
        clear hK K
        refine lexL_skip (fun K hK => ⟨by kernel_rfl, ?_⟩)
        go_simp
        refine hK _ ?_
        clear hK K
        refine lexL_skip (fun K hK => ⟨by kernel_rfl, ?_⟩)
        go_simp
        refine hK _ ?_
        clear hK K
        refine lexL_skip (fun K hK => ⟨by kernel_rfl, ?_⟩)
        go_simp
        refine hK _ ?_
        clear hK K
        refine lexL_skip (fun K hK => ⟨by kernel_rfl, ?_⟩)
        go_simp
        refine hK _ ?_
        clear hK K
        refine lexL_step (fun K hK => ⟨by kernel_rfl, ⟨_, rfl⟩, fun n => ?_, fun v hv => ?_⟩)
        · go_simp
          exact lUpon_one
        subst hv
        go_simp
        refine hK _ ?_
        clear hK K
        refine lexL_step (fun K hK => ⟨by kernel_rfl, ⟨_, rfl⟩, fun n => ?_, fun v hv => ?_⟩)
        · go_simp
          exact lUpon_one
        subst hv
        go_simp
        refine hK _ ?_
        clear hK K
        refine lexL_skip (fun K hK => ⟨by kernel_rfl, ?_⟩)
        go_simp
        refine hK _ ?_
        clear hK K
        refine lexL_skip (fun K hK => ⟨by kernel_rfl, ?_⟩)
        go_simp
        refine hK _ ?_
        clear hK K
        refine lexL_skip (fun K hK => ⟨by kernel_rfl, ?_⟩)
        go_simp
        refine hK _ ?_
        clear hK K
        refine lexL_skip (fun K hK => ⟨by kernel_rfl, ?_⟩)
        go_simp
        refine hK _ ?_
        clear hK K
        refine lexL_skip (fun K hK => ⟨by kernel_rfl, ?_⟩)
        go_simp
        refine hK _ ?_
        clear hK K
        refine lexL_skip (fun K hK => ⟨by kernel_rfl, ?_⟩)
        go_simp
        refine hK _ ?_
        clear hK K
        refine lexL_skip (fun K hK => ⟨by kernel_rfl, ?_⟩)
        go_simp
        refine hK _ ?_
        clear hK K
        refine lexL_skip (fun K hK => ⟨by kernel_rfl, ?_⟩)
        go_simp
        refine hK _ ?_
        clear hK K
        refine lexL_skip (fun K hK => ⟨by kernel_rfl, ?_⟩)
        go_simp
        refine hK _ ?_
        clear hK K
        refine lexL_step (fun K hK => ⟨by kernel_rfl, ⟨_, rfl⟩, fun n => ?_, fun v hv => ?_⟩)
        · go_simp
          exact lUpon_one
        subst hv
        go_simp
        refine hK _ ?_
        clear hK K
        refine lexL_step (fun K hK => ⟨by kernel_rfl, ⟨_, rfl⟩, fun n => ?_, fun v hv => ?_⟩)
        · go_simp
          exact lUpon_one
        subst hv
        go_simp
        refine hK _ ?_
        clear hK K
        refine lexL_end ?_
        intro nq
        have y3 := unhideR HX2 nq
        have HW3 := hideR (below_go (unhideR HB7) (drew_below wr nq (unhideR HW)))
        generalize wr.drewN nq = wq at *
        go_wp2
        go_ret
        exact ⟨rfl, unhideR HW3⟩
end Go.Proofs.YtngdemhhcablmakDoor
