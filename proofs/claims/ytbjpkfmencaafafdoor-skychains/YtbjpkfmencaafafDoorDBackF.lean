/-
  A slice gone through from its end ('slices.Backward'): the iterator by its contract.
-/
import Derived.RangeFuncNested
import Derived.RangeFuncBound
import Derived.RangeFuncCalls
import Derived.RangeFuncLeaves
import Derived.Shelf.Abstract
import Derived.Shelf.RegionOpen
import Derived.WalkKit
import Derived.OwnWalkIn
import Derived.TacticsInMore
import Derived.LoopNIn
import Derived.LoopIn
import Derived.Test.YtbjpkfmencaafafDoorSky4
namespace Go.Proofs.YtbjpkfmencaafafDoor
open Go Go.RowKit Go.Shelf
attribute [local go_sem] Oper.semAt_some

def upto {α : Type} (f : Nat → α) (k : Nat) : List α := (List.range k).map f
theorem upto_succ {α : Type} (f : Nat → α) (k : Nat) : upto f (k + 1) = upto f k ++ [f k] := by simp [upto, List.range_succ]
theorem upto_length {α : Type} (f : Nat → α) (k : Nat) : (upto f k).length = k := by simp [upto]
/-- what a round keeps: all that lies below, and one block. -/
structure KpB (n₀ Bs : Nat) (W W' : World) : Prop where
  low : Below n₀ W W'
  box : W'.heap[Bs]? = W.heap[Bs]?
theorem KpB.refl (n₀ Bs : Nat) (W : World) : KpB n₀ Bs W W := ⟨Below.refl _ _, rfl⟩
theorem KpB.trans {n₀ Bs : Nat} {A B C : World} (h : KpB n₀ Bs A B) (k : KpB n₀ Bs B C) : KpB n₀ Bs A C := ⟨h.low.trans k.low, k.box.trans h.box⟩
/-- the k-th from the end. -/
def fromEnd (L : List St) (k : Nat) : Int × St := (((L.length - 1 - k : Nat) : Int), L.getD (L.length - 1 - k) st0)
def encS (x : Int × St) : Array Value := #[.int .i64 x.1, .agg #[.int .i64 x.2.k, .int .i64 x.2.d]]
set_option maxRecDepth 100000 in
set_option maxHeartbeats 4000000 in
theorem back1_in (n : Nat) (l Bs n₀ b off cap : Nat) (L : List St) (hl : L.length ≤ 200) (hb : b < n₀) (J Jx : List (Int × St) → World → Prop)
    (hY : ∀ pre x W, J pre W → pre.length < L.length → YieldAt Fence.wide (n - 1) Tryd.prog l (encS x) W fun e W' =>
      (e = .returned (.bool true) ∧ J (pre ++ [x]) W' ∧ KpB n₀ Bs W W') ∨ (e = .returned (.bool false) ∧ Jx (pre ++ [x]) W'))
    (W : World) (hBs : W.heap[Bs]? = some (.cells #[.slice (some ⟨b, off, none⟩) L.length cap] 27)) (hc : SRow W b off L) (h0 : J [] W) :
    CallsIn Fence.wide n Tryd.prog 31 #[.func (.yield l) #[] #[], .pointer (some ⟨Bs, 0, none⟩)] W fun e W' => (∃ v, e = .returned v) ∧
      ((∃ ys, ys = upto (fromEnd L) L.length ∧ J ys W') ∨ (∃ pre, True ∧ Jx pre W')) := by
  have hB0 : W.cell? ⟨Bs, 0, none⟩ = some (.slice (some ⟨b, off, none⟩) L.length cap) := (cells_at hBs 0 (by simp)).1
  have HY := hideR hY
  have HC := hideR hc
  clear hY hc
  refine callsIn_of_wp Tryd.func31 rfl trivial ?_ rfl
  simp only [Tryd.ntmps31, List.size_toArray, List.length_cons, List.length_nil, Nat.reduceAdd, Nat.reduceSub, Array.replicate_succ, Array.replicate_zero, List.push_toArray, List.append_toArray, List.nil_append, List.cons_append]
  gi_wp2
  gi_loopw [3] (fun i wr => ∃ m : Nat, m ≤ L.length ∧ i = .int .i64 ((m : Int) - 1) ∧ HeldR (J (upto (fromEnd L) (L.length - m)) wr) ∧ HeldR (KpB n₀ Bs W wr))
    (fun i _ => (intOf i + 1).toNat)
  case atStart => exact ⟨L.length, Nat.le_refl _, by simp, by rw [Nat.sub_self]; exact h0, KpB.refl _ _ _⟩
  case round =>
    obtain ⟨m, hm, rfl, HJ, HK⟩ := hrel
    have hbs : wr.heap[Bs]? = some (.cells #[.slice (some ⟨b, off, none⟩) L.length cap] 27) := (unhideR HK).box.trans hBs
    have hB1 : wr.cell? ⟨Bs, 0, none⟩ = some (.slice (some ⟨b, off, none⟩) L.length cap) := (cells_at hbs 0 (by simp)).1
    clear hbs
    cases m with
    | zero =>
      simp only [Int.natCast_zero] at *
      gi_wp2
      go_end0
      exact ⟨⟨_, rfl⟩, .inl ⟨_, rfl, unhideR HJ⟩⟩
    | succ j =>
      have hj : ((j + 1 : Nat) : Int) - 1 = (j : Int) := by omega
      rw [hj]
      have c0 := ((unhideR HK).low.cell (p := ⟨b, off + j * 2, none⟩) hb).trans ((unhideR HC).ca j (by omega))
      have c1 := ((unhideR HK).low.cell (p := ⟨b, off + j * 2 + 1, none⟩) hb).trans ((unhideR HC).cb j (by omega))
      have hfe : fromEnd L (L.length - (j + 1)) = ((j : Int), L.getD j st0) := by
        unfold fromEnd
        have : L.length - 1 - (L.length - (j + 1)) = j := by omega
        rw [this]
      obtain ⟨fn, tmps, assign, body, hy, hR⟩ := unhideR HY _ (fromEnd L (L.length - (j + 1))) wr (unhideR HJ) (by rw [upto_length]; omega)
      have hnext : upto (fromEnd L) (L.length - (j + 1)) ++ [fromEnd L (L.length - (j + 1))] = upto (fromEnd L) (L.length - j) := by
        rw [← upto_succ]
        congr 1
        omega
      rw [hnext] at hR
      rw [hfe] at hy
      unfold encS at hy
      dsimp only at hy
      have HR := hideR hR
      clear hR hfe hnext
      generalize L.getD j st0 = s at *
      gi_wp2
      refine ⟨fun h => (by cases h), (unhideR HR).mono ?_⟩
      rintro e W3 (⟨rfl, hJ3, hk3⟩ | ⟨rfl, hJx3⟩)
      · have HJ3 := hideR hJ3
        have HK3 := hideR ((unhideR HK).trans hk3)
        clear hJ3 hk3
        gi_wp2
        go_roundw
        case rel => exact ⟨j, by omega, by simp, HJ3, HK3⟩
        case measure => simp [intOf]
      · gi_wp2
        refine bodyPost_ret (results_none rfl _ _ _) rfl ?_
        exact ⟨⟨_, rfl⟩, .inr ⟨_, trivial, hJx3⟩⟩
set_option maxRecDepth 100000 in
set_option maxHeartbeats 4000000 in
theorem back1_nil_in (n : Nat) (l Bs : Nat) (J : List (Int × St) → World → Prop) (W : World) (hBs : W.heap[Bs]? = some (.cells #[.slice none 0 0] 27)) (h0 : J [] W) :
    CallsIn Fence.wide n Tryd.prog 31 #[.func (.yield l) #[] #[], .pointer (some ⟨Bs, 0, none⟩)] W fun e W' => (∃ v, e = .returned v) ∧ J [] W' := by
  have hB0 : W.cell? ⟨Bs, 0, none⟩ = some (.slice none 0 0) := (cells_at hBs 0 (by simp)).1
  refine callsIn_of_wp Tryd.func31 rfl trivial ?_ rfl
  simp only [Tryd.ntmps31, List.size_toArray, List.length_cons, List.length_nil, Nat.reduceAdd, Nat.reduceSub, Array.replicate_succ, Array.replicate_zero, List.push_toArray, List.append_toArray, List.nil_append, List.cons_append]
  gi_wp2
  gi_loopw [3] (fun i wr => i = .int .i64 (-1) ∧ J [] wr) (fun _ _ => 0)
  case atStart => exact ⟨rfl, h0⟩
  case round =>
    obtain ⟨rfl, hJs⟩ := hrel
    gi_wp2
    go_end0
    exact ⟨⟨_, rfl⟩, hJs⟩
theorem backward_any (sv : Value) (hs : ∃ a len cap, sv = .slice a len cap) (w : World) : Calls Tryd.prog 19 #[sv] w fun e w' => e = .returned (.func (.func 31) #[] #[.pointer (some ⟨w.heap.size, 0, none⟩)]) ∧ w' = w.alloc (.cells #[sv] 27) := by
  obtain ⟨a, len, cap, rfl⟩ := hs
  go_enter Tryd.func19, Tryd.ntmps19
  go_wp2
  go_ret
  exact ⟨rfl, rfl⟩
/-- a slice of steps in a world. -/
inductive Steps3 (n₀ : Nat) (w : World) : Value → List St → Prop where
  | nil : Steps3 n₀ w (.slice none 0 0) []
  | row {b off cap : Nat} {L : List St} : b < n₀ → SRow w b off L → Steps3 n₀ w (.slice (some ⟨b, off, none⟩) L.length cap) L
theorem back_stops (n Bs n₀ : Nat) (sv : Value) (L : List St) (hl : L.length ≤ 200) (w : World) (hn : n₀ ≤ w.heap.size) (hc : w.heap[Bs]? = some (.cells #[sv] 27)) (hI : Steps3 n₀ w sv L) :
    SeqStopsK Fence.wide n Tryd.prog 31 #[.pointer (some ⟨Bs, 0, none⟩)] encS (KpB n₀ Bs) (fun ys => ys = upto (fromEnd L) L.length) (fun _ => True) L.length w := by
  intro l J Jx W hW hJ hJx hY h0
  have hB : W.heap[Bs]? = some (.cells #[sv] 27) := keepB hc hW
  cases hI with
  | nil =>
    refine (back1_nil_in n l Bs J W hB h0).mono ?_
    rintro e W' ⟨h1, h2⟩
    exact ⟨h1, .inl ⟨[], rfl, h2⟩⟩
  | @row b off cap L h1 h2 => exact back1_in n l Bs n₀ b off cap L hl h1 J Jx hY W hB (h2.below hW (Nat.lt_of_lt_of_le h1 hn)) h0
end Go.Proofs.YtbjpkfmencaafafDoor
