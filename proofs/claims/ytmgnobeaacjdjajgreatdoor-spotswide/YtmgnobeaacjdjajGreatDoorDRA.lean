/-
  Rows of spots that are put in order: how two are compared, how two change places. A stretch of spots put in order one by one.
-/
import Derived.Test.YtmgnobeaacjdjajGreatDoorPureA
import Derived.Test.YtmgnobeaacjdjajGreatDoorSpKA
import Derived.Shelf.SlSortCmp.ReverseRangeK
import Derived.BigQuiet
namespace Go.Proofs.YtmgnobeaacjdjajGreatDoor
open Go Go.RowKit Go.Shelf Go.Lib Go.Sort

theorem isNaN_any (x : Int) (w : World) : Calls Tryz.prog 56 #[.int .i64 x] w fun e w' => e = .returned (.bool false) ∧ w' = w := by
  go_enter Tryz.func56, Tryz.ntmps56
  go_wp2
  go_ret
  exact ⟨rfl, rfl⟩
def cmp2 (x y : Int) : Int := if x < y then -1 else if y < x then 1 else 0
set_option maxHeartbeats 800000 in
theorem compare_any (x y : Int) (w : World) : Calls Tryz.prog 21 #[.int .i64 x, .int .i64 y] w fun e w' => e = .returned (.int .i64 (cmp2 x y)) ∧ w' = w := by
  unfold cmp2
  by_cases h1 : x < y
  · rw [if_pos h1]
    go_enter Tryz.func21, Tryz.ntmps21
    go_wp2_with (go_at_call 56; refine (isNaN_any _ _).mono ?_; rintro e w' ⟨rfl, rfl⟩)
    all_goals
      go_ret
      exact ⟨rfl, rfl⟩
  · rw [if_neg h1]
    by_cases h2 : y < x
    · rw [if_pos h2]
      go_enter Tryz.func21, Tryz.ntmps21
      go_wp2_with (go_at_call 56; refine (isNaN_any _ _).mono ?_; rintro e w' ⟨rfl, rfl⟩)
      all_goals
        go_ret
        exact ⟨rfl, rfl⟩
    · rw [if_neg h2]
      go_enter Tryz.func21, Tryz.ntmps21
      go_wp2_with (go_at_call 56; refine (isNaN_any _ _).mono ?_; rintro e w' ⟨rfl, rfl⟩)
      all_goals
        go_ret
        exact ⟨rfl, rfl⟩
theorem cmp2_neg {x y : Int} : cmp2 x y < 0 ↔ x < y := by unfold cmp2; split <;> (try split) <;> omega
instance : Inhabited Sp := ⟨sp0 0 0 0⟩
def encX (s : Sp) : List Value := valSx (starOf s)
theorem encX_len (x : Sp) : (encX x).length = 9 := rfl
theorem encX_one (x : Sp) : ∀ v ∈ encX x, v.oneCell' = true := fun v hv => flatSx_one [starOf x] v (List.mem_append_left _ hv)
/-- the brighter one first. -/
def cfX (x y : Sp) : Int := cmp2 y.li x.li
theorem cfX_neg {x y : Sp} : cfX x y < 0 ↔ y.li < x.li := cmp2_neg
set_option maxRecDepth 100000 in
set_option maxHeartbeats 1600000 in
theorem order_any (x y : Sp) (W : World) : Calls Tryz.prog 48 #[.agg (encX x).toArray, .agg (encX y).toArray] W fun e w' => e = .returned (.int .i64 (cfX x y)) ∧ ∃ q os, w' = grow (W.drewN q) os := by
  have hc := fun u => compare_any y.li x.li u
  unfold cfX
  generalize cmp2 y.li x.li = c at *
  have ex : (encX x).toArray = #[.int .i64 (starOf x).le, .int .i64 (starOf x).tp, .int .i64 (starOf x).ri, .int .i64 (starOf x).lo, .int .i64 (starOf x).px, .int .i64 x.li, .int .i64 (starOf x).x, .int .i64 (starOf x).y, .int .i64 (starOf x).lt] := rfl
  have ey : (encX y).toArray = #[.int .i64 (starOf y).le, .int .i64 (starOf y).tp, .int .i64 (starOf y).ri, .int .i64 (starOf y).lo, .int .i64 (starOf y).px, .int .i64 y.li, .int .i64 (starOf y).x, .int .i64 (starOf y).y, .int .i64 (starOf y).lt] := rfl
  rw [ex, ey]
  generalize (starOf x).le = a0
  generalize (starOf x).tp = a1
  generalize (starOf x).ri = a2
  generalize (starOf x).lo = a3
  generalize (starOf x).px = a4
  generalize x.li = a5 at *
  generalize (starOf x).x = a6
  generalize (starOf x).y = a7
  generalize (starOf x).lt = a8
  generalize (starOf y).le = b0
  generalize (starOf y).tp = b1
  generalize (starOf y).ri = b2
  generalize (starOf y).lo = b3
  generalize (starOf y).px = b4
  generalize y.li = b5 at *
  generalize (starOf y).x = b6
  generalize (starOf y).y = b7
  generalize (starOf y).lt = b8
  clear ex ey
  go_enter Tryz.func48, Tryz.ntmps48
  go_wp2_with (go_at_call 21; refine (hc _).mono ?_; rintro e w' ⟨rfl, rfl⟩)
  go_ret
  exact ⟨rfl, 0, _, by rw [alloc_eq_grow, alloc_eq_grow, grow_grow]; rfl⟩
theorem cmp_laysK {k : Nat} (blk off size : Nat) (w : World) : CmpLays Tryz.prog 48 #[] encX k cfX blk off size w := fun _m _os _dk _ x y => order_any x y _
/-- a row by its places. -/
def pa (d : Array Sp) : Nat → Sp := fun k => d[k]!
theorem pa_swp {d : Array Sp} {i j : Nat} (hi : i < d.size) (hj : j < d.size) : pa (swp d i j) = swpF (pa d) i j := by
  funext k
  unfold pa swpF
  rw [swp_get d hi hj k]
  by_cases e1 : k = i
  · by_cases e2 : k = j
    · rw [if_pos e2, if_pos e1, ← e1, ← e2]
    · rw [if_neg e2, if_pos e1, if_pos e1]
  · by_cases e2 : k = j
    · rw [if_pos e2, if_neg e1, if_pos e2]
    · rw [if_neg e2, if_neg e1, if_neg e1, if_neg e2]
theorem mixedP : Tryz.prog.follows .mixedOrders = true := by kernel_rfl
theorem aggX : ∀ w, (isAgg 36).run Tryz.prog w = .ok true w := fun w => by kernel_rfl
theorem sizX : ∀ w, (Go.sizeOf 36).run Tryz.prog w = .ok 9 w := fun w => by kernel_rfl
/-- a world of the sorting, its row. -/
def Srt (k : Nat) (w0 : World) (blk N : Nat) (p : Nat → Sp) (W : World) : Prop := ∃ d : Array Sp, d.size = N ∧ pa d = p ∧ SWK encX k w0 blk 0 d W
/-- what is known of the row ahead. -/
def Row0 (k : Nat) (w0 : World) (blk N : Nat) : Prop := ∃ d0 : Array Sp, d0.size = N ∧ RowK encX k w0 blk 0 d0
/-- two places are about to change: what is read and written there. -/
theorem exch {k : Nat} {w0 wr : World} {blk N : Nat} {p : Nat → Sp} (R : Row0 k w0 blk N) (S : Srt k w0 blk N p wr) {x y : Nat} (hx : x < N) (hy : y < N) : ∃ cI cJ : List Value,
    Sem.run Tryz.prog (loadCellsFrom ⟨blk, x * k, none⟩ 0 k #[]) wr.drew = .ok cI.toArray wr.drew ∧ Sem.run Tryz.prog (loadCellsFrom ⟨blk, y * k, none⟩ 0 k #[]) wr.drew = .ok cJ.toArray wr.drew ∧
    Sem.run Tryz.prog (storeCells ⟨blk, x * k, none⟩ cJ 0) wr.drew = .ok () (wr.drew.setCells blk (x * k) cJ) ∧ Sem.run Tryz.prog (storeCells ⟨blk, y * k, none⟩ cI 0) (wr.drew.setCells blk (x * k) cJ) = .ok () ((wr.drew.setCells blk (x * k) cJ).setCells blk (y * k) cI) ∧
    cI.length = k ∧ cJ.length = k ∧ HeldR (Srt k w0 blk N (swpF p x y) ((wr.drew.setCells blk (x * k) cJ).setCells blk (y * k) cI)) := by
  obtain ⟨d, hd, hp, S⟩ := S
  obtain ⟨d0, hd0, R⟩ := R
  have l1 := S.ld1 R (by omega) Tryz.prog x (by omega)
  have l2 := S.ld1 R (by omega) Tryz.prog y (by omega)
  have s1 := S.st1 R (by omega) Tryz.prog x (by omega) d[y]!
  have s2 := S.st2 R (by omega) Tryz.prog x y (by omega) (by omega) d[y]! d[x]!
  have S2 := S.swapped R x y (by omega) (by omega)
  rw [Nat.zero_add] at l1 l2 s1
  rw [Nat.zero_add, Nat.zero_add] at s2 S2
  exact ⟨_, _, l1, l2, s1, s2, R.hk _, R.hk _, hideR ⟨swp d x y, by rw [size_swp]; exact hd, by rw [pa_swp (by omega) (by omega), hp], S2⟩⟩
/-- two places are compared: what is read there, what is answered. -/
theorem comp {k : Nat} {w0 wr : World} {blk N : Nat} {p : Nat → Sp} (R : Row0 k w0 blk N) (S : Srt k w0 blk N p wr) {x y : Nat} (hx : x < N) (hy : y < N) : ∃ cI cJ : List Value,
    (∀ n os, Sem.run Tryz.prog (loadCellsFrom ⟨blk, x * k, none⟩ 0 k #[]) (grow (wr.drewN n) os) = .ok cI.toArray (grow (wr.drewN n) os)) ∧ (∀ n os, Sem.run Tryz.prog (loadCellsFrom ⟨blk, y * k, none⟩ 0 k #[]) (grow (wr.drewN n) os) = .ok cJ.toArray (grow (wr.drewN n) os)) ∧
    (∀ n os, Calls Tryz.prog 48 #[.agg cI.toArray, .agg cJ.toArray] (grow (wr.drewN n) os) fun e w' => e = .returned (.int .i64 (cfX (p x) (p y))) ∧ ∃ q os', w' = grow ((grow (wr.drewN n) os).drewN q) os') ∧
    cI.length = k ∧ cJ.length = k ∧ HeldR (∀ n os, Srt k w0 blk N p (grow (wr.drewN n) os)) := by
  obtain ⟨d, hd, hp, S⟩ := S
  obtain ⟨d0, hd0, R⟩ := R
  refine ⟨_, _, fun n os => ?_, fun n os => ?_, fun n os => ?_, R.hk d[x]!, R.hk d[y]!, hideR (fun n os => ⟨d, hd, hp, S.grown n os⟩)⟩
  · have := S.ld R (by omega) Tryz.prog x (by omega) n os
    rwa [Nat.zero_add] at this
  · have := S.ld R (by omega) Tryz.prog y (by omega) n os
    rwa [Nat.zero_add] at this
  · have := S.cmp (P := Tryz.prog) (g := 48) (cb := #[]) (cf := cfX) (size := N) (cmp_laysK blk 0 N w0) hd d[x]! d[y]! n os
    rw [← hp]
    exact this
theorem enters2 : ∀ args w, (callFunc 48 args).run Tryz.prog w = .ok (.enter 48 args) w := enters_of Tryz.func48 (by kernel_rfl) rfl
set_option maxRecDepth 1000000 in
set_option maxHeartbeats 4000000 in
theorem swapRange_any {k : Nat} (zE : ∀ w, (Go.sizeOf 36).run Tryz.prog w = .ok k w) {w0 w : World} {blk cap N : Nat} {p : Nat → Sp} (R : Row0 k w0 blk N) (S : Srt k w0 blk N p w) (v : Value) (a b n : Nat) (hab : a + n ≤ b) (hb : b + n ≤ N) (hN : N ≤ 100000) :
    Calls Tryz.prog 146 #[.slice (some ⟨blk, 0, none⟩) N cap, .int .i64 (a : Nat), .int .i64 (b : Nat), .int .i64 (n : Nat), v] w fun e w' => e = .returned (.tuple #[]) ∧ Srt k w0 blk N (swapR p a b n) w' := by
  have HR := hideR R
  have H00 : HeldR (Srt k w0 blk N (swapR p a b 0) w) := hideR (by rw [swap0]; exact S)
  have mixed := mixedP
  have aE := aggX
  clear R S
  go_enter Tryz.func146, Tryz.ntmps146
  go_wp2
  go_loopw [10] (fun iv wl => ∃ i : Nat, i ≤ n ∧ iv = .int .i64 (i : Nat) ∧ HeldR (Srt k w0 blk N (swapR p a b i) wl)) (fun iv _ => 200000 - (intOf iv).toNat)
  case atStart => exact ⟨0, by omega, rfl, H00⟩
  case round =>
    clear H00
    obtain ⟨i, hin, rfl, HS⟩ := hrel
    by_cases hi : i < n
    · have tin : decide (i < n) = true := decide_eq_true hi
      have wi : IntKind.i64.wrap ((i : Int) + 1) = (i : Int) + 1 := iwrap (by omega) (by omega)
      have HSn : HeldR (swpF (swapR p a b i) (a + i) (b + i) = swapR p a b (i + 1)) := hideR (swap_next (by omega))
      obtain ⟨x, hx⟩ : ∃ x, a + i = x := ⟨_, rfl⟩
      obtain ⟨y, hy⟩ : ∃ y, b + i = y := ⟨_, rfl⟩
      rw [hx, hy] at HSn
      have wx : IntKind.i64.wrap ((a : Int) + (i : Int)) = (x : Int) := by rw [show (a : Int) + (i : Int) = (x : Int) by omega]; exact iwrap (by omega) (by omega)
      have wy : IntKind.i64.wrap ((b : Int) + (i : Int)) = (y : Int) := by rw [show (b : Int) + (i : Int) = (y : Int) by omega]; exact iwrap (by omega) (by omega)
      have jx : (x : Int) < (N : Int) := by omega
      have jy : (y : Int) < (N : Int) := by omega
      obtain ⟨cI, cJ, l1, l2, s1, s2, n1, n2, S2⟩ := exch (unhideR HR) (unhideR HS) (x := x) (y := y) (by omega) (by omega)
      rw [unhideR HSn] at S2
      clear HS hx hy HSn
      go_wp2_with fail
      go_big_region_o
      clear l1 l2 s1 s2
      generalize (wr.drew.setCells blk (x * k) cJ).setCells blk (y * k) cI = w2 at S2 ⊢
      go_wp2
      exact ⟨⟨i + 1, by omega, by go_num, S2⟩, by simp [intOf]; omega⟩
    · obtain rfl : n = i := by omega
      have tin : decide (n < n) = false := decide_eq_false hi
      go_wp2
      go_end0
      exact ⟨rfl, unhideR HS⟩
set_option maxRecDepth 1000000 in
set_option maxHeartbeats 4000000 in
theorem rotate_any {k : Nat} (zE : ∀ w, (Go.sizeOf 36).run Tryz.prog w = .ok k w) {w0 w : World} {blk cap N : Nat} {p : Nat → Sp} (R : Row0 k w0 blk N) (S : Srt k w0 blk N p w) (v : Value) (a m b : Nat) (ham : a < m) (hmb : m < b) (hb : b ≤ N) (hN : N ≤ 100000) :
    Calls Tryz.prog 143 #[.slice (some ⟨blk, 0, none⟩) N cap, .int .i64 (a : Nat), .int .i64 (m : Nat), .int .i64 (b : Nat), v] w fun e w' => e = .returned (.tuple #[]) ∧ Srt k w0 blk N (rot p a m b) w' := by
  have HW : HeldR (∀ (u : World) (q : Nat → Sp) (x y n : Nat), Srt k w0 blk N q u → x + n ≤ y → y + n ≤ N → Calls Tryz.prog 146 #[.slice (some ⟨blk, 0, none⟩) N cap, .int .i64 (x : Nat), .int .i64 (y : Nat), .int .i64 (n : Nat), v] u fun e w' => e = .returned (.tuple #[]) ∧ Srt k w0 blk N (swapR q x y n) w') := hideR (fun u q x y n s h1 h2 => swapRange_any zE R s v x y n h1 h2 hN)
  have H00 : HeldR (∃ q, rot q (m - (m - a)) m (m + (b - m)) = rot p a m b ∧ Srt k w0 blk N q w) := hideR ⟨p, by rw [show m - (m - a) = a by omega, show m + (b - m) = b by omega], S⟩
  have w1 : IntKind.i64.wrap ((m : Int) - (a : Int)) = ((m - a : Nat) : Int) := by rw [show (m : Int) - (a : Int) = ((m - a : Nat) : Int) by omega]; exact iwrap (by omega) (by omega)
  have w2 : IntKind.i64.wrap ((b : Int) - (m : Int)) = ((b - m : Nat) : Int) := by rw [show (b : Int) - (m : Int) = ((b - m : Nat) : Int) by omega]; exact iwrap (by omega) (by omega)
  obtain ⟨i0, hi0⟩ : ∃ i0, m - a = i0 := ⟨_, rfl⟩
  obtain ⟨j0, hj0⟩ : ∃ j0, b - m = j0 := ⟨_, rfl⟩
  rw [hi0] at w1 H00
  rw [hj0] at w2 H00
  have b1 : 1 ≤ i0 ∧ i0 ≤ m := by omega
  have b2 : 1 ≤ j0 ∧ m + j0 ≤ N := by omega
  clear R S zE hi0 hj0 hb hmb ham
  generalize rot p a m b = F at *
  go_enter Tryz.func143, Tryz.ntmps143
  go_wp2
  clear w1 w2
  go_loopw [10, 11] (fun iv jv wl => ∃ i j : Nat, 1 ≤ i ∧ i ≤ m ∧ 1 ≤ j ∧ m + j ≤ N ∧ iv = .int .i64 (i : Nat) ∧ jv = .int .i64 (j : Nat) ∧ HeldR (∃ q, rot q (m - i) m (m + j) = F ∧ Srt k w0 blk N q wl)) (fun iv jv _ => (intOf iv).toNat + (intOf jv).toNat)
  case atStart => exact ⟨i0, j0, b1.1, b1.2, b2.1, b2.2, rfl, rfl, H00⟩
  case round =>
    clear H00 b1 b2
    obtain ⟨i, j, hi1, hi2, hj1, hj2, rfl, rfl, HS⟩ := hrel
    obtain ⟨s, hs⟩ : ∃ s, m - i = s := ⟨_, rfl⟩
    have ws : IntKind.i64.wrap ((m : Int) - (i : Int)) = (s : Int) := by rw [show (m : Int) - (i : Int) = (s : Int) by omega]; exact iwrap (by omega) (by omega)
    rcases Nat.lt_trichotomy i j with c | c | c
    · have t1 : decide ((i : Int) = (j : Int)) = false := decide_eq_false (by omega)
      have t1n : decide (i = j) = false := decide_eq_false (by omega)
      have t2 : decide ((j : Int) < (i : Int)) = false := decide_eq_false (by omega)
      have t2n : decide (j < i) = false := decide_eq_false (by omega)
      have wa : IntKind.i64.wrap ((m : Int) + (j : Int)) = ((m + j : Nat) : Int) := by rw [show (m : Int) + (j : Int) = ((m + j : Nat) : Int) by omega]; exact iwrap (by omega) (by omega)
      have wb : IntKind.i64.wrap (((m + j : Nat) : Int) - (i : Int)) = ((m + j - i : Nat) : Int) := by rw [show ((m + j : Nat) : Int) - (i : Int) = ((m + j - i : Nat) : Int) by omega]; exact iwrap (by omega) (by omega)
      have wc : IntKind.i64.wrap ((j : Int) - (i : Int)) = ((j - i : Nat) : Int) := by rw [show (j : Int) - (i : Int) = ((j - i : Nat) : Int) by omega]; exact iwrap (by omega) (by omega)
      obtain ⟨q, hq, S⟩ := unhideR HS
      have hsw := unhideR HW wr q s (m + j - i) i S (by omega) (by omega)
      have HF : HeldR (rot (swapR q s (m + j - i) i) (m - i) m (m + (j - i)) = F) := hideR (by rw [← hs, rot_less (by omega) c (by omega)]; exact hq)
      obtain ⟨A1, hA1⟩ : ∃ A1, m + j = A1 := ⟨_, rfl⟩
      obtain ⟨A2, hA2⟩ : ∃ A2, m + j - i = A2 := ⟨_, rfl⟩
      obtain ⟨A3, hA3⟩ : ∃ A3, j - i = A3 := ⟨_, rfl⟩
      rw [hA2] at hsw HF wb
      rw [hA3] at wc HF
      rw [hA1] at wa wb
      have b3 : 1 ≤ A3 ∧ m + A3 ≤ N ∧ A3 < j := by omega
      clear HS S hq hA1 hA2 hA3
      go_wp2_with fail
      refine hsw.mono ?_
      rintro e w2 ⟨rfl, S2⟩
      have HS2 : HeldR (∃ q, rot q (m - i) m (m + A3) = F ∧ Srt k w0 blk N q w2) := hideR ⟨_, unhideR HF, S2⟩
      clear hsw S2
      go_wp2
      exact ⟨⟨i, A3, hi1, hi2, b3.1, b3.2.1, rfl, rfl, HS2⟩, by simp [intOf]; omega⟩
    · subst c
      have t1 : decide ((i : Int) = (i : Int)) = true := decide_eq_true rfl
      obtain ⟨q, hq, S⟩ := unhideR HS
      have hsw := unhideR HW wr q s m i S (by omega) (by omega)
      have HF : HeldR (swapR q s m i = F) := hideR (by rw [← hs, rot_same (by omega)]; exact hq)
      clear HS S hq
      go_wp2_with fail
      refine hsw.mono ?_
      rintro e w2 ⟨rfl, S2⟩
      rw [unhideR HF] at S2
      have HS2 := hideR S2
      clear hsw S2
      go_wp2
      go_end0
      exact ⟨rfl, unhideR HS2⟩
    · have t1 : decide ((i : Int) = (j : Int)) = false := decide_eq_false (by omega)
      have t1n : decide (i = j) = false := decide_eq_false (by omega)
      have t2 : decide ((j : Int) < (i : Int)) = true := decide_eq_true (by omega)
      have t2n : decide (j < i) = true := decide_eq_true c
      have wc : IntKind.i64.wrap ((i : Int) - (j : Int)) = ((i - j : Nat) : Int) := by rw [show (i : Int) - (j : Int) = ((i - j : Nat) : Int) by omega]; exact iwrap (by omega) (by omega)
      obtain ⟨q, hq, S⟩ := unhideR HS
      have hsw := unhideR HW wr q s m j S (by omega) (by omega)
      have HF : HeldR (rot (swapR q s m j) (m - (i - j)) m (m + j) = F) := hideR (by rw [← hs, rot_more (by omega) c (by omega)]; exact hq)
      obtain ⟨A3, hA3⟩ : ∃ A3, i - j = A3 := ⟨_, rfl⟩
      rw [hA3] at wc HF
      have b3 : 1 ≤ A3 ∧ A3 ≤ m ∧ A3 < i := by omega
      clear HS S hq hA3
      go_wp2_with fail
      refine hsw.mono ?_
      rintro e w2 ⟨rfl, S2⟩
      have HS2 : HeldR (∃ q, rot q (m - A3) m (m + j) = F ∧ Srt k w0 blk N q w2) := hideR ⟨_, unhideR HF, S2⟩
      clear hsw S2
      go_wp2
      exact ⟨⟨A3, j, b3.1, b3.2.1, hj1, hj2, rfl, rfl, HS2⟩, by simp [intOf]; omega⟩
end Go.Proofs.YtmgnobeaacjdjajGreatDoor
namespace Go.Proofs.YtmgnobeaacjdjajGreatDoor
open Go Go.RowKit Go.Shelf Go.Lib Go.Sort

theorem Srt.grown {k : Nat} {w0 wr : World} {blk N : Nat} {p : Nat → Sp} (S : Srt k w0 blk N p wr) (n : Nat) (os : Array Obj) : Srt k w0 blk N p (grow (wr.drewN n) os) := by
  obtain ⟨d, hd, hp, S⟩ := S
  exact ⟨d, hd, hp, S.grown n os⟩
theorem Srt.drew {k : Nat} {w0 wr : World} {blk N : Nat} {p : Nat → Sp} (S : Srt k w0 blk N p wr) : Srt k w0 blk N p wr.drew := by
  obtain ⟨d, hd, hp, S⟩ := S
  exact ⟨d, hd, hp, S.drew⟩
/-- numbers that rise. -/
def KUp (p : Nat → Sp) (a b : Nat) : Prop := ∀ i j, a ≤ i → i < j → j < b → (p i).k < (p j).k
theorem ins_two {p q : Nat → Sp} {a b i : Nat} (h : KUp p a b) (d : Done p q a i) (hi : i < b) : Two q a i (i + 1) := by
  refine ⟨d.ord, fun x y h1 h2 h3 => by omega, fun x y h1 h2 h3 h4 => ?_⟩
  obtain rfl : y = i := by omega
  obtain ⟨x', e1, e2, e3⟩ := d.re.has h1 h2
  rw [e3, d.re.out (k := y) (by omega)]
  exact h x' y e1 e2 hi
theorem ins_step {p q : Nat → Sp} {a i j : Nat} (d : Done p q a i) (t : Two q a i (i + 1)) (h1 : a ≤ j) (h2 : j ≤ i) (lo : a < j → ¬ (q (j - 1)).li < (q i).li) (hi : j < i → (q j).li < (q i).li) : Done p (mvBk q j i) a (i + 1) := by
  have e := one_right2 t h1 h2 lo hi
  exact ⟨e.ord, (d.re.wide (Nat.le_refl _) (by omega)).trans e.re⟩
set_option maxRecDepth 1000000 in
set_option maxHeartbeats 4000000 in
theorem insertion_any {k : Nat} (zE : ∀ w, (Go.sizeOf 36).run Tryz.prog w = .ok k w) {w0 w : World} {blk cap N : Nat} {p : Nat → Sp} (R : Row0 k w0 blk N) (S : Srt k w0 blk N p w) (a b : Nat) (hab : a ≤ b) (hb : b ≤ N) (hN : N ≤ 100000) (hK : KUp p a b) :
    Calls Tryz.prog 127 #[.slice (some ⟨blk, 0, none⟩) N cap, .int .i64 (a : Nat), .int .i64 (b : Nat), .func (.func 48) #[] #[]] w fun e w' => e = .returned (.tuple #[]) ∧ ∃ q, Done p q a b ∧ Srt k w0 blk N q w' := by
  have HR := hideR R
  have HKU := hideR hK
  have eg := enters2
  have H00 : HeldR (∃ q, Done p q a (min (a + 1) b) ∧ Srt k w0 blk N q w) := hideR ⟨p, ⟨fun i j h1 h2 h3 => by omega, re_refl _ _ _⟩, S⟩
  have mixed := mixedP
  have aE := aggX
  have w1 : IntKind.i64.wrap ((a : Int) + 1) = (a : Int) + 1 := iwrap (by omega) (by omega)
  clear R S hK
  go_enter Tryz.func127, Tryz.ntmps127
  go_wp2
  clear w1
  go_loopw [8] (fun iv wl => ∃ i : Nat, a + 1 ≤ i ∧ i ≤ b + 1 ∧ iv = .int .i64 (i : Nat) ∧ HeldR (∃ q, Done p q a (min i b) ∧ Srt k w0 blk N q wl)) (fun iv _ => 200000 - (intOf iv).toNat)
  case atStart => exact ⟨a + 1, by omega, by omega, by go_num, H00⟩
  case round =>
    clear H00
    obtain ⟨i, hi1, hi2, rfl, HS⟩ := hrel
    by_cases hi : i < b
    · have tin : decide ((i : Int) < (b : Int)) = true := decide_eq_true (by omega)
      have tinn : decide (i < b) = true := decide_eq_true hi
      have wi : IntKind.i64.wrap ((i : Int) + 1) = (i : Int) + 1 := iwrap (by omega) (by omega)
      obtain ⟨q, hD0, hS0⟩ := unhideR HS
      rw [Nat.min_eq_left (by omega)] at hD0
      have HD := hideR hD0
      have HT := hideR (ins_two (unhideR HKU) hD0 hi)
      have HB0 : HeldR (Srt k w0 blk N (mvBk q i i) wr) := hideR (by rw [bk0]; exact hS0)
      have HH0 : HeldR (i < i → (q i).li < (q i).li) := hideR (fun h => absurd h (Nat.lt_irrefl _))
      clear hD0 hS0 HS
      go_wp2
      go_loopw [9] (fun jv wl => ∃ j : Nat, a ≤ j ∧ j ≤ i ∧ jv = .int .i64 (j : Nat) ∧ HeldR (Srt k w0 blk N (mvBk q j i) wl) ∧ HeldR (j < i → (q j).li < (q i).li)) (fun jv _ => (intOf jv).toNat)
      case atStart => exact ⟨i, by omega, Nat.le_refl _, rfl, HB0, HH0⟩
      case round =>
        clear HB0 HH0
        obtain ⟨j, hj1, hj2, rfl, HB, HH⟩ := hrel
        by_cases hj : a < j
        · obtain ⟨jp, rfl⟩ : ∃ jp, j = jp + 1 := ⟨j - 1, by omega⟩
          have tj : decide ((a : Int) < ((jp + 1 : Nat) : Int)) = true := decide_eq_true (by omega)
          have tj2 : decide ((a : Int) < (jp : Int) + 1) = true := decide_eq_true (by omega)
          have tjn : decide (a < jp + 1) = true := decide_eq_true hj
          have wj : IntKind.i64.wrap (((jp + 1 : Nat) : Int) - 1) = (jp : Int) := by rw [show ((jp + 1 : Nat) : Int) - 1 = (jp : Int) by omega]; exact iwrap (by omega) (by omega)
          have wj2 : IntKind.i64.wrap ((jp : Int) + 1 - 1) = (jp : Int) := by rw [show (jp : Int) + 1 - 1 = (jp : Int) by omega]; exact iwrap (by omega) (by omega)
          have wj3 : IntKind.i64.wrap (jp : Int) = (jp : Int) := iwrap (by omega) (by omega)
          have jj1 : (jp : Int) + 1 < (N : Int) := by omega
          have jj2 : (jp : Int) < (N : Int) := by omega
          have p0 : (0 : Int) ≤ (jp : Int) + 1 := by omega
          have e0 : ((jp : Int) + 1).toNat = jp + 1 := by omega
          obtain ⟨cI, cJ, l1, l2, hc, n1, n2, HG⟩ := comp (unhideR HR) (unhideR HB) (x := jp + 1) (y := jp) (by omega) (by omega)
          have hv1 : mvBk q (jp + 1) i (jp + 1) = q i := by unfold mvBk; rw [if_pos rfl]
          have hv2 : mvBk q (jp + 1) i jp = q jp := by unfold mvBk; rw [if_neg (by omega), if_neg (by omega)]
          rw [hv1, hv2] at hc
          clear hv1 hv2
          by_cases hlt : (q jp).li < (q i).li
          · have hneg : cfX (q i) (q jp) < 0 := cfX_neg.2 hlt
            generalize cfX (q i) (q jp) = c at *
            have HH2 : HeldR (jp < i → (q jp).li < (q i).li) := hideR (fun _ => hlt)
            clear HH HB hlt
            go_wp2_with fail
            go_quiet_grown (first | (go_at_fn 48; refine Calls.grown_of (hc _ _)))
            go_wp2_with fail
            have hS2 := unhideR HG nq osq
            obtain ⟨cI', cJ', l1', l2', s1, s2, n1', n2', S3⟩ := exch (unhideR HR) hS2 (x := jp + 1) (y := jp) (by omega) (by omega)
            rw [bk_next (by omega)] at S3
            clear l1 l2 hc n1 n2 HG hS2
            generalize grow (wr.drewN nq) osq = w2 at *
            go_big_region_o
            clear l1' l2' s1 s2
            generalize (w2.drew.setCells blk ((jp + 1) * k) cJ').setCells blk (jp * k) cI' = w3 at S3 ⊢
            go_wp2
            exact ⟨⟨jp, by omega, by omega, rfl, S3, HH2⟩, by simp [intOf]⟩
          · have hneg : ¬ cfX (q i) (q jp) < 0 := fun h => hlt (cfX_neg.1 h)
            generalize cfX (q i) (q jp) = c at *
            have HDn := hideR (ins_step (unhideR HD) (unhideR HT) hj1 hj2 (fun _ => by rw [Nat.add_sub_cancel]; exact hlt) (unhideR HH))
            clear HH HB hlt
            go_wp2_with fail
            go_quiet_grown (first | (go_at_fn 48; refine Calls.grown_of (hc _ _)))
            have hS2 := unhideR HG nq osq
            have HS2 : HeldR (∃ q, Done p q a (min (i + 1) b) ∧ Srt k w0 blk N q (grow (wr.drewN nq) osq)) := hideR ⟨_, by rw [Nat.min_eq_left (by omega)]; exact unhideR HDn, hS2⟩
            clear l1 l2 hc n1 n2 HG hS2 HDn
            generalize grow (wr.drewN nq) osq = w2 at *
            go_wp2
            exact ⟨⟨i + 1, by omega, by omega, by go_num, HS2⟩, by simp [intOf]; omega⟩
        · obtain rfl : j = a := by omega
          have tj : decide ((j : Int) < (j : Int)) = false := decide_eq_false (by omega)
          have tjn : decide (j < j) = false := decide_eq_false (by omega)
          have HS2 : HeldR (∃ q, Done p q j (min (i + 1) b) ∧ Srt k w0 blk N q wr) := hideR ⟨_, by rw [Nat.min_eq_left (by omega)]; exact ins_step (unhideR HD) (unhideR HT) hj1 hj2 (fun h => absurd h (Nat.lt_irrefl _)) (unhideR HH), unhideR HB⟩
          have HS3 : HeldR (∃ q, Done p q j (min (i + 1) b) ∧ Srt k w0 blk N q wr.drew) := hideR (by
            obtain ⟨q2, h1, h2⟩ := unhideR HS2
            exact ⟨q2, h1, h2.drew⟩)
          clear HH HB HS2
          go_wp2_with fail
          go_big_region_o
          generalize wr.drew = w2 at *
          go_wp2
          exact ⟨⟨i + 1, by omega, by omega, by go_num, HS3⟩, by simp [intOf]; omega⟩
    · have tin : decide ((i : Int) < (b : Int)) = false := decide_eq_false (by omega)
      have tinn : decide (i < b) = false := decide_eq_false hi
      have HS2 : HeldR (∃ q, Done p q a b ∧ Srt k w0 blk N q wr) := hideR (by
        have := unhideR HS
        rwa [Nat.min_eq_right (by omega)] at this)
      clear HS
      go_wp2
      go_end0
      exact ⟨rfl, unhideR HS2⟩
end Go.Proofs.YtmgnobeaacjdjajGreatDoor
