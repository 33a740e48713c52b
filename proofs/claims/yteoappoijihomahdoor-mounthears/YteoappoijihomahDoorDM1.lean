/-
  The program's mount: its block, and what of it reads alone.
-/
import Derived.Test.YteoappoijihomahDoorMtRef
import Derived.LoopN
import Derived.Deep.QuietTactic
namespace Go.Proofs.YteoappoijihomahDoor
open Go Go.RowKit

/-- what lies in the program's mount. -/
structure PM where
  A : Lim
  x : Int
  ga : Int
  pa : Int
  B : Lim
  y : Int
  gb : Int
  pb : Int
  st : Int
  pat : Int
  left : Int
  last : Value
structure PB (w : World) (g : Nat) (p : PM) : Prop where
  blk : w.heap[g]? = some (.cells #[.int .i64 p.A.lo, .int .i64 p.A.hi, .int .i64 p.A.fast, .int .i64 p.A.home, .int .i64 p.x, .int .i64 p.ga, .int .i64 p.pa, .int .i64 p.B.lo, .int .i64 p.B.hi, .int .i64 p.B.fast, .int .i64 p.B.home, .int .i64 p.y, .int .i64 p.gb, .int .i64 p.pb, .int .i64 p.st, .int .i64 p.pat, .int .i64 p.left, p.last] 114)
theorem PB.keep {w v : World} {g : Nat} {p : PM} (h : PB w g p) (k : Below w.heap.size w v) : PB v g p := ⟨keepB h.blk k⟩
theorem PB.chg {w v : World} {g b : Nat} {p : PM} (h : PB w g p) (k : Chg b w v) (hb : g ≠ b) : PB v g p := ⟨k.blk h.blk hb⟩
theorem PB.cell {w : World} {g : Nat} {p : PM} (h : PB w g p) (i : Nat) (hi : i < 18) : w.cell? ⟨g, i, none⟩ = some ((#[.int .i64 p.A.lo, .int .i64 p.A.hi, .int .i64 p.A.fast, .int .i64 p.A.home, .int .i64 p.x, .int .i64 p.ga, .int .i64 p.pa, .int .i64 p.B.lo, .int .i64 p.B.hi, .int .i64 p.B.fast, .int .i64 p.B.home, .int .i64 p.y, .int .i64 p.gb, .int .i64 p.pb, .int .i64 p.st, .int .i64 p.pat, .int .i64 p.left, p.last] : Array Value).getD i undef) ∧ w.frozen? ⟨g, i, none⟩ = false :=
  cells_at h.blk i hi
theorem PB.x {w : World} {g : Nat} {p : PM} (h : PB w g p) (z : Int) : PB (w.setCell ⟨g, 4, none⟩ (.int .i64 z)) g { p with x := z } := by
  refine ⟨?_⟩
  rw [heap_setCell_same _ _ _ _ _ _ h.blk]
  rfl
theorem PB.ga {w : World} {g : Nat} {p : PM} (h : PB w g p) (z : Int) : PB (w.setCell ⟨g, 5, none⟩ (.int .i64 z)) g { p with ga := z } := by
  refine ⟨?_⟩
  rw [heap_setCell_same _ _ _ _ _ _ h.blk]
  rfl
theorem PB.pa {w : World} {g : Nat} {p : PM} (h : PB w g p) (z : Int) : PB (w.setCell ⟨g, 6, none⟩ (.int .i64 z)) g { p with pa := z } := by
  refine ⟨?_⟩
  rw [heap_setCell_same _ _ _ _ _ _ h.blk]
  rfl
theorem PB.y {w : World} {g : Nat} {p : PM} (h : PB w g p) (z : Int) : PB (w.setCell ⟨g, 11, none⟩ (.int .i64 z)) g { p with y := z } := by
  refine ⟨?_⟩
  rw [heap_setCell_same _ _ _ _ _ _ h.blk]
  rfl
theorem PB.gb {w : World} {g : Nat} {p : PM} (h : PB w g p) (z : Int) : PB (w.setCell ⟨g, 12, none⟩ (.int .i64 z)) g { p with gb := z } := by
  refine ⟨?_⟩
  rw [heap_setCell_same _ _ _ _ _ _ h.blk]
  rfl
theorem PB.pb {w : World} {g : Nat} {p : PM} (h : PB w g p) (z : Int) : PB (w.setCell ⟨g, 13, none⟩ (.int .i64 z)) g { p with pb := z } := by
  refine ⟨?_⟩
  rw [heap_setCell_same _ _ _ _ _ _ h.blk]
  rfl
theorem PB.st {w : World} {g : Nat} {p : PM} (h : PB w g p) (z : Int) : PB (w.setCell ⟨g, 14, none⟩ (.int .i64 z)) g { p with st := z } := by
  refine ⟨?_⟩
  rw [heap_setCell_same _ _ _ _ _ _ h.blk]
  rfl
theorem PB.left {w : World} {g : Nat} {p : PM} (h : PB w g p) (z : Int) : PB (w.setCell ⟨g, 16, none⟩ (.int .i64 z)) g { p with left := z } := by
  refine ⟨?_⟩
  rw [heap_setCell_same _ _ _ _ _ _ h.blk]
  rfl
theorem PB.last {w : World} {g : Nat} {p : PM} (h : PB w g p) (z : Value) : PB (w.setCell ⟨g, 17, none⟩ z) g { p with last := z } := by
  refine ⟨?_⟩
  rw [heap_setCell_same _ _ _ _ _ _ h.blk]
  rfl
set_option maxRecDepth 100000 in
theorem idx4a (a b c d : Value) (u : World) : (Instr.index 142 (.agg #[a, b, c, d]) (.int .i64 0)).run Tryd.prog u = .ok a u := by
  simp [Instr.index, run_underlying (show Tryd.prog.underlying 142 = some (.array 4 3) by kernel_rfl), asIntOf, go_sem]
set_option maxRecDepth 100000 in
theorem idx4b (a b c d : Value) (u : World) : (Instr.index 142 (.agg #[a, b, c, d]) (.int .i64 1)).run Tryd.prog u = .ok b u := by
  simp [Instr.index, run_underlying (show Tryd.prog.underlying 142 = some (.array 4 3) by kernel_rfl), asIntOf, go_sem]
set_option maxRecDepth 100000 in
theorem idx4c (a b c d : Value) (u : World) : (Instr.index 142 (.agg #[a, b, c, d]) (.int .i64 2)).run Tryd.prog u = .ok c u := by
  simp [Instr.index, run_underlying (show Tryd.prog.underlying 142 = some (.array 4 3) by kernel_rfl), asIntOf, go_sem]
set_option maxRecDepth 100000 in
theorem idx4d (a b c d : Value) (u : World) : (Instr.index 142 (.agg #[a, b, c, d]) (.int .i64 3)).run Tryd.prog u = .ok d u := by
  simp [Instr.index, run_underlying (show Tryd.prog.underlying 142 = some (.array 4 3) by kernel_rfl), asIntOf, go_sem]
set_option maxRecDepth 100000 in
theorem idx2a (a0 a1 a2 a3 a4 a5 a6 b0 b1 b2 b3 b4 b5 b6 : Value) (u : World) : (Instr.index 111 (.agg #[a0, a1, a2, a3, a4, a5, a6, b0, b1, b2, b3, b4, b5, b6]) (.int .i64 0)).run Tryd.prog u = .ok (.agg #[a0, a1, a2, a3, a4, a5, a6]) u := by
  simp [Instr.index, run_underlying (show Tryd.prog.underlying 111 = some (.array 2 109) by kernel_rfl), asIntOf, go_sem]
set_option maxRecDepth 100000 in
theorem idx2b (a0 a1 a2 a3 a4 a5 a6 b0 b1 b2 b3 b4 b5 b6 : Value) (u : World) : (Instr.index 111 (.agg #[a0, a1, a2, a3, a4, a5, a6, b0, b1, b2, b3, b4, b5, b6]) (.int .i64 1)).run Tryd.prog u = .ok (.agg #[b0, b1, b2, b3, b4, b5, b6]) u := by
  simp [Instr.index, run_underlying (show Tryd.prog.underlying 111 = some (.array 2 109) by kernel_rfl), asIntOf, go_sem]
theorem within_any (n k : Int) (w : World) (h0 : 0 ≤ k) (h1 : k ≤ 1099511627776) : Calls Tryd.prog 57 #[.int .i64 n, .int .i64 k] w fun e w' => e = .returned (.bool (decide (-k ≤ n ∧ n ≤ k))) ∧ w' = w := by
  have hw : IntKind.i64.wrap (-k) = -k := iwrap (by omega) (by omega)
  by_cases a : -k ≤ n
  · by_cases b : n ≤ k
    · rw [decide_eq_true (show -k ≤ n ∧ n ≤ k from ⟨a, b⟩)]
      go_enter Tryd.func57, Tryd.ntmps57
      go_wp2
      go_ret
      exact ⟨rfl, rfl⟩
    · rw [decide_eq_false (show ¬ (-k ≤ n ∧ n ≤ k) from fun q => b q.2)]
      go_enter Tryd.func57, Tryd.ntmps57
      go_wp2
      go_ret
      exact ⟨rfl, rfl⟩
  · rw [decide_eq_false (show ¬ (-k ≤ n ∧ n ≤ k) from fun q => a q.1)]
    go_enter Tryd.func57, Tryd.ntmps57
    go_wp2
    go_ret
    exact ⟨rfl, rfl⟩
theorem reach_any (l : Lim) (x : Int) (w : World) : Calls Tryd.prog 85 #[.agg #[.int .i64 l.lo, .int .i64 l.hi, .int .i64 l.fast, .int .i64 l.home], .int .i64 x] w fun e w' => e = .returned (.bool (decide (¬ out l x))) ∧ Below w.heap.size w w' := by
  have ho : out l x ↔ (x < l.lo ∨ l.hi < x) := Iff.rfl
  by_cases a : l.lo ≤ x
  · by_cases b : x ≤ l.hi
    · rw [decide_eq_true (show ¬ out l x by rw [ho]; omega)]
      clear ho
      go_enter Tryd.func85, Tryd.ntmps85
      go_wp2
      go_ret
      exact ⟨rfl, below_a _ _⟩
    · rw [decide_eq_false (show ¬ ¬ out l x by rw [ho]; omega)]
      clear ho
      go_enter Tryd.func85, Tryd.ntmps85
      go_wp2
      go_ret
      exact ⟨rfl, below_a _ _⟩
  · rw [decide_eq_false (show ¬ ¬ out l x by rw [ho]; omega)]
    clear ho
    go_enter Tryd.func85, Tryd.ntmps85
    go_wp2
    go_ret
    exact ⟨rfl, below_a _ _⟩
theorem same_set {u w : World} {g i : Nat} {x : Value} (h : u.heap[g]? = w.heap[g]?) : (u.setCell ⟨g, i, none⟩ x).heap[g]? = (w.setCell ⟨g, i, none⟩ x).heap[g]? := by
  simp only [World.setCell, Array.getElem?_modify, if_true, h]
theorem cell_put {w : World} {g i : Nat} {x y : Value} (h : w.cell? ⟨g, i, none⟩ = some y) : (w.setCell ⟨g, i, none⟩ x).cell? ⟨g, i, none⟩ = some x := World.cell?_setCell_same _ _ _ h
theorem cell_other {w : World} {g i j : Nat} {x : Value} (h : j ≠ i) : (w.setCell ⟨g, i, none⟩ x).cell? ⟨g, j, none⟩ = w.cell? ⟨g, j, none⟩ := World.cell?_setCell_other _ _ _ _ (by intro q; simp only [Addr.mk.injEq] at q; omega)
theorem by_towards {x to f : Int} (h : 1 ≤ f) : x + max (-f) (min (to - x) f) = towards x to f := by
  unfold towards
  omega
set_option maxRecDepth 100000 in
set_option maxHeartbeats 1600000 in
theorem next_any {g o : Nat} {x q : Int} {w : World} (h1 : w.cell? ⟨g, o + 4, none⟩ = some (.int .i64 x)) (h2 : w.cell? ⟨g, o + 6, none⟩ = some (.int .i64 q)) (hx : -1099511627776 ≤ x ∧ x ≤ 1099511627776) (hq : -1099511627776 ≤ q ∧ q ≤ 1099511627776) :
    Calls Tryd.prog 87 #[.pointer (some ⟨g, o, none⟩)] w fun e w' => e = .returned (.int .i64 (x + q)) ∧ Below w.heap.size w w' := by
  have hw : IntKind.i64.wrap (x + q) = x + q := iwrap (by omega) (by omega)
  go_enter Tryd.func87, Tryd.ntmps87
  go_wp2
  go_quiet (fail)
  go_wp2
  go_ret
  exact ⟨rfl, drawn_below _ _⟩
set_option maxRecDepth 100000 in
set_option maxHeartbeats 3200000 in
theorem axis_any {g o : Nat} {x to f : Int} {w : World} (hg : g < w.heap.size) (h2 : w.cell? ⟨g, o + 2, none⟩ = some (.int .i64 f)) (h4 : w.cell? ⟨g, o + 4, none⟩ = some (.int .i64 x)) (h5 : w.cell? ⟨g, o + 5, none⟩ = some (.int .i64 to)) (hz : w.frozen? ⟨g, o + 4, none⟩ = false)
    (hx : -1099511627776 ≤ x ∧ x ≤ 1099511627776) (ht : -1099511627776 ≤ to ∧ to ≤ 1099511627776) (hf : 1 ≤ f ∧ f ≤ 1099511627776) :
    Calls Tryd.prog 86 #[.pointer (some ⟨g, o, none⟩)] w fun e w' => e = .returned (.bool (towards x to f == to)) ∧ Chg g w w' ∧ w'.heap[g]? = (w.setCell ⟨g, o + 4, none⟩ (.int .i64 (towards x to f))).heap[g]? := by
  have hw1 : IntKind.i64.wrap (-f) = -f := iwrap (by omega) (by omega)
  have hw2 : IntKind.i64.wrap (to - x) = to - x := iwrap (by omega) (by omega)
  have hmn : (if f < to - x then f else to - x) = min (to - x) f := by split <;> omega
  have hmx : (if -f < min (to - x) f then min (to - x) f else -f) = max (-f) (min (to - x) f) := by split <;> omega
  have ht' : x + max (-f) (min (to - x) f) = towards x to f := by_towards hf.1
  have hb : -4398046511104 ≤ towards x to f ∧ towards x to f ≤ 4398046511104 := by unfold towards; split <;> (try split) <;> omega
  have hw3 : IntKind.i64.wrap (x + max (-f) (min (to - x) f)) = towards x to f := by rw [ht']; exact iwrap (by omega) (by omega)
  generalize towards x to f = R at *
  clear ht' hb
  go_enter Tryd.func86, Tryd.ntmps86
  go_wp2_with fail
  refine wp_region_made 0 #[true, true, true, true, true, true, true, true, true, true, true, true, true, true, true, true, true, true, true, true, true, true, true, true, true, true, true, true, true, false] [.lets (· = .pointer (some ⟨g, o, none⟩)),
    .lets (· = .pointer (some ⟨g, o, none⟩)),
    .lets (· = .pointer (some ⟨g, o + 4, none⟩)),
    .lets (· = .int .i64 x),
    .lets (· = .pointer (some ⟨g, o, none⟩)),
    .lets (· = .pointer (some ⟨g, o, none⟩)),
    .lets (· = .pointer (some ⟨g, o, none⟩)),
    .lets (· = .pointer (some ⟨g, o + 2, none⟩)),
    .lets (· = .int .i64 f),
    .lets (· = .int .i64 (-f)),
    .lets (· = .pointer (some ⟨g, o, none⟩)),
    .lets (· = .pointer (some ⟨g, o, none⟩)),
    .lets (· = .pointer (some ⟨g, o + 5, none⟩)),
    .lets (· = .int .i64 to),
    .lets (· = .pointer (some ⟨g, o, none⟩)),
    .lets (· = .pointer (some ⟨g, o, none⟩)),
    .lets (· = .pointer (some ⟨g, o + 4, none⟩)),
    .lets (· = .int .i64 x),
    .lets (· = .int .i64 (to - x)),
    .lets (· = .pointer (some ⟨g, o, none⟩)),
    .lets (· = .pointer (some ⟨g, o, none⟩)),
    .lets (· = .pointer (some ⟨g, o, none⟩)),
    .lets (· = .pointer (some ⟨g, o + 2, none⟩)),
    .lets (· = .int .i64 f),
    .lets (· = .int .i64 (min (to - x) f)),
    .lets (· = .int .i64 (max (-f) (min (to - x) f))),
    .lets (· = .int .i64 R),
    .lets (· = .pointer (some ⟨g, o, none⟩)),
    .lets (· = .pointer (some ⟨g, o + 4, none⟩))] [] [] (by kernel_rfl) (by kernel_rfl) rfl ?kinds (by kernel_rfl) (by kernel_rfl) (by kernel_rfl) ?_
  case kinds =>
    constructor
    · intro i h
      rcases i with _ | _ | _ | _ | _ | _ | _ | _ | _ | _ | _ | _ | _ | _ | _ | _ | _ | _ | _ | _ | _ | _ | _ | _ | _ | _ | _ | _ | _ | i <;> simp [Kx.isMade] at h
    · intro i h
      rcases i with _ | _ | _ | _ | _ | _ | _ | _ | _ | _ | _ | _ | _ | _ | _ | _ | _ | _ | _ | _ | _ | _ | _ | _ | _ | _ | _ | _ | _ | i <;> simp [Kx.isUse] at h
  refine lexX_step (fun K hK => ⟨by kernel_rfl, ⟨_, rfl⟩, fun v hv => ?_, fun v hv => ?_⟩)
  · go_simp
    exact mUpon_b
  subst hv
  go_simp
  refine hK _ ?_
  clear hK K
  refine lexX_step (fun K hK => ⟨by kernel_rfl, ⟨_, rfl⟩, fun v hv => ?_, fun v hv => ?_⟩)
  · go_simp
    exact mUpon_b
  subst hv
  go_simp
  refine hK _ ?_
  clear hK K
  refine lexX_step (fun K hK => ⟨by kernel_rfl, ⟨_, rfl⟩, fun v hv => ?_, fun v hv => ?_⟩)
  · go_simp
    exact mUpon_b
  subst hv
  go_simp
  refine hK _ ?_
  clear hK K
  refine lexX_step (fun K hK => ⟨by kernel_rfl, ⟨_, rfl⟩, fun v hv => ?_, fun v hv => ?_⟩)
  · have c : v.cell? ⟨g, o + 4, none⟩ = some (.int .i64 x) := (hv.cell (p := ⟨g, o + 4, none⟩) hg).trans h4
    go_simp
    exact mUpon_b
  subst hv
  go_simp
  refine hK _ ?_
  clear hK K
  refine lexX_step (fun K hK => ⟨by kernel_rfl, ⟨_, rfl⟩, fun v hv => ?_, fun v hv => ?_⟩)
  · go_simp
    exact mUpon_b
  subst hv
  go_simp
  refine hK _ ?_
  clear hK K
  refine lexX_step (fun K hK => ⟨by kernel_rfl, ⟨_, rfl⟩, fun v hv => ?_, fun v hv => ?_⟩)
  · go_simp
    exact mUpon_b
  subst hv
  go_simp
  refine hK _ ?_
  clear hK K
  refine lexX_step (fun K hK => ⟨by kernel_rfl, ⟨_, rfl⟩, fun v hv => ?_, fun v hv => ?_⟩)
  · go_simp
    exact mUpon_b
  subst hv
  go_simp
  refine hK _ ?_
  clear hK K
  refine lexX_step (fun K hK => ⟨by kernel_rfl, ⟨_, rfl⟩, fun v hv => ?_, fun v hv => ?_⟩)
  · go_simp
    exact mUpon_b
  subst hv
  go_simp
  refine hK _ ?_
  clear hK K
  refine lexX_step (fun K hK => ⟨by kernel_rfl, ⟨_, rfl⟩, fun v hv => ?_, fun v hv => ?_⟩)
  · have c : v.cell? ⟨g, o + 2, none⟩ = some (.int .i64 f) := (hv.cell (p := ⟨g, o + 2, none⟩) hg).trans h2
    go_simp
    exact mUpon_b
  subst hv
  go_simp
  refine hK _ ?_
  clear hK K
  refine lexX_step (fun K hK => ⟨by kernel_rfl, ⟨_, rfl⟩, fun v hv => ?_, fun v hv => ?_⟩)
  · go_simp
    exact mUpon_b
  subst hv
  go_simp
  refine hK _ ?_
  clear hK K
  refine lexX_step (fun K hK => ⟨by kernel_rfl, ⟨_, rfl⟩, fun v hv => ?_, fun v hv => ?_⟩)
  · go_simp
    exact mUpon_b
  subst hv
  go_simp
  refine hK _ ?_
  clear hK K
  refine lexX_step (fun K hK => ⟨by kernel_rfl, ⟨_, rfl⟩, fun v hv => ?_, fun v hv => ?_⟩)
  · go_simp
    exact mUpon_b
  subst hv
  go_simp
  refine hK _ ?_
  clear hK K
  refine lexX_step (fun K hK => ⟨by kernel_rfl, ⟨_, rfl⟩, fun v hv => ?_, fun v hv => ?_⟩)
  · go_simp
    exact mUpon_b
  subst hv
  go_simp
  refine hK _ ?_
  clear hK K
  refine lexX_step (fun K hK => ⟨by kernel_rfl, ⟨_, rfl⟩, fun v hv => ?_, fun v hv => ?_⟩)
  · have c : v.cell? ⟨g, o + 5, none⟩ = some (.int .i64 to) := (hv.cell (p := ⟨g, o + 5, none⟩) hg).trans h5
    go_simp
    exact mUpon_b
  subst hv
  go_simp
  refine hK _ ?_
  clear hK K
  refine lexX_step (fun K hK => ⟨by kernel_rfl, ⟨_, rfl⟩, fun v hv => ?_, fun v hv => ?_⟩)
  · go_simp
    exact mUpon_b
  subst hv
  go_simp
  refine hK _ ?_
  clear hK K
  refine lexX_step (fun K hK => ⟨by kernel_rfl, ⟨_, rfl⟩, fun v hv => ?_, fun v hv => ?_⟩)
  · go_simp
    exact mUpon_b
  subst hv
  go_simp
  refine hK _ ?_
  clear hK K
  refine lexX_step (fun K hK => ⟨by kernel_rfl, ⟨_, rfl⟩, fun v hv => ?_, fun v hv => ?_⟩)
  · go_simp
    exact mUpon_b
  subst hv
  go_simp
  refine hK _ ?_
  clear hK K
  refine lexX_step (fun K hK => ⟨by kernel_rfl, ⟨_, rfl⟩, fun v hv => ?_, fun v hv => ?_⟩)
  · have c : v.cell? ⟨g, o + 4, none⟩ = some (.int .i64 x) := (hv.cell (p := ⟨g, o + 4, none⟩) hg).trans h4
    go_simp
    exact mUpon_b
  subst hv
  go_simp
  refine hK _ ?_
  clear hK K
  refine lexX_step (fun K hK => ⟨by kernel_rfl, ⟨_, rfl⟩, fun v hv => ?_, fun v hv => ?_⟩)
  · go_simp
    exact mUpon_b
  subst hv
  go_simp
  refine hK _ ?_
  clear hK K
  refine lexX_step (fun K hK => ⟨by kernel_rfl, ⟨_, rfl⟩, fun v hv => ?_, fun v hv => ?_⟩)
  · go_simp
    exact mUpon_b
  subst hv
  go_simp
  refine hK _ ?_
  clear hK K
  refine lexX_step (fun K hK => ⟨by kernel_rfl, ⟨_, rfl⟩, fun v hv => ?_, fun v hv => ?_⟩)
  · go_simp
    exact mUpon_b
  subst hv
  go_simp
  refine hK _ ?_
  clear hK K
  refine lexX_step (fun K hK => ⟨by kernel_rfl, ⟨_, rfl⟩, fun v hv => ?_, fun v hv => ?_⟩)
  · go_simp
    exact mUpon_b
  subst hv
  go_simp
  refine hK _ ?_
  clear hK K
  refine lexX_step (fun K hK => ⟨by kernel_rfl, ⟨_, rfl⟩, fun v hv => ?_, fun v hv => ?_⟩)
  · go_simp
    exact mUpon_b
  subst hv
  go_simp
  refine hK _ ?_
  clear hK K
  refine lexX_step (fun K hK => ⟨by kernel_rfl, ⟨_, rfl⟩, fun v hv => ?_, fun v hv => ?_⟩)
  · have c : v.cell? ⟨g, o + 2, none⟩ = some (.int .i64 f) := (hv.cell (p := ⟨g, o + 2, none⟩) hg).trans h2
    go_simp
    exact mUpon_b
  subst hv
  go_simp
  refine hK _ ?_
  clear hK K
  refine lexX_step (fun K hK => ⟨by kernel_rfl, ⟨_, rfl⟩, fun v hv => ?_, fun v hv => ?_⟩)
  · go_simp
    exact mUpon_b
  subst hv
  go_simp
  refine hK _ ?_
  clear hK K
  refine lexX_step (fun K hK => ⟨by kernel_rfl, ⟨_, rfl⟩, fun v hv => ?_, fun v hv => ?_⟩)
  · go_simp
    exact mUpon_b
  subst hv
  go_simp
  refine hK _ ?_
  clear hK K
  refine lexX_step (fun K hK => ⟨by kernel_rfl, ⟨_, rfl⟩, fun v hv => ?_, fun v hv => ?_⟩)
  · go_simp
    exact mUpon_b
  subst hv
  go_simp
  refine hK _ ?_
  clear hK K
  refine lexX_step (fun K hK => ⟨by kernel_rfl, ⟨_, rfl⟩, fun v hv => ?_, fun v hv => ?_⟩)
  · go_simp
    exact mUpon_b
  subst hv
  go_simp
  refine hK _ ?_
  clear hK K
  refine lexX_step (fun K hK => ⟨by kernel_rfl, ⟨_, rfl⟩, fun v hv => ?_, fun v hv => ?_⟩)
  · go_simp
    exact mUpon_b
  subst hv
  go_simp
  refine hK _ ?_
  clear hK K
  refine lexX_end (fun v5 hv => ?_)
  have q1 : v5.cell? ⟨g, o + 4, none⟩ = some (.int .i64 x) := (hv.low.cell (p := ⟨g, o + 4, none⟩) hg).trans h4
  have q2 : v5.frozen? ⟨g, o + 4, none⟩ = false := (hv.low.frozen (p := ⟨g, o + 4, none⟩) hg).trans hz
  refine wpAny_step (i := 29) (by kernel_rfl) rfl (by kernel_rfl) (fun K hK => ?_)
  unfold Oper.wp
  go_simp
  refine hK _ _ ?_
  clear hK K
  refine wpAny_end (by kernel_rfl) ?_
  have HC := hideR (((Chg.refl g w).go hv.low).put (o + 4) (.int .i64 R) (by omega))
  have HB := hideR (same_set (g := g) (i := o + 4) (x := .int .i64 R) (hv.low.block g hg))
  have c4 : (v5.setCell ⟨g, o + 4, none⟩ (.int .i64 R)).cell? ⟨g, o + 4, none⟩ = some (.int .i64 R) := cell_put q1
  have c5 : (v5.setCell ⟨g, o + 4, none⟩ (.int .i64 R)).cell? ⟨g, o + 5, none⟩ = some (.int .i64 to) := (cell_other (by omega)).trans ((hv.low.cell (p := ⟨g, o + 5, none⟩) hg).trans h5)
  clear q1 q2 hv h2 h4 h5 hz
  generalize v5.setCell ⟨g, o + 4, none⟩ (.int .i64 R) = W1 at *
  go_wp2
  go_quiet (fail)
  go_wp2
  go_ret
  exact ⟨rfl, (unhideR HC).go (drawn_below _ _), unhideR HB⟩
theorem shaped_any (l : Lim) (w : World) : Calls Tryd.prog 55 #[.agg #[.int .i64 l.lo, .int .i64 l.hi, .int .i64 l.fast, .int .i64 l.home]] w fun e w' => e = .returned (.bool (decide l.shape)) ∧ Below w.heap.size w w' := by
  have hs : decide l.shape = (decide (¬ out l l.home) && decide (1 ≤ l.fast)) := by
    rw [← Bool.decide_and]
    exact decide_eq_decide.2 (by unfold Lim.shape out; omega)
  rw [hs]
  clear hs
  have hr := fun u => reach_any l l.home u
  generalize decide (¬ out l l.home) = b at *
  go_enter Tryd.func55, Tryd.ntmps55
  go_wp2_with fail
  refine (hr _).mono ?_
  rintro e w1 ⟨rfl, k1⟩
  have HK := hideR k1
  have hf : w1.cell? ⟨w.heap.size, 2, none⟩ = some (.int .i64 l.fast) := (cells_at (keepB (alloc_last w _) k1) 2 (by simp)).1
  clear k1 hr
  cases b
  · go_wp2
    go_ret
    exact ⟨rfl, below_go (below_a _ _) (unhideR HK)⟩
  · go_wp2
    go_ret
    exact ⟨rfl, below_go (below_a _ _) (unhideR HK)⟩
def big (n : Int) : Bool := decide (-1099511627776 ≤ n ∧ n ≤ 1099511627776)
set_option maxRecDepth 100000 in
set_option maxHeartbeats 1600000 in
theorem bounded_any (l : Lim) (w : World) : Calls Tryd.prog 56 #[.agg #[.int .i64 l.lo, .int .i64 l.hi, .int .i64 l.fast, .int .i64 l.home]] w fun e w' => e = .returned (.bool (decide (¬ l.large))) ∧ Below w.heap.size w w' := by
  have hs : decide (¬ l.large) = (big l.lo && (big l.hi && (big l.fast && big l.home))) := by
    unfold big Lim.large large
    rw [← Bool.decide_and, ← Bool.decide_and, ← Bool.decide_and]
    exact decide_eq_decide.2 (by omega)
  rw [hs]
  clear hs
  have h1 := fun u => within_any l.lo 1099511627776 u (by decide) (by decide)
  have h2 := fun u => within_any l.hi 1099511627776 u (by decide) (by decide)
  have h3 := fun u => within_any l.fast 1099511627776 u (by decide) (by decide)
  have h4 := fun u => within_any l.home 1099511627776 u (by decide) (by decide)
  change ∀ u, Calls _ _ _ u fun e w' => e = .returned (.bool (big l.lo)) ∧ _ at h1
  change ∀ u, Calls _ _ _ u fun e w' => e = .returned (.bool (big l.hi)) ∧ _ at h2
  change ∀ u, Calls _ _ _ u fun e w' => e = .returned (.bool (big l.fast)) ∧ _ at h3
  change ∀ u, Calls _ _ _ u fun e w' => e = .returned (.bool (big l.home)) ∧ _ at h4
  generalize big l.lo = b1 at *
  generalize big l.hi = b2 at *
  generalize big l.fast = b3 at *
  generalize big l.home = b4 at *
  go_enter Tryd.func56, Tryd.ntmps56
  go_wp2
  have HA := hideR (below_a w (.cells #[.int .i64 l.lo, .int .i64 l.hi, .int .i64 l.fast, .int .i64 l.home] 58))
  have i0 := idx4a (.int .i64 l.lo) (.int .i64 l.hi) (.int .i64 l.fast) (.int .i64 l.home)
  have i1 := idx4b (.int .i64 l.lo) (.int .i64 l.hi) (.int .i64 l.fast) (.int .i64 l.home)
  have i2 := idx4c (.int .i64 l.lo) (.int .i64 l.hi) (.int .i64 l.fast) (.int .i64 l.home)
  have i3 := idx4d (.int .i64 l.lo) (.int .i64 l.hi) (.int .i64 l.fast) (.int .i64 l.home)
  refine wp_loop_rounds 5 ?_
  rw [rounds_succ]
  go_wp2_with fail
  refine (h1 _).mono ?_
  rintro e w1 ⟨rfl, rfl⟩
  cases b1
  · go_wp2
    go_ret
    exact ⟨rfl, unhideR HA⟩
  go_wp2
  rw [rounds_succ]
  go_wp2_with fail
  refine (h2 _).mono ?_
  rintro e w2 ⟨rfl, rfl⟩
  cases b2
  · go_wp2
    go_ret
    exact ⟨rfl, unhideR HA⟩
  go_wp2
  rw [rounds_succ]
  go_wp2_with fail
  refine (h3 _).mono ?_
  rintro e w3 ⟨rfl, rfl⟩
  cases b3
  · go_wp2
    go_ret
    exact ⟨rfl, unhideR HA⟩
  go_wp2
  rw [rounds_succ]
  go_wp2_with fail
  refine (h4 _).mono ?_
  rintro e w4 ⟨rfl, rfl⟩
  cases b4
  · go_wp2
    go_ret
    exact ⟨rfl, unhideR HA⟩
  go_wp2
  rw [rounds_succ]
  go_wp2
  go_ret
  exact ⟨rfl, unhideR HA⟩
theorem parked_any (l : Lim) (w : World) : Calls Tryd.prog 58 #[.agg #[.int .i64 l.lo, .int .i64 l.hi, .int .i64 l.fast, .int .i64 l.home]] w fun e w' => e = .returned (.agg #[.int .i64 l.lo, .int .i64 l.hi, .int .i64 l.fast, .int .i64 l.home, .int .i64 l.home, .int .i64 0, .int .i64 0]) ∧ Below w.heap.size w w' := by
  go_enter Tryd.func58, Tryd.ntmps58
  go_wp2
  simp [bodyPost, results, Tryd.results58, go_sem]
  exact below_al2 _ _ _
theorem mstate_any {w : World} {g : Nat} {p : PM} (h : PB w g p) : Calls Tryd.prog 34 #[.pointer (some ⟨g, 0, none⟩)] w fun e w' => e = .returned (.int .i64 p.st) ∧ Below w.heap.size w w' := by
  have c14 : w.cell? ⟨g, 14, none⟩ = some (.int .i64 p.st) := (h.cell 14 (by decide)).1
  go_enter Tryd.func34, Tryd.ntmps34
  go_wp2
  go_ret
  exact ⟨rfl, Below.refl _ _⟩
theorem mat_any {w : World} {g : Nat} {p : PM} (h : PB w g p) : Calls Tryd.prog 33 #[.pointer (some ⟨g, 0, none⟩)] w fun e w' => e = .returned (.tuple #[.int .i64 p.x, .int .i64 p.y]) ∧ Below w.heap.size w w' := by
  have c4 : w.cell? ⟨g, 4, none⟩ = some (.int .i64 p.x) := (h.cell 4 (by decide)).1
  have c11 : w.cell? ⟨g, 11, none⟩ = some (.int .i64 p.y) := (h.cell 11 (by decide)).1
  go_enter Tryd.func33, Tryd.ntmps33
  go_wp2
  go_quiet (fail)
  go_wp2
  go_ret2
  exact ⟨rfl, drawn_below _ _⟩
end Go.Proofs.YteoappoijihomahDoor
