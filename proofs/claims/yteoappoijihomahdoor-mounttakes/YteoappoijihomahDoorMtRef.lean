/-
  The document's mount: limits, and what lies in memory, by contract.
-/
import Derived.Test.YteoappoijihomahDoorMtP
import Derived.Test.YteoappoijihomahDoorKit3
import Derived.Test.YteoappoijihomahDoorLoose7
namespace Go.Proofs.YteoappoijihomahDoor
open Go Go.RowKit

/-- of the block g alone something is written, and that one has more than two cells. -/
structure Chg (g : Nat) (w w' : World) : Prop where
  os : w'.os = w.os
  tape : w'.tape = w.tape
  output : w'.output = w.output
  size : w.heap.size ≤ w'.heap.size
  block : ∀ k, k < w.heap.size → k ≠ g → w'.heap[k]? = w.heap[k]?
  little : ∀ cs T fr, w.heap[g]? = some (.cells cs T fr) → cs.size ≤ 2 → w'.heap[g]? = w.heap[g]?
theorem Chg.refl (g : Nat) (w : World) : Chg g w w := ⟨rfl, rfl, rfl, Nat.le_refl _, fun _ _ _ => rfl, fun _ _ _ _ _ => rfl⟩
theorem Chg.trans {g : Nat} {a b c : World} (h : Chg g a b) (k : Chg g b c) : Chg g a c :=
  ⟨k.os.trans h.os, k.tape.trans h.tape, k.output.trans h.output, Nat.le_trans h.size k.size, fun i hi hn => (k.block i (Nat.lt_of_lt_of_le hi h.size) hn).trans (h.block i hi hn),
    fun cs T fr e l => (k.little cs T fr ((h.little cs T fr e l).trans e) l).trans (h.little cs T fr e l)⟩
theorem Chg.of {g : Nat} {w v : World} (h : Below w.heap.size w v) : Chg g w v := ⟨h.os, h.tape, h.output, h.size, fun k hk _ => h.block k hk, fun _ _ _ e _ => h.block g (ltB e)⟩
theorem Chg.go {g : Nat} {w v u : World} (h : Chg g w v) (k : Below v.heap.size v u) : Chg g w u := h.trans (Chg.of k)
theorem setCell_beyond {v : World} {g i : Nat} {x : Value} {cs : Array Value} {T : TypeId} {fr : Nat × Nat} (e : v.heap[g]? = some (.cells cs T fr)) (l : cs.size ≤ i) : (v.setCell ⟨g, i, none⟩ x).heap[g]? = v.heap[g]? := by
  simp only [World.setCell, Array.getElem?_modify, e, if_true, Option.map_some]
  simp [Array.setIfInBounds, Nat.not_lt.mpr l]
theorem Chg.put {g : Nat} {w v : World} (h : Chg g w v) (i : Nat) (x : Value) (hi : 2 ≤ i := by decide) : Chg g w (v.setCell ⟨g, i, none⟩ x) :=
  ⟨h.os, h.tape, h.output, by simpa [World.setCell] using h.size, fun k hk hn => (Below.heap_setCell v ⟨g, i, none⟩ x k hn).trans (h.block k hk hn),
    fun cs T fr e l => (setCell_beyond ((h.little cs T fr e l).trans e) (Nat.le_trans l hi)).trans (h.little cs T fr e l)⟩
theorem Chg.putB {g : Nat} {w v : World} {cs : Array Value} {T : TypeId} {fr : Nat × Nat} (h : Chg g w v) (hz : w.heap[g]? = some (.cells cs T fr)) (h2 : 2 < cs.size) (i : Nat) (x : Value) : Chg g w (v.setCell ⟨g, i, none⟩ x) :=
  ⟨h.os, h.tape, h.output, by simpa [World.setCell] using h.size, fun k hk hn => (Below.heap_setCell v ⟨g, i, none⟩ x k hn).trans (h.block k hk hn),
    fun cs' T' fr' e l => absurd (Obj.cells.inj (Option.some.inj (hz.symm.trans e))).1 (fun q => by rw [q] at h2; omega)⟩
theorem Chg.blk {g b : Nat} {w v : World} {o : Obj} (h : Chg g w v) (k : w.heap[b]? = some o) (hb : b ≠ g) : v.heap[b]? = some o := (h.block b (ltB k) hb).trans k
theorem Chg.below {g B : Nat} {w v u : World} (h : Below B w v) (k : Chg g v u) (hB : B ≤ g) (hv : B ≤ v.heap.size) : Below B w u :=
  ⟨k.os.trans h.os, k.tape.trans h.tape, k.output.trans h.output, Nat.le_trans h.size k.size, fun i hi => (k.block i (by omega) (by omega)).trans (h.block i hi)⟩
/-- the document's mount in memory. -/
structure Ref (w : World) (g : Nat) (m : Mt) : Prop where
  blk : w.heap[g]? = some (.cells #[.int .i64 m.A.lo, .int .i64 m.A.hi, .int .i64 m.A.fast, .int .i64 m.A.home, .int .i64 m.B.lo, .int .i64 m.B.hi, .int .i64 m.B.fast, .int .i64 m.B.home, .int .i64 m.X, .int .i64 m.Y, .int .i64 m.P, .int .i64 m.Q, .int .i64 m.st, .int .i64 m.pat, .int .i64 m.quiet, .bool m.taken, .int .i64 m.num, .int .i64 m.code] 70)
theorem Ref.keep {w v : World} {g : Nat} {m : Mt} (h : Ref w g m) (k : Below w.heap.size w v) : Ref v g m := ⟨keepB h.blk k⟩
theorem Ref.chg {w v : World} {g b : Nat} {m : Mt} (h : Ref w g m) (k : Chg b w v) (hb : g ≠ b) : Ref v g m := ⟨k.blk h.blk hb⟩
theorem Ref.cell {w : World} {g : Nat} {m : Mt} (h : Ref w g m) (i : Nat) (hi : i < 18) : w.cell? ⟨g, i, none⟩ = some ((#[.int .i64 m.A.lo, .int .i64 m.A.hi, .int .i64 m.A.fast, .int .i64 m.A.home, .int .i64 m.B.lo, .int .i64 m.B.hi, .int .i64 m.B.fast, .int .i64 m.B.home, .int .i64 m.X, .int .i64 m.Y, .int .i64 m.P, .int .i64 m.Q, .int .i64 m.st, .int .i64 m.pat, .int .i64 m.quiet, .bool m.taken, .int .i64 m.num, .int .i64 m.code] : Array Value).getD i undef) ∧ w.frozen? ⟨g, i, none⟩ = false := cells_at h.blk i (by simpa using hi)
theorem Ref.X {w : World} {g : Nat} {m : Mt} (h : Ref w g m) (x : Int) : Ref (w.setCell ⟨g, 8, none⟩ (.int .i64 x)) g { m with X := x } := by
  refine ⟨?_⟩
  rw [heap_setCell_same _ _ _ _ _ _ h.blk]
  rfl
theorem Ref.Y {w : World} {g : Nat} {m : Mt} (h : Ref w g m) (x : Int) : Ref (w.setCell ⟨g, 9, none⟩ (.int .i64 x)) g { m with Y := x } := by
  refine ⟨?_⟩
  rw [heap_setCell_same _ _ _ _ _ _ h.blk]
  rfl
theorem Ref.P {w : World} {g : Nat} {m : Mt} (h : Ref w g m) (x : Int) : Ref (w.setCell ⟨g, 10, none⟩ (.int .i64 x)) g { m with P := x } := by
  refine ⟨?_⟩
  rw [heap_setCell_same _ _ _ _ _ _ h.blk]
  rfl
theorem Ref.Q {w : World} {g : Nat} {m : Mt} (h : Ref w g m) (x : Int) : Ref (w.setCell ⟨g, 11, none⟩ (.int .i64 x)) g { m with Q := x } := by
  refine ⟨?_⟩
  rw [heap_setCell_same _ _ _ _ _ _ h.blk]
  rfl
theorem Ref.st {w : World} {g : Nat} {m : Mt} (h : Ref w g m) (x : Int) : Ref (w.setCell ⟨g, 12, none⟩ (.int .i64 x)) g { m with st := x } := by
  refine ⟨?_⟩
  rw [heap_setCell_same _ _ _ _ _ _ h.blk]
  rfl
theorem Ref.quiet {w : World} {g : Nat} {m : Mt} (h : Ref w g m) (x : Int) : Ref (w.setCell ⟨g, 14, none⟩ (.int .i64 x)) g { m with quiet := x } := by
  refine ⟨?_⟩
  rw [heap_setCell_same _ _ _ _ _ _ h.blk]
  rfl
theorem Ref.taken {w : World} {g : Nat} {m : Mt} (h : Ref w g m) (x : Bool) : Ref (w.setCell ⟨g, 15, none⟩ (.bool x)) g { m with taken := x } := by
  refine ⟨?_⟩
  rw [heap_setCell_same _ _ _ _ _ _ h.blk]
  rfl
theorem Ref.num {w : World} {g : Nat} {m : Mt} (h : Ref w g m) (x : Int) : Ref (w.setCell ⟨g, 16, none⟩ (.int .i64 x)) g { m with num := x } := by
  refine ⟨?_⟩
  rw [heap_setCell_same _ _ _ _ _ _ h.blk]
  rfl
theorem Ref.code {w : World} {g : Nat} {m : Mt} (h : Ref w g m) (x : Int) : Ref (w.setCell ⟨g, 17, none⟩ (.int .i64 x)) g { m with code := x } := by
  refine ⟨?_⟩
  rw [heap_setCell_same _ _ _ _ _ _ h.blk]
  rfl
theorem large_any (n : Int) (w : World) : Calls Tryd.prog 61 #[.int .i64 n] w fun e w' => e = .returned (.bool (decide (large n))) ∧ w' = w := by
  by_cases h1 : 1099511627776 < n
  · rw [decide_eq_true (show large n from .inl h1)]
    go_enter Tryd.func61, Tryd.ntmps61
    go_wp2
    go_ret
    exact ⟨rfl, rfl⟩
  · by_cases h2 : n < -1099511627776
    · rw [decide_eq_true (show large n from .inr h2)]
      go_enter Tryd.func61, Tryd.ntmps61
      go_wp2
      go_ret
      exact ⟨rfl, rfl⟩
    · rw [decide_eq_false (show ¬ large n from fun k => k.elim h1 h2)]
      go_enter Tryd.func61, Tryd.ntmps61
      go_wp2
      go_ret
      exact ⟨rfl, rfl⟩
set_option maxHeartbeats 800000 in
theorem limitsShape_any (l : Lim) (w : World) : Calls Tryd.prog 59 #[.agg #[.int .i64 l.lo, .int .i64 l.hi, .int .i64 l.fast, .int .i64 l.home]] w fun e w' => e = .returned (.bool (decide l.shape)) ∧ Below w.heap.size w w' := by
  obtain ⟨R, HR⟩ : ∃ R, HeldR (decide l.shape = R) := ⟨_, rfl⟩
  rw [unhideR HR]
  have hcase : (decide (l.lo ≤ l.hi) = false ∧ R = false) ∨ (decide (l.lo ≤ l.hi) = true ∧ decide (l.lo ≤ l.home) = false ∧ R = false) ∨ (decide (l.lo ≤ l.hi) = true ∧ decide (l.lo ≤ l.home) = true ∧ decide (l.home ≤ l.hi) = false ∧ R = false) ∨ (decide (l.lo ≤ l.hi) = true ∧ decide (l.lo ≤ l.home) = true ∧ decide (l.home ≤ l.hi) = true ∧ decide (1 ≤ l.fast) = R) := by
    have e := unhideR HR
    unfold Lim.shape at e
    by_cases q1 : l.lo ≤ l.hi
    · by_cases q2 : l.lo ≤ l.home
      · by_cases q3 : l.home ≤ l.hi
        · refine .inr (.inr (.inr ⟨decide_eq_true q1, decide_eq_true q2, decide_eq_true q3, ?_⟩))
          rw [← e]
          exact decide_eq_decide.2 ⟨fun k => ⟨q1, q2, q3, k⟩, fun k => k.2.2.2⟩
        · refine .inr (.inr (.inl ⟨decide_eq_true q1, decide_eq_true q2, decide_eq_false q3, ?_⟩))
          rw [← e]
          exact decide_eq_false (fun k => q3 k.2.2.1)
      · refine .inr (.inl ⟨decide_eq_true q1, decide_eq_false q2, ?_⟩)
        rw [← e]
        exact decide_eq_false (fun k => q2 k.2.1)
    · refine .inl ⟨decide_eq_false q1, ?_⟩
      rw [← e]
      exact decide_eq_false (fun k => q1 k.1)
  clear HR
  rcases hcase with ⟨t1, rfl⟩ | ⟨t1, t2, rfl⟩ | ⟨t1, t2, t3, rfl⟩ | ⟨t1, t2, t3, t4⟩
  all_goals
    go_enter Tryd.func59, Tryd.ntmps59
    go_wp2
    all_goals
      go_ret
      exact ⟨rfl, below_a _ _⟩
set_option maxHeartbeats 800000 in
theorem limitsLarge_any (l : Lim) (w : World) : Calls Tryd.prog 60 #[.agg #[.int .i64 l.lo, .int .i64 l.hi, .int .i64 l.fast, .int .i64 l.home]] w fun e w' => e = .returned (.bool (decide l.large)) ∧ Below w.heap.size w w' := by
  have h1 := fun u => large_any l.lo u
  have h2 := fun u => large_any l.hi u
  have h3 := fun u => large_any l.fast u
  have h4 := fun u => large_any l.home u
  have e : decide l.large = (decide (large l.lo) || (decide (large l.hi) || (decide (large l.fast) || decide (large l.home)))) := by
    rw [Bool.eq_iff_iff]
    simp only [decide_eq_true_eq, Bool.or_eq_true]
    exact Iff.rfl
  rw [e]
  generalize decide (large l.lo) = a at *
  generalize decide (large l.hi) = b at *
  generalize decide (large l.fast) = c at *
  generalize decide (large l.home) = d at *
  go_enter Tryd.func60, Tryd.ntmps60
  go_wp2_with fail
  refine (h1 _).mono ?_
  rintro e w1 ⟨rfl, rfl⟩
  go_wp2_with fail
  refine (h2 _).mono ?_
  rintro e w1 ⟨rfl, rfl⟩
  go_wp2_with fail
  refine (h3 _).mono ?_
  rintro e w1 ⟨rfl, rfl⟩
  go_wp2_with fail
  refine (h4 _).mono ?_
  rintro e w1 ⟨rfl, rfl⟩
  cases a <;> cases b <;> cases c
  all_goals
    go_wp2
    go_ret
    exact ⟨rfl, below_a _ _⟩
theorem towards_any (x to fast : Int) (w : World) (h1 : -4398046511104 ≤ x) (h2 : x ≤ 4398046511104) (h3 : -4398046511104 ≤ to) (h4 : to ≤ 4398046511104) (h5 : 0 ≤ fast) (h6 : fast ≤ 1099511627776) :
    Calls Tryd.prog 65 #[.int .i64 x, .int .i64 to, .int .i64 fast] w fun e w' => e = .returned (.int .i64 (towards x to fast)) ∧ w' = w := by
  have w1 : IntKind.i64.wrap (to - x) = to - x := iwrap (by omega) (by omega)
  have w2 : IntKind.i64.wrap (x - to) = x - to := iwrap (by omega) (by omega)
  have w3 : IntKind.i64.wrap (x + fast) = x + fast := iwrap (by omega) (by omega)
  have w4 : IntKind.i64.wrap (x - fast) = x - fast := iwrap (by omega) (by omega)
  unfold towards
  by_cases q1 : fast < to - x
  · rw [if_pos q1]
    have t1 : decide (fast < to - x) = true := decide_eq_true q1
    go_enter Tryd.func65, Tryd.ntmps65
    go_wp2
    all_goals
      go_ret
      exact ⟨rfl, rfl⟩
  · rw [if_neg q1]
    have t1 : decide (fast < to - x) = false := decide_eq_false q1
    by_cases q2 : fast < x - to
    · rw [if_pos q2]
      have t2 : decide (fast < x - to) = true := decide_eq_true q2
      go_enter Tryd.func65, Tryd.ntmps65
      go_wp2
      all_goals
        go_ret
        exact ⟨rfl, rfl⟩
    · rw [if_neg q2]
      have t2 : decide (fast < x - to) = false := decide_eq_false q2
      go_enter Tryd.func65, Tryd.ntmps65
      go_wp2
      all_goals
        go_ret
        exact ⟨rfl, rfl⟩
def MtPost (a b : Lim) (pat : Int) (w : World) (e : Ending) (w' : World) : Prop := ∃ p : Value, e = .returned (.tuple #[p, .int .i64 (newE a b pat)]) ∧ (newE a b pat ≠ 0 → p = .pointer none) ∧ (newE a b pat = 0 → ∃ g, p = .pointer (some ⟨g, 0, none⟩) ∧ w.heap.size ≤ g ∧ Ref w' g (newV a b pat)) ∧ Below w.heap.size w w'
set_option maxRecDepth 100000 in
set_option maxHeartbeats 1600000 in
theorem mountOf_any (a b : Lim) (pat : Int) (w : World) : Calls Tryd.prog 27 #[.agg #[.int .i64 a.lo, .int .i64 a.hi, .int .i64 a.fast, .int .i64 a.home], .agg #[.int .i64 b.lo, .int .i64 b.hi, .int .i64 b.fast, .int .i64 b.home], .int .i64 pat] w (MtPost a b pat w) := by
  have HE5 : HeldR ((¬ a.shape ∨ ¬ b.shape ∨ pat < 1) → newE a b pat = 5) := fun q => by unfold newE; rw [if_pos q]
  have HE2 : HeldR (¬ (¬ a.shape ∨ ¬ b.shape ∨ pat < 1) → (a.large ∨ b.large ∨ large pat) → newE a b pat = 2) := fun q r => by unfold newE; rw [if_neg q, if_pos r]
  have HE0 : HeldR (¬ (¬ a.shape ∨ ¬ b.shape ∨ pat < 1) → ¬ (a.large ∨ b.large ∨ large pat) → newE a b pat = 0) := fun q r => by unfold newE; rw [if_neg q, if_neg r]
  have s1 := fun u => limitsShape_any a u
  have s2 := fun u => limitsShape_any b u
  have l1 := fun u => limitsLarge_any a u
  have l2 := fun u => limitsLarge_any b u
  have l3 := fun u => large_any pat u
  have HW := hideR (below_al2 w (.cells #[.int .i64 a.lo, .int .i64 a.hi, .int .i64 a.fast, .int .i64 a.home] 53) (.cells #[.int .i64 b.lo, .int .i64 b.hi, .int .i64 b.fast, .int .i64 b.home] 53))
  have HA := hideR (keepA (o' := .cells #[.int .i64 b.lo, .int .i64 b.hi, .int .i64 b.fast, .int .i64 b.home] 53) (alloc_last w (.cells #[.int .i64 a.lo, .int .i64 a.hi, .int .i64 a.fast, .int .i64 a.home] 53)))
  have HB : HeldR (((w.alloc (.cells #[.int .i64 a.lo, .int .i64 a.hi, .int .i64 a.fast, .int .i64 a.home] 53)).alloc (.cells #[.int .i64 b.lo, .int .i64 b.hi, .int .i64 b.fast, .int .i64 b.home] 53)).heap[w.heap.size + 1]? = some (.cells #[.int .i64 b.lo, .int .i64 b.hi, .int .i64 b.fast, .int .i64 b.home] 53)) := by
    have : w.heap.size + 1 = (w.alloc (.cells #[.int .i64 a.lo, .int .i64 a.hi, .int .i64 a.fast, .int .i64 a.home] 53)).heap.size := by simp
    unfold HeldR
    rw [this]
    exact alloc_last _ _
  go_enter Tryd.func27, Tryd.ntmps27
  go_wp2_with fail
  generalize (w.alloc (.cells #[.int .i64 a.lo, .int .i64 a.hi, .int .i64 a.fast, .int .i64 a.home] 53)).alloc (.cells #[.int .i64 b.lo, .int .i64 b.hi, .int .i64 b.fast, .int .i64 b.home] 53) = W1 at *
  refine (s1 _).mono ?_
  rintro e w1 ⟨rfl, k1⟩
  replace HW := hideR (below_go (unhideR HW) k1)
  replace HA := hideR (keepB (unhideR HA) k1)
  replace HB := hideR (keepB (unhideR HB) k1)
  clear k1 s1
  have c := fun k hk => (cells_at (unhideR HB) k hk).1
  have c0 := c 0 (by simp)
  have c1 := c 1 (by simp)
  have c2 := c 2 (by simp)
  have c3 := c 3 (by simp)
  clear c
  go_wp2_with fail
  refine (s2 _).mono ?_
  rintro e w2 ⟨rfl, k2⟩
  replace HW := hideR (below_go (unhideR HW) k2)
  replace HA := hideR (keepB (unhideR HA) k2)
  replace HB := hideR (keepB (unhideR HB) k2)
  clear k2 s2 c0 c1 c2 c3
  by_cases hq : ¬ a.shape ∨ ¬ b.shape ∨ pat < 1
  · have HF : HeldR (MtPost a b pat w (.returned (.tuple #[.pointer none, .int .i64 5])) w2) := by
      have e := unhideR HE5 hq
      refine ⟨_, by rw [e], fun _ => rfl, fun z => ?_, unhideR HW⟩
      rw [e] at z
      cases z
    have hcase : decide a.shape = false ∨ (decide a.shape = true ∧ decide b.shape = false) ∨ (decide a.shape = true ∧ decide b.shape = true ∧ decide (pat < 1) = true) := by
      by_cases q1 : a.shape
      · by_cases q2 : b.shape
        · refine .inr (.inr ⟨decide_eq_true q1, decide_eq_true q2, decide_eq_true ?_⟩)
          rcases hq with k | k | k
          · exact absurd q1 k
          · exact absurd q2 k
          · exact k
        · exact .inr (.inl ⟨decide_eq_true q1, decide_eq_false q2⟩)
      · exact .inl (decide_eq_false q1)
    clear HE5 HE2 HE0 hq
    generalize decide a.shape = x at *
    generalize decide b.shape = y at *
    rcases hcase with rfl | ⟨rfl, rfl⟩ | ⟨rfl, rfl, tp⟩
    all_goals
      go_wp2
      go_ret2
      exact unhideR HF
  · have h2 := unhideR HE2 hq
    have h0 := unhideR HE0 hq
    have t1 : decide a.shape = true := decide_eq_true (Decidable.byContradiction fun k => hq (.inl k))
    have t2 : decide b.shape = true := decide_eq_true (Decidable.byContradiction fun k => hq (.inr (.inl k)))
    have t3 : decide (pat < 1) = false := decide_eq_false (fun k => hq (.inr (.inr k)))
    rw [t1, t2]
    have H2 := hideR h2
    have H0 := hideR h0
    clear HE5 HE2 HE0 hq t1 t2 h2 h0
    have c := fun k hk => (cells_at (unhideR HA) k hk).1
    have c0 := c 0 (by simp)
    have c1 := c 1 (by simp)
    have c2 := c 2 (by simp)
    have c3 := c 3 (by simp)
    clear c
    go_wp2_with fail
    refine (l1 _).mono ?_
    rintro e w3 ⟨rfl, k3⟩
    replace HW := hideR (below_go (unhideR HW) k3)
    replace HA := hideR (keepB (unhideR HA) k3)
    replace HB := hideR (keepB (unhideR HB) k3)
    clear k3 l1 c0 c1 c2 c3
    have c := fun k hk => (cells_at (unhideR HB) k hk).1
    have c0 := c 0 (by simp)
    have c1 := c 1 (by simp)
    have c2 := c 2 (by simp)
    have c3 := c 3 (by simp)
    clear c
    go_wp2_with fail
    refine (l2 _).mono ?_
    rintro e w4 ⟨rfl, k4⟩
    replace HW := hideR (below_go (unhideR HW) k4)
    replace HA := hideR (keepB (unhideR HA) k4)
    replace HB := hideR (keepB (unhideR HB) k4)
    clear k4 l2 c0 c1 c2 c3
    go_wp2_with fail
    refine (l3 _).mono ?_
    rintro e w5 ⟨rfl, rfl⟩
    clear l3
    by_cases hq : a.large ∨ b.large ∨ large pat
    · have HF : HeldR (MtPost a b pat w (.returned (.tuple #[.pointer none, .int .i64 2])) w5) := by
        have e := unhideR H2 hq
        refine ⟨_, by rw [e], fun _ => rfl, fun z => ?_, unhideR HW⟩
        rw [e] at z
        cases z
      have hcase : decide a.large = true ∨ (decide a.large = false ∧ decide b.large = true) ∨ (decide a.large = false ∧ decide b.large = false ∧ decide (large pat) = true) := by
        by_cases q1 : a.large
        · exact .inl (decide_eq_true q1)
        · by_cases q2 : b.large
          · exact .inr (.inl ⟨decide_eq_false q1, decide_eq_true q2⟩)
          · refine .inr (.inr ⟨decide_eq_false q1, decide_eq_false q2, decide_eq_true ?_⟩)
            rcases hq with k | k | k
            · exact absurd k q1
            · exact absurd k q2
            · exact k
      clear H2 H0 hq
      generalize decide a.large = x at *
      generalize decide b.large = y at *
      generalize decide (large pat) = z at *
      rcases hcase with rfl | ⟨rfl, rfl⟩ | ⟨rfl, rfl, rfl⟩
      all_goals
        go_wp2
        go_ret2
        exact unhideR HF
    · have e := unhideR H0 hq
      have t1 : decide a.large = false := decide_eq_false (fun k => hq (.inl k))
      have t2 : decide b.large = false := decide_eq_false (fun k => hq (.inr (.inl k)))
      have t3 : decide (large pat) = false := decide_eq_false (fun k => hq (.inr (.inr k)))
      rw [t1, t2, t3]
      have HF : HeldR (MtPost a b pat w (.returned (.tuple #[.pointer (some ⟨w5.heap.size, 0, none⟩), .int .i64 0])) (w5.alloc (.cells #[.int .i64 a.lo, .int .i64 a.hi, .int .i64 a.fast, .int .i64 a.home, .int .i64 b.lo, .int .i64 b.hi, .int .i64 b.fast, .int .i64 b.home, .int .i64 a.home, .int .i64 b.home, .int .i64 0, .int .i64 0, .int .i64 4, .int .i64 pat, .int .i64 0, .bool false, .int .i64 0, .int .i64 0] 70))) :=
        ⟨_, by rw [e], fun q => absurd e q, fun _ => ⟨_, rfl, (unhideR HW).size, ⟨alloc_last _ _⟩⟩, below_go (unhideR HW) (below_a _ _)⟩
      have c := fun k hk => (cells_at (unhideR HA) k hk).1
      have c0 := c 0 (by simp)
      have c1 := c 1 (by simp)
      have c2 := c 2 (by simp)
      have c3 := c 3 (by simp)
      have d := fun k hk => (cells_at (unhideR HB) k hk).1
      have d0 := d 0 (by simp)
      have d1 := d 1 (by simp)
      have d2 := d 2 (by simp)
      have d3 := d 3 (by simp)
      clear c d H2 H0 hq e t1 t2 t3
      go_wp2
      go_ret2
      exact unhideR HF
end Go.Proofs.YteoappoijihomahDoor
