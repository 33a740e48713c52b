/-
  Quaternions: units, the way back, whether two are the same, by contracts.
-/
import Derived.Test.YtbobnmaeiohnnadSpin1
namespace Go.Proofs.Ytbobnmaeiohnnad
open Go Go.RowKit

/-- what Unit tells. -/
def UnitIs (a b c d : Nat) (x : Ending) : Prop := ∃ r t, Ev (sqE a b c d) t ∧ FSq t r ∧
  ((divB r = true ∧ ∃ p q s u, x = .returned (.tuple #[.agg #[.float .f64 p, .float .f64 q, .float .f64 s, .float .f64 u], .bool true]) ∧ FOp .quo a r p ∧ FOp .quo b r q ∧ FOp .quo c r s ∧ FOp .quo d r u) ∨
   (divB r = false ∧ x = .returned (.tuple #[.agg #[.float .f64 4607182418800017408, .float .f64 0, .float .f64 0, .float .f64 0], .bool false])))
theorem below_go {w v u : World} (h : Below w.heap.size w v) (k : Below v.heap.size v u) : Below w.heap.size w u := h.trans (k.mono h.size)
theorem two_blocks {w w1 : World} {A R : Obj} (hB : Below ((w.alloc A).alloc R).heap.size ((w.alloc A).alloc R) w1) : w1.heap[w.heap.size]? = some A ∧ w1.heap[w.heap.size + 1]? = some R ∧ Below w.heap.size w w1 := by
  refine ⟨?_, ?_, below_go (below_al2 w A R) hB⟩
  · rw [hB.block _ (by simp; omega)]
    show ((w.heap.push A).push R)[w.heap.size]? = some A
    rw [Array.getElem?_push, if_neg (by simp), Array.getElem?_push_size]
  · rw [hB.block _ (by simp)]
    show ((w.heap.push A).push R)[w.heap.size + 1]? = some R
    have : w.heap.size + 1 = (w.heap.push A).size := by simp
    rw [this, Array.getElem?_push_size]
theorem cells_at {w : World} {b : Nat} {cs : Array Value} {ty : TypeId} (h : w.heap[b]? = some (.cells cs ty)) (i : Nat) (hi : i < cs.size) : w.cell? ⟨b, i, none⟩ = some (cs.getD i undef) ∧ w.frozen? ⟨b, i, none⟩ = false := by
  constructor
  · simp [World.cell?, h, hi]
  · simp [World.frozen?, h]
theorem four_at {w : World} {b x0 x1 x2 x3 : Nat} {ty : TypeId} (h : w.heap[b]? = some (.cells #[.float .f64 x0, .float .f64 x1, .float .f64 x2, .float .f64 x3] ty)) :
    (w.cell? ⟨b, 0, none⟩ = some (.float .f64 x0) ∧ w.cell? ⟨b, 1, none⟩ = some (.float .f64 x1) ∧ w.cell? ⟨b, 2, none⟩ = some (.float .f64 x2) ∧ w.cell? ⟨b, 3, none⟩ = some (.float .f64 x3)) ∧
    (w.frozen? ⟨b, 0, none⟩ = false ∧ w.frozen? ⟨b, 1, none⟩ = false ∧ w.frozen? ⟨b, 2, none⟩ = false ∧ w.frozen? ⟨b, 3, none⟩ = false) :=
  ⟨⟨(cells_at h 0 (by simp)).1, (cells_at h 1 (by simp)).1, (cells_at h 2 (by simp)).1, (cells_at h 3 (by simp)).1⟩, (cells_at h 0 (by simp)).2, (cells_at h 1 (by simp)).2, (cells_at h 2 (by simp)).2, (cells_at h 3 (by simp)).2⟩
set_option maxHeartbeats 4000000 in
theorem unit_any (a b c d : Nat) (w : World) : Calls Try.prog 23 #[.agg #[.float .f64 a, .float .f64 b, .float .f64 c, .float .f64 d]] w fun x w' => UnitIs a b c d x ∧ Below w.heap.size w w' := by
  have hsf := run_store_float Try.prog
  go_enter Try.func23, Try.ntmps23
  go_wp2_with fail
  refine (size_any _ _ _ _ _).mono ?_
  rintro x w1 ⟨r, t, rfl, ht, hr, hB⟩
  obtain ⟨h0, h1, hB1⟩ := two_blocks hB
  have HU := hideR (And.intro ht hr)
  clear ht hr hB
  have hd := fun v => divides_any r v
  have hs := hB1.size
  cases hv : divB r with
  | false =>
    rw [hv] at hd
    go_wp2_with fail
    refine (hd _).mono ?_
    rintro x w2 ⟨rfl, rfl⟩
    go_wp2_with fail
    refine (none_any _).mono ?_
    rintro x w3 ⟨rfl, hB3⟩
    have h3 := (hB3.block (w.heap.size + 1) (by have := Array.getElem?_eq_some_iff.1 h1; obtain ⟨k, _⟩ := this; exact k)).trans h1
    obtain ⟨⟨c0, c1, c2, c3⟩, f0, f1, f2, f3⟩ := four_at h3
    have HB := hideR (below_go hB1 hB3)
    clear hB3 hB1 h3 h0 h1 hd
    go_wp2
    simp [bodyPost, results, Try.results23, go_sem, c0, c1, c2, c3]
    exact ⟨⟨r, t, (unhideR HU).1, (unhideR HU).2, .inr ⟨hv, rfl⟩⟩, below_four (unhideR HB) (by omega) _ _ _ _⟩
  | true =>
    rw [hv] at hd
    obtain ⟨⟨c0, c1, c2, c3⟩, f0, f1, f2, f3⟩ := four_at h1
    obtain ⟨⟨g0, g1, g2, g3⟩, _⟩ := four_at h0
    have HB := hideR hB1
    clear hB1 h0 h1
    go_wp2_with fail
    refine (hd _).mono ?_
    rintro x w2 ⟨rfl, rfl⟩
    clear hd
    go_wp2_with fail
    refine upon_float four_quo ?_
    intro r1 n1 k1
    go_wp2_with fail
    refine upon_float four_quo ?_
    intro r2 n2 k2
    go_wp2_with fail
    refine upon_float four_quo ?_
    intro r3 n3 k3
    go_wp2_with fail
    refine upon_float four_quo ?_
    intro r4 n4 k4
    go_wp2
    simp [bodyPost, results, Try.results23, go_sem, c0, c1, c2, c3]
    exact ⟨⟨r, t, (unhideR HU).1, (unhideR HU).2, .inl ⟨hv, r1, r2, r3, r4, rfl, k1, k2, k3, k4⟩⟩, below_four (below_drewN (unhideR HB) _) (by omega) _ _ _ _⟩
set_option maxHeartbeats 4000000 in
theorem unitOf_any (a b c d : Nat) (w : World) : Calls Try.prog 24 #[.agg #[.float .f64 a, .float .f64 b, .float .f64 c, .float .f64 d]] w fun x w' => UnitIs a b c d x ∧ Below w.heap.size w w' := by
  have hsf := run_store_float Try.prog
  go_enter Try.func24, Try.ntmps24
  go_wp2_with fail
  refine (sizeOf_any _ _ _ _ _).mono ?_
  rintro x w1 ⟨r, t, rfl, ht, hr, hB⟩
  obtain ⟨h0, h1, hB1⟩ := two_blocks hB
  have hs := hB1.size
  obtain ⟨⟨c0, c1, c2, c3⟩, f0, f1, f2, f3⟩ := four_at h1
  obtain ⟨⟨g0, g1, g2, g3⟩, _⟩ := four_at h0
  have HB := hideR hB1
  have hq := sq_divB hr
  have HU := hideR (And.intro ht hr)
  clear ht hr hB hB1 h0 h1
  have hfi := fun v => finite_any r v
  have ho : oneB r = (finB r && !(FloatKind.f64.format.order r 0 == some .eq)) := rfl
  obtain ⟨f, hf⟩ : ∃ f, finB r = f := ⟨_, rfl⟩
  obtain ⟨o, hoo⟩ : ∃ o, (FloatKind.f64.format.order r 0 == some .eq) = o := ⟨_, rfl⟩
  rw [hf, hoo] at ho
  rw [hf] at hfi
  rw [ho] at hq
  clear ho hf
  go_wp2_with fail
  refine (hfi _).mono ?_
  rintro x w2 ⟨rfl, n2, rfl⟩
  clear hfi
  cases f
  case false =>
    go_wp2
    simp [bodyPost, results, Try.results24, go_sem, c0, c1, c2, c3]
    exact ⟨⟨r, t, (unhideR HU).1, (unhideR HU).2, .inr ⟨hq, rfl⟩⟩, below_four (below_drewN (unhideR HB) _) (by omega) _ _ _ _⟩
  case true =>
    cases o
    case true =>
      go_wp2
      simp [bodyPost, results, Try.results24, go_sem, c0, c1, c2, c3]
      exact ⟨⟨r, t, (unhideR HU).1, (unhideR HU).2, .inr ⟨hq, rfl⟩⟩, below_four (below_drewN (unhideR HB) _) (by omega) _ _ _ _⟩
    case false =>
      go_wp2_with fail
      refine upon_float four_quo ?_
      intro r1 n1 k1
      go_wp2_with fail
      refine upon_float four_quo ?_
      intro r2 n2 k2
      go_wp2_with fail
      refine upon_float four_quo ?_
      intro r3 n3 k3
      go_wp2_with fail
      refine upon_float four_quo ?_
      intro r4 n4 k4
      go_wp2
      simp [bodyPost, results, Try.results24, go_sem, c0, c1, c2, c3]
      exact ⟨⟨r, t, (unhideR HU).1, (unhideR HU).2, .inl ⟨hq, r1, r2, r3, r4, rfl, k1, k2, k3, k4⟩⟩, below_four (below_drewN (unhideR HB) _) (by omega) _ _ _ _⟩
theorem back_any (a b c d : Nat) (w : World) : Calls Try.prog 22 #[.agg #[.float .f64 a, .float .f64 b, .float .f64 c, .float .f64 d]] w fun x w' => x = .returned (.agg #[.float .f64 a, .float .f64 (Op.negFloat .f64 b), .float .f64 (Op.negFloat .f64 c), .float .f64 (Op.negFloat .f64 d)]) ∧ Below w.heap.size w w' := by
  have hsf := run_store_float Try.prog
  have hneg : ∀ x v, (Op.unary UnOp.neg (.float .f64 x)).run Try.prog v = .ok (.float .f64 (Op.negFloat .f64 x)) v := fun _ _ => rfl
  go_enter Try.func22, Try.ntmps22
  go_wp2
  simp [bodyPost, results, Try.results22, go_sem]
  exact below_al2 w _ _
theorem q_any (a b c d : Nat) (w : World) : Calls Try.prog 16 #[.agg #[.float .f64 a, .float .f64 b, .float .f64 c, .float .f64 d]] w fun x w' => x = .returned (.agg #[.float .f64 a, .float .f64 b, .float .f64 c, .float .f64 d]) ∧ Below w.heap.size w w' := by
  have hsf := run_store_float Try.prog
  go_enter Try.func16, Try.ntmps16
  go_wp2
  simp [bodyPost, results, Try.results16, go_sem]
  exact below_al2 w _ _
set_option maxHeartbeats 4000000 in
theorem sameVec_any (a b c d e f : Nat) (w : World) (h1 : FSame a d) (h2 : FSame b e) (h3 : FSame c f) : Calls Try.prog 29 #[.agg #[.float .f64 a, .float .f64 b, .float .f64 c], .agg #[.float .f64 d, .float .f64 e, .float .f64 f]] w fun x w' => x = .returned (.bool true) ∧ Below w.heap.size w w' := by
  have hb := fun x y v (h : FSame x y) => (same_iff.2 h) ▸ sameBits_any x y v
  go_enter Try.func29, Try.ntmps29
  go_wp2_with fail
  refine (hb _ _ _ h1).mono ?_
  rintro x w1 ⟨rfl, rfl⟩
  go_wp2_with fail
  refine (hb _ _ _ h2).mono ?_
  rintro x w1 ⟨rfl, rfl⟩
  go_wp2_with fail
  refine (hb _ _ _ h3).mono ?_
  rintro x w1 ⟨rfl, rfl⟩
  go_wp2
  go_ret
  exact ⟨rfl, below_al2 w _ _⟩
set_option maxHeartbeats 4000000 in
theorem sameQ_any (z a b c y d e f : Nat) (w : World) (h0 : FSame z y) (h1 : FSame a d) (h2 : FSame b e) (h3 : FSame c f) : Calls Try.prog 15 #[.agg #[.float .f64 z, .float .f64 a, .float .f64 b, .float .f64 c], .agg #[.float .f64 y, .float .f64 d, .float .f64 e, .float .f64 f]] w fun x w' => x = .returned (.bool true) ∧ Below w.heap.size w w' := by
  have hb := fun x y v (h : FSame x y) => (same_iff.2 h) ▸ sameBits_any x y v
  go_enter Try.func15, Try.ntmps15
  go_wp2_with fail
  refine (hb _ _ _ h0).mono ?_
  rintro x w1 ⟨rfl, rfl⟩
  go_wp2_with fail
  refine (sameVec_any _ _ _ _ _ _ _ h1 h2 h3).mono ?_
  rintro x w1 ⟨rfl, hB⟩
  go_wp2
  go_ret
  exact ⟨rfl, below_go (below_al2 w _ _) hB⟩
end Go.Proofs.Ytbobnmaeiohnnad
