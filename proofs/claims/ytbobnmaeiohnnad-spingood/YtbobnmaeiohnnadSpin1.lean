/-
  Quaternions: their products, sizes and units, by contracts.
-/
import Derived.Test.YtbobnmaeiohnnadSpin0
namespace Go.Proofs.Ytbobnmaeiohnnad
open Go Go.RowKit

def mE (x y : Nat) : FE := .op .mul (.num x) (.num y)
def tWE (a b c d e f g h : Nat) : FE := .op .sub (.op .sub (.op .sub (mE a e) (mE b f)) (mE c g)) (mE d h)
def tXE (a b c d e f g h : Nat) : FE := .op .sub (.op .add (.op .add (mE a f) (mE b e)) (mE c h)) (mE d g)
def tYE (a b c d e f g h : Nat) : FE := .op .add (.op .add (.op .sub (mE a g) (mE b h)) (mE c e)) (mE d f)
def tZE (a b c d e f g h : Nat) : FE := .op .add (.op .sub (.op .add (mE a h) (mE b g)) (mE c f)) (mE d e)
def sqE (a b c d : Nat) : FE := .op .add (.op .add (.op .add (mE a a) (mE b b)) (mE c c)) (mE d d)
def q4 (a b c d : Nat) : Value := .agg #[.float .f64 a, .float .f64 b, .float .f64 c, .float .f64 d]
/-- an operation on numbers with a point, where the walk stands before it: any answer, any draws. -/
theorem upon_float {P : Program} {o : Oper} {a : Act} {K : Act → World → Prop} {Q : Exit → Act → World → Prop} {op : BinOp} {t : TypeId} {x y : Nat} {w : World} (h4 : isFour op)
    (H : ∀ r n, FOp op x y r → K (a.put o.dst (.float .f64 r)) (w.drewN n)) :
    Oper.upon P o a K Q ((Sem.run P (binOp op t (.float .f64 x) (.float .f64 y)) w).andThen fun v w' => .ok (.value v) w') := by
  rw [run_float op t x y w h4]
  exact H _ _ (fnum_is op x y w)
theorem four_add : isFour .add := .inl rfl
theorem four_sub : isFour .sub := .inr (.inl rfl)
theorem four_mul : isFour .mul := .inr (.inr (.inl rfl))
theorem four_quo : isFour .quo := .inr (.inr (.inr rfl))
theorem run_store_float (P : Program) (w : World) (a : Addr) (x : Nat) (m : Mode) : (store a (.float .f64 x) m).run P w = stored P w a (.float .f64 x) m := run_store P w a _ m rfl
theorem below_four {w v : World} {b : Nat} (h : Below w.heap.size w v) (hb : w.heap.size ≤ b) (x0 x1 x2 x3 : Value) : Below w.heap.size w ((((v.setCell ⟨b, 0, none⟩ x0).setCell ⟨b, 1, none⟩ x1).setCell ⟨b, 2, none⟩ x2).setCell ⟨b, 3, none⟩ x3) :=
  (((h.setCell hb x0).setCell hb x1).setCell hb x2).setCell hb x3
theorem below_al3 (w : World) (o1 o2 o3 : Obj) : Below w.heap.size w (((w.alloc o1).alloc o2).alloc o3) := (((Below.refl w.heap.size w).alloc (Nat.le_refl _) o1).alloc (by simp) o2).alloc (by simp; omega) o3
theorem below_al2 (w : World) (o1 o2 : Obj) : Below w.heap.size w ((w.alloc o1).alloc o2) := ((Below.refl w.heap.size w).alloc (Nat.le_refl _) o1).alloc (by simp) o2
set_option maxHeartbeats 4000000 in
theorem times_any (a b c d e f g h : Nat) (w : World) : Calls Try.prog 17 #[.agg #[.float .f64 a, .float .f64 b, .float .f64 c, .float .f64 d], .agg #[.float .f64 e, .float .f64 f, .float .f64 g, .float .f64 h]] w fun x w' =>
    ∃ p q r s, x = .returned (.agg #[.float .f64 p, .float .f64 q, .float .f64 r, .float .f64 s]) ∧ Ev (tWE a b c d e f g h) p ∧ Ev (tXE a b c d e f g h) q ∧ Ev (tYE a b c d e f g h) r ∧ Ev (tZE a b c d e f g h) s ∧ Below w.heap.size w w' := by
  have hsf := run_store_float Try.prog
  go_enter Try.func17, Try.ntmps17
  iterate 28
    go_wp2_with fail
    refine upon_float (by first | exact four_mul | exact four_add | exact four_sub) ?_
    intro r n hr
  go_wp2
  simp [bodyPost, results, Try.results17, go_sem]
  refine ⟨_, _, _, _, ⟨rfl, rfl, rfl, rfl⟩, ?_, ?_, ?_, ?_, below_four (below_drewN (below_al3 w _ _ _) _) (by omega) _ _ _ _⟩
  all_goals repeat' (first | exact Ev.num _ | refine Ev.op ?_ ?_ (by assumption))
set_option maxHeartbeats 4000000 in
theorem less_any (s a b : Nat) (w : World) : Calls Try.prog 53 #[.float .f64 s, .float .f64 a, .float .f64 b] w fun e w' => ∃ r, e = .returned (.float .f64 r) ∧ (∃ p, FOp .mul a b p ∧ FOp .sub s p r) ∧ ∃ n, w' = w.drewN n := by
  go_enter Try.func53, Try.ntmps53
  go_wp2_with fail
  refine upon_float four_mul ?_
  intro p n hp
  go_wp2_with fail
  refine upon_float four_sub ?_
  intro r n2 hr
  go_wp2
  go_ret
  exact ⟨r, rfl, ⟨p, hp, hr⟩, _, rfl⟩
set_option maxHeartbeats 4000000 in
theorem timesOf_any (a b c d e f g h : Nat) (w : World) : Calls Try.prog 18 #[.agg #[.float .f64 a, .float .f64 b, .float .f64 c, .float .f64 d], .agg #[.float .f64 e, .float .f64 f, .float .f64 g, .float .f64 h]] w fun x w' =>
    ∃ p q r s, x = .returned (.agg #[.float .f64 p, .float .f64 q, .float .f64 r, .float .f64 s]) ∧ Ev (tWE a b c d e f g h) p ∧ Ev (tXE a b c d e f g h) q ∧ Ev (tYE a b c d e f g h) r ∧ Ev (tZE a b c d e f g h) s ∧ Below w.heap.size w w' := by
  have hsf := run_store_float Try.prog
  go_enter Try.func18, Try.ntmps18
  iterate 4
    go_wp2_with fail
    refine upon_float four_mul ?_
    intro r n hr
    iterate 3
      go_wp2_with fail
      first
        | (refine (less_any _ _ _ _).mono ?_; rintro x w1 ⟨r2, rfl, ⟨p, hp, hr2⟩, n2, rfl⟩)
        | (refine (plus_any _ _ _ _).mono ?_; rintro x w1 ⟨r2, rfl, ⟨p, hp, hr2⟩, n2, rfl⟩)
  go_wp2
  simp [bodyPost, results, Try.results18, go_sem]
  refine ⟨_, _, _, _, ⟨rfl, rfl, rfl, rfl⟩, ?_, ?_, ?_, ?_, below_four (below_drewN (below_al3 w _ _ _) _) (by omega) _ _ _ _⟩
  all_goals repeat' (first | exact Ev.num _ | refine Ev.op ?_ ?_ (by assumption))
set_option maxHeartbeats 4000000 in
theorem size_any (a b c d : Nat) (w : World) : Calls Try.prog 20 #[.agg #[.float .f64 a, .float .f64 b, .float .f64 c, .float .f64 d]] w fun x w' => ∃ r t, x = .returned (.float .f64 r) ∧ Ev (sqE a b c d) t ∧ FSq t r ∧ Below w.heap.size w w' := by
  go_enter Try.func20, Try.ntmps20
  iterate 7
    go_wp2_with fail
    refine upon_float (by first | exact four_mul | exact four_add | exact four_sub) ?_
    intro r n hr
  go_wp2_with fail
  refine (root_any _ _).mono ?_
  rintro x w1 ⟨r2, rfl, hr2, n2, rfl⟩
  have HR := hideR hr2
  clear hr2
  go_wp2
  go_ret
  refine ⟨r2, _, rfl, ?_, unhideR HR, below_drewN ((Below.refl w.heap.size w).alloc (Nat.le_refl _) _) _⟩
  repeat' (first | exact Ev.num _ | refine Ev.op ?_ ?_ (by assumption))
set_option maxHeartbeats 4000000 in
theorem sizeOf_any (a b c d : Nat) (w : World) : Calls Try.prog 21 #[.agg #[.float .f64 a, .float .f64 b, .float .f64 c, .float .f64 d]] w fun x w' => ∃ r t, x = .returned (.float .f64 r) ∧ Ev (sqE a b c d) t ∧ FSq t r ∧ Below w.heap.size w w' := by
  go_enter Try.func21, Try.ntmps21
  go_wp2_with fail
  refine upon_float four_mul ?_
  intro r n hr
  iterate 3
    go_wp2_with fail
    refine (plus_any _ _ _ _).mono ?_
    rintro x w1 ⟨r2, rfl, ⟨p, hp, hr2⟩, n2, rfl⟩
  go_wp2_with fail
  refine (mathSqrt_any _ _).mono ?_
  rintro x w1 ⟨r3, rfl, hr3, n3, rfl⟩
  have HR := hideR hr3
  clear hr3
  go_wp2
  go_ret
  refine ⟨r3, _, rfl, ?_, unhideR HR, below_drewN ((Below.refl w.heap.size w).alloc (Nat.le_refl _) _) _⟩
  repeat' (first | exact Ev.num _ | refine Ev.op ?_ ?_ (by assumption))
theorem isInf1_any (x : Nat) (w : World) : Calls Try.prog 67 #[.float .f64 x, .int .i64 1] w fun e w' => e = .returned (.bool (FloatKind.f64.format.order x 9218868437227405311 == some .gt)) ∧ w' = w := by
  go_enter Try.func67, Try.ntmps67
  go_wp2
  go_ret
  exact ⟨rfl, rfl⟩
theorem divides_any (x : Nat) (w : World) : Calls Try.prog 58 #[.float .f64 x] w fun e w' => e = .returned (.bool (divB x)) ∧ w' = w := by
  have hd : divB x = (FloatKind.f64.format.order x 0 == some .gt && !(FloatKind.f64.format.order x 9218868437227405311 == some .gt)) := rfl
  have hi := fun v => isInf1_any x v
  rw [hd]
  clear hd
  obtain ⟨g, hg⟩ : ∃ g, (FloatKind.f64.format.order x 0 == some .gt) = g := ⟨_, rfl⟩
  obtain ⟨m, hm⟩ : ∃ m, (FloatKind.f64.format.order x 9218868437227405311 == some .gt) = m := ⟨_, rfl⟩
  rw [hg, hm]
  rw [hm] at hi
  clear hm
  go_enter Try.func58, Try.ntmps58
  cases g
  · go_wp2
    go_ret
    exact ⟨rfl, rfl⟩
  · go_wp2_with fail
    refine (hi _).mono ?_
    rintro e w1 ⟨rfl, rfl⟩
    go_wp2
    go_ret
    exact ⟨rfl, rfl⟩
theorem none_any (w : World) : Calls Try.prog 59 #[] w fun e w' => e = .returned (.agg #[.float .f64 4607182418800017408, .float .f64 0, .float .f64 0, .float .f64 0]) ∧ Below w.heap.size w w' := by
  have hsf := run_store_float Try.prog
  go_enter Try.func59, Try.ntmps59
  go_wp2
  simp [bodyPost, results, Try.results59, go_sem]
  exact (Below.refl w.heap.size w).alloc (Nat.le_refl _) _
end Go.Proofs.Ytbobnmaeiohnnad
