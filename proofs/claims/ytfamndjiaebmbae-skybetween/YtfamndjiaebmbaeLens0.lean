/-
  Roots and lengths: the document's, by their contracts.
-/
import Derived.Test.YtfamndjiaebmbaeBits1
import Derived.Test.YtfamndjiaebmbaeLensS
namespace Go.Proofs.Ytfamndjiaebmbae
open Go Go.RowKit

set_option maxHeartbeats 2000000 in
theorem lengthOf_any (x y z : Nat) (w : World) : Calls Try.prog 38 #[.agg #[.float .f64 x, .float .f64 y, .float .f64 z]] w fun e w' => ∃ r t, e = .returned (.float .f64 r) ∧ Ev (lenE x y z) t ∧ FSq t r ∧ Below w.heap.size w w' := by
  have hm := fun t x y v => run_fmul (P := Try.prog) t x y v
  have hp := fun t x y v => run_fadd (P := Try.prog) t x y v
  have HB : HeldR (∀ o, Below w.heap.size w (w.alloc o)) := fun o => (Below.refl w.heap.size w).alloc (Nat.le_refl _) o
  go_enter Try.func38, Try.ntmps38
  go_wp2_with fail
  refine wp_region_lets [(· = .pointer (some ⟨w.heap.size, 0, none⟩)), (· = .float .f64 x), (· = .pointer (some ⟨w.heap.size, 0, none⟩)), (· = .float .f64 x), FSet (.op .mul (.num x) (.num x)),
    (· = .pointer (some ⟨w.heap.size, 1, none⟩)), (· = .float .f64 y), (· = .pointer (some ⟨w.heap.size, 1, none⟩)), (· = .float .f64 y), FSet (.op .add (.op .mul (.num x) (.num x)) (.op .mul (.num y) (.num y))),
    (· = .pointer (some ⟨w.heap.size, 2, none⟩)), (· = .float .f64 z), (· = .pointer (some ⟨w.heap.size, 2, none⟩)), (· = .float .f64 z), FSet (lenE x y z), QSet (lenE x y z), QSet (lenE x y z)] (by kernel_rfl) (by kernel_rfl) ?_
  iterate 4
    refine lexL_step (fun K hK => ⟨by kernel_rfl, ⟨_, rfl⟩, fun n => ?_, fun v hv => ?_⟩)
    · go_simp
      exact lUpon_one
    subst hv
    go_simp
    refine hK _ ?_
    clear hK K
  refine lexL_step (fun K hK => ⟨by kernel_rfl, fset_some _, fun n => ?_, fun v hv => ?_⟩)
  · go_simp
    exact ⟨⟨_, rfl⟩, _, rfl, .op (.num _) (.num _) (fnum_is _ _ _ _)⟩
  obtain ⟨r1, rfl, e1⟩ := hv
  go_simp
  refine hK _ ?_
  clear hK K
  have E1 := hideR e1
  clear e1
  iterate 4
    refine lexL_step (fun K hK => ⟨by kernel_rfl, ⟨_, rfl⟩, fun n => ?_, fun v hv => ?_⟩)
    · go_simp
      exact lUpon_one
    subst hv
    go_simp
    refine hK _ ?_
    clear hK K
  refine lexL_step (fun K hK => ⟨by kernel_rfl, fset_some _, fun n => ?_, fun v hv => ?_⟩)
  · go_simp
    refine (plus_any _ _ _ _).mono ?_
    rintro e w1 ⟨r, rfl, ⟨p, h1, k1⟩, m, rfl⟩
    exact ⟨_, rfl, ⟨r, rfl, .op (unhideR E1) (.op (.num _) (.num _) h1) k1⟩, _, by rw [World.drewN_drewN]⟩
  obtain ⟨r2, rfl, e2⟩ := hv
  go_simp
  refine hK _ ?_
  clear hK K
  have E2 := hideR e2
  clear e2
  iterate 4
    refine lexL_step (fun K hK => ⟨by kernel_rfl, ⟨_, rfl⟩, fun n => ?_, fun v hv => ?_⟩)
    · go_simp
      exact lUpon_one
    subst hv
    go_simp
    refine hK _ ?_
    clear hK K
  refine lexL_step (fun K hK => ⟨by kernel_rfl, fset_some _, fun n => ?_, fun v hv => ?_⟩)
  · go_simp
    refine (plus_any _ _ _ _).mono ?_
    rintro e w1 ⟨r, rfl, ⟨p, h1, k1⟩, m, rfl⟩
    exact ⟨_, rfl, ⟨r, rfl, .op (unhideR E2) (.op (.num _) (.num _) h1) k1⟩, _, by rw [World.drewN_drewN]⟩
  obtain ⟨r3, rfl, e3⟩ := hv
  go_simp
  refine hK _ ?_
  clear hK K
  have E3 := hideR e3
  clear e3
  refine lexL_step (fun K hK => ⟨by kernel_rfl, qset_some _, fun n => ?_, fun v hv => ?_⟩)
  · go_simp
    refine (mathSqrt_any _ _).mono ?_
    rintro e w1 ⟨r, rfl, h1, m, rfl⟩
    exact ⟨_, rfl, ⟨r, r3, rfl, unhideR E3, h1⟩, _, by rw [World.drewN_drewN]⟩
  obtain ⟨r4, t4, rfl, e4⟩ := hv
  go_simp
  refine hK _ ?_
  clear hK K
  have E4 := hideR e4
  clear e4
  refine lexL_step (fun K hK => ⟨by kernel_rfl, qset_some _, fun n => ?_, fun v hv => ?_⟩)
  · go_simp
    exact ⟨⟨_, rfl⟩, r4, t4, rfl, (unhideR E4).1, (unhideR E4).2⟩
  obtain ⟨r5, t5, rfl, e5⟩ := hv
  go_simp
  refine hK _ ?_
  clear hK K
  have E5 := hideR e5
  clear e5
  refine lexL_end ?_
  intro nq
  go_wp2
  go_ret
  exact ⟨r5, t5, rfl, (unhideR E5).1, (unhideR E5).2, below_drewN (unhideR HB _) _⟩
end Go.Proofs.Ytfamndjiaebmbae
