/-
  The law BitsSums walked out of the contracts.
-/
import Derived.Test.YtmgnobeaacjdjacRSum8
import Derived.Test.YtmgnobeaacjdjacDSum3
namespace Go.Proofs.Ytmgnobeaacjdjac
open Go Go.RowKit

set_option maxHeartbeats 4000000 in
theorem rsum_nil (w : World) :
    Calls Try.prog 10 #[.slice none 0 0] w fun e w' => e = .returned (.float .f64 0) ∧ Below w.heap.size w w' := by
  have hmk := run_make72
  have S0 := hideE (limbs_new w 3 50)
  have B0 := hideE (((Below.refl w.heap.size w).alloc (Nat.le_refl _) (.cells zero72 3)).alloc (by simp) (.cells #[.slice (some ⟨w.heap.size, 0, none⟩) 72 72] 50))
  have hM : (0 : Int) ≤ 0 ∧ (0 : Int) ≤ 4000000000000000 := ⟨by omega, by omega⟩
  have hcap : 0 < cap34 := by decide +kernel
  have HLV := hideE (fun (v : World) (h : Limbs v (w.heap.size + 1) w.heap.size fun _ => 0) => level_any (w.heap.size + 1) w.heap.size (fun _ => 0) 0 v h hM (fun _ => ⟨by omega, by omega⟩) 0 false (by rw [iv_zero]; rfl) (by simp) hcap)
  have HR0 := hideE (show 0 = rnd 0 from (rnd_zero.2 rfl).symm)
  have ho : FloatKind.f64.format.order 0 0 = some .eq := by decide
  generalize zero72 = z72 at *
  clear hcap hM
  go_enter Try.func10, Try.ntmps10
  go_wp2
  go_loopw [3, 4, 5, 6, 8] (fun uv dv nv mv kv wl => uv = .bool false ∧ dv = .bool false ∧ nv = .bool false ∧ mv = .bool false ∧ kv = .int .i64 0 ∧ HeldE (Limbs wl (w.heap.size + 1) w.heap.size fun _ => 0) ∧ HeldE (Below w.heap.size w wl)) (fun _ _ _ _ _ _ => 0)
  case atStart => exact ⟨rfl, rfl, rfl, rfl, rfl, S0, B0⟩
  case round =>
    clear S0 B0 hmk
    obtain ⟨rfl, rfl, rfl, rfl, rfl, HL, HW⟩ := hrel
    go_wp2_with fail
    refine (unhideE HLV _ (unhideE HL)).mono ?_
    rintro e w2 ⟨rfl, d, hLd, hd, hLv, hO⟩
    have HRR := hideE (rrounded_any _ _ d w2 0 0 hLd hd hLv (unhideE HR0))
    have HW2 := hideE ((unhideE HW).trans (hO.below (Nat.le_refl _)))
    clear hLd hd hLv hO HLV HW HL HR0
    go_wp2_with fail
    refine (unhideE HRR).mono ?_
    rintro e w3 ⟨rfl, n3, rfl⟩
    clear HRR
    go_wp2
    go_ret
    exact ⟨rfl, below_drewN (unhideE HW2) _⟩
theorem first_two : sumV [4607182418800017408, 4611686018427387904] = 4613937818241073152 := by decide +kernel
theorem same_num {r q : Nat} (h : FSame r q) (hq : isN q = false) : r = q := by
  rcases h with h | ⟨_, h⟩
  · exact h
  · rw [nan_iff.1 h] at hq; cases hq
theorem sum_head (w : World) : Calls Try.prog 8 #[.slice (some ⟨w.heap.size, 0, none⟩) 2 2] (w.alloc (.cells #[.float .f64 4607182418800017408, .float .f64 4611686018427387904] 23)) fun e w' => e = .returned (.float .f64 4613937818241073152) ∧ Below w.heap.size w w' := by
  have hrow : FloatRow (w.alloc (.cells #[.float .f64 4607182418800017408, .float .f64 4611686018427387904] 23)) w.heap.size 0 [4607182418800017408, 4611686018427387904] := by
    intro j hj
    have hj : j = 0 ∨ j = 1 := by simp at hj; omega
    rcases hj with rfl | rfl <;> simp [go_sem]
  refine (dsum_any w.heap.size 0 2 _ _ hrow (by decide) (by decide) (by simp)).mono ?_
  rintro e w1 ⟨r, rfl, hr, b1⟩
  rw [first_two] at hr
  obtain rfl := same_num hr (by decide)
  have B0 := (Below.refl w.heap.size w).alloc (Nat.le_refl _) (.cells #[.float .f64 4607182418800017408, .float .f64 4611686018427387904] 23)
  exact ⟨rfl, B0.trans (b1.mono B0.size)⟩
set_option maxHeartbeats 4000000 in
theorem sums_out (a : Option Addr) (n cap : Nat) (w : World) (h : 300 < n) (hn : n ≤ 9223372036854775807) :
    Calls Try.prog 3 #[.slice a n cap] w fun e w' => e = .returned (.bool true) ∧ Below w.heap.size w w' := by
  have ho1 : FloatKind.f64.format.order 4613937818241073152 4613937818241073152 = some .eq := by decide +kernel
  have C0 := hideE (sum_head w)
  go_enter Try.func3, Try.ntmps3
  go_wp2_with fail
  refine (unhideE C0).mono ?_
  rintro e w1 ⟨rfl, b1⟩
  go_wp2
  go_ret
  exact ⟨rfl, b1⟩
theorem fsame_true {x y : Nat} (w : World) (h : FSame x y) : Calls Try.prog 9 #[.float .f64 x, .float .f64 y] w fun e w' => e = .returned (.bool true) ∧ w' = w := (same_iff.2 h) ▸ sameBits_any x y w
set_option maxHeartbeats 4000000 in
theorem sums_in (a : Option Addr) (n cap : Nat) (l : List Nat) (w : World) (hn : n ≤ 300)
    (h1 : ∀ v, Below w.heap.size w v → Calls Try.prog 8 #[.slice a n cap] v fun e w' => ∃ r, e = .returned (.float .f64 r) ∧ FSame r (sumV l) ∧ Below v.heap.size v w')
    (h2 : ∀ v, Below w.heap.size w v → Calls Try.prog 10 #[.slice a n cap] v fun e w' => ∃ r, e = .returned (.float .f64 r) ∧ FSame r (sumV l) ∧ Below v.heap.size v w') :
    Calls Try.prog 3 #[.slice a n cap] w fun e w' => e = .returned (.bool true) ∧ Below w.heap.size w w' := by
  have ho1 : FloatKind.f64.format.order 4613937818241073152 4613937818241073152 = some .eq := by decide +kernel
  have C0 := hideE (sum_head w)
  have C1 := hideE h1
  have C2 := hideE h2
  clear h1 h2
  generalize sumV l = s at *
  go_enter Try.func3, Try.ntmps3
  go_wp2_with fail
  refine (unhideE C0).mono ?_
  rintro e w1 ⟨rfl, b1⟩
  clear C0
  have B1 := hideE b1
  clear b1
  go_wp2_with fail
  refine (unhideE C1 _ (unhideE B1)).mono ?_
  rintro e w2 ⟨r1, rfl, f1, b2⟩
  have B2 := hideE ((unhideE B1).trans (b2.mono (unhideE B1).size))
  have F1 := hideE f1
  clear b2 f1 B1 C1
  go_wp2_with fail
  refine (unhideE C2 _ (unhideE B2)).mono ?_
  rintro e w3 ⟨r2, rfl, f2, b3⟩
  have B3 := hideE ((unhideE B2).trans (b3.mono (unhideE B2).size))
  have F2 := hideE ((unhideE F1).trans f2.symm)
  clear b3 f2 B2 C2 F1
  go_wp2_with fail
  refine (fsame_true _ (unhideE F2)).mono ?_
  rintro e w4 ⟨rfl, rfl⟩
  go_wp2
  go_ret
  exact ⟨rfl, unhideE B3⟩
end Go.Proofs.Ytmgnobeaacjdjac
