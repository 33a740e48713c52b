/-
  Numbers of two words compared: the program's, by contract.
-/
import Derived.Test.YtkdmeclbnnjdgalDoorWdC
import Derived.Deep.CutRange
import Derived.Deep.QuietTactic
namespace Go.Proofs.YtkdmeclbnnjdgalDoor
open Go Go.RowKit

def Sl2W (v : Value) : Prop := ∃ g : Nat, v = .slice (some ⟨g, 0, none⟩) 2 2
def TwoI (x y : Int) (v : Value) (w : World) : Prop := ∀ g : Nat, v = .slice (some ⟨g, 0, none⟩) 2 2 → w.heap[g]? = some (.cells #[.int .i64 x, .int .i64 y] 3)
theorem twoI_stb (x y : Int) (v : Value) : Stb (TwoI x y v) := fun _ _ h k g q => keepB (h g q) k
theorem two_allocW (w : World) (o1 o2 : Obj) : ((w.alloc o1).alloc o2).heap[w.heap.size]? = some o1 ∧ ((w.alloc o1).alloc o2).heap[w.heap.size + 1]? = some o2 ∧ Below w.heap.size w ((w.alloc o1).alloc o2) := by
  have h := alloc_last (w.alloc o1) o2
  rw [World.size_alloc] at h
  exact ⟨keepA (alloc_last w o1), h, below_go (below_a w o1) (below_a _ o2)⟩
set_option maxRecDepth 100000 in
set_option maxHeartbeats 1600000 in
theorem wcmp_any (m n : Nat) (w : World) : Calls Tryd.prog 92 #[wdV m, wdV n] w fun e w' => e = .returned (.int .i64 (cmpN m n)) ∧ Below w.heap.size w w' := by
  have HC := hideR (cmpN_or m n)
  unfold wdV
  generalize m / 18446744073709551616 = a at *
  generalize m % 18446744073709551616 = b at *
  generalize n / 18446744073709551616 = c at *
  generalize n % 18446744073709551616 = d at *
  generalize cmpN m n = R at *
  obtain ⟨z1, z2, hbw⟩ := two_allocW w (.cells #[.int .u64 (a : Nat), .int .u64 (b : Nat)] 157) (.cells #[.int .u64 (c : Nat), .int .u64 (d : Nat)] 157)
  have HB := hideR hbw
  clear hbw
  go_enter Tryd.func92, Tryd.ntmps92
  go_upto_region 1 with fail
  generalize (w.alloc (.cells #[.int .u64 (a : Nat), .int .u64 (b : Nat)] 157)).alloc (.cells #[.int .u64 (c : Nat), .int .u64 (d : Nat)] 157) = u0 at *
  obtain ⟨K, hK⟩ : ∃ K, w.heap.size = K := ⟨_, rfl⟩
  have HK := hideR hK
  rw [hK] at z1 z2 ⊢
  clear hK
  refine wp_region_made 0 #[true, true, true, true, true, true, true, true, true, true, true, true, false] [.lets (· = .pointer (some ⟨K, 0, none⟩)),
    .lets (· = .int .u64 (a : Nat)),
    .lets (· = .pointer (some ⟨K + 1, 0, none⟩)),
    .lets (· = .int .u64 (c : Nat)),
    .lets (· = .int .i64 (cmpN a c)),
    .lets (· = .pointer (some ⟨K, 1, none⟩)),
    .lets (· = .int .u64 (b : Nat)),
    .lets (· = .pointer (some ⟨K + 1, 1, none⟩)),
    .lets (· = .int .u64 (d : Nat)),
    .lets (· = .int .i64 (cmpN b d)),
    .made Sl2W (TwoI (cmpN a c) (cmpN b d)),
    .uses (· = .int .i64 (or2 (cmpN a c) (cmpN b d)))] [10] [11] (by kernel_rfl) (by kernel_rfl) rfl ?kinds (by kernel_rfl) (by kernel_rfl) (by kernel_rfl) ?_
  case kinds =>
    constructor
    · intro i h
      rcases i with _ | _ | _ | _ | _ | _ | _ | _ | _ | _ | _ | _ | i <;> simp [Kx.isMade] at h ⊢
    · intro i h
      rcases i with _ | _ | _ | _ | _ | _ | _ | _ | _ | _ | _ | _ | i <;> simp [Kx.isUse] at h ⊢
  refine lexX_step (fun K hK => ⟨by kernel_rfl, ⟨_, rfl⟩, fun v hv => ?_, fun v hv => ?_⟩)
  · go_simp
    exact mUpon_b
  subst hv
  go_simp
  refine hK _ ?_
  clear hK K
  refine lexX_step (fun K hK => ⟨by kernel_rfl, ⟨_, rfl⟩, fun v hv => ?_, fun v hv => ?_⟩)
  · have y := (cells_at (keepB z1 hv) 0 (by simp)).1
    go_simp
    exact mUpon_b
  subst hv
  go_simp
  refine hK _ ?_
  clear hK K
  refine lexX_step (fun K hK => ⟨by kernel_rfl, ⟨_, rfl⟩, fun v hv => ?_, fun v hv => ?_⟩)
  · go_simp
    exact mUpon_b
  subst hv
  go_simp
  refine hK _ ?_
  clear hK K
  refine lexX_step (fun K hK => ⟨by kernel_rfl, ⟨_, rfl⟩, fun v hv => ?_, fun v hv => ?_⟩)
  · have y := (cells_at (keepB z2 hv) 0 (by simp)).1
    go_simp
    exact mUpon_b
  subst hv
  go_simp
  refine hK _ ?_
  clear hK K
  refine lexX_step (fun K hK => ⟨by kernel_rfl, ⟨_, rfl⟩, fun v hv => ?_, fun v hv => ?_⟩)
  · go_simp
    refine (compareU_any a c v).mono ?_
    rintro e w9 ⟨rfl, rfl⟩
    exact ⟨_, rfl, rfl, Below.refl _ _⟩
  subst hv
  go_simp
  refine hK _ ?_
  clear hK K
  refine lexX_step (fun K hK => ⟨by kernel_rfl, ⟨_, rfl⟩, fun v hv => ?_, fun v hv => ?_⟩)
  · go_simp
    exact mUpon_b
  subst hv
  go_simp
  refine hK _ ?_
  clear hK K
  refine lexX_step (fun K hK => ⟨by kernel_rfl, ⟨_, rfl⟩, fun v hv => ?_, fun v hv => ?_⟩)
  · have y := (cells_at (keepB z1 hv) 1 (by simp)).1
    go_simp
    exact mUpon_b
  subst hv
  go_simp
  refine hK _ ?_
  clear hK K
  refine lexX_step (fun K hK => ⟨by kernel_rfl, ⟨_, rfl⟩, fun v hv => ?_, fun v hv => ?_⟩)
  · go_simp
    exact mUpon_b
  subst hv
  go_simp
  refine hK _ ?_
  clear hK K
  refine lexX_step (fun K hK => ⟨by kernel_rfl, ⟨_, rfl⟩, fun v hv => ?_, fun v hv => ?_⟩)
  · have y := (cells_at (keepB z2 hv) 1 (by simp)).1
    go_simp
    exact mUpon_b
  subst hv
  go_simp
  refine hK _ ?_
  clear hK K
  refine lexX_step (fun K hK => ⟨by kernel_rfl, ⟨_, rfl⟩, fun v hv => ?_, fun v hv => ?_⟩)
  · go_simp
    refine (compareU_any b d v).mono ?_
    rintro e w9 ⟨rfl, rfl⟩
    exact ⟨_, rfl, rfl, Below.refl _ _⟩
  subst hv
  go_simp
  refine hK _ ?_
  clear hK K
  refine lexX_made ⟨by kernel_rfl, ⟨_, 0, rfl⟩, twoI_stb _ _, fun v hv => ?_, ?_⟩
  · go_simp
    exact ⟨below_a v _, ⟨_, rfl⟩, fun q hq => by cases hq; exact alloc_last v _⟩
  rintro _ ⟨u9, rfl⟩ K9 hK
  go_simp
  refine hK _ ?_
  clear hK K9
  refine lexX_uses (fun K9 hK => ⟨by kernel_rfl, ⟨_, rfl⟩, fun v hv hγ => ?_, fun v hv => ?_⟩)
  · go_simp
    refine (or2_any _ _ (hγ.2 _ rfl)).mono ?_
    rintro e w9 ⟨rfl, rfl⟩
    exact ⟨_, rfl, rfl, Below.refl _ _⟩
  subst hv
  go_simp
  refine hK _ ?_
  clear hK K9
  refine lexX_end (fun v5 hv => ?_)
  replace HB := hideR (below_go (unhideR HB) hv.low)
  clear hv z1 z2
  refine wpAny_step (i := 12) (by kernel_rfl) rfl (by kernel_rfl) (fun K hK => ?_)
  unfold Oper.wp
  go_simp
  refine hK _ _ ?_
  clear hK K
  refine wpAny_end (by kernel_rfl) ?_
  go_wp2
  go_ret
  exact ⟨congrArg (fun z => Ending.returned (.int .i64 z)) (unhideR HC), unhideR HB⟩
end Go.Proofs.YtkdmeclbnnjdgalDoor
