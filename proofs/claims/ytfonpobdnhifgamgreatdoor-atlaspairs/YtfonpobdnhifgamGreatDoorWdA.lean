/-
  Numbers of two words: the program's product, by contract. Numbers of two words: the program's comparison, by contract. Numbers of two words compared: the program's, by contract. Numbers of two words: times, plus: the program's, by contract.
-/
import Derived.Test.YtfonpobdnhifgamGreatDoorDivA
import Derived.Test.YtfonpobdnhifgamGreatDoorLooseA
import Derived.Deep.CutRange
import Derived.Deep.QuietTactic
namespace Go.Proofs.YtfonpobdnhifgamGreatDoor
open Go Go.RowKit

/-- a number of two words. -/
def wdV (n : Nat) : Value := .agg #[.int .u64 ((n / 18446744073709551616 : Nat) : Int), .int .u64 ((n % 18446744073709551616 : Nat) : Int)]
theorem conv_u64 {a : Nat} (h : a < 9223372036854775808) : IntKind.u64.wrap (a : Int) = (a : Int) := wrapU (by omega)
set_option maxRecDepth 100000 in
set_option maxHeartbeats 1600000 in
theorem wprod_any (a b : Nat) (w : World) (ha : a < 9223372036854775808) (hb : b < 9223372036854775808) :
    Calls Tryz.prog 60 #[.int .i64 (a : Nat), .int .i64 (b : Nat)] w fun e w' => e = .returned (wdV (a * b)) ∧ Below w.heap.size w w' := by
  unfold wdV
  have ea := conv_u64 ha
  have eb := conv_u64 hb
  have hm := fun u => mul64_any a b (by omega) (by omega) u
  generalize ((a * b / 18446744073709551616 : Nat) : Int) = h at *
  generalize ((a * b % 18446744073709551616 : Nat) : Int) = l at *
  go_enter Tryz.func60, Tryz.ntmps60
  go_wp2_with fail
  refine (hm _).mono ?_
  rintro e w2 ⟨rfl, rfl⟩
  clear hm ea eb
  go_wp2
  simp [bodyPost, results, Tryz.results60, go_sem]
  exact below_a w _
end Go.Proofs.YtfonpobdnhifgamGreatDoor
namespace Go.Proofs.YtfonpobdnhifgamGreatDoor
open Go Go.RowKit

def cmpN (x y : Nat) : Int := if x < y then -1 else if y < x then 1 else 0
theorem isNaNU_any (x : Nat) (w : World) : Calls Tryz.prog 123 #[.int .u64 (x : Nat)] w fun e w' => e = .returned (.bool false) ∧ w' = w := by
  go_enter Tryz.func123, Tryz.ntmps123
  go_wp2
  go_ret
  exact ⟨rfl, rfl⟩
set_option maxHeartbeats 800000 in
theorem compareU_any (x y : Nat) (w : World) : Calls Tryz.prog 102 #[.int .u64 (x : Nat), .int .u64 (y : Nat)] w fun e w' => e = .returned (.int .i64 (cmpN x y)) ∧ w' = w := by
  unfold cmpN
  by_cases h1 : x < y
  · rw [if_pos h1]
    go_enter Tryz.func102, Tryz.ntmps102
    go_wp2_with (go_at_call 123; refine (isNaNU_any _ _).mono ?_; rintro e w' ⟨rfl, rfl⟩)
    all_goals
      go_ret
      exact ⟨rfl, rfl⟩
  · rw [if_neg h1]
    by_cases h2 : y < x
    · rw [if_pos h2]
      go_enter Tryz.func102, Tryz.ntmps102
      go_wp2_with (go_at_call 123; refine (isNaNU_any _ _).mono ?_; rintro e w' ⟨rfl, rfl⟩)
      all_goals
        go_ret
        exact ⟨rfl, rfl⟩
    · rw [if_neg h2]
      go_enter Tryz.func102, Tryz.ntmps102
      go_wp2_with (go_at_call 123; refine (isNaNU_any _ _).mono ?_; rintro e w' ⟨rfl, rfl⟩)
      all_goals
        go_ret
        exact ⟨rfl, rfl⟩
def or2 (x y : Int) : Int := if x = 0 then y else x
set_option maxRecDepth 100000 in
set_option maxHeartbeats 800000 in
theorem or2_any (x y : Int) {b : Nat} {w : World} (h : w.heap[b]? = some (.cells #[.int .i64 x, .int .i64 y] 3)) : Calls Tryz.prog 101 #[.slice (some ⟨b, 0, none⟩) 2 2] w fun e w' => e = .returned (.int .i64 (or2 x y)) ∧ w' = w := by
  obtain ⟨R, HR⟩ : ∃ R, HeldR (or2 x y = R) := ⟨_, hideR rfl⟩
  rw [unhideR HR]
  have c0 := (cells_at h 0 (by simp)).1
  have c1 := (cells_at h 1 (by simp)).1
  clear h
  go_enter Tryz.func101, Tryz.ntmps101
  go_wp2
  go_loop [8] (fun kv => (kv = .int .i64 0) ∨ (kv = .int .i64 1 ∧ HeldR (x = 0)) ∨ (kv = .int .i64 2 ∧ HeldR (x = 0) ∧ HeldR (y = 0))) (fun kv => 3 - (intOf kv).toNat)
  case atStart => exact .inl rfl
  case round =>
    rcases hrel with rfl | ⟨rfl, h0⟩ | ⟨rfl, h0, h1⟩
    · by_cases hx : x = 0
      · have tx : (x == 0) = true := by simp [hx]
        go_wp2
        exact ⟨.inr (.inl ⟨rfl, hideR hx⟩), by simp [intOf]⟩
      · have tx : (x == 0) = false := by simp [hx]
        have e3 := unhideR HR
        unfold or2 at e3
        rw [if_neg hx] at e3
        subst e3
        clear HR
        go_wp2
        go_ret
        exact ⟨rfl, rfl⟩
    · by_cases hx : y = 0
      · have tx : (y == 0) = true := by simp [hx]
        go_wp2
        exact ⟨.inr (.inr ⟨rfl, h0, hideR hx⟩), by simp [intOf]⟩
      · have tx : (y == 0) = false := by simp [hx]
        have e3 := unhideR HR
        unfold or2 at e3
        rw [if_pos (unhideR h0)] at e3
        subst e3
        clear HR
        go_wp2
        go_ret
        exact ⟨rfl, rfl⟩
    · have e3 := unhideR HR
      unfold or2 at e3
      rw [if_pos (unhideR h0), unhideR h1] at e3
      subst e3
      clear HR
      go_wp2
      go_ret
      exact ⟨rfl, rfl⟩
theorem cmpN_or (m n : Nat) : or2 (cmpN (m / 18446744073709551616) (n / 18446744073709551616)) (cmpN (m % 18446744073709551616) (n % 18446744073709551616)) = cmpN m n := by
  unfold or2 cmpN
  split
  · rename_i h
    split <;> split <;> (try split) <;> (try split at h) <;> omega
  · rename_i h
    split <;> (try split) <;> (try split) <;> (try split) <;> omega
end Go.Proofs.YtfonpobdnhifgamGreatDoor
namespace Go.Proofs.YtfonpobdnhifgamGreatDoor
open Go Go.RowKit

def Sl2W (v : Value) : Prop := ∃ g : Nat, v = .slice (some ⟨g, 0, none⟩) 2 2
def TwoI (x y : Int) (v : Value) (w : World) : Prop := ∀ g : Nat, v = .slice (some ⟨g, 0, none⟩) 2 2 → w.heap[g]? = some (.cells #[.int .i64 x, .int .i64 y] 3)
theorem twoI_stb (x y : Int) (v : Value) : Stb (TwoI x y v) := fun _ _ h k g q => keepB (h g q) k
theorem two_allocW (w : World) (o1 o2 : Obj) : ((w.alloc o1).alloc o2).heap[w.heap.size]? = some o1 ∧ ((w.alloc o1).alloc o2).heap[w.heap.size + 1]? = some o2 ∧ Below w.heap.size w ((w.alloc o1).alloc o2) := by
  have h := alloc_last (w.alloc o1) o2
  rw [World.size_alloc] at h
  exact ⟨keepA (alloc_last w o1), h, below_go (below_a w o1) (below_a _ o2)⟩
set_option maxRecDepth 100000 in
set_option maxHeartbeats 1600000 in
theorem wcmp_any (m n : Nat) (w : World) : Calls Tryz.prog 70 #[wdV m, wdV n] w fun e w' => e = .returned (.int .i64 (cmpN m n)) ∧ Below w.heap.size w w' := by
  have HC := hideR (cmpN_or m n)
  unfold wdV
  generalize m / 18446744073709551616 = a at *
  generalize m % 18446744073709551616 = b at *
  generalize n / 18446744073709551616 = c at *
  generalize n % 18446744073709551616 = d at *
  generalize cmpN m n = R at *
  obtain ⟨z1, z2, hbw⟩ := two_allocW w (.cells #[.int .u64 (a : Nat), .int .u64 (b : Nat)] 74) (.cells #[.int .u64 (c : Nat), .int .u64 (d : Nat)] 74)
  have HB := hideR hbw
  clear hbw
  go_enter Tryz.func70, Tryz.ntmps70
  go_upto_region 1 with fail
  generalize (w.alloc (.cells #[.int .u64 (a : Nat), .int .u64 (b : Nat)] 74)).alloc (.cells #[.int .u64 (c : Nat), .int .u64 (d : Nat)] 74) = u0 at *
  obtain ⟨K, hK⟩ : ∃ K, w.heap.size = K := ⟨_, rfl⟩
  have HK := hideR hK
  rw [hK] at z1 z2 ⊢
  clear hK
  refine wp_region_made 0 #[true, true, true, true, true, true, true, true, true, true, true, true, false] [.lets (· = .pointer (some ⟨K, 0, none⟩)),
    .lets (· = .int .u64 (a : Nat)),
    .lets (· = .pointer (some ⟨K + 1, 0, none⟩)),
    .lets (· = .int .u64 (c : Nat)),
    .lets (· = .int .i64 (cmpN a c)),
    .lets (· = .pointer (some ⟨K, 1, none⟩)),
    .lets (· = .int .u64 (b : Nat)),
    .lets (· = .pointer (some ⟨K + 1, 1, none⟩)),
    .lets (· = .int .u64 (d : Nat)),
    .lets (· = .int .i64 (cmpN b d)),
    .made Sl2W (TwoI (cmpN a c) (cmpN b d)),
    .uses (· = .int .i64 (or2 (cmpN a c) (cmpN b d)))] [10] [11] (by kernel_rfl) (by kernel_rfl) rfl ?kinds (by kernel_rfl) (by kernel_rfl) (by kernel_rfl) ?_
  case kinds =>
    constructor
    · intro i h
      rcases i with _ | _ | _ | _ | _ | _ | _ | _ | _ | _ | _ | _ | i <;> simp [Kx.isMade] at h ⊢
    · intro i h
      rcases i with _ | _ | _ | _ | _ | _ | _ | _ | _ | _ | _ | _ | i <;> simp [Kx.isUse] at h ⊢
  refine lexX_step (fun K hK => ⟨by kernel_rfl, ⟨_, rfl⟩, fun v hv => ?_, fun v hv => ?_⟩)
  · go_simp
    exact mUpon_b
  subst hv
  go_simp
  refine hK _ ?_
  clear hK K
  refine lexX_step (fun K hK => ⟨by kernel_rfl, ⟨_, rfl⟩, fun v hv => ?_, fun v hv => ?_⟩)
  · have y := (cells_at (keepB z1 hv) 0 (by simp)).1
    go_simp
    exact mUpon_b
  subst hv
  go_simp
  refine hK _ ?_
  clear hK K
  refine lexX_step (fun K hK => ⟨by kernel_rfl, ⟨_, rfl⟩, fun v hv => ?_, fun v hv => ?_⟩)
  · go_simp
    exact mUpon_b
  subst hv
  go_simp
  refine hK _ ?_
  clear hK K
  refine lexX_step (fun K hK => ⟨by kernel_rfl, ⟨_, rfl⟩, fun v hv => ?_, fun v hv => ?_⟩)
  · have y := (cells_at (keepB z2 hv) 0 (by simp)).1
    go_simp
    exact mUpon_b
  subst hv
  go_simp
  refine hK _ ?_
  clear hK K
  refine lexX_step (fun K hK => ⟨by kernel_rfl, ⟨_, rfl⟩, fun v hv => ?_, fun v hv => ?_⟩)
  · go_simp
    refine (compareU_any a c v).mono ?_
    rintro e w9 ⟨rfl, rfl⟩
    exact ⟨_, rfl, rfl, Below.refl _ _⟩
  subst hv
  go_simp
  refine hK _ ?_
  clear hK K
  refine lexX_step (fun K hK => ⟨by kernel_rfl, ⟨_, rfl⟩, fun v hv => ?_, fun v hv => ?_⟩)
  · go_simp
    exact mUpon_b
  subst hv
  go_simp
  refine hK _ ?_
  clear hK K
  refine lexX_step (fun K hK => ⟨by kernel_rfl, ⟨_, rfl⟩, fun v hv => ?_, fun v hv => ?_⟩)
  · have y := (cells_at (keepB z1 hv) 1 (by simp)).1
    go_simp
    exact mUpon_b
  subst hv
  go_simp
  refine hK _ ?_
  clear hK K
  refine lexX_step (fun K hK => ⟨by kernel_rfl, ⟨_, rfl⟩, fun v hv => ?_, fun v hv => ?_⟩)
  · go_simp
    exact mUpon_b
  subst hv
  go_simp
  refine hK _ ?_
  clear hK K
  refine lexX_step (fun K hK => ⟨by kernel_rfl, ⟨_, rfl⟩, fun v hv => ?_, fun v hv => ?_⟩)
  · have y := (cells_at (keepB z2 hv) 1 (by simp)).1
    go_simp
    exact mUpon_b
  subst hv
  go_simp
  refine hK _ ?_
  clear hK K
  refine lexX_step (fun K hK => ⟨by kernel_rfl, ⟨_, rfl⟩, fun v hv => ?_, fun v hv => ?_⟩)
  · go_simp
    refine (compareU_any b d v).mono ?_
    rintro e w9 ⟨rfl, rfl⟩
    exact ⟨_, rfl, rfl, Below.refl _ _⟩
  subst hv
  go_simp
  refine hK _ ?_
  clear hK K
  refine lexX_made ⟨by kernel_rfl, ⟨_, 0, rfl⟩, twoI_stb _ _, fun v hv => ?_, ?_⟩
  · go_simp
    exact ⟨below_a v _, ⟨_, rfl⟩, fun q hq => by cases hq; exact alloc_last v _⟩
  rintro _ ⟨u9, rfl⟩ K9 hK
  go_simp
  refine hK _ ?_
  clear hK K9
  refine lexX_uses (fun K9 hK => ⟨by kernel_rfl, ⟨_, rfl⟩, fun v hv hγ => ?_, fun v hv => ?_⟩)
  · go_simp
    refine (or2_any _ _ (hγ.2 _ rfl)).mono ?_
    rintro e w9 ⟨rfl, rfl⟩
    exact ⟨_, rfl, rfl, Below.refl _ _⟩
  subst hv
  go_simp
  refine hK _ ?_
  clear hK K9
  refine lexX_end (fun v5 hv => ?_)
  replace HB := hideR (below_go (unhideR HB) hv.low)
  clear hv z1 z2
  refine wpAny_step (i := 12) (by kernel_rfl) rfl (by kernel_rfl) (fun K hK => ?_)
  unfold Oper.wp
  go_simp
  refine hK _ _ ?_
  clear hK K
  refine wpAny_end (by kernel_rfl) ?_
  go_wp2
  go_ret
  exact ⟨congrArg (fun z => Ending.returned (.int .i64 z)) (unhideR HC), unhideR HB⟩
end Go.Proofs.YtfonpobdnhifgamGreatDoor
namespace Go.Proofs.YtfonpobdnhifgamGreatDoor
open Go Go.RowKit

theorem run_add64 (x y c : Nat) (hc : c ≤ 1) (w : World) : (callFunc 143 #[.int .u64 x, .int .u64 y, .int .u64 c]).run Tryz.prog w = .ok (.value (.tuple #[.int .u64 ((x + y + c) % 18446744073709551616 : Nat), .int .u64 ((x + y + c) / 18446744073709551616 : Nat)])) w := by
  rw [run_callFunc_extern (e := fun args => do
    let (x, y, c) ← Extern.MathBitsCarry.three "Add64" args
    pure (Extern.MathBitsCarry.pair ((x + y + c) % Extern.MathBitsCarry.m64) ((x + y + c) / Extern.MathBitsCarry.m64))) Tryz.func143 (by kernel_rfl) (by kernel_rfl) (by kernel_rfl) (by kernel_rfl)]
  have h : (Extern.MathBitsCarry.three "Add64" #[.int .u64 x, .int .u64 y, .int .u64 c]).run Tryz.prog w = .ok (x, y, c) w := by
    rcases (show c = 0 ∨ c = 1 by omega) with rfl | rfl
    · rfl
    · rfl
  simp only [Sem.run_bind, h, Result.andThen, Sem.run_pure]
  rfl
theorem wd_times {a b n : Nat} (_h : (a * 18446744073709551616 + b) * n < 340282366920938463463374607431768211456) : (a * 18446744073709551616 + b) * n / 18446744073709551616 = b * n / 18446744073709551616 + a * n ∧ (a * 18446744073709551616 + b) * n % 18446744073709551616 = b * n % 18446744073709551616 := by
  have e : (a * 18446744073709551616 + b) * n = a * n * 18446744073709551616 + b * n := by
    rw [Nat.add_mul, Nat.mul_right_comm]
  rw [e]
  generalize a * n = x
  generalize b * n = y
  omega
set_option maxRecDepth 100000 in
set_option maxHeartbeats 1600000 in
theorem wtimes_any (m n : Nat) (w : World) (hn : n < 9223372036854775808) (hmn : m * n < 340282366920938463463374607431768211456) :
    Calls Tryz.prog 69 #[wdV m, .int .i64 (n : Nat)] w fun e w' => e = .returned (wdV (m * n)) ∧ Below w.heap.size w w' := by
  unfold wdV
  obtain ⟨a, ha⟩ : ∃ a, m / 18446744073709551616 = a := ⟨_, rfl⟩
  obtain ⟨b, hb⟩ : ∃ b, m % 18446744073709551616 = b := ⟨_, rfl⟩
  have em : m = a * 18446744073709551616 + b := by omega
  have hb2 : b < 18446744073709551616 := by omega
  rw [ha, hb]
  rw [em] at hmn ⊢
  obtain ⟨t1, t2⟩ := wd_times hmn
  have hlt : b * n / 18446744073709551616 + a * n < 18446744073709551616 := by
    rw [← t1]
    exact Nat.div_lt_of_lt_mul hmn
  rw [t1, t2]
  have en := conv_u64 hn
  have hm := fun u => mul64_any b n hb2 (by omega) u
  have w1 : IntKind.u64.wrap ((a : Int) * (n : Int)) = ((a * n : Nat) : Int) := by rw [mulNN]; exact wrapU (by omega)
  have w2 : IntKind.u64.wrap (((b * n / 18446744073709551616 : Nat) : Int) + ((a * n : Nat) : Int)) = ((b * n / 18446744073709551616 + a * n : Nat) : Int) := by rw [addNN]; exact wrapU hlt
  clear t1 t2 em ha hb hmn hlt
  generalize (b * n / 18446744073709551616 + a * n : Nat) = H at *
  generalize (b * n / 18446744073709551616 : Nat) = h at *
  generalize (b * n % 18446744073709551616 : Nat) = l at *
  generalize (a * n : Nat) = an at *
  obtain ⟨z1, z2, hbw⟩ := two_allocW w (.cells #[.int .u64 (a : Nat), .int .u64 (b : Nat)] 74) (.cells #[.int .u64 0, .int .u64 0] 74)
  have x0 := (cells_at z1 0 (by simp)).1
  have x1 := (cells_at z1 1 (by simp)).1
  clear z1 z2
  go_enter Tryz.func69, Tryz.ntmps69
  go_wp2_with fail
  refine (hm _).mono ?_
  rintro e w2 ⟨rfl, rfl⟩
  clear hm
  go_wp2
  simp [bodyPost, results, Tryz.results69, go_sem]
  exact below_go (below_a w _) (below_a _ _)
theorem wd_plus {a b c d : Nat} (hb : b < 18446744073709551616) (hd : d < 18446744073709551616) (h : (a * 18446744073709551616 + b) + (c * 18446744073709551616 + d) < 340282366920938463463374607431768211456) : ((a * 18446744073709551616 + b) + (c * 18446744073709551616 + d)) / 18446744073709551616 = (a + c + (b + d + 0) / 18446744073709551616) % 18446744073709551616 ∧ ((a * 18446744073709551616 + b) + (c * 18446744073709551616 + d)) % 18446744073709551616 = (b + d + 0) % 18446744073709551616 := by omega
set_option maxRecDepth 100000 in
set_option maxHeartbeats 1600000 in
theorem wplus_any (m n : Nat) (w : World) (hmn : m + n < 340282366920938463463374607431768211456) :
    Calls Tryz.prog 141 #[wdV m, wdV n] w fun e w' => e = .returned (wdV (m + n)) ∧ Below w.heap.size w w' := by
  unfold wdV
  obtain ⟨a, ha⟩ : ∃ a, m / 18446744073709551616 = a := ⟨_, rfl⟩
  obtain ⟨b, hb⟩ : ∃ b, m % 18446744073709551616 = b := ⟨_, rfl⟩
  obtain ⟨c, hc⟩ : ∃ a, n / 18446744073709551616 = a := ⟨_, rfl⟩
  obtain ⟨d, hd⟩ : ∃ b, n % 18446744073709551616 = b := ⟨_, rfl⟩
  have em : m = a * 18446744073709551616 + b := by omega
  have en : n = c * 18446744073709551616 + d := by omega
  have hb2 : b < 18446744073709551616 := by omega
  have hd2 : d < 18446744073709551616 := by omega
  rw [ha, hb, hc, hd]
  rw [em, en] at hmn ⊢
  obtain ⟨t1, t2⟩ := wd_plus hb2 hd2 hmn
  rw [t1, t2]
  have hc1 : (b + d + 0) / 18446744073709551616 ≤ 1 := by omega
  have r1 := fun u => run_add64 b d 0 (by omega) u
  simp only [show ((0 : Nat) : Int) = 0 from rfl] at r1
  have r2 := fun u => run_add64 a c ((b + d + 0) / 18446744073709551616) hc1 u
  clear t1 t2 em en ha hb hc hd hmn hc1 hb2 hd2
  generalize (b + d + 0) / 18446744073709551616 = C at *
  generalize (b + d + 0) % 18446744073709551616 = L at *
  generalize (a + c + C) % 18446744073709551616 = H at *
  generalize (a + c + C) / 18446744073709551616 = C2 at *
  go_enter Tryz.func141, Tryz.ntmps141
  go_wp2
  simp [bodyPost, results, Tryz.results141, go_sem]
  exact below_go (below_go (below_a w _) (below_a _ _)) (below_a _ _)
end Go.Proofs.YtfonpobdnhifgamGreatDoor
