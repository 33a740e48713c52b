/-
  The program's tracks: numbers within limits, instants, shares, by contract.
-/
import Derived.Test.YtlhjmmcimhceeahDoorEvTk
import Derived.Test.YtlhjmmcimhceeahDoorEvPg
import Derived.Test.YtlhjmmcimhceeahDoorDv64
import Derived.Test.YtlhjmmcimhceeahDoorLoose7
namespace Go.Proofs.YtlhjmmcimhceeahDoor
open Go Go.RowKit

theorem within_any (n m : Int) (w : World) (h0 : 0 ≤ m) (h1 : m ≤ 4611686018427387904) : Calls Tryd.prog 49 #[.int .i64 n, .int .i64 m] w fun e w' => e = .returned (.bool (decide (-m ≤ n) && decide (n ≤ m))) ∧ w' = w := by
  have hw : IntKind.i64.wrap (-m) = -m := iwrap (by omega) (by omega)
  by_cases a : -m ≤ n
  · by_cases b : n ≤ m
    · have ha : decide (-m ≤ n) = true := decide_eq_true a
      have hb : decide (n ≤ m) = true := decide_eq_true b
      rw [ha, hb]
      go_enter Tryd.func49, Tryd.ntmps49
      go_wp2
      go_ret
      exact ⟨rfl, rfl⟩
    · have ha : decide (-m ≤ n) = true := decide_eq_true a
      have hb : decide (n ≤ m) = false := decide_eq_false b
      rw [ha, hb]
      go_enter Tryd.func49, Tryd.ntmps49
      go_wp2
      go_ret
      exact ⟨rfl, rfl⟩
  · have ha : decide (-m ≤ n) = false := decide_eq_false a
    rw [ha, Bool.false_and]
    go_enter Tryd.func49, Tryd.ntmps49
    go_wp2
    go_ret
    exact ⟨rfl, rfl⟩
theorem isInstant_any (x : Int) (w : World) : Calls Tryd.prog 78 #[.int .i64 x] w fun e w' => e = .returned (.bool (isTime x)) ∧ w' = w := by
  have hc := within_any x 300000000000000000 w (by decide) (by decide)
  change Calls _ _ _ _ fun e w' => e = .returned (.bool (isTime x)) ∧ w' = w at hc
  generalize isTime x = r at *
  go_enter Tryd.func78, Tryd.ntmps78
  go_wp2_with fail
  refine hc.mono ?_
  rintro e w1 ⟨rfl, rfl⟩
  go_wp2
  go_ret
  exact ⟨rfl, rfl⟩
def hOk (n : Int) : Bool := decide (-1099511627776 ≤ n) && decide (n ≤ 1099511627776)
theorem isHeight_any (x : Int) (w : World) : Calls Tryd.prog 39 #[.int .i64 x] w fun e w' => e = .returned (.bool (hOk x)) ∧ w' = w := by
  have hc := within_any x 1099511627776 w (by decide) (by decide)
  change Calls _ _ _ _ fun e w' => e = .returned (.bool (hOk x)) ∧ w' = w at hc
  generalize hOk x = r at *
  go_enter Tryd.func39, Tryd.ntmps39
  go_wp2_with fail
  refine hc.mono ?_
  rintro e w1 ⟨rfl, rfl⟩
  go_wp2
  go_ret
  exact ⟨rfl, rfl⟩
theorem instant_any {w : World} {v : Value} {t : Tr} (h : TrV w v t) (i : Int) (h1 : IntKind.i64.wrap (i * t.st) = i * t.st) (h2 : IntKind.i64.wrap (t.fr + i * t.st) = t.fr + i * t.st) :
    Calls Tryd.prog 43 #[v, .int .i64 i] w fun e w' => e = .returned (.int .i64 (t.fr + i * t.st)) ∧ Below w.heap.size w w' := by
  obtain ⟨ad, cap, rfl, hi⟩ := h
  go_enter Tryd.func43, Tryd.ntmps43
  go_wp2
  go_ret
  exact ⟨rfl, below_a _ _⟩
theorem TrOk.inst {t : Tr} (h : TrOk t) {i : Nat} (hi : i < t.L.length) : IntKind.i64.wrap ((i : Int) * t.st) = (i : Int) * t.st ∧ IntKind.i64.wrap (t.fr + (i : Int) * t.st) = t.fr + (i : Int) * t.st ∧ -300000000000000000 ≤ t.fr + (i : Int) * t.st ∧ t.fr + (i : Int) * t.st ≤ 300000000000000000 := by
  have a := h.at_ hi
  have b := h.span
  have c := h.f1
  have d := h.f2
  have e := h.l2
  unfold Tr.last at e
  exact ⟨iwrap (by omega) (by omega), iwrap (by omega) (by omega), by omega, by omega⟩
theorem last_any {w : World} {v : Value} {t : Tr} (h : TrV w v t) (hO : TrOk t) :
    Calls Tryd.prog 24 #[v] w fun e w' => e = .returned (.int .i64 t.last) ∧ Below w.heap.size w w' := by
  obtain ⟨ad, cap, rfl, hi⟩ := h
  have n1 := hO.n1
  have n2 := hO.n2
  have hw := hO.inst (i := t.L.length - 1) (by omega)
  rw [show ((t.L.length - 1 : Nat) : Int) = (t.L.length : Int) - 1 by omega] at hw
  have hc := instant_any (w := w.alloc (.cells #[.int .i64 t.fr, .int .i64 t.st, .slice ad t.L.length cap] 32)) ⟨ad, cap, rfl, hi.below (below_a w _)⟩ ((t.L.length : Int) - 1) hw.1 hw.2.1
  change Calls _ _ _ _ fun e w' => e = .returned (.int .i64 t.last) ∧ Below (w.alloc (.cells #[.int .i64 t.fr, .int .i64 t.st, .slice ad t.L.length cap] 32)).heap.size (w.alloc (.cells #[.int .i64 t.fr, .int .i64 t.st, .slice ad t.L.length cap] 32)) w' at hc
  generalize t.last = z at *
  clear hO hw hi
  go_enter Tryd.func24, Tryd.ntmps24
  go_wp2_with fail
  refine hc.mono ?_
  rintro e w1 ⟨rfl, k1⟩
  have HW := hideR (below_go (below_a w _) k1)
  go_wp2
  go_ret
  exact ⟨rfl, unhideR HW⟩
def inTimeV (t : Tr) : Bool := decide (1 ≤ t.st) && isTime t.fr && isTime t.last
theorem time_last {t : Tr} (hn : 2 ≤ t.L.length) (hs : 1 ≤ t.st) (hf : isTime t.fr = true) : isTime t.last = decide (t.st ≤ (300000000000000000 - t.fr) / ((t.L.length : Int) - 1)) := by
  have hf := isTime_of hf
  rw [Bool.eq_iff_iff, isTime_iff, decide_eq_true_eq, Int.le_ediv_iff_mul_le (by omega)]
  unfold Tr.last
  rw [Int.mul_comm t.st]
  have := Int.mul_nonneg (show 0 ≤ (t.L.length : Int) - 1 by omega) (show 0 ≤ t.st by omega)
  omega
set_option maxRecDepth 100000 in
set_option maxHeartbeats 1600000 in
theorem inTime_any {w : World} {v : Value} {t : Tr} (h : TrV w v t) (h2 : 2 ≤ t.L.length) (h4 : t.L.length ≤ 4000) :
    Calls Tryd.prog 56 #[v] w fun e w' => e = .returned (.bool (inTimeV t)) ∧ Below w.heap.size w w' := by
  obtain ⟨ad, cap, rfl, hi⟩ := h
  by_cases hs : 1 ≤ t.st
  case neg =>
    have hR : inTimeV t = false := by unfold inTimeV; rw [decide_eq_false hs]; rfl
    rw [hR]
    have b1 : decide (1 ≤ t.st) = false := decide_eq_false hs
    clear hR
    go_enter Tryd.func56, Tryd.ntmps56
    go_wp2_with fail
    have HB := hideR (alloc_last w (.cells #[.int .i64 t.fr, .int .i64 t.st, .slice ad t.L.length cap] 32))
    have HW := hideR (below_a w (.cells #[.int .i64 t.fr, .int .i64 t.st, .slice ad t.L.length cap] 32))
    have HI := hideR (hi.below (below_a w (.cells #[.int .i64 t.fr, .int .i64 t.st, .slice ad t.L.length cap] 32)))
    generalize w.alloc (.cells #[.int .i64 t.fr, .int .i64 t.st, .slice ad t.L.length cap] 32) = W1 at *
    clear hi
    refine wp_region_made 0 #[true, true, true, true, true, true, true, true, true, true, true, true, true, true, true, true, true, true, true, true, true, false] [.lets (· = .pointer (some ⟨w.heap.size, 1, none⟩)),
      .lets (· = .int .i64 t.st),
      .lets (· = .bool false),
      .lets (· = .bool false),
      .lets (· = undef),
      .lets (· = undef),
      .lets (· = undef),
      .lets (· = .bool false),
      .lets (· = .bool false),
      .lets (· = undef),
      .lets (· = undef),
      .lets (· = undef),
      .lets (· = undef),
      .lets (· = undef),
      .lets (· = undef),
      .lets (· = undef),
      .lets (· = undef),
      .lets (· = undef),
      .lets (· = undef),
      .lets (· = undef),
      .lets (· = .bool false)] [] [] (by kernel_rfl) (by kernel_rfl) rfl ?kinds (by kernel_rfl) (by kernel_rfl) (by kernel_rfl) ?_
    case kinds =>
      constructor
      · intro i h
        rcases i with _ | _ | _ | _ | _ | _ | _ | _ | _ | _ | _ | _ | _ | _ | _ | _ | _ | _ | _ | _ | _ | i <;> simp [Kx.isMade] at h
      · intro i h
        rcases i with _ | _ | _ | _ | _ | _ | _ | _ | _ | _ | _ | _ | _ | _ | _ | _ | _ | _ | _ | _ | _ | i <;> simp [Kx.isUse] at h
    refine lexX_step (fun K hK => ⟨by kernel_rfl, ⟨_, rfl⟩, fun v hv => ?_, fun v hv => ?_⟩)
    · go_simp
      exact mUpon_b
    subst hv
    go_simp
    refine hK _ ?_
    clear hK K
    refine lexX_step (fun K hK => ⟨by kernel_rfl, ⟨_, rfl⟩, fun v hv => ?_, fun v hv => ?_⟩)
    · obtain ⟨⟨c0, c1, c2⟩, _⟩ := three_cells (keepB (unhideR HB) hv)
      go_simp
      exact mUpon_b
    subst hv
    go_simp
    refine hK _ ?_
    clear hK K
    refine lexX_step (fun K hK => ⟨by kernel_rfl, ⟨_, rfl⟩, fun v hv => ?_, fun v hv => ?_⟩)
    · go_simp
      exact mUpon_b
    subst hv
    go_simp
    refine hK _ ?_
    clear hK K
    refine lexX_step (fun K hK => ⟨by kernel_rfl, ⟨_, rfl⟩, fun v hv => ?_, fun v hv => ?_⟩)
    · go_simp
      exact mUpon_b
    subst hv
    go_simp
    refine hK _ ?_
    clear hK K
    refine lexX_skip (fun K hK => ⟨by kernel_rfl, ?_⟩)
    go_simp
    refine hK _ ?_
    clear hK K
    refine lexX_skip (fun K hK => ⟨by kernel_rfl, ?_⟩)
    go_simp
    refine hK _ ?_
    clear hK K
    refine lexX_skip (fun K hK => ⟨by kernel_rfl, ?_⟩)
    go_simp
    refine hK _ ?_
    clear hK K
    refine lexX_step (fun K hK => ⟨by kernel_rfl, ⟨_, rfl⟩, fun v hv => ?_, fun v hv => ?_⟩)
    · go_simp
      exact mUpon_b
    subst hv
    go_simp
    refine hK _ ?_
    clear hK K
    refine lexX_step (fun K hK => ⟨by kernel_rfl, ⟨_, rfl⟩, fun v hv => ?_, fun v hv => ?_⟩)
    · go_simp
      exact mUpon_b
    subst hv
    go_simp
    refine hK _ ?_
    clear hK K
    refine lexX_skip (fun K hK => ⟨by kernel_rfl, ?_⟩)
    go_simp
    refine hK _ ?_
    clear hK K
    refine lexX_skip (fun K hK => ⟨by kernel_rfl, ?_⟩)
    go_simp
    refine hK _ ?_
    clear hK K
    refine lexX_skip (fun K hK => ⟨by kernel_rfl, ?_⟩)
    go_simp
    refine hK _ ?_
    clear hK K
    refine lexX_skip (fun K hK => ⟨by kernel_rfl, ?_⟩)
    go_simp
    refine hK _ ?_
    clear hK K
    refine lexX_skip (fun K hK => ⟨by kernel_rfl, ?_⟩)
    go_simp
    refine hK _ ?_
    clear hK K
    refine lexX_skip (fun K hK => ⟨by kernel_rfl, ?_⟩)
    go_simp
    refine hK _ ?_
    clear hK K
    refine lexX_skip (fun K hK => ⟨by kernel_rfl, ?_⟩)
    go_simp
    refine hK _ ?_
    clear hK K
    refine lexX_skip (fun K hK => ⟨by kernel_rfl, ?_⟩)
    go_simp
    refine hK _ ?_
    clear hK K
    refine lexX_skip (fun K hK => ⟨by kernel_rfl, ?_⟩)
    go_simp
    refine hK _ ?_
    clear hK K
    refine lexX_skip (fun K hK => ⟨by kernel_rfl, ?_⟩)
    go_simp
    refine hK _ ?_
    clear hK K
    refine lexX_skip (fun K hK => ⟨by kernel_rfl, ?_⟩)
    go_simp
    refine hK _ ?_
    clear hK K
    refine lexX_step (fun K hK => ⟨by kernel_rfl, ⟨_, rfl⟩, fun v hv => ?_, fun v hv => ?_⟩)
    · go_simp
      exact mUpon_b
    subst hv
    go_simp
    refine hK _ ?_
    clear hK K
    refine lexX_end (fun v hv => ?_)
    have HW2 := hideR (below_go (unhideR HW) hv.low)
    clear hv
    refine wpAny_step (i := 21) (by kernel_rfl) rfl (by kernel_rfl) (fun K hK => ?_)
    unfold Oper.wp
    go_simp
    refine hK _ _ ?_
    clear hK K
    refine wpAny_end (by kernel_rfl) ?_
    go_wp2
    go_ret
    exact ⟨rfl, unhideR HW2⟩
  by_cases hf : isTime t.fr = true
  case neg =>
    have hf' : isTime t.fr = false := by cases e : isTime t.fr <;> simp_all
    have hR : inTimeV t = false := by unfold inTimeV; rw [hf', Bool.and_false]; rfl
    rw [hR]
    have b1 : decide (1 ≤ t.st) = true := decide_eq_true hs
    have hin := fun u => isInstant_any t.fr u
    rw [hf'] at hin
    clear hR hf hf'
    go_enter Tryd.func56, Tryd.ntmps56
    go_wp2_with fail
    have HB := hideR (alloc_last w (.cells #[.int .i64 t.fr, .int .i64 t.st, .slice ad t.L.length cap] 32))
    have HW := hideR (below_a w (.cells #[.int .i64 t.fr, .int .i64 t.st, .slice ad t.L.length cap] 32))
    have HI := hideR (hi.below (below_a w (.cells #[.int .i64 t.fr, .int .i64 t.st, .slice ad t.L.length cap] 32)))
    generalize w.alloc (.cells #[.int .i64 t.fr, .int .i64 t.st, .slice ad t.L.length cap] 32) = W1 at *
    clear hi
    refine wp_region_made 0 #[true, true, true, true, true, true, true, true, true, true, true, true, true, true, true, true, true, true, true, true, true, false] [.lets (· = .pointer (some ⟨w.heap.size, 1, none⟩)),
      .lets (· = .int .i64 t.st),
      .lets (· = .bool true),
      .lets (· = .bool true),
      .lets (· = .pointer (some ⟨w.heap.size, 0, none⟩)),
      .lets (· = .int .i64 t.fr),
      .lets (· = .bool false),
      .lets (· = .bool false),
      .lets (· = .bool false),
      .lets (· = undef),
      .lets (· = undef),
      .lets (· = undef),
      .lets (· = undef),
      .lets (· = undef),
      .lets (· = undef),
      .lets (· = undef),
      .lets (· = undef),
      .lets (· = undef),
      .lets (· = undef),
      .lets (· = undef),
      .lets (· = .bool false)] [] [] (by kernel_rfl) (by kernel_rfl) rfl ?kinds (by kernel_rfl) (by kernel_rfl) (by kernel_rfl) ?_
    case kinds =>
      constructor
      · intro i h
        rcases i with _ | _ | _ | _ | _ | _ | _ | _ | _ | _ | _ | _ | _ | _ | _ | _ | _ | _ | _ | _ | _ | i <;> simp [Kx.isMade] at h
      · intro i h
        rcases i with _ | _ | _ | _ | _ | _ | _ | _ | _ | _ | _ | _ | _ | _ | _ | _ | _ | _ | _ | _ | _ | i <;> simp [Kx.isUse] at h
    refine lexX_step (fun K hK => ⟨by kernel_rfl, ⟨_, rfl⟩, fun v hv => ?_, fun v hv => ?_⟩)
    · go_simp
      exact mUpon_b
    subst hv
    go_simp
    refine hK _ ?_
    clear hK K
    refine lexX_step (fun K hK => ⟨by kernel_rfl, ⟨_, rfl⟩, fun v hv => ?_, fun v hv => ?_⟩)
    · obtain ⟨⟨c0, c1, c2⟩, _⟩ := three_cells (keepB (unhideR HB) hv)
      go_simp
      exact mUpon_b
    subst hv
    go_simp
    refine hK _ ?_
    clear hK K
    refine lexX_step (fun K hK => ⟨by kernel_rfl, ⟨_, rfl⟩, fun v hv => ?_, fun v hv => ?_⟩)
    · go_simp
      exact mUpon_b
    subst hv
    go_simp
    refine hK _ ?_
    clear hK K
    refine lexX_step (fun K hK => ⟨by kernel_rfl, ⟨_, rfl⟩, fun v hv => ?_, fun v hv => ?_⟩)
    · go_simp
      exact mUpon_b
    subst hv
    go_simp
    refine hK _ ?_
    clear hK K
    refine lexX_step (fun K hK => ⟨by kernel_rfl, ⟨_, rfl⟩, fun v hv => ?_, fun v hv => ?_⟩)
    · go_simp
      exact mUpon_b
    subst hv
    go_simp
    refine hK _ ?_
    clear hK K
    refine lexX_step (fun K hK => ⟨by kernel_rfl, ⟨_, rfl⟩, fun v hv => ?_, fun v hv => ?_⟩)
    · obtain ⟨⟨c0, c1, c2⟩, _⟩ := three_cells (keepB (unhideR HB) hv)
      go_simp
      exact mUpon_b
    subst hv
    go_simp
    refine hK _ ?_
    clear hK K
    refine lexX_step (fun K hK => ⟨by kernel_rfl, ⟨_, rfl⟩, fun v hv => ?_, fun v hv => ?_⟩)
    · go_simp
      refine (hin _).mono ?_
      rintro e w9 ⟨rfl, rfl⟩
      exact ⟨_, rfl, rfl, Below.refl _ _⟩
    subst hv
    go_simp
    refine hK _ ?_
    clear hK K
    refine lexX_step (fun K hK => ⟨by kernel_rfl, ⟨_, rfl⟩, fun v hv => ?_, fun v hv => ?_⟩)
    · go_simp
      exact mUpon_b
    subst hv
    go_simp
    refine hK _ ?_
    clear hK K
    refine lexX_step (fun K hK => ⟨by kernel_rfl, ⟨_, rfl⟩, fun v hv => ?_, fun v hv => ?_⟩)
    · go_simp
      exact mUpon_b
    subst hv
    go_simp
    refine hK _ ?_
    clear hK K
    refine lexX_skip (fun K hK => ⟨by kernel_rfl, ?_⟩)
    go_simp
    refine hK _ ?_
    clear hK K
    refine lexX_skip (fun K hK => ⟨by kernel_rfl, ?_⟩)
    go_simp
    refine hK _ ?_
    clear hK K
    refine lexX_skip (fun K hK => ⟨by kernel_rfl, ?_⟩)
    go_simp
    refine hK _ ?_
    clear hK K
    refine lexX_skip (fun K hK => ⟨by kernel_rfl, ?_⟩)
    go_simp
    refine hK _ ?_
    clear hK K
    refine lexX_skip (fun K hK => ⟨by kernel_rfl, ?_⟩)
    go_simp
    refine hK _ ?_
    clear hK K
    refine lexX_skip (fun K hK => ⟨by kernel_rfl, ?_⟩)
    go_simp
    refine hK _ ?_
    clear hK K
    refine lexX_skip (fun K hK => ⟨by kernel_rfl, ?_⟩)
    go_simp
    refine hK _ ?_
    clear hK K
    refine lexX_skip (fun K hK => ⟨by kernel_rfl, ?_⟩)
    go_simp
    refine hK _ ?_
    clear hK K
    refine lexX_skip (fun K hK => ⟨by kernel_rfl, ?_⟩)
    go_simp
    refine hK _ ?_
    clear hK K
    refine lexX_skip (fun K hK => ⟨by kernel_rfl, ?_⟩)
    go_simp
    refine hK _ ?_
    clear hK K
    refine lexX_skip (fun K hK => ⟨by kernel_rfl, ?_⟩)
    go_simp
    refine hK _ ?_
    clear hK K
    refine lexX_step (fun K hK => ⟨by kernel_rfl, ⟨_, rfl⟩, fun v hv => ?_, fun v hv => ?_⟩)
    · go_simp
      exact mUpon_b
    subst hv
    go_simp
    refine hK _ ?_
    clear hK K
    refine lexX_end (fun v hv => ?_)
    have HW2 := hideR (below_go (unhideR HW) hv.low)
    clear hv
    refine wpAny_step (i := 21) (by kernel_rfl) rfl (by kernel_rfl) (fun K hK => ?_)
    unfold Oper.wp
    go_simp
    refine hK _ _ ?_
    clear hK K
    refine wpAny_end (by kernel_rfl) ?_
    go_wp2
    go_ret
    exact ⟨rfl, unhideR HW2⟩
  have hR : inTimeV t = decide (t.st ≤ (300000000000000000 - t.fr) / ((t.L.length : Int) - 1)) := by unfold inTimeV; rw [decide_eq_true hs, hf, time_last h2 hs hf]; rfl
  rw [hR]
  have b1 : decide (1 ≤ t.st) = true := decide_eq_true hs
  have hin := fun u => isInstant_any t.fr u
  rw [hf] at hin
  have hf := isTime_of hf
  have f1 := hf.1
  have f2 := hf.2
  have w1 : IntKind.i64.wrap (300000000000000000 - t.fr) = 300000000000000000 - t.fr := iwrap (by omega) (by omega)
  have w2 : IntKind.i64.wrap ((t.L.length : Int) - 1) = (t.L.length : Int) - 1 := iwrap (by omega) (by omega)
  obtain ⟨Q, hQ⟩ : ∃ Q, (300000000000000000 - t.fr) / ((t.L.length : Int) - 1) = Q := ⟨_, rfl⟩
  have w3 : IntKind.i64.wrap ((300000000000000000 - t.fr) / ((t.L.length : Int) - 1)) = Q := by
    rw [← hQ]
    have q1 := Int.ediv_nonneg (a := 300000000000000000 - t.fr) (b := (t.L.length : Int) - 1) (by omega) (by omega)
    have q2 := Int.ediv_le_self (b := (t.L.length : Int) - 1) (show 0 ≤ 300000000000000000 - t.fr by omega)
    exact iwrap (by omega) (by omega)
  have w4 : IntKind.i64.wrap ((300000000000000000 - t.fr).tdiv ((t.L.length : Int) - 1)) = Q := by
    rw [Int.tdiv_eq_ediv_of_nonneg (by omega)]
    exact w3
  rw [hQ]
  clear hR hf hQ
  have nz : ¬ (t.L.length : Int) - 1 = 0 := by omega
  go_enter Tryd.func56, Tryd.ntmps56
  go_wp2_with fail
  have HB := hideR (alloc_last w (.cells #[.int .i64 t.fr, .int .i64 t.st, .slice ad t.L.length cap] 32))
  have HW := hideR (below_a w (.cells #[.int .i64 t.fr, .int .i64 t.st, .slice ad t.L.length cap] 32))
  have HI := hideR (hi.below (below_a w (.cells #[.int .i64 t.fr, .int .i64 t.st, .slice ad t.L.length cap] 32)))
  generalize w.alloc (.cells #[.int .i64 t.fr, .int .i64 t.st, .slice ad t.L.length cap] 32) = W1 at *
  clear hi
  refine wp_region_made 0 #[true, true, true, true, true, true, true, true, true, true, true, true, true, true, true, true, true, true, true, true, true, false] [.lets (· = .pointer (some ⟨w.heap.size, 1, none⟩)),
    .lets (· = .int .i64 t.st),
    .lets (· = .bool true),
    .lets (· = .bool true),
    .lets (· = .pointer (some ⟨w.heap.size, 0, none⟩)),
    .lets (· = .int .i64 t.fr),
    .lets (· = .bool true),
    .lets (· = .bool true),
    .lets (· = .bool true),
    .lets (· = .pointer (some ⟨w.heap.size, 1, none⟩)),
    .lets (· = .int .i64 t.st),
    .lets (· = .pointer (some ⟨w.heap.size, 0, none⟩)),
    .lets (· = .int .i64 t.fr),
    .lets (· = .int .i64 (300000000000000000 - t.fr)),
    .lets (· = .pointer (some ⟨w.heap.size, 2, none⟩)),
    .lets (· = .slice ad t.L.length cap),
    .lets (· = .int .i64 (t.L.length : Nat)),
    .lets (· = .int .i64 ((t.L.length : Int) - 1)),
    .lets (· = .int .i64 Q),
    .lets (· = .bool (decide (t.st ≤ Q))),
    .lets (· = .bool (decide (t.st ≤ Q)))] [] [] (by kernel_rfl) (by kernel_rfl) rfl ?kinds (by kernel_rfl) (by kernel_rfl) (by kernel_rfl) ?_
  case kinds =>
    constructor
    · intro i h
      rcases i with _ | _ | _ | _ | _ | _ | _ | _ | _ | _ | _ | _ | _ | _ | _ | _ | _ | _ | _ | _ | _ | i <;> simp [Kx.isMade] at h
    · intro i h
      rcases i with _ | _ | _ | _ | _ | _ | _ | _ | _ | _ | _ | _ | _ | _ | _ | _ | _ | _ | _ | _ | _ | i <;> simp [Kx.isUse] at h
  refine lexX_step (fun K hK => ⟨by kernel_rfl, ⟨_, rfl⟩, fun v hv => ?_, fun v hv => ?_⟩)
  · go_simp
    exact mUpon_b
  subst hv
  go_simp
  refine hK _ ?_
  clear hK K
  refine lexX_step (fun K hK => ⟨by kernel_rfl, ⟨_, rfl⟩, fun v hv => ?_, fun v hv => ?_⟩)
  · obtain ⟨⟨c0, c1, c2⟩, _⟩ := three_cells (keepB (unhideR HB) hv)
    go_simp
    exact mUpon_b
  subst hv
  go_simp
  refine hK _ ?_
  clear hK K
  refine lexX_step (fun K hK => ⟨by kernel_rfl, ⟨_, rfl⟩, fun v hv => ?_, fun v hv => ?_⟩)
  · go_simp
    exact mUpon_b
  subst hv
  go_simp
  refine hK _ ?_
  clear hK K
  refine lexX_step (fun K hK => ⟨by kernel_rfl, ⟨_, rfl⟩, fun v hv => ?_, fun v hv => ?_⟩)
  · go_simp
    exact mUpon_b
  subst hv
  go_simp
  refine hK _ ?_
  clear hK K
  refine lexX_step (fun K hK => ⟨by kernel_rfl, ⟨_, rfl⟩, fun v hv => ?_, fun v hv => ?_⟩)
  · go_simp
    exact mUpon_b
  subst hv
  go_simp
  refine hK _ ?_
  clear hK K
  refine lexX_step (fun K hK => ⟨by kernel_rfl, ⟨_, rfl⟩, fun v hv => ?_, fun v hv => ?_⟩)
  · obtain ⟨⟨c0, c1, c2⟩, _⟩ := three_cells (keepB (unhideR HB) hv)
    go_simp
    exact mUpon_b
  subst hv
  go_simp
  refine hK _ ?_
  clear hK K
  refine lexX_step (fun K hK => ⟨by kernel_rfl, ⟨_, rfl⟩, fun v hv => ?_, fun v hv => ?_⟩)
  · go_simp
    refine (hin _).mono ?_
    rintro e w9 ⟨rfl, rfl⟩
    exact ⟨_, rfl, rfl, Below.refl _ _⟩
  subst hv
  go_simp
  refine hK _ ?_
  clear hK K
  refine lexX_step (fun K hK => ⟨by kernel_rfl, ⟨_, rfl⟩, fun v hv => ?_, fun v hv => ?_⟩)
  · go_simp
    exact mUpon_b
  subst hv
  go_simp
  refine hK _ ?_
  clear hK K
  refine lexX_step (fun K hK => ⟨by kernel_rfl, ⟨_, rfl⟩, fun v hv => ?_, fun v hv => ?_⟩)
  · go_simp
    exact mUpon_b
  subst hv
  go_simp
  refine hK _ ?_
  clear hK K
  refine lexX_step (fun K hK => ⟨by kernel_rfl, ⟨_, rfl⟩, fun v hv => ?_, fun v hv => ?_⟩)
  · go_simp
    exact mUpon_b
  subst hv
  go_simp
  refine hK _ ?_
  clear hK K
  refine lexX_step (fun K hK => ⟨by kernel_rfl, ⟨_, rfl⟩, fun v hv => ?_, fun v hv => ?_⟩)
  · obtain ⟨⟨c0, c1, c2⟩, _⟩ := three_cells (keepB (unhideR HB) hv)
    go_simp
    exact mUpon_b
  subst hv
  go_simp
  refine hK _ ?_
  clear hK K
  refine lexX_step (fun K hK => ⟨by kernel_rfl, ⟨_, rfl⟩, fun v hv => ?_, fun v hv => ?_⟩)
  · go_simp
    exact mUpon_b
  subst hv
  go_simp
  refine hK _ ?_
  clear hK K
  refine lexX_step (fun K hK => ⟨by kernel_rfl, ⟨_, rfl⟩, fun v hv => ?_, fun v hv => ?_⟩)
  · obtain ⟨⟨c0, c1, c2⟩, _⟩ := three_cells (keepB (unhideR HB) hv)
    go_simp
    exact mUpon_b
  subst hv
  go_simp
  refine hK _ ?_
  clear hK K
  refine lexX_step (fun K hK => ⟨by kernel_rfl, ⟨_, rfl⟩, fun v hv => ?_, fun v hv => ?_⟩)
  · go_simp
    exact mUpon_b
  subst hv
  go_simp
  refine hK _ ?_
  clear hK K
  refine lexX_step (fun K hK => ⟨by kernel_rfl, ⟨_, rfl⟩, fun v hv => ?_, fun v hv => ?_⟩)
  · go_simp
    exact mUpon_b
  subst hv
  go_simp
  refine hK _ ?_
  clear hK K
  refine lexX_step (fun K hK => ⟨by kernel_rfl, ⟨_, rfl⟩, fun v hv => ?_, fun v hv => ?_⟩)
  · obtain ⟨⟨c0, c1, c2⟩, _⟩ := three_cells (keepB (unhideR HB) hv)
    go_simp
    exact mUpon_b
  subst hv
  go_simp
  refine hK _ ?_
  clear hK K
  refine lexX_step (fun K hK => ⟨by kernel_rfl, ⟨_, rfl⟩, fun v hv => ?_, fun v hv => ?_⟩)
  · go_simp
    exact mUpon_b
  subst hv
  go_simp
  refine hK _ ?_
  clear hK K
  refine lexX_step (fun K hK => ⟨by kernel_rfl, ⟨_, rfl⟩, fun v hv => ?_, fun v hv => ?_⟩)
  · go_simp
    exact mUpon_b
  subst hv
  go_simp
  refine hK _ ?_
  clear hK K
  refine lexX_step (fun K hK => ⟨by kernel_rfl, ⟨_, rfl⟩, fun v hv => ?_, fun v hv => ?_⟩)
  · go_simp
    exact mUpon_b
  subst hv
  go_simp
  refine hK _ ?_
  clear hK K
  refine lexX_step (fun K hK => ⟨by kernel_rfl, ⟨_, rfl⟩, fun v hv => ?_, fun v hv => ?_⟩)
  · go_simp
    exact mUpon_b
  subst hv
  go_simp
  refine hK _ ?_
  clear hK K
  refine lexX_step (fun K hK => ⟨by kernel_rfl, ⟨_, rfl⟩, fun v hv => ?_, fun v hv => ?_⟩)
  · go_simp
    exact mUpon_b
  subst hv
  go_simp
  refine hK _ ?_
  clear hK K
  refine lexX_end (fun v hv => ?_)
  have HW2 := hideR (below_go (unhideR HW) hv.low)
  clear hv
  refine wpAny_step (i := 21) (by kernel_rfl) rfl (by kernel_rfl) (fun K hK => ?_)
  unfold Oper.wp
  go_simp
  refine hK _ _ ?_
  clear hK K
  refine wpAny_end (by kernel_rfl) ?_
  go_wp2
  go_ret
  exact ⟨rfl, unhideR HW2⟩
theorem share_any {a b c : Int} (ha : 0 ≤ a) (ha2 : a ≤ 4611686018427387904) (hb : 0 ≤ b) (hbc : b ≤ c) (hc : 0 < c) (hc2 : c ≤ 4611686018427387904) (w : World) :
    Calls Tryd.prog 59 #[.int .i64 a, .int .i64 b, .int .i64 c] w fun e w' => e = .returned (.tuple #[.int .i64 (downV a b c), .int .i64 (upV a b c)]) ∧ Below w.heap.size w w' := by
  obtain ⟨A, hA⟩ : ∃ A : Nat, a = (A : Int) := ⟨a.toNat, by omega⟩
  obtain ⟨B, hB⟩ : ∃ B : Nat, b = (B : Int) := ⟨b.toNat, by omega⟩
  obtain ⟨C, hC⟩ : ∃ C : Nat, c = (C : Int) := ⟨c.toNat, by omega⟩
  have hmul := mul64_any A B (by omega) (by omega) w
  have hlt : A * B / 18446744073709551616 < C := by
    rw [Nat.div_lt_iff_lt_mul (by decide)]
    have h1 : A * B ≤ A * C := Nat.mul_le_mul_left A (by omega)
    have h2 : A * C ≤ 4611686018427387904 * C := Nat.mul_le_mul_right C (by omega)
    omega
  have hdiv := div64_any (A * B / 18446744073709551616) (A * B % 18446744073709551616) C hlt (by omega) (Nat.mod_lt _ (by decide)) w
  rw [Nat.div_add_mod' (A * B) 18446744073709551616] at hdiv
  have hd := down_in ha hb hbc hc
  have hu := up_in ha hb hbc hc
  have eD : downV a b c = ((A * B / C : Nat) : Int) := by
    unfold downV
    rw [hA, hB, hC, mulNN, ← Int.natCast_ediv]
  have eR : a * b % c = ((A * B % C : Nat) : Int) := by rw [hA, hB, hC, mulNN, ← Int.natCast_emod]
  have eU : upV a b c = downV a b c + (if 0 < ((A * B % C : Nat) : Int) then 1 else 0) := by
    unfold upV downV
    rw [eR]
  have hRl : A * B % C < 18446744073709551616 := Nat.lt_of_lt_of_le (Nat.mod_lt _ (by omega)) (by omega)
  rw [eU] at hu ⊢
  rw [eD] at hd hu ⊢
  generalize A * B / C = D at *
  generalize A * B % C = R at *
  generalize A * B / 18446744073709551616 = H at *
  generalize A * B % 18446744073709551616 = Lo at *
  clear eD eR eU
  subst hA hB hC
  have c1 : IntKind.u64.wrap (A : Int) = (A : Int) := wrapU (by omega)
  have c2 : IntKind.u64.wrap (B : Int) = (B : Int) := wrapU (by omega)
  have c3 : IntKind.u64.wrap (C : Int) = (C : Int) := wrapU (by omega)
  have c4 : IntKind.i64.wrap (D : Int) = (D : Int) := iwrap (by omega) (by omega)
  by_cases hR : 0 < R
  · have e : (if 0 < (R : Int) then (1 : Int) else 0) = 1 := if_pos (by omega)
    rw [e] at hu ⊢
    have t1 : decide (0 < (R : Int)) = true := decide_eq_true (by omega)
    have w1 : IntKind.i64.wrap ((D : Int) + 1) = (D : Int) + 1 := iwrap (by omega) (by omega)
    clear e hlt hRl
    go_enter Tryd.func59, Tryd.ntmps59
    go_wp2_with fail
    refine hmul.mono ?_
    rintro e w1' ⟨rfl, rfl⟩
    go_wp2_with fail
    refine hdiv.mono ?_
    rintro e w2 ⟨rfl, k2⟩
    have HW := hideR k2
    clear k2 hmul hdiv
    go_wp2
    go_ret2
    exact ⟨rfl, unhideR HW⟩
  · have e : (if 0 < (R : Int) then (1 : Int) else 0) = 0 := if_neg (by omega)
    rw [e, Int.add_zero] at hu ⊢
    have t1 : decide (0 < (R : Int)) = false := decide_eq_false (by omega)
    clear e hlt hRl
    go_enter Tryd.func59, Tryd.ntmps59
    go_wp2_with fail
    refine hmul.mono ?_
    rintro e w1' ⟨rfl, rfl⟩
    go_wp2_with fail
    refine hdiv.mono ?_
    rintro e w2 ⟨rfl, k2⟩
    have HW := hideR k2
    clear k2 hmul hdiv
    go_wp2
    go_ret2
    exact ⟨rfl, unhideR HW⟩
end Go.Proofs.YtlhjmmcimhceeahDoor
