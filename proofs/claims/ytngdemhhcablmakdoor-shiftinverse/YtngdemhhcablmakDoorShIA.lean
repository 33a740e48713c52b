/-
  The law's size and mild, by contract. There and back: what the law compares. No program here. There and back: all that the law compares is small enough. No program here.
-/
import Derived.Test.YtngdemhhcablmakDoorShFl
import Derived.Test.YtngdemhhcablmakDoorShAC
namespace Go.Proofs.YtngdemhhcablmakDoor
open Go Go.RowKit

def ordF (x y : Nat) : Option Ordering := FloatKind.f64.format.order x y
def szB (x : Nat) : Nat := if (FloatKind.f64.format.order x 0 == some .lt) = true then ngB x else x
theorem zero_is' : Is 0 0 := by unfold Is; decide +kernel
theorem sz_is {x : Nat} {v : Rat} (h : Is x v) : Is (szB x) (ab v) := by
  unfold szB
  rw [order_is h zero_is']
  by_cases q : v < 0
  · rw [if_pos q]
    have e : ab v = -v := by unfold ab; rw [if_neg (by grind)]
    rw [e]
    exact neg_is h
  · rw [if_neg q]
    have e : ab v = v := by unfold ab; rw [if_pos (by grind)]
    rw [e, if_neg (by split <;> decide)]
    exact h
theorem sz_back {x : Nat} {v : Rat} (h : Is (szB x) v) : ∃ u, Is x u ∧ (u = v ∨ u = -v) := by
  unfold szB at h
  split at h
  · have := neg_is h
    rw [neg_neg] at this
    exact ⟨-v, this, .inr rfl⟩
  · exact ⟨v, h, .inl rfl⟩
/-- what is compared with a number is a number, or without end. -/
theorem ord_some {x c : Nat} {v : Rat} (hc : Is c v) {o : Ordering} (h : FloatKind.f64.format.order x c = some o) : (∃ u, Is x u ∧ o = if u < v then .lt else if u = v then .eq else .gt) ∨ ∃ s, FloatKind.f64.format.read x = .infinity s ∧ o = if s then .lt else .gt := by
  cases e : FloatKind.f64.format.read x with
  | number s m i =>
    have hx : Is x (sgn s ((m : Rat) * p2 i)) := by unfold Is; rw [e, dv_number]
    rw [order_is hx hc] at h
    exact .inl ⟨_, hx, (Option.some.inj h).symm⟩
  | infinity s =>
    obtain ⟨t, n, j, e2, _⟩ := is_number hc
    unfold Ieee.Format.order at h
    rw [e, e2] at h
    refine .inr ⟨s, rfl, ?_⟩
    cases s
    · exact (Option.some.inj h).symm
    · exact (Option.some.inj h).symm
  | nan s t =>
    exfalso
    have hn : Nan x := by unfold Nan; rw [e]; rfl
    rw [order_nan_left c hn] at h
    cases h
def MildV (x : Nat) : Prop := ∃ v, Is x v ∧ (v = 0 ∨ p2 (-300) ≤ ab v ∧ ab v ≤ p2 300)
theorem lo_is : Is 3256102530588868608 (p2 (-300)) := by unfold Is; decide +kernel
theorem hi_is : Is 5958262307011166208 (p2 300) := by unfold Is; decide +kernel
theorem mild_zero {x : Nat} (h : FloatKind.f64.format.order (szB x) 0 = some .eq) : MildV x := by
  rcases ord_some zero_is' h with ⟨u, hu, e⟩ | ⟨s, _, e⟩
  · have u0 : u = 0 := by
      by_cases q : u < 0
      · rw [if_pos q] at e; cases e
      · by_cases q2 : u = 0
        · exact q2
        · rw [if_neg q, if_neg q2] at e; cases e
    obtain ⟨v, hv, h2⟩ := sz_back hu
    exact ⟨v, hv, .inl (by rcases h2 with h2 | h2 <;> grind)⟩
  · cases s <;> cases e
theorem mild_far {x : Nat} {o1 o2 : Ordering} (h1 : FloatKind.f64.format.order (szB x) 3256102530588868608 = some o1) (h2 : FloatKind.f64.format.order (szB x) 5958262307011166208 = some o2) (k1 : o1 = .gt ∨ o1 = .eq) (k2 : o2 = .lt ∨ o2 = .eq) : MildV x := by
  rcases ord_some lo_is h1 with ⟨u, hu, e1⟩ | ⟨s, hs, e1⟩
  · rcases ord_some hi_is h2 with ⟨u', hu', e2⟩ | ⟨s, hs, e2⟩
    · obtain rfl := is_unique hu hu'
      have a1 : p2 (-300) ≤ u := by
        by_cases q : u < p2 (-300)
        · rw [if_pos q] at e1
          rcases k1 with rfl | rfl <;> cases e1
        · grind
      have a2 : u ≤ p2 300 := by
        by_cases q : u < p2 300
        · grind
        · by_cases q2 : u = p2 300
          · grind
          · rw [if_neg q, if_neg q2] at e2
            rcases k2 with rfl | rfl <;> cases e2
      have hp := p2_pos (-300)
      obtain ⟨v, hv, h3⟩ := sz_back hu
      have e : ab v = u := by
        unfold ab
        rcases h3 with h3 | h3 <;> split <;> grind
      exact ⟨v, hv, .inr (by rw [e]; exact ⟨a1, a2⟩)⟩
    · obtain ⟨t, m, i, e3, _⟩ := is_number hu
      rw [hs] at e3
      cases e3
  · cases s
    · rcases ord_some hi_is h2 with ⟨u', hu', e2⟩ | ⟨s', hs', e2⟩
      · obtain ⟨t, m, i, e3, _⟩ := is_number hu'
        rw [hs] at e3
        cases e3
      · rw [hs] at hs'
        injection hs' with hs'
        subst hs'
        rcases k2 with rfl | rfl <;> cases e2
    · rcases k1 with rfl | rfl <;> cases e1
set_option maxRecDepth 100000 in
theorem size_any (x : Nat) (w : World) : Calls Tryd.prog 19 #[.float .f64 x] w fun e w' => e = .returned (.float .f64 (szB x)) ∧ w' = w := by
  have hneg : ∀ x v, (Op.unary UnOp.neg (.float .f64 x)).run Tryd.prog v = .ok (.float .f64 (ngB x)) v := fun _ _ => rfl
  unfold szB
  cases q : (FloatKind.f64.format.order x 0 == some .lt) with
  | true =>
    rw [if_pos rfl]
    go_enter Tryd.func19, Tryd.ntmps19
    go_wp2
    go_ret
    exact ⟨rfl, rfl⟩
  | false =>
    rw [if_neg (by decide)]
    go_enter Tryd.func19, Tryd.ntmps19
    go_wp2
    go_ret
    exact ⟨rfl, rfl⟩
def MiPost (x : Nat) (w : World) (e : Ending) (w' : World) : Prop := ∃ q : Bool, e = .returned (.bool q) ∧ w' = w ∧ (q = true → MildV x)
set_option maxRecDepth 100000 in
set_option maxHeartbeats 1600000 in
theorem mild_any (x : Nat) (w : World) : Calls Tryd.prog 18 #[.float .f64 x] w (MiPost x w) := by
  have hneg : ∀ x v, (Op.unary UnOp.neg (.float .f64 x)).run Tryd.prog v = .ok (.float .f64 (ngB x)) v := fun _ _ => rfl
  have HZ : HeldR (FloatKind.f64.format.order (szB x) 0 = some .eq → MildV x) := hideR mild_zero
  have HF : HeldR (∀ o1 o2, FloatKind.f64.format.order (szB x) 3256102530588868608 = some o1 → FloatKind.f64.format.order (szB x) 5958262307011166208 = some o2 → (o1 = .gt ∨ o1 = .eq) → (o2 = .lt ∨ o2 = .eq) → MildV x) := hideR (fun o1 o2 h1 h2 k1 k2 => mild_far h1 h2 k1 k2)
  have HSz : HeldR (szB x = if (FloatKind.f64.format.order x 0 == some .lt) = true then ngB x else x) := hideR rfl
  generalize szB x = y at *
  have fin : ∀ (q : Bool), (q = true → FloatKind.f64.format.order y 0 = some .eq ∨ ∃ o1 o2, FloatKind.f64.format.order y 3256102530588868608 = some o1 ∧ FloatKind.f64.format.order y 5958262307011166208 = some o2 ∧ (o1 = .gt ∨ o1 = .eq) ∧ (o2 = .lt ∨ o2 = .eq)) → MiPost x w (.returned (.bool q)) w := fun q h => ⟨q, rfl, rfl, fun e => by
    rcases h e with h | ⟨o1, o2, h1, h2, h3, h4⟩
    · exact unhideR HZ h
    · exact unhideR HF o1 o2 h1 h2 h3 h4⟩
  have HFin := hideR fin
  clear HZ HF fin
  cases q : (FloatKind.f64.format.order x 0 == some .lt) with
  | true =>
    obtain rfl : y = ngB x := by rw [unhideR HSz, q]; rfl
    clear HSz
    cases z0 : (FloatKind.f64.format.order (ngB x) 0 == some .eq) with
    | true =>
      have HR := hideR (unhideR HFin true (fun _ => .inl (by simpa using z0)))
      clear HFin
      go_enter Tryd.func18, Tryd.ntmps18
      go_wp2
      go_ret
      exact unhideR HR
    | false =>
    cases z1 : (FloatKind.f64.format.order (ngB x) 3256102530588868608 == some .gt || FloatKind.f64.format.order (ngB x) 3256102530588868608 == some .eq) with
    | false =>
      have HR := hideR (unhideR HFin false (fun q => by cases q))
      clear HFin
      go_enter Tryd.func18, Tryd.ntmps18
      go_wp2
      go_ret
      exact unhideR HR
    | true =>
    cases z2 : (FloatKind.f64.format.order (ngB x) 5958262307011166208 == some .lt || FloatKind.f64.format.order (ngB x) 5958262307011166208 == some .eq) with
    | false =>
      have HR := hideR (unhideR HFin false (fun q => by cases q))
      clear HFin
      go_enter Tryd.func18, Tryd.ntmps18
      go_wp2
      go_ret
      exact unhideR HR
    | true =>
      have HR := hideR (unhideR HFin true (fun _ => .inr (by
        rw [Bool.or_eq_true] at z1 z2
        rcases z1 with z1 | z1 <;> rcases z2 with z2 | z2 <;> exact ⟨_, _, by simpa using z1, by simpa using z2, by simp, by simp⟩)))
      clear HFin
      go_enter Tryd.func18, Tryd.ntmps18
      go_wp2
      go_ret
      exact unhideR HR
  | false =>
    obtain rfl : y = x := by rw [unhideR HSz, q]; rfl
    clear HSz
    cases z0 : (FloatKind.f64.format.order y 0 == some .eq) with
    | true =>
      have HR := hideR (unhideR HFin true (fun _ => .inl (by simpa using z0)))
      clear HFin
      go_enter Tryd.func18, Tryd.ntmps18
      go_wp2
      go_ret
      exact unhideR HR
    | false =>
    cases z1 : (FloatKind.f64.format.order y 3256102530588868608 == some .gt || FloatKind.f64.format.order y 3256102530588868608 == some .eq) with
    | false =>
      have HR := hideR (unhideR HFin false (fun q => by cases q))
      clear HFin
      go_enter Tryd.func18, Tryd.ntmps18
      go_wp2
      go_ret
      exact unhideR HR
    | true =>
    cases z2 : (FloatKind.f64.format.order y 5958262307011166208 == some .lt || FloatKind.f64.format.order y 5958262307011166208 == some .eq) with
    | false =>
      have HR := hideR (unhideR HFin false (fun q => by cases q))
      clear HFin
      go_enter Tryd.func18, Tryd.ntmps18
      go_wp2
      go_ret
      exact unhideR HR
    | true =>
      have HR := hideR (unhideR HFin true (fun _ => .inr (by
        rw [Bool.or_eq_true] at z1 z2
        rcases z1 with z1 | z1 <;> rcases z2 with z2 | z2 <;> exact ⟨_, _, by simpa using z1, by simpa using z2, by simp, by simp⟩)))
      clear HFin
      go_enter Tryd.func18, Tryd.ntmps18
      go_wp2
      go_ret
      exact unhideR HR
end Go.Proofs.YtngdemhhcablmakDoor
namespace Go.Proofs.YtngdemhhcablmakDoor
open Go

theorem quo_zero {x y r : Nat} {v : Rat} (hx : Is x 0) (hy : Is y v) (hv : v ≠ 0) (hr : FOp .quo x y r) : Is r 0 := by
  obtain ⟨s, m, i, e1, h0⟩ := is_number hx
  obtain ⟨t, n, j, e2, rfl⟩ := is_number hy
  have hn : n ≠ 0 := by
    rintro rfl
    apply hv
    have e : ((0 : Nat) : Rat) = 0 := rfl
    rw [e, Rat.zero_mul]
    cases t <;> rfl
  have hm : m = 0 := by
    have hp := p2_pos i
    have h1 : (m : Rat) * p2 i = 0 := by
      cases s
      · exact h0.symm
      · have h0 : 0 = -((m : Rat) * p2 i) := h0
        grind
    rcases Rat.mul_eq_zero.1 h1 with h2 | h2
    · exact Rat.natCast_eq_zero_iff.1 h2
    · grind
  subst hm
  have hb : floatBits .quo .f64 x y = some (FloatKind.f64.format.nearest (s ^^ t) 0 (i - j - ((54 + n.log2 - (0 : Nat).log2 : Nat) : Int) - 1)) := by
    show FloatKind.f64.format.div x y = _
    unfold Ieee.Format.div
    rw [e1, e2, f64_fb]
    show Option.map _ (if n = 0 then _ else _) = _
    rw [if_neg hn]
    simp only [Nat.zero_shiftLeft, Nat.zero_div, Nat.zero_mod]
    rfl
  unfold FOp at hr
  rw [hb] at hr
  have hr : r = _ := hr
  rw [hr]
  obtain ⟨w, hw, _, hz⟩ := round_gen (s ^^ t) 0 (i - j - ((54 + n.log2 - (0 : Nat).log2 : Nat) : Int) - 1) (by rw [show ((0 : Nat) : Rat) = 0 from rfl, Rat.zero_mul]; exact p2_pos _)
  rw [hz (by rw [show ((0 : Nat) : Rat) = 0 from rfl, Rat.zero_mul])] at hw
  exact hw
theorem mul_zero_is {x y r : Nat} {v : Rat} (hx : Is x 0) (hy : Is y v) (hr : FOp .mul x y r) : Is r 0 := by
  obtain ⟨t, ht, rt⟩ := mul_gen hx hy (by rw [Rat.zero_mul]; unfold ab; decide +kernel) hr
  rw [rt.2 (Rat.zero_mul _)] at ht
  exact ht
theorem add_zero_is {x y r : Nat} (hx : Is x 0) (hy : Is y 0) (hr : FOp .add x y r) : Is r 0 := by
  obtain ⟨t, ht, rt⟩ := add_gen hx hy (by unfold ab; decide +kernel) hr
  rw [rt.2 (by grind)] at ht
  exact ht
theorem sub_zero_is {x y r : Nat} (hx : Is x 0) (hy : Is y 0) (hr : FOp .sub x y r) : Is r 0 := by
  obtain ⟨t, ht, rt⟩ := sub_gen hx hy (by unfold ab; decide +kernel) hr
  rw [rt.2 (by grind)] at ht
  exact ht
theorem cpr_zero {x y r : Nat × Nat} {w : Cq} (hx : CIs x c0) (hy : CIs y w) (h : CPr x y r) : CIs r c0 := by
  obtain ⟨ac, bd, ad, bc, h1, h2, h3, h4, h5, h6⟩ := h
  exact ⟨sub_zero_is (mul_zero_is hx.1 hy.1 h1) (mul_zero_is hx.2 hy.2 h2) h5, add_zero_is (mul_zero_is hx.1 hy.2 h3) (mul_zero_is hx.2 hy.1 h4) h6⟩
theorem hv_zero {back : Bool} {d : Nat} {L X : Nat → Nat × Nat} (h : HvR back d L X) : d ≤ 8 → (∀ i, i < 2 ^ d → CIs (L i) c0) → ∀ k, k < 2 ^ d → CIs (X k) c0 := by
  induction h with
  | @one L X h =>
    intro _ hz k hk
    obtain rfl : k = 0 := by omega
    rw [h]
    exact hz 0 (by decide)
  | @two d L E O X he ho hk ihe iho =>
    intro hd hz k hk2
    have hd7 : d < 8 := by omega
    obtain ⟨s1, s2, s3⟩ := pow_s hd7
    have p2' : 2 ^ (d + 1) = 2 * 2 ^ d := by rw [Nat.pow_succ, Nat.mul_comm]
    have zE := ihe (by omega) (fun i hi => hz (2 * i) (by omega))
    have zO := iho (by omega) (fun i hi => hz (2 * i + 1) (by omega))
    have key : ∀ k, k < 2 ^ d → CIs (X k) c0 ∧ CIs (X (k + 2 ^ d)) c0 := fun k hk2 => by
      obtain ⟨t, h1, h2, h3⟩ := hk k hk2
      have hks : k * 2 ^ (7 - d) < 256 := by
        have : k * 2 ^ (7 - d) ≤ 2 ^ d * 2 ^ (7 - d) := Nat.mul_le_mul_right _ (by omega)
        omega
      have iT := tw_is back hks
      rw [← angle_is hd7 k] at iT
      have zt := cpr_zero (zO k hk2) iT h1
      exact ⟨⟨add_zero_is (zE k hk2).1 zt.1 h2.1, add_zero_is (zE k hk2).2 zt.2 h2.2⟩, ⟨sub_zero_is (zE k hk2).1 zt.1 h3.1, sub_zero_is (zE k hk2).2 zt.2 h3.2⟩⟩
    by_cases q : k < 2 ^ d
    · exact (key k q).1
    · obtain ⟨k', rfl⟩ : ∃ k', k = k' + 2 ^ d := ⟨k - 2 ^ d, by omega⟩
      exact (key k' (by omega)).2
theorem wv_zero {back : Bool} {d : Nat} (hd : d ≤ 8) {L : List (Nat × Nat)} (hz : ∀ i, i < 2 ^ d → CIs (L.getD i (0, 0)) c0) {k j : Nat} {x : Nat × Nat} (h : WvR L k (2 ^ d) back j x) : j ≤ 2 ^ d → CIs x c0 := by
  induction h with
  | zero => exact fun _ => ⟨zero_is', zero_is'⟩
  | @next j x p y hx hp hy ih =>
    intro hj
    obtain ⟨ga, gb⟩ := gAt_is hd j k
    have iT := tw_is back gb
    rw [← ga] at iT
    have zp := cpr_zero (hz j (by omega)) iT hp
    have zx := ih (by omega)
    exact ⟨add_zero_is zx.1 zp.1 hy.1, add_zero_is zx.2 zp.2 hy.2⟩
theorem cmp_ok {t nr : Nat} {a b : Rat} (ht : Is t a) (hn : Is nr b) (h : ab a ≤ b) : (FloatKind.f64.format.order (szB t) nr == some .gt) = false := by
  rw [order_is (sz_is ht) hn]
  by_cases q : ab a < b
  · rw [if_pos q]; rfl
  · rw [if_neg q, if_pos (by grind)]; rfl
/-- a difference is small enough. -/
theorem sub_ok {a b nr : Nat} {p q B v : Rat} (ha : Is a p) (hb : Is b q) (hn : Is nr v) (h1 : p ≤ q + B) (h2 : q ≤ p + B) (hB : B ≤ p2 900) (hv : (B = 0 ∧ 0 ≤ v) ∨ B + uu * B + et ≤ v) {t : Nat} (ht : FOp .sub a b t) : (FloatKind.f64.format.order (szB t) nr == some .gt) = false := by
  have big : p2 900 < p2 1000 := by decide +kernel
  have hab : ab (p - q) ≤ B := ab_two (by grind) (by grind)
  obtain ⟨s, is, rs⟩ := sub_gen ha hb (by grind) ht
  refine cmp_ok is hn ?_
  rcases hv with ⟨b0, v0⟩ | hv
  · have e : p - q = 0 := by grind
    rw [rs.2 e]
    have : ab 0 = 0 := by unfold ab; decide +kernel
    rw [this]
    exact v0
  · have n := rd_near rs hab
    have := ab_iff hab
    exact ab_two (by grind) (by grind)
end Go.Proofs.YtngdemhhcablmakDoor
namespace Go.Proofs.YtngdemhhcablmakDoor
open Go

theorem c40_is : Is 4427038433705197568 (p2 (-40)) := by unfold Is; decide +kernel
theorem c32_is : Is 4463067230724161536 (p2 (-32)) := by unfold Is; decide +kernel
theorem p40_is : p2 (-40) = 8192 * uu := by decide +kernel
theorem p32_is : p2 (-32) = 2097152 * uu := by decide +kernel
theorem wd_root {z : Cq} {m : Rat} (h1 : ab z.re ≤ m) (h2 : ab z.im ≤ m) : Wd z (14143 / 10000 * m) := by
  have a := ab_iff h1
  have b := ab_iff h2
  have c := sqr_le a.1 a.2
  have e := sqr_le b.1 b.2
  have f := sqn m
  exact ⟨by grind, by grind⟩
def NoGt (nr : Nat) (a b : Nat) : Prop := ∀ t, FOp .sub a b t → (FloatKind.f64.format.order (szB t) nr == some .gt) = false
theorem inv_fin {L X R S : List (Nat × Nat)} {d : Nat} (hd : d ≤ 6) (hX : FsEnd L d false X) (hR : FsEnd X d true R) (hS : ∀ k, k < 2 ^ d → WvEnd L k (2 ^ d) false (S.getD k (0, 0))) {mb : Nat} {mo : Rat} (hm : Is mb mo) (hz : ∀ i, i < 2 ^ d → ∃ z, CIs (L.getD i (0, 0)) z ∧ ab z.re ≤ mo ∧ ab z.im ≤ mo) (hmo : mo = 0 ∨ p2 (-300) ≤ mo ∧ mo ≤ p2 300) {nr f1 far : Nat} (h40 : FOp .mul 4427038433705197568 mb nr) (h32 : FOp .mul 4463067230724161536 (floatOfInt .f64 ((2 ^ d : Nat) : Int)) f1) (hfar : FOp .mul f1 mb far) {i : Nat} (hi : i < 2 ^ d) :
    NoGt nr (R.getD i (0, 0)).1 (L.getD i (0, 0)).1 ∧ NoGt nr (R.getD i (0, 0)).2 (L.getD i (0, 0)).2 ∧ NoGt far (S.getD i (0, 0)).1 (X.getD i (0, 0)).1 ∧ NoGt far (S.getD i (0, 0)).2 (X.getD i (0, 0)).2 := by
  have hd8 : d ≤ 8 := by omega
  obtain ⟨X0, _, hvX, eX, _⟩ := hX
  obtain rfl := eX rfl
  obtain ⟨Y, _, hvY, _, ovR⟩ := hR
  have ovR := (ovR rfl).is
  obtain ⟨s, hs, es, _⟩ := hS i hi
  rw [es rfl]
  have hn : Is (floatOfInt .f64 ((2 ^ d : Nat) : Int)) ((2 ^ d : Nat) : Rat) := pow_is ⟨d, by omega⟩
  obtain ⟨n1, n2⟩ := pow_range hd8
  have p1000 : p2 (-40) * p2 300 < p2 1000 ∧ p2 (-32) * 256 < p2 1000 ∧ 256 * p2 300 < p2 1000 := by decide +kernel
  have pos40 := p2_pos (-40)
  have pos32 := p2_pos (-32)
  have ab32 : ab (p2 (-32) * ((2 ^ d : Nat) : Rat)) ≤ p2 (-32) * 256 := ab_two (by
    have := Rat.mul_nonneg (Rat.le_of_lt pos32) (show 0 ≤ 256 - ((2 ^ d : Nat) : Rat) by grind)
    grind) (by
    have := Rat.mul_nonneg (Rat.le_of_lt pos32) (show 0 ≤ ((2 ^ d : Nat) : Rat) by grind)
    have := Rat.mul_nonneg (Rat.le_of_lt pos32) (show (0 : Rat) ≤ 256 by decide +kernel)
    grind)
  obtain ⟨v1, iv1, rv1⟩ := mul_gen c32_is hn (by grind) h32
  rcases hmo with rfl | ⟨mlo, mhi⟩
  · have zL : ∀ j, j < 2 ^ d → CIs (L.getD j (0, 0)) c0 := fun j hj => by
      obtain ⟨z, iz, z1, z2⟩ := hz j hj
      have a := ab_iff z1
      have b := ab_iff z2
      have e : z = c0 := cq_eq (by show z.re = 0; grind) (by show z.im = 0; grind)
      rw [← e]
      exact iz
    have zX := hv_zero hvX hd8 zL
    have zY := hv_zero hvY hd8 zX
    have zR : CIs (R.getD i (0, 0)) c0 := ⟨quo_zero (zY i hi).1 hn (by grind) (ovR i hi).1, quo_zero (zY i hi).2 hn (by grind) (ovR i hi).2⟩
    have zS := wv_zero hd8 zL hs (Nat.le_refl _)
    have ab0 : ab 0 < p2 1000 := by unfold ab; decide +kernel
    obtain ⟨v2, iv2, rv2⟩ := mul_gen c40_is hm (by rw [Rat.mul_zero]; exact ab0) h40
    rw [rv2.2 (Rat.mul_zero _)] at iv2
    obtain ⟨v3, iv3, rv3⟩ := mul_gen iv1 hm (by rw [Rat.mul_zero]; exact ab0) hfar
    rw [rv3.2 (Rat.mul_zero _)] at iv3
    have p900 := p2_pos 900
    have fin : ∀ {a b nr : Nat}, Is a 0 → Is b 0 → Is nr 0 → NoGt nr a b := fun ha hb hn t ht => sub_ok (B := 0) ha hb hn (by grind) (by grind) (Rat.le_of_lt p900) (.inl ⟨rfl, Rat.le_refl⟩) ht
    exact ⟨fin zR.1 (zL i hi).1 iv2, fin zR.2 (zL i hi).2 iv2, fin zS.1 (zX i hi).1 iv3, fin zS.2 (zX i hi).2 iv3⟩
  · have mpos : 0 < mo := by have := p2_pos (-300); grind
    obtain ⟨l, hl⟩ : ∃ l, l = 14143 / 10000 * mo := ⟨_, rfl⟩
    have l0 : 0 ≤ l := by rw [hl]; grind
    obtain ⟨z, hzz⟩ : ∃ z : Nat → Cq, ∀ j, j < 2 ^ d → CIs (L.getD j (0, 0)) (z j) ∧ Wd (z j) l := by
      refine ⟨fun j => if hj : j < 2 ^ d then Classical.choose (hz j hj) else c0, fun j hj => ?_⟩
      have hc := Classical.choose_spec (hz j hj)
      simp only [hj, dite_true]
      exact ⟨hc.1, by rw [hl]; exact wd_root hc.2.1 hc.2.2⟩
    have pu := uu_pos
    have het : et ≤ uu * (uu * l) := by
      have h1 : et ≤ uu * (uu * p2 (-300)) := by decide +kernel
      have h2 := Rat.mul_nonneg (Rat.le_of_lt pu) (Rat.mul_nonneg (Rat.le_of_lt pu) (show 0 ≤ l - p2 (-300) by rw [hl]; grind))
      grind
    have hL : l ≤ p2 600 := by
      have h1 : 2 * p2 300 ≤ p2 600 := by decide +kernel
      rw [hl]
      grind
    have hL7 : l ≤ p2 700 := by
      have h1 : p2 600 ≤ p2 700 := by decide +kernel
      grind
    have hB : 100000 * p2 600 ≤ p2 900 := by decide +kernel
    obtain ⟨a0, a1, b1, b0⟩ := small_l l0
    obtain ⟨r, ir, nr'⟩ := back_near hd hvX hvY ovR hzz l0 het hL hi
    obtain ⟨x, ix, nx⟩ := fft_near hvX hd8 hzz l0 het hL7 i hi
    obtain ⟨t, it, nt⟩ := wv_near hd8 hzz l0 het hL7 hs (Nat.le_refl _)
    obtain ⟨_, _, e1⟩ := erH_le hd8 l0
    have e1 := e1 hd
    have iz := (hzz i hi).1
    have dR := nr'.parts
    have dS0 := nt.sub nx
    have sm : cS (cS t (sumC (fun j => cM (z j) (tw false (j * i * 2 ^ (8 - d)))) (2 ^ d))) (cS x (Fq false d z i)) = cS t x := cq_eq (by show t.re - (Fq false d z i).re - (x.re - (Fq false d z i).re) = t.re - x.re; grind) (by show t.im - (Fq false d z i).im - (x.im - (Fq false d z i).im) = t.im - x.im; grind)
    rw [sm] at dS0
    obtain ⟨F, hF⟩ : ∃ F : Rat, F = ((2 ^ d : Nat) : Rat) * (500 * (uu * l)) + 1806 * (uu * l) := ⟨_, rfl⟩
    have dS := (dS0.mono (show _ ≤ F by rw [hF]; grind)).parts
    have hm40 : ab (p2 (-40) * mo) ≤ p2 (-40) * mo := ab_two Rat.le_refl (by have := Rat.mul_nonneg (Rat.le_of_lt pos40) (Rat.le_of_lt mpos); grind)
    obtain ⟨v2, iv2, rv2⟩ := mul_gen c40_is hm (by
      have := Rat.mul_nonneg (Rat.le_of_lt pos40) (show 0 ≤ p2 300 - mo by grind)
      grind) h40
    have w2 := rd_near rv2 hm40
    have w1 := rd_near rv1 (Rat.le_refl (a := ab (p2 (-32) * ((2 ^ d : Nat) : Rat))))
    have ab32' : ab (p2 (-32) * ((2 ^ d : Nat) : Rat)) = p2 (-32) * ((2 ^ d : Nat) : Rat) := by
      unfold ab
      rw [if_pos (Rat.mul_nonneg (Rat.le_of_lt pos32) (by grind))]
    have su := small_uu
    have se : et ≤ uu * (uu * uu) := by decide +kernel
    have uum : uu * l = 14143 / 10000 * (uu * mo) := by rw [hl]; grind
    obtain ⟨um0, um1, um2, um3⟩ := small_l (Rat.le_of_lt mpos)
    have ulr : uu * (uu * l) = 14143 / 10000 * (uu * (uu * mo)) := by rw [hl]; grind
    have nearV : 4100 * (uu * l) + uu * (4100 * (uu * l)) + et ≤ v2 := by
      rw [p40_is] at w2
      have q1 : 8192 * uu * mo = 8192 * (uu * mo) := by grind
      have q2 : uu * (8192 * uu * mo) = 8192 * (uu * (uu * mo)) := by grind
      have q3 : uu * (4100 * (uu * l)) = 4100 * (uu * (uu * l)) := by grind
      rw [q3, ulr, uum]
      rw [ulr] at het
      grind
    have n0 : (0 : Rat) ≤ ((2 ^ d : Nat) : Rat) := by grind
    have w1b : 2000000 * (uu * ((2 ^ d : Nat) : Rat)) ≤ v1 ∧ v1 ≤ 3000000 * (uu * ((2 ^ d : Nat) : Rat)) := by
      rw [ab32', p32_is] at w1
      obtain ⟨k0, k1, k2, k3⟩ := small_l n0
      have q1 : 2097152 * uu * ((2 ^ d : Nat) : Rat) = 2097152 * (uu * ((2 ^ d : Nat) : Rat)) := by grind
      have q2 : uu * (2097152 * uu * ((2 ^ d : Nat) : Rat)) = 2097152 * (uu * (uu * ((2 ^ d : Nat) : Rat))) := by grind
      have q4 : et ≤ uu * ((2 ^ d : Nat) : Rat) := by
        have h1 : et ≤ uu := by decide +kernel
        have h2 := Rat.mul_nonneg (Rat.le_of_lt pu) (show 0 ≤ ((2 ^ d : Nat) : Rat) - 1 by grind)
        grind
      rw [q2] at w1
      rw [q1] at w1
      exact ⟨by grind, by grind⟩
    have v10 : 0 ≤ v1 := by
      have := Rat.mul_nonneg (Rat.le_of_lt pu) n0
      grind
    have hv1m := Rat.mul_nonneg v10 (Rat.le_of_lt mpos)
    have abv : ab (v1 * mo) ≤ v1 * mo := ab_two Rat.le_refl (by grind)
    have un1 : uu * ((2 ^ d : Nat) : Rat) ≤ 1 / 1000000000 := by
      have := Rat.mul_nonneg (Rat.le_of_lt pu) (show 0 ≤ 256 - ((2 ^ d : Nat) : Rat) by grind)
      grind
    obtain ⟨v3, iv3, rv3⟩ := mul_gen iv1 hm (by
      have h1 := Rat.mul_nonneg (show 0 ≤ 1 - v1 by grind) (Rat.le_of_lt mpos)
      have h2 : p2 300 < p2 1000 := by decide +kernel
      grind) hfar
    have w3 := rd_near rv3 abv
    have farV : F + uu * F + et ≤ v3 := by
      obtain ⟨N, hN⟩ : ∃ N, ((2 ^ d : Nat) : Rat) = N := ⟨_, rfl⟩
      rw [hN] at w1b n1 n2 n0 un1 hF
      have hNm : 0 ≤ N * (uu * mo) := Rat.mul_nonneg n0 um0
      have hNm1 := Rat.mul_nonneg (show 0 ≤ N - 1 by grind) um0
      have g1 := Rat.mul_nonneg (show 0 ≤ v1 - 2000000 * (uu * N) by grind) (Rat.le_of_lt mpos)
      have g2 : 2000000 * (uu * N) * mo = 2000000 * (N * (uu * mo)) := by grind
      have g3 := Rat.mul_nonneg (show 0 ≤ 1 / 1000000000000000 - uu by grind) hv1m
      have F1 : F ≤ 4000 * (N * (uu * mo)) := by
        rw [hF, uum]
        grind
      have F0 : 0 ≤ F := by
        rw [hF]
        have := Rat.mul_nonneg n0 a0
        grind
      have g4 := Rat.mul_nonneg (show 0 ≤ 1 / 1000000000000000 - uu by grind) F0
      have g5 : et ≤ N * (uu * mo) := by
        rw [ulr] at het
        grind
      grind
    have bR : 4100 * (uu * l) ≤ p2 900 := by grind
    have bF : F ≤ p2 900 := by
      rw [hF]
      have := mul_mono n0 a0 n2 (Rat.le_refl (a := uu * l))
      grind
    have eR1 : (cS r (z i)).re = r.re - (z i).re := rfl
    have eR2 : (cS r (z i)).im = r.im - (z i).im := rfl
    have eS1 : (cS t x).re = t.re - x.re := rfl
    have eS2 : (cS t x).im = t.im - x.im := rfl
    rw [eR1, eR2] at dR
    rw [eS1, eS2] at dS
    exact ⟨fun q hq => sub_ok ir.1 iz.1 iv2 (by grind) (by grind) bR (.inr nearV) hq, fun q hq => sub_ok ir.2 iz.2 iv2 (by grind) (by grind) bR (.inr nearV) hq, fun q hq => sub_ok it.1 ix.1 iv3 (by grind) (by grind) bF (.inr farV) hq, fun q hq => sub_ok it.2 ix.2 iv3 (by grind) (by grind) bF (.inr farV) hq⟩
end Go.Proofs.YtngdemhhcablmakDoor
