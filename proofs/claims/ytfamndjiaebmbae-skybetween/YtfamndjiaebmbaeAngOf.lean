/-
  The document's angle of a point, by its contract.
-/
import Derived.Test.YtfamndjiaebmbaeSinIs
import Derived.Test.YtfamndjiaebmbaeFin1
namespace Go.Proofs.Ytfamndjiaebmbae
open Go Go.RowKit

def ltz (x : Nat) : Bool := FloatKind.f64.format.order x 0 == some .lt
def eqz (x : Nat) : Bool := FloatKind.f64.format.order x 0 == some .eq
def szB (x : Nat) : Nat := if ltz x then ngB x else x
def bisV (u v : Nat) : Int := bis (tst u v) 39 0 324000000001
def quad (bx bY : Bool) (r : Int) : Int := if bx && bY then 648000000000 + r else if bx then 648000000000 - r else if bY then nrm (1296000000000 - r) else r
def hasV (y x : Nat) : Bool := finB x && finB y && !(eqz x && eqz y)
def angV (y x : Nat) : Int := if hasV y x then quad (ltz x) (ltz y) (bisV (szB x) (szB y)) else 0
theorem bisV_range (u v : Nat) : 0 ≤ bisV u v ∧ bisV u v ≤ 324000000000 := by
  obtain ⟨a, b, _⟩ := bis_end (tst u v) 39 0 324000000001 (by omega) (by decide)
  unfold bisV
  omega

theorem bis_stop (t : Int → Bool) (n : Nat) (lo hi : Int) (h : ¬ 1 < hi - lo) : bis t n lo hi = lo := by
  cases n with
  | zero => rfl
  | succ n => rw [bis, if_neg h]
theorem bis_step (t : Int → Bool) (lo hi : Int) (h1 : 1 < hi - lo) (h2 : hi - lo ≤ 549755813888) : bis t 39 lo hi = if t ((lo + hi) / 2) then bis t 39 ((lo + hi) / 2) hi else bis t 39 lo ((lo + hi) / 2) := by
  rw [← bis_more t 39 lo hi (by rw [show (2 : Int) ^ 39 = 549755813888 by decide]; exact h2)]
  have a2 : bis t (39 + 1) lo hi = if 1 < hi - lo then (if t ((lo + hi) / 2) then bis t 39 ((lo + hi) / 2) hi else bis t 39 lo ((lo + hi) / 2)) else lo := rfl
  rw [a2, if_pos h1]

set_option maxHeartbeats 4000000 in
theorem angleOf_no (y x : Nat) (w : World) (h : hasV y x = false) :
    Calls Try.prog 30 #[.float .f64 y, .float .f64 x] w fun e w' => e = .returned (.tuple #[.int .i64 0, .bool false]) ∧ Below w.heap.size w w' := by
  have h : finB x = false ∨ (finB x = true ∧ finB y = false) ∨ (finB x = true ∧ finB y = true ∧ eqz x = true ∧ eqz y = true) := by
    unfold hasV at h
    revert h
    cases finB x <;> cases finB y <;> cases eqz x <;> cases eqz y <;> simp
  have fx := fun v => finite_any x v
  have fy := fun v => finite_any y v
  unfold eqz at h
  generalize finB x = bx at *
  generalize finB y = bY at *
  rcases h with rfl | ⟨rfl, rfl⟩ | ⟨rfl, rfl, h1, h2⟩
  all_goals
    go_enter Try.func30, Try.ntmps30
    go_wp2_with fail
    refine (fx _).mono ?_
    rintro e w1 ⟨rfl, n1, rfl⟩
    go_wp2_with fail
    refine (fy _).mono ?_
    rintro e w2 ⟨rfl, n2, rfl⟩
    go_wp2
    go_ret2
    exact ⟨rfl, below_drewN (Below.refl _ _) _⟩

set_option maxHeartbeats 4000000 in
theorem angleOf_yes (y x : Nat) (w : World) (h : hasV y x = true) :
    Calls Try.prog 30 #[.float .f64 y, .float .f64 x] w fun e w' => e = .returned (.tuple #[.int .i64 (quad (ltz x) (ltz y) (bisV (szB x) (szB y))), .bool true]) ∧ Below w.heap.size w w' := by
  have h : finB x = true ∧ finB y = true ∧ (eqz x = false ∨ (eqz x = true ∧ eqz y = false)) := by
    unfold hasV at h
    revert h
    cases finB x <;> cases finB y <;> cases eqz x <;> cases eqz y <;> simp
  obtain ⟨gx, gy, he⟩ := h
  have fx := fun v => finite_any x v
  have fy := fun v => finite_any y v
  rw [gx] at fx
  rw [gy] at fy
  have hR := bisV_range (szB x) (szB y)
  have hR2 : bis (tst (szB x) (szB y)) 39 0 324000000001 = bisV (szB x) (szB y) := rfl
  generalize bisV (szB x) (szB y) = R at *
  have htst := fun (m : Int) (wa wb : World) => tst_is (u := szB x) (v := szB y) (m := m) (fnum_is .mul (sinV m) (szB x) wa) (fnum_is .mul (cosV m) (szB y) wb)
  generalize tst (szB x) (szB y) = T at hR2 htst
  have hm := fun t x y v => run_fmul (P := Try.prog) t x y v
  have hneg : ∀ x v, (Op.unary UnOp.neg (.float .f64 x)).run Try.prog v = .ok (.float .f64 (ngB x)) v := fun _ _ => rfl
  have hno : ∀ v, Calls Try.prog 31 #[.int .i64 (1296000000000 - R)] v fun e w' => e = .returned (.int .i64 (nrm (1296000000000 - R))) ∧ w' = v := fun v => normOf_any _ v
  have HR := hideF hR2
  clear hR2 h gx gy
  rcases he with he | ⟨he, he2⟩ <;> cases hlx : ltz x <;> cases hly : ltz y
  case inl.false.false =>
    rw [show quad false false R = R by simp [quad]]
    rw [show szB x = x by simp [szB, hlx], show szB y = y by simp [szB, hly]] at htst
    unfold ltz at hlx hly
    unfold eqz at he
    go_enter Try.func30, Try.ntmps30
    go_wp2_with fail
    refine (fx _).mono ?_
    rintro e w1 ⟨rfl, n1, rfl⟩
    go_wp2_with fail
    refine (fy _).mono ?_
    rintro e w2 ⟨rfl, n2, rfl⟩
    go_wp2
    go_loopw [10, 11, 12, 13, 14, 15, 16] (fun lo hi _ _ _ _ _ wl => ∃ a b : Int, lo = .int .i64 a ∧ hi = .int .i64 b ∧ 0 ≤ a ∧ a < b ∧ b ≤ 324000000001 ∧ HeldF (bis T 39 a b = R) ∧ Below w.heap.size w wl) (fun lo hi _ _ _ _ _ _ => (RowKit.intOf hi - RowKit.intOf lo).toNat)
    case atStart => exact ⟨0, 324000000001, rfl, rfl, by omega, by omega, by omega, HR, below_drewN (Below.refl _ _) _⟩
    case round =>
      obtain ⟨a, b, rfl, rfl, ha, hab, hb, HB, hbe⟩ := hrel
      by_cases hgt : 1 < b - a
      · have hst := bis_step T a b hgt (by omega)
        rw [unhideF HB] at hst
        have hm1 : a < (a + b) / 2 := by omega
        have hm2 : (a + b) / 2 < b := by omega
        go_wp2_with fail
        refine (sinCos_is _ _).mono ?_
        rintro e w3 ⟨rfl, hb3⟩
        generalize (a + b) / 2 = mid at *
        have hbb : HeldF (Below w.heap.size w w3) := hbe.trans (hb3.mono hbe.size)
        have ht := htst mid
        clear htst hb3 hbe
        cases hT : T mid
        · rw [hT] at ht hst
          simp only [Bool.false_eq_true, if_false] at hst
          have HS := hideF hst.symm
          clear hst
          go_wp2
          go_roundw
          case rel => exact ⟨a, mid, rfl, rfl, by omega, by omega, by omega, HS, below_drewN (unhideF hbb) _⟩
          case measure => simp [RowKit.intOf]; omega
        · rw [hT] at ht hst
          simp only [if_true] at hst
          have HS := hideF hst.symm
          clear hst
          go_wp2
          go_roundw
          case rel => exact ⟨mid, b, rfl, rfl, by omega, by omega, by omega, HS, below_drewN (unhideF hbb) _⟩
          case measure => simp [RowKit.intOf]; omega
      · have hst := bis_stop T 39 a b hgt
        rw [unhideF HB] at hst
        have hst2 : a = R := hst.symm
        clear hst HB
        rw [hst2] at hgt ⊢
        clear hst2
        go_wp2
        go_ret2
        exact ⟨rfl, hbe⟩
  case inl.false.true =>
    rw [show quad false true R = nrm (1296000000000 - R) by simp [quad]]
    rw [show szB x = x by simp [szB, hlx], show szB y = ngB y by simp [szB, hly]] at htst
    unfold ltz at hlx hly
    unfold eqz at he
    go_enter Try.func30, Try.ntmps30
    go_wp2_with fail
    refine (fx _).mono ?_
    rintro e w1 ⟨rfl, n1, rfl⟩
    go_wp2_with fail
    refine (fy _).mono ?_
    rintro e w2 ⟨rfl, n2, rfl⟩
    go_wp2
    go_loopw [10, 11, 12, 13, 14, 15, 16] (fun lo hi _ _ _ _ _ wl => ∃ a b : Int, lo = .int .i64 a ∧ hi = .int .i64 b ∧ 0 ≤ a ∧ a < b ∧ b ≤ 324000000001 ∧ HeldF (bis T 39 a b = R) ∧ Below w.heap.size w wl) (fun lo hi _ _ _ _ _ _ => (RowKit.intOf hi - RowKit.intOf lo).toNat)
    case atStart => exact ⟨0, 324000000001, rfl, rfl, by omega, by omega, by omega, HR, below_drewN (Below.refl _ _) _⟩
    case round =>
      obtain ⟨a, b, rfl, rfl, ha, hab, hb, HB, hbe⟩ := hrel
      by_cases hgt : 1 < b - a
      · have hst := bis_step T a b hgt (by omega)
        rw [unhideF HB] at hst
        have hm1 : a < (a + b) / 2 := by omega
        have hm2 : (a + b) / 2 < b := by omega
        go_wp2_with fail
        refine (sinCos_is _ _).mono ?_
        rintro e w3 ⟨rfl, hb3⟩
        generalize (a + b) / 2 = mid at *
        have hbb : HeldF (Below w.heap.size w w3) := hbe.trans (hb3.mono hbe.size)
        have ht := htst mid
        clear htst hb3 hbe
        cases hT : T mid
        · rw [hT] at ht hst
          simp only [Bool.false_eq_true, if_false] at hst
          have HS := hideF hst.symm
          clear hst
          go_wp2
          go_roundw
          case rel => exact ⟨a, mid, rfl, rfl, by omega, by omega, by omega, HS, below_drewN (unhideF hbb) _⟩
          case measure => simp [RowKit.intOf]; omega
        · rw [hT] at ht hst
          simp only [if_true] at hst
          have HS := hideF hst.symm
          clear hst
          go_wp2
          go_roundw
          case rel => exact ⟨mid, b, rfl, rfl, by omega, by omega, by omega, HS, below_drewN (unhideF hbb) _⟩
          case measure => simp [RowKit.intOf]; omega
      · have hst := bis_stop T 39 a b hgt
        rw [unhideF HB] at hst
        have hst2 : a = R := hst.symm
        clear hst HB
        rw [hst2] at hgt ⊢
        clear hst2
        go_wp2_with fail
        refine (hno _).mono ?_
        rintro e w4 ⟨rfl, rfl⟩
        go_wp2
        go_ret2
        exact ⟨rfl, hbe⟩
  case inl.true.false =>
    rw [show quad true false R = 648000000000 - R by simp [quad]]
    rw [show szB x = ngB x by simp [szB, hlx], show szB y = y by simp [szB, hly]] at htst
    unfold ltz at hlx hly
    unfold eqz at he
    go_enter Try.func30, Try.ntmps30
    go_wp2_with fail
    refine (fx _).mono ?_
    rintro e w1 ⟨rfl, n1, rfl⟩
    go_wp2_with fail
    refine (fy _).mono ?_
    rintro e w2 ⟨rfl, n2, rfl⟩
    go_wp2
    go_loopw [10, 11, 12, 13, 14, 15, 16] (fun lo hi _ _ _ _ _ wl => ∃ a b : Int, lo = .int .i64 a ∧ hi = .int .i64 b ∧ 0 ≤ a ∧ a < b ∧ b ≤ 324000000001 ∧ HeldF (bis T 39 a b = R) ∧ Below w.heap.size w wl) (fun lo hi _ _ _ _ _ _ => (RowKit.intOf hi - RowKit.intOf lo).toNat)
    case atStart => exact ⟨0, 324000000001, rfl, rfl, by omega, by omega, by omega, HR, below_drewN (Below.refl _ _) _⟩
    case round =>
      obtain ⟨a, b, rfl, rfl, ha, hab, hb, HB, hbe⟩ := hrel
      by_cases hgt : 1 < b - a
      · have hst := bis_step T a b hgt (by omega)
        rw [unhideF HB] at hst
        have hm1 : a < (a + b) / 2 := by omega
        have hm2 : (a + b) / 2 < b := by omega
        go_wp2_with fail
        refine (sinCos_is _ _).mono ?_
        rintro e w3 ⟨rfl, hb3⟩
        generalize (a + b) / 2 = mid at *
        have hbb : HeldF (Below w.heap.size w w3) := hbe.trans (hb3.mono hbe.size)
        have ht := htst mid
        clear htst hb3 hbe
        cases hT : T mid
        · rw [hT] at ht hst
          simp only [Bool.false_eq_true, if_false] at hst
          have HS := hideF hst.symm
          clear hst
          go_wp2
          go_roundw
          case rel => exact ⟨a, mid, rfl, rfl, by omega, by omega, by omega, HS, below_drewN (unhideF hbb) _⟩
          case measure => simp [RowKit.intOf]; omega
        · rw [hT] at ht hst
          simp only [if_true] at hst
          have HS := hideF hst.symm
          clear hst
          go_wp2
          go_roundw
          case rel => exact ⟨mid, b, rfl, rfl, by omega, by omega, by omega, HS, below_drewN (unhideF hbb) _⟩
          case measure => simp [RowKit.intOf]; omega
      · have hst := bis_stop T 39 a b hgt
        rw [unhideF HB] at hst
        have hst2 : a = R := hst.symm
        clear hst HB
        rw [hst2] at hgt ⊢
        clear hst2
        go_wp2
        go_ret2
        exact ⟨rfl, hbe⟩
  case inl.true.true =>
    rw [show quad true true R = 648000000000 + R by simp [quad]]
    rw [show szB x = ngB x by simp [szB, hlx], show szB y = ngB y by simp [szB, hly]] at htst
    unfold ltz at hlx hly
    unfold eqz at he
    go_enter Try.func30, Try.ntmps30
    go_wp2_with fail
    refine (fx _).mono ?_
    rintro e w1 ⟨rfl, n1, rfl⟩
    go_wp2_with fail
    refine (fy _).mono ?_
    rintro e w2 ⟨rfl, n2, rfl⟩
    go_wp2
    go_loopw [10, 11, 12, 13, 14, 15, 16] (fun lo hi _ _ _ _ _ wl => ∃ a b : Int, lo = .int .i64 a ∧ hi = .int .i64 b ∧ 0 ≤ a ∧ a < b ∧ b ≤ 324000000001 ∧ HeldF (bis T 39 a b = R) ∧ Below w.heap.size w wl) (fun lo hi _ _ _ _ _ _ => (RowKit.intOf hi - RowKit.intOf lo).toNat)
    case atStart => exact ⟨0, 324000000001, rfl, rfl, by omega, by omega, by omega, HR, below_drewN (Below.refl _ _) _⟩
    case round =>
      obtain ⟨a, b, rfl, rfl, ha, hab, hb, HB, hbe⟩ := hrel
      by_cases hgt : 1 < b - a
      · have hst := bis_step T a b hgt (by omega)
        rw [unhideF HB] at hst
        have hm1 : a < (a + b) / 2 := by omega
        have hm2 : (a + b) / 2 < b := by omega
        go_wp2_with fail
        refine (sinCos_is _ _).mono ?_
        rintro e w3 ⟨rfl, hb3⟩
        generalize (a + b) / 2 = mid at *
        have hbb : HeldF (Below w.heap.size w w3) := hbe.trans (hb3.mono hbe.size)
        have ht := htst mid
        clear htst hb3 hbe
        cases hT : T mid
        · rw [hT] at ht hst
          simp only [Bool.false_eq_true, if_false] at hst
          have HS := hideF hst.symm
          clear hst
          go_wp2
          go_roundw
          case rel => exact ⟨a, mid, rfl, rfl, by omega, by omega, by omega, HS, below_drewN (unhideF hbb) _⟩
          case measure => simp [RowKit.intOf]; omega
        · rw [hT] at ht hst
          simp only [if_true] at hst
          have HS := hideF hst.symm
          clear hst
          go_wp2
          go_roundw
          case rel => exact ⟨mid, b, rfl, rfl, by omega, by omega, by omega, HS, below_drewN (unhideF hbb) _⟩
          case measure => simp [RowKit.intOf]; omega
      · have hst := bis_stop T 39 a b hgt
        rw [unhideF HB] at hst
        have hst2 : a = R := hst.symm
        clear hst HB
        rw [hst2] at hgt ⊢
        clear hst2
        go_wp2
        go_ret2
        exact ⟨rfl, hbe⟩
  case inr.false.false =>
    rw [show quad false false R = R by simp [quad]]
    rw [show szB x = x by simp [szB, hlx], show szB y = y by simp [szB, hly]] at htst
    unfold ltz at hlx hly
    unfold eqz at he he2
    go_enter Try.func30, Try.ntmps30
    go_wp2_with fail
    refine (fx _).mono ?_
    rintro e w1 ⟨rfl, n1, rfl⟩
    go_wp2_with fail
    refine (fy _).mono ?_
    rintro e w2 ⟨rfl, n2, rfl⟩
    go_wp2
    go_loopw [10, 11, 12, 13, 14, 15, 16] (fun lo hi _ _ _ _ _ wl => ∃ a b : Int, lo = .int .i64 a ∧ hi = .int .i64 b ∧ 0 ≤ a ∧ a < b ∧ b ≤ 324000000001 ∧ HeldF (bis T 39 a b = R) ∧ Below w.heap.size w wl) (fun lo hi _ _ _ _ _ _ => (RowKit.intOf hi - RowKit.intOf lo).toNat)
    case atStart => exact ⟨0, 324000000001, rfl, rfl, by omega, by omega, by omega, HR, below_drewN (Below.refl _ _) _⟩
    case round =>
      obtain ⟨a, b, rfl, rfl, ha, hab, hb, HB, hbe⟩ := hrel
      by_cases hgt : 1 < b - a
      · have hst := bis_step T a b hgt (by omega)
        rw [unhideF HB] at hst
        have hm1 : a < (a + b) / 2 := by omega
        have hm2 : (a + b) / 2 < b := by omega
        go_wp2_with fail
        refine (sinCos_is _ _).mono ?_
        rintro e w3 ⟨rfl, hb3⟩
        generalize (a + b) / 2 = mid at *
        have hbb : HeldF (Below w.heap.size w w3) := hbe.trans (hb3.mono hbe.size)
        have ht := htst mid
        clear htst hb3 hbe
        cases hT : T mid
        · rw [hT] at ht hst
          simp only [Bool.false_eq_true, if_false] at hst
          have HS := hideF hst.symm
          clear hst
          go_wp2
          go_roundw
          case rel => exact ⟨a, mid, rfl, rfl, by omega, by omega, by omega, HS, below_drewN (unhideF hbb) _⟩
          case measure => simp [RowKit.intOf]; omega
        · rw [hT] at ht hst
          simp only [if_true] at hst
          have HS := hideF hst.symm
          clear hst
          go_wp2
          go_roundw
          case rel => exact ⟨mid, b, rfl, rfl, by omega, by omega, by omega, HS, below_drewN (unhideF hbb) _⟩
          case measure => simp [RowKit.intOf]; omega
      · have hst := bis_stop T 39 a b hgt
        rw [unhideF HB] at hst
        have hst2 : a = R := hst.symm
        clear hst HB
        rw [hst2] at hgt ⊢
        clear hst2
        go_wp2
        go_ret2
        exact ⟨rfl, hbe⟩
  case inr.false.true =>
    rw [show quad false true R = nrm (1296000000000 - R) by simp [quad]]
    rw [show szB x = x by simp [szB, hlx], show szB y = ngB y by simp [szB, hly]] at htst
    unfold ltz at hlx hly
    unfold eqz at he he2
    go_enter Try.func30, Try.ntmps30
    go_wp2_with fail
    refine (fx _).mono ?_
    rintro e w1 ⟨rfl, n1, rfl⟩
    go_wp2_with fail
    refine (fy _).mono ?_
    rintro e w2 ⟨rfl, n2, rfl⟩
    go_wp2
    go_loopw [10, 11, 12, 13, 14, 15, 16] (fun lo hi _ _ _ _ _ wl => ∃ a b : Int, lo = .int .i64 a ∧ hi = .int .i64 b ∧ 0 ≤ a ∧ a < b ∧ b ≤ 324000000001 ∧ HeldF (bis T 39 a b = R) ∧ Below w.heap.size w wl) (fun lo hi _ _ _ _ _ _ => (RowKit.intOf hi - RowKit.intOf lo).toNat)
    case atStart => exact ⟨0, 324000000001, rfl, rfl, by omega, by omega, by omega, HR, below_drewN (Below.refl _ _) _⟩
    case round =>
      obtain ⟨a, b, rfl, rfl, ha, hab, hb, HB, hbe⟩ := hrel
      by_cases hgt : 1 < b - a
      · have hst := bis_step T a b hgt (by omega)
        rw [unhideF HB] at hst
        have hm1 : a < (a + b) / 2 := by omega
        have hm2 : (a + b) / 2 < b := by omega
        go_wp2_with fail
        refine (sinCos_is _ _).mono ?_
        rintro e w3 ⟨rfl, hb3⟩
        generalize (a + b) / 2 = mid at *
        have hbb : HeldF (Below w.heap.size w w3) := hbe.trans (hb3.mono hbe.size)
        have ht := htst mid
        clear htst hb3 hbe
        cases hT : T mid
        · rw [hT] at ht hst
          simp only [Bool.false_eq_true, if_false] at hst
          have HS := hideF hst.symm
          clear hst
          go_wp2
          go_roundw
          case rel => exact ⟨a, mid, rfl, rfl, by omega, by omega, by omega, HS, below_drewN (unhideF hbb) _⟩
          case measure => simp [RowKit.intOf]; omega
        · rw [hT] at ht hst
          simp only [if_true] at hst
          have HS := hideF hst.symm
          clear hst
          go_wp2
          go_roundw
          case rel => exact ⟨mid, b, rfl, rfl, by omega, by omega, by omega, HS, below_drewN (unhideF hbb) _⟩
          case measure => simp [RowKit.intOf]; omega
      · have hst := bis_stop T 39 a b hgt
        rw [unhideF HB] at hst
        have hst2 : a = R := hst.symm
        clear hst HB
        rw [hst2] at hgt ⊢
        clear hst2
        go_wp2_with fail
        refine (hno _).mono ?_
        rintro e w4 ⟨rfl, rfl⟩
        go_wp2
        go_ret2
        exact ⟨rfl, hbe⟩
  case inr.true.false =>
    rw [show quad true false R = 648000000000 - R by simp [quad]]
    rw [show szB x = ngB x by simp [szB, hlx], show szB y = y by simp [szB, hly]] at htst
    unfold ltz at hlx hly
    unfold eqz at he he2
    go_enter Try.func30, Try.ntmps30
    go_wp2_with fail
    refine (fx _).mono ?_
    rintro e w1 ⟨rfl, n1, rfl⟩
    go_wp2_with fail
    refine (fy _).mono ?_
    rintro e w2 ⟨rfl, n2, rfl⟩
    go_wp2
    go_loopw [10, 11, 12, 13, 14, 15, 16] (fun lo hi _ _ _ _ _ wl => ∃ a b : Int, lo = .int .i64 a ∧ hi = .int .i64 b ∧ 0 ≤ a ∧ a < b ∧ b ≤ 324000000001 ∧ HeldF (bis T 39 a b = R) ∧ Below w.heap.size w wl) (fun lo hi _ _ _ _ _ _ => (RowKit.intOf hi - RowKit.intOf lo).toNat)
    case atStart => exact ⟨0, 324000000001, rfl, rfl, by omega, by omega, by omega, HR, below_drewN (Below.refl _ _) _⟩
    case round =>
      obtain ⟨a, b, rfl, rfl, ha, hab, hb, HB, hbe⟩ := hrel
      by_cases hgt : 1 < b - a
      · have hst := bis_step T a b hgt (by omega)
        rw [unhideF HB] at hst
        have hm1 : a < (a + b) / 2 := by omega
        have hm2 : (a + b) / 2 < b := by omega
        go_wp2_with fail
        refine (sinCos_is _ _).mono ?_
        rintro e w3 ⟨rfl, hb3⟩
        generalize (a + b) / 2 = mid at *
        have hbb : HeldF (Below w.heap.size w w3) := hbe.trans (hb3.mono hbe.size)
        have ht := htst mid
        clear htst hb3 hbe
        cases hT : T mid
        · rw [hT] at ht hst
          simp only [Bool.false_eq_true, if_false] at hst
          have HS := hideF hst.symm
          clear hst
          go_wp2
          go_roundw
          case rel => exact ⟨a, mid, rfl, rfl, by omega, by omega, by omega, HS, below_drewN (unhideF hbb) _⟩
          case measure => simp [RowKit.intOf]; omega
        · rw [hT] at ht hst
          simp only [if_true] at hst
          have HS := hideF hst.symm
          clear hst
          go_wp2
          go_roundw
          case rel => exact ⟨mid, b, rfl, rfl, by omega, by omega, by omega, HS, below_drewN (unhideF hbb) _⟩
          case measure => simp [RowKit.intOf]; omega
      · have hst := bis_stop T 39 a b hgt
        rw [unhideF HB] at hst
        have hst2 : a = R := hst.symm
        clear hst HB
        rw [hst2] at hgt ⊢
        clear hst2
        go_wp2
        go_ret2
        exact ⟨rfl, hbe⟩
  case inr.true.true =>
    rw [show quad true true R = 648000000000 + R by simp [quad]]
    rw [show szB x = ngB x by simp [szB, hlx], show szB y = ngB y by simp [szB, hly]] at htst
    unfold ltz at hlx hly
    unfold eqz at he he2
    go_enter Try.func30, Try.ntmps30
    go_wp2_with fail
    refine (fx _).mono ?_
    rintro e w1 ⟨rfl, n1, rfl⟩
    go_wp2_with fail
    refine (fy _).mono ?_
    rintro e w2 ⟨rfl, n2, rfl⟩
    go_wp2
    go_loopw [10, 11, 12, 13, 14, 15, 16] (fun lo hi _ _ _ _ _ wl => ∃ a b : Int, lo = .int .i64 a ∧ hi = .int .i64 b ∧ 0 ≤ a ∧ a < b ∧ b ≤ 324000000001 ∧ HeldF (bis T 39 a b = R) ∧ Below w.heap.size w wl) (fun lo hi _ _ _ _ _ _ => (RowKit.intOf hi - RowKit.intOf lo).toNat)
    case atStart => exact ⟨0, 324000000001, rfl, rfl, by omega, by omega, by omega, HR, below_drewN (Below.refl _ _) _⟩
    case round =>
      obtain ⟨a, b, rfl, rfl, ha, hab, hb, HB, hbe⟩ := hrel
      by_cases hgt : 1 < b - a
      · have hst := bis_step T a b hgt (by omega)
        rw [unhideF HB] at hst
        have hm1 : a < (a + b) / 2 := by omega
        have hm2 : (a + b) / 2 < b := by omega
        go_wp2_with fail
        refine (sinCos_is _ _).mono ?_
        rintro e w3 ⟨rfl, hb3⟩
        generalize (a + b) / 2 = mid at *
        have hbb : HeldF (Below w.heap.size w w3) := hbe.trans (hb3.mono hbe.size)
        have ht := htst mid
        clear htst hb3 hbe
        cases hT : T mid
        · rw [hT] at ht hst
          simp only [Bool.false_eq_true, if_false] at hst
          have HS := hideF hst.symm
          clear hst
          go_wp2
          go_roundw
          case rel => exact ⟨a, mid, rfl, rfl, by omega, by omega, by omega, HS, below_drewN (unhideF hbb) _⟩
          case measure => simp [RowKit.intOf]; omega
        · rw [hT] at ht hst
          simp only [if_true] at hst
          have HS := hideF hst.symm
          clear hst
          go_wp2
          go_roundw
          case rel => exact ⟨mid, b, rfl, rfl, by omega, by omega, by omega, HS, below_drewN (unhideF hbb) _⟩
          case measure => simp [RowKit.intOf]; omega
      · have hst := bis_stop T 39 a b hgt
        rw [unhideF HB] at hst
        have hst2 : a = R := hst.symm
        clear hst HB
        rw [hst2] at hgt ⊢
        clear hst2
        go_wp2
        go_ret2
        exact ⟨rfl, hbe⟩
theorem angleOf_any (y x : Nat) (w : World) :
    Calls Try.prog 30 #[.float .f64 y, .float .f64 x] w fun e w' => e = .returned (.tuple #[.int .i64 (angV y x), .bool (hasV y x)]) ∧ Below w.heap.size w w' := by
  cases h : hasV y x
  · have e : angV y x = 0 := by unfold angV; rw [h]; rfl
    rw [e]
    exact angleOf_no y x w h
  · have e : angV y x = quad (ltz x) (ltz y) (bisV (szB x) (szB y)) := by unfold angV; rw [h, if_pos rfl]
    rw [e]
    exact angleOf_yes y x w h
end Go.Proofs.Ytfamndjiaebmbae
