/-
  The document's sine and cosine, by their contract.
-/
import Derived.Test.YtngdemhhcablmakDoorSeries
import Derived.Test.YtngdemhhcablmakDoorNrmA
namespace Go.Proofs.YtngdemhhcablmakDoor
open Go Go.RowKit

theorem below_on {B n : Nat} {a w v : World} (h : Below B a w) (k : Below (w.drewN n).heap.size (w.drewN n) v) (hB : B ≤ w.heap.size) : Below B a v :=
  (below_drewN h n).trans (k.mono hB)

def horE (z : FE) (o : Nat) : Nat → FE
  | 0 => .num (CB o 8)
  | j + 1 => .op .add (.num (CB o (7 - j))) (.op .mul z (horE z o j))
def seriesE (z : FE) (o : Nat) : FE := .op .add (.num one) (.op .mul z (horE z o 7))
theorem hor_sub {z : Nat} {ze : FE} (hz : Ev ze z) (o : Nat) : ∀ (j : Nat) {r : Nat}, Ev (hor z o j) r → Ev (horE ze o j) r
  | 0, _, h => h
  | j + 1, _, h => by
    cases h with
    | op ha hb h =>
      cases hb with
      | op hc hd h' =>
        cases hc
        exact .op ha (.op hz (hor_sub hz o j hd) h') h
theorem ser_sub {z : Nat} {ze : FE} (hz : Ev ze z) {o r : Nat} (h : Ev (serE z o) r) : Ev (seriesE ze o) r := by
  cases h with
  | op ha hb h =>
    cases hb with
    | op hc hd h' =>
      cases hc
      exact .op ha (.op hz (hor_sub hz o 7 hd) h') h

def qOf (a : Int) : Int := (nrm a + 162000000000) / 324000000000
def rOf (a : Int) : Int := nrm a - qOf a * 324000000000
theorem qOf_range (a : Int) : 0 ≤ qOf a ∧ qOf a ≤ 4 := by have := nrm_range a; unfold qOf; omega
def radB : Nat := 4437543736006956352
def xE (r : Int) : FE := .op .mul (.num (floatOfInt .f64 r)) (.num radB)
def zE (r : Int) : FE := .op .mul (xE r) (xE r)
def sE (r : Int) : FE := .op .mul (xE r) (seriesE (zE r) 1)
def cE (r : Int) : FE := seriesE (zE r) 0
def ngB (x : Nat) : Nat := Op.negFloat .f64 x
def turnS (q : Int) (s c : Nat) : Nat := if q % 4 = 0 then s else if q % 4 = 1 then c else if q % 4 = 2 then ngB s else ngB c
def turnC (q : Int) (s c : Nat) : Nat := if q % 4 = 0 then c else if q % 4 = 1 then ngB s else if q % 4 = 2 then ngB c else s

set_option maxHeartbeats 2000000 in
theorem sinCos_any (a : Int) (w : World) :
    Calls Tryd.prog 48 #[.int .i64 a] w fun e w' => ∃ s c, e = .returned (.tuple #[.float .f64 (turnS (qOf a) s c), .float .f64 (turnC (qOf a) s c)]) ∧ Ev (sE (rOf a)) s ∧ Ev (cE (rOf a)) c ∧ Below w.heap.size w w' := by
  have hn := nrm_range a
  have hq := qOf_range a
  have hqd : qOf a = (nrm a + 162000000000) / 324000000000 := rfl
  have hrd : rOf a = nrm a - qOf a * 324000000000 := rfl
  have hm := fun t x y v => run_fmul (P := Tryd.prog) t x y v
  have hneg : ∀ x v, (Op.unary UnOp.neg (.float .f64 x)).run Tryd.prog v = .ok (.float .f64 (ngB x)) v := fun _ _ => rfl
  have hcall := fun v => normOf_any a v
  generalize nrm a = n at *
  generalize qOf a = q at *
  generalize rOf a = r at *
  go_enter Tryd.func48, Tryd.ntmps48
  go_wp2_with fail
  refine (hcall _).mono ?_
  rintro e w1 ⟨rfl, rfl⟩
  go_wp2
  go_loop [0, 4] (fun x k => ∃ j : Nat, (j : Int) ≤ q ∧ x = .int .i64 (n - j * 324000000000) ∧ k = .int .i64 j) (fun _ k => 5 - (RowKit.intOf k).toNat)
  case atStart => exact ⟨0, by omega, by simp, rfl⟩
  case round =>
    obtain ⟨j, hj, rfl, rfl⟩ := hrel
    by_cases hlt : (j : Int) < q
    · rcases (show 162000000000 < n - (j : Int) * 324000000000 ∨ n - (j : Int) * 324000000000 = 162000000000 by omega) with hg | hg
      · go_wp2
        exact ⟨⟨j + 1, by omega, by go_num, by go_num⟩, by simp [RowKit.intOf]; omega⟩
      · rw [hg]
        go_wp2
        exact ⟨⟨j + 1, by omega, by go_num, by go_num⟩, by simp [RowKit.intOf]; omega⟩
    · obtain hjq : (j : Int) = q := by omega
      have hr : n - (j : Int) * 324000000000 = r := by rw [hjq, hrd]
      rw [hr]
      have hr1 : decide (162000000000 < r) = false := by simp; omega
      have hr2 : (r == 162000000000) = false := by simp; omega
      rw [hjq]
      clear hr hjq hlt hj hqd hrd hn
      go_wp2_with fail
      have hx := fnum_is .mul (floatOfInt .f64 r) radB w1
      have hz := fnum_is .mul (fnum .mul (floatOfInt .f64 r) radB w1) (fnum .mul (floatOfInt .f64 r) radB w1) (w1.drewN (fdraw .mul (floatOfInt .f64 r) radB))
      unfold radB at hx hz
      generalize fnum .mul (fnum .mul (floatOfInt .f64 r) 4437543736006956352 w1) (fnum .mul (floatOfInt .f64 r) 4437543736006956352 w1) (w1.drewN (fdraw .mul (floatOfInt .f64 r) 4437543736006956352)) = z at *
      generalize hdd : fdraw .mul (floatOfInt .f64 r) 4437543736006956352 + fdraw .mul (fnum .mul (floatOfInt .f64 r) 4437543736006956352 w1) (fnum .mul (floatOfInt .f64 r) 4437543736006956352 w1) = d at *
      generalize fnum .mul (floatOfInt .f64 r) 4437543736006956352 w1 = x at *
      clear hdd
      have ex : Ev (xE r) x := .op (.num _) (.num _) hx
      have ez : Ev (zE r) z := .op ex ex hz
      have EX := hideF ex
      have EZ := hideF ez
      clear ex ez hx hz
      refine (series_any z 1 _ (by omega)).mono ?_
      rintro e w2 ⟨s1, rfl, ev1, b1⟩
      have EV1 := hideF ev1
      clear ev1
      go_wp2_with fail
      have hs := fnum_is .mul x s1 w2
      generalize fnum .mul x s1 w2 = s at *
      have ES : HeldF (Ev (sE r) s) := .op (unhideF EX) (ser_sub (unhideF EZ) (unhideF EV1)) hs
      clear hs EV1
      refine (series_any z 0 _ (by omega)).mono ?_
      rintro e w3 ⟨c, rfl, ev0, b2⟩
      have EC : HeldF (Ev (cE r) c) := ser_sub (unhideF EZ) ev0
      clear ev0 EX EZ
      have B : HeldF (Below w1.heap.size w1 w3) := below_on (below_on (Below.refl w1.heap.size w1) b1 (Nat.le_refl _)) b2 b1.size
      have hsz := b1.size
      clear b1 b2
      have hq5 : q = 0 ∨ q = 1 ∨ q = 2 ∨ q = 3 ∨ q = 4 := by omega
      clear hq
      rcases hq5 with rfl | rfl | rfl | rfl | rfl
      all_goals
        go_wp2
        go_ret2
        exact ⟨s, c, rfl, unhideF ES, unhideF EC, unhideF B⟩
end Go.Proofs.YtngdemhhcablmakDoor
