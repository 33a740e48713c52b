/-
  The document's points and places, by contracts.
-/
import Derived.Test.YtfamndjiaebmbaeBits1
import Derived.Test.YtfamndjiaebmbaeKit1
import Derived.Test.YtfamndjiaebmbaeCrossOf
import Derived.Test.YtfamndjiaebmbaeAngOf
import Derived.Test.YtfamndjiaebmbaeSgdOf
namespace Go.Proofs.Ytfamndjiaebmbae
open Go Go.RowKit

/-- a place's point. -/
structure PointIs (lon lat : Int) (x y z : Nat) : Prop where
  x : FOp .mul (cosV lat) (cosV lon) x
  y : FOp .mul (cosV lat) (sinV lon) y
  z : z = sinV lat
set_option maxHeartbeats 4000000 in
theorem pointOf_any (lon lat : Int) (w : World) : Calls Try.prog 11 #[.agg #[.int .i64 lon, .int .i64 lat]] w fun e w' => ∃ x y z, e = .returned (.agg #[.float .f64 x, .float .f64 y, .float .f64 z]) ∧ PointIs lon lat x y z ∧ Below w.heap.size w w' := by
  have hsf := run_store_float Try.prog
  go_enter Try.func11, Try.ntmps11
  go_wp2_with fail
  refine (sinCos_is _ _).mono ?_
  rintro e w1 ⟨rfl, k1⟩
  obtain ⟨h0, h1, hB1⟩ := two_blocks k1
  have HW := hideR hB1
  have A0 := hideR h0
  have A1 := hideR h1
  clear k1 h0 h1 hB1
  obtain ⟨⟨c0, c1⟩, _⟩ := pair_at (unhideR A0)
  go_wp2_with fail
  refine (sinCos_is _ _).mono ?_
  rintro e w2 ⟨rfl, k2⟩
  replace A1 := hideR (keepB (unhideR A1) k2)
  replace HW := hideR (below_go (unhideR HW) k2)
  clear k2 c0 c1 A0
  have HP := hideR (fun x y (hx : FOp .mul (cosV lat) (cosV lon) x) (hy : FOp .mul (cosV lat) (sinV lon) y) => PointIs.mk hx hy (rfl : sinV lat = sinV lat))
  obtain ⟨⟨d0, d1, d2⟩, f0, f1, f2⟩ := three_at (unhideR A1)
  generalize sinV lat = s at *
  generalize cosV lat = c at *
  generalize sinV lon = sl at *
  generalize cosV lon = cl at *
  go_wp2_with fail
  refine upon_float four_mul ?_
  intro x nx hx
  go_wp2_with fail
  refine upon_float four_mul ?_
  intro y ny hy
  go_wp2
  simp [bodyPost, results, Try.results11, go_sem, d0, d1, d2]
  exact ⟨x, y, s, ⟨rfl, rfl, rfl⟩, unhideR HP x y hx hy, below_three (below_drewN (unhideR HW) _) (by omega) _ _ _⟩
def hxE (sd cl cd ch sl : Nat) : FE := .op .sub (mE sd cl) (.op .mul (mE cd ch) (.num sl))
def hyE (cd sh : Nat) : FE := .op .sub (.num 0) (mE cd sh)
def hzE (sd sl cd ch cl : Nat) : FE := .op .add (mE sd sl) (.op .mul (mE cd ch) (.num cl))
set_option maxHeartbeats 8000000 in
theorem horizonOf_any (hour dec lat : Int) (w : World) : Calls Try.prog 17 #[.int .i64 hour, .int .i64 dec, .int .i64 lat] w fun e w' => ∃ v, e = .returned v ∧ VSet (hxE (sinV dec) (cosV lat) (cosV dec) (cosV hour) (sinV lat)) (hyE (cosV dec) (sinV hour)) (hzE (sinV dec) (sinV lat) (cosV dec) (cosV hour) (cosV lat)) v ∧ Below w.heap.size w w' := by
  have hsf := run_store_float Try.prog
  have hh := fun v => sinCos_is hour v
  have hd := fun v => sinCos_is dec v
  have hl := fun v => sinCos_is lat v
  generalize sinV hour = sh at *
  generalize cosV hour = ch at *
  generalize sinV dec = sd at *
  generalize cosV dec = cd at *
  generalize sinV lat = sl at *
  generalize cosV lat = cl at *
  go_enter Try.func17, Try.ntmps17
  go_wp2_with fail
  refine (hh _).mono ?_
  rintro e w1 ⟨rfl, k1⟩
  have R1 := hideR (keepB (alloc_last w _) k1)
  have HW := hideR (below_go ((Below.refl w.heap.size w).alloc (Nat.le_refl _) _) k1)
  clear k1 hh
  go_wp2_with fail
  refine (hd _).mono ?_
  rintro e w2 ⟨rfl, k2⟩
  replace R1 := hideR (keepB (unhideR R1) k2)
  replace HW := hideR (below_go (unhideR HW) k2)
  clear k2 hd
  go_wp2_with fail
  refine (hl _).mono ?_
  rintro e w3 ⟨rfl, k3⟩
  replace R1 := hideR (keepB (unhideR R1) k3)
  replace HW := hideR (below_go (unhideR HW) k3)
  clear k3 hl
  obtain ⟨⟨j0, j1, j2⟩, f0, f1, f2⟩ := three_at (unhideR R1)
  go_wp2_with fail
  refine upon_float four_mul ?_
  intro p n1 hp
  go_wp2_with fail
  refine upon_float four_mul ?_
  intro x n2 hx
  go_wp2_with fail
  refine upon_float four_mul ?_
  intro z n3 hz
  go_wp2_with fail
  refine upon_float four_mul ?_
  intro y n4 hy
  go_wp2_with fail
  refine (less_any _ _ _ _).mono ?_
  rintro e w4 ⟨rx, rfl, ⟨q1, g1, g2⟩, n5, rfl⟩
  go_wp2_with fail
  refine upon_float four_sub ?_
  intro ry n6 g3
  go_wp2_with fail
  refine (plus_any _ _ _ _).mono ?_
  rintro e w4 ⟨rz, rfl, ⟨q2, g4, g5⟩, n7, rfl⟩
  go_wp2
  simp [bodyPost, results, Try.results17, go_sem, j0, j1, j2]
  exact ⟨⟨rx, ry, rz, rfl, .op (ev_m hx) (.op (ev_m hp) (.num _) g1) g2, .op (.num _) (ev_m hy) g3, .op (ev_m hz) (.op (ev_m hp) (.num _) g4) g5⟩, below_three (below_drewN (unhideR HW) _) (Nat.le_refl _) _ _ _⟩
/-- where a point is. -/
def PlaceIs (x y z : Nat) (e : Ending) : Prop := ∃ r t, Ev (.op .add (mE x x) (mE y y)) t ∧ FSq t r ∧
  (((finB x && finB y && finB z && hasV z r) = true ∧ e = .returned (.tuple #[.agg #[.int .i64 (angV y x), .int .i64 (sgd (angV z r))], .bool true])) ∨
   ((finB x && finB y && finB z && hasV z r) = false ∧ e = .returned (.tuple #[.agg #[.int .i64 0, .int .i64 0], .bool false])))
theorem below_two {w v : World} {b : Nat} (h : Below w.heap.size w v) (hb : w.heap.size ≤ b) (x0 x1 : Value) : Below w.heap.size w ((v.setCell ⟨b, 0, none⟩ x0).setCell ⟨b, 1, none⟩ x1) := (h.setCell hb x0).setCell hb x1
theorem root_some (x y : Nat) : ∃ r t, Ev (.op .add (mE x x) (mE y y)) t ∧ FSq t r := by
  obtain ⟨_, r, t, _, h1, h2⟩ := qset_some (.op .add (mE x x) (mE y y))
  exact ⟨r, t, h1, h2⟩
set_option maxHeartbeats 8000000 in
theorem placeOf_any (x y z : Nat) (w : World) : Calls Try.prog 13 #[.agg #[.float .f64 x, .float .f64 y, .float .f64 z]] w fun e w' => PlaceIs x y z e ∧ Below w.heap.size w w' := by
  have hfx := fun v => finite_any x v
  have hfy := fun v => finite_any y v
  have hfz := fun v => finite_any z v
  have hyx := fun v => angleOf_any y x v
  have hzr := fun r v => angleOf_any z r v
  have hsg := fun a v => signedOf_any a v
  have HP : HeldR (∀ r t fx fy fz, finB x = fx → finB y = fy → finB z = fz → Ev (.op .add (mE x x) (mE y y)) t → FSq t r → ((fx && fy && fz && hasV z r) = true → PlaceIs x y z (.returned (.tuple #[.agg #[.int .i64 (angV y x), .int .i64 (sgd (angV z r))], .bool true]))) ∧ ((fx && fy && fz && hasV z r) = false → PlaceIs x y z (.returned (.tuple #[.agg #[.int .i64 0, .int .i64 0], .bool false])))) := by
    intro r t fx fy fz h1 h2 h3 ht hr
    subst h1 h2 h3
    exact ⟨fun h => ⟨r, t, ht, hr, .inl ⟨h, rfl⟩⟩, fun h => ⟨r, t, ht, hr, .inr ⟨h, rfl⟩⟩⟩
  obtain ⟨fx, h1⟩ : ∃ f, finB x = f := ⟨_, rfl⟩
  obtain ⟨fy, h2⟩ : ∃ f, finB y = f := ⟨_, rfl⟩
  obtain ⟨fz, h3⟩ : ∃ f, finB z = f := ⟨_, rfl⟩
  have HQ : HeldR (∀ r t, Ev (.op .add (mE x x) (mE y y)) t → FSq t r → ((fx && fy && fz && hasV z r) = true → PlaceIs x y z (.returned (.tuple #[.agg #[.int .i64 (angV y x), .int .i64 (sgd (angV z r))], .bool true]))) ∧ ((fx && fy && fz && hasV z r) = false → PlaceIs x y z (.returned (.tuple #[.agg #[.int .i64 0, .int .i64 0], .bool false])))) := fun r t => unhideR HP r t fx fy fz h1 h2 h3
  rw [h1] at hfx
  rw [h2] at hfy
  rw [h3] at hfz
  clear HP h1 h2 h3
  go_enter Try.func13, Try.ntmps13
  go_wp2_with fail
  refine (hfx _).mono ?_
  rintro e w1 ⟨rfl, n1, rfl⟩
  go_wp2_with fail
  refine (hfy _).mono ?_
  rintro e w1 ⟨rfl, n2, rfl⟩
  go_wp2_with fail
  refine (hfz _).mono ?_
  rintro e w1 ⟨rfl, n3, rfl⟩
  clear hfx hfy hfz
  by_cases hall : fx = true ∧ fy = true ∧ fz = true
  case neg =>
    obtain ⟨r, t, ht, hr⟩ := root_some x y
    have hno := (unhideR HQ r t ht hr).2 (by cases fx <;> cases fy <;> cases fz <;> simp_all)
    have HN := hideR hno
    clear hno ht hr HQ
    have hall2 : fx = false ∨ (fx = true ∧ fy = false) ∨ (fx = true ∧ fy = true ∧ fz = false) := by
      cases fx <;> cases fy <;> cases fz <;> simp_all
    rcases hall2 with rfl | ⟨rfl, rfl⟩ | ⟨rfl, rfl, rfl⟩
    all_goals
      go_wp2
      simp [bodyPost, results, Try.results13, go_sem]
      exact ⟨unhideR HN, below_two (below_drewN (below_al2 w _ _) _) (by omega) _ _⟩
  obtain ⟨rfl, rfl, rfl⟩ := hall
  go_wp2_with fail
  refine upon_float four_mul ?_
  intro m nm hm
  go_wp2_with fail
  refine (plus_any _ _ _ _).mono ?_
  rintro e w1 ⟨t, rfl, ⟨p, hp, ht⟩, n4, rfl⟩
  have HT := hideR (Ev.op (ev_m hm) (ev_m hp) ht)
  clear hm hp ht
  go_wp2_with fail
  refine (mathSqrt_any _ _).mono ?_
  rintro e w1 ⟨r, rfl, hr, n5, rfl⟩
  have HR := hideR (unhideR HQ r t (unhideR HT) hr)
  clear HQ HT hr
  go_wp2_with fail
  refine (hzr _ _).mono ?_
  rintro e w2 ⟨rfl, k2⟩
  obtain ⟨h0, h1, hBw⟩ := two_blocks (below_go (below_drewN (Below.refl _ _) _) k2)
  have HW := hideR hBw
  have A0 := hideR h0
  have A1 := hideR h1
  clear k2 h0 h1 hBw hzr
  have lw := (unhideR HW).size
  cases hh : hasV z r
  case false =>
    have HN := hideR ((unhideR HR).2 (by rw [hh]; rfl))
    obtain ⟨⟨d0, d1⟩, f0, f1⟩ := pair_at (unhideR A1)
    clear HR A0 A1 hyx hsg
    generalize angV z r = az at *
    go_wp2
    simp [bodyPost, results, Try.results13, go_sem, d0, d1]
    exact ⟨unhideR HN, below_two (unhideR HW) (by omega) _ _⟩
  case true =>
    have HN := hideR ((unhideR HR).1 (by rw [hh]; rfl))
    obtain ⟨⟨c0, c1, c2⟩, _⟩ := three_at (unhideR A0)
    clear HR A0
    generalize angV z r = az at *
    generalize angV y x = ax at *
    go_wp2_with fail
    refine (hyx _).mono ?_
    rintro e w3 ⟨rfl, k3⟩
    replace A1 := hideR (keepB (unhideR A1) k3)
    replace HW := hideR (below_go (unhideR HW) k3)
    clear k3 hyx c0 c1 c2
    obtain ⟨⟨d0, d1⟩, f0, f1⟩ := pair_at (unhideR A1)
    go_wp2_with fail
    refine (hsg _ _).mono ?_
    rintro e w4 ⟨rfl, rfl⟩
    clear hsg A1
    go_wp2
    simp [bodyPost, results, Try.results13, go_sem, d0, d1]
    exact ⟨unhideR HN, below_two (unhideR HW) (by omega) _ _⟩
end Go.Proofs.Ytfamndjiaebmbae
