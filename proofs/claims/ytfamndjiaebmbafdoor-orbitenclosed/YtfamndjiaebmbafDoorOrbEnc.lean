/-
  The law OrbitEnclosed: its walk, out of the program's Kepler by its contract.
-/
import Derived.Test.YtfamndjiaebmbafDoorKepOf
namespace Go.Proofs.YtfamndjiaebmbafDoor
open Go Go.RowKit

def shapeE (ad : Addr) : Value := .iface 111 (.pointer (some ad))
/-- where the error of a wrong shape lies. -/
structure ShapeAt (w : World) (ad : Addr) : Prop where
  c : w.cell? ⟨0, 0, none⟩ = some (shapeE ad)
  l : 0 < w.heap.size
theorem ShapeAt.below {w u : World} {ad : Addr} (h : ShapeAt w ad) (k : Below w.heap.size w u) : ShapeAt u ad := ⟨(k.cell (p := ⟨0, 0, none⟩) h.l).trans h.c, Nat.lt_of_lt_of_le h.l k.size⟩
/-- what the program's Kepler answers. -/
def KepIs (a : Addr) (m : Int) (e : Nat) (x : Ending) : Prop := (okE e = true ∧ x = .returned (.tuple #[.int .i64 (kepV m e), .nilIface])) ∨ (okE e = false ∧ x = .returned (.tuple #[.int .i64 0, shapeE a]))
theorem low1 : evl (.op .mul (.num 13835058055282163712) (.num radB)) = 13665419372489102656 := by decide +kernel
theorem low2 : evl (.op .sub (.num 13665419372489102656) (.num 4397347889687374747)) = 13665425562189299083 := by decide +kernel
def vTop : Rat := (dv (FloatKind.f64.format.read 4397347889687374747)).getD 0
def vLow : Rat := (dv (FloatKind.f64.format.read 13665425562189299083)).getD 0
theorem top_v : Is 4397347889687374747 vTop := by unfold Is; decide +kernel
theorem low_v : Is 13665425562189299083 vLow := by unfold Is; decide +kernel
theorem enc_v : 8 / 1000000000000000 ≤ vTop ∧ vLow ≤ -2 * rho - 8 / 1000000000000000 := by decide +kernel
theorem nn1 : (FloatKind.f64.format.read 13665419372489102656).isNaN = false := by decide +kernel
theorem nn2 : (FloatKind.f64.format.read 13665425562189299083).isNaN = false := by decide +kernel
theorem ev_closed {e : FE} {r v : Nat} (h : Ev e r) (hv : evl e = v) (hn : (FloatKind.f64.format.read v).isNaN = false) : r = v := by
  rcases h.same (ev_evl e) with k | ⟨_, k⟩
  · exact k.trans hv
  · rw [hv] at k
    unfold Nan at k
    rw [hn] at k
    cases k
theorem enc_tests {r : Nat} {F : Rat} (h : Is r F) (h1 : F ≤ 8 / 1000000000000000) (h2 : -2 * rho - 8 / 1000000000000000 ≤ F) :
    (FloatKind.f64.format.order r 4397347889687374747 == some .lt || FloatKind.f64.format.order r 4397347889687374747 == some .eq) = true ∧ (FloatKind.f64.format.order r 13665425562189299083 == some .gt || FloatKind.f64.format.order r 13665425562189299083 == some .eq) = true := by
  obtain ⟨e1, e2⟩ := enc_v
  rw [order_is h top_v, order_is h low_v]
  constructor
  · by_cases a : F < vTop
    · rw [if_pos a]; rfl
    · rw [if_neg a, if_pos (by grind)]; rfl
  · rw [if_neg (by grind)]
    split <;> rfl
set_option maxRecDepth 100000 in
set_option maxHeartbeats 8000000 in
theorem enc_walk {a : Addr} (m : Int) (e : Nat) (w : World) (hK : ∀ u, Below w.heap.size w u → Calls Tryd.prog 17 #[.int .i64 m, .float .f64 e] u fun x u' => KepIs a m e x ∧ Below u.heap.size u u') :
    Calls Tryd.prog 5 #[.int .i64 m, .float .f64 e] w fun x w' => x = .returned (.bool true) ∧ Below w.heap.size w w' := by
  have hk := hK w (Below.refl _ _)
  clear hK
  have hparts : okE e = (ge0 e && lt1 e) := rfl
  unfold ge0 lt1 at hparts
  go_enter Tryd.func5, Tryd.ntmps5
  go_wp2_with fail
  refine hk.mono ?_
  rintro x w1 ⟨hx, k1⟩
  have HW := hideR k1
  clear k1 hk
  rcases hx with ⟨hok, rfl⟩ | ⟨hok, rfl⟩
  · rw [hok] at hparts
    have hp2 := hparts.symm
    rw [Bool.and_eq_true] at hp2
    obtain ⟨ok1, ok2⟩ := hp2
    obtain ⟨v, ie, v1, v2⟩ := okE_spec hok
    have HE : HeldR (∀ kk p q mm f, FOp .mul (floatOfInt .f64 (kepV m e)) radB kk → FOp .mul e (sinV (kepV m e)) p → FOp .sub kk p q → FOp .mul (floatOfInt .f64 (nrm m)) radB mm → FOp .sub q mm f → (FloatKind.f64.format.order f 4397347889687374747 == some .lt || FloatKind.f64.format.order f 4397347889687374747 == some .eq) = true ∧ (FloatKind.f64.format.order f 13665425562189299083 == some .gt || FloatKind.f64.format.order f 13665425562189299083 == some .eq) = true) := by
      intro kk p q mm f h1 h2 h3 h4 h5
      have hE : Ev (kE e m (kepV m e)) f := .op (.op (.op (.num _) (.num _) h1) (.op (.num _) (.num _) h2) h3) (.op (.num _) (.num _) h4) h5
      obtain ⟨F, iF, b1, b2⟩ := enclosed m ie v1 v2 hE
      exact enc_tests iF b1 b2
    have hr := kepV_range m e
    clear hparts hok ie v1 v2
    have HL1 : HeldR (∀ t, FOp .mul 13835058055282163712 radB t → t = 13665419372489102656) := fun t ht => ev_closed (e := .op .mul (.num 13835058055282163712) (.num radB)) (.op (.num _) (.num _) ht) low1 nn1
    have HL2 : HeldR (∀ t, FOp .sub 13665419372489102656 4397347889687374747 t → t = 13665425562189299083) := fun t ht => ev_closed (e := .op .sub (.num 13665419372489102656) (.num 4397347889687374747)) (.op (.num _) (.num _) ht) low2 nn2
    generalize kepV m e = k at *
    go_wp2_with fail
    refine (sinCos_is _ _).mono ?_
    rintro x w2 ⟨rfl, k2⟩
    replace HW := hideR (below_go (unhideR HW) k2)
    clear k2
    generalize sinV k = s at *
    generalize cosV k = c at *
    go_wp2_with fail
    refine upon_float four_mul ?_
    intro kk n1 h1
    go_wp2_with fail
    refine upon_float four_mul ?_
    intro p n2 h2
    go_wp2_with fail
    refine upon_float four_sub ?_
    intro q n3 h3
    go_wp2_with fail
    refine (normOf_any _ _).mono ?_
    rintro x w3 ⟨rfl, rfl⟩
    go_wp2_with fail
    refine upon_float four_mul ?_
    intro mm n4 h4
    go_wp2_with fail
    refine upon_float four_sub ?_
    intro f n5 h5
    obtain ⟨t1, t2⟩ := unhideR HE kk p q mm f h1 h2 h3 h4 h5
    clear h1 h2 h3 h4 h5 HE
    go_wp2_with fail
    refine upon_float four_mul ?_
    intro g1 n6 h6
    obtain rfl := unhideR HL1 g1 h6
    go_wp2_with fail
    refine upon_float four_sub ?_
    intro g2 n7 h7
    obtain rfl := unhideR HL2 g2 h7
    clear h6 h7 HL1 HL2
    go_wp2
    go_ret
    exact ⟨rfl, below_drewN (unhideR HW) _⟩
  · rw [hok] at hparts
    have hp := hparts.symm
    clear hparts
    unfold shapeE
    obtain ⟨o1, h1⟩ : ∃ o, FloatKind.f64.format.order e 0 = o := ⟨_, rfl⟩
    obtain ⟨o2, h2⟩ : ∃ o, FloatKind.f64.format.order e 4607182418800017408 = o := ⟨_, rfl⟩
    rw [h1, h2] at hp
    cases hA : (o1 == some .gt || o1 == some .eq)
    · clear hp
      go_wp2
      go_ret
      exact ⟨rfl, unhideR HW⟩
    · rw [hA, Bool.true_and] at hp
      go_wp2
      go_ret
      exact ⟨rfl, unhideR HW⟩
end Go.Proofs.YtfamndjiaebmbafDoor
