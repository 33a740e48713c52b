/-
  The corners of three points, the one across the longest side first: the program's, by contract.
-/
import Derived.Test.YtkdmeclbnnjdgalDoorPdF
namespace Go.Proofs.YtkdmeclbnnjdgalDoor
open Go Go.RowKit Go.Shelf Go.Lib Go.Sort

def setArr4 (cs : Array Value) (o : Nat) (a b c d : Value) : Array Value := (((cs.setIfInBounds o a).setIfInBounds (o + 1) b).setIfInBounds (o + 2) c).setIfInBounds (o + 3) d
def set4w (u : World) (g o : Nat) (a b c d : Value) : World := (((u.setCell ⟨g, o, none⟩ a).setCell ⟨g, o + 1, none⟩ b).setCell ⟨g, o + 2, none⟩ c).setCell ⟨g, o + 3, none⟩ d
theorem set4_at {v : World} {b : Nat} {cs : Array Value} {ty : TypeId} (h : v.heap[b]? = some (.cells cs ty)) (o : Nat) (x y z t : Value) : ((((v.setCell ⟨b, o, none⟩ x).setCell ⟨b, o + 1, none⟩ y).setCell ⟨b, o + 2, none⟩ z).setCell ⟨b, o + 3, none⟩ t).heap[b]? = some (.cells (setArr4 cs o x y z t) ty) := by
  simp [World.setCell, Array.getElem?_modify, h, setArr4]
theorem set4_ne {v : World} {b g o : Nat} {ob : Obj} (x y z t : Value) (h : v.heap[b]? = some ob) (hb : b ≠ g) : ((((v.setCell ⟨g, o, none⟩ x).setCell ⟨g, o + 1, none⟩ y).setCell ⟨g, o + 2, none⟩ z).setCell ⟨g, o + 3, none⟩ t).heap[b]? = some ob := by
  rw [Below.heap_setCell _ _ _ _ hb, Below.heap_setCell _ _ _ _ hb, Below.heap_setCell _ _ _ _ hb, Below.heap_setCell _ _ _ _ hb]
  exact h
theorem set4_bl {B : Nat} {w u : World} (h : Below B w u) {k : Nat} (o : Nat) (hk : B ≤ k) (x y z t : Value) : Below B w ((((u.setCell ⟨k, o, none⟩ x).setCell ⟨k, o + 1, none⟩ y).setCell ⟨k, o + 2, none⟩ z).setCell ⟨k, o + 3, none⟩ t) := (((h.setCell hk x).setCell hk y).setCell hk z).setCell hk t
def setArr5 (cs : Array Value) (o : Nat) (a b c d e : Value) : Array Value := ((((cs.setIfInBounds o a).setIfInBounds (o + 1) b).setIfInBounds (o + 2) c).setIfInBounds (o + 3) d).setIfInBounds (o + 4) e
theorem set5_at {v : World} {b : Nat} {cs : Array Value} {ty : TypeId} (h : v.heap[b]? = some (.cells cs ty)) (o : Nat) (x y z s t : Value) : (((((v.setCell ⟨b, o, none⟩ x).setCell ⟨b, o + 1, none⟩ y).setCell ⟨b, o + 2, none⟩ z).setCell ⟨b, o + 3, none⟩ s).setCell ⟨b, o + 4, none⟩ t).heap[b]? = some (.cells (setArr5 cs o x y z s t) ty) := by
  simp [World.setCell, Array.getElem?_modify, h, setArr5]
theorem set5_ne {v : World} {b g o : Nat} {ob : Obj} (x y z s t : Value) (h : v.heap[b]? = some ob) (hb : b ≠ g) : (((((v.setCell ⟨g, o, none⟩ x).setCell ⟨g, o + 1, none⟩ y).setCell ⟨g, o + 2, none⟩ z).setCell ⟨g, o + 3, none⟩ s).setCell ⟨g, o + 4, none⟩ t).heap[b]? = some ob := by
  rw [Below.heap_setCell _ _ _ _ hb, Below.heap_setCell _ _ _ _ hb, Below.heap_setCell _ _ _ _ hb, Below.heap_setCell _ _ _ _ hb, Below.heap_setCell _ _ _ _ hb]
  exact h
theorem set5_bl {B : Nat} {w u : World} (h : Below B w u) {k : Nat} (o : Nat) (hk : B ≤ k) (x y z s t : Value) : Below B w (((((u.setCell ⟨k, o, none⟩ x).setCell ⟨k, o + 1, none⟩ y).setCell ⟨k, o + 2, none⟩ z).setCell ⟨k, o + 3, none⟩ s).setCell ⟨k, o + 4, none⟩ t) := ((((h.setCell hk x).setCell hk y).setCell hk z).setCell hk s).setCell hk t
/-- three corners in order. -/
def cor3 (p0 p1 p2 : Pt) : Nat → Cor := insF 2 (insF 1 (tri3 ⟨p0, 0, btw p1 p2⟩ ⟨p1, 1, btw p2 p0⟩ ⟨p2, 2, btw p0 p1⟩))
set_option maxRecDepth 1000000 in
set_option maxHeartbeats 4000000 in
theorem corners_any (p0 p1 p2 : Pt) (w : World) (h0 : isPtB p0 = true) (h1 : isPtB p1 = true) (h2 : isPtB p2 = true) :
    Calls Tryd.prog 35 #[.agg #[.int .i64 p0.x, .int .i64 p0.y, .int .i64 p0.z, .int .i64 p1.x, .int .i64 p1.y, .int .i64 p1.z, .int .i64 p2.x, .int .i64 p2.y, .int .i64 p2.z]] w fun e w' => e = .returned (.agg (cells3 (cor3 p0 p1 p2 0) (cor3 p0 p1 p2 1) (cor3 p0 p1 p2 2))) ∧ Below w.heap.size w w' := by
  have HA0 : HeldR (∀ {g : Nat} (u : World), u.heap[g]? = some (.cells #[.int .i64 p0.x, .int .i64 p0.y, .int .i64 p0.z, .int .i64 p1.x, .int .i64 p1.y, .int .i64 p1.z, .int .i64 p2.x, .int .i64 p2.y, .int .i64 p2.z] 87) → Calls Tryd.prog 62 #[.int .i64 0, .pointer (some ⟨g, 0, none⟩)] u fun e w' => e = .returned (.int .i64 (btw p1 p2)) ∧ Below u.heap.size u w') := hideR (fun u z => across0_any p0 p1 p2 z h0 h1 h2)
  have HA1 : HeldR (∀ {g : Nat} (u : World), u.heap[g]? = some (.cells #[.int .i64 p0.x, .int .i64 p0.y, .int .i64 p0.z, .int .i64 p1.x, .int .i64 p1.y, .int .i64 p1.z, .int .i64 p2.x, .int .i64 p2.y, .int .i64 p2.z] 87) → Calls Tryd.prog 62 #[.int .i64 1, .pointer (some ⟨g, 0, none⟩)] u fun e w' => e = .returned (.int .i64 (btw p2 p0)) ∧ Below u.heap.size u w') := hideR (fun u z => across1_any p0 p1 p2 z h0 h1 h2)
  have HA2 : HeldR (∀ {g : Nat} (u : World), u.heap[g]? = some (.cells #[.int .i64 p0.x, .int .i64 p0.y, .int .i64 p0.z, .int .i64 p1.x, .int .i64 p1.y, .int .i64 p1.z, .int .i64 p2.x, .int .i64 p2.y, .int .i64 p2.z] 87) → Calls Tryd.prog 62 #[.int .i64 2, .pointer (some ⟨g, 0, none⟩)] u fun e w' => e = .returned (.int .i64 (btw p0 p1)) ∧ Below u.heap.size u w') := hideR (fun u z => across2_any p0 p1 p2 z h0 h1 h2)
  have HSo : HeldR (∀ (g d0 d1 d2) (u : World), u.heap[g]? = some (.cells #[.int .i64 p0.x, .int .i64 p0.y, .int .i64 p0.z, .int .i64 0, .int .i64 d0, .int .i64 p1.x, .int .i64 p1.y, .int .i64 p1.z, .int .i64 1, .int .i64 d1, .int .i64 p2.x, .int .i64 p2.y, .int .i64 p2.z, .int .i64 2, .int .i64 d2] 85) → Calls Tryd.prog 64 #[.slice (some ⟨g, 0, none⟩) 3 3, .func (.func 65) #[] #[]] u fun e w' => e = .returned (.tuple #[]) ∧ (∀ j, j < 15 → w'.cell? ⟨g, j, none⟩ = (cells3 (insF 2 (insF 1 (tri3 ⟨p0, 0, d0⟩ ⟨p1, 1, d1⟩ ⟨p2, 2, d2⟩)) 0) (insF 2 (insF 1 (tri3 ⟨p0, 0, d0⟩ ⟨p1, 1, d1⟩ ⟨p2, 2, d2⟩)) 1) (insF 2 (insF 1 (tri3 ⟨p0, 0, d0⟩ ⟨p1, 1, d1⟩ ⟨p2, 2, d2⟩)) 2))[j]?) ∧ Below g u w') := hideR (fun g d0 d1 d2 u z => by
    have hr := row3_start (a := ⟨p0, 0, d0⟩) (b := ⟨p1, 1, d1⟩) (c := ⟨p2, 2, d2⟩) z
    refine (sorts3_any sizC hr.1 hr.2).mono ?_
    rintro e v ⟨rfl, s⟩
    exact ⟨rfl, row3_end hr.1 s⟩)
  clear h0 h1 h2
  unfold cor3
  generalize btw p1 p2 = d0 at *
  generalize btw p2 p0 = d1 at *
  generalize btw p0 p1 = d2 at *
  have HSoM := hideR (fun g u z => unhideR HSo g d0 d1 d2 u z)
  generalize insF 2 (insF 1 (tri3 ⟨p0, 0, d0⟩ ⟨p1, 1, d1⟩ ⟨p2, 2, d2⟩)) 0 = e0 at *
  generalize insF 2 (insF 1 (tri3 ⟨p0, 0, d0⟩ ⟨p1, 1, d1⟩ ⟨p2, 2, d2⟩)) 1 = e1 at *
  generalize insF 2 (insF 1 (tri3 ⟨p0, 0, d0⟩ ⟨p1, 1, d1⟩ ⟨p2, 2, d2⟩)) 2 = e2 at *
  clear HSo
  have eg : ∀ args w, (callFunc 62 args).run Tryd.prog w = .ok (.enter 62 args) w := enters_of Tryd.func62 (by kernel_rfl) rfl
  obtain ⟨z1, z2, z3, hbw⟩ := three_alloc w (.cells #[.int .i64 p0.x, .int .i64 p0.y, .int .i64 p0.z, .int .i64 p1.x, .int .i64 p1.y, .int .i64 p1.z, .int .i64 p2.x, .int .i64 p2.y, .int .i64 p2.z] 87) (.cells #[.int .i64 0, .int .i64 0, .int .i64 0, .int .i64 0, .int .i64 0, .int .i64 0, .int .i64 0, .int .i64 0, .int .i64 0, .int .i64 0, .int .i64 0, .int .i64 0, .int .i64 0, .int .i64 0, .int .i64 0] 85) (.cells #[.int .i64 0, .int .i64 0, .int .i64 0, .int .i64 0, .int .i64 0, .int .i64 0, .int .i64 0, .int .i64 0, .int .i64 0, .int .i64 0, .int .i64 0, .int .i64 0, .int .i64 0, .int .i64 0, .int .i64 0] 85)
  have HB := hideR hbw
  clear hbw
  go_enter Tryd.func35, Tryd.ntmps35
  go_upto_region 4 with fail
  generalize ((w.alloc (.cells #[.int .i64 p0.x, .int .i64 p0.y, .int .i64 p0.z, .int .i64 p1.x, .int .i64 p1.y, .int .i64 p1.z, .int .i64 p2.x, .int .i64 p2.y, .int .i64 p2.z] 87)).alloc (.cells #[.int .i64 0, .int .i64 0, .int .i64 0, .int .i64 0, .int .i64 0, .int .i64 0, .int .i64 0, .int .i64 0, .int .i64 0, .int .i64 0, .int .i64 0, .int .i64 0, .int .i64 0, .int .i64 0, .int .i64 0] 85)).alloc (.cells #[.int .i64 0, .int .i64 0, .int .i64 0, .int .i64 0, .int .i64 0, .int .i64 0, .int .i64 0, .int .i64 0, .int .i64 0, .int .i64 0, .int .i64 0, .int .i64 0, .int .i64 0, .int .i64 0, .int .i64 0] 85) = wa at *
  obtain ⟨G, hG⟩ : ∃ G, w.heap.size = G := ⟨_, rfl⟩
  have HG := hideR hG
  rw [hG] at z1 z2 z3 ⊢
  clear hG
  go_loopw [7] (fun iv wl => ∃ i : Nat, i ≤ 3 ∧ iv = .int .i64 (i : Nat) ∧ wl.heap[G]? = some (.cells #[.int .i64 p0.x, .int .i64 p0.y, .int .i64 p0.z, .int .i64 p1.x, .int .i64 p1.y, .int .i64 p1.z, .int .i64 p2.x, .int .i64 p2.y, .int .i64 p2.z] 87) ∧ wl.heap[G + 1]? = some (.cells #[.int .i64 0, .int .i64 0, .int .i64 0, .int .i64 0, .int .i64 0, .int .i64 0, .int .i64 0, .int .i64 0, .int .i64 0, .int .i64 0, .int .i64 0, .int .i64 0, .int .i64 0, .int .i64 0, .int .i64 0] 85) ∧ wl.heap[G + 2]? = some (.cells (if i = 0 then #[.int .i64 0, .int .i64 0, .int .i64 0, .int .i64 0, .int .i64 0, .int .i64 0, .int .i64 0, .int .i64 0, .int .i64 0, .int .i64 0, .int .i64 0, .int .i64 0, .int .i64 0, .int .i64 0, .int .i64 0] else if i = 1 then #[.int .i64 p0.x, .int .i64 p0.y, .int .i64 p0.z, .int .i64 0, .int .i64 d0, .int .i64 0, .int .i64 0, .int .i64 0, .int .i64 0, .int .i64 0, .int .i64 0, .int .i64 0, .int .i64 0, .int .i64 0, .int .i64 0] else if i = 2 then #[.int .i64 p0.x, .int .i64 p0.y, .int .i64 p0.z, .int .i64 0, .int .i64 d0, .int .i64 p1.x, .int .i64 p1.y, .int .i64 p1.z, .int .i64 1, .int .i64 d1, .int .i64 0, .int .i64 0, .int .i64 0, .int .i64 0, .int .i64 0] else #[.int .i64 p0.x, .int .i64 p0.y, .int .i64 p0.z, .int .i64 0, .int .i64 d0, .int .i64 p1.x, .int .i64 p1.y, .int .i64 p1.z, .int .i64 1, .int .i64 d1, .int .i64 p2.x, .int .i64 p2.y, .int .i64 p2.z, .int .i64 2, .int .i64 d2]) 85) ∧ HeldR (Below w.heap.size w wl)) (fun iv _ => 4 - (intOf iv).toNat)
  case atStart => exact ⟨0, by omega, rfl, z1, z2, z3, HB⟩
  case round =>
    clear z1 z2 z3 HB
    obtain ⟨i, hi, rfl, z1, z2, z3, HB⟩ := hrel
    rcases (show i = 0 ∨ i = 1 ∨ i = 2 ∨ i = 3 by omega) with rfl | rfl | rfl | rfl
    · replace z3 : wr.heap[G + 2]? = some (.cells #[.int .i64 0, .int .i64 0, .int .i64 0, .int .i64 0, .int .i64 0, .int .i64 0, .int .i64 0, .int .i64 0, .int .i64 0, .int .i64 0, .int .i64 0, .int .i64 0, .int .i64 0, .int .i64 0, .int .i64 0] 85) := z3
      clear hi
      go_wp2_with fail
      refine wp_region_made 0 #[true, true, true, true, true, true, true, true, true, true, false] [.lets (· = .int .i64 0),
        .lets (· = .int .i64 0),
        .lets (· = .pointer (some ⟨G, 0, none⟩)),
        .lets (· = .agg #[.int .i64 p0.x, .int .i64 p0.y, .int .i64 p0.z]),
        .lets (· = .int .i64 0),
        .lets (· = .func (.func 62) #[] #[.pointer (some ⟨G, 0, none⟩)]),
        .lets (· = .int .i64 0),
        .lets (· = .int .i64 d0),
        .lets (· = .agg #[.int .i64 p0.x, .int .i64 p0.y, .int .i64 p0.z, .int .i64 0, .int .i64 d0]),
        .lets (· = .pointer (some ⟨G + 2, 0, none⟩))] [] [] (by kernel_rfl) (by kernel_rfl) rfl ?kinds (by kernel_rfl) (by kernel_rfl) (by kernel_rfl) ?_
      case kinds =>
        constructor
        · intro i h
          rcases i with _ | _ | _ | _ | _ | _ | _ | _ | _ | _ | i <;> simp [Kx.isMade] at h
        · intro i h
          rcases i with _ | _ | _ | _ | _ | _ | _ | _ | _ | _ | i <;> simp [Kx.isUse] at h
      refine lexX_step (fun K hK => ⟨by kernel_rfl, ⟨_, rfl⟩, fun v hv => ?_, fun v hv => ?_⟩)
      · go_simp
        exact mUpon_b
      subst hv
      go_simp
      refine hK _ ?_
      clear hK K
      refine lexX_step (fun K hK => ⟨by kernel_rfl, ⟨_, rfl⟩, fun v hv => ?_, fun v hv => ?_⟩)
      · go_simp
        exact mUpon_b
      subst hv
      go_simp
      refine hK _ ?_
      clear hK K
      refine lexX_step (fun K hK => ⟨by kernel_rfl, ⟨_, rfl⟩, fun v hv => ?_, fun v hv => ?_⟩)
      · go_simp
        exact mUpon_b
      subst hv
      go_simp
      refine hK _ ?_
      clear hK K
      refine lexX_step (fun K hK => ⟨by kernel_rfl, ⟨_, rfl⟩, fun v hv => ?_, fun v hv => ?_⟩)
      · have q9 := keepB z1 hv
        have q0 := (cells_at q9 0 (by simp)).1
        have q1 := (cells_at q9 1 (by simp)).1
        have q2 := (cells_at q9 2 (by simp)).1
        go_simp
        exact mUpon_b
      subst hv
      go_simp
      refine hK _ ?_
      clear hK K
      refine lexX_step (fun K hK => ⟨by kernel_rfl, ⟨_, rfl⟩, fun v hv => ?_, fun v hv => ?_⟩)
      · go_simp
        exact mUpon_b
      subst hv
      go_simp
      refine hK _ ?_
      clear hK K
      refine lexX_step (fun K hK => ⟨by kernel_rfl, ⟨_, rfl⟩, fun v hv => ?_, fun v hv => ?_⟩)
      · go_simp
        exact mUpon_b
      subst hv
      go_simp
      refine hK _ ?_
      clear hK K
      refine lexX_step (fun K hK => ⟨by kernel_rfl, ⟨_, rfl⟩, fun v hv => ?_, fun v hv => ?_⟩)
      · go_simp
        exact mUpon_b
      subst hv
      go_simp
      refine hK _ ?_
      clear hK K
      refine lexX_step (fun K hK => ⟨by kernel_rfl, ⟨_, rfl⟩, fun v hv => ?_, fun v hv => ?_⟩)
      · go_simp
        refine (unhideR HA0 _ (keepB z1 hv)).mono ?_
        rintro e w9 ⟨rfl, k⟩
        exact ⟨_, rfl, rfl, k⟩
      subst hv
      go_simp
      refine hK _ ?_
      clear hK K
      refine lexX_step (fun K hK => ⟨by kernel_rfl, ⟨_, rfl⟩, fun v hv => ?_, fun v hv => ?_⟩)
      · go_simp
        exact mUpon_b
      subst hv
      go_simp
      refine hK _ ?_
      clear hK K
      refine lexX_step (fun K hK => ⟨by kernel_rfl, ⟨_, rfl⟩, fun v hv => ?_, fun v hv => ?_⟩)
      · go_simp
        exact mUpon_b
      subst hv
      go_simp
      refine hK _ ?_
      clear hK K
      refine lexX_end (fun v5 hv => ?_)
      have k5 := hv.low
      clear hv
      have y1 := keepB z1 k5
      have y2 := keepB z2 k5
      have y3 := keepB z3 k5
      have yB := hideR (below_go (unhideR HB) k5)
      clear z1 z2 z3 k5 HB
      have f0 := (cells_at y3 0 (by simp)).2
      have c0 := (cells_at y3 0 (by simp)).1
      have f1 := (cells_at y3 1 (by simp)).2
      have c1 := (cells_at y3 1 (by simp)).1
      have f2 := (cells_at y3 2 (by simp)).2
      have c2 := (cells_at y3 2 (by simp)).1
      have f3 := (cells_at y3 3 (by simp)).2
      have c3 := (cells_at y3 3 (by simp)).1
      have f4 := (cells_at y3 4 (by simp)).2
      have c4 := (cells_at y3 4 (by simp)).1
      have n3 := set5_at y3 0 (.int .i64 p0.x) (.int .i64 p0.y) (.int .i64 p0.z) (.int .i64 0) (.int .i64 d0)
      have n1 := set5_ne (o := 0) (.int .i64 p0.x) (.int .i64 p0.y) (.int .i64 p0.z) (.int .i64 0) (.int .i64 d0) y1 (show G ≠ G + 2 by omega)
      have n2 := set5_ne (o := 0) (.int .i64 p0.x) (.int .i64 p0.y) (.int .i64 p0.z) (.int .i64 0) (.int .i64 d0) y2 (show G + 1 ≠ G + 2 by omega)
      have nB := hideR (set5_bl (unhideR yB) 0 (show w.heap.size ≤ G + 2 by have := unhideR HG; omega) (.int .i64 p0.x) (.int .i64 p0.y) (.int .i64 p0.z) (.int .i64 0) (.int .i64 d0))
      simp only [setArr5] at n3
      clear y1 y2 y3 yB
      refine wpAny_step (i := 10) (by kernel_rfl) rfl (by kernel_rfl) (fun K hK => ?_)
      unfold Oper.wp
      go_simp
      refine hK _ _ ?_
      clear hK K
      refine wpAny_end (by kernel_rfl) ?_
      clear f0 f1 f2 f3 f4 c0 c1 c2 c3 c4
      generalize ((((v5.setCell ⟨G + 2, 0, none⟩ (.int .i64 p0.x)).setCell ⟨G + 2, 1, none⟩ (.int .i64 p0.y)).setCell ⟨G + 2, 2, none⟩ (.int .i64 p0.z)).setCell ⟨G + 2, 3, none⟩ (.int .i64 0)).setCell ⟨G + 2, 4, none⟩ (.int .i64 d0) = w3 at *
      go_wp2
      exact ⟨⟨1, by omega, by go_num, n1, n2, n3, nB⟩, by simp [intOf]⟩
    · replace z3 : wr.heap[G + 2]? = some (.cells #[.int .i64 p0.x, .int .i64 p0.y, .int .i64 p0.z, .int .i64 0, .int .i64 d0, .int .i64 0, .int .i64 0, .int .i64 0, .int .i64 0, .int .i64 0, .int .i64 0, .int .i64 0, .int .i64 0, .int .i64 0, .int .i64 0] 85) := z3
      clear hi
      go_wp2_with fail
      refine wp_region_made 0 #[true, true, true, true, true, true, true, true, true, true, false] [.lets (· = .int .i64 1),
        .lets (· = .int .i64 1),
        .lets (· = .pointer (some ⟨G, 3, none⟩)),
        .lets (· = .agg #[.int .i64 p1.x, .int .i64 p1.y, .int .i64 p1.z]),
        .lets (· = .int .i64 1),
        .lets (· = .func (.func 62) #[] #[.pointer (some ⟨G, 0, none⟩)]),
        .lets (· = .int .i64 1),
        .lets (· = .int .i64 d1),
        .lets (· = .agg #[.int .i64 p1.x, .int .i64 p1.y, .int .i64 p1.z, .int .i64 1, .int .i64 d1]),
        .lets (· = .pointer (some ⟨G + 2, 5, none⟩))] [] [] (by kernel_rfl) (by kernel_rfl) rfl ?kinds (by kernel_rfl) (by kernel_rfl) (by kernel_rfl) ?_
      case kinds =>
        constructor
        · intro i h
          rcases i with _ | _ | _ | _ | _ | _ | _ | _ | _ | _ | i <;> simp [Kx.isMade] at h
        · intro i h
          rcases i with _ | _ | _ | _ | _ | _ | _ | _ | _ | _ | i <;> simp [Kx.isUse] at h
      refine lexX_step (fun K hK => ⟨by kernel_rfl, ⟨_, rfl⟩, fun v hv => ?_, fun v hv => ?_⟩)
      · go_simp
        exact mUpon_b
      subst hv
      go_simp
      refine hK _ ?_
      clear hK K
      refine lexX_step (fun K hK => ⟨by kernel_rfl, ⟨_, rfl⟩, fun v hv => ?_, fun v hv => ?_⟩)
      · go_simp
        exact mUpon_b
      subst hv
      go_simp
      refine hK _ ?_
      clear hK K
      refine lexX_step (fun K hK => ⟨by kernel_rfl, ⟨_, rfl⟩, fun v hv => ?_, fun v hv => ?_⟩)
      · go_simp
        exact mUpon_b
      subst hv
      go_simp
      refine hK _ ?_
      clear hK K
      refine lexX_step (fun K hK => ⟨by kernel_rfl, ⟨_, rfl⟩, fun v hv => ?_, fun v hv => ?_⟩)
      · have q9 := keepB z1 hv
        have q0 := (cells_at q9 3 (by simp)).1
        have q1 := (cells_at q9 4 (by simp)).1
        have q2 := (cells_at q9 5 (by simp)).1
        go_simp
        exact mUpon_b
      subst hv
      go_simp
      refine hK _ ?_
      clear hK K
      refine lexX_step (fun K hK => ⟨by kernel_rfl, ⟨_, rfl⟩, fun v hv => ?_, fun v hv => ?_⟩)
      · go_simp
        exact mUpon_b
      subst hv
      go_simp
      refine hK _ ?_
      clear hK K
      refine lexX_step (fun K hK => ⟨by kernel_rfl, ⟨_, rfl⟩, fun v hv => ?_, fun v hv => ?_⟩)
      · go_simp
        exact mUpon_b
      subst hv
      go_simp
      refine hK _ ?_
      clear hK K
      refine lexX_step (fun K hK => ⟨by kernel_rfl, ⟨_, rfl⟩, fun v hv => ?_, fun v hv => ?_⟩)
      · go_simp
        exact mUpon_b
      subst hv
      go_simp
      refine hK _ ?_
      clear hK K
      refine lexX_step (fun K hK => ⟨by kernel_rfl, ⟨_, rfl⟩, fun v hv => ?_, fun v hv => ?_⟩)
      · go_simp
        refine (unhideR HA1 _ (keepB z1 hv)).mono ?_
        rintro e w9 ⟨rfl, k⟩
        exact ⟨_, rfl, rfl, k⟩
      subst hv
      go_simp
      refine hK _ ?_
      clear hK K
      refine lexX_step (fun K hK => ⟨by kernel_rfl, ⟨_, rfl⟩, fun v hv => ?_, fun v hv => ?_⟩)
      · go_simp
        exact mUpon_b
      subst hv
      go_simp
      refine hK _ ?_
      clear hK K
      refine lexX_step (fun K hK => ⟨by kernel_rfl, ⟨_, rfl⟩, fun v hv => ?_, fun v hv => ?_⟩)
      · go_simp
        exact mUpon_b
      subst hv
      go_simp
      refine hK _ ?_
      clear hK K
      refine lexX_end (fun v5 hv => ?_)
      have k5 := hv.low
      clear hv
      have y1 := keepB z1 k5
      have y2 := keepB z2 k5
      have y3 := keepB z3 k5
      have yB := hideR (below_go (unhideR HB) k5)
      clear z1 z2 z3 k5 HB
      have f0 := (cells_at y3 5 (by simp)).2
      have c0 := (cells_at y3 5 (by simp)).1
      have f1 := (cells_at y3 6 (by simp)).2
      have c1 := (cells_at y3 6 (by simp)).1
      have f2 := (cells_at y3 7 (by simp)).2
      have c2 := (cells_at y3 7 (by simp)).1
      have f3 := (cells_at y3 8 (by simp)).2
      have c3 := (cells_at y3 8 (by simp)).1
      have f4 := (cells_at y3 9 (by simp)).2
      have c4 := (cells_at y3 9 (by simp)).1
      have n3 := set5_at y3 5 (.int .i64 p1.x) (.int .i64 p1.y) (.int .i64 p1.z) (.int .i64 1) (.int .i64 d1)
      have n1 := set5_ne (o := 5) (.int .i64 p1.x) (.int .i64 p1.y) (.int .i64 p1.z) (.int .i64 1) (.int .i64 d1) y1 (show G ≠ G + 2 by omega)
      have n2 := set5_ne (o := 5) (.int .i64 p1.x) (.int .i64 p1.y) (.int .i64 p1.z) (.int .i64 1) (.int .i64 d1) y2 (show G + 1 ≠ G + 2 by omega)
      have nB := hideR (set5_bl (unhideR yB) 5 (show w.heap.size ≤ G + 2 by have := unhideR HG; omega) (.int .i64 p1.x) (.int .i64 p1.y) (.int .i64 p1.z) (.int .i64 1) (.int .i64 d1))
      simp only [setArr5] at n3
      clear y1 y2 y3 yB
      refine wpAny_step (i := 10) (by kernel_rfl) rfl (by kernel_rfl) (fun K hK => ?_)
      unfold Oper.wp
      go_simp
      refine hK _ _ ?_
      clear hK K
      refine wpAny_end (by kernel_rfl) ?_
      clear f0 f1 f2 f3 f4 c0 c1 c2 c3 c4
      generalize ((((v5.setCell ⟨G + 2, 5, none⟩ (.int .i64 p1.x)).setCell ⟨G + 2, 6, none⟩ (.int .i64 p1.y)).setCell ⟨G + 2, 7, none⟩ (.int .i64 p1.z)).setCell ⟨G + 2, 8, none⟩ (.int .i64 1)).setCell ⟨G + 2, 9, none⟩ (.int .i64 d1) = w3 at *
      go_wp2
      exact ⟨⟨2, by omega, by go_num, n1, n2, n3, nB⟩, by simp [intOf]⟩
    · replace z3 : wr.heap[G + 2]? = some (.cells #[.int .i64 p0.x, .int .i64 p0.y, .int .i64 p0.z, .int .i64 0, .int .i64 d0, .int .i64 p1.x, .int .i64 p1.y, .int .i64 p1.z, .int .i64 1, .int .i64 d1, .int .i64 0, .int .i64 0, .int .i64 0, .int .i64 0, .int .i64 0] 85) := z3
      clear hi
      go_wp2_with fail
      refine wp_region_made 0 #[true, true, true, true, true, true, true, true, true, true, false] [.lets (· = .int .i64 2),
        .lets (· = .int .i64 2),
        .lets (· = .pointer (some ⟨G, 6, none⟩)),
        .lets (· = .agg #[.int .i64 p2.x, .int .i64 p2.y, .int .i64 p2.z]),
        .lets (· = .int .i64 2),
        .lets (· = .func (.func 62) #[] #[.pointer (some ⟨G, 0, none⟩)]),
        .lets (· = .int .i64 2),
        .lets (· = .int .i64 d2),
        .lets (· = .agg #[.int .i64 p2.x, .int .i64 p2.y, .int .i64 p2.z, .int .i64 2, .int .i64 d2]),
        .lets (· = .pointer (some ⟨G + 2, 10, none⟩))] [] [] (by kernel_rfl) (by kernel_rfl) rfl ?kinds (by kernel_rfl) (by kernel_rfl) (by kernel_rfl) ?_
      case kinds =>
        constructor
        · intro i h
          rcases i with _ | _ | _ | _ | _ | _ | _ | _ | _ | _ | i <;> simp [Kx.isMade] at h
        · intro i h
          rcases i with _ | _ | _ | _ | _ | _ | _ | _ | _ | _ | i <;> simp [Kx.isUse] at h
      refine lexX_step (fun K hK => ⟨by kernel_rfl, ⟨_, rfl⟩, fun v hv => ?_, fun v hv => ?_⟩)
      · go_simp
        exact mUpon_b
      subst hv
      go_simp
      refine hK _ ?_
      clear hK K
      refine lexX_step (fun K hK => ⟨by kernel_rfl, ⟨_, rfl⟩, fun v hv => ?_, fun v hv => ?_⟩)
      · go_simp
        exact mUpon_b
      subst hv
      go_simp
      refine hK _ ?_
      clear hK K
      refine lexX_step (fun K hK => ⟨by kernel_rfl, ⟨_, rfl⟩, fun v hv => ?_, fun v hv => ?_⟩)
      · go_simp
        exact mUpon_b
      subst hv
      go_simp
      refine hK _ ?_
      clear hK K
      refine lexX_step (fun K hK => ⟨by kernel_rfl, ⟨_, rfl⟩, fun v hv => ?_, fun v hv => ?_⟩)
      · have q9 := keepB z1 hv
        have q0 := (cells_at q9 6 (by simp)).1
        have q1 := (cells_at q9 7 (by simp)).1
        have q2 := (cells_at q9 8 (by simp)).1
        go_simp
        exact mUpon_b
      subst hv
      go_simp
      refine hK _ ?_
      clear hK K
      refine lexX_step (fun K hK => ⟨by kernel_rfl, ⟨_, rfl⟩, fun v hv => ?_, fun v hv => ?_⟩)
      · go_simp
        exact mUpon_b
      subst hv
      go_simp
      refine hK _ ?_
      clear hK K
      refine lexX_step (fun K hK => ⟨by kernel_rfl, ⟨_, rfl⟩, fun v hv => ?_, fun v hv => ?_⟩)
      · go_simp
        exact mUpon_b
      subst hv
      go_simp
      refine hK _ ?_
      clear hK K
      refine lexX_step (fun K hK => ⟨by kernel_rfl, ⟨_, rfl⟩, fun v hv => ?_, fun v hv => ?_⟩)
      · go_simp
        exact mUpon_b
      subst hv
      go_simp
      refine hK _ ?_
      clear hK K
      refine lexX_step (fun K hK => ⟨by kernel_rfl, ⟨_, rfl⟩, fun v hv => ?_, fun v hv => ?_⟩)
      · go_simp
        refine (unhideR HA2 _ (keepB z1 hv)).mono ?_
        rintro e w9 ⟨rfl, k⟩
        exact ⟨_, rfl, rfl, k⟩
      subst hv
      go_simp
      refine hK _ ?_
      clear hK K
      refine lexX_step (fun K hK => ⟨by kernel_rfl, ⟨_, rfl⟩, fun v hv => ?_, fun v hv => ?_⟩)
      · go_simp
        exact mUpon_b
      subst hv
      go_simp
      refine hK _ ?_
      clear hK K
      refine lexX_step (fun K hK => ⟨by kernel_rfl, ⟨_, rfl⟩, fun v hv => ?_, fun v hv => ?_⟩)
      · go_simp
        exact mUpon_b
      subst hv
      go_simp
      refine hK _ ?_
      clear hK K
      refine lexX_end (fun v5 hv => ?_)
      have k5 := hv.low
      clear hv
      have y1 := keepB z1 k5
      have y2 := keepB z2 k5
      have y3 := keepB z3 k5
      have yB := hideR (below_go (unhideR HB) k5)
      clear z1 z2 z3 k5 HB
      have f0 := (cells_at y3 10 (by simp)).2
      have c0 := (cells_at y3 10 (by simp)).1
      have f1 := (cells_at y3 11 (by simp)).2
      have c1 := (cells_at y3 11 (by simp)).1
      have f2 := (cells_at y3 12 (by simp)).2
      have c2 := (cells_at y3 12 (by simp)).1
      have f3 := (cells_at y3 13 (by simp)).2
      have c3 := (cells_at y3 13 (by simp)).1
      have f4 := (cells_at y3 14 (by simp)).2
      have c4 := (cells_at y3 14 (by simp)).1
      have n3 := set5_at y3 10 (.int .i64 p2.x) (.int .i64 p2.y) (.int .i64 p2.z) (.int .i64 2) (.int .i64 d2)
      have n1 := set5_ne (o := 10) (.int .i64 p2.x) (.int .i64 p2.y) (.int .i64 p2.z) (.int .i64 2) (.int .i64 d2) y1 (show G ≠ G + 2 by omega)
      have n2 := set5_ne (o := 10) (.int .i64 p2.x) (.int .i64 p2.y) (.int .i64 p2.z) (.int .i64 2) (.int .i64 d2) y2 (show G + 1 ≠ G + 2 by omega)
      have nB := hideR (set5_bl (unhideR yB) 10 (show w.heap.size ≤ G + 2 by have := unhideR HG; omega) (.int .i64 p2.x) (.int .i64 p2.y) (.int .i64 p2.z) (.int .i64 2) (.int .i64 d2))
      simp only [setArr5] at n3
      clear y1 y2 y3 yB
      refine wpAny_step (i := 10) (by kernel_rfl) rfl (by kernel_rfl) (fun K hK => ?_)
      unfold Oper.wp
      go_simp
      refine hK _ _ ?_
      clear hK K
      refine wpAny_end (by kernel_rfl) ?_
      clear f0 f1 f2 f3 f4 c0 c1 c2 c3 c4
      generalize ((((v5.setCell ⟨G + 2, 10, none⟩ (.int .i64 p2.x)).setCell ⟨G + 2, 11, none⟩ (.int .i64 p2.y)).setCell ⟨G + 2, 12, none⟩ (.int .i64 p2.z)).setCell ⟨G + 2, 13, none⟩ (.int .i64 2)).setCell ⟨G + 2, 14, none⟩ (.int .i64 d2) = w3 at *
      go_wp2
      exact ⟨⟨3, by omega, by go_num, n1, n2, n3, nB⟩, by simp [intOf]⟩
    · replace z3 : wr.heap[G + 2]? = some (.cells #[.int .i64 p0.x, .int .i64 p0.y, .int .i64 p0.z, .int .i64 0, .int .i64 d0, .int .i64 p1.x, .int .i64 p1.y, .int .i64 p1.z, .int .i64 1, .int .i64 d1, .int .i64 p2.x, .int .i64 p2.y, .int .i64 p2.z, .int .i64 2, .int .i64 d2] 85) := z3
      clear hi
      have hs := unhideR HSoM _ _ z3
      have hE : cells3 e0 e1 e2 = #[.int .i64 e0.p.x, .int .i64 e0.p.y, .int .i64 e0.p.z, .int .i64 e0.n, .int .i64 e0.d, .int .i64 e1.p.x, .int .i64 e1.p.y, .int .i64 e1.p.z, .int .i64 e1.n, .int .i64 e1.d, .int .i64 e2.p.x, .int .i64 e2.p.y, .int .i64 e2.p.z, .int .i64 e2.n, .int .i64 e2.d] := rfl
      rw [hE] at hs
      have HE := hideR hE
      clear hE
      go_wp2_with fail
      refine hs.mono ?_
      rintro e v ⟨rfl, hcell, kb⟩
      have c0 := hcell 0 (by omega)
      have c1 := hcell 1 (by omega)
      have c2 := hcell 2 (by omega)
      have c3 := hcell 3 (by omega)
      have c4 := hcell 4 (by omega)
      have c5 := hcell 5 (by omega)
      have c6 := hcell 6 (by omega)
      have c7 := hcell 7 (by omega)
      have c8 := hcell 8 (by omega)
      have c9 := hcell 9 (by omega)
      have c10 := hcell 10 (by omega)
      have c11 := hcell 11 (by omega)
      have c12 := hcell 12 (by omega)
      have c13 := hcell 13 (by omega)
      have c14 := hcell 14 (by omega)
      have y2 := (kb.block (G + 1) (by omega)).trans z2
      have f0 := (cells_at y2 0 (by simp)).2
      have k0 := (cells_at y2 0 (by simp)).1
      have f1 := (cells_at y2 1 (by simp)).2
      have k1 := (cells_at y2 1 (by simp)).1
      have f2 := (cells_at y2 2 (by simp)).2
      have k2 := (cells_at y2 2 (by simp)).1
      have f3 := (cells_at y2 3 (by simp)).2
      have k3 := (cells_at y2 3 (by simp)).1
      have f4 := (cells_at y2 4 (by simp)).2
      have k4 := (cells_at y2 4 (by simp)).1
      have f5 := (cells_at y2 5 (by simp)).2
      have k5 := (cells_at y2 5 (by simp)).1
      have f6 := (cells_at y2 6 (by simp)).2
      have k6 := (cells_at y2 6 (by simp)).1
      have f7 := (cells_at y2 7 (by simp)).2
      have k7 := (cells_at y2 7 (by simp)).1
      have f8 := (cells_at y2 8 (by simp)).2
      have k8 := (cells_at y2 8 (by simp)).1
      have f9 := (cells_at y2 9 (by simp)).2
      have k9 := (cells_at y2 9 (by simp)).1
      have f10 := (cells_at y2 10 (by simp)).2
      have k10 := (cells_at y2 10 (by simp)).1
      have f11 := (cells_at y2 11 (by simp)).2
      have k11 := (cells_at y2 11 (by simp)).1
      have f12 := (cells_at y2 12 (by simp)).2
      have k12 := (cells_at y2 12 (by simp)).1
      have f13 := (cells_at y2 13 (by simp)).2
      have k13 := (cells_at y2 13 (by simp)).1
      have f14 := (cells_at y2 14 (by simp)).2
      have k14 := (cells_at y2 14 (by simp)).1
      have HB2 := hideR ((unhideR HB).trans (kb.mono (show w.heap.size ≤ G + 2 by have := unhideR HG; omega)))
      clear hcell kb hs z1 z2 z3 y2 HB
      generalize G + 1 + 1 = G2 at *
      have HF := hideR (set5_bl (set5_bl (set5_bl (unhideR HB2) 0 (show w.heap.size ≤ G + 1 by have := unhideR HG; omega) (.int .i64 e0.p.x) (.int .i64 e0.p.y) (.int .i64 e0.p.z) (.int .i64 e0.n) (.int .i64 e0.d)) 5 (show w.heap.size ≤ G + 1 by have := unhideR HG; omega) (.int .i64 e1.p.x) (.int .i64 e1.p.y) (.int .i64 e1.p.z) (.int .i64 e1.n) (.int .i64 e1.d)) 10 (show w.heap.size ≤ G + 1 by have := unhideR HG; omega) (.int .i64 e2.p.x) (.int .i64 e2.p.y) (.int .i64 e2.p.z) (.int .i64 e2.n) (.int .i64 e2.d))
      go_wp2
      rw [unhideR HE]
      clear f0 f1 f2 f3 f4 f5 f6 f7 f8 f9 f10 f11 f12 f13 f14 c0 c1 c2 c3 c4 c5 c6 c7 c8 c9 c10 c11 c12 c13 c14
      simp [bodyPost, results, Tryd.results35, go_sem, k0, k1, k2, k3, k4, k5, k6, k7, k8, k9, k10, k11, k12, k13, k14]
      exact unhideR HF
end Go.Proofs.YtkdmeclbnnjdgalDoor
