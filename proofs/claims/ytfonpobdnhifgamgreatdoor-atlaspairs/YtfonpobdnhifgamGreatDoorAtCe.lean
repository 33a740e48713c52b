/-
  The cell of a direction: the document's CellAt, by contract.
-/
import Derived.Test.YtfonpobdnhifgamGreatDoorAtPA
namespace Go.Proofs.YtfonpobdnhifgamGreatDoor
open Go Go.RowKit

def setA1 (cs : Array Value) (o : Nat) (a : Value) : Array Value := cs.setIfInBounds o a
theorem one_set {v : World} {b : Nat} {cs : Array Value} {ty : TypeId} (h : v.heap[b]? = some (.cells cs ty)) (i : Nat) (x : Value) : (v.setCell ⟨b, i, none⟩ x).heap[b]? = some (.cells (setA1 cs i x) ty) := by
  simp [World.setCell, Array.getElem?_modify, h, setA1]
theorem one_ne {v : World} {b g i : Nat} {ob : Obj} (x : Value) (h : v.heap[b]? = some ob) (hb : b ≠ g) : (v.setCell ⟨g, i, none⟩ x).heap[b]? = some ob := (Below.heap_setCell _ _ _ _ hb).trans h
theorem set4_blA {B : Nat} {w u : World} (h : Below B w u) {k : Nat} (hk : B ≤ k) (x y z t : Value) : Below B w ((((u.setCell ⟨k, 0, none⟩ x).setCell ⟨k, 1, none⟩ y).setCell ⟨k, 2, none⟩ z).setCell ⟨k, 3, none⟩ t) := (((h.setCell hk x).setCell hk y).setCell hk z).setCell hk t
set_option maxRecDepth 100000 in
set_option maxHeartbeats 6400000 in
theorem cellAt_any (d : Dr) (l : Int) (w : World) :
    Calls Tryz.prog 20 #[d.val, .int .i64 l] w fun e w' => e = .returned (.tuple #[(sqA d l).val, .int .i64 (sqE d l)]) ∧ Below w.heap.size w w' := by
  have hd := fun u => isDir_any d u
  have c0 := fun u => size_any d.x u
  have HX : HeldR (dirB d = true → ∀ l : Nat, l ≤ 12 → (∀ u, Calls Tryz.prog 47 #[.int .i64 d.x] u fun e w' => e = .returned (.int .i64 (szV d.x)) ∧ w' = u) ∧ (∀ u, Calls Tryz.prog 47 #[.int .i64 d.y] u fun e w' => e = .returned (.int .i64 (szV d.y)) ∧ w' = u) ∧ (∀ u, Calls Tryz.prog 47 #[.int .i64 d.z] u fun e w' => e = .returned (.int .i64 (szV d.z)) ∧ w' = u) ∧ (∀ u, Calls Tryz.prog 48 #[.int .i64 (uV d), .int .i64 (mV d), .int .i64 (l : Nat)] u fun e w' => e = .returned (.int .i64 (colV (uV d) (mV d) l)) ∧ w' = u) ∧ (∀ u, Calls Tryz.prog 48 #[.int .i64 (vV d), .int .i64 (mV d), .int .i64 (l : Nat)] u fun e w' => e = .returned (.int .i64 (colV (vV d) (mV d) l)) ∧ w' = u)) := hideR (fun q l hl => by
    have b := dir_is q
    have m := dir_m q
    exact ⟨fun u => size_any d.x u (by omega) (by omega), fun u => size_any d.y u (by omega) (by omega), fun u => size_any d.z u (by omega) (by omega), fun u => strip_any _ _ l u hl m.1 m.2.1 m.2.2.1 m.2.2.2.1, fun u => strip_any _ _ l u hl m.1 m.2.1 m.2.2.2.2.1 m.2.2.2.2.2⟩)
  clear c0
  have z1 := keepA (o' := .cells #[.int .i64 0, .int .i64 0, .int .i64 0, .int .i64 0] 57) (alloc_last w (.cells #[.int .i64 d.x, .int .i64 d.y, .int .i64 d.z] 24))
  have z2 : ((w.alloc (.cells #[.int .i64 d.x, .int .i64 d.y, .int .i64 d.z] 24)).alloc (.cells #[.int .i64 0, .int .i64 0, .int .i64 0, .int .i64 0] 57)).heap[w.heap.size + 1]? = some (.cells #[.int .i64 0, .int .i64 0, .int .i64 0, .int .i64 0] 57) := by
    have := alloc_last (w.alloc (.cells #[.int .i64 d.x, .int .i64 d.y, .int .i64 d.z] 24)) (.cells #[.int .i64 0, .int .i64 0, .int .i64 0, .int .i64 0] 57)
    simpa using this
  have HB := hideR (below_go (below_a w (.cells #[.int .i64 d.x, .int .i64 d.y, .int .i64 d.z] 24)) (below_a (w.alloc (.cells #[.int .i64 d.x, .int .i64 d.y, .int .i64 d.z] 24)) (.cells #[.int .i64 0, .int .i64 0, .int .i64 0, .int .i64 0] 57)))
  unfold Dr.val at *
  have start : True := trivial
  clear start
  by_cases q1 : dirB d = true
  case neg =>
    have q1' : dirB d = false := by simpa using q1
    have eE : sqE d l = 5 := by unfold sqE; rw [if_pos q1']
    have eA : sqA d l = ⟨0, 0, 0, 0⟩ := by unfold sqA; rw [eE]; rfl
    rw [eE, eA]
    rw [q1'] at hd
    clear HX q1 q1' eE eA
    obtain ⟨dx, dy, dz⟩ := d
    simp only at *
    unfold Sq.val
    go_enter Tryz.func20, Tryz.ntmps20
    go_upto_region 1 with fail
    generalize (w.alloc (.cells #[.int .i64 dx, .int .i64 dy, .int .i64 dz] 24)).alloc (.cells #[.int .i64 0, .int .i64 0, .int .i64 0, .int .i64 0] 57) = u0 at *
    obtain ⟨K, hK⟩ : ∃ K, w.heap.size = K := ⟨_, rfl⟩
    have HK := hideR hK
    rw [hK] at z1 z2 ⊢
    clear hK
    have x0 := (cells_at z1 0 (by simp)).1
    have x1 := (cells_at z1 1 (by simp)).1
    have x2 := (cells_at z1 2 (by simp)).1
    go_wp2_with fail
    refine (hd _).mono ?_
    rintro e u1 ⟨rfl, k1⟩
    replace z1 := keepB z1 k1
    replace z2 := keepB z2 k1
    replace HB := hideR (below_go (unhideR HB) k1)
    clear k1 hd x0 x1 x2
    have o0 := (cells_at z2 0 (by simp)).1
    have f0 := (cells_at z2 0 (by simp)).2
    have o1 := (cells_at z2 1 (by simp)).1
    have f1 := (cells_at z2 1 (by simp)).2
    have o2 := (cells_at z2 2 (by simp)).1
    have f2 := (cells_at z2 2 (by simp)).2
    have o3 := (cells_at z2 3 (by simp)).1
    have f3 := (cells_at z2 3 (by simp)).2
    have HF := hideR (set4_blA (unhideR HB) (show w.heap.size ≤ K + 1 by have := unhideR HK; omega) (.int .i64 0) (.int .i64 0) (.int .i64 0) (.int .i64 0))
    clear z1 z2 HB HK
    go_wp2
    simp [bodyPost, results, Tryz.results20, go_sem, o0, o1, o2, o3]
    exact unhideR HF
  case pos =>
  rw [q1] at hd
  by_cases q2 : l < 0 ∨ 12 < l
  · have eE : sqE d l = 2 := by unfold sqE; rw [if_neg (by rw [q1]; decide), if_pos q2]
    have eA : sqA d l = ⟨0, 0, 0, 0⟩ := by unfold sqA; rw [eE]; rfl
    rw [eE, eA]
    clear HX q1 eE eA
    obtain ⟨dx, dy, dz⟩ := d
    simp only at *
    unfold Sq.val
    go_enter Tryz.func20, Tryz.ntmps20
    go_upto_region 1 with fail
    generalize (w.alloc (.cells #[.int .i64 dx, .int .i64 dy, .int .i64 dz] 24)).alloc (.cells #[.int .i64 0, .int .i64 0, .int .i64 0, .int .i64 0] 57) = u0 at *
    obtain ⟨K, hK⟩ : ∃ K, w.heap.size = K := ⟨_, rfl⟩
    have HK := hideR hK
    rw [hK] at z1 z2 ⊢
    clear hK
    have x0 := (cells_at z1 0 (by simp)).1
    have x1 := (cells_at z1 1 (by simp)).1
    have x2 := (cells_at z1 2 (by simp)).1
    go_wp2_with fail
    refine (hd _).mono ?_
    rintro e u1 ⟨rfl, k1⟩
    replace z1 := keepB z1 k1
    replace z2 := keepB z2 k1
    replace HB := hideR (below_go (unhideR HB) k1)
    clear k1 hd x0 x1 x2
    by_cases q3 : l < 0
    · have t3 : decide (l < 0) = true := decide_eq_true q3
      clear q2 q3
      have o0 := (cells_at z2 0 (by simp)).1
      have f0 := (cells_at z2 0 (by simp)).2
      have o1 := (cells_at z2 1 (by simp)).1
      have f1 := (cells_at z2 1 (by simp)).2
      have o2 := (cells_at z2 2 (by simp)).1
      have f2 := (cells_at z2 2 (by simp)).2
      have o3 := (cells_at z2 3 (by simp)).1
      have f3 := (cells_at z2 3 (by simp)).2
      have HF := hideR (set4_blA (unhideR HB) (show w.heap.size ≤ K + 1 by have := unhideR HK; omega) (.int .i64 0) (.int .i64 0) (.int .i64 0) (.int .i64 0))
      clear z1 z2 HB HK
      go_wp2
      simp [bodyPost, results, Tryz.results20, go_sem, o0, o1, o2, o3]
      exact unhideR HF
    · have t3 : decide (l < 0) = false := decide_eq_false q3
      have t4 : decide (12 < l) = true := decide_eq_true (by omega)
      clear q2 q3
      have o0 := (cells_at z2 0 (by simp)).1
      have f0 := (cells_at z2 0 (by simp)).2
      have o1 := (cells_at z2 1 (by simp)).1
      have f1 := (cells_at z2 1 (by simp)).2
      have o2 := (cells_at z2 2 (by simp)).1
      have f2 := (cells_at z2 2 (by simp)).2
      have o3 := (cells_at z2 3 (by simp)).1
      have f3 := (cells_at z2 3 (by simp)).2
      have HF := hideR (set4_blA (unhideR HB) (show w.heap.size ≤ K + 1 by have := unhideR HK; omega) (.int .i64 0) (.int .i64 0) (.int .i64 0) (.int .i64 0))
      clear z1 z2 HB HK
      go_wp2
      simp [bodyPost, results, Tryz.results20, go_sem, o0, o1, o2, o3]
      exact unhideR HF
  obtain ⟨ln, rfl⟩ : ∃ ln : Nat, l = ln := ⟨l.toNat, by omega⟩
  have eE : sqE d (ln : Nat) = 0 := by unfold sqE; rw [if_neg (by rw [q1]; decide), if_neg q2]
  have eA : sqA d (ln : Nat) = sqV d ln := by unfold sqA; rw [eE, if_pos rfl]; rfl
  rw [eE, eA]
  obtain ⟨c0, c1, c2, hcu, hcv⟩ := unhideR HX q1 ln (by omega)
  have t3 : decide ((ln : Int) < 0) = false := decide_eq_false (by omega)
  have t4 : decide (12 < (ln : Int)) = false := decide_eq_false (by omega)
  have HFin : HeldR (∀ f, f = faV d → Value.agg #[.int .i64 f, .int .i64 (ln : Nat), .int .i64 (colV (uV d) (mV d) ln), .int .i64 (colV (vV d) (mV d) ln)] = (sqV d ln).val) := hideR (fun f e => by rw [e]; rfl)
  clear HX q1 q2 eE eA
  obtain ⟨dx, dy, dz⟩ := d
  have HAxv : HeldR (axV ⟨dx, dy, dz⟩ = if szV dx < szV dy then (if szV dy < szV dz then 2 else 1) else if szV dx < szV dz then 2 else 0) := hideR rfl
  have HUV : HeldR (∀ a, axV ⟨dx, dy, dz⟩ = a → uV ⟨dx, dy, dz⟩ = (if a = 0 then dy else dx) ∧ vV ⟨dx, dy, dz⟩ = (if a = 2 then dy else dz) ∧ mV ⟨dx, dy, dz⟩ = szV (if a = 0 then dx else if a = 1 then dy else dz)) := hideR (fun a h => by subst h; exact ⟨rfl, rfl, rfl⟩)
  simp only at *
  generalize colV (uV ⟨dx, dy, dz⟩) (mV ⟨dx, dy, dz⟩) ln = CU at *
  generalize colV (vV ⟨dx, dy, dz⟩) (mV ⟨dx, dy, dz⟩) ln = CV at *
  generalize uV ⟨dx, dy, dz⟩ = UU at *
  generalize vV ⟨dx, dy, dz⟩ = VV at *
  generalize mV ⟨dx, dy, dz⟩ = MM at *
  have HFa : HeldR (∀ a, axV ⟨dx, dy, dz⟩ = a → faV ⟨dx, dy, dz⟩ = if (if a = 0 then dx else if a = 1 then dy else dz) < 0 then 2 * (a : Int) + 1 else 2 * (a : Int)) := hideR (fun a h => by subst h; rfl)
  generalize faV ⟨dx, dy, dz⟩ = FA at *
  generalize (sqV ⟨dx, dy, dz⟩ ln).val = SV at *
  generalize axV ⟨dx, dy, dz⟩ = AX at *
  have hs0 : ∃ s, szV dx = s := ⟨_, rfl⟩
  obtain ⟨s0, hs0⟩ := hs0
  obtain ⟨s1, hs1⟩ : ∃ s, szV dy = s := ⟨_, rfl⟩
  obtain ⟨s2, hs2⟩ : ∃ s, szV dz = s := ⟨_, rfl⟩
  rw [hs0] at c0 HAxv
  rw [hs1] at c1 HAxv
  rw [hs2] at c2 HAxv
  have HSz := hideR (And.intro hs0 (And.intro hs1 hs2))
  clear hs0 hs1 hs2
  by_cases q1 : s0 < s1
  · have t1 : decide (s0 < s1) = true := decide_eq_true q1
    rw [if_pos q1] at HAxv
    by_cases q2 : s1 < s2
    · have t2 : decide (s1 < s2) = true := decide_eq_true q2
      rw [if_pos q2] at HAxv
      clear q1 q2
      have hAX : AX = 2 := unhideR HAxv
      obtain ⟨eU, eV, eM⟩ := unhideR HUV _ hAX
      replace eU : UU = dx := eU
      replace eV : VV = dy := eV
      replace eM : MM = s2 := eM.trans (unhideR HSz).2.2
      have hFA : FA = if dz < 0 then 5 else 4 := unhideR HFa _ hAX
      have HFA := hideR hFA
      rw [eU, eM] at hcu
      rw [eV, eM] at hcv
      clear HAxv HUV HFa HSz eU eV eM hAX hFA
      go_enter Tryz.func20, Tryz.ntmps20
      go_upto_region 1 with fail
      generalize (w.alloc (.cells #[.int .i64 dx, .int .i64 dy, .int .i64 dz] 24)).alloc (.cells #[.int .i64 0, .int .i64 0, .int .i64 0, .int .i64 0] 57) = u0 at *
      obtain ⟨K, hK⟩ : ∃ K, w.heap.size = K := ⟨_, rfl⟩
      have HK := hideR hK
      rw [hK] at z1 z2 ⊢
      clear hK
      have x0 := (cells_at z1 0 (by simp)).1
      have x1 := (cells_at z1 1 (by simp)).1
      have x2 := (cells_at z1 2 (by simp)).1
      go_wp2_with fail
      refine (hd _).mono ?_
      rintro e u1 ⟨rfl, k1⟩
      replace z1 := keepB z1 k1
      replace z2 := keepB z2 k1
      replace HB := hideR (below_go (unhideR HB) k1)
      clear k1 hd x0 x1 x2
      have x0 := (cells_at z1 0 (by simp)).1
      have x1 := (cells_at z1 1 (by simp)).1
      have x2 := (cells_at z1 2 (by simp)).1
      go_upto_region 7 with fail
      have z3 := alloc_last u1 (.cells #[.int .i64 dx, .int .i64 dy, .int .i64 dz] 3)
      have k1 := below_a u1 (.cells #[.int .i64 dx, .int .i64 dy, .int .i64 dz] 3)
      replace z2 := keepB z2 k1
      replace HB := hideR (below_go (unhideR HB) k1)
      clear k1 x0 x1 x2 z1
      generalize u1.alloc (.cells #[.int .i64 dx, .int .i64 dy, .int .i64 dz] 3) = u2 at *
      generalize u1.heap.size = Lb at *
      go_wp2_with fail
      go_loopw [8, 9] (fun av iv wl => ∃ i a : Nat, ((i = 1 ∧ a = 0) ∨ (i = 2 ∧ a = 1) ∨ (i = 3 ∧ a = 2)) ∧ iv = .int .i64 (i : Nat) ∧ av = .int .i64 (a : Nat) ∧ wl.heap[K + 1]? = some (.cells #[.int .i64 0, .int .i64 0, .int .i64 0, .int .i64 0] 57) ∧ wl.heap[Lb]? = some (.cells #[.int .i64 dx, .int .i64 dy, .int .i64 dz] 3) ∧ HeldR (Below w.heap.size w wl)) (fun _ iv _ => 4 - (intOf iv).toNat)
      case atStart => exact ⟨1, 0, .inl ⟨rfl, rfl⟩, rfl, rfl, z2, z3, HB⟩
      case round =>
        clear z2 z3 HB
        obtain ⟨i, a, hst, rfl, rfl, z2, z3, HB⟩ := hrel
        rcases hst with ⟨rfl, rfl⟩ | ⟨rfl, rfl⟩ | ⟨rfl, rfl⟩
        · clear hcu hcv HFin HFA
          go_upto_region 11 with fail
          refine wp_region_made 0 #[true, true, true, true, true, true, true, true, true, true, false] [.lets (· = .slice (some ⟨Lb, 0, none⟩) 3 3),
            .lets (· = .int .i64 1),
            .lets (· = .pointer (some ⟨Lb, 1, none⟩)),
            .lets (· = .int .i64 dy),
            .lets (· = .int .i64 s1),
            .lets (· = .slice (some ⟨Lb, 0, none⟩) 3 3),
            .lets (· = .int .i64 0),
            .lets (· = .pointer (some ⟨Lb, 0, none⟩)),
            .lets (· = .int .i64 dx),
            .lets (· = .int .i64 s0)] [] [] (by kernel_rfl) (by kernel_rfl) rfl ?kinds (by kernel_rfl) (by kernel_rfl) (by kernel_rfl) ?_
          case kinds =>
            constructor
            · intro i h
              rcases i with _ | _ | _ | _ | _ | _ | _ | _ | _ | _ | i <;> simp [Kx.isMade] at h
            · intro i h
              rcases i with _ | _ | _ | _ | _ | _ | _ | _ | _ | _ | i <;> simp [Kx.isUse] at h
          refine lexX_step (fun K hK => ⟨by kernel_rfl, ⟨_, rfl⟩, fun v hv => ?_, fun v hv => ?_⟩)
          · go_simp
            exact mUpon_b
          subst hv
          go_simp
          refine hK _ ?_
          clear hK K
          refine lexX_step (fun K hK => ⟨by kernel_rfl, ⟨_, rfl⟩, fun v hv => ?_, fun v hv => ?_⟩)
          · go_simp
            exact mUpon_b
          subst hv
          go_simp
          refine hK _ ?_
          clear hK K
          refine lexX_step (fun K hK => ⟨by kernel_rfl, ⟨_, rfl⟩, fun v hv => ?_, fun v hv => ?_⟩)
          · go_simp
            exact mUpon_b
          subst hv
          go_simp
          refine hK _ ?_
          clear hK K
          refine lexX_step (fun K hK => ⟨by kernel_rfl, ⟨_, rfl⟩, fun v hv => ?_, fun v hv => ?_⟩)
          · have q9 := (cells_at (keepB z3 hv) 1 (by simp)).1
            go_simp
            exact mUpon_b
          subst hv
          go_simp
          refine hK _ ?_
          clear hK K
          refine lexX_step (fun K hK => ⟨by kernel_rfl, ⟨_, rfl⟩, fun v hv => ?_, fun v hv => ?_⟩)
          · go_simp
            refine (c1 _).mono ?_
            rintro e w9 ⟨rfl, rfl⟩
            exact ⟨_, rfl, rfl, Below.refl _ _⟩
          subst hv
          go_simp
          refine hK _ ?_
          clear hK K
          refine lexX_step (fun K hK => ⟨by kernel_rfl, ⟨_, rfl⟩, fun v hv => ?_, fun v hv => ?_⟩)
          · go_simp
            exact mUpon_b
          subst hv
          go_simp
          refine hK _ ?_
          clear hK K
          refine lexX_step (fun K hK => ⟨by kernel_rfl, ⟨_, rfl⟩, fun v hv => ?_, fun v hv => ?_⟩)
          · go_simp
            exact mUpon_b
          subst hv
          go_simp
          refine hK _ ?_
          clear hK K
          refine lexX_step (fun K hK => ⟨by kernel_rfl, ⟨_, rfl⟩, fun v hv => ?_, fun v hv => ?_⟩)
          · go_simp
            exact mUpon_b
          subst hv
          go_simp
          refine hK _ ?_
          clear hK K
          refine lexX_step (fun K hK => ⟨by kernel_rfl, ⟨_, rfl⟩, fun v hv => ?_, fun v hv => ?_⟩)
          · have q9 := (cells_at (keepB z3 hv) 0 (by simp)).1
            go_simp
            exact mUpon_b
          subst hv
          go_simp
          refine hK _ ?_
          clear hK K
          refine lexX_step (fun K hK => ⟨by kernel_rfl, ⟨_, rfl⟩, fun v hv => ?_, fun v hv => ?_⟩)
          · go_simp
            refine (c0 _).mono ?_
            rintro e w9 ⟨rfl, rfl⟩
            exact ⟨_, rfl, rfl, Below.refl _ _⟩
          subst hv
          go_simp
          refine hK _ ?_
          clear hK K
          refine lexX_end (fun v5 hv => ?_)
          have k5 := hv.low
          clear hv
          replace z2 := keepB z2 k5
          replace z3 := keepB z3 k5
          replace HB := hideR (below_go (unhideR HB) k5)
          clear k5
          refine wpAny_step (i := 10) (by kernel_rfl) rfl (by kernel_rfl) (fun K hK => ?_)
          unfold Oper.wp
          go_simp
          refine hK _ _ ?_
          clear hK K
          refine wpAny_end (by kernel_rfl) ?_
          go_wp2
          exact ⟨⟨2, 1, .inr (.inl ⟨rfl, rfl⟩), by go_num, by go_num, z2, z3, HB⟩, by simp [intOf]⟩
        · clear hcu hcv HFin HFA
          go_upto_region 11 with fail
          refine wp_region_made 0 #[true, true, true, true, true, true, true, true, true, true, false] [.lets (· = .slice (some ⟨Lb, 0, none⟩) 3 3),
            .lets (· = .int .i64 2),
            .lets (· = .pointer (some ⟨Lb, 2, none⟩)),
            .lets (· = .int .i64 dz),
            .lets (· = .int .i64 s2),
            .lets (· = .slice (some ⟨Lb, 0, none⟩) 3 3),
            .lets (· = .int .i64 1),
            .lets (· = .pointer (some ⟨Lb, 1, none⟩)),
            .lets (· = .int .i64 dy),
            .lets (· = .int .i64 s1)] [] [] (by kernel_rfl) (by kernel_rfl) rfl ?kinds (by kernel_rfl) (by kernel_rfl) (by kernel_rfl) ?_
          case kinds =>
            constructor
            · intro i h
              rcases i with _ | _ | _ | _ | _ | _ | _ | _ | _ | _ | i <;> simp [Kx.isMade] at h
            · intro i h
              rcases i with _ | _ | _ | _ | _ | _ | _ | _ | _ | _ | i <;> simp [Kx.isUse] at h
          refine lexX_step (fun K hK => ⟨by kernel_rfl, ⟨_, rfl⟩, fun v hv => ?_, fun v hv => ?_⟩)
          · go_simp
            exact mUpon_b
          subst hv
          go_simp
          refine hK _ ?_
          clear hK K
          refine lexX_step (fun K hK => ⟨by kernel_rfl, ⟨_, rfl⟩, fun v hv => ?_, fun v hv => ?_⟩)
          · go_simp
            exact mUpon_b
          subst hv
          go_simp
          refine hK _ ?_
          clear hK K
          refine lexX_step (fun K hK => ⟨by kernel_rfl, ⟨_, rfl⟩, fun v hv => ?_, fun v hv => ?_⟩)
          · go_simp
            exact mUpon_b
          subst hv
          go_simp
          refine hK _ ?_
          clear hK K
          refine lexX_step (fun K hK => ⟨by kernel_rfl, ⟨_, rfl⟩, fun v hv => ?_, fun v hv => ?_⟩)
          · have q9 := (cells_at (keepB z3 hv) 2 (by simp)).1
            go_simp
            exact mUpon_b
          subst hv
          go_simp
          refine hK _ ?_
          clear hK K
          refine lexX_step (fun K hK => ⟨by kernel_rfl, ⟨_, rfl⟩, fun v hv => ?_, fun v hv => ?_⟩)
          · go_simp
            refine (c2 _).mono ?_
            rintro e w9 ⟨rfl, rfl⟩
            exact ⟨_, rfl, rfl, Below.refl _ _⟩
          subst hv
          go_simp
          refine hK _ ?_
          clear hK K
          refine lexX_step (fun K hK => ⟨by kernel_rfl, ⟨_, rfl⟩, fun v hv => ?_, fun v hv => ?_⟩)
          · go_simp
            exact mUpon_b
          subst hv
          go_simp
          refine hK _ ?_
          clear hK K
          refine lexX_step (fun K hK => ⟨by kernel_rfl, ⟨_, rfl⟩, fun v hv => ?_, fun v hv => ?_⟩)
          · go_simp
            exact mUpon_b
          subst hv
          go_simp
          refine hK _ ?_
          clear hK K
          refine lexX_step (fun K hK => ⟨by kernel_rfl, ⟨_, rfl⟩, fun v hv => ?_, fun v hv => ?_⟩)
          · go_simp
            exact mUpon_b
          subst hv
          go_simp
          refine hK _ ?_
          clear hK K
          refine lexX_step (fun K hK => ⟨by kernel_rfl, ⟨_, rfl⟩, fun v hv => ?_, fun v hv => ?_⟩)
          · have q9 := (cells_at (keepB z3 hv) 1 (by simp)).1
            go_simp
            exact mUpon_b
          subst hv
          go_simp
          refine hK _ ?_
          clear hK K
          refine lexX_step (fun K hK => ⟨by kernel_rfl, ⟨_, rfl⟩, fun v hv => ?_, fun v hv => ?_⟩)
          · go_simp
            refine (c1 _).mono ?_
            rintro e w9 ⟨rfl, rfl⟩
            exact ⟨_, rfl, rfl, Below.refl _ _⟩
          subst hv
          go_simp
          refine hK _ ?_
          clear hK K
          refine lexX_end (fun v5 hv => ?_)
          have k5 := hv.low
          clear hv
          replace z2 := keepB z2 k5
          replace z3 := keepB z3 k5
          replace HB := hideR (below_go (unhideR HB) k5)
          clear k5
          refine wpAny_step (i := 10) (by kernel_rfl) rfl (by kernel_rfl) (fun K hK => ?_)
          unfold Oper.wp
          go_simp
          refine hK _ _ ?_
          clear hK K
          refine wpAny_end (by kernel_rfl) ?_
          go_wp2
          exact ⟨⟨3, 2, .inr (.inr ⟨rfl, rfl⟩), by go_num, by go_num, z2, z3, HB⟩, by simp [intOf]⟩
        · clear t1 t2
          have x0 := (cells_at z3 0 (by simp)).1
          have x1 := (cells_at z3 1 (by simp)).1
          have x2 := (cells_at z3 2 (by simp)).1
          go_upto_region 19 with fail
          go_wp2_with fail
          refine (c2 _).mono ?_
          rintro e v6 ⟨rfl, rfl⟩
          clear x0 x1 x2
          by_cases qn : dz < 0
          · have tn : decide (dz < 0) = true := decide_eq_true qn
            have HQ := hideR (unhideR HFin 5 (by rw [unhideR HFA, if_pos qn]))
            clear HFin HFA qn
            have zS := alloc_last v6 (.cells #[.int .i64 4, .int .i64 (ln : Nat), .int .i64 0, .int .i64 0] 57)
            have k5 := below_a v6 (.cells #[.int .i64 4, .int .i64 (ln : Nat), .int .i64 0, .int .i64 0] 57)
            have z4 := keepB z3 k5
            have z5 := keepB z2 k5
            have HB5 := hideR (below_go (unhideR HB) k5)
            have HG : HeldR (K + 1 < v6.heap.size ∧ Lb < v6.heap.size ∧ w.heap.size ≤ v6.heap.size) := hideR ⟨(Array.getElem?_eq_some_iff.1 z2).1, (Array.getElem?_eq_some_iff.1 z3).1, (unhideR HB).size⟩
            clear z2 z3 HB k5
            go_upto_region 21 with fail
            generalize v6.alloc (.cells #[.int .i64 4, .int .i64 (ln : Nat), .int .i64 0, .int .i64 0] 57) = u7 at *
            generalize v6.heap.size = G at *
            have x2 := (cells_at z4 2 (by simp)).1
            have o0 := (cells_at zS 0 (by simp)).1
            have f0 := (cells_at zS 0 (by simp)).2
            go_upto_region 23 with fail
            clear o0 f0 x2
            have y4 := one_ne (i := 0) (.int .i64 5) z4 (show Lb ≠ G by have := unhideR HG; omega)
            have y5 := one_ne (i := 0) (.int .i64 5) z5 (show K + 1 ≠ G by have := unhideR HG; omega)
            have yS := one_set zS 0 (.int .i64 5)
            have yB := hideR ((unhideR HB5).setCell (p := ⟨G, 0, none⟩) (unhideR HG).2.2 (.int .i64 5))
            simp only [setA1] at yS
            clear z4 z5 zS HB5
            generalize u7.setCell ⟨G, 0, none⟩ (.int .i64 5) = u8 at *
            have z4 := y4
            have z5 := y5
            have zS := yS
            have HB5 := yB
            clear y4 y5 yS yB
            go_wp2_with fail
            refine (hcu _).mono ?_
            rintro e v9 ⟨rfl, rfl⟩
            have o2 := (cells_at zS 2 (by simp)).1
            have f2 := (cells_at zS 2 (by simp)).2
            go_upto_region 24 with fail
            clear o2 f2
            have y4 := one_ne (i := 2) (.int .i64 CU) z4 (show Lb ≠ G by have := unhideR HG; omega)
            have y5 := one_ne (i := 2) (.int .i64 CU) z5 (show K + 1 ≠ G by have := unhideR HG; omega)
            have yS := one_set zS 2 (.int .i64 CU)
            have yB := hideR ((unhideR HB5).setCell (p := ⟨G, 2, none⟩) (unhideR HG).2.2 (.int .i64 CU))
            simp only [setA1] at yS
            clear z4 z5 zS HB5
            generalize v9.setCell ⟨G, 2, none⟩ (.int .i64 CU) = u9 at *
            have z4 := y4
            have z5 := y5
            have zS := yS
            have HB5 := yB
            clear y4 y5 yS yB
            go_wp2_with fail
            refine (hcv _).mono ?_
            rintro e v9 ⟨rfl, rfl⟩
            have o3 := (cells_at zS 3 (by simp)).1
            have f3 := (cells_at zS 3 (by simp)).2
            go_upto_region 25 with fail
            clear o3 f3
            have y4 := one_ne (i := 3) (.int .i64 CV) z4 (show Lb ≠ G by have := unhideR HG; omega)
            have y5 := one_ne (i := 3) (.int .i64 CV) z5 (show K + 1 ≠ G by have := unhideR HG; omega)
            have yS := one_set zS 3 (.int .i64 CV)
            have yB := hideR ((unhideR HB5).setCell (p := ⟨G, 3, none⟩) (unhideR HG).2.2 (.int .i64 CV))
            simp only [setA1] at yS
            clear z4 z5 zS HB5
            generalize v9.setCell ⟨G, 3, none⟩ (.int .i64 CV) = u10 at *
            have z4 := y4
            have z5 := y5
            have zS := yS
            have HB5 := yB
            clear y4 y5 yS yB
            have r0 := (cells_at zS 0 (by simp)).1
            have r1 := (cells_at zS 1 (by simp)).1
            have r2 := (cells_at zS 2 (by simp)).1
            have r3 := (cells_at zS 3 (by simp)).1
            have o0 := (cells_at z5 0 (by simp)).1
            have f0 := (cells_at z5 0 (by simp)).2
            have o1 := (cells_at z5 1 (by simp)).1
            have f1 := (cells_at z5 1 (by simp)).2
            have o2 := (cells_at z5 2 (by simp)).1
            have f2 := (cells_at z5 2 (by simp)).2
            have o3 := (cells_at z5 3 (by simp)).1
            have f3 := (cells_at z5 3 (by simp)).2
            have HF := hideR (And.intro (unhideR HQ) (set4_blA (unhideR HB5) (show w.heap.size ≤ K + 1 by have := unhideR HK; omega) (.int .i64 5) (.int .i64 (ln : Nat)) (.int .i64 CU) (.int .i64 CV)))
            clear z4 z5 zS HB5 HG HK HQ hcu hcv
            go_wp2
            simp [bodyPost, results, Tryz.results20, go_sem, o0, o1, o2, o3]
            exact unhideR HF
          · have tn : decide (dz < 0) = false := decide_eq_false qn
            have HQ := hideR (unhideR HFin 4 (by rw [unhideR HFA, if_neg qn]))
            clear HFin HFA qn
            have zS := alloc_last v6 (.cells #[.int .i64 4, .int .i64 (ln : Nat), .int .i64 0, .int .i64 0] 57)
            have k5 := below_a v6 (.cells #[.int .i64 4, .int .i64 (ln : Nat), .int .i64 0, .int .i64 0] 57)
            have z4 := keepB z3 k5
            have z5 := keepB z2 k5
            have HB5 := hideR (below_go (unhideR HB) k5)
            have HG : HeldR (K + 1 < v6.heap.size ∧ Lb < v6.heap.size ∧ w.heap.size ≤ v6.heap.size) := hideR ⟨(Array.getElem?_eq_some_iff.1 z2).1, (Array.getElem?_eq_some_iff.1 z3).1, (unhideR HB).size⟩
            clear z2 z3 HB k5
            go_upto_region 21 with fail
            generalize v6.alloc (.cells #[.int .i64 4, .int .i64 (ln : Nat), .int .i64 0, .int .i64 0] 57) = u7 at *
            generalize v6.heap.size = G at *
            have x2 := (cells_at z4 2 (by simp)).1
            go_upto_region 23 with fail
            clear x2
            go_wp2_with fail
            refine (hcu _).mono ?_
            rintro e v9 ⟨rfl, rfl⟩
            have o2 := (cells_at zS 2 (by simp)).1
            have f2 := (cells_at zS 2 (by simp)).2
            go_upto_region 24 with fail
            clear o2 f2
            have y4 := one_ne (i := 2) (.int .i64 CU) z4 (show Lb ≠ G by have := unhideR HG; omega)
            have y5 := one_ne (i := 2) (.int .i64 CU) z5 (show K + 1 ≠ G by have := unhideR HG; omega)
            have yS := one_set zS 2 (.int .i64 CU)
            have yB := hideR ((unhideR HB5).setCell (p := ⟨G, 2, none⟩) (unhideR HG).2.2 (.int .i64 CU))
            simp only [setA1] at yS
            clear z4 z5 zS HB5
            generalize v9.setCell ⟨G, 2, none⟩ (.int .i64 CU) = u9 at *
            have z4 := y4
            have z5 := y5
            have zS := yS
            have HB5 := yB
            clear y4 y5 yS yB
            go_wp2_with fail
            refine (hcv _).mono ?_
            rintro e v9 ⟨rfl, rfl⟩
            have o3 := (cells_at zS 3 (by simp)).1
            have f3 := (cells_at zS 3 (by simp)).2
            go_upto_region 25 with fail
            clear o3 f3
            have y4 := one_ne (i := 3) (.int .i64 CV) z4 (show Lb ≠ G by have := unhideR HG; omega)
            have y5 := one_ne (i := 3) (.int .i64 CV) z5 (show K + 1 ≠ G by have := unhideR HG; omega)
            have yS := one_set zS 3 (.int .i64 CV)
            have yB := hideR ((unhideR HB5).setCell (p := ⟨G, 3, none⟩) (unhideR HG).2.2 (.int .i64 CV))
            simp only [setA1] at yS
            clear z4 z5 zS HB5
            generalize v9.setCell ⟨G, 3, none⟩ (.int .i64 CV) = u10 at *
            have z4 := y4
            have z5 := y5
            have zS := yS
            have HB5 := yB
            clear y4 y5 yS yB
            have r0 := (cells_at zS 0 (by simp)).1
            have r1 := (cells_at zS 1 (by simp)).1
            have r2 := (cells_at zS 2 (by simp)).1
            have r3 := (cells_at zS 3 (by simp)).1
            have o0 := (cells_at z5 0 (by simp)).1
            have f0 := (cells_at z5 0 (by simp)).2
            have o1 := (cells_at z5 1 (by simp)).1
            have f1 := (cells_at z5 1 (by simp)).2
            have o2 := (cells_at z5 2 (by simp)).1
            have f2 := (cells_at z5 2 (by simp)).2
            have o3 := (cells_at z5 3 (by simp)).1
            have f3 := (cells_at z5 3 (by simp)).2
            have HF := hideR (And.intro (unhideR HQ) (set4_blA (unhideR HB5) (show w.heap.size ≤ K + 1 by have := unhideR HK; omega) (.int .i64 4) (.int .i64 (ln : Nat)) (.int .i64 CU) (.int .i64 CV)))
            clear z4 z5 zS HB5 HG HK HQ hcu hcv
            go_wp2
            simp [bodyPost, results, Tryz.results20, go_sem, o0, o1, o2, o3]
            exact unhideR HF
    · have t2 : decide (s1 < s2) = false := decide_eq_false q2
      rw [if_neg q2] at HAxv
      clear q1 q2
      have hAX : AX = 1 := unhideR HAxv
      obtain ⟨eU, eV, eM⟩ := unhideR HUV _ hAX
      replace eU : UU = dx := eU
      replace eV : VV = dz := eV
      replace eM : MM = s1 := eM.trans (unhideR HSz).2.1
      have hFA : FA = if dy < 0 then 3 else 2 := unhideR HFa _ hAX
      have HFA := hideR hFA
      rw [eU, eM] at hcu
      rw [eV, eM] at hcv
      clear HAxv HUV HFa HSz eU eV eM hAX hFA
      go_enter Tryz.func20, Tryz.ntmps20
      go_upto_region 1 with fail
      generalize (w.alloc (.cells #[.int .i64 dx, .int .i64 dy, .int .i64 dz] 24)).alloc (.cells #[.int .i64 0, .int .i64 0, .int .i64 0, .int .i64 0] 57) = u0 at *
      obtain ⟨K, hK⟩ : ∃ K, w.heap.size = K := ⟨_, rfl⟩
      have HK := hideR hK
      rw [hK] at z1 z2 ⊢
      clear hK
      have x0 := (cells_at z1 0 (by simp)).1
      have x1 := (cells_at z1 1 (by simp)).1
      have x2 := (cells_at z1 2 (by simp)).1
      go_wp2_with fail
      refine (hd _).mono ?_
      rintro e u1 ⟨rfl, k1⟩
      replace z1 := keepB z1 k1
      replace z2 := keepB z2 k1
      replace HB := hideR (below_go (unhideR HB) k1)
      clear k1 hd x0 x1 x2
      have x0 := (cells_at z1 0 (by simp)).1
      have x1 := (cells_at z1 1 (by simp)).1
      have x2 := (cells_at z1 2 (by simp)).1
      go_upto_region 7 with fail
      have z3 := alloc_last u1 (.cells #[.int .i64 dx, .int .i64 dy, .int .i64 dz] 3)
      have k1 := below_a u1 (.cells #[.int .i64 dx, .int .i64 dy, .int .i64 dz] 3)
      replace z2 := keepB z2 k1
      replace HB := hideR (below_go (unhideR HB) k1)
      clear k1 x0 x1 x2 z1
      generalize u1.alloc (.cells #[.int .i64 dx, .int .i64 dy, .int .i64 dz] 3) = u2 at *
      generalize u1.heap.size = Lb at *
      go_wp2_with fail
      go_loopw [8, 9] (fun av iv wl => ∃ i a : Nat, ((i = 1 ∧ a = 0) ∨ (i = 2 ∧ a = 1) ∨ (i = 3 ∧ a = 1)) ∧ iv = .int .i64 (i : Nat) ∧ av = .int .i64 (a : Nat) ∧ wl.heap[K + 1]? = some (.cells #[.int .i64 0, .int .i64 0, .int .i64 0, .int .i64 0] 57) ∧ wl.heap[Lb]? = some (.cells #[.int .i64 dx, .int .i64 dy, .int .i64 dz] 3) ∧ HeldR (Below w.heap.size w wl)) (fun _ iv _ => 4 - (intOf iv).toNat)
      case atStart => exact ⟨1, 0, .inl ⟨rfl, rfl⟩, rfl, rfl, z2, z3, HB⟩
      case round =>
        clear z2 z3 HB
        obtain ⟨i, a, hst, rfl, rfl, z2, z3, HB⟩ := hrel
        rcases hst with ⟨rfl, rfl⟩ | ⟨rfl, rfl⟩ | ⟨rfl, rfl⟩
        · clear hcu hcv HFin HFA
          go_upto_region 11 with fail
          refine wp_region_made 0 #[true, true, true, true, true, true, true, true, true, true, false] [.lets (· = .slice (some ⟨Lb, 0, none⟩) 3 3),
            .lets (· = .int .i64 1),
            .lets (· = .pointer (some ⟨Lb, 1, none⟩)),
            .lets (· = .int .i64 dy),
            .lets (· = .int .i64 s1),
            .lets (· = .slice (some ⟨Lb, 0, none⟩) 3 3),
            .lets (· = .int .i64 0),
            .lets (· = .pointer (some ⟨Lb, 0, none⟩)),
            .lets (· = .int .i64 dx),
            .lets (· = .int .i64 s0)] [] [] (by kernel_rfl) (by kernel_rfl) rfl ?kinds (by kernel_rfl) (by kernel_rfl) (by kernel_rfl) ?_
          case kinds =>
            constructor
            · intro i h
              rcases i with _ | _ | _ | _ | _ | _ | _ | _ | _ | _ | i <;> simp [Kx.isMade] at h
            · intro i h
              rcases i with _ | _ | _ | _ | _ | _ | _ | _ | _ | _ | i <;> simp [Kx.isUse] at h
          refine lexX_step (fun K hK => ⟨by kernel_rfl, ⟨_, rfl⟩, fun v hv => ?_, fun v hv => ?_⟩)
          · go_simp
            exact mUpon_b
          subst hv
          go_simp
          refine hK _ ?_
          clear hK K
          refine lexX_step (fun K hK => ⟨by kernel_rfl, ⟨_, rfl⟩, fun v hv => ?_, fun v hv => ?_⟩)
          · go_simp
            exact mUpon_b
          subst hv
          go_simp
          refine hK _ ?_
          clear hK K
          refine lexX_step (fun K hK => ⟨by kernel_rfl, ⟨_, rfl⟩, fun v hv => ?_, fun v hv => ?_⟩)
          · go_simp
            exact mUpon_b
          subst hv
          go_simp
          refine hK _ ?_
          clear hK K
          refine lexX_step (fun K hK => ⟨by kernel_rfl, ⟨_, rfl⟩, fun v hv => ?_, fun v hv => ?_⟩)
          · have q9 := (cells_at (keepB z3 hv) 1 (by simp)).1
            go_simp
            exact mUpon_b
          subst hv
          go_simp
          refine hK _ ?_
          clear hK K
          refine lexX_step (fun K hK => ⟨by kernel_rfl, ⟨_, rfl⟩, fun v hv => ?_, fun v hv => ?_⟩)
          · go_simp
            refine (c1 _).mono ?_
            rintro e w9 ⟨rfl, rfl⟩
            exact ⟨_, rfl, rfl, Below.refl _ _⟩
          subst hv
          go_simp
          refine hK _ ?_
          clear hK K
          refine lexX_step (fun K hK => ⟨by kernel_rfl, ⟨_, rfl⟩, fun v hv => ?_, fun v hv => ?_⟩)
          · go_simp
            exact mUpon_b
          subst hv
          go_simp
          refine hK _ ?_
          clear hK K
          refine lexX_step (fun K hK => ⟨by kernel_rfl, ⟨_, rfl⟩, fun v hv => ?_, fun v hv => ?_⟩)
          · go_simp
            exact mUpon_b
          subst hv
          go_simp
          refine hK _ ?_
          clear hK K
          refine lexX_step (fun K hK => ⟨by kernel_rfl, ⟨_, rfl⟩, fun v hv => ?_, fun v hv => ?_⟩)
          · go_simp
            exact mUpon_b
          subst hv
          go_simp
          refine hK _ ?_
          clear hK K
          refine lexX_step (fun K hK => ⟨by kernel_rfl, ⟨_, rfl⟩, fun v hv => ?_, fun v hv => ?_⟩)
          · have q9 := (cells_at (keepB z3 hv) 0 (by simp)).1
            go_simp
            exact mUpon_b
          subst hv
          go_simp
          refine hK _ ?_
          clear hK K
          refine lexX_step (fun K hK => ⟨by kernel_rfl, ⟨_, rfl⟩, fun v hv => ?_, fun v hv => ?_⟩)
          · go_simp
            refine (c0 _).mono ?_
            rintro e w9 ⟨rfl, rfl⟩
            exact ⟨_, rfl, rfl, Below.refl _ _⟩
          subst hv
          go_simp
          refine hK _ ?_
          clear hK K
          refine lexX_end (fun v5 hv => ?_)
          have k5 := hv.low
          clear hv
          replace z2 := keepB z2 k5
          replace z3 := keepB z3 k5
          replace HB := hideR (below_go (unhideR HB) k5)
          clear k5
          refine wpAny_step (i := 10) (by kernel_rfl) rfl (by kernel_rfl) (fun K hK => ?_)
          unfold Oper.wp
          go_simp
          refine hK _ _ ?_
          clear hK K
          refine wpAny_end (by kernel_rfl) ?_
          go_wp2
          exact ⟨⟨2, 1, .inr (.inl ⟨rfl, rfl⟩), by go_num, by go_num, z2, z3, HB⟩, by simp [intOf]⟩
        · clear hcu hcv HFin HFA
          go_upto_region 11 with fail
          refine wp_region_made 0 #[true, true, true, true, true, true, true, true, true, true, false] [.lets (· = .slice (some ⟨Lb, 0, none⟩) 3 3),
            .lets (· = .int .i64 2),
            .lets (· = .pointer (some ⟨Lb, 2, none⟩)),
            .lets (· = .int .i64 dz),
            .lets (· = .int .i64 s2),
            .lets (· = .slice (some ⟨Lb, 0, none⟩) 3 3),
            .lets (· = .int .i64 1),
            .lets (· = .pointer (some ⟨Lb, 1, none⟩)),
            .lets (· = .int .i64 dy),
            .lets (· = .int .i64 s1)] [] [] (by kernel_rfl) (by kernel_rfl) rfl ?kinds (by kernel_rfl) (by kernel_rfl) (by kernel_rfl) ?_
          case kinds =>
            constructor
            · intro i h
              rcases i with _ | _ | _ | _ | _ | _ | _ | _ | _ | _ | i <;> simp [Kx.isMade] at h
            · intro i h
              rcases i with _ | _ | _ | _ | _ | _ | _ | _ | _ | _ | i <;> simp [Kx.isUse] at h
          refine lexX_step (fun K hK => ⟨by kernel_rfl, ⟨_, rfl⟩, fun v hv => ?_, fun v hv => ?_⟩)
          · go_simp
            exact mUpon_b
          subst hv
          go_simp
          refine hK _ ?_
          clear hK K
          refine lexX_step (fun K hK => ⟨by kernel_rfl, ⟨_, rfl⟩, fun v hv => ?_, fun v hv => ?_⟩)
          · go_simp
            exact mUpon_b
          subst hv
          go_simp
          refine hK _ ?_
          clear hK K
          refine lexX_step (fun K hK => ⟨by kernel_rfl, ⟨_, rfl⟩, fun v hv => ?_, fun v hv => ?_⟩)
          · go_simp
            exact mUpon_b
          subst hv
          go_simp
          refine hK _ ?_
          clear hK K
          refine lexX_step (fun K hK => ⟨by kernel_rfl, ⟨_, rfl⟩, fun v hv => ?_, fun v hv => ?_⟩)
          · have q9 := (cells_at (keepB z3 hv) 2 (by simp)).1
            go_simp
            exact mUpon_b
          subst hv
          go_simp
          refine hK _ ?_
          clear hK K
          refine lexX_step (fun K hK => ⟨by kernel_rfl, ⟨_, rfl⟩, fun v hv => ?_, fun v hv => ?_⟩)
          · go_simp
            refine (c2 _).mono ?_
            rintro e w9 ⟨rfl, rfl⟩
            exact ⟨_, rfl, rfl, Below.refl _ _⟩
          subst hv
          go_simp
          refine hK _ ?_
          clear hK K
          refine lexX_step (fun K hK => ⟨by kernel_rfl, ⟨_, rfl⟩, fun v hv => ?_, fun v hv => ?_⟩)
          · go_simp
            exact mUpon_b
          subst hv
          go_simp
          refine hK _ ?_
          clear hK K
          refine lexX_step (fun K hK => ⟨by kernel_rfl, ⟨_, rfl⟩, fun v hv => ?_, fun v hv => ?_⟩)
          · go_simp
            exact mUpon_b
          subst hv
          go_simp
          refine hK _ ?_
          clear hK K
          refine lexX_step (fun K hK => ⟨by kernel_rfl, ⟨_, rfl⟩, fun v hv => ?_, fun v hv => ?_⟩)
          · go_simp
            exact mUpon_b
          subst hv
          go_simp
          refine hK _ ?_
          clear hK K
          refine lexX_step (fun K hK => ⟨by kernel_rfl, ⟨_, rfl⟩, fun v hv => ?_, fun v hv => ?_⟩)
          · have q9 := (cells_at (keepB z3 hv) 1 (by simp)).1
            go_simp
            exact mUpon_b
          subst hv
          go_simp
          refine hK _ ?_
          clear hK K
          refine lexX_step (fun K hK => ⟨by kernel_rfl, ⟨_, rfl⟩, fun v hv => ?_, fun v hv => ?_⟩)
          · go_simp
            refine (c1 _).mono ?_
            rintro e w9 ⟨rfl, rfl⟩
            exact ⟨_, rfl, rfl, Below.refl _ _⟩
          subst hv
          go_simp
          refine hK _ ?_
          clear hK K
          refine lexX_end (fun v5 hv => ?_)
          have k5 := hv.low
          clear hv
          replace z2 := keepB z2 k5
          replace z3 := keepB z3 k5
          replace HB := hideR (below_go (unhideR HB) k5)
          clear k5
          refine wpAny_step (i := 10) (by kernel_rfl) rfl (by kernel_rfl) (fun K hK => ?_)
          unfold Oper.wp
          go_simp
          refine hK _ _ ?_
          clear hK K
          refine wpAny_end (by kernel_rfl) ?_
          go_wp2
          exact ⟨⟨3, 1, .inr (.inr ⟨rfl, rfl⟩), by go_num, by go_num, z2, z3, HB⟩, by simp [intOf]⟩
        · clear t1 t2
          have x0 := (cells_at z3 0 (by simp)).1
          have x1 := (cells_at z3 1 (by simp)).1
          have x2 := (cells_at z3 2 (by simp)).1
          go_upto_region 19 with fail
          go_wp2_with fail
          refine (c1 _).mono ?_
          rintro e v6 ⟨rfl, rfl⟩
          clear x0 x1 x2
          by_cases qn : dy < 0
          · have tn : decide (dy < 0) = true := decide_eq_true qn
            have HQ := hideR (unhideR HFin 3 (by rw [unhideR HFA, if_pos qn]))
            clear HFin HFA qn
            have zS := alloc_last v6 (.cells #[.int .i64 2, .int .i64 (ln : Nat), .int .i64 0, .int .i64 0] 57)
            have k5 := below_a v6 (.cells #[.int .i64 2, .int .i64 (ln : Nat), .int .i64 0, .int .i64 0] 57)
            have z4 := keepB z3 k5
            have z5 := keepB z2 k5
            have HB5 := hideR (below_go (unhideR HB) k5)
            have HG : HeldR (K + 1 < v6.heap.size ∧ Lb < v6.heap.size ∧ w.heap.size ≤ v6.heap.size) := hideR ⟨(Array.getElem?_eq_some_iff.1 z2).1, (Array.getElem?_eq_some_iff.1 z3).1, (unhideR HB).size⟩
            clear z2 z3 HB k5
            go_upto_region 21 with fail
            generalize v6.alloc (.cells #[.int .i64 2, .int .i64 (ln : Nat), .int .i64 0, .int .i64 0] 57) = u7 at *
            generalize v6.heap.size = G at *
            have x1 := (cells_at z4 1 (by simp)).1
            have o0 := (cells_at zS 0 (by simp)).1
            have f0 := (cells_at zS 0 (by simp)).2
            go_upto_region 23 with fail
            clear o0 f0 x1
            have y4 := one_ne (i := 0) (.int .i64 3) z4 (show Lb ≠ G by have := unhideR HG; omega)
            have y5 := one_ne (i := 0) (.int .i64 3) z5 (show K + 1 ≠ G by have := unhideR HG; omega)
            have yS := one_set zS 0 (.int .i64 3)
            have yB := hideR ((unhideR HB5).setCell (p := ⟨G, 0, none⟩) (unhideR HG).2.2 (.int .i64 3))
            simp only [setA1] at yS
            clear z4 z5 zS HB5
            generalize u7.setCell ⟨G, 0, none⟩ (.int .i64 3) = u8 at *
            have z4 := y4
            have z5 := y5
            have zS := yS
            have HB5 := yB
            clear y4 y5 yS yB
            go_wp2_with fail
            refine (hcu _).mono ?_
            rintro e v9 ⟨rfl, rfl⟩
            have o2 := (cells_at zS 2 (by simp)).1
            have f2 := (cells_at zS 2 (by simp)).2
            go_upto_region 24 with fail
            clear o2 f2
            have y4 := one_ne (i := 2) (.int .i64 CU) z4 (show Lb ≠ G by have := unhideR HG; omega)
            have y5 := one_ne (i := 2) (.int .i64 CU) z5 (show K + 1 ≠ G by have := unhideR HG; omega)
            have yS := one_set zS 2 (.int .i64 CU)
            have yB := hideR ((unhideR HB5).setCell (p := ⟨G, 2, none⟩) (unhideR HG).2.2 (.int .i64 CU))
            simp only [setA1] at yS
            clear z4 z5 zS HB5
            generalize v9.setCell ⟨G, 2, none⟩ (.int .i64 CU) = u9 at *
            have z4 := y4
            have z5 := y5
            have zS := yS
            have HB5 := yB
            clear y4 y5 yS yB
            go_wp2_with fail
            refine (hcv _).mono ?_
            rintro e v9 ⟨rfl, rfl⟩
            have o3 := (cells_at zS 3 (by simp)).1
            have f3 := (cells_at zS 3 (by simp)).2
            go_upto_region 25 with fail
            clear o3 f3
            have y4 := one_ne (i := 3) (.int .i64 CV) z4 (show Lb ≠ G by have := unhideR HG; omega)
            have y5 := one_ne (i := 3) (.int .i64 CV) z5 (show K + 1 ≠ G by have := unhideR HG; omega)
            have yS := one_set zS 3 (.int .i64 CV)
            have yB := hideR ((unhideR HB5).setCell (p := ⟨G, 3, none⟩) (unhideR HG).2.2 (.int .i64 CV))
            simp only [setA1] at yS
            clear z4 z5 zS HB5
            generalize v9.setCell ⟨G, 3, none⟩ (.int .i64 CV) = u10 at *
            have z4 := y4
            have z5 := y5
            have zS := yS
            have HB5 := yB
            clear y4 y5 yS yB
            have r0 := (cells_at zS 0 (by simp)).1
            have r1 := (cells_at zS 1 (by simp)).1
            have r2 := (cells_at zS 2 (by simp)).1
            have r3 := (cells_at zS 3 (by simp)).1
            have o0 := (cells_at z5 0 (by simp)).1
            have f0 := (cells_at z5 0 (by simp)).2
            have o1 := (cells_at z5 1 (by simp)).1
            have f1 := (cells_at z5 1 (by simp)).2
            have o2 := (cells_at z5 2 (by simp)).1
            have f2 := (cells_at z5 2 (by simp)).2
            have o3 := (cells_at z5 3 (by simp)).1
            have f3 := (cells_at z5 3 (by simp)).2
            have HF := hideR (And.intro (unhideR HQ) (set4_blA (unhideR HB5) (show w.heap.size ≤ K + 1 by have := unhideR HK; omega) (.int .i64 3) (.int .i64 (ln : Nat)) (.int .i64 CU) (.int .i64 CV)))
            clear z4 z5 zS HB5 HG HK HQ hcu hcv
            go_wp2
            simp [bodyPost, results, Tryz.results20, go_sem, o0, o1, o2, o3]
            exact unhideR HF
          · have tn : decide (dy < 0) = false := decide_eq_false qn
            have HQ := hideR (unhideR HFin 2 (by rw [unhideR HFA, if_neg qn]))
            clear HFin HFA qn
            have zS := alloc_last v6 (.cells #[.int .i64 2, .int .i64 (ln : Nat), .int .i64 0, .int .i64 0] 57)
            have k5 := below_a v6 (.cells #[.int .i64 2, .int .i64 (ln : Nat), .int .i64 0, .int .i64 0] 57)
            have z4 := keepB z3 k5
            have z5 := keepB z2 k5
            have HB5 := hideR (below_go (unhideR HB) k5)
            have HG : HeldR (K + 1 < v6.heap.size ∧ Lb < v6.heap.size ∧ w.heap.size ≤ v6.heap.size) := hideR ⟨(Array.getElem?_eq_some_iff.1 z2).1, (Array.getElem?_eq_some_iff.1 z3).1, (unhideR HB).size⟩
            clear z2 z3 HB k5
            go_upto_region 21 with fail
            generalize v6.alloc (.cells #[.int .i64 2, .int .i64 (ln : Nat), .int .i64 0, .int .i64 0] 57) = u7 at *
            generalize v6.heap.size = G at *
            have x1 := (cells_at z4 1 (by simp)).1
            go_upto_region 23 with fail
            clear x1
            go_wp2_with fail
            refine (hcu _).mono ?_
            rintro e v9 ⟨rfl, rfl⟩
            have o2 := (cells_at zS 2 (by simp)).1
            have f2 := (cells_at zS 2 (by simp)).2
            go_upto_region 24 with fail
            clear o2 f2
            have y4 := one_ne (i := 2) (.int .i64 CU) z4 (show Lb ≠ G by have := unhideR HG; omega)
            have y5 := one_ne (i := 2) (.int .i64 CU) z5 (show K + 1 ≠ G by have := unhideR HG; omega)
            have yS := one_set zS 2 (.int .i64 CU)
            have yB := hideR ((unhideR HB5).setCell (p := ⟨G, 2, none⟩) (unhideR HG).2.2 (.int .i64 CU))
            simp only [setA1] at yS
            clear z4 z5 zS HB5
            generalize v9.setCell ⟨G, 2, none⟩ (.int .i64 CU) = u9 at *
            have z4 := y4
            have z5 := y5
            have zS := yS
            have HB5 := yB
            clear y4 y5 yS yB
            go_wp2_with fail
            refine (hcv _).mono ?_
            rintro e v9 ⟨rfl, rfl⟩
            have o3 := (cells_at zS 3 (by simp)).1
            have f3 := (cells_at zS 3 (by simp)).2
            go_upto_region 25 with fail
            clear o3 f3
            have y4 := one_ne (i := 3) (.int .i64 CV) z4 (show Lb ≠ G by have := unhideR HG; omega)
            have y5 := one_ne (i := 3) (.int .i64 CV) z5 (show K + 1 ≠ G by have := unhideR HG; omega)
            have yS := one_set zS 3 (.int .i64 CV)
            have yB := hideR ((unhideR HB5).setCell (p := ⟨G, 3, none⟩) (unhideR HG).2.2 (.int .i64 CV))
            simp only [setA1] at yS
            clear z4 z5 zS HB5
            generalize v9.setCell ⟨G, 3, none⟩ (.int .i64 CV) = u10 at *
            have z4 := y4
            have z5 := y5
            have zS := yS
            have HB5 := yB
            clear y4 y5 yS yB
            have r0 := (cells_at zS 0 (by simp)).1
            have r1 := (cells_at zS 1 (by simp)).1
            have r2 := (cells_at zS 2 (by simp)).1
            have r3 := (cells_at zS 3 (by simp)).1
            have o0 := (cells_at z5 0 (by simp)).1
            have f0 := (cells_at z5 0 (by simp)).2
            have o1 := (cells_at z5 1 (by simp)).1
            have f1 := (cells_at z5 1 (by simp)).2
            have o2 := (cells_at z5 2 (by simp)).1
            have f2 := (cells_at z5 2 (by simp)).2
            have o3 := (cells_at z5 3 (by simp)).1
            have f3 := (cells_at z5 3 (by simp)).2
            have HF := hideR (And.intro (unhideR HQ) (set4_blA (unhideR HB5) (show w.heap.size ≤ K + 1 by have := unhideR HK; omega) (.int .i64 2) (.int .i64 (ln : Nat)) (.int .i64 CU) (.int .i64 CV)))
            clear z4 z5 zS HB5 HG HK HQ hcu hcv
            go_wp2
            simp [bodyPost, results, Tryz.results20, go_sem, o0, o1, o2, o3]
            exact unhideR HF
  · have t1 : decide (s0 < s1) = false := decide_eq_false q1
    rw [if_neg q1] at HAxv
    by_cases q2 : s0 < s2
    · have t2 : decide (s0 < s2) = true := decide_eq_true q2
      rw [if_pos q2] at HAxv
      clear q1 q2
      have hAX : AX = 2 := unhideR HAxv
      obtain ⟨eU, eV, eM⟩ := unhideR HUV _ hAX
      replace eU : UU = dx := eU
      replace eV : VV = dy := eV
      replace eM : MM = s2 := eM.trans (unhideR HSz).2.2
      have hFA : FA = if dz < 0 then 5 else 4 := unhideR HFa _ hAX
      have HFA := hideR hFA
      rw [eU, eM] at hcu
      rw [eV, eM] at hcv
      clear HAxv HUV HFa HSz eU eV eM hAX hFA
      go_enter Tryz.func20, Tryz.ntmps20
      go_upto_region 1 with fail
      generalize (w.alloc (.cells #[.int .i64 dx, .int .i64 dy, .int .i64 dz] 24)).alloc (.cells #[.int .i64 0, .int .i64 0, .int .i64 0, .int .i64 0] 57) = u0 at *
      obtain ⟨K, hK⟩ : ∃ K, w.heap.size = K := ⟨_, rfl⟩
      have HK := hideR hK
      rw [hK] at z1 z2 ⊢
      clear hK
      have x0 := (cells_at z1 0 (by simp)).1
      have x1 := (cells_at z1 1 (by simp)).1
      have x2 := (cells_at z1 2 (by simp)).1
      go_wp2_with fail
      refine (hd _).mono ?_
      rintro e u1 ⟨rfl, k1⟩
      replace z1 := keepB z1 k1
      replace z2 := keepB z2 k1
      replace HB := hideR (below_go (unhideR HB) k1)
      clear k1 hd x0 x1 x2
      have x0 := (cells_at z1 0 (by simp)).1
      have x1 := (cells_at z1 1 (by simp)).1
      have x2 := (cells_at z1 2 (by simp)).1
      go_upto_region 7 with fail
      have z3 := alloc_last u1 (.cells #[.int .i64 dx, .int .i64 dy, .int .i64 dz] 3)
      have k1 := below_a u1 (.cells #[.int .i64 dx, .int .i64 dy, .int .i64 dz] 3)
      replace z2 := keepB z2 k1
      replace HB := hideR (below_go (unhideR HB) k1)
      clear k1 x0 x1 x2 z1
      generalize u1.alloc (.cells #[.int .i64 dx, .int .i64 dy, .int .i64 dz] 3) = u2 at *
      generalize u1.heap.size = Lb at *
      go_wp2_with fail
      go_loopw [8, 9] (fun av iv wl => ∃ i a : Nat, ((i = 1 ∧ a = 0) ∨ (i = 2 ∧ a = 0) ∨ (i = 3 ∧ a = 2)) ∧ iv = .int .i64 (i : Nat) ∧ av = .int .i64 (a : Nat) ∧ wl.heap[K + 1]? = some (.cells #[.int .i64 0, .int .i64 0, .int .i64 0, .int .i64 0] 57) ∧ wl.heap[Lb]? = some (.cells #[.int .i64 dx, .int .i64 dy, .int .i64 dz] 3) ∧ HeldR (Below w.heap.size w wl)) (fun _ iv _ => 4 - (intOf iv).toNat)
      case atStart => exact ⟨1, 0, .inl ⟨rfl, rfl⟩, rfl, rfl, z2, z3, HB⟩
      case round =>
        clear z2 z3 HB
        obtain ⟨i, a, hst, rfl, rfl, z2, z3, HB⟩ := hrel
        rcases hst with ⟨rfl, rfl⟩ | ⟨rfl, rfl⟩ | ⟨rfl, rfl⟩
        · clear hcu hcv HFin HFA
          go_upto_region 11 with fail
          refine wp_region_made 0 #[true, true, true, true, true, true, true, true, true, true, false] [.lets (· = .slice (some ⟨Lb, 0, none⟩) 3 3),
            .lets (· = .int .i64 1),
            .lets (· = .pointer (some ⟨Lb, 1, none⟩)),
            .lets (· = .int .i64 dy),
            .lets (· = .int .i64 s1),
            .lets (· = .slice (some ⟨Lb, 0, none⟩) 3 3),
            .lets (· = .int .i64 0),
            .lets (· = .pointer (some ⟨Lb, 0, none⟩)),
            .lets (· = .int .i64 dx),
            .lets (· = .int .i64 s0)] [] [] (by kernel_rfl) (by kernel_rfl) rfl ?kinds (by kernel_rfl) (by kernel_rfl) (by kernel_rfl) ?_
          case kinds =>
            constructor
            · intro i h
              rcases i with _ | _ | _ | _ | _ | _ | _ | _ | _ | _ | i <;> simp [Kx.isMade] at h
            · intro i h
              rcases i with _ | _ | _ | _ | _ | _ | _ | _ | _ | _ | i <;> simp [Kx.isUse] at h
          refine lexX_step (fun K hK => ⟨by kernel_rfl, ⟨_, rfl⟩, fun v hv => ?_, fun v hv => ?_⟩)
          · go_simp
            exact mUpon_b
          subst hv
          go_simp
          refine hK _ ?_
          clear hK K
          refine lexX_step (fun K hK => ⟨by kernel_rfl, ⟨_, rfl⟩, fun v hv => ?_, fun v hv => ?_⟩)
          · go_simp
            exact mUpon_b
          subst hv
          go_simp
          refine hK _ ?_
          clear hK K
          refine lexX_step (fun K hK => ⟨by kernel_rfl, ⟨_, rfl⟩, fun v hv => ?_, fun v hv => ?_⟩)
          · go_simp
            exact mUpon_b
          subst hv
          go_simp
          refine hK _ ?_
          clear hK K
          refine lexX_step (fun K hK => ⟨by kernel_rfl, ⟨_, rfl⟩, fun v hv => ?_, fun v hv => ?_⟩)
          · have q9 := (cells_at (keepB z3 hv) 1 (by simp)).1
            go_simp
            exact mUpon_b
          subst hv
          go_simp
          refine hK _ ?_
          clear hK K
          refine lexX_step (fun K hK => ⟨by kernel_rfl, ⟨_, rfl⟩, fun v hv => ?_, fun v hv => ?_⟩)
          · go_simp
            refine (c1 _).mono ?_
            rintro e w9 ⟨rfl, rfl⟩
            exact ⟨_, rfl, rfl, Below.refl _ _⟩
          subst hv
          go_simp
          refine hK _ ?_
          clear hK K
          refine lexX_step (fun K hK => ⟨by kernel_rfl, ⟨_, rfl⟩, fun v hv => ?_, fun v hv => ?_⟩)
          · go_simp
            exact mUpon_b
          subst hv
          go_simp
          refine hK _ ?_
          clear hK K
          refine lexX_step (fun K hK => ⟨by kernel_rfl, ⟨_, rfl⟩, fun v hv => ?_, fun v hv => ?_⟩)
          · go_simp
            exact mUpon_b
          subst hv
          go_simp
          refine hK _ ?_
          clear hK K
          refine lexX_step (fun K hK => ⟨by kernel_rfl, ⟨_, rfl⟩, fun v hv => ?_, fun v hv => ?_⟩)
          · go_simp
            exact mUpon_b
          subst hv
          go_simp
          refine hK _ ?_
          clear hK K
          refine lexX_step (fun K hK => ⟨by kernel_rfl, ⟨_, rfl⟩, fun v hv => ?_, fun v hv => ?_⟩)
          · have q9 := (cells_at (keepB z3 hv) 0 (by simp)).1
            go_simp
            exact mUpon_b
          subst hv
          go_simp
          refine hK _ ?_
          clear hK K
          refine lexX_step (fun K hK => ⟨by kernel_rfl, ⟨_, rfl⟩, fun v hv => ?_, fun v hv => ?_⟩)
          · go_simp
            refine (c0 _).mono ?_
            rintro e w9 ⟨rfl, rfl⟩
            exact ⟨_, rfl, rfl, Below.refl _ _⟩
          subst hv
          go_simp
          refine hK _ ?_
          clear hK K
          refine lexX_end (fun v5 hv => ?_)
          have k5 := hv.low
          clear hv
          replace z2 := keepB z2 k5
          replace z3 := keepB z3 k5
          replace HB := hideR (below_go (unhideR HB) k5)
          clear k5
          refine wpAny_step (i := 10) (by kernel_rfl) rfl (by kernel_rfl) (fun K hK => ?_)
          unfold Oper.wp
          go_simp
          refine hK _ _ ?_
          clear hK K
          refine wpAny_end (by kernel_rfl) ?_
          go_wp2
          exact ⟨⟨2, 0, .inr (.inl ⟨rfl, rfl⟩), by go_num, by go_num, z2, z3, HB⟩, by simp [intOf]⟩
        · clear hcu hcv HFin HFA
          go_upto_region 11 with fail
          refine wp_region_made 0 #[true, true, true, true, true, true, true, true, true, true, false] [.lets (· = .slice (some ⟨Lb, 0, none⟩) 3 3),
            .lets (· = .int .i64 2),
            .lets (· = .pointer (some ⟨Lb, 2, none⟩)),
            .lets (· = .int .i64 dz),
            .lets (· = .int .i64 s2),
            .lets (· = .slice (some ⟨Lb, 0, none⟩) 3 3),
            .lets (· = .int .i64 0),
            .lets (· = .pointer (some ⟨Lb, 0, none⟩)),
            .lets (· = .int .i64 dx),
            .lets (· = .int .i64 s0)] [] [] (by kernel_rfl) (by kernel_rfl) rfl ?kinds (by kernel_rfl) (by kernel_rfl) (by kernel_rfl) ?_
          case kinds =>
            constructor
            · intro i h
              rcases i with _ | _ | _ | _ | _ | _ | _ | _ | _ | _ | i <;> simp [Kx.isMade] at h
            · intro i h
              rcases i with _ | _ | _ | _ | _ | _ | _ | _ | _ | _ | i <;> simp [Kx.isUse] at h
          refine lexX_step (fun K hK => ⟨by kernel_rfl, ⟨_, rfl⟩, fun v hv => ?_, fun v hv => ?_⟩)
          · go_simp
            exact mUpon_b
          subst hv
          go_simp
          refine hK _ ?_
          clear hK K
          refine lexX_step (fun K hK => ⟨by kernel_rfl, ⟨_, rfl⟩, fun v hv => ?_, fun v hv => ?_⟩)
          · go_simp
            exact mUpon_b
          subst hv
          go_simp
          refine hK _ ?_
          clear hK K
          refine lexX_step (fun K hK => ⟨by kernel_rfl, ⟨_, rfl⟩, fun v hv => ?_, fun v hv => ?_⟩)
          · go_simp
            exact mUpon_b
          subst hv
          go_simp
          refine hK _ ?_
          clear hK K
          refine lexX_step (fun K hK => ⟨by kernel_rfl, ⟨_, rfl⟩, fun v hv => ?_, fun v hv => ?_⟩)
          · have q9 := (cells_at (keepB z3 hv) 2 (by simp)).1
            go_simp
            exact mUpon_b
          subst hv
          go_simp
          refine hK _ ?_
          clear hK K
          refine lexX_step (fun K hK => ⟨by kernel_rfl, ⟨_, rfl⟩, fun v hv => ?_, fun v hv => ?_⟩)
          · go_simp
            refine (c2 _).mono ?_
            rintro e w9 ⟨rfl, rfl⟩
            exact ⟨_, rfl, rfl, Below.refl _ _⟩
          subst hv
          go_simp
          refine hK _ ?_
          clear hK K
          refine lexX_step (fun K hK => ⟨by kernel_rfl, ⟨_, rfl⟩, fun v hv => ?_, fun v hv => ?_⟩)
          · go_simp
            exact mUpon_b
          subst hv
          go_simp
          refine hK _ ?_
          clear hK K
          refine lexX_step (fun K hK => ⟨by kernel_rfl, ⟨_, rfl⟩, fun v hv => ?_, fun v hv => ?_⟩)
          · go_simp
            exact mUpon_b
          subst hv
          go_simp
          refine hK _ ?_
          clear hK K
          refine lexX_step (fun K hK => ⟨by kernel_rfl, ⟨_, rfl⟩, fun v hv => ?_, fun v hv => ?_⟩)
          · go_simp
            exact mUpon_b
          subst hv
          go_simp
          refine hK _ ?_
          clear hK K
          refine lexX_step (fun K hK => ⟨by kernel_rfl, ⟨_, rfl⟩, fun v hv => ?_, fun v hv => ?_⟩)
          · have q9 := (cells_at (keepB z3 hv) 0 (by simp)).1
            go_simp
            exact mUpon_b
          subst hv
          go_simp
          refine hK _ ?_
          clear hK K
          refine lexX_step (fun K hK => ⟨by kernel_rfl, ⟨_, rfl⟩, fun v hv => ?_, fun v hv => ?_⟩)
          · go_simp
            refine (c0 _).mono ?_
            rintro e w9 ⟨rfl, rfl⟩
            exact ⟨_, rfl, rfl, Below.refl _ _⟩
          subst hv
          go_simp
          refine hK _ ?_
          clear hK K
          refine lexX_end (fun v5 hv => ?_)
          have k5 := hv.low
          clear hv
          replace z2 := keepB z2 k5
          replace z3 := keepB z3 k5
          replace HB := hideR (below_go (unhideR HB) k5)
          clear k5
          refine wpAny_step (i := 10) (by kernel_rfl) rfl (by kernel_rfl) (fun K hK => ?_)
          unfold Oper.wp
          go_simp
          refine hK _ _ ?_
          clear hK K
          refine wpAny_end (by kernel_rfl) ?_
          go_wp2
          exact ⟨⟨3, 2, .inr (.inr ⟨rfl, rfl⟩), by go_num, by go_num, z2, z3, HB⟩, by simp [intOf]⟩
        · clear t1 t2
          have x0 := (cells_at z3 0 (by simp)).1
          have x1 := (cells_at z3 1 (by simp)).1
          have x2 := (cells_at z3 2 (by simp)).1
          go_upto_region 19 with fail
          go_wp2_with fail
          refine (c2 _).mono ?_
          rintro e v6 ⟨rfl, rfl⟩
          clear x0 x1 x2
          by_cases qn : dz < 0
          · have tn : decide (dz < 0) = true := decide_eq_true qn
            have HQ := hideR (unhideR HFin 5 (by rw [unhideR HFA, if_pos qn]))
            clear HFin HFA qn
            have zS := alloc_last v6 (.cells #[.int .i64 4, .int .i64 (ln : Nat), .int .i64 0, .int .i64 0] 57)
            have k5 := below_a v6 (.cells #[.int .i64 4, .int .i64 (ln : Nat), .int .i64 0, .int .i64 0] 57)
            have z4 := keepB z3 k5
            have z5 := keepB z2 k5
            have HB5 := hideR (below_go (unhideR HB) k5)
            have HG : HeldR (K + 1 < v6.heap.size ∧ Lb < v6.heap.size ∧ w.heap.size ≤ v6.heap.size) := hideR ⟨(Array.getElem?_eq_some_iff.1 z2).1, (Array.getElem?_eq_some_iff.1 z3).1, (unhideR HB).size⟩
            clear z2 z3 HB k5
            go_upto_region 21 with fail
            generalize v6.alloc (.cells #[.int .i64 4, .int .i64 (ln : Nat), .int .i64 0, .int .i64 0] 57) = u7 at *
            generalize v6.heap.size = G at *
            have x2 := (cells_at z4 2 (by simp)).1
            have o0 := (cells_at zS 0 (by simp)).1
            have f0 := (cells_at zS 0 (by simp)).2
            go_upto_region 23 with fail
            clear o0 f0 x2
            have y4 := one_ne (i := 0) (.int .i64 5) z4 (show Lb ≠ G by have := unhideR HG; omega)
            have y5 := one_ne (i := 0) (.int .i64 5) z5 (show K + 1 ≠ G by have := unhideR HG; omega)
            have yS := one_set zS 0 (.int .i64 5)
            have yB := hideR ((unhideR HB5).setCell (p := ⟨G, 0, none⟩) (unhideR HG).2.2 (.int .i64 5))
            simp only [setA1] at yS
            clear z4 z5 zS HB5
            generalize u7.setCell ⟨G, 0, none⟩ (.int .i64 5) = u8 at *
            have z4 := y4
            have z5 := y5
            have zS := yS
            have HB5 := yB
            clear y4 y5 yS yB
            go_wp2_with fail
            refine (hcu _).mono ?_
            rintro e v9 ⟨rfl, rfl⟩
            have o2 := (cells_at zS 2 (by simp)).1
            have f2 := (cells_at zS 2 (by simp)).2
            go_upto_region 24 with fail
            clear o2 f2
            have y4 := one_ne (i := 2) (.int .i64 CU) z4 (show Lb ≠ G by have := unhideR HG; omega)
            have y5 := one_ne (i := 2) (.int .i64 CU) z5 (show K + 1 ≠ G by have := unhideR HG; omega)
            have yS := one_set zS 2 (.int .i64 CU)
            have yB := hideR ((unhideR HB5).setCell (p := ⟨G, 2, none⟩) (unhideR HG).2.2 (.int .i64 CU))
            simp only [setA1] at yS
            clear z4 z5 zS HB5
            generalize v9.setCell ⟨G, 2, none⟩ (.int .i64 CU) = u9 at *
            have z4 := y4
            have z5 := y5
            have zS := yS
            have HB5 := yB
            clear y4 y5 yS yB
            go_wp2_with fail
            refine (hcv _).mono ?_
            rintro e v9 ⟨rfl, rfl⟩
            have o3 := (cells_at zS 3 (by simp)).1
            have f3 := (cells_at zS 3 (by simp)).2
            go_upto_region 25 with fail
            clear o3 f3
            have y4 := one_ne (i := 3) (.int .i64 CV) z4 (show Lb ≠ G by have := unhideR HG; omega)
            have y5 := one_ne (i := 3) (.int .i64 CV) z5 (show K + 1 ≠ G by have := unhideR HG; omega)
            have yS := one_set zS 3 (.int .i64 CV)
            have yB := hideR ((unhideR HB5).setCell (p := ⟨G, 3, none⟩) (unhideR HG).2.2 (.int .i64 CV))
            simp only [setA1] at yS
            clear z4 z5 zS HB5
            generalize v9.setCell ⟨G, 3, none⟩ (.int .i64 CV) = u10 at *
            have z4 := y4
            have z5 := y5
            have zS := yS
            have HB5 := yB
            clear y4 y5 yS yB
            have r0 := (cells_at zS 0 (by simp)).1
            have r1 := (cells_at zS 1 (by simp)).1
            have r2 := (cells_at zS 2 (by simp)).1
            have r3 := (cells_at zS 3 (by simp)).1
            have o0 := (cells_at z5 0 (by simp)).1
            have f0 := (cells_at z5 0 (by simp)).2
            have o1 := (cells_at z5 1 (by simp)).1
            have f1 := (cells_at z5 1 (by simp)).2
            have o2 := (cells_at z5 2 (by simp)).1
            have f2 := (cells_at z5 2 (by simp)).2
            have o3 := (cells_at z5 3 (by simp)).1
            have f3 := (cells_at z5 3 (by simp)).2
            have HF := hideR (And.intro (unhideR HQ) (set4_blA (unhideR HB5) (show w.heap.size ≤ K + 1 by have := unhideR HK; omega) (.int .i64 5) (.int .i64 (ln : Nat)) (.int .i64 CU) (.int .i64 CV)))
            clear z4 z5 zS HB5 HG HK HQ hcu hcv
            go_wp2
            simp [bodyPost, results, Tryz.results20, go_sem, o0, o1, o2, o3]
            exact unhideR HF
          · have tn : decide (dz < 0) = false := decide_eq_false qn
            have HQ := hideR (unhideR HFin 4 (by rw [unhideR HFA, if_neg qn]))
            clear HFin HFA qn
            have zS := alloc_last v6 (.cells #[.int .i64 4, .int .i64 (ln : Nat), .int .i64 0, .int .i64 0] 57)
            have k5 := below_a v6 (.cells #[.int .i64 4, .int .i64 (ln : Nat), .int .i64 0, .int .i64 0] 57)
            have z4 := keepB z3 k5
            have z5 := keepB z2 k5
            have HB5 := hideR (below_go (unhideR HB) k5)
            have HG : HeldR (K + 1 < v6.heap.size ∧ Lb < v6.heap.size ∧ w.heap.size ≤ v6.heap.size) := hideR ⟨(Array.getElem?_eq_some_iff.1 z2).1, (Array.getElem?_eq_some_iff.1 z3).1, (unhideR HB).size⟩
            clear z2 z3 HB k5
            go_upto_region 21 with fail
            generalize v6.alloc (.cells #[.int .i64 4, .int .i64 (ln : Nat), .int .i64 0, .int .i64 0] 57) = u7 at *
            generalize v6.heap.size = G at *
            have x2 := (cells_at z4 2 (by simp)).1
            go_upto_region 23 with fail
            clear x2
            go_wp2_with fail
            refine (hcu _).mono ?_
            rintro e v9 ⟨rfl, rfl⟩
            have o2 := (cells_at zS 2 (by simp)).1
            have f2 := (cells_at zS 2 (by simp)).2
            go_upto_region 24 with fail
            clear o2 f2
            have y4 := one_ne (i := 2) (.int .i64 CU) z4 (show Lb ≠ G by have := unhideR HG; omega)
            have y5 := one_ne (i := 2) (.int .i64 CU) z5 (show K + 1 ≠ G by have := unhideR HG; omega)
            have yS := one_set zS 2 (.int .i64 CU)
            have yB := hideR ((unhideR HB5).setCell (p := ⟨G, 2, none⟩) (unhideR HG).2.2 (.int .i64 CU))
            simp only [setA1] at yS
            clear z4 z5 zS HB5
            generalize v9.setCell ⟨G, 2, none⟩ (.int .i64 CU) = u9 at *
            have z4 := y4
            have z5 := y5
            have zS := yS
            have HB5 := yB
            clear y4 y5 yS yB
            go_wp2_with fail
            refine (hcv _).mono ?_
            rintro e v9 ⟨rfl, rfl⟩
            have o3 := (cells_at zS 3 (by simp)).1
            have f3 := (cells_at zS 3 (by simp)).2
            go_upto_region 25 with fail
            clear o3 f3
            have y4 := one_ne (i := 3) (.int .i64 CV) z4 (show Lb ≠ G by have := unhideR HG; omega)
            have y5 := one_ne (i := 3) (.int .i64 CV) z5 (show K + 1 ≠ G by have := unhideR HG; omega)
            have yS := one_set zS 3 (.int .i64 CV)
            have yB := hideR ((unhideR HB5).setCell (p := ⟨G, 3, none⟩) (unhideR HG).2.2 (.int .i64 CV))
            simp only [setA1] at yS
            clear z4 z5 zS HB5
            generalize v9.setCell ⟨G, 3, none⟩ (.int .i64 CV) = u10 at *
            have z4 := y4
            have z5 := y5
            have zS := yS
            have HB5 := yB
            clear y4 y5 yS yB
            have r0 := (cells_at zS 0 (by simp)).1
            have r1 := (cells_at zS 1 (by simp)).1
            have r2 := (cells_at zS 2 (by simp)).1
            have r3 := (cells_at zS 3 (by simp)).1
            have o0 := (cells_at z5 0 (by simp)).1
            have f0 := (cells_at z5 0 (by simp)).2
            have o1 := (cells_at z5 1 (by simp)).1
            have f1 := (cells_at z5 1 (by simp)).2
            have o2 := (cells_at z5 2 (by simp)).1
            have f2 := (cells_at z5 2 (by simp)).2
            have o3 := (cells_at z5 3 (by simp)).1
            have f3 := (cells_at z5 3 (by simp)).2
            have HF := hideR (And.intro (unhideR HQ) (set4_blA (unhideR HB5) (show w.heap.size ≤ K + 1 by have := unhideR HK; omega) (.int .i64 4) (.int .i64 (ln : Nat)) (.int .i64 CU) (.int .i64 CV)))
            clear z4 z5 zS HB5 HG HK HQ hcu hcv
            go_wp2
            simp [bodyPost, results, Tryz.results20, go_sem, o0, o1, o2, o3]
            exact unhideR HF
    · have t2 : decide (s0 < s2) = false := decide_eq_false q2
      rw [if_neg q2] at HAxv
      clear q1 q2
      have hAX : AX = 0 := unhideR HAxv
      obtain ⟨eU, eV, eM⟩ := unhideR HUV _ hAX
      replace eU : UU = dy := eU
      replace eV : VV = dz := eV
      replace eM : MM = s0 := eM.trans (unhideR HSz).1
      have hFA : FA = if dx < 0 then 1 else 0 := unhideR HFa _ hAX
      have HFA := hideR hFA
      rw [eU, eM] at hcu
      rw [eV, eM] at hcv
      clear HAxv HUV HFa HSz eU eV eM hAX hFA
      go_enter Tryz.func20, Tryz.ntmps20
      go_upto_region 1 with fail
      generalize (w.alloc (.cells #[.int .i64 dx, .int .i64 dy, .int .i64 dz] 24)).alloc (.cells #[.int .i64 0, .int .i64 0, .int .i64 0, .int .i64 0] 57) = u0 at *
      obtain ⟨K, hK⟩ : ∃ K, w.heap.size = K := ⟨_, rfl⟩
      have HK := hideR hK
      rw [hK] at z1 z2 ⊢
      clear hK
      have x0 := (cells_at z1 0 (by simp)).1
      have x1 := (cells_at z1 1 (by simp)).1
      have x2 := (cells_at z1 2 (by simp)).1
      go_wp2_with fail
      refine (hd _).mono ?_
      rintro e u1 ⟨rfl, k1⟩
      replace z1 := keepB z1 k1
      replace z2 := keepB z2 k1
      replace HB := hideR (below_go (unhideR HB) k1)
      clear k1 hd x0 x1 x2
      have x0 := (cells_at z1 0 (by simp)).1
      have x1 := (cells_at z1 1 (by simp)).1
      have x2 := (cells_at z1 2 (by simp)).1
      go_upto_region 7 with fail
      have z3 := alloc_last u1 (.cells #[.int .i64 dx, .int .i64 dy, .int .i64 dz] 3)
      have k1 := below_a u1 (.cells #[.int .i64 dx, .int .i64 dy, .int .i64 dz] 3)
      replace z2 := keepB z2 k1
      replace HB := hideR (below_go (unhideR HB) k1)
      clear k1 x0 x1 x2 z1
      generalize u1.alloc (.cells #[.int .i64 dx, .int .i64 dy, .int .i64 dz] 3) = u2 at *
      generalize u1.heap.size = Lb at *
      go_wp2_with fail
      go_loopw [8, 9] (fun av iv wl => ∃ i a : Nat, ((i = 1 ∧ a = 0) ∨ (i = 2 ∧ a = 0) ∨ (i = 3 ∧ a = 0)) ∧ iv = .int .i64 (i : Nat) ∧ av = .int .i64 (a : Nat) ∧ wl.heap[K + 1]? = some (.cells #[.int .i64 0, .int .i64 0, .int .i64 0, .int .i64 0] 57) ∧ wl.heap[Lb]? = some (.cells #[.int .i64 dx, .int .i64 dy, .int .i64 dz] 3) ∧ HeldR (Below w.heap.size w wl)) (fun _ iv _ => 4 - (intOf iv).toNat)
      case atStart => exact ⟨1, 0, .inl ⟨rfl, rfl⟩, rfl, rfl, z2, z3, HB⟩
      case round =>
        clear z2 z3 HB
        obtain ⟨i, a, hst, rfl, rfl, z2, z3, HB⟩ := hrel
        rcases hst with ⟨rfl, rfl⟩ | ⟨rfl, rfl⟩ | ⟨rfl, rfl⟩
        · clear hcu hcv HFin HFA
          go_upto_region 11 with fail
          refine wp_region_made 0 #[true, true, true, true, true, true, true, true, true, true, false] [.lets (· = .slice (some ⟨Lb, 0, none⟩) 3 3),
            .lets (· = .int .i64 1),
            .lets (· = .pointer (some ⟨Lb, 1, none⟩)),
            .lets (· = .int .i64 dy),
            .lets (· = .int .i64 s1),
            .lets (· = .slice (some ⟨Lb, 0, none⟩) 3 3),
            .lets (· = .int .i64 0),
            .lets (· = .pointer (some ⟨Lb, 0, none⟩)),
            .lets (· = .int .i64 dx),
            .lets (· = .int .i64 s0)] [] [] (by kernel_rfl) (by kernel_rfl) rfl ?kinds (by kernel_rfl) (by kernel_rfl) (by kernel_rfl) ?_
          case kinds =>
            constructor
            · intro i h
              rcases i with _ | _ | _ | _ | _ | _ | _ | _ | _ | _ | i <;> simp [Kx.isMade] at h
            · intro i h
              rcases i with _ | _ | _ | _ | _ | _ | _ | _ | _ | _ | i <;> simp [Kx.isUse] at h
          refine lexX_step (fun K hK => ⟨by kernel_rfl, ⟨_, rfl⟩, fun v hv => ?_, fun v hv => ?_⟩)
          · go_simp
            exact mUpon_b
          subst hv
          go_simp
          refine hK _ ?_
          clear hK K
          refine lexX_step (fun K hK => ⟨by kernel_rfl, ⟨_, rfl⟩, fun v hv => ?_, fun v hv => ?_⟩)
          · go_simp
            exact mUpon_b
          subst hv
          go_simp
          refine hK _ ?_
          clear hK K
          refine lexX_step (fun K hK => ⟨by kernel_rfl, ⟨_, rfl⟩, fun v hv => ?_, fun v hv => ?_⟩)
          · go_simp
            exact mUpon_b
          subst hv
          go_simp
          refine hK _ ?_
          clear hK K
          refine lexX_step (fun K hK => ⟨by kernel_rfl, ⟨_, rfl⟩, fun v hv => ?_, fun v hv => ?_⟩)
          · have q9 := (cells_at (keepB z3 hv) 1 (by simp)).1
            go_simp
            exact mUpon_b
          subst hv
          go_simp
          refine hK _ ?_
          clear hK K
          refine lexX_step (fun K hK => ⟨by kernel_rfl, ⟨_, rfl⟩, fun v hv => ?_, fun v hv => ?_⟩)
          · go_simp
            refine (c1 _).mono ?_
            rintro e w9 ⟨rfl, rfl⟩
            exact ⟨_, rfl, rfl, Below.refl _ _⟩
          subst hv
          go_simp
          refine hK _ ?_
          clear hK K
          refine lexX_step (fun K hK => ⟨by kernel_rfl, ⟨_, rfl⟩, fun v hv => ?_, fun v hv => ?_⟩)
          · go_simp
            exact mUpon_b
          subst hv
          go_simp
          refine hK _ ?_
          clear hK K
          refine lexX_step (fun K hK => ⟨by kernel_rfl, ⟨_, rfl⟩, fun v hv => ?_, fun v hv => ?_⟩)
          · go_simp
            exact mUpon_b
          subst hv
          go_simp
          refine hK _ ?_
          clear hK K
          refine lexX_step (fun K hK => ⟨by kernel_rfl, ⟨_, rfl⟩, fun v hv => ?_, fun v hv => ?_⟩)
          · go_simp
            exact mUpon_b
          subst hv
          go_simp
          refine hK _ ?_
          clear hK K
          refine lexX_step (fun K hK => ⟨by kernel_rfl, ⟨_, rfl⟩, fun v hv => ?_, fun v hv => ?_⟩)
          · have q9 := (cells_at (keepB z3 hv) 0 (by simp)).1
            go_simp
            exact mUpon_b
          subst hv
          go_simp
          refine hK _ ?_
          clear hK K
          refine lexX_step (fun K hK => ⟨by kernel_rfl, ⟨_, rfl⟩, fun v hv => ?_, fun v hv => ?_⟩)
          · go_simp
            refine (c0 _).mono ?_
            rintro e w9 ⟨rfl, rfl⟩
            exact ⟨_, rfl, rfl, Below.refl _ _⟩
          subst hv
          go_simp
          refine hK _ ?_
          clear hK K
          refine lexX_end (fun v5 hv => ?_)
          have k5 := hv.low
          clear hv
          replace z2 := keepB z2 k5
          replace z3 := keepB z3 k5
          replace HB := hideR (below_go (unhideR HB) k5)
          clear k5
          refine wpAny_step (i := 10) (by kernel_rfl) rfl (by kernel_rfl) (fun K hK => ?_)
          unfold Oper.wp
          go_simp
          refine hK _ _ ?_
          clear hK K
          refine wpAny_end (by kernel_rfl) ?_
          go_wp2
          exact ⟨⟨2, 0, .inr (.inl ⟨rfl, rfl⟩), by go_num, by go_num, z2, z3, HB⟩, by simp [intOf]⟩
        · clear hcu hcv HFin HFA
          go_upto_region 11 with fail
          refine wp_region_made 0 #[true, true, true, true, true, true, true, true, true, true, false] [.lets (· = .slice (some ⟨Lb, 0, none⟩) 3 3),
            .lets (· = .int .i64 2),
            .lets (· = .pointer (some ⟨Lb, 2, none⟩)),
            .lets (· = .int .i64 dz),
            .lets (· = .int .i64 s2),
            .lets (· = .slice (some ⟨Lb, 0, none⟩) 3 3),
            .lets (· = .int .i64 0),
            .lets (· = .pointer (some ⟨Lb, 0, none⟩)),
            .lets (· = .int .i64 dx),
            .lets (· = .int .i64 s0)] [] [] (by kernel_rfl) (by kernel_rfl) rfl ?kinds (by kernel_rfl) (by kernel_rfl) (by kernel_rfl) ?_
          case kinds =>
            constructor
            · intro i h
              rcases i with _ | _ | _ | _ | _ | _ | _ | _ | _ | _ | i <;> simp [Kx.isMade] at h
            · intro i h
              rcases i with _ | _ | _ | _ | _ | _ | _ | _ | _ | _ | i <;> simp [Kx.isUse] at h
          refine lexX_step (fun K hK => ⟨by kernel_rfl, ⟨_, rfl⟩, fun v hv => ?_, fun v hv => ?_⟩)
          · go_simp
            exact mUpon_b
          subst hv
          go_simp
          refine hK _ ?_
          clear hK K
          refine lexX_step (fun K hK => ⟨by kernel_rfl, ⟨_, rfl⟩, fun v hv => ?_, fun v hv => ?_⟩)
          · go_simp
            exact mUpon_b
          subst hv
          go_simp
          refine hK _ ?_
          clear hK K
          refine lexX_step (fun K hK => ⟨by kernel_rfl, ⟨_, rfl⟩, fun v hv => ?_, fun v hv => ?_⟩)
          · go_simp
            exact mUpon_b
          subst hv
          go_simp
          refine hK _ ?_
          clear hK K
          refine lexX_step (fun K hK => ⟨by kernel_rfl, ⟨_, rfl⟩, fun v hv => ?_, fun v hv => ?_⟩)
          · have q9 := (cells_at (keepB z3 hv) 2 (by simp)).1
            go_simp
            exact mUpon_b
          subst hv
          go_simp
          refine hK _ ?_
          clear hK K
          refine lexX_step (fun K hK => ⟨by kernel_rfl, ⟨_, rfl⟩, fun v hv => ?_, fun v hv => ?_⟩)
          · go_simp
            refine (c2 _).mono ?_
            rintro e w9 ⟨rfl, rfl⟩
            exact ⟨_, rfl, rfl, Below.refl _ _⟩
          subst hv
          go_simp
          refine hK _ ?_
          clear hK K
          refine lexX_step (fun K hK => ⟨by kernel_rfl, ⟨_, rfl⟩, fun v hv => ?_, fun v hv => ?_⟩)
          · go_simp
            exact mUpon_b
          subst hv
          go_simp
          refine hK _ ?_
          clear hK K
          refine lexX_step (fun K hK => ⟨by kernel_rfl, ⟨_, rfl⟩, fun v hv => ?_, fun v hv => ?_⟩)
          · go_simp
            exact mUpon_b
          subst hv
          go_simp
          refine hK _ ?_
          clear hK K
          refine lexX_step (fun K hK => ⟨by kernel_rfl, ⟨_, rfl⟩, fun v hv => ?_, fun v hv => ?_⟩)
          · go_simp
            exact mUpon_b
          subst hv
          go_simp
          refine hK _ ?_
          clear hK K
          refine lexX_step (fun K hK => ⟨by kernel_rfl, ⟨_, rfl⟩, fun v hv => ?_, fun v hv => ?_⟩)
          · have q9 := (cells_at (keepB z3 hv) 0 (by simp)).1
            go_simp
            exact mUpon_b
          subst hv
          go_simp
          refine hK _ ?_
          clear hK K
          refine lexX_step (fun K hK => ⟨by kernel_rfl, ⟨_, rfl⟩, fun v hv => ?_, fun v hv => ?_⟩)
          · go_simp
            refine (c0 _).mono ?_
            rintro e w9 ⟨rfl, rfl⟩
            exact ⟨_, rfl, rfl, Below.refl _ _⟩
          subst hv
          go_simp
          refine hK _ ?_
          clear hK K
          refine lexX_end (fun v5 hv => ?_)
          have k5 := hv.low
          clear hv
          replace z2 := keepB z2 k5
          replace z3 := keepB z3 k5
          replace HB := hideR (below_go (unhideR HB) k5)
          clear k5
          refine wpAny_step (i := 10) (by kernel_rfl) rfl (by kernel_rfl) (fun K hK => ?_)
          unfold Oper.wp
          go_simp
          refine hK _ _ ?_
          clear hK K
          refine wpAny_end (by kernel_rfl) ?_
          go_wp2
          exact ⟨⟨3, 0, .inr (.inr ⟨rfl, rfl⟩), by go_num, by go_num, z2, z3, HB⟩, by simp [intOf]⟩
        · clear t1 t2
          have x0 := (cells_at z3 0 (by simp)).1
          have x1 := (cells_at z3 1 (by simp)).1
          have x2 := (cells_at z3 2 (by simp)).1
          go_upto_region 19 with fail
          go_wp2_with fail
          refine (c0 _).mono ?_
          rintro e v6 ⟨rfl, rfl⟩
          clear x0 x1 x2
          by_cases qn : dx < 0
          · have tn : decide (dx < 0) = true := decide_eq_true qn
            have HQ := hideR (unhideR HFin 1 (by rw [unhideR HFA, if_pos qn]))
            clear HFin HFA qn
            have zS := alloc_last v6 (.cells #[.int .i64 0, .int .i64 (ln : Nat), .int .i64 0, .int .i64 0] 57)
            have k5 := below_a v6 (.cells #[.int .i64 0, .int .i64 (ln : Nat), .int .i64 0, .int .i64 0] 57)
            have z4 := keepB z3 k5
            have z5 := keepB z2 k5
            have HB5 := hideR (below_go (unhideR HB) k5)
            have HG : HeldR (K + 1 < v6.heap.size ∧ Lb < v6.heap.size ∧ w.heap.size ≤ v6.heap.size) := hideR ⟨(Array.getElem?_eq_some_iff.1 z2).1, (Array.getElem?_eq_some_iff.1 z3).1, (unhideR HB).size⟩
            clear z2 z3 HB k5
            go_upto_region 21 with fail
            generalize v6.alloc (.cells #[.int .i64 0, .int .i64 (ln : Nat), .int .i64 0, .int .i64 0] 57) = u7 at *
            generalize v6.heap.size = G at *
            have x0 := (cells_at z4 0 (by simp)).1
            have o0 := (cells_at zS 0 (by simp)).1
            have f0 := (cells_at zS 0 (by simp)).2
            go_upto_region 23 with fail
            clear o0 f0 x0
            have y4 := one_ne (i := 0) (.int .i64 1) z4 (show Lb ≠ G by have := unhideR HG; omega)
            have y5 := one_ne (i := 0) (.int .i64 1) z5 (show K + 1 ≠ G by have := unhideR HG; omega)
            have yS := one_set zS 0 (.int .i64 1)
            have yB := hideR ((unhideR HB5).setCell (p := ⟨G, 0, none⟩) (unhideR HG).2.2 (.int .i64 1))
            simp only [setA1] at yS
            clear z4 z5 zS HB5
            generalize u7.setCell ⟨G, 0, none⟩ (.int .i64 1) = u8 at *
            have z4 := y4
            have z5 := y5
            have zS := yS
            have HB5 := yB
            clear y4 y5 yS yB
            go_wp2_with fail
            refine (hcu _).mono ?_
            rintro e v9 ⟨rfl, rfl⟩
            have o2 := (cells_at zS 2 (by simp)).1
            have f2 := (cells_at zS 2 (by simp)).2
            go_upto_region 24 with fail
            clear o2 f2
            have y4 := one_ne (i := 2) (.int .i64 CU) z4 (show Lb ≠ G by have := unhideR HG; omega)
            have y5 := one_ne (i := 2) (.int .i64 CU) z5 (show K + 1 ≠ G by have := unhideR HG; omega)
            have yS := one_set zS 2 (.int .i64 CU)
            have yB := hideR ((unhideR HB5).setCell (p := ⟨G, 2, none⟩) (unhideR HG).2.2 (.int .i64 CU))
            simp only [setA1] at yS
            clear z4 z5 zS HB5
            generalize v9.setCell ⟨G, 2, none⟩ (.int .i64 CU) = u9 at *
            have z4 := y4
            have z5 := y5
            have zS := yS
            have HB5 := yB
            clear y4 y5 yS yB
            go_wp2_with fail
            refine (hcv _).mono ?_
            rintro e v9 ⟨rfl, rfl⟩
            have o3 := (cells_at zS 3 (by simp)).1
            have f3 := (cells_at zS 3 (by simp)).2
            go_upto_region 25 with fail
            clear o3 f3
            have y4 := one_ne (i := 3) (.int .i64 CV) z4 (show Lb ≠ G by have := unhideR HG; omega)
            have y5 := one_ne (i := 3) (.int .i64 CV) z5 (show K + 1 ≠ G by have := unhideR HG; omega)
            have yS := one_set zS 3 (.int .i64 CV)
            have yB := hideR ((unhideR HB5).setCell (p := ⟨G, 3, none⟩) (unhideR HG).2.2 (.int .i64 CV))
            simp only [setA1] at yS
            clear z4 z5 zS HB5
            generalize v9.setCell ⟨G, 3, none⟩ (.int .i64 CV) = u10 at *
            have z4 := y4
            have z5 := y5
            have zS := yS
            have HB5 := yB
            clear y4 y5 yS yB
            have r0 := (cells_at zS 0 (by simp)).1
            have r1 := (cells_at zS 1 (by simp)).1
            have r2 := (cells_at zS 2 (by simp)).1
            have r3 := (cells_at zS 3 (by simp)).1
            have o0 := (cells_at z5 0 (by simp)).1
            have f0 := (cells_at z5 0 (by simp)).2
            have o1 := (cells_at z5 1 (by simp)).1
            have f1 := (cells_at z5 1 (by simp)).2
            have o2 := (cells_at z5 2 (by simp)).1
            have f2 := (cells_at z5 2 (by simp)).2
            have o3 := (cells_at z5 3 (by simp)).1
            have f3 := (cells_at z5 3 (by simp)).2
            have HF := hideR (And.intro (unhideR HQ) (set4_blA (unhideR HB5) (show w.heap.size ≤ K + 1 by have := unhideR HK; omega) (.int .i64 1) (.int .i64 (ln : Nat)) (.int .i64 CU) (.int .i64 CV)))
            clear z4 z5 zS HB5 HG HK HQ hcu hcv
            go_wp2
            simp [bodyPost, results, Tryz.results20, go_sem, o0, o1, o2, o3]
            exact unhideR HF
          · have tn : decide (dx < 0) = false := decide_eq_false qn
            have HQ := hideR (unhideR HFin 0 (by rw [unhideR HFA, if_neg qn]))
            clear HFin HFA qn
            have zS := alloc_last v6 (.cells #[.int .i64 0, .int .i64 (ln : Nat), .int .i64 0, .int .i64 0] 57)
            have k5 := below_a v6 (.cells #[.int .i64 0, .int .i64 (ln : Nat), .int .i64 0, .int .i64 0] 57)
            have z4 := keepB z3 k5
            have z5 := keepB z2 k5
            have HB5 := hideR (below_go (unhideR HB) k5)
            have HG : HeldR (K + 1 < v6.heap.size ∧ Lb < v6.heap.size ∧ w.heap.size ≤ v6.heap.size) := hideR ⟨(Array.getElem?_eq_some_iff.1 z2).1, (Array.getElem?_eq_some_iff.1 z3).1, (unhideR HB).size⟩
            clear z2 z3 HB k5
            go_upto_region 21 with fail
            generalize v6.alloc (.cells #[.int .i64 0, .int .i64 (ln : Nat), .int .i64 0, .int .i64 0] 57) = u7 at *
            generalize v6.heap.size = G at *
            have x0 := (cells_at z4 0 (by simp)).1
            go_upto_region 23 with fail
            clear x0
            go_wp2_with fail
            refine (hcu _).mono ?_
            rintro e v9 ⟨rfl, rfl⟩
            have o2 := (cells_at zS 2 (by simp)).1
            have f2 := (cells_at zS 2 (by simp)).2
            go_upto_region 24 with fail
            clear o2 f2
            have y4 := one_ne (i := 2) (.int .i64 CU) z4 (show Lb ≠ G by have := unhideR HG; omega)
            have y5 := one_ne (i := 2) (.int .i64 CU) z5 (show K + 1 ≠ G by have := unhideR HG; omega)
            have yS := one_set zS 2 (.int .i64 CU)
            have yB := hideR ((unhideR HB5).setCell (p := ⟨G, 2, none⟩) (unhideR HG).2.2 (.int .i64 CU))
            simp only [setA1] at yS
            clear z4 z5 zS HB5
            generalize v9.setCell ⟨G, 2, none⟩ (.int .i64 CU) = u9 at *
            have z4 := y4
            have z5 := y5
            have zS := yS
            have HB5 := yB
            clear y4 y5 yS yB
            go_wp2_with fail
            refine (hcv _).mono ?_
            rintro e v9 ⟨rfl, rfl⟩
            have o3 := (cells_at zS 3 (by simp)).1
            have f3 := (cells_at zS 3 (by simp)).2
            go_upto_region 25 with fail
            clear o3 f3
            have y4 := one_ne (i := 3) (.int .i64 CV) z4 (show Lb ≠ G by have := unhideR HG; omega)
            have y5 := one_ne (i := 3) (.int .i64 CV) z5 (show K + 1 ≠ G by have := unhideR HG; omega)
            have yS := one_set zS 3 (.int .i64 CV)
            have yB := hideR ((unhideR HB5).setCell (p := ⟨G, 3, none⟩) (unhideR HG).2.2 (.int .i64 CV))
            simp only [setA1] at yS
            clear z4 z5 zS HB5
            generalize v9.setCell ⟨G, 3, none⟩ (.int .i64 CV) = u10 at *
            have z4 := y4
            have z5 := y5
            have zS := yS
            have HB5 := yB
            clear y4 y5 yS yB
            have r0 := (cells_at zS 0 (by simp)).1
            have r1 := (cells_at zS 1 (by simp)).1
            have r2 := (cells_at zS 2 (by simp)).1
            have r3 := (cells_at zS 3 (by simp)).1
            have o0 := (cells_at z5 0 (by simp)).1
            have f0 := (cells_at z5 0 (by simp)).2
            have o1 := (cells_at z5 1 (by simp)).1
            have f1 := (cells_at z5 1 (by simp)).2
            have o2 := (cells_at z5 2 (by simp)).1
            have f2 := (cells_at z5 2 (by simp)).2
            have o3 := (cells_at z5 3 (by simp)).1
            have f3 := (cells_at z5 3 (by simp)).2
            have HF := hideR (And.intro (unhideR HQ) (set4_blA (unhideR HB5) (show w.heap.size ≤ K + 1 by have := unhideR HK; omega) (.int .i64 0) (.int .i64 (ln : Nat)) (.int .i64 CU) (.int .i64 CV)))
            clear z4 z5 zS HB5 HG HK HQ hcu hcv
            go_wp2
            simp [bodyPost, results, Tryz.results20, go_sem, o0, o1, o2, o3]
            exact unhideR HF
end Go.Proofs.YtfonpobdnhifgamGreatDoor
