/-
  The program's series, and sines, by their contracts. The program's sines and cosines, by their contracts.
-/
import Derived.Test.YtngdemhhcablmakDoorSinIs
import Derived.Test.YtngdemhhcablmakDoorNrmA
namespace Go.Proofs.YtngdemhhcablmakDoor
open Go Go.RowKit

def hcE (z c : Nat) (e : FE) : FE := .op .add (.num c) (.op .mul (.num z) e)
def hjE (z : Nat) (c : Nat → Nat) : Nat → FE
  | 0 => .num (c 8)
  | j + 1 => hcE z (c (7 - j)) (hjE z c j)

def arr9 (c : Nat → Nat) : Obj := Obj.cells #[.float .f64 (c 0), .float .f64 (c 1), .float .f64 (c 2), .float .f64 (c 3), .float .f64 (c 4), .float .f64 (c 5), .float .f64 (c 6), .float .f64 (c 7), .float .f64 (c 8)] 104
theorem arr9_cell (w : World) (c : Nat → Nat) (i : Nat) (h : i < 9) : (w.alloc (arr9 c)).cell? ⟨w.heap.size, i, none⟩ = some (.float .f64 (c i)) := by
  have hj : i = 0 ∨ i = 1 ∨ i = 2 ∨ i = 3 ∨ i = 4 ∨ i = 5 ∨ i = 6 ∨ i = 7 ∨ i = 8 := by omega
  unfold arr9
  rcases hj with rfl | rfl | rfl | rfl | rfl | rfl | rfl | rfl | rfl <;> simp [go_sem]

set_option maxHeartbeats 2000000 in
theorem dseries_any (x : Nat) (c : Nat → Nat) (w : World) :
    Calls Tryd.prog 66 #[.float .f64 x, .agg #[.float .f64 (c 0), .float .f64 (c 1), .float .f64 (c 2), .float .f64 (c 3), .float .f64 (c 4), .float .f64 (c 5), .float .f64 (c 6), .float .f64 (c 7), .float .f64 (c 8)]] w
      fun e w' => ∃ r, e = .returned (.float .f64 r) ∧ (∃ z, FOp .mul x x z ∧ Ev (hjE z c 8) r) ∧ Below w.heap.size w w' := by
  have hm := fun t x y v => run_fmul (P := Tryd.prog) t x y v
  have hp := fun t x y v => run_fadd (P := Tryd.prog) t x y v
  have cells := arr9_cell w c
  have HB : HeldF (Below w.heap.size w (w.alloc (arr9 c))) := (Below.refl w.heap.size w).alloc (Nat.le_refl _) _
  have hz := hideF (fnum_is .mul x x (w.alloc (arr9 c)))
  unfold arr9 at cells HB hz
  go_enter Tryd.func66, Tryd.ntmps66
  go_wp2
  generalize w.alloc (Obj.cells #[.float .f64 (c 0), .float .f64 (c 1), .float .f64 (c 2), .float .f64 (c 3), .float .f64 (c 4), .float .f64 (c 5), .float .f64 (c 6), .float .f64 (c 7), .float .f64 (c 8)] 104) = W0 at *
  generalize fnum .mul x x W0 = z at *
  have c0 := cells 0 (by omega)
  have c1 := cells 1 (by omega)
  have c2 := cells 2 (by omega)
  have c3 := cells 3 (by omega)
  have c4 := cells 4 (by omega)
  have c5 := cells 5 (by omega)
  have c6 := cells 6 (by omega)
  have c7 := cells 7 (by omega)
  clear cells
  go_loopw [6, 7] (fun s k wl => ∃ (j r n : Nat), j ≤ 8 ∧ s = .float .f64 r ∧ k = .int .i64 (7 - (j : Int)) ∧ HeldF (Ev (hjE z c j) r) ∧ wl = W0.drewN n) (fun _ k _ => (RowKit.intOf k + 1).toNat)
  case atStart => exact ⟨0, c 8, _, by omega, rfl, rfl, .num _, rfl⟩
  case round =>
    obtain ⟨j, r, n, hj, rfl, rfl, HEV, rfl⟩ := hrel
    have hjj : j = 0 ∨ j = 1 ∨ j = 2 ∨ j = 3 ∨ j = 4 ∨ j = 5 ∨ j = 6 ∨ j = 7 ∨ j = 8 := by omega
    rcases hjj with rfl | rfl | rfl | rfl | rfl | rfl | rfl | rfl | rfl
    · go_wp2
      exact ⟨⟨1, _, _, by omega, rfl, rfl, .op (.num _) (.op (.num _) (unhideF HEV) (fnum_is _ _ _ _)) (fnum_is _ _ _ _), rfl⟩, by decide⟩
    · go_wp2
      exact ⟨⟨2, _, _, by omega, rfl, rfl, .op (.num _) (.op (.num _) (unhideF HEV) (fnum_is _ _ _ _)) (fnum_is _ _ _ _), rfl⟩, by decide⟩
    · go_wp2
      exact ⟨⟨3, _, _, by omega, rfl, rfl, .op (.num _) (.op (.num _) (unhideF HEV) (fnum_is _ _ _ _)) (fnum_is _ _ _ _), rfl⟩, by decide⟩
    · go_wp2
      exact ⟨⟨4, _, _, by omega, rfl, rfl, .op (.num _) (.op (.num _) (unhideF HEV) (fnum_is _ _ _ _)) (fnum_is _ _ _ _), rfl⟩, by decide⟩
    · go_wp2
      exact ⟨⟨5, _, _, by omega, rfl, rfl, .op (.num _) (.op (.num _) (unhideF HEV) (fnum_is _ _ _ _)) (fnum_is _ _ _ _), rfl⟩, by decide⟩
    · go_wp2
      exact ⟨⟨6, _, _, by omega, rfl, rfl, .op (.num _) (.op (.num _) (unhideF HEV) (fnum_is _ _ _ _)) (fnum_is _ _ _ _), rfl⟩, by decide⟩
    · go_wp2
      exact ⟨⟨7, _, _, by omega, rfl, rfl, .op (.num _) (.op (.num _) (unhideF HEV) (fnum_is _ _ _ _)) (fnum_is _ _ _ _), rfl⟩, by decide⟩
    · go_wp2
      exact ⟨⟨8, _, _, by omega, rfl, rfl, .op (.num _) (.op (.num _) (unhideF HEV) (fnum_is _ _ _ _)) (fnum_is _ _ _ _), rfl⟩, by decide⟩
    · go_wp2
      go_ret
      exact ⟨_, rfl, ⟨z, unhideF hz, unhideF HEV⟩, below_drewN (unhideF HB) _⟩

/-! the two series -/
def cs1 : Nat → Nat
  | 0 => one
  | k => CB 1 k
def cs0 : Nat → Nat
  | 0 => one
  | k => CB 0 k
theorem cs0_vals : cs0 0 = 4607182418800017408 ∧ cs0 1 = 13826050856027422720 ∧ cs0 2 = 4586165620538955093 ∧ cs0 3 = 13787419979223755799 ∧ cs0 4 = 4537941361671905306 ∧ cs0 5 = 13732177094651715420 ∧ cs0 6 = 4477122120089393304 ∧ cs0 7 = 13666517717442657437 ∧ cs0 8 = 4407590220077447199 := by decide +kernel
theorem cs1_vals : cs1 0 = 4607182418800017408 ∧ cs1 1 = 13818544856648471893 ∧ cs1 2 = 4575957461383581969 ∧ cs1 3 = 13774824197408792602 ∧ cs1 4 = 4523617214285662004 ∧ cs1 5 = 13716528800881525988 ∧ cs1 6 = 4460272573143870729 ∧ cs1 7 = 13648976655441704991 ∧ cs1 8 = 4389130328383466826 := by decide +kernel
theorem hj_is1 (z : Nat) : hjE z cs1 8 = serE z 1 := rfl
theorem hj_is0 (z : Nat) : hjE z cs0 8 = serE z 0 := rfl
theorem cosine_any (x : Nat) (w : World) :
    Calls Tryd.prog 54 #[.float .f64 x] w fun e w' => ∃ r, e = .returned (.float .f64 r) ∧ (∃ z, FOp .mul x x z ∧ Ev (serE z 0) r) ∧ Below w.heap.size w w' := by
  have hs := fun v => dseries_any x cs0 v
  obtain ⟨e0, e1, e2, e3, e4, e5, e6, e7, e8⟩ := cs0_vals
  simp only [hj_is0] at hs
  rw [e0, e1, e2, e3, e4, e5, e6, e7, e8] at hs
  clear e0 e1 e2 e3 e4 e5 e6 e7 e8
  go_enter Tryd.func54, Tryd.ntmps54
  go_wp2_with fail
  refine (hs _).mono ?_
  rintro e w1 ⟨r, rfl, hz, hb⟩
  have HZ := hideF hz
  have HB := hideF hb
  clear hz hb
  go_wp2
  go_ret
  exact ⟨r, rfl, unhideF HZ, unhideF HB⟩
theorem sine_any (x : Nat) (w : World) :
    Calls Tryd.prog 55 #[.float .f64 x] w fun e w' => ∃ r, e = .returned (.float .f64 r) ∧ (∃ z s, FOp .mul x x z ∧ Ev (serE z 1) s ∧ FOp .mul x s r) ∧ Below w.heap.size w w' := by
  have hs := fun v => dseries_any x cs1 v
  obtain ⟨e0, e1, e2, e3, e4, e5, e6, e7, e8⟩ := cs1_vals
  simp only [hj_is1] at hs
  rw [e0, e1, e2, e3, e4, e5, e6, e7, e8] at hs
  clear e0 e1 e2 e3 e4 e5 e6 e7 e8
  have hm := fun t x y v => run_fmul (P := Tryd.prog) t x y v
  go_enter Tryd.func55, Tryd.ntmps55
  go_wp2_with fail
  refine (hs _).mono ?_
  rintro e w1 ⟨s, rfl, ⟨z, hz, hv⟩, hb⟩
  have HZ := hideF hz
  have HV := hideF hv
  have HB := hideF hb
  clear hz hb hv
  go_wp2
  go_ret
  exact ⟨_, rfl, ⟨z, s, unhideF HZ, unhideF HV, fnum_is _ _ _ _⟩, below_drewN (unhideF HB) _⟩
theorem folded_any (a : Int) (w : World) :
    Calls Tryd.prog 53 #[.int .i64 a] w fun e w' => ∃ x, e = .returned (.tuple #[.int .i64 (qOf a % 4), .float .f64 x]) ∧ FOp .mul (floatOfInt .f64 (rOf a)) radB x ∧ ∃ n, w' = w.drewN n := by
  have hn := nrm_range a
  have hq := qOf_range a
  have hqd : qOf a = (nrm a + 162000000000) / 324000000000 := rfl
  have hrd : rOf a = nrm a - qOf a * 324000000000 := rfl
  have hm := fun t x y v => run_fmul (P := Tryd.prog) t x y v
  have hcall := fun v => norm_any a v
  unfold radB
  generalize nrm a = n at *
  generalize qOf a = q at *
  generalize rOf a = r at *
  have hqm : q.tmod 4 = q % 4 := Int.tmod_eq_emod_of_nonneg hq.1
  have hqt : (n + 162000000000).tdiv 324000000000 = q := by rw [hqd]; exact Int.tdiv_eq_ediv_of_nonneg (by omega)
  go_enter Tryd.func53, Tryd.ntmps53
  go_wp2_with fail
  refine (hcall _).mono ?_
  rintro e w1 ⟨rfl, rfl⟩
  go_wp2
  rw [hrd, hqd]
  go_ret2
  exact ⟨_, rfl, fnum_is _ _ _ _, _, rfl⟩

theorem sine_of (a : Int) (x : Nat) (w : World) (hx : FOp .mul (floatOfInt .f64 (rOf a)) radB x) :
    Calls Tryd.prog 55 #[.float .f64 x] w fun e w' => e = .returned (.float .f64 (sV (rOf a))) ∧ Below w.heap.size w w' := by
  refine (sine_any x w).mono ?_
  rintro e w' ⟨r, rfl, ⟨z, s, hz, hs, hr⟩, hb⟩
  have ex : Ev (xE (rOf a)) x := .op (.num _) (.num _) hx
  have er : Ev (sE (rOf a)) r := .op ex (ser_sub (.op ex ex hz) hs) hr
  rw [(sc_is a er (ev_evl (cE (rOf a)))).1]
  exact ⟨rfl, hb⟩
theorem cosine_of (a : Int) (x : Nat) (w : World) (hx : FOp .mul (floatOfInt .f64 (rOf a)) radB x) :
    Calls Tryd.prog 54 #[.float .f64 x] w fun e w' => e = .returned (.float .f64 (cV (rOf a))) ∧ Below w.heap.size w w' := by
  refine (cosine_any x w).mono ?_
  rintro e w' ⟨r, rfl, ⟨z, hz, hr⟩, hb⟩
  have ex : Ev (xE (rOf a)) x := .op (.num _) (.num _) hx
  have er : Ev (cE (rOf a)) r := ser_sub (.op ex ex hz) hr
  rw [(sc_is a (ev_evl (sE (rOf a))) er).2]
  exact ⟨rfl, hb⟩
theorem below_from {w v : World} {n : Nat} (k : Below (w.drewN n).heap.size (w.drewN n) v) : Below w.heap.size w v := below_on (Below.refl w.heap.size w) k (Nat.le_refl _)
theorem sin_any (a : Int) (w : World) :
    Calls Tryd.prog 44 #[.int .i64 a] w fun e w' => e = .returned (.float .f64 (sinV a)) ∧ Below w.heap.size w w' := by
  have hf := fun v => folded_any a v
  have hs := fun x v hx => sine_of a x v hx
  have hc := fun x v hx => cosine_of a x v hx
  have hneg : ∀ x v, (Op.unary UnOp.neg (.float .f64 x)).run Tryd.prog v = .ok (.float .f64 (ngB x)) v := fun _ _ => rfl
  have h4 : qOf a % 4 = 0 ∨ qOf a % 4 = 1 ∨ qOf a % 4 = 2 ∨ qOf a % 4 = 3 := by omega
  have hV : sinV a = turnS (qOf a) (sV (rOf a)) (cV (rOf a)) := rfl
  rw [hV]
  unfold turnS
  generalize sV (rOf a) = s at *
  generalize cV (rOf a) = c at *
  rcases h4 with h | h | h | h
  all_goals
    rw [h] at hf ⊢
    simp only [if_true, Int.reduceEq, if_false]
    go_enter Tryd.func44, Tryd.ntmps44
    go_wp2_with fail
    refine (hf _).mono ?_
    rintro e w1 ⟨x, rfl, hx, n, rfl⟩
    have HX := hideF hx
    clear hx
    go_wp2_with fail
    first
      | refine (hs _ _ (unhideF HX)).mono ?_
      | refine (hc _ _ (unhideF HX)).mono ?_
    rintro e w2 ⟨rfl, hb⟩
    have HB := hideF (below_from hb)
    clear hb
    go_wp2
    go_ret
    exact ⟨rfl, unhideF HB⟩
end Go.Proofs.YtngdemhhcablmakDoor
namespace Go.Proofs.YtngdemhhcablmakDoor
open Go Go.RowKit

theorem cos_any (a : Int) (w : World) :
    Calls Tryd.prog 43 #[.int .i64 a] w fun e w' => e = .returned (.float .f64 (cosV a)) ∧ Below w.heap.size w w' := by
  have hf := fun v => folded_any a v
  have hs := fun x v hx => sine_of a x v hx
  have hc := fun x v hx => cosine_of a x v hx
  have hneg : ∀ x v, (Op.unary UnOp.neg (.float .f64 x)).run Tryd.prog v = .ok (.float .f64 (ngB x)) v := fun _ _ => rfl
  have h4 : qOf a % 4 = 0 ∨ qOf a % 4 = 1 ∨ qOf a % 4 = 2 ∨ qOf a % 4 = 3 := by omega
  have hV : cosV a = turnC (qOf a) (sV (rOf a)) (cV (rOf a)) := rfl
  rw [hV]
  unfold turnC
  generalize sV (rOf a) = s at *
  generalize cV (rOf a) = c at *
  rcases h4 with h | h | h | h
  all_goals
    rw [h] at hf ⊢
    simp only [if_true, Int.reduceEq, if_false]
    go_enter Tryd.func43, Tryd.ntmps43
    go_wp2_with fail
    refine (hf _).mono ?_
    rintro e w1 ⟨x, rfl, hx, n, rfl⟩
    have HX := hideF hx
    clear hx
    go_wp2_with fail
    first
      | refine (hs _ _ (unhideF HX)).mono ?_
      | refine (hc _ _ (unhideF HX)).mono ?_
    rintro e w2 ⟨rfl, hb⟩
    have HB := hideF (below_from hb)
    clear hb
    go_wp2
    go_ret
    exact ⟨rfl, unhideF HB⟩
end Go.Proofs.YtngdemhhcablmakDoor
