/-
  A row of complex numbers that is made and written; products: the program's, by contract. The turns of a row's waves, and both parts over a number: the program's, by contract.
-/
import Derived.Test.YtngdemhhcablmakDoorShKA
import Derived.Laws.OwnMore
import Derived.Laws.MakeOwn
import Derived.Laws.ComplexArith
import Derived.Deep.CutRange
import Derived.Test.YtngdemhhcablmakDoorDSinA
import Derived.Test.YtngdemhhcablmakDoorShNA
namespace Go.Proofs.YtngdemhhcablmakDoor
open Go Go.RowKit

theorem infoCx : (Tryd.prog.info? 41).map (fun i => (i.zero, i.size, i.bytes)) = some (some (.complex .f64 0 0), 1, 16) := by kernel_rfl
theorem make_zeroC {w : World} {n : Nat} (B : Nat) (hB : B ≤ w.heap.size) (hn : n ≤ 65536) : ∃ w', (Instr.makeSlice 24 (.int .i64 (n : Int)) (.int .i64 (n : Int))).run Tryd.prog w = .ok (.slice (some ⟨w.heap.size, 0, none⟩) n n) w' ∧ CxOwn w' B (.slice (some ⟨w.heap.size, 0, none⟩) n n) (List.replicate n (0, 0)) ∧ Below w.heap.size w w' := by
  obtain ⟨i0, hi0, hz0, hz1, hz2⟩ := info_parts infoCx
  obtain ⟨w', h1, h2, h3⟩ := run_make_full (P := Tryd.prog) w B 24 41 i0 (.complex .f64 0 0) 1 (by kernel_rfl) hi0 hz0 hz1 .i64 .i64 n (by rw [hz2]; omega) (by simp [maxLen]; omega) hB
  refine ⟨w', h1, ?_, (Below.refl _ _).grown h3 (Nat.le_refl _) (fun k hk => by cases hk)⟩
  unfold CxOwn
  have e : (madeCells (Value.cells (.complex .f64 0 0)) (n * 1)).toList = (List.replicate n ((0, 0) : Nat × Nat)).map cxV := by
    rw [Nat.mul_one, show (Value.cells (.complex .f64 0 0)) = #[.complex .f64 0 0] from rfl, toList_madeCells_one, List.map_replicate]
    rfl
  rw [← e, List.length_replicate]
  exact h2
theorem CxOwn.has {w : World} {B g n c : Nat} {C : List (Nat × Nat)} (h : CxOwn w B (.slice (some ⟨g, 0, none⟩) n c) C) (hn : C.length = n) {k : Nat} (hk : k < n) : w.cell? ⟨g, k, none⟩ = some (.complex .f64 (C.getD k (0, 0)).1 (C.getD k (0, 0)).2) ∧ w.frozen? ⟨g, k, none⟩ = false := by
  unfold CxOwn at h
  rw [hn] at h
  refine ⟨?_, h.frozenAt k⟩
  rw [h.cellAt k (by rw [Nat.mul_one]; exact hk), List.getElem?_map, List.getElem?_eq_getElem (by omega), List.getD_eq_getElem?_getD, List.getElem?_eq_getElem (by omega)]
  rfl
theorem CxOwn.put {w : World} {B g n c : Nat} {C : List (Nat × Nat)} (h : CxOwn w B (.slice (some ⟨g, 0, none⟩) n c) C) (hn : C.length = n) (k : Nat) (x : Nat × Nat) : CxOwn (w.setCell ⟨g, k, none⟩ (.complex .f64 x.1 x.2)) B (.slice (some ⟨g, 0, none⟩) n c) (C.set k x) := by
  unfold CxOwn at h ⊢
  rw [hn] at h
  rw [List.length_set, hn, List.map_set]
  exact (h.stored k (.complex .f64 x.1 x.2)).1
theorem CxOwn.low {w : World} {B g n c : Nat} {C : List (Nat × Nat)} (h : CxOwn w B (.slice (some ⟨g, 0, none⟩) n c) C) : B ≤ g := own_at2 h g rfl
theorem CxOwn.lt0 {w : World} {B g n c : Nat} {C : List (Nat × Nat)} (h : CxOwn w B (.slice (some ⟨g, 0, none⟩) n c) C) : g < w.heap.size := by
  unfold CxOwn at h
  rcases h.2 with ⟨h1, _⟩ | ⟨g', c, cur, h1, _, hh, _⟩
  · cases h1
  · injection h1 with h1 _ _
    injection h1 with h1
    injection h1 with h1
    subst h1
    exact (Array.getElem?_eq_some_iff.1 hh).1
theorem CxOwn.row {w : World} {B g n c : Nat} {C : List (Nat × Nat)} (h : CxOwn w B (.slice (some ⟨g, 0, none⟩) n c) C) : CxCame w (some ⟨g, 0, none⟩) C := by
  obtain ⟨ad, cap, e, hc⟩ := h.came
  injection e with e
  subst e
  exact hc
theorem cget_other {M : List (Nat × Nat)} {k i : Nat} (h : i ≠ k) (r : Nat × Nat) : (M.set k r).getD i (0, 0) = M.getD i (0, 0) := by
  rw [List.getD_eq_getElem?_getD, List.getElem?_set_ne (by omega), ← List.getD_eq_getElem?_getD]
theorem cget_same {M : List (Nat × Nat)} {k : Nat} (h : k < M.length) (r : Nat × Nat) : (M.set k r).getD k (0, 0) = r := by
  rw [List.getD_eq_getElem?_getD, List.getElem?_set_self h]
  rfl
theorem cget_zero (n i : Nat) : (List.replicate n ((0, 0) : Nat × Nat)).getD i (0, 0) = (0, 0) := by
  rw [List.getD_eq_getElem?_getD, List.getElem?_replicate]
  split <;> rfl
set_option maxRecDepth 100000 in
set_option maxHeartbeats 4000000 in
theorem sproduct_any (x y : Nat × Nat) (w : World) : Calls Tryd.prog 28 #[.complex .f64 x.1 x.2, .complex .f64 y.1 y.2] w fun e w' => ∃ r : Nat × Nat, e = .returned (.complex .f64 r.1 r.2) ∧ CPr x y r ∧ Below w.heap.size w w' := by
  obtain ⟨x1, x2⟩ := x
  obtain ⟨y1, y2⟩ := y
  go_enter Tryd.func28, Tryd.ntmps28
  go_wp2_with fail
  refine upon_flt fl_mul ?_
  intro ac n1 h1
  go_wp2_with fail
  refine upon_flt fl_mul ?_
  intro bd n2 h2
  go_wp2_with fail
  refine upon_flt fl_sub ?_
  intro r1 n5 h5
  go_wp2_with fail
  refine upon_flt fl_mul ?_
  intro ad n3 h3
  go_wp2_with fail
  refine upon_flt fl_mul ?_
  intro bc n4 h4
  go_wp2_with fail
  refine upon_flt fl_add ?_
  intro r2 n6 h6
  go_wp2
  go_ret
  exact ⟨(r1, r2), rfl, ⟨ac, bd, ad, bc, h1, h2, h3, h4, h5, h6⟩, below_drewN (Below.refl _ _) _⟩
end Go.Proofs.YtngdemhhcablmakDoor
namespace Go.Proofs.YtngdemhhcablmakDoor
open Go Go.RowKit

def TnK (n : Nat) (back : Bool) (many : Nat) (T : List (Nat × Nat)) (k : Nat) : Prop := T.length = many ∧ ∀ i, i < k → T.getD i (0, 0) = waveV ((1296000000000 * i / n : Nat) : Int) back
theorem TnK.next {n : Nat} {back : Bool} {many k : Nat} {T : List (Nat × Nat)} (h : TnK n back many T k) (hk : k < many) : TnK n back many (T.set k (waveV ((1296000000000 * k / n : Nat) : Int) back)) (k + 1) := by
  refine ⟨by rw [List.length_set]; exact h.1, fun i hi => ?_⟩
  by_cases e : i = k
  · subst e
    rw [cget_same (by rw [h.1]; exact hk)]
  · rw [cget_other e]
    exact h.2 i (by omega)
def TnPost (n many : Nat) (back : Bool) (w : World) (e : Ending) (w' : World) : Prop := ∃ (T : List (Nat × Nat)) (g : Nat), e = .returned (.slice (some ⟨g, 0, none⟩) many many) ∧ TnK n back many T many ∧ CxOwn w' w.heap.size (.slice (some ⟨g, 0, none⟩) many many) T ∧ Below w.heap.size w w'
set_option maxRecDepth 100000 in
set_option maxHeartbeats 1600000 in
theorem turnsOf_any (n many : Nat) (back : Bool) (h0 : 0 < n) (hn : n ≤ 256) (hm : many ≤ 256) (w : World) : Calls Tryd.prog 27 #[.int .i64 (n : Nat), .int .i64 (many : Nat), .bool back] w (TnPost n many back w) := by
  obtain ⟨wm, hmk, hown, hbw⟩ := make_zeroC (w := w) (n := many) w.heap.size (Nat.le_refl _) (by omega)
  have HX : HeldR (∃ T, TnK n back many T 0 ∧ CxOwn wm w.heap.size (.slice (some ⟨w.heap.size, 0, none⟩) many many) T) := hideR ⟨_, ⟨List.length_replicate, fun i hi => absurd hi (Nat.not_lt_zero i)⟩, hown⟩
  have HBm := hideR hbw
  have HE : HeldR (∀ T g u, TnK n back many T many → CxOwn u w.heap.size (.slice (some ⟨g, 0, none⟩) many many) T → Below w.heap.size w u → TnPost n many back w (.returned (.slice (some ⟨g, 0, none⟩) many many)) u) := hideR (fun T g u h1 h2 h3 => ⟨T, g, rfl, h1, h2, h3⟩)
  have hsto := fun w a x y m => run_store Tryd.prog w a (.complex .f64 x y) m rfl
  have hneg : ∀ x v, (Op.unary UnOp.neg (.float .f64 x)).run Tryd.prog v = .ok (.float .f64 (ngB x)) v := fun _ _ => rfl
  have hn0 : (n : Int) ≠ 0 := by omega
  have hn0n : n ≠ 0 := by omega
  clear hown hbw
  go_enter Tryd.func27, Tryd.ntmps27
  go_wp2
  obtain ⟨g, hg⟩ : ∃ g, w.heap.size = g := ⟨_, rfl⟩
  have HG := hideR hg
  rw [hg] at HX HE ⊢
  clear hg hmk
  go_loopw [14] (fun iv wl => ∃ (k : Nat) (T : List (Nat × Nat)), k ≤ many ∧ iv = .int .i64 (k : Nat) ∧ HeldR (TnK n back many T k) ∧ HeldR (CxOwn wl g (.slice (some ⟨g, 0, none⟩) many many) T) ∧ HeldR (Below w.heap.size w wl)) (fun iv _ => many + 1 - (intOf iv).toNat)
  case atStart =>
    obtain ⟨T, h1, h2⟩ := unhideR HX
    exact ⟨0, T, by omega, rfl, hideR h1, hideR h2, HBm⟩
  case round =>
    clear HX HBm
    obtain ⟨k, T, hk, rfl, HT, HO, HB⟩ := hrel
    by_cases hlt : k < many
    · have tk : decide (k < many) = true := decide_eq_true hlt
      have tki : decide ((k : Int) < (many : Int)) = true := decide_eq_true (by omega)
      have jk : (k : Int) < (many : Int) := by omega
      have wk : IntKind.i64.wrap ((k : Int) + 1) = ((k + 1 : Nat) : Int) := by rw [show (k : Int) + 1 = ((k + 1 : Nat) : Int) by omega]; exact iwrap (by omega) (by omega)
      have HNx := hideR ((unhideR HT).next hlt)
      obtain ⟨tm, htm⟩ : ∃ tm, 1296000000000 * k = tm := ⟨_, rfl⟩
      obtain ⟨gg, hgg⟩ : ∃ gg, tm / n = gg := ⟨_, rfl⟩
      rw [htm, hgg] at HNx
      have hgl : gg ≤ tm := by rw [← hgg]; exact Nat.div_le_self _ _
      have wt : IntKind.i64.wrap (1296000000000 * (k : Int)) = (tm : Nat) := by rw [← htm]; rw [show (1296000000000 * (k : Int)) = ((1296000000000 * k : Nat) : Int) by omega]; exact iwrap (by omega) (by omega)
      have hd1 : (tm : Int) / (n : Int) = (gg : Nat) := by rw [← hgg]; exact (Int.natCast_ediv tm n).symm
      have hd2 : (tm : Int).tdiv (n : Int) = (gg : Nat) := (Int.tdiv_eq_ediv_of_nonneg (Int.natCast_nonneg tm)).trans hd1
      have wg : IntKind.i64.wrap (gg : Int) = (gg : Int) := by clear hd1 hd2 hgg wt; exact iwrap (by omega) (by omega)
      clear htm hgg hgl
      have hco := fun u => cos_any (gg : Nat) u
      have hsi := fun u => sin_any (gg : Nat) u
      unfold waveV at HNx
      generalize sinV ((gg : Nat) : Int) = sv at *
      generalize cosV ((gg : Nat) : Int) = cv at *
      cases back with
      | true =>
        rw [if_pos rfl] at HNx
        go_wp2_with fail
        refine (hco _).mono ?_
        rintro e w3 ⟨rfl, k3⟩
        have HB3 := hideR (below_go (unhideR HB) k3)
        have HO3 := hideR ((unhideR HO).below k3)
        clear hco k3 HB HO
        go_wp2_with fail
        refine (hsi _).mono ?_
        rintro e w4 ⟨rfl, k4⟩
        have HO4 := hideR ((unhideR HO3).below k4)
        obtain ⟨xc, xf⟩ := (unhideR HO4).has (unhideR HT).1 (k := k) hlt
        have HO5 := hideR ((unhideR HO4).put (unhideR HT).1 k (cv, sv))
        have HB5 : HeldR (Below w.heap.size w (w4.setCell ⟨g, k, none⟩ (.complex .f64 cv sv))) := hideR ((below_go (unhideR HB3) k4).setCell (by rw [unhideR HG]; exact Nat.le_refl _) _)
        have HT5 := hideR (unhideR HNx)
        clear hsi k4 HB3 HO3 HO4 HT HNx
        go_wp2
        exact ⟨⟨k + 1, _, by omega, by first | rfl | go_num, HT5, HO5, HB5⟩, by simp [intOf]; omega⟩
      | false =>
        rw [if_neg (by decide)] at HNx
        go_wp2_with fail
        refine (hco _).mono ?_
        rintro e w3 ⟨rfl, k3⟩
        have HB3 := hideR (below_go (unhideR HB) k3)
        have HO3 := hideR ((unhideR HO).below k3)
        clear hco k3 HB HO
        go_wp2_with fail
        refine (hsi _).mono ?_
        rintro e w4 ⟨rfl, k4⟩
        have HO4 := hideR ((unhideR HO3).below k4)
        obtain ⟨xc, xf⟩ := (unhideR HO4).has (unhideR HT).1 (k := k) hlt
        have HO5 := hideR ((unhideR HO4).put (unhideR HT).1 k (cv, (ngB sv)))
        have HB5 : HeldR (Below w.heap.size w (w4.setCell ⟨g, k, none⟩ (.complex .f64 cv (ngB sv)))) := hideR ((below_go (unhideR HB3) k4).setCell (by rw [unhideR HG]; exact Nat.le_refl _) _)
        have HT5 := hideR (unhideR HNx)
        clear hsi k4 HB3 HO3 HO4 HT HNx
        go_wp2
        exact ⟨⟨k + 1, _, by omega, by first | rfl | go_num, HT5, HO5, HB5⟩, by simp [intOf]; omega⟩
    · obtain rfl : k = many := by omega
      have tk : decide (k < k) = false := decide_eq_false hlt
      have tki : decide ((k : Int) < (k : Int)) = false := decide_eq_false (by omega)
      have HR := hideR (unhideR HE T g wr (unhideR HT) (unhideR HO) (unhideR HG ▸ unhideR HB))
      clear HE HT HO
      go_wp2
      go_ret
      exact unhideR HR
end Go.Proofs.YtngdemhhcablmakDoor
