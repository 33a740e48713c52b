/-
  The document's series, by its contract.
-/
import Derived.Test.YtngdemhhcablmakDoorFloatEv
import Derived.WalkKit
import Derived.ProofKit
import Derived.OwnWalk
import Derived.WalkSmall
namespace Go.Proofs.YtngdemhhcablmakDoor
open Go Go.RowKit

def fct : Nat → Nat
  | 0 => 1
  | n + 1 => (n + 1) * fct n
/-- n factorial as a number. -/
def FB (n : Nat) : Nat := floatOfInt .f64 (fct n)
theorem fb_step : ∀ i : Fin 16, floatBits .mul .f64 (FB (i.val + 1)) (floatOfInt .f64 ((i.val : Int) + 2)) = some (FB (i.val + 2)) := by decide +kernel
theorem fb_one : FB 1 = 4607182418800017408 := by decide +kernel

def one : Nat := 4607182418800017408
def sg (k x : Nat) : Nat := if k % 2 = 1 then Op.negFloat .f64 x else x
/-- the k-th number of the series. -/
def CB (o k : Nat) : Nat := (floatBits .quo .f64 one (sg k (FB (2 * k + o)))).getD 0
theorem cb_is : ∀ (o : Fin 2) (k : Fin 8), floatBits .quo .f64 one (sg (k.val + 1) (FB (2 * (k.val + 1) + o.val))) = some (CB o.val (k.val + 1)) := by decide +kernel
theorem run_known {P : Program} {op : BinOp} {x y r : Nat} (h : floatBits op .f64 x y = some r) (t : TypeId) (w : World) : (binOp op t (.float .f64 x) (.float .f64 y)).run P w = .ok (.float .f64 r) w := run_float_arith w op t .f64 x y r h

def hor (z o : Nat) : Nat → FE
  | 0 => .num (CB o 8)
  | j + 1 => .op .add (.num (CB o (7 - j))) (.op .mul (.num z) (hor z o j))
def serE (z o : Nat) : FE := .op .add (.num one) (.op .mul (.num z) (hor z o 7))

def HeldF (p : Prop) : Prop := p
theorem hideF {p : Prop} (h : p) : HeldF p := h
theorem unhideF {p : Prop} (h : HeldF p) : p := h

theorem infoF : (Tryd.prog.info? 36).map (fun i => (i.zero, i.size, i.bytes)) = some (some (.float .f64 0), 1, 8) := by kernel_rfl
/-- the numbers of the series so far. -/
def coefs (o n : Nat) : List Value := (List.range n).map fun j => Value.float .f64 (CB o (j + 1))
theorem coefs_step (o n : Nat) : coefs o (n + 1) = coefs o n ++ [.float .f64 (CB o (n + 1))] := by
  unfold coefs; rw [List.range_succ, List.map_append]; rfl
theorem coefs_len (o n : Nat) : (coefs o n).length = n := by simp [coefs]

set_option maxHeartbeats 2000000 in
set_option maxRecDepth 8000 in
theorem series_any (z o : Nat) (w : World) (ho : o ≤ 1) :
    Calls Tryd.prog 63 #[.float .f64 z, .int .i64 o] w fun e w' => ∃ r, e = .returned (.float .f64 r) ∧ Ev (serE z o) r ∧ Below w.heap.size w w' := by
  obtain ⟨i0, hi, hz0, hz1, hz2⟩ := info_parts infoF
  go_enter Tryd.func63, Tryd.ntmps63
  go_wp2
  go_loopw [5, 6, 7, 8] (fun v x _ _ wr => ∃ n : Nat, n ≤ 8 ∧ x = .int .i64 ((n + 1 : Nat) : Int) ∧ wr.ownsRow w.heap.size 36 1 v n (coefs o n) ∧ Below w.heap.size w wr) (fun _ x _ _ _ => 10 - (RowKit.intOf x).toNat)
  case atStart => exact ⟨0, by omega, rfl, World.ownsRow_nil _ _ _ _, Below.refl _ _⟩
  case round =>
    obtain ⟨n, hn, rfl, hown, hb⟩ := hrel
    by_cases hlt : n < 8
    · go_wp2
      go_loop [7, 8] (fun f i => ∃ j : Nat, 2 ≤ j ∧ j ≤ 2 * (n + 1) + o + 1 ∧ i = .int .i64 j ∧ f = .float .f64 (FB (j - 1))) (fun _ i => 20 - (RowKit.intOf i).toNat)
      case atStart => exact ⟨2, by omega, by omega, rfl, by rw [fb_one]⟩
      case round =>
        obtain ⟨j, j1, j2, rfl, rfl⟩ := hrel
        by_cases hj : j ≤ 2 * (n + 1) + o
        · have hm := run_known (P := Tryd.prog) (by
            have := fb_step ⟨j - 2, by omega⟩
            simp only at this
            rw [show j - 2 + 1 = j - 1 by omega, show j - 2 + 2 = j by omega, show ((j - 2 : Nat) : Int) + 2 = (j : Int) by omega] at this
            exact this)
          go_wp2
          exact ⟨⟨j + 1, by omega, by omega, by go_num, rfl⟩, by simp [RowKit.intOf]; omega⟩
        · obtain rfl : j = 2 * (n + 1) + o + 1 := by omega
          have hcb := cb_is ⟨o, by omega⟩ ⟨n, hlt⟩
          simp only at hcb
          have hff : FB (2 * (n + 1) + o + 1 - 1) = FB (2 * (n + 1) + o) := by rw [show 2 * (n + 1) + o + 1 - 1 = 2 * (n + 1) + o by omega]
          rw [hff]
          clear hff
          generalize FB (2 * (n + 1) + o) = f at hcb
          have hst := coefs_step o n
          generalize CB o (n + 1) = cv at hcb hst
          have HST := hideF hst
          have hsz := hb.size
          clear hst
          by_cases hodd : (n + 1) % 2 = 1
          · have hq : floatBits .quo .f64 4607182418800017408 (Op.negFloat .f64 f) = some cv := by unfold sg at hcb; rw [if_pos hodd] at hcb; exact hcb
            have hi1 : ((n : Int) + 1) % 2 = 1 := by omega
            have hk := run_known (P := Tryd.prog) hq
            have hneg : ∀ x v, (Op.unary UnOp.neg (.float .f64 x)).run Tryd.prog v = .ok (.float .f64 (Op.negFloat .f64 x)) v := fun _ _ => rfl
            clear hq hcb
            go_wp2_with (first
              | (at_builtin; refine wpList_append_own _ rfl _ _ 69 rfl w.heap.size 36 i0 (.float .f64 0) 1 8 Tryd.underlying69 hi hz0 hz1 hz2 rfl (by decide) _ _ _ rfl (hown.alloc _) ⟨wr.heap.size, 0, none⟩ 1 1 [.float .f64 cv] rfl rfl ?p1 ?p2 ?p3 ?p4 ?p5 ?_))
            all_goals try (first | (show (Value.float _ _).oneCell' = true; rfl) | (unfold maxLen; omega) | omega)
            · intro v' w1' hown' hgrow _
              have hB : Below w.heap.size w w1' := (hb.alloc hsz _).grown hgrow (by simp; omega) (fun k e => (hown.lt k e).1)
              clear hgrow hown
              go_wp2
              go_roundw
              case rel => exact ⟨n + 1, by omega, by go_num, by rw [unhideF HST]; simpa using hown', hB⟩
              case measure => simp [RowKit.intOf]; omega
          · have hq : floatBits .quo .f64 4607182418800017408 f = some cv := by unfold sg at hcb; rw [if_neg hodd] at hcb; exact hcb
            have hi1 : ¬ ((n : Int) + 1) % 2 = 1 := by omega
            have hk := run_known (P := Tryd.prog) hq
            clear hq hcb
            go_wp2_with (first
              | (at_builtin; refine wpList_append_own _ rfl _ _ 69 rfl w.heap.size 36 i0 (.float .f64 0) 1 8 Tryd.underlying69 hi hz0 hz1 hz2 rfl (by decide) _ _ _ rfl (hown.alloc _) ⟨wr.heap.size, 0, none⟩ 1 1 [.float .f64 cv] rfl rfl ?q1 ?q2 ?q3 ?q4 ?q5 ?_))
            all_goals try (first | (show (Value.float _ _).oneCell' = true; rfl) | (unfold maxLen; omega) | omega)
            · intro v' w1' hown' hgrow _
              have hB : Below w.heap.size w w1' := (hb.alloc hsz _).grown hgrow (by simp; omega) (fun k e => (hown.lt k e).1)
              clear hgrow hown
              go_wp2
              go_roundw
              case rel => exact ⟨n + 1, by omega, by go_num, by rw [unhideF HST]; simpa using hown', hB⟩
              case measure => simp [RowKit.intOf]; omega
    · obtain rfl : n = 8 := by omega
      rcases hown.2 with ⟨_, h2⟩ | ⟨g, cap, cur, h1, _⟩
      · cases h2
      subst h1
      have cells : ∀ i, i < 8 → wr.cell? ⟨g, i, none⟩ = some (.float .f64 (CB o (i + 1))) := fun i hi8 => by
        rw [hown.cellAt i (by omega)]
        simp [coefs, hi8]
      have c7 := cells 7 (by omega)
      have hsz := hb.size
      have e0 := cells 0 (by omega)
      have e1 := cells 1 (by omega)
      have e2 := cells 2 (by omega)
      have e3 := cells 3 (by omega)
      have e4 := cells 4 (by omega)
      have e5 := cells 5 (by omega)
      have e6 := cells 6 (by omega)
      clear hown cells
      have HB := hideF hb
      clear hb
      go_wp2
      have hm := fun t x y v => run_fmul (P := Tryd.prog) t x y v
      have hp := fun t x y v => run_fadd (P := Tryd.prog) t x y v
      go_loopw [9, 10, 11] (fun s k _ wl => ∃ (j : Nat) (r n : Nat), j ≤ 7 ∧ s = .float .f64 r ∧ k = .int .i64 (6 - (j : Int)) ∧ Ev (hor z o j) r ∧ wl = wr.drewN n) (fun _ k _ _ => (RowKit.intOf k + 1).toNat)
      case atStart => exact ⟨0, CB o 8, 0, by omega, rfl, rfl, .num _, rfl⟩
      case round =>
        obtain ⟨j, r, n, hj, rfl, rfl, hev, rfl⟩ := hrel
        have HEV := hideF hev
        clear hev
        have hjj : j = 0 ∨ j = 1 ∨ j = 2 ∨ j = 3 ∨ j = 4 ∨ j = 5 ∨ j = 6 ∨ j = 7 := by omega
        rcases hjj with rfl | rfl | rfl | rfl | rfl | rfl | rfl | rfl
        · go_wp2
          exact ⟨⟨1, _, _, by omega, rfl, rfl, .op (.num _) (.op (.num _) (unhideF HEV) (fnum_is _ _ _ _)) (fnum_is _ _ _ _), rfl⟩, by decide⟩
        · go_wp2
          exact ⟨⟨2, _, _, by omega, rfl, rfl, .op (.num _) (.op (.num _) (unhideF HEV) (fnum_is _ _ _ _)) (fnum_is _ _ _ _), rfl⟩, by decide⟩
        · go_wp2
          exact ⟨⟨3, _, _, by omega, rfl, rfl, .op (.num _) (.op (.num _) (unhideF HEV) (fnum_is _ _ _ _)) (fnum_is _ _ _ _), rfl⟩, by decide⟩
        · go_wp2
          exact ⟨⟨4, _, _, by omega, rfl, rfl, .op (.num _) (.op (.num _) (unhideF HEV) (fnum_is _ _ _ _)) (fnum_is _ _ _ _), rfl⟩, by decide⟩
        · go_wp2
          exact ⟨⟨5, _, _, by omega, rfl, rfl, .op (.num _) (.op (.num _) (unhideF HEV) (fnum_is _ _ _ _)) (fnum_is _ _ _ _), rfl⟩, by decide⟩
        · go_wp2
          exact ⟨⟨6, _, _, by omega, rfl, rfl, .op (.num _) (.op (.num _) (unhideF HEV) (fnum_is _ _ _ _)) (fnum_is _ _ _ _), rfl⟩, by decide⟩
        · go_wp2
          exact ⟨⟨7, _, _, by omega, rfl, rfl, .op (.num _) (.op (.num _) (unhideF HEV) (fnum_is _ _ _ _)) (fnum_is _ _ _ _), rfl⟩, by decide⟩
        · go_wp2
          go_ret
          exact ⟨_, rfl, .op (.num _) (.op (.num _) (unhideF HEV) (fnum_is _ _ _ _)) (fnum_is _ _ _ _), below_drewN (unhideF HB) _⟩
end Go.Proofs.YtngdemhhcablmakDoor
