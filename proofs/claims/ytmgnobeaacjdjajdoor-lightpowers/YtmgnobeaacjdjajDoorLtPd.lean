/-
  The program's Power, by contract.
-/
import Derived.Test.YtmgnobeaacjdjajDoorLtPd3
import Derived.Test.YtmgnobeaacjdjajDoorLtPd4
namespace Go.Proofs.YtmgnobeaacjdjajDoor
open Go Go.RowKit

set_option maxRecDepth 100000 in
set_option maxHeartbeats 3200000 in
theorem power_ok (a : Nat → Addr) : PowerOK a := by
  intro w a1 a2 c1 c2 T L step fr many hS hT hL hl1 hl2
  have x4 := hS.g4
  have x1 := hS.g1
  have HS : HeldR (∀ u, Below w.heap.size w u → Sents u a) := hideR (fun u k => hS.below k (Nat.le_refl _))
  have hcf := fun (q : T.length ≤ 9223372036854775806) u (k : Below w.heap.size w u) => containsFast_any (cap := c1) (hT.below k) q
  have HT : HeldR (∀ u, Below w.heap.size w u → ICame u a1 T) := hideR (fun u k => hT.below k)
  have HL : HeldR (∀ u, Below w.heap.size w u → FCame u a2 L) := hideR (fun u k => hL.below k)
  have HBad : HeldR (powE T L.length step fr many = 5 → ∀ u, Below w.heap.size w u → PwPost a T L step fr many w (.returned (.tuple #[.slice none 0 0, .iface 165 (.pointer (some (a 4)))])) u) := hideR (fun hE u k => pd_none (by rw [hE]; exact err_at 4 (by decide)) (by rw [hE]; decide) k)
  have HMany : HeldR (powE T L.length step fr many = 2 → ∀ u, Below w.heap.size w u → PwPost a T L step fr many w (.returned (.tuple #[.slice none 0 0, .iface 165 (.pointer (some (a 1)))])) u) := hideR (fun hE u k => pd_none (by rw [hE]; exact err_at 1 (by decide)) (by rw [hE]; decide) k)
  have HFin : HeldR (powE T L.length step fr many = 0 → ∀ (X : List Nat) g u, PwK T L step fr T.length many.toNat X many.toNat → FCame u (some ⟨g, 0, none⟩) X → Below w.heap.size w u → PwPost a T L step fr many w (.returned (.tuple #[.slice (some ⟨g, 0, none⟩) many.toNat many.toNat, .nilIface])) u) := hideR (fun hE X g u hp hc k => ⟨X, _, many.toNat, .nilIface, by rw [hp.len], by rw [hE]; exact .inl ⟨rfl, rfl⟩, fun q => absurd hE q, fun _ => ⟨hp.len, fun j hj => hp.is j hj⟩, hc, k⟩)
  have HE5 : HeldR (T.length ≠ L.length ∨ T.length = 0 → powE T L.length step fr many = 5) := hideR (fun q => by unfold powE; rw [if_pos q])
  have HE2 : HeldR (¬ (T.length ≠ L.length ∨ T.length = 0) → powBad T step fr many → powE T L.length step fr many = 2) := hideR (fun q q2 => by unfold powE; rw [if_neg q, if_pos q2])
  have HE0 : HeldR (¬ (T.length ≠ L.length ∨ T.length = 0) → ¬ powBad T step fr many → powE T L.length step fr many = 0) := hideR (fun q q2 => by unfold powE; rw [if_neg q, if_neg q2])
  have HPb : HeldR (∀ q : Bool, badT T T.length = q → (powBad T step fr many ↔ 4000 < T.length ∨ many < 1 ∨ 4000 < many ∨ (largeB step || q) = true ∨ largeB fr = true)) := hideR (fun q h => by unfold powBad; rw [h])
  obtain ⟨nT, hnT⟩ : ∃ nT, T.length = nT := ⟨_, rfl⟩
  obtain ⟨nL, hnL⟩ : ∃ nL, L.length = nL := ⟨_, rfl⟩
  rw [hnT] at hl1 hcf HFin HE5 HE2 HE0 HPb ⊢
  rw [hnL] at hl2 HE5 HE2 HE0 HBad HMany HFin ⊢
  have HnT := hideR hnT
  have HnL := hideR hnL
  have HB0 := hideR (Below.refl w.heap.size w)
  clear hS hT hL hnT hnL
  by_cases e0 : nT = nL
  case neg =>
    have t0 : ((nT : Int) != (nL : Int)) = true := by simp; omega
    have t0n : (nT != nL) = true := by simp; omega
    have HR := hideR (unhideR HBad (unhideR HE5 (.inl e0)))
    clear HE5 HE2 HE0 HBad HMany HFin hcf e0
    go_enter Tryd.func13, Tryd.ntmps13
    go_wp2
    go_quiet (fail)
    go_wp2
    go_ret2
    exact unhideR HR _ (drew_below _ _ (unhideR HB0))
  case pos =>
  subst e0
  have t0 : ((nT : Int) != (nT : Int)) = false := by simp
  have t0n : (nT != nT) = false := by simp
  by_cases z0 : nT = 0
  · have t1 : ((nT : Int) == 0) = true := by simp; omega
    have t1n : (nT == 0) = true := by simp; omega
    have HR := hideR (unhideR HBad (unhideR HE5 (.inr z0)))
    clear HE5 HE2 HE0 HBad HMany HFin hcf z0
    go_enter Tryd.func13, Tryd.ntmps13
    go_wp2
    go_quiet (fail)
    go_wp2
    go_ret2
    exact unhideR HR _ (drew_below _ _ (unhideR HB0))
  have t1 : ((nT : Int) == 0) = false := by simp; omega
  have t1n : (nT == 0) = false := by simp; omega
  have hno : ¬ (nT ≠ nT ∨ nT = 0) := fun q => q.elim (fun q => q rfl) z0
  have HMany' := hideR (fun (q : powBad T step fr many) => unhideR HMany (unhideR HE2 hno q))
  have HFin' := hideR (fun (q : ¬ powBad T step fr many) => unhideR HFin (unhideR HE0 hno q))
  clear HE5 HE2 HE0 HBad HMany HFin z0 hno
  obtain ⟨bt, hbt⟩ : ∃ q, badT T nT = q := ⟨_, rfl⟩
  rw [hbt] at hcf
  have HPb' := hideR (unhideR HPb bt hbt)
  clear hbt HPb
  by_cases e1 : 4000 < nT
  · have t2 : decide ((4000 : Int) < (nT : Int)) = true := decide_eq_true (by omega)
    have t2n : decide (4000 < nT) = true := decide_eq_true e1
    have HR := hideR (unhideR HMany' ((unhideR HPb').2 (.inl e1)))
    clear HMany' HFin' hcf
    go_enter Tryd.func13, Tryd.ntmps13
    go_wp2
    go_quiet (fail)
    go_wp2
    go_ret2
    exact unhideR HR _ (drew_below _ _ (unhideR HB0))
  have t2 : decide ((4000 : Int) < (nT : Int)) = false := decide_eq_false (by omega)
  have t2n : decide (4000 < nT) = false := decide_eq_false e1
  by_cases e2 : many < 1
  · have t3 : decide (many < 1) = true := decide_eq_true e2
    have HR := hideR (unhideR HMany' ((unhideR HPb').2 (.inr (.inl e2))))
    clear HMany' HFin' hcf
    go_enter Tryd.func13, Tryd.ntmps13
    go_wp2
    go_quiet (fail)
    go_wp2
    go_ret2
    exact unhideR HR _ (drew_below _ _ (unhideR HB0))
  have t3 : decide (many < 1) = false := decide_eq_false e2
  by_cases e3 : 4000 < many
  · have t4 : decide (4000 < many) = true := decide_eq_true e3
    have HR := hideR (unhideR HMany' ((unhideR HPb').2 (.inr (.inr (.inl e3)))))
    clear HMany' HFin' hcf
    go_enter Tryd.func13, Tryd.ntmps13
    go_wp2
    go_quiet (fail)
    go_wp2
    go_ret2
    exact unhideR HR _ (drew_below _ _ (unhideR HB0))
  have t4 : decide (4000 < many) = false := decide_eq_false e3
  have hf1 := fun u => isFast_any step u
  have hf2 := fun u => isFast_any fr u
  have hcf' := hcf (by omega) w (Below.refl _ _)
  clear hcf
  cases e4 : largeB step with
  | true =>
    have HR := hideR (unhideR HMany' ((unhideR HPb').2 (.inr (.inr (.inr (.inl (by rw [e4]; rfl)))))))
    rw [e4] at hf1
    clear HMany' HFin' hcf' hf2
    go_enter Tryd.func13, Tryd.ntmps13
    go_wp2_with fail
    refine (hf1 _).mono ?_
    rintro e u ⟨rfl, rfl⟩
    go_wp2
    go_quiet (fail)
    go_wp2
    go_ret2
    exact unhideR HR _ (drew_below _ _ (unhideR HB0))
  | false =>
  rw [e4] at hf1
  cases e5 : largeB fr with
  | true =>
    have HR := hideR (unhideR HMany' ((unhideR HPb').2 (.inr (.inr (.inr (.inr e5))))))
    rw [e5] at hf2
    clear HMany' HFin' hcf'
    go_enter Tryd.func13, Tryd.ntmps13
    go_wp2_with fail
    refine (hf1 _).mono ?_
    rintro e u ⟨rfl, rfl⟩
    go_wp2_with fail
    refine (hf2 _).mono ?_
    rintro e u ⟨rfl, rfl⟩
    go_wp2
    go_quiet (fail)
    go_wp2
    go_ret2
    exact unhideR HR _ (drew_below _ _ (unhideR HB0))
  | false =>
  rw [e5] at hf2
  cases bt with
  | true =>
    have HR := hideR (unhideR HMany' ((unhideR HPb').2 (.inr (.inr (.inr (.inl (by simp)))))))
    clear HMany' HFin' HPb'
    go_enter Tryd.func13, Tryd.ntmps13
    go_wp2_with fail
    refine (hf1 _).mono ?_
    rintro e u ⟨rfl, rfl⟩
    go_wp2_with fail
    refine (hf2 _).mono ?_
    rintro e u ⟨rfl, rfl⟩
    go_wp2_with fail
    refine hcf'.mono ?_
    rintro e u ⟨rfl, rfl⟩
    go_wp2
    go_quiet (fail)
    go_wp2
    go_ret2
    exact unhideR HR _ (drew_below _ _ (unhideR HB0))
  | false =>
  have hnb : ¬ powBad T step fr many := fun q => by
    rcases (unhideR HPb').1 q with q | q | q | q | q
    · omega
    · omega
    · omega
    · rw [e4] at q; cases q
    · rw [e5] at q; cases q
  have HFin := hideR (unhideR HFin' hnb)
  obtain ⟨m, rfl⟩ : ∃ m : Nat, many = (m : Nat) := ⟨many.toNat, by omega⟩
  rw [Int.toNat_natCast] at HFin
  obtain ⟨wm, hmk, hown, hbw⟩ := make_zeroF (w := w) (n := m) w.heap.size (Nat.le_refl _) (by omega)
  have hs := large_no e4
  have hf := large_no e5
  have HO : HeldR (∃ X, PwK T L step fr nT m X 0 ∧ FlOwn wm w.heap.size (.slice (some ⟨w.heap.size, 0, none⟩) m m) X) := hideR ⟨_, ⟨List.length_replicate, fun j hj => absurd hj (Nat.not_lt_zero j)⟩, hown⟩
  have HBm := hideR hbw
  clear HMany' HFin' HPb' hnb e4 e5 hown hbw x4 x1
  go_enter Tryd.func13, Tryd.ntmps13
  go_wp2_with fail
  refine (hf1 _).mono ?_
  rintro e u ⟨rfl, rfl⟩
  go_wp2_with fail
  refine (hf2 _).mono ?_
  rintro e u ⟨rfl, rfl⟩
  go_wp2_with fail
  refine hcf'.mono ?_
  rintro e u ⟨rfl, rfl⟩
  clear hf1 hf2 hcf'
  go_wp2
  obtain ⟨g, hg⟩ : ∃ g, u.heap.size = g := ⟨_, rfl⟩
  have HG := hideR hg
  rw [hg] at HO ⊢
  clear hg hmk
  go_loopw [53] (fun iv wl => ∃ (k : Nat) (X : List Nat), k ≤ m ∧ iv = .int .i64 (k : Nat) ∧ HeldR (PwK T L step fr nT m X k) ∧ HeldR (FlOwn wl g (.slice (some ⟨g, 0, none⟩) m m) X) ∧ HeldR (Below u.heap.size u wl)) (fun iv _ => m + 1 - (intOf iv).toNat)
  case atStart =>
    obtain ⟨X, h1, h2⟩ := unhideR HO
    exact ⟨0, X, by omega, rfl, hideR h1, hideR h2, HBm⟩
  case round =>
    obtain ⟨k, X, hk, rfl, HP, HF, HB⟩ := hrel
    by_cases hlt : k < m
    · have tk : decide (k < m) = true := decide_eq_true hlt
      have jk : (k : Int) < (m : Int) := by omega
      have wk : IntKind.i64.wrap ((k : Int) + 1) = ((k + 1 : Nat) : Int) := by rw [show (k : Int) + 1 = ((k + 1 : Nat) : Int) by omega]; exact iwrap (by omega) (by omega)
      have hfit := step_fits (s := step) (f := fr) (k := (k : Int)) hs hf (by omega) (by omega)
      obtain ⟨wm1, wm2⟩ := hfit
      have hpw := powerOf_any (c1 := c1) (c2 := c2) (n := nT) (unhideR HT wr (unhideR HB)) (unhideR HL wr (unhideR HB)) (unhideR HnT) (unhideR HnL) (by omega) (fr + (k : Int) * step)
      have HNx : HeldR (∀ r, PwEnd T L (fr + (k : Int) * step) nT r → PwK T L step fr nT m (X.set k r) (k + 1)) := hideR (fun r hr => (unhideR HP).next hlt hr)
      have HLn := hideR (unhideR HP).len
      unfold PvPost at hpw
      obtain ⟨ks, hks⟩ : ∃ ks, (k : Int) * step = ks := ⟨_, rfl⟩
      have wm3 : IntKind.i64.wrap ((k : Int) * step) = ks := wm1.trans hks
      rw [hks] at hpw wm2 HNx
      obtain ⟨ws, hws⟩ : ∃ ws, fr + ks = ws := ⟨_, rfl⟩
      have wm4 : IntKind.i64.wrap (fr + ks) = ws := wm2.trans hws
      rw [hws] at hpw HNx
      clear hws hks HP wm1 wm2
      go_wp2_with fail
      refine hpw.mono ?_
      rintro e w3 ⟨r, rfl, hr, k3⟩
      have HP' := hideR (unhideR HNx r hr)
      have HF3 := hideR ((unhideR HF).below k3)
      have HB3 := hideR (below_go (unhideR HB) k3)
      obtain ⟨y1, y2⟩ := (unhideR HF3).has (unhideR HLn) hlt
      have HF4 := hideR ((unhideR HF3).put (unhideR HLn) k r)
      have HB4 : HeldR (Below u.heap.size u (w3.setCell ⟨g, k, none⟩ (.float .f64 r))) := hideR ((unhideR HB3).setCell (by rw [unhideR HG]; exact Nat.le_refl _) _)
      have hsf := fun w a x m => run_store Tryd.prog w a (.float .f64 x) m rfl
      generalize X.getD k 0 = old at *
      clear hpw hr k3 HNx HF HB HF3 HB3 HLn
      go_wp2
      exact ⟨⟨k + 1, _, by omega, by first | rfl | go_num, HP', HF4, HB4⟩, by simp [intOf]; omega⟩
    · obtain rfl : k = m := by omega
      have tk : decide (k < k) = false := decide_eq_false hlt
      have HR := hideR (unhideR HFin X g wr (unhideR HP) ((unhideR HF).row (unhideR HP).len) (unhideR HB))
      clear HFin HP HF HB HO
      go_wp2
      go_ret2
      exact unhideR HR
end Go.Proofs.YtmgnobeaacjdjajDoor
