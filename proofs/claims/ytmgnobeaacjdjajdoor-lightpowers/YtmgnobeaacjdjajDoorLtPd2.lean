/-
  The program's power of a wave, by contract.
-/
import Derived.Test.YtmgnobeaacjdjajDoorLtPo
import Derived.Test.YtmgnobeaacjdjajDoorLtPd1
import Derived.Test.YtmgnobeaacjdjajDoorDSin
import Derived.Test.YtmgnobeaacjdjajDoorLooseA
import Derived.Laws.ComplexArith
import Derived.Deep.CutRange
namespace Go.Proofs.YtmgnobeaacjdjajDoor
open Go Go.RowKit

/-- a product; a product turned round; the two as one number; the sum behind it. -/
def Pr (a b : Nat) (v : Value) : Prop := ∃ x, v = .float .f64 x ∧ FOp .mul a b x
def Ng (a b : Nat) (v : Value) : Prop := ∃ y, v = .float .f64 (ngB y) ∧ FOp .mul a b y
def Cx (a c s : Nat) (v : Value) : Prop := ∃ x y, v = .complex .f64 x (ngB y) ∧ FOp .mul a c x ∧ FOp .mul a s y
def Cs (re im a c s : Nat) (v : Value) : Prop := ∃ re' im', v = .complex .f64 re' im' ∧ ∃ x y, FOp .mul a c x ∧ FOp .mul a s y ∧ FOp .add re x re' ∧ FOp .add im (ngB y) im'
theorem fop_some (op : BinOp) (a b : Nat) : ∃ r, FOp op a b r := ⟨_, fnum_is op a b default⟩
theorem pr_some (a b : Nat) : ∃ v, Pr a b v := by
  obtain ⟨x, hx⟩ := fop_some .mul a b
  exact ⟨_, x, rfl, hx⟩
theorem ng_some (a b : Nat) : ∃ v, Ng a b v := by
  obtain ⟨x, hx⟩ := fop_some .mul a b
  exact ⟨_, x, rfl, hx⟩
theorem cx_some (a c s : Nat) : ∃ v, Cx a c s v := by
  obtain ⟨x, hx⟩ := fop_some .mul a c
  obtain ⟨y, hy⟩ := fop_some .mul a s
  exact ⟨_, x, y, rfl, hx, hy⟩
theorem cs_some (re im a c s : Nat) : ∃ v, Cs re im a c s v := by
  obtain ⟨x, hx⟩ := fop_some .mul a c
  obtain ⟨y, hy⟩ := fop_some .mul a s
  obtain ⟨r, hr⟩ := fop_some .add re x
  obtain ⟨m, hm⟩ := fop_some .add im (ngB y)
  exact ⟨_, r, m, rfl, x, y, hx, hy, hr, hm⟩
theorem run_farith {P : Program} (op : BinOp) (x y : Nat) (w : World) (h : isFour op) : (Op.floatArith op .f64 x y).run P w = .ok (.float .f64 (fnum op x y w)) (w.drewN (fdraw op x y)) := by
  have := run_float (P := P) op 0 x y w h
  rcases h with rfl | rfl | rfl | rfl <;> exact this
/-- two numbers of two parts, together. -/
theorem run_cadd {P : Program} (t : TypeId) (a b c d : Nat) (w : World) : (binOp .add t (.complex .f64 a b) (.complex .f64 c d)).run P w = .ok (.complex .f64 (fnum .add a c w) (fnum .add b d (w.drewN (fdraw .add a c)))) ((w.drewN (fdraw .add a c)).drewN (fdraw .add b d)) := by
  simp [binOp, Op.complexOp, Op.Complex.arith, run_farith .add _ _ _ fl_add]
theorem cs_is {P : Program} {re im a c s x y : Nat} {v : World} {t : TypeId} (hx : FOp .mul a c x) (hy : FOp .mul a s y) : mUpon P (Cs re im a c s) v ((Sem.run P (binOp .add t (.complex .f64 re im) (.complex .f64 x (ngB y))) v).andThen fun v w' => .ok (.value v) w') := by
  rw [run_cadd]
  exact ⟨below_go (drawn_below v _) (drawn_below _ _), _, _, rfl, x, y, hx, hy, fnum_is _ _ _ _, fnum_is _ _ _ _⟩
def PvPost (T : List Int) (L : List Nat) (wv : Int) (n : Nat) (w : World) (e : Ending) (w' : World) : Prop := ∃ r, e = .returned (.float .f64 r) ∧ PwEnd T L wv n r ∧ Below w.heap.size w w'
set_option maxRecDepth 100000 in
set_option maxHeartbeats 3200000 in
theorem powerOf_any {w : World} {a1 a2 : Option Addr} {c1 c2 n : Nat} {T : List Int} {L : List Nat} (hT : ICame w a1 T) (hL : FCame w a2 L) (l1 : T.length = n) (l2 : L.length = n) (hn : n ≤ 100000) (wv : Int) :
    Calls Tryd.prog 36 #[.int .i64 wv, .slice a1 n c1, .slice a2 n c2] w (PvPost T L wv n w) := by
  have HT : HeldR (∀ u, Below w.heap.size w u → ICame u a1 T) := hideR (fun u k => hT.below k)
  have HL : HeldR (∀ u, Below w.heap.size w u → FCame u a2 L) := hideR (fun u k => hL.below k)
  have H1 := hideR l1
  have H2 := hideR l2
  have hmf := fun t x y v => run_fmul (P := Tryd.prog) t x y v
  have hneg : ∀ x v, (Op.unary UnOp.neg (.float .f64 x)).run Tryd.prog v = .ok (.float .f64 (ngB x)) v := fun _ _ => rfl
  clear hT hL l1 l2
  go_enter Tryd.func36, Tryd.ntmps36
  go_wp2
  go_loopw [7, 13] (fun xv iv wl => ∃ (k re im : Nat), k ≤ n ∧ iv = .int .i64 (k : Nat) ∧ xv = .complex .f64 re im ∧ HeldR (PwR T L wv k re im) ∧ HeldR (Below w.heap.size w wl)) (fun _ iv _ => n + 1 - (intOf iv).toNat)
  case atStart => exact ⟨0, 0, 0, by omega, rfl, rfl, hideR .zero, hideR (Below.refl _ _)⟩
  case round =>
    obtain ⟨k, re, im, hk, rfl, rfl, HP, HB⟩ := hrel
    by_cases hlt : k < n
    · have tk : decide (k < n) = true := decide_eq_true hlt
      have jk : (k : Int) < (n : Int) := by omega
      have wk : IntKind.i64.wrap ((k : Int) + 1) = ((k + 1 : Nat) : Int) := by rw [show (k : Int) + 1 = ((k + 1 : Nat) : Int) by omega]; exact iwrap (by omega) (by omega)
      obtain ⟨b1, o1, rfl, _, x1⟩ := (unhideR HT wr (unhideR HB)).at_ k (by rw [unhideR H1]; exact hlt)
      have HNx : HeldR (∀ {x y re' im' : Nat}, FOp .mul (L.getD k 0) (cosV (nrm (wv * T.getD k 0))) x → FOp .mul (L.getD k 0) (sinV (nrm (wv * T.getD k 0))) y → FOp .add re x re' → FOp .add im (ngB y) im' → PwR T L wv (k + 1) re' im') := hideR (fun h1 h2 h3 h4 => .next (unhideR HP) h1 h2 h3 h4)
      have hat := turned_any wv (T.getD k 0) wr
      obtain ⟨an, han⟩ : ∃ an, nrm (wv * T.getD k 0) = an := ⟨_, rfl⟩
      rw [han] at hat HNx
      generalize T.getD k 0 = tt at *
      have hco := fun u => cos_any an u
      have hsi := fun u => sin_any an u
      generalize sinV an = sv at *
      generalize cosV an = cv at *
      clear han
      go_wp2_with fail
      refine hat.mono ?_
      rintro e w3 ⟨rfl, k3⟩
      have HB3 := hideR (below_go (unhideR HB) k3)
      obtain ⟨b2, o2, rfl, _, _⟩ := (unhideR HL w3 (unhideR HB3)).at_ k (by rw [unhideR H2]; exact hlt)
      have HLb : HeldR (∀ v, Below w3.heap.size w3 v → FCame v (some ⟨b2, o2, none⟩) L) := hideR (fun v hv => unhideR HL v (below_go (unhideR HB3) hv))
      obtain ⟨lv, hlv⟩ : ∃ lv, L.getD k 0 = lv := ⟨_, rfl⟩
      rw [hlv] at HNx
      clear hat k3 HB x1 HP
      go_upto_region 6 with fail
      refine wp_region_made 0 #[true, true, true, true, true, true, true, true, true, true, true, true, true, true, true, true, true, true, false] [.lets (· = .complex .f64 re im),
        .lets (· = .slice (some ⟨b2, o2, none⟩) n c2),
        .lets (· = .int .i64 (k : Nat)),
        .lets (· = .pointer (some ⟨b2, o2 + k, none⟩)),
        .lets (· = .float .f64 lv),
        .lets (· = .int .i64 an),
        .lets (· = .float .f64 cv),
        .lets (Pr lv cv),
        .lets (· = .slice (some ⟨b2, o2, none⟩) n c2),
        .lets (· = .int .i64 (k : Nat)),
        .lets (· = .pointer (some ⟨b2, o2 + k, none⟩)),
        .lets (· = .float .f64 lv),
        .lets (· = .int .i64 an),
        .lets (· = .float .f64 sv),
        .lets (Pr lv sv),
        .lets (Ng lv sv),
        .lets (Cx lv cv sv),
        .lets (Cs re im lv cv sv)] [] [] (by kernel_rfl) (by kernel_rfl) rfl ?kinds (by kernel_rfl) (by kernel_rfl) (by kernel_rfl) ?_
      case kinds =>
        constructor
        · intro i h
          rcases i with _ | _ | _ | _ | _ | _ | _ | _ | _ | _ | _ | _ | _ | _ | _ | _ | _ | _ | i <;> simp [Kx.isMade] at h
        · intro i h
          rcases i with _ | _ | _ | _ | _ | _ | _ | _ | _ | _ | _ | _ | _ | _ | _ | _ | _ | _ | i <;> simp [Kx.isUse] at h
      refine lexX_step (fun K hK => ⟨by kernel_rfl, ⟨_, rfl⟩, fun v hv => ?_, fun v hv => ?_⟩)
      · go_simp
        exact mUpon_b
      subst hv
      go_simp
      refine hK _ ?_
      clear hK K
      refine lexX_step (fun K hK => ⟨by kernel_rfl, ⟨_, rfl⟩, fun v hv => ?_, fun v hv => ?_⟩)
      · go_simp
        exact mUpon_b
      subst hv
      go_simp
      refine hK _ ?_
      clear hK K
      refine lexX_step (fun K hK => ⟨by kernel_rfl, ⟨_, rfl⟩, fun v hv => ?_, fun v hv => ?_⟩)
      · go_simp
        exact mUpon_b
      subst hv
      go_simp
      refine hK _ ?_
      clear hK K
      refine lexX_step (fun K hK => ⟨by kernel_rfl, ⟨_, rfl⟩, fun v hv => ?_, fun v hv => ?_⟩)
      · go_simp
        exact mUpon_b
      subst hv
      go_simp
      refine hK _ ?_
      clear hK K
      refine lexX_step (fun K hK => ⟨by kernel_rfl, ⟨_, rfl⟩, fun v hv => ?_, fun v hv => ?_⟩)
      · obtain ⟨b9, o9, e9, _, x9⟩ := (unhideR HLb v hv).at_ k (by rw [unhideR H2]; exact hlt)
        cases e9
        rw [hlv] at x9
        go_simp
        exact mUpon_b
      subst hv
      go_simp
      refine hK _ ?_
      clear hK K
      refine lexX_step (fun K hK => ⟨by kernel_rfl, ⟨_, rfl⟩, fun v hv => ?_, fun v hv => ?_⟩)
      · go_simp
        exact mUpon_b
      subst hv
      go_simp
      refine hK _ ?_
      clear hK K
      refine lexX_step (fun K hK => ⟨by kernel_rfl, ⟨_, rfl⟩, fun v hv => ?_, fun v hv => ?_⟩)
      · go_simp
        refine (hco _).mono ?_
        rintro e w9 ⟨rfl, k⟩
        exact ⟨_, rfl, rfl, k⟩
      subst hv
      go_simp
      refine hK _ ?_
      clear hK K
      refine lexX_step (fun K hK => ⟨by kernel_rfl, pr_some _ _, fun v hv => ?_, fun v hv => ?_⟩)
      · go_simp
        exact ⟨drawn_below _ _, _, rfl, fnum_is _ _ _ _⟩
      obtain ⟨x, rfl, hx⟩ := hv
      go_simp
      refine hK _ ?_
      clear hK K
      refine lexX_step (fun K hK => ⟨by kernel_rfl, ⟨_, rfl⟩, fun v hv => ?_, fun v hv => ?_⟩)
      · go_simp
        exact mUpon_b
      subst hv
      go_simp
      refine hK _ ?_
      clear hK K
      refine lexX_step (fun K hK => ⟨by kernel_rfl, ⟨_, rfl⟩, fun v hv => ?_, fun v hv => ?_⟩)
      · go_simp
        exact mUpon_b
      subst hv
      go_simp
      refine hK _ ?_
      clear hK K
      refine lexX_step (fun K hK => ⟨by kernel_rfl, ⟨_, rfl⟩, fun v hv => ?_, fun v hv => ?_⟩)
      · go_simp
        exact mUpon_b
      subst hv
      go_simp
      refine hK _ ?_
      clear hK K
      refine lexX_step (fun K hK => ⟨by kernel_rfl, ⟨_, rfl⟩, fun v hv => ?_, fun v hv => ?_⟩)
      · obtain ⟨b9, o9, e9, _, x9⟩ := (unhideR HLb v hv).at_ k (by rw [unhideR H2]; exact hlt)
        cases e9
        rw [hlv] at x9
        go_simp
        exact mUpon_b
      subst hv
      go_simp
      refine hK _ ?_
      clear hK K
      refine lexX_step (fun K hK => ⟨by kernel_rfl, ⟨_, rfl⟩, fun v hv => ?_, fun v hv => ?_⟩)
      · go_simp
        exact mUpon_b
      subst hv
      go_simp
      refine hK _ ?_
      clear hK K
      refine lexX_step (fun K hK => ⟨by kernel_rfl, ⟨_, rfl⟩, fun v hv => ?_, fun v hv => ?_⟩)
      · go_simp
        refine (hsi _).mono ?_
        rintro e w9 ⟨rfl, k⟩
        exact ⟨_, rfl, rfl, k⟩
      subst hv
      go_simp
      refine hK _ ?_
      clear hK K
      refine lexX_step (fun K hK => ⟨by kernel_rfl, pr_some _ _, fun v hv => ?_, fun v hv => ?_⟩)
      · go_simp
        exact ⟨drawn_below _ _, _, rfl, fnum_is _ _ _ _⟩
      obtain ⟨y, rfl, hy⟩ := hv
      go_simp
      refine hK _ ?_
      clear hK K
      refine lexX_step (fun K hK => ⟨by kernel_rfl, ng_some _ _, fun v hv => ?_, fun v hv => ?_⟩)
      · go_simp
        exact ⟨Below.refl _ _, _, rfl, hy⟩
      obtain ⟨y2, rfl, hy2⟩ := hv
      go_simp
      refine hK _ ?_
      clear hK K
      refine lexX_step (fun K hK => ⟨by kernel_rfl, cx_some _ _ _, fun v hv => ?_, fun v hv => ?_⟩)
      · go_simp
        exact ⟨Below.refl _ _, _, _, rfl, hx, hy2⟩
      obtain ⟨x3, y3, rfl, hx3, hy3⟩ := hv
      go_simp
      refine hK _ ?_
      clear hK K
      refine lexX_step (fun K hK => ⟨by kernel_rfl, cs_some _ _ _ _ _, fun v hv => ?_, fun v hv => ?_⟩)
      · go_simp
        exact cs_is hx3 hy3
      obtain ⟨re2, im2, rfl, hx4⟩ := hv
      go_simp
      refine hK _ ?_
      clear hK K
      refine lexX_end (fun v5 hv => ?_)
      have K5 := hv.low
      clear hv hx hy hy2 hx3 hy3
      refine wpAny_step (i := 18) (by kernel_rfl) rfl (by kernel_rfl) (fun K hK => ?_)
      unfold Oper.wp
      go_simp
      refine hK _ _ ?_
      clear hK K
      refine wpAny_end (by kernel_rfl) ?_
      obtain ⟨x8, y8, h1, h2, h3, h4⟩ := hx4
      have HP' := hideR (unhideR HNx h1 h2 h3 h4)
      have HB4 := hideR (below_go (unhideR HB3) K5)
      clear h1 h2 h3 h4 HB3 HNx hlv hco hsi K5
      go_wp2
      exact ⟨⟨k + 1, _, _, by omega, by first | rfl | go_num, rfl, HP', HB4⟩, by simp [intOf]; omega⟩
    · obtain rfl : k = n := by omega
      have tk : decide (k < k) = false := decide_eq_false hlt
      clear hmf hneg
      go_wp2_with fail
      refine upon_flt fl_mul ?_
      intro p n1 hp
      go_wp2_with fail
      refine upon_flt fl_mul ?_
      intro q n2 hq
      go_wp2_with fail
      refine upon_flt fl_add ?_
      intro r n3 hr
      have HF : HeldR (∀ u, Below w.heap.size w u → PvPost T L wv k w (.returned (.float .f64 r)) u) := hideR (fun u h3 => ⟨r, rfl, ⟨re, im, p, q, unhideR HP, hp, hq, hr⟩, h3⟩)
      have HB4 := hideR (below_go (unhideR HB) (drawn_below wr (n1 + n2 + n3)))
      clear hp hq hr HP
      go_wp2
      go_ret
      exact unhideR HF _ (unhideR HB4)
end Go.Proofs.YtmgnobeaacjdjajDoor
