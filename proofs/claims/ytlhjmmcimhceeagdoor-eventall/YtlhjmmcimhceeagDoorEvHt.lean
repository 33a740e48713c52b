/-
  How high a track is: the document's, by contract.
-/
import Derived.Test.YtlhjmmcimhceeagDoorEvRef
import Derived.Test.YtlhjmmcimhceeagDoorEvFl
namespace Go.Proofs.YtlhjmmcimhceeagDoor
open Go Go.RowKit

theorem floor_in {a d c : Int} (hc : 0 < c) (h0 : 0 ≤ d) (h1 : d ≤ c) {A : Int} (ha1 : -A ≤ a) (ha2 : a ≤ A) (hA : 0 ≤ A) : -A ≤ a * d / c ∧ a * d / c ≤ A := by
  have k1 : a * d ≤ A * c := Int.le_trans (Int.mul_le_mul_of_nonneg_right ha2 h0) (Int.mul_le_mul_of_nonneg_left h1 hA)
  have k2 : -A * c ≤ a * d := Int.le_trans (by rw [Int.neg_mul, Int.neg_mul]; have := Int.mul_le_mul_of_nonneg_left h1 hA; omega) (Int.mul_le_mul_of_nonneg_right ha1 h0)
  constructor
  · rw [Int.le_ediv_iff_mul_le hc]
    exact k2
  · have : a * d / c < A + 1 := by
      rw [Int.ediv_lt_iff_lt_mul hc, Int.add_mul]
      omega
    omega
theorem absI_le {a A : Int} (h1 : -A ≤ a) (h2 : a ≤ A) : absI a ≤ A := by
  unfold absI
  split <;> omega
set_option maxRecDepth 100000 in
set_option maxHeartbeats 1600000 in
theorem heightAt_any {w : World} {b off cap : Nat} {ad : Option Addr} {t : Tr} (h : TrP w b off ad cap t) (hl : t.L.length ≤ 9223372036854775807) (x : Int) :
    Calls Tryd.prog 28 #[.pointer (some ⟨b, off, none⟩), .int .i64 x] w fun e w' => e = .returned (.tuple #[.int .i64 (htV t x), .int .i64 (htE t x)]) ∧ Below w.heap.size w w' := by
  have hte := trackError_any h hl
  have HT := hideR h
  obtain ⟨hlt, cf, cs, cl, hrow⟩ := h
  have HR := hideR hrow
  clear hrow
  by_cases hE : trE t = 0
  · have hO := ok_of hE
    rw [hE] at hte
    have e1 : htE t x = if x < t.fr ∨ t.last < x then 3 else 0 := by
      unfold htE
      rw [if_neg (by rw [hE]; decide)]
    have n1 := hO.n1
    have n2 := hO.n2
    have s1 := hO.s1
    have s2 := hO.step
    have sp := hO.span
    have f1 := hO.f1
    have f2 := hO.f2
    have l1 := hO.l1
    have l2 := hO.l2
    have hpn : 0 ≤ ((t.L.length : Int) - 1) * t.st := Int.mul_nonneg (by omega) (by omega)
    have hw1 : IntKind.i64.wrap (((t.L.length : Int) - 1) * t.st) = ((t.L.length : Int) - 1) * t.st := iwrap (by omega) (by omega)
    have hw2 : IntKind.i64.wrap (t.fr + ((t.L.length : Int) - 1) * t.st) = t.fr + ((t.L.length : Int) - 1) * t.st := iwrap (by unfold Tr.last at l1; omega) (by unfold Tr.last at l2; omega)
    have hw3 : IntKind.i64.wrap ((t.L.length : Int) - 1) = (t.L.length : Int) - 1 := iwrap (by omega) (by omega)
    have HLA : HeldR (t.last = t.fr + ((t.L.length : Int) - 1) * t.st) := rfl
    by_cases hx : x < t.fr ∨ t.last < x
    · rw [if_pos hx] at e1
      have e2 : htV t x = 0 := by unfold htV; rw [if_neg (by rw [e1]; decide)]
      rw [e1, e2]
      have hx' : x < t.fr ∨ t.fr + ((t.L.length : Int) - 1) * t.st < x := by rw [← unhideR HLA]; exact hx
      clear e1 e2 hE hO hx HLA l1 l2
      go_enter Tryd.func28, Tryd.ntmps28
      go_wp2_with fail
      refine hte.mono ?_
      rintro e w1 ⟨rfl, rfl⟩
      rcases hx' with hx | hx
      · have d1 : decide (x < t.fr) = true := decide_eq_true hx
        clear hx
        go_wp2
        go_quiet (fail)
        go_wp2
        go_ret2
        exact ⟨rfl, drawn_below _ _⟩
      · by_cases hx2 : x < t.fr
        · exfalso
          omega
        · have d1 : decide (x < t.fr) = false := decide_eq_false hx2
          have d2 : decide (t.fr + ((t.L.length : Int) - 1) * t.st < x) = true := decide_eq_true hx
          go_wp2
          go_quiet (fail)
          go_wp2
          go_ret2
          exact ⟨rfl, drawn_below _ _⟩
    · rw [if_neg hx] at e1
      have e2 : htV t x = heightV t x := by unfold htV; rw [if_pos e1]
      rw [e1, e2]
      obtain ⟨i1, i2, r1, r2⟩ := idx_is hO (x := x) (by omega) (by omega)
      have hx1 : ¬ x < t.fr := by omega
      have hx2 : ¬ t.fr + ((t.L.length : Int) - 1) * t.st < x := by rw [← unhideR HLA]; omega
      have hx3 : x ≤ t.last := by omega
      have d1 : decide (x < t.fr) = false := decide_eq_false hx1
      have d2 : decide (t.fr + ((t.L.length : Int) - 1) * t.st < x) = false := decide_eq_false hx2
      have hw4 : IntKind.i64.wrap (x - t.fr) = x - t.fr := iwrap (by omega) (by omega)
      have hq : (x - t.fr).tdiv t.st = (idx t x : Int) := by
        rw [Int.tdiv_eq_ediv_of_nonneg (by omega)]
        exact i1
      have hw5 : IntKind.i64.wrap ((idx t x : Int)) = (idx t x : Int) := iwrap (by omega) (by omega)
      have hst0 : t.st ≠ 0 := by omega
      have hHV : heightV t x = if idx t x = t.L.length - 1 then t.h (idx t x) else t.h (idx t x) + (t.h (idx t x + 1) - t.h (idx t x)) * rest t x / t.st := rfl
      have hrs : rest t x = x - t.fr - (idx t x : Int) * t.st := rfl
      have ha := hO.at_ i2
      have HFL := hideR (flat_at hO.hs)
      clear hE hO hx e1 e2 HLA i1 l1 l2
      generalize heightV t x = H at *
      generalize rest t x = R at *
      generalize idx t x = i at *
      generalize t.last = La at *
      obtain ⟨b1, o1, rfl, hb1, ci⟩ := (unhideR HR).at_ i i2
      by_cases hend : i = t.L.length - 1
      · rw [if_pos hend] at hHV
        have hv : t.h i = t.L.getD i 0 := rfl
        rw [hv] at hHV
        generalize t.L.getD i 0 = hi at *
        have hbe : ((i : Int) == (t.L.length : Int) - 1) = true := by simp; omega
        have HH := hideR hHV
        clear hHV hv hend hrs
        go_enter Tryd.func28, Tryd.ntmps28
        go_wp2_with fail
        refine hte.mono ?_
        rintro e w1 ⟨rfl, rfl⟩
        go_wp2
        go_quiet (fail)
        go_wp2
        go_quiet (fail)
        go_wp2
        go_ret2
        rw [unhideR HH]
        exact ⟨rfl, drawn_below _ _⟩
      · rw [if_neg hend] at hHV
        obtain ⟨b2, o2, e2, hb2, cj⟩ := (unhideR HR).at_ (i + 1) (by omega)
        cases e2
        have hf1 := unhideR HFL i
        have hf2 := unhideR HFL (i + 1)
        have hv1 : t.h i = t.L.getD i 0 := rfl
        have hv2 : t.h (i + 1) = t.L.getD (i + 1) 0 := rfl
        rw [hv1, hv2] at hHV
        generalize t.L.getD i 0 = hi at *
        generalize t.L.getD (i + 1) 0 = hj at *
        have hbe : ((i : Int) == (t.L.length : Int) - 1) = false := by simp; omega
        have hfl := fun u => floorOf_any (hj - hi) R t.st u (by omega) (by omega) (by omega) (by omega) (by omega) (by omega) (by
          have k1 : absI (hj - hi) ≤ 2199023255552 := absI_le (by omega) (by omega)
          have k2 : absI R ≤ t.st := absI_le (by omega) (by omega)
          have k3 := mul_size k1 k2 (by decide)
          omega)
        have hfb := floor_in (a := hj - hi) (d := R) (c := t.st) (by omega) r1 (by omega) (A := 2199023255552) (by omega) (by omega) (by decide)
        generalize (hj - hi) * R / t.st = F at *
        have hw6 : IntKind.i64.wrap ((i : Int) * t.st) = (i : Int) * t.st := iwrap (by omega) (by omega)
        have hw7 : IntKind.i64.wrap (x - t.fr - (i : Int) * t.st) = R := by rw [← hrs]; exact iwrap (by omega) (by omega)
        have hw8 : IntKind.i64.wrap (hj - hi) = hj - hi := iwrap (by omega) (by omega)
        have hw9 : IntKind.i64.wrap (hi + F) = hi + F := iwrap (by omega) (by omega)
        have hw10 : IntKind.i64.wrap ((i : Int) + 1) = ((i + 1 : Nat) : Int) := by rw [Int.natCast_add]; exact iwrap (by omega) (by omega)
        have HH := hideR hHV
        have HCI := hideR ci
        have HCJ := hideR cj
        have hi1 : i + 1 < t.L.length := by omega
        have hi2 : (i : Int) + 1 < (t.L.length : Int) := by omega
        have hi3 : 0 ≤ (i : Int) + 1 := by omega
        clear hHV hv1 hv2 hend hrs hf1 hf2 hfb
        go_enter Tryd.func28, Tryd.ntmps28
        go_wp2_with fail
        refine hte.mono ?_
        rintro e w1 ⟨rfl, rfl⟩
        go_wp2
        go_quiet (fail)
        go_wp2
        go_quiet (fail)
        go_wp2_with fail
        generalize hW : w1.drewN _ = W
        have hbW : Below w1.heap.size w1 W := hW ▸ drawn_below w1 _
        have HT2 := hideR ((unhideR HT).below hbW)
        have HCI2 : ∀ v, Below W.heap.size W v → HeldR (v.cell? ⟨b1, o1 + i, none⟩ = some (.int .i64 hi)) := fun v hv => ((below_go hbW hv).cell (p := ⟨b1, o1 + i, none⟩) hb1).trans (unhideR HCI)
        have HCJ2 : ∀ v, Below W.heap.size W v → HeldR (v.cell? ⟨b1, o1 + (i + 1), none⟩ = some (.int .i64 hj)) := fun v hv => ((below_go hbW hv).cell (p := ⟨b1, o1 + (i + 1), none⟩) hb1).trans (unhideR HCJ)
        have HBW := hideR hbW
        clear hW hbW ci cj cf cs cl
        refine wp_region_made 1 #[true, true, true, true, true, true, true, true, true, true, true, true, true, true, true, true, true, true, true, true, true, true, true, true, true, true, true, true, true, true, true, true, true, true, true, true, true, true, true, true, true, true, false, false] [.lets (· = .pointer (some ⟨b, off, none⟩)),
          .lets (· = .pointer (some ⟨b, off, none⟩)),
          .lets (· = .pointer (some ⟨b, off + 2, none⟩)),
          .lets (· = .slice (some ⟨b1, o1, none⟩) t.L.length cap),
          .lets (· = .int .i64 (i : Nat)),
          .lets (· = .pointer (some ⟨b1, o1 + i, none⟩)),
          .lets (· = .int .i64 hi),
          .lets (· = .pointer (some ⟨b, off, none⟩)),
          .lets (· = .pointer (some ⟨b, off, none⟩)),
          .lets (· = .pointer (some ⟨b, off + 2, none⟩)),
          .lets (· = .slice (some ⟨b1, o1, none⟩) t.L.length cap),
          .lets (· = .int .i64 (i : Nat)),
          .lets (· = .int .i64 ((i + 1 : Nat) : Int)),
          .lets (· = .pointer (some ⟨b1, o1 + (i + 1), none⟩)),
          .lets (· = .int .i64 hj),
          .lets (· = .pointer (some ⟨b, off, none⟩)),
          .lets (· = .pointer (some ⟨b, off, none⟩)),
          .lets (· = .pointer (some ⟨b, off + 2, none⟩)),
          .lets (· = .slice (some ⟨b1, o1, none⟩) t.L.length cap),
          .lets (· = .int .i64 (i : Nat)),
          .lets (· = .pointer (some ⟨b1, o1 + i, none⟩)),
          .lets (· = .int .i64 hi),
          .lets (· = .int .i64 (hj - hi)),
          .lets (· = .int .i64 x),
          .lets (· = .pointer (some ⟨b, off, none⟩)),
          .lets (· = .pointer (some ⟨b, off, none⟩)),
          .lets (· = .pointer (some ⟨b, off, none⟩)),
          .lets (· = .int .i64 t.fr),
          .lets (· = .int .i64 (x - t.fr)),
          .lets (· = .int .i64 (i : Nat)),
          .lets (· = .pointer (some ⟨b, off, none⟩)),
          .lets (· = .pointer (some ⟨b, off, none⟩)),
          .lets (· = .pointer (some ⟨b, off + 1, none⟩)),
          .lets (· = .int .i64 t.st),
          .lets (· = .int .i64 ((i : Int) * t.st)),
          .lets (· = .int .i64 R),
          .lets (· = .pointer (some ⟨b, off, none⟩)),
          .lets (· = .pointer (some ⟨b, off, none⟩)),
          .lets (· = .pointer (some ⟨b, off + 1, none⟩)),
          .lets (· = .int .i64 t.st),
          .lets (· = .int .i64 F),
          .lets (· = .int .i64 (hi + F))] [] [] (by kernel_rfl) (by kernel_rfl) rfl ?kinds (by kernel_rfl) (by kernel_rfl) (by kernel_rfl) ?_
        case kinds =>
          constructor
          · intro i h
            rcases i with _ | _ | _ | _ | _ | _ | _ | _ | _ | _ | _ | _ | _ | _ | _ | _ | _ | _ | _ | _ | _ | _ | _ | _ | _ | _ | _ | _ | _ | _ | _ | _ | _ | _ | _ | _ | _ | _ | _ | _ | _ | _ | i <;> simp [Kx.isMade] at h
          · intro i h
            rcases i with _ | _ | _ | _ | _ | _ | _ | _ | _ | _ | _ | _ | _ | _ | _ | _ | _ | _ | _ | _ | _ | _ | _ | _ | _ | _ | _ | _ | _ | _ | _ | _ | _ | _ | _ | _ | _ | _ | _ | _ | _ | _ | i <;> simp [Kx.isUse] at h
        refine lexX_step (fun K hK => ⟨by kernel_rfl, ⟨_, rfl⟩, fun v hv => ?_, fun v hv => ?_⟩)
        · go_simp
          exact mUpon_b
        subst hv
        go_simp
        refine hK _ ?_
        clear hK K
        refine lexX_step (fun K hK => ⟨by kernel_rfl, ⟨_, rfl⟩, fun v hv => ?_, fun v hv => ?_⟩)
        · go_simp
          exact mUpon_b
        subst hv
        go_simp
        refine hK _ ?_
        clear hK K
        refine lexX_step (fun K hK => ⟨by kernel_rfl, ⟨_, rfl⟩, fun v hv => ?_, fun v hv => ?_⟩)
        · go_simp
          exact mUpon_b
        subst hv
        go_simp
        refine hK _ ?_
        clear hK K
        refine lexX_step (fun K hK => ⟨by kernel_rfl, ⟨_, rfl⟩, fun v hv => ?_, fun v hv => ?_⟩)
        · obtain ⟨_, c0, c1, c2, _⟩ := (unhideR HT2).below hv
          go_simp
          exact mUpon_b
        subst hv
        go_simp
        refine hK _ ?_
        clear hK K
        refine lexX_step (fun K hK => ⟨by kernel_rfl, ⟨_, rfl⟩, fun v hv => ?_, fun v hv => ?_⟩)
        · go_simp
          exact mUpon_b
        subst hv
        go_simp
        refine hK _ ?_
        clear hK K
        refine lexX_step (fun K hK => ⟨by kernel_rfl, ⟨_, rfl⟩, fun v hv => ?_, fun v hv => ?_⟩)
        · go_simp
          exact mUpon_b
        subst hv
        go_simp
        refine hK _ ?_
        clear hK K
        refine lexX_step (fun K hK => ⟨by kernel_rfl, ⟨_, rfl⟩, fun v hv => ?_, fun v hv => ?_⟩)
        · have c0 := unhideR (HCI2 _ hv)
          go_simp
          exact mUpon_b
        subst hv
        go_simp
        refine hK _ ?_
        clear hK K
        refine lexX_step (fun K hK => ⟨by kernel_rfl, ⟨_, rfl⟩, fun v hv => ?_, fun v hv => ?_⟩)
        · go_simp
          exact mUpon_b
        subst hv
        go_simp
        refine hK _ ?_
        clear hK K
        refine lexX_step (fun K hK => ⟨by kernel_rfl, ⟨_, rfl⟩, fun v hv => ?_, fun v hv => ?_⟩)
        · go_simp
          exact mUpon_b
        subst hv
        go_simp
        refine hK _ ?_
        clear hK K
        refine lexX_step (fun K hK => ⟨by kernel_rfl, ⟨_, rfl⟩, fun v hv => ?_, fun v hv => ?_⟩)
        · go_simp
          exact mUpon_b
        subst hv
        go_simp
        refine hK _ ?_
        clear hK K
        refine lexX_step (fun K hK => ⟨by kernel_rfl, ⟨_, rfl⟩, fun v hv => ?_, fun v hv => ?_⟩)
        · obtain ⟨_, c0, c1, c2, _⟩ := (unhideR HT2).below hv
          go_simp
          exact mUpon_b
        subst hv
        go_simp
        refine hK _ ?_
        clear hK K
        refine lexX_step (fun K hK => ⟨by kernel_rfl, ⟨_, rfl⟩, fun v hv => ?_, fun v hv => ?_⟩)
        · go_simp
          exact mUpon_b
        subst hv
        go_simp
        refine hK _ ?_
        clear hK K
        refine lexX_step (fun K hK => ⟨by kernel_rfl, ⟨_, rfl⟩, fun v hv => ?_, fun v hv => ?_⟩)
        · go_simp
          exact mUpon_b
        subst hv
        go_simp
        refine hK _ ?_
        clear hK K
        refine lexX_step (fun K hK => ⟨by kernel_rfl, ⟨_, rfl⟩, fun v hv => ?_, fun v hv => ?_⟩)
        · go_simp
          exact mUpon_b
        subst hv
        go_simp
        refine hK _ ?_
        clear hK K
        refine lexX_step (fun K hK => ⟨by kernel_rfl, ⟨_, rfl⟩, fun v hv => ?_, fun v hv => ?_⟩)
        · have c0 := unhideR (HCJ2 _ hv)
          go_simp
          exact mUpon_b
        subst hv
        go_simp
        refine hK _ ?_
        clear hK K
        refine lexX_step (fun K hK => ⟨by kernel_rfl, ⟨_, rfl⟩, fun v hv => ?_, fun v hv => ?_⟩)
        · go_simp
          exact mUpon_b
        subst hv
        go_simp
        refine hK _ ?_
        clear hK K
        refine lexX_step (fun K hK => ⟨by kernel_rfl, ⟨_, rfl⟩, fun v hv => ?_, fun v hv => ?_⟩)
        · go_simp
          exact mUpon_b
        subst hv
        go_simp
        refine hK _ ?_
        clear hK K
        refine lexX_step (fun K hK => ⟨by kernel_rfl, ⟨_, rfl⟩, fun v hv => ?_, fun v hv => ?_⟩)
        · go_simp
          exact mUpon_b
        subst hv
        go_simp
        refine hK _ ?_
        clear hK K
        refine lexX_step (fun K hK => ⟨by kernel_rfl, ⟨_, rfl⟩, fun v hv => ?_, fun v hv => ?_⟩)
        · obtain ⟨_, c0, c1, c2, _⟩ := (unhideR HT2).below hv
          go_simp
          exact mUpon_b
        subst hv
        go_simp
        refine hK _ ?_
        clear hK K
        refine lexX_step (fun K hK => ⟨by kernel_rfl, ⟨_, rfl⟩, fun v hv => ?_, fun v hv => ?_⟩)
        · go_simp
          exact mUpon_b
        subst hv
        go_simp
        refine hK _ ?_
        clear hK K
        refine lexX_step (fun K hK => ⟨by kernel_rfl, ⟨_, rfl⟩, fun v hv => ?_, fun v hv => ?_⟩)
        · go_simp
          exact mUpon_b
        subst hv
        go_simp
        refine hK _ ?_
        clear hK K
        refine lexX_step (fun K hK => ⟨by kernel_rfl, ⟨_, rfl⟩, fun v hv => ?_, fun v hv => ?_⟩)
        · have c0 := unhideR (HCI2 _ hv)
          go_simp
          exact mUpon_b
        subst hv
        go_simp
        refine hK _ ?_
        clear hK K
        refine lexX_step (fun K hK => ⟨by kernel_rfl, ⟨_, rfl⟩, fun v hv => ?_, fun v hv => ?_⟩)
        · go_simp
          exact mUpon_b
        subst hv
        go_simp
        refine hK _ ?_
        clear hK K
        refine lexX_step (fun K hK => ⟨by kernel_rfl, ⟨_, rfl⟩, fun v hv => ?_, fun v hv => ?_⟩)
        · go_simp
          exact mUpon_b
        subst hv
        go_simp
        refine hK _ ?_
        clear hK K
        refine lexX_step (fun K hK => ⟨by kernel_rfl, ⟨_, rfl⟩, fun v hv => ?_, fun v hv => ?_⟩)
        · go_simp
          exact mUpon_b
        subst hv
        go_simp
        refine hK _ ?_
        clear hK K
        refine lexX_step (fun K hK => ⟨by kernel_rfl, ⟨_, rfl⟩, fun v hv => ?_, fun v hv => ?_⟩)
        · go_simp
          exact mUpon_b
        subst hv
        go_simp
        refine hK _ ?_
        clear hK K
        refine lexX_step (fun K hK => ⟨by kernel_rfl, ⟨_, rfl⟩, fun v hv => ?_, fun v hv => ?_⟩)
        · go_simp
          exact mUpon_b
        subst hv
        go_simp
        refine hK _ ?_
        clear hK K
        refine lexX_step (fun K hK => ⟨by kernel_rfl, ⟨_, rfl⟩, fun v hv => ?_, fun v hv => ?_⟩)
        · obtain ⟨_, c0, c1, c2, _⟩ := (unhideR HT2).below hv
          go_simp
          exact mUpon_b
        subst hv
        go_simp
        refine hK _ ?_
        clear hK K
        refine lexX_step (fun K hK => ⟨by kernel_rfl, ⟨_, rfl⟩, fun v hv => ?_, fun v hv => ?_⟩)
        · go_simp
          exact mUpon_b
        subst hv
        go_simp
        refine hK _ ?_
        clear hK K
        refine lexX_step (fun K hK => ⟨by kernel_rfl, ⟨_, rfl⟩, fun v hv => ?_, fun v hv => ?_⟩)
        · go_simp
          exact mUpon_b
        subst hv
        go_simp
        refine hK _ ?_
        clear hK K
        refine lexX_step (fun K hK => ⟨by kernel_rfl, ⟨_, rfl⟩, fun v hv => ?_, fun v hv => ?_⟩)
        · go_simp
          exact mUpon_b
        subst hv
        go_simp
        refine hK _ ?_
        clear hK K
        refine lexX_step (fun K hK => ⟨by kernel_rfl, ⟨_, rfl⟩, fun v hv => ?_, fun v hv => ?_⟩)
        · go_simp
          exact mUpon_b
        subst hv
        go_simp
        refine hK _ ?_
        clear hK K
        refine lexX_step (fun K hK => ⟨by kernel_rfl, ⟨_, rfl⟩, fun v hv => ?_, fun v hv => ?_⟩)
        · go_simp
          exact mUpon_b
        subst hv
        go_simp
        refine hK _ ?_
        clear hK K
        refine lexX_step (fun K hK => ⟨by kernel_rfl, ⟨_, rfl⟩, fun v hv => ?_, fun v hv => ?_⟩)
        · obtain ⟨_, c0, c1, c2, _⟩ := (unhideR HT2).below hv
          go_simp
          exact mUpon_b
        subst hv
        go_simp
        refine hK _ ?_
        clear hK K
        refine lexX_step (fun K hK => ⟨by kernel_rfl, ⟨_, rfl⟩, fun v hv => ?_, fun v hv => ?_⟩)
        · go_simp
          exact mUpon_b
        subst hv
        go_simp
        refine hK _ ?_
        clear hK K
        refine lexX_step (fun K hK => ⟨by kernel_rfl, ⟨_, rfl⟩, fun v hv => ?_, fun v hv => ?_⟩)
        · go_simp
          exact mUpon_b
        subst hv
        go_simp
        refine hK _ ?_
        clear hK K
        refine lexX_step (fun K hK => ⟨by kernel_rfl, ⟨_, rfl⟩, fun v hv => ?_, fun v hv => ?_⟩)
        · go_simp
          exact mUpon_b
        subst hv
        go_simp
        refine hK _ ?_
        clear hK K
        refine lexX_step (fun K hK => ⟨by kernel_rfl, ⟨_, rfl⟩, fun v hv => ?_, fun v hv => ?_⟩)
        · go_simp
          exact mUpon_b
        subst hv
        go_simp
        refine hK _ ?_
        clear hK K
        refine lexX_step (fun K hK => ⟨by kernel_rfl, ⟨_, rfl⟩, fun v hv => ?_, fun v hv => ?_⟩)
        · go_simp
          exact mUpon_b
        subst hv
        go_simp
        refine hK _ ?_
        clear hK K
        refine lexX_step (fun K hK => ⟨by kernel_rfl, ⟨_, rfl⟩, fun v hv => ?_, fun v hv => ?_⟩)
        · obtain ⟨_, c0, c1, c2, _⟩ := (unhideR HT2).below hv
          go_simp
          exact mUpon_b
        subst hv
        go_simp
        refine hK _ ?_
        clear hK K
        refine lexX_step (fun K hK => ⟨by kernel_rfl, ⟨_, rfl⟩, fun v hv => ?_, fun v hv => ?_⟩)
        · go_simp
          refine (hfl _).mono ?_
          rintro e w9 ⟨rfl, k⟩
          exact ⟨_, rfl, rfl, k⟩
        subst hv
        go_simp
        refine hK _ ?_
        clear hK K
        refine lexX_step (fun K hK => ⟨by kernel_rfl, ⟨_, rfl⟩, fun v hv => ?_, fun v hv => ?_⟩)
        · go_simp
          exact mUpon_b
        subst hv
        go_simp
        refine hK _ ?_
        clear hK K
        refine lexX_end (fun v hv => ?_)
        have HW := hideR hv.low
        clear hv
        refine wpAny_step (i := 42) (by kernel_rfl) rfl (by kernel_rfl) (fun K hK => ?_)
        unfold Oper.wp
        go_simp
        refine hK _ _ ?_
        clear hK K
        refine wpAny_step (i := 43) (by kernel_rfl) rfl (by kernel_rfl) (fun K hK => ?_)
        unfold Oper.wp
        go_simp
        refine hK _ _ ?_
        clear hK K
        refine wpAny_end (by kernel_rfl) ?_
        go_wp2
        go_ret2
        rw [unhideR HH]
        exact ⟨rfl, below_go (unhideR HBW) (unhideR HW)⟩
  · have e1 : htE t x = trE t := by unfold htE; rw [if_pos hE]
    have e2 : htV t x = 0 := by unfold htV; rw [if_neg (by rw [e1]; exact hE)]
    rw [e1, e2]
    have hp : 0 < trE t := by
      rcases trE_range t with k | k | k | k
      · exact absurd k hE
      · omega
      · omega
      · omega
    clear e1 e2 hE
    generalize trE t = E at *
    go_enter Tryd.func28, Tryd.ntmps28
    go_wp2_with fail
    refine hte.mono ?_
    rintro e w1 ⟨rfl, rfl⟩
    go_wp2
    go_ret2
    exact ⟨rfl, Below.refl _ _⟩
end Go.Proofs.YtlhjmmcimhceeagDoor
