/-
  All that happens along a track: the document's, by contract.
-/
import Derived.Test.YtlhjmmcimhceeagDoorEvRef
import Derived.Test.YtlhjmmcimhceeagDoorEvFl
import Derived.Test.YtlhjmmcimhceeagDoorEvPut
import Derived.Test.YtlhjmmcimhceeagDoorLoose7
namespace Go.Proofs.YtlhjmmcimhceeagDoor
open Go Go.RowKit

theorem cross_none {t : Tr} {lev : Int} {c : Nat} (h : crossV t lev c = []) : sortV (crosses t lev (c + 1)) = sortV (crosses t lev c) := by
  show sortV (crosses t lev c ++ crossV t lev c) = _
  rw [h, List.append_nil]
theorem cross_one {t : Tr} {lev : Int} {c : Nat} {e : Evt} (h : crossV t lev c = [e]) : sortV (crosses t lev (c + 1)) = putV (sortV (crosses t lev c)) e := by
  show sortV (crosses t lev c ++ crossV t lev c) = _
  rw [h, sortV_snoc]
theorem turn_none {t : Tr} {lev : Int} {c : Nat} {M : List Evt} (h : turnV t lev (c + 1) (runEnd t (c + 1) t.L.length) = []) : sortV (M ++ turns t lev (c + 1)) = sortV (M ++ turns t lev c) := by
  show sortV (M ++ (turns t lev c ++ turnV t lev (c + 1) (runEnd t (c + 1) t.L.length))) = _
  rw [h, List.append_nil]
theorem turn_one {t : Tr} {lev : Int} {c : Nat} {M : List Evt} {e : Evt} (h : turnV t lev (c + 1) (runEnd t (c + 1) t.L.length) = [e]) : sortV (M ++ turns t lev (c + 1)) = putV (sortV (M ++ turns t lev c)) e := by
  show sortV (M ++ (turns t lev c ++ turnV t lev (c + 1) (runEnd t (c + 1) t.L.length))) = _
  rw [h, ← List.append_assoc, sortV_snoc]
theorem frac_ok {s x c : Int} (hs1 : 0 ≤ s) (hs2 : s ≤ 600000000000000000) (hx : 0 ≤ x) (hc : 0 < c) (hxc : x ≤ c) : absI s * absI x < c * 4611686018427387904 := by
  rw [absI_pos (a := s) (by omega), absI_pos (a := x) (by omega)]
  have k1 : s * x ≤ s * c := Int.mul_le_mul_of_nonneg_left hxc hs1
  have k2 : s * c ≤ 600000000000000000 * c := Int.mul_le_mul_of_nonneg_right hs2 (by omega)
  omega
theorem frac_in {s x c : Int} (hs1 : 0 ≤ s) (hx : 0 ≤ x) (hc : 0 < c) (hxc : x ≤ c) : 0 ≤ s * x / c ∧ s * x / c ≤ s := by
  refine ⟨Int.ediv_nonneg (Int.mul_nonneg hs1 hx) (by omega), ?_⟩
  have k1 : s * x ≤ s * c := Int.mul_le_mul_of_nonneg_left hxc hs1
  have : s * x / c < s + 1 := by
    rw [Int.ediv_lt_iff_lt_mul hc, Int.add_mul]
    omega
  omega
theorem frac_neg {s x c : Int} (hs1 : 0 ≤ s) (hx1 : -c ≤ x) (hx : x ≤ 0) (hc : 0 < c) : -s ≤ s * x / c ∧ s * x / c ≤ 0 := by
  have k0 : s * -c ≤ s * x := Int.mul_le_mul_of_nonneg_left hx1 hs1
  have k1 : s * x ≤ s * 0 := Int.mul_le_mul_of_nonneg_left hx hs1
  constructor
  · rw [Int.le_ediv_iff_mul_le hc]
    rw [Int.mul_neg] at k0
    rw [Int.neg_mul]
    omega
  · have : s * x / c < 0 + 1 := by
      rw [Int.ediv_lt_iff_lt_mul hc]
      omega
    omega
set_option maxRecDepth 100000 in
set_option maxHeartbeats 6400000 in
theorem eventsOf_any {w : World} {b off cap : Nat} {ad : Option Addr} {t : Tr} (h : TrP w b off ad cap t) (hO : TrOk t) (lev : Int) (hv1 : -1099511627776 ≤ lev) (hv2 : lev ≤ 1099511627776) :
    Calls Tryd.prog 34 #[.pointer (some ⟨b, off, none⟩), .int .i64 lev] w fun e w' => ∃ u, e = .returned u ∧ EvSl w' u (eventsV t lev) ∧ Below w.heap.size w w' := by
  have n1 := hO.n1
  have n2 := hO.n2
  have s1 := hO.s1
  have s2 := hO.step
  have f1 := hO.f1
  have f2 := hO.f2
  have l2 := hO.l2
  have l1 := hO.l1
  have sp := hO.span
  have HAt := hideR (fun i (hi : i < t.L.length) => hO.at_ hi)
  have HFL := hideR (flat_at hO.hs)
  have HLast : HeldR (t.last = t.fr + ((t.L.length : Int) - 1) * t.st) := rfl
  clear hO
  obtain ⟨b1, o1, rfl, hb1, _⟩ := h.row.at_ 0 (by omega)
  have HT := hideR h
  have HC : HeldR (∀ u, Below w.heap.size w u → ∀ k, k < t.L.length → u.cell? ⟨b1, o1 + k, none⟩ = some (.int .i64 (t.L.getD k 0))) := fun u hu k hk => by
    obtain ⟨b', o', e, _, hc⟩ := h.row.at_ k hk
    cases e
    exact (hu.cell (p := ⟨b1, o1 + k, none⟩) hb1).trans hc
  obtain ⟨_, cf0, cs0, cl0', _⟩ := h
  have HEnd : HeldR (eventsV t lev = sortV (crosses t lev (t.L.length - 1) ++ turns t lev (t.L.length - 2))) := rfl
  generalize eventsV t lev = EV at *
  go_enter Tryd.func34, Tryd.ntmps34
  go_wp2
  clear cf0 cs0 cl0'
  go_loopw [5, 7] (fun ov iv wl => ∃ c : Nat, c + 1 ≤ t.L.length ∧ iv = .int .i64 (c : Nat) ∧ HeldR (EvSl wl ov (sortV (crosses t lev c))) ∧ HeldR (Below w.heap.size w wl)) (fun _ iv _ => t.L.length + 1 - (intOf iv).toNat)
  case atStart => exact ⟨0, by omega, rfl, EvSl.nil, hideR (Below.refl _ _)⟩
  case round =>
    obtain ⟨c, hc', rfl, HS, HW⟩ := hrel
    by_cases hlt : c + 1 < t.L.length
    · as_aux_lemma =>
        have ci := unhideR HC _ (unhideR HW) c (by omega)
        have cj := unhideR HC _ (unhideR HW) (c + 1) hlt
        obtain ⟨_, cf, cs, cl, _⟩ := (unhideR HT).below (unhideR HW)
        have hfi := unhideR HFL c
        have hfj := unhideR HFL (c + 1)
        have hat := unhideR HAt c (by omega)
        have hat2 := unhideR HAt (c + 1) hlt
        have hlen := Nat.le_trans (Nat.le_of_eq (sortV_length (crosses t lev c))) (crosses_length t lev c)
        have HX : HeldR (∀ hi hj, hi = t.L.getD c 0 → hj = t.L.getD (c + 1) 0 → crossV t lev c = if hi - lev ≤ 0 ∧ 0 < hj - lev then [⟨1, t.fr + (c : Int) * t.st + t.st * -(hi - lev) / (hj - lev - (hi - lev)), c⟩] else if 0 < hi - lev ∧ hj - lev ≤ 0 then [⟨2, t.fr + (c : Int) * t.st - t.st * -(hi - lev) / (hi - lev - (hj - lev)), if hj - lev = 0 then (c : Int) + 1 else c⟩] else []) := fun hi hj e1 e2 => by
          subst e1 e2
          rfl
        replace HX := hideR (unhideR HX _ _ rfl rfl)
        generalize t.L.getD c 0 = hi at *
        generalize t.L.getD (c + 1) 0 = hj at *
        have hi2 : (c : Int) + 1 < (t.L.length : Int) := by omega
        have hi3 : 0 ≤ (c : Int) + 1 := by omega
        have w1 : IntKind.i64.wrap ((c : Int) * t.st) = (c : Int) * t.st := iwrap (by omega) (by omega)
        have e21 : ((c + 1 : Nat) : Int) * t.st = (c : Int) * t.st + t.st := by rw [Int.natCast_add, Int.add_mul]; simp
        rw [e21] at hat2
        have hla := unhideR HLast
        have w2 : IntKind.i64.wrap (t.fr + (c : Int) * t.st) = t.fr + (c : Int) * t.st := iwrap (by omega) (by omega)
        have w3 : IntKind.i64.wrap (hi - lev) = hi - lev := iwrap (by omega) (by omega)
        have w4 : IntKind.i64.wrap (hj - lev) = hj - lev := iwrap (by omega) (by omega)
        have hAT1 : -300000000000000000 ≤ t.fr + (c : Int) * t.st := by omega
        have hAT2 : t.fr + (c : Int) * t.st + t.st ≤ 300000000000000000 := by omega
        clear hla hat hat2 e21
        go_wp2_with fail
        refine wp_region_lets [(· = .pointer (some ⟨b, off, none⟩)),
          (· = .pointer (some ⟨b, off, none⟩)),
          (· = .pointer (some ⟨b, off, none⟩)),
          (· = .int .i64 t.fr),
          (· = .int .i64 (c : Nat)),
          (· = .pointer (some ⟨b, off, none⟩)),
          (· = .pointer (some ⟨b, off, none⟩)),
          (· = .pointer (some ⟨b, off + 1, none⟩)),
          (· = .int .i64 t.st),
          (· = .int .i64 ((c : Int) * t.st)),
          (· = .int .i64 (t.fr + (c : Int) * t.st)),
          (· = .int .i64 (t.fr + (c : Int) * t.st))] (by kernel_rfl) (by kernel_rfl) ?_
        refine lexL_step (fun K hK => ⟨by kernel_rfl, ⟨_, rfl⟩, fun n => ?_, fun v hv => ?_⟩)
        · go_simp
          exact lUpon_one
        subst hv
        go_simp
        refine hK _ ?_
        clear hK K
        refine lexL_step (fun K hK => ⟨by kernel_rfl, ⟨_, rfl⟩, fun n => ?_, fun v hv => ?_⟩)
        · go_simp
          exact lUpon_one
        subst hv
        go_simp
        refine hK _ ?_
        clear hK K
        refine lexL_step (fun K hK => ⟨by kernel_rfl, ⟨_, rfl⟩, fun n => ?_, fun v hv => ?_⟩)
        · go_simp
          exact lUpon_one
        subst hv
        go_simp
        refine hK _ ?_
        clear hK K
        refine lexL_step (fun K hK => ⟨by kernel_rfl, ⟨_, rfl⟩, fun n => ?_, fun v hv => ?_⟩)
        · go_simp
          exact lUpon_one
        subst hv
        go_simp
        refine hK _ ?_
        clear hK K
        refine lexL_step (fun K hK => ⟨by kernel_rfl, ⟨_, rfl⟩, fun n => ?_, fun v hv => ?_⟩)
        · go_simp
          exact lUpon_one
        subst hv
        go_simp
        refine hK _ ?_
        clear hK K
        refine lexL_step (fun K hK => ⟨by kernel_rfl, ⟨_, rfl⟩, fun n => ?_, fun v hv => ?_⟩)
        · go_simp
          exact lUpon_one
        subst hv
        go_simp
        refine hK _ ?_
        clear hK K
        refine lexL_step (fun K hK => ⟨by kernel_rfl, ⟨_, rfl⟩, fun n => ?_, fun v hv => ?_⟩)
        · go_simp
          exact lUpon_one
        subst hv
        go_simp
        refine hK _ ?_
        clear hK K
        refine lexL_step (fun K hK => ⟨by kernel_rfl, ⟨_, rfl⟩, fun n => ?_, fun v hv => ?_⟩)
        · go_simp
          exact lUpon_one
        subst hv
        go_simp
        refine hK _ ?_
        clear hK K
        refine lexL_step (fun K hK => ⟨by kernel_rfl, ⟨_, rfl⟩, fun n => ?_, fun v hv => ?_⟩)
        · go_simp
          exact lUpon_one
        subst hv
        go_simp
        refine hK _ ?_
        clear hK K
        refine lexL_step (fun K hK => ⟨by kernel_rfl, ⟨_, rfl⟩, fun n => ?_, fun v hv => ?_⟩)
        · go_simp
          exact lUpon_one
        subst hv
        go_simp
        refine hK _ ?_
        clear hK K
        refine lexL_step (fun K hK => ⟨by kernel_rfl, ⟨_, rfl⟩, fun n => ?_, fun v hv => ?_⟩)
        · go_simp
          exact lUpon_one
        subst hv
        go_simp
        refine hK _ ?_
        clear hK K
        refine lexL_step (fun K hK => ⟨by kernel_rfl, ⟨_, rfl⟩, fun n => ?_, fun v hv => ?_⟩)
        · go_simp
          exact lUpon_one
        subst hv
        go_simp
        refine hK _ ?_
        clear hK K
        refine lexL_end ?_
        intro n9
        generalize t.fr + (c : Int) * t.st = AT at *
        have hbW := drawn_below wr n9
        replace HS := hideR ((unhideR HS).below hbW)
        replace HW := hideR (below_go (unhideR HW) hbW)
        clear ci cj cf cs cl
        generalize wr.drewN n9 = W9 at *
        clear hbW
        obtain ⟨_, cf, cs, cl, _⟩ := (unhideR HT).below (unhideR HW)
        have HN0 := hideR (cross_none (t := t) (lev := lev) (c := c))
        have HN1 := hideR (fun e => cross_one (t := t) (lev := lev) (c := c) (e := e))
        generalize hA : hi - lev = A at *
        generalize hB : hj - lev = B at *
        have rA : -2199023255552 ≤ A ∧ A ≤ 2199023255552 := by omega
        have rB : -2199023255552 ≤ B ∧ B ≤ 2199023255552 := by omega
        clear hA hB
        by_cases qA : A ≤ 0
        · by_cases qB : 0 < B
          · have hX := unhideR HX
            rw [if_pos ⟨qA, qB⟩] at hX
            have hfl := fun u => floorOf_any t.st (-A) (B - A) u (by omega) (by omega) (by omega) (by omega) (by omega) (by omega) (frac_ok (by omega) s2 (by omega) (by omega) (by omega))
            have hfr := frac_in (s := t.st) (x := -A) (c := B - A) (by omega) (by omega) (by omega) (by omega)
            generalize t.st * -A / (B - A) = F at *
            have hN := unhideR HN1 _ hX
            have HN := hideR hN
            clear hN hX HX HN0 HN1
            have hput := fun u v (hu : EvSl u v (sortV (crosses t lev c))) => put_any ⟨1, AT + F, (c : Int)⟩ hu (by omega)
            have w5 : IntKind.i64.wrap (-A) = -A := iwrap (by omega) (by omega)
            have w6 : IntKind.i64.wrap (B - A) = B - A := iwrap (by omega) (by omega)
            have w7 : IntKind.i64.wrap (AT + F) = AT + F := iwrap (by omega) (by omega)
            have q3 : ¬ 0 < A := by omega
            go_wp2_with fail
            refine (hfl _).mono ?_
            rintro e w5 ⟨rfl, k5⟩
            replace HS := hideR ((unhideR HS).below k5)
            replace HW := hideR (below_go (unhideR HW) k5)
            clear k5 hfl cf cs cl
            go_wp2_with fail
            refine (hput _ _ (unhideR HS)).mono ?_
            rintro e w6 ⟨u6, rfl, hS6, k6⟩
            have HS6 : HeldR (EvSl w6 u6 (sortV (crosses t lev (c + 1)))) := by
              unfold HeldR
              rw [unhideR HN]
              exact hS6
            replace HW := hideR (below_go (unhideR HW) k6)
            clear hS6 k6 hput HS HN
            go_wp2
            exact ⟨⟨c + 1, by omega, by go_num, HS6, HW⟩, by simp [intOf]; omega⟩
          · have hX := unhideR HX
            rw [if_neg (by omega), if_neg (by omega)] at hX
            have HS6 : HeldR (EvSl W9 u5 (sortV (crosses t lev (c + 1)))) := by
              unfold HeldR
              rw [unhideR HN0 hX]
              exact unhideR HS
            have q3 : ¬ 0 < A := by omega
            clear hX HX HN0 HN1 HS
            go_wp2
            exact ⟨⟨c + 1, by omega, by go_num, HS6, HW⟩, by simp [intOf]; omega⟩
        · by_cases qB : 0 < B
          · have hX := unhideR HX
            rw [if_neg (by omega), if_neg (by omega)] at hX
            have HS6 : HeldR (EvSl W9 u5 (sortV (crosses t lev (c + 1)))) := by
              unfold HeldR
              rw [unhideR HN0 hX]
              exact unhideR HS
            have q3 : 0 < A := by omega
            have q4 : ¬ B ≤ 0 := by omega
            clear hX HX HN0 HN1 HS
            go_wp2
            exact ⟨⟨c + 1, by omega, by go_num, HS6, HW⟩, by simp [intOf]; omega⟩
          · have hX := unhideR HX
            rw [if_neg (by omega), if_pos ⟨by omega, by omega⟩] at hX
            have hfl := fun u => floorOf_any t.st (-A) (A - B) u (by omega) (by omega) (by omega) (by omega) (by omega) (by omega) (by
              have e : absI (-A) = absI A := by unfold absI; split <;> split <;> omega
              rw [e]
              exact frac_ok (by omega) s2 (by omega) (by omega) (by omega))
            have hfr := frac_neg (s := t.st) (x := -A) (c := A - B) (by omega) (by omega) (by omega) (by omega)
            generalize t.st * -A / (A - B) = F at *
            have q3 : 0 < A := by omega
            have q4 : B ≤ 0 := by omega
            have w5 : IntKind.i64.wrap (-A) = -A := iwrap (by omega) (by omega)
            have w6 : IntKind.i64.wrap (A - B) = A - B := iwrap (by omega) (by omega)
            have w7 : IntKind.i64.wrap (AT - F) = AT - F := iwrap (by omega) (by omega)
            go_wp2_with fail
            refine (hfl _).mono ?_
            rintro e w5 ⟨rfl, k5⟩
            replace HS := hideR ((unhideR HS).below k5)
            replace HW := hideR (below_go (unhideR HW) k5)
            clear k5 hfl cf cs cl
            by_cases qz : B = 0
            · rw [if_pos qz] at hX
              have hN := unhideR HN1 _ hX
              have HN := hideR hN
              have bz : (B == 0) = true := by simp [qz]
              have hput := fun u v (hu : EvSl u v (sortV (crosses t lev c))) => put_any ⟨2, AT - F, (c : Int) + 1⟩ hu (by omega)
              clear hN hX HX HN0 HN1 qz
              go_wp2_with fail
              refine (hput _ _ (unhideR HS)).mono ?_
              rintro e w6 ⟨u6, rfl, hS6, k6⟩
              have HS6 : HeldR (EvSl w6 u6 (sortV (crosses t lev (c + 1)))) := by
                unfold HeldR
                rw [unhideR HN]
                exact hS6
              replace HW := hideR (below_go (unhideR HW) k6)
              clear hS6 k6 hput HS HN
              go_wp2
              exact ⟨⟨c + 1, by omega, by go_num, HS6, HW⟩, by simp [intOf]; omega⟩
            · rw [if_neg qz] at hX
              have hN := unhideR HN1 _ hX
              have HN := hideR hN
              have bz : (B == 0) = false := by simp [qz]
              have hput := fun u v (hu : EvSl u v (sortV (crosses t lev c))) => put_any ⟨2, AT - F, (c : Int)⟩ hu (by omega)
              clear hN hX HX HN0 HN1 qz
              go_wp2_with fail
              refine (hput _ _ (unhideR HS)).mono ?_
              rintro e w6 ⟨u6, rfl, hS6, k6⟩
              have HS6 : HeldR (EvSl w6 u6 (sortV (crosses t lev (c + 1)))) := by
                unfold HeldR
                rw [unhideR HN]
                exact hS6
              replace HW := hideR (below_go (unhideR HW) k6)
              clear hS6 k6 hput HS HN
              go_wp2
              exact ⟨⟨c + 1, by omega, by go_num, HS6, HW⟩, by simp [intOf]; omega⟩
    · have hcn : c = t.L.length - 1 := by omega
      rw [hcn] at HS
      have HS0 : HeldR (EvSl wr u5 (sortV (crosses t lev (t.L.length - 1) ++ turns t lev (1 - 1)))) := by
        unfold HeldR
        show EvSl wr u5 (sortV (crosses t lev (t.L.length - 1) ++ []))
        rw [List.append_nil]
        exact unhideR HS
      clear HS hcn
      go_wp2
      go_loopw [5, 13] (fun ov iv wl => ∃ i : Nat, 1 ≤ i ∧ i + 1 ≤ t.L.length ∧ iv = .int .i64 (i : Nat) ∧ HeldR (EvSl wl ov (sortV (crosses t lev (t.L.length - 1) ++ turns t lev (i - 1)))) ∧ HeldR (Below w.heap.size w wl)) (fun _ iv _ => t.L.length + 1 - (intOf iv).toNat)
      case atStart => exact ⟨1, by omega, by omega, rfl, HS0, HW⟩
      case round =>
        clear HS0 HW
        obtain ⟨i, hi1, hi2, rfl, HS, HW⟩ := hrel
        by_cases hlt2 : i + 1 < t.L.length
        · obtain ⟨m, hm'⟩ : ∃ m, i = m + 1 := ⟨i - 1, by omega⟩
          have hlen1 := Nat.le_trans (Nat.le_of_eq (sortV_length (crosses t lev (t.L.length - 1) ++ turns t lev (i - 1)))) (Nat.le_of_eq List.length_append)
          have hlen2 := crosses_length t lev (t.L.length - 1)
          have hlen3 := turns_length t lev (i - 1)
          have HMM := hideR hm'
          have ek : (i : Int) - 1 = (m : Int) := by omega
          have ew : IntKind.i64.wrap (m : Int) = (m : Int) := iwrap (by omega) (by omega)
          have hmn : m < t.L.length := by omega
          have hin' : i < t.L.length := by omega
          have bO : decide ((i : Int) < (t.L.length : Int) - 1) = true := decide_eq_true (by omega)
          clear hm'
          go_wp2
          go_loopw [14] (fun kv wl => ∃ k : Nat, i ≤ k ∧ k < t.L.length ∧ kv = .int .i64 (k : Nat) ∧ HeldR (∀ j, i ≤ j → j ≤ k → t.h j = t.h i) ∧ HeldR (EvSl wl u5 (sortV (crosses t lev (t.L.length - 1) ++ turns t lev (i - 1)))) ∧ HeldR (Below w.heap.size w wl)) (fun kv _ => t.L.length + 1 - (intOf kv).toNat)
          case atStart => exact ⟨i, Nat.le_refl _, by omega, rfl, hideR (fun j h1 h2 => by rw [show j = i from Nat.le_antisymm h2 h1]), HS, HW⟩
          case round =>
            clear HS HW
            obtain ⟨k, hik, hkn, rfl, HSame, HS, HW⟩ := hrel
            by_cases hk1 : k + 1 < t.L.length
            · have hk2 : (k : Int) + 1 < (t.L.length : Int) := by omega
              have hk3 : 0 ≤ (k : Int) + 1 := by omega
              have hwk : IntKind.i64.wrap ((k : Int) + 1) = (k : Int) + 1 := iwrap (by omega) (by omega)
              have HV : HeldR (∃ hi hq hm, hi = t.L.getD i 0 ∧ hq = t.L.getD (k + 1) 0 ∧ hm = t.L.getD m 0) := ⟨_, _, _, rfl, rfl, rfl⟩
              obtain ⟨hi, hq, hm, ei, eq, em⟩ := unhideR HV
              have HEi := hideR ei
              have HEq := hideR eq
              have HEm := hideR em
              clear ei eq em HV
              have bi : decide ((k : Int) + 1 < (t.L.length : Int)) = true := decide_eq_true hk2
              have cm := unhideR HC _ (unhideR HW) m (by omega)
              have cq := unhideR HC _ (unhideR HW) (k + 1) hk1
              have hci := unhideR HC _ (unhideR HW) i (by omega)
              rw [← unhideR HEm] at cm
              rw [← unhideR HEq] at cq
              rw [← unhideR HEi] at hci
              obtain ⟨_, cf, cs, cl, _⟩ := (unhideR HT).below (unhideR HW)
              by_cases hqe : hq = hi
              · as_aux_lemma =>
                  have be : (hq == hi) = true := by simp [hqe]
                  have HSame2 : HeldR (∀ j, i ≤ j → j ≤ k + 1 → t.h j = t.h i) := fun j h1 h2 => by
                    by_cases e : j = k + 1
                    · rw [e]
                      show t.L.getD (k + 1) 0 = t.L.getD i 0
                      rw [← unhideR HEq, ← unhideR HEi]
                      exact hqe
                    · exact unhideR HSame j h1 (by omega)
                  clear hqe HSame
                  go_wp2_with fail
                  refine wp_region_lets [(· = .int .i64 (k : Nat)),
                    (· = .int .i64 ((k : Int) + 1)),
                    (· = .int .i64 (t.L.length : Nat)),
                    (· = .bool true),
                    (· = .bool true),
                    (· = .pointer (some ⟨b, off, none⟩)),
                    (· = .pointer (some ⟨b, off, none⟩)),
                    (· = .pointer (some ⟨b, off + 2, none⟩)),
                    (· = .slice (some ⟨b1, o1, none⟩) t.L.length cap),
                    (· = .int .i64 (k : Nat)),
                    (· = .int .i64 ((k : Int) + 1)),
                    (· = .pointer (some ⟨b1, o1 + (k + 1), none⟩)),
                    (· = .int .i64 hq),
                    (· = .pointer (some ⟨b, off, none⟩)),
                    (· = .pointer (some ⟨b, off, none⟩)),
                    (· = .pointer (some ⟨b, off + 2, none⟩)),
                    (· = .slice (some ⟨b1, o1, none⟩) t.L.length cap),
                    (· = .int .i64 (i : Nat)),
                    (· = .pointer (some ⟨b1, o1 + i, none⟩)),
                    (· = .int .i64 hi),
                    (· = .bool true),
                    (· = .bool true)] (by kernel_rfl) (by kernel_rfl) ?_
                  refine lexL_step (fun K hK => ⟨by kernel_rfl, ⟨_, rfl⟩, fun n => ?_, fun v hv => ?_⟩)
                  · go_simp
                    exact lUpon_one
                  subst hv
                  go_simp
                  refine hK _ ?_
                  clear hK K
                  refine lexL_step (fun K hK => ⟨by kernel_rfl, ⟨_, rfl⟩, fun n => ?_, fun v hv => ?_⟩)
                  · go_simp
                    exact lUpon_one
                  subst hv
                  go_simp
                  refine hK _ ?_
                  clear hK K
                  refine lexL_step (fun K hK => ⟨by kernel_rfl, ⟨_, rfl⟩, fun n => ?_, fun v hv => ?_⟩)
                  · go_simp
                    exact lUpon_one
                  subst hv
                  go_simp
                  refine hK _ ?_
                  clear hK K
                  refine lexL_step (fun K hK => ⟨by kernel_rfl, ⟨_, rfl⟩, fun n => ?_, fun v hv => ?_⟩)
                  · go_simp
                    exact lUpon_one
                  subst hv
                  go_simp
                  refine hK _ ?_
                  clear hK K
                  refine lexL_step (fun K hK => ⟨by kernel_rfl, ⟨_, rfl⟩, fun n => ?_, fun v hv => ?_⟩)
                  · go_simp
                    exact lUpon_one
                  subst hv
                  go_simp
                  refine hK _ ?_
                  clear hK K
                  refine lexL_step (fun K hK => ⟨by kernel_rfl, ⟨_, rfl⟩, fun n => ?_, fun v hv => ?_⟩)
                  · go_simp
                    exact lUpon_one
                  subst hv
                  go_simp
                  refine hK _ ?_
                  clear hK K
                  refine lexL_step (fun K hK => ⟨by kernel_rfl, ⟨_, rfl⟩, fun n => ?_, fun v hv => ?_⟩)
                  · go_simp
                    exact lUpon_one
                  subst hv
                  go_simp
                  refine hK _ ?_
                  clear hK K
                  refine lexL_step (fun K hK => ⟨by kernel_rfl, ⟨_, rfl⟩, fun n => ?_, fun v hv => ?_⟩)
                  · go_simp
                    exact lUpon_one
                  subst hv
                  go_simp
                  refine hK _ ?_
                  clear hK K
                  refine lexL_step (fun K hK => ⟨by kernel_rfl, ⟨_, rfl⟩, fun n => ?_, fun v hv => ?_⟩)
                  · go_simp
                    exact lUpon_one
                  subst hv
                  go_simp
                  refine hK _ ?_
                  clear hK K
                  refine lexL_step (fun K hK => ⟨by kernel_rfl, ⟨_, rfl⟩, fun n => ?_, fun v hv => ?_⟩)
                  · go_simp
                    exact lUpon_one
                  subst hv
                  go_simp
                  refine hK _ ?_
                  clear hK K
                  refine lexL_step (fun K hK => ⟨by kernel_rfl, ⟨_, rfl⟩, fun n => ?_, fun v hv => ?_⟩)
                  · go_simp
                    exact lUpon_one
                  subst hv
                  go_simp
                  refine hK _ ?_
                  clear hK K
                  refine lexL_step (fun K hK => ⟨by kernel_rfl, ⟨_, rfl⟩, fun n => ?_, fun v hv => ?_⟩)
                  · go_simp
                    exact lUpon_one
                  subst hv
                  go_simp
                  refine hK _ ?_
                  clear hK K
                  refine lexL_step (fun K hK => ⟨by kernel_rfl, ⟨_, rfl⟩, fun n => ?_, fun v hv => ?_⟩)
                  · go_simp
                    exact lUpon_one
                  subst hv
                  go_simp
                  refine hK _ ?_
                  clear hK K
                  refine lexL_step (fun K hK => ⟨by kernel_rfl, ⟨_, rfl⟩, fun n => ?_, fun v hv => ?_⟩)
                  · go_simp
                    exact lUpon_one
                  subst hv
                  go_simp
                  refine hK _ ?_
                  clear hK K
                  refine lexL_step (fun K hK => ⟨by kernel_rfl, ⟨_, rfl⟩, fun n => ?_, fun v hv => ?_⟩)
                  · go_simp
                    exact lUpon_one
                  subst hv
                  go_simp
                  refine hK _ ?_
                  clear hK K
                  refine lexL_step (fun K hK => ⟨by kernel_rfl, ⟨_, rfl⟩, fun n => ?_, fun v hv => ?_⟩)
                  · go_simp
                    exact lUpon_one
                  subst hv
                  go_simp
                  refine hK _ ?_
                  clear hK K
                  refine lexL_step (fun K hK => ⟨by kernel_rfl, ⟨_, rfl⟩, fun n => ?_, fun v hv => ?_⟩)
                  · go_simp
                    exact lUpon_one
                  subst hv
                  go_simp
                  refine hK _ ?_
                  clear hK K
                  refine lexL_step (fun K hK => ⟨by kernel_rfl, ⟨_, rfl⟩, fun n => ?_, fun v hv => ?_⟩)
                  · go_simp
                    exact lUpon_one
                  subst hv
                  go_simp
                  refine hK _ ?_
                  clear hK K
                  refine lexL_step (fun K hK => ⟨by kernel_rfl, ⟨_, rfl⟩, fun n => ?_, fun v hv => ?_⟩)
                  · go_simp
                    exact lUpon_one
                  subst hv
                  go_simp
                  refine hK _ ?_
                  clear hK K
                  refine lexL_step (fun K hK => ⟨by kernel_rfl, ⟨_, rfl⟩, fun n => ?_, fun v hv => ?_⟩)
                  · go_simp
                    exact lUpon_one
                  subst hv
                  go_simp
                  refine hK _ ?_
                  clear hK K
                  refine lexL_step (fun K hK => ⟨by kernel_rfl, ⟨_, rfl⟩, fun n => ?_, fun v hv => ?_⟩)
                  · go_simp
                    exact lUpon_one
                  subst hv
                  go_simp
                  refine hK _ ?_
                  clear hK K
                  refine lexL_step (fun K hK => ⟨by kernel_rfl, ⟨_, rfl⟩, fun n => ?_, fun v hv => ?_⟩)
                  · go_simp
                    exact lUpon_one
                  subst hv
                  go_simp
                  refine hK _ ?_
                  clear hK K
                  refine lexL_end ?_
                  intro n9
                  replace HS := hideR ((unhideR HS).below (drawn_below wr n9))
                  replace HW := hideR (below_go (unhideR HW) (drawn_below wr n9))
                  go_wp2
                  exact ⟨⟨k + 1, by omega, by omega, by go_num, HSame2, HS, HW⟩, by simp [intOf]; omega⟩
              · have be : (hq == hi) = false := by simp [hqe]
                have hIs : IsEnd t i k := ⟨hik, hkn, unhideR HSame, fun _ h => hqe (by rw [unhideR HEq, unhideR HEi]; exact h)⟩
                have hrun : runEnd t i t.L.length = k := (runEnd_is (by omega)).unique hIs
                have HN0 : HeldR (turnV t lev i k = [] → sortV (crosses t lev (t.L.length - 1) ++ turns t lev i) = (sortV (crosses t lev (t.L.length - 1) ++ turns t lev (i - 1)))) := fun h => by
                  have e := unhideR HMM
                  rw [← hrun] at h
                  rw [e] at h ⊢
                  rw [Nat.add_sub_cancel]
                  exact turn_none h
                have HN1 : HeldR (∀ e, turnV t lev i k = [e] → sortV (crosses t lev (t.L.length - 1) ++ turns t lev i) = putV (sortV (crosses t lev (t.L.length - 1) ++ turns t lev (i - 1))) e) := fun e h => by
                  have e' := unhideR HMM
                  rw [← hrun] at h
                  rw [e'] at h ⊢
                  rw [Nat.add_sub_cancel]
                  exact turn_one h
                have HX : HeldR (turnV t lev i k = if k = t.L.length - 1 ∨ hm = hi then [] else if hm < hi ∧ hq < hi ∧ lev < hi then [⟨3, t.fr + (i : Int) * t.st, i⟩] else if hi < hm ∧ hi < hq ∧ hi ≤ lev then [⟨4, t.fr + (i : Int) * t.st, i⟩] else []) := by
                  unfold HeldR
                  have e' := unhideR HMM
                  rw [unhideR HEi, unhideR HEq, unhideR HEm, show m = i - 1 by omega]
                  rfl
                have hat := unhideR HAt i (by omega)
                have w1 : IntKind.i64.wrap ((i : Int) * t.st) = (i : Int) * t.st := iwrap (by omega) (by omega)
                have hla := unhideR HLast
                have w2 : IntKind.i64.wrap (t.fr + (i : Int) * t.st) = t.fr + (i : Int) * t.st := iwrap (by omega) (by omega)
                clear hIs hrun HSame hla hat
                go_wp2_with fail
                refine wp_region_lets [(· = .int .i64 (k : Nat)),
                  (· = .int .i64 ((k : Int) + 1)),
                  (· = .int .i64 (t.L.length : Nat)),
                  (· = .bool true),
                  (· = .bool true),
                  (· = .pointer (some ⟨b, off, none⟩)),
                  (· = .pointer (some ⟨b, off, none⟩)),
                  (· = .pointer (some ⟨b, off + 2, none⟩)),
                  (· = .slice (some ⟨b1, o1, none⟩) t.L.length cap),
                  (· = .int .i64 (k : Nat)),
                  (· = .int .i64 ((k : Int) + 1)),
                  (· = .pointer (some ⟨b1, o1 + (k + 1), none⟩)),
                  (· = .int .i64 hq),
                  (· = .pointer (some ⟨b, off, none⟩)),
                  (· = .pointer (some ⟨b, off, none⟩)),
                  (· = .pointer (some ⟨b, off + 2, none⟩)),
                  (· = .slice (some ⟨b1, o1, none⟩) t.L.length cap),
                  (· = .int .i64 (i : Nat)),
                  (· = .pointer (some ⟨b1, o1 + i, none⟩)),
                  (· = .int .i64 hi),
                  (· = .bool false),
                  (· = .bool false)] (by kernel_rfl) (by kernel_rfl) ?_
                refine lexL_step (fun K hK => ⟨by kernel_rfl, ⟨_, rfl⟩, fun n => ?_, fun v hv => ?_⟩)
                · go_simp
                  exact lUpon_one
                subst hv
                go_simp
                refine hK _ ?_
                clear hK K
                refine lexL_step (fun K hK => ⟨by kernel_rfl, ⟨_, rfl⟩, fun n => ?_, fun v hv => ?_⟩)
                · go_simp
                  exact lUpon_one
                subst hv
                go_simp
                refine hK _ ?_
                clear hK K
                refine lexL_step (fun K hK => ⟨by kernel_rfl, ⟨_, rfl⟩, fun n => ?_, fun v hv => ?_⟩)
                · go_simp
                  exact lUpon_one
                subst hv
                go_simp
                refine hK _ ?_
                clear hK K
                refine lexL_step (fun K hK => ⟨by kernel_rfl, ⟨_, rfl⟩, fun n => ?_, fun v hv => ?_⟩)
                · go_simp
                  exact lUpon_one
                subst hv
                go_simp
                refine hK _ ?_
                clear hK K
                refine lexL_step (fun K hK => ⟨by kernel_rfl, ⟨_, rfl⟩, fun n => ?_, fun v hv => ?_⟩)
                · go_simp
                  exact lUpon_one
                subst hv
                go_simp
                refine hK _ ?_
                clear hK K
                refine lexL_step (fun K hK => ⟨by kernel_rfl, ⟨_, rfl⟩, fun n => ?_, fun v hv => ?_⟩)
                · go_simp
                  exact lUpon_one
                subst hv
                go_simp
                refine hK _ ?_
                clear hK K
                refine lexL_step (fun K hK => ⟨by kernel_rfl, ⟨_, rfl⟩, fun n => ?_, fun v hv => ?_⟩)
                · go_simp
                  exact lUpon_one
                subst hv
                go_simp
                refine hK _ ?_
                clear hK K
                refine lexL_step (fun K hK => ⟨by kernel_rfl, ⟨_, rfl⟩, fun n => ?_, fun v hv => ?_⟩)
                · go_simp
                  exact lUpon_one
                subst hv
                go_simp
                refine hK _ ?_
                clear hK K
                refine lexL_step (fun K hK => ⟨by kernel_rfl, ⟨_, rfl⟩, fun n => ?_, fun v hv => ?_⟩)
                · go_simp
                  exact lUpon_one
                subst hv
                go_simp
                refine hK _ ?_
                clear hK K
                refine lexL_step (fun K hK => ⟨by kernel_rfl, ⟨_, rfl⟩, fun n => ?_, fun v hv => ?_⟩)
                · go_simp
                  exact lUpon_one
                subst hv
                go_simp
                refine hK _ ?_
                clear hK K
                refine lexL_step (fun K hK => ⟨by kernel_rfl, ⟨_, rfl⟩, fun n => ?_, fun v hv => ?_⟩)
                · go_simp
                  exact lUpon_one
                subst hv
                go_simp
                refine hK _ ?_
                clear hK K
                refine lexL_step (fun K hK => ⟨by kernel_rfl, ⟨_, rfl⟩, fun n => ?_, fun v hv => ?_⟩)
                · go_simp
                  exact lUpon_one
                subst hv
                go_simp
                refine hK _ ?_
                clear hK K
                refine lexL_step (fun K hK => ⟨by kernel_rfl, ⟨_, rfl⟩, fun n => ?_, fun v hv => ?_⟩)
                · go_simp
                  exact lUpon_one
                subst hv
                go_simp
                refine hK _ ?_
                clear hK K
                refine lexL_step (fun K hK => ⟨by kernel_rfl, ⟨_, rfl⟩, fun n => ?_, fun v hv => ?_⟩)
                · go_simp
                  exact lUpon_one
                subst hv
                go_simp
                refine hK _ ?_
                clear hK K
                refine lexL_step (fun K hK => ⟨by kernel_rfl, ⟨_, rfl⟩, fun n => ?_, fun v hv => ?_⟩)
                · go_simp
                  exact lUpon_one
                subst hv
                go_simp
                refine hK _ ?_
                clear hK K
                refine lexL_step (fun K hK => ⟨by kernel_rfl, ⟨_, rfl⟩, fun n => ?_, fun v hv => ?_⟩)
                · go_simp
                  exact lUpon_one
                subst hv
                go_simp
                refine hK _ ?_
                clear hK K
                refine lexL_step (fun K hK => ⟨by kernel_rfl, ⟨_, rfl⟩, fun n => ?_, fun v hv => ?_⟩)
                · go_simp
                  exact lUpon_one
                subst hv
                go_simp
                refine hK _ ?_
                clear hK K
                refine lexL_step (fun K hK => ⟨by kernel_rfl, ⟨_, rfl⟩, fun n => ?_, fun v hv => ?_⟩)
                · go_simp
                  exact lUpon_one
                subst hv
                go_simp
                refine hK _ ?_
                clear hK K
                refine lexL_step (fun K hK => ⟨by kernel_rfl, ⟨_, rfl⟩, fun n => ?_, fun v hv => ?_⟩)
                · go_simp
                  exact lUpon_one
                subst hv
                go_simp
                refine hK _ ?_
                clear hK K
                refine lexL_step (fun K hK => ⟨by kernel_rfl, ⟨_, rfl⟩, fun n => ?_, fun v hv => ?_⟩)
                · go_simp
                  exact lUpon_one
                subst hv
                go_simp
                refine hK _ ?_
                clear hK K
                refine lexL_step (fun K hK => ⟨by kernel_rfl, ⟨_, rfl⟩, fun n => ?_, fun v hv => ?_⟩)
                · go_simp
                  exact lUpon_one
                subst hv
                go_simp
                refine hK _ ?_
                clear hK K
                refine lexL_step (fun K hK => ⟨by kernel_rfl, ⟨_, rfl⟩, fun n => ?_, fun v hv => ?_⟩)
                · go_simp
                  exact lUpon_one
                subst hv
                go_simp
                refine hK _ ?_
                clear hK K
                refine lexL_end ?_
                intro n9
                have hbW := drawn_below wr n9
                replace HS := hideR ((unhideR HS).below hbW)
                replace HW := hideR (below_go (unhideR HW) hbW)
                clear cm cq hci cf cs cl
                generalize wr.drewN n9 = W9 at *
                clear hbW
                have cm := unhideR HC _ (unhideR HW) m (by omega)
                have cq := unhideR HC _ (unhideR HW) (k + 1) hk1
                have hci := unhideR HC _ (unhideR HW) i (by omega)
                rw [← unhideR HEm] at cm
                rw [← unhideR HEq] at cq
                rw [← unhideR HEi] at hci
                obtain ⟨_, cf, cs, cl, _⟩ := (unhideR HT).below (unhideR HW)
                have wn : IntKind.i64.wrap ((t.L.length : Int) - 1) = (t.L.length : Int) - 1 := iwrap (by omega) (by omega)
                have bl : ((k : Int) == (t.L.length : Int) - 1) = false := by simp; omega
                go_wp2_with fail
                by_cases hme : hm = hi
                · have bm : (hm == hi) = true := by simp [hme]
                  have hX := unhideR HX
                  rw [if_pos (.inr hme)] at hX
                  refine wp_region_lets [(· = .int .i64 (k : Nat)),
                    (· = .int .i64 (t.L.length : Nat)),
                    (· = .int .i64 ((t.L.length : Int) - 1)),
                    (· = .bool false),
                    (· = .bool false),
                    (· = .pointer (some ⟨b, off, none⟩)),
                    (· = .pointer (some ⟨b, off, none⟩)),
                    (· = .pointer (some ⟨b, off + 2, none⟩)),
                    (· = .slice (some ⟨b1, o1, none⟩) t.L.length cap),
                    (· = .int .i64 (i : Nat)),
                    (· = .int .i64 (m : Nat)),
                    (· = .pointer (some ⟨b1, o1 + m, none⟩)),
                    (· = .int .i64 hm),
                    (· = .pointer (some ⟨b, off, none⟩)),
                    (· = .pointer (some ⟨b, off, none⟩)),
                    (· = .pointer (some ⟨b, off + 2, none⟩)),
                    (· = .slice (some ⟨b1, o1, none⟩) t.L.length cap),
                    (· = .int .i64 (i : Nat)),
                    (· = .pointer (some ⟨b1, o1 + i, none⟩)),
                    (· = .int .i64 hi),
                    (· = .bool true),
                    (· = .bool true)] (by kernel_rfl) (by kernel_rfl) ?_
                  refine lexL_step (fun K hK => ⟨by kernel_rfl, ⟨_, rfl⟩, fun n => ?_, fun v hv => ?_⟩)
                  · go_simp
                    exact lUpon_one
                  subst hv
                  go_simp
                  refine hK _ ?_
                  clear hK K
                  refine lexL_step (fun K hK => ⟨by kernel_rfl, ⟨_, rfl⟩, fun n => ?_, fun v hv => ?_⟩)
                  · go_simp
                    exact lUpon_one
                  subst hv
                  go_simp
                  refine hK _ ?_
                  clear hK K
                  refine lexL_step (fun K hK => ⟨by kernel_rfl, ⟨_, rfl⟩, fun n => ?_, fun v hv => ?_⟩)
                  · go_simp
                    exact lUpon_one
                  subst hv
                  go_simp
                  refine hK _ ?_
                  clear hK K
                  refine lexL_step (fun K hK => ⟨by kernel_rfl, ⟨_, rfl⟩, fun n => ?_, fun v hv => ?_⟩)
                  · go_simp
                    exact lUpon_one
                  subst hv
                  go_simp
                  refine hK _ ?_
                  clear hK K
                  refine lexL_step (fun K hK => ⟨by kernel_rfl, ⟨_, rfl⟩, fun n => ?_, fun v hv => ?_⟩)
                  · go_simp
                    exact lUpon_one
                  subst hv
                  go_simp
                  refine hK _ ?_
                  clear hK K
                  refine lexL_step (fun K hK => ⟨by kernel_rfl, ⟨_, rfl⟩, fun n => ?_, fun v hv => ?_⟩)
                  · go_simp
                    exact lUpon_one
                  subst hv
                  go_simp
                  refine hK _ ?_
                  clear hK K
                  refine lexL_step (fun K hK => ⟨by kernel_rfl, ⟨_, rfl⟩, fun n => ?_, fun v hv => ?_⟩)
                  · go_simp
                    exact lUpon_one
                  subst hv
                  go_simp
                  refine hK _ ?_
                  clear hK K
                  refine lexL_step (fun K hK => ⟨by kernel_rfl, ⟨_, rfl⟩, fun n => ?_, fun v hv => ?_⟩)
                  · go_simp
                    exact lUpon_one
                  subst hv
                  go_simp
                  refine hK _ ?_
                  clear hK K
                  refine lexL_step (fun K hK => ⟨by kernel_rfl, ⟨_, rfl⟩, fun n => ?_, fun v hv => ?_⟩)
                  · go_simp
                    exact lUpon_one
                  subst hv
                  go_simp
                  refine hK _ ?_
                  clear hK K
                  refine lexL_step (fun K hK => ⟨by kernel_rfl, ⟨_, rfl⟩, fun n => ?_, fun v hv => ?_⟩)
                  · go_simp
                    exact lUpon_one
                  subst hv
                  go_simp
                  refine hK _ ?_
                  clear hK K
                  refine lexL_step (fun K hK => ⟨by kernel_rfl, ⟨_, rfl⟩, fun n => ?_, fun v hv => ?_⟩)
                  · go_simp
                    exact lUpon_one
                  subst hv
                  go_simp
                  refine hK _ ?_
                  clear hK K
                  refine lexL_step (fun K hK => ⟨by kernel_rfl, ⟨_, rfl⟩, fun n => ?_, fun v hv => ?_⟩)
                  · go_simp
                    exact lUpon_one
                  subst hv
                  go_simp
                  refine hK _ ?_
                  clear hK K
                  refine lexL_step (fun K hK => ⟨by kernel_rfl, ⟨_, rfl⟩, fun n => ?_, fun v hv => ?_⟩)
                  · go_simp
                    exact lUpon_one
                  subst hv
                  go_simp
                  refine hK _ ?_
                  clear hK K
                  refine lexL_step (fun K hK => ⟨by kernel_rfl, ⟨_, rfl⟩, fun n => ?_, fun v hv => ?_⟩)
                  · go_simp
                    exact lUpon_one
                  subst hv
                  go_simp
                  refine hK _ ?_
                  clear hK K
                  refine lexL_step (fun K hK => ⟨by kernel_rfl, ⟨_, rfl⟩, fun n => ?_, fun v hv => ?_⟩)
                  · go_simp
                    exact lUpon_one
                  subst hv
                  go_simp
                  refine hK _ ?_
                  clear hK K
                  refine lexL_step (fun K hK => ⟨by kernel_rfl, ⟨_, rfl⟩, fun n => ?_, fun v hv => ?_⟩)
                  · go_simp
                    exact lUpon_one
                  subst hv
                  go_simp
                  refine hK _ ?_
                  clear hK K
                  refine lexL_step (fun K hK => ⟨by kernel_rfl, ⟨_, rfl⟩, fun n => ?_, fun v hv => ?_⟩)
                  · go_simp
                    exact lUpon_one
                  subst hv
                  go_simp
                  refine hK _ ?_
                  clear hK K
                  refine lexL_step (fun K hK => ⟨by kernel_rfl, ⟨_, rfl⟩, fun n => ?_, fun v hv => ?_⟩)
                  · go_simp
                    exact lUpon_one
                  subst hv
                  go_simp
                  refine hK _ ?_
                  clear hK K
                  refine lexL_step (fun K hK => ⟨by kernel_rfl, ⟨_, rfl⟩, fun n => ?_, fun v hv => ?_⟩)
                  · go_simp
                    exact lUpon_one
                  subst hv
                  go_simp
                  refine hK _ ?_
                  clear hK K
                  refine lexL_step (fun K hK => ⟨by kernel_rfl, ⟨_, rfl⟩, fun n => ?_, fun v hv => ?_⟩)
                  · go_simp
                    exact lUpon_one
                  subst hv
                  go_simp
                  refine hK _ ?_
                  clear hK K
                  refine lexL_step (fun K hK => ⟨by kernel_rfl, ⟨_, rfl⟩, fun n => ?_, fun v hv => ?_⟩)
                  · go_simp
                    exact lUpon_one
                  subst hv
                  go_simp
                  refine hK _ ?_
                  clear hK K
                  refine lexL_step (fun K hK => ⟨by kernel_rfl, ⟨_, rfl⟩, fun n => ?_, fun v hv => ?_⟩)
                  · go_simp
                    exact lUpon_one
                  subst hv
                  go_simp
                  refine hK _ ?_
                  clear hK K
                  refine lexL_end ?_
                  intro n8
                  replace HS := hideR ((unhideR HS).below (drawn_below W9 n8))
                  replace HW := hideR (below_go (unhideR HW) (drawn_below W9 n8))
                  clear hme
                  have HS6 : HeldR (EvSl (W9.drewN n8) u5 (sortV (crosses t lev (t.L.length - 1) ++ turns t lev i))) := by
                    unfold HeldR
                    rw [unhideR HN0 hX]
                    exact unhideR HS
                  clear hX HX HN0 HN1 HS
                  go_wp2
                  exact ⟨⟨i + 1, by omega, by omega, by go_num, HS6, HW⟩, by simp [intOf]; omega⟩
                · have bm : (hm == hi) = false := by simp [hme]
                  have hX := unhideR HX
                  rw [if_neg (by rintro (q | q); omega; exact hme q)] at hX
                  refine wp_region_lets [(· = .int .i64 (k : Nat)),
                    (· = .int .i64 (t.L.length : Nat)),
                    (· = .int .i64 ((t.L.length : Int) - 1)),
                    (· = .bool false),
                    (· = .bool false),
                    (· = .pointer (some ⟨b, off, none⟩)),
                    (· = .pointer (some ⟨b, off, none⟩)),
                    (· = .pointer (some ⟨b, off + 2, none⟩)),
                    (· = .slice (some ⟨b1, o1, none⟩) t.L.length cap),
                    (· = .int .i64 (i : Nat)),
                    (· = .int .i64 (m : Nat)),
                    (· = .pointer (some ⟨b1, o1 + m, none⟩)),
                    (· = .int .i64 hm),
                    (· = .pointer (some ⟨b, off, none⟩)),
                    (· = .pointer (some ⟨b, off, none⟩)),
                    (· = .pointer (some ⟨b, off + 2, none⟩)),
                    (· = .slice (some ⟨b1, o1, none⟩) t.L.length cap),
                    (· = .int .i64 (i : Nat)),
                    (· = .pointer (some ⟨b1, o1 + i, none⟩)),
                    (· = .int .i64 hi),
                    (· = .bool false),
                    (· = .bool false)] (by kernel_rfl) (by kernel_rfl) ?_
                  refine lexL_step (fun K hK => ⟨by kernel_rfl, ⟨_, rfl⟩, fun n => ?_, fun v hv => ?_⟩)
                  · go_simp
                    exact lUpon_one
                  subst hv
                  go_simp
                  refine hK _ ?_
                  clear hK K
                  refine lexL_step (fun K hK => ⟨by kernel_rfl, ⟨_, rfl⟩, fun n => ?_, fun v hv => ?_⟩)
                  · go_simp
                    exact lUpon_one
                  subst hv
                  go_simp
                  refine hK _ ?_
                  clear hK K
                  refine lexL_step (fun K hK => ⟨by kernel_rfl, ⟨_, rfl⟩, fun n => ?_, fun v hv => ?_⟩)
                  · go_simp
                    exact lUpon_one
                  subst hv
                  go_simp
                  refine hK _ ?_
                  clear hK K
                  refine lexL_step (fun K hK => ⟨by kernel_rfl, ⟨_, rfl⟩, fun n => ?_, fun v hv => ?_⟩)
                  · go_simp
                    exact lUpon_one
                  subst hv
                  go_simp
                  refine hK _ ?_
                  clear hK K
                  refine lexL_step (fun K hK => ⟨by kernel_rfl, ⟨_, rfl⟩, fun n => ?_, fun v hv => ?_⟩)
                  · go_simp
                    exact lUpon_one
                  subst hv
                  go_simp
                  refine hK _ ?_
                  clear hK K
                  refine lexL_step (fun K hK => ⟨by kernel_rfl, ⟨_, rfl⟩, fun n => ?_, fun v hv => ?_⟩)
                  · go_simp
                    exact lUpon_one
                  subst hv
                  go_simp
                  refine hK _ ?_
                  clear hK K
                  refine lexL_step (fun K hK => ⟨by kernel_rfl, ⟨_, rfl⟩, fun n => ?_, fun v hv => ?_⟩)
                  · go_simp
                    exact lUpon_one
                  subst hv
                  go_simp
                  refine hK _ ?_
                  clear hK K
                  refine lexL_step (fun K hK => ⟨by kernel_rfl, ⟨_, rfl⟩, fun n => ?_, fun v hv => ?_⟩)
                  · go_simp
                    exact lUpon_one
                  subst hv
                  go_simp
                  refine hK _ ?_
                  clear hK K
                  refine lexL_step (fun K hK => ⟨by kernel_rfl, ⟨_, rfl⟩, fun n => ?_, fun v hv => ?_⟩)
                  · go_simp
                    exact lUpon_one
                  subst hv
                  go_simp
                  refine hK _ ?_
                  clear hK K
                  refine lexL_step (fun K hK => ⟨by kernel_rfl, ⟨_, rfl⟩, fun n => ?_, fun v hv => ?_⟩)
                  · go_simp
                    exact lUpon_one
                  subst hv
                  go_simp
                  refine hK _ ?_
                  clear hK K
                  refine lexL_step (fun K hK => ⟨by kernel_rfl, ⟨_, rfl⟩, fun n => ?_, fun v hv => ?_⟩)
                  · go_simp
                    exact lUpon_one
                  subst hv
                  go_simp
                  refine hK _ ?_
                  clear hK K
                  refine lexL_step (fun K hK => ⟨by kernel_rfl, ⟨_, rfl⟩, fun n => ?_, fun v hv => ?_⟩)
                  · go_simp
                    exact lUpon_one
                  subst hv
                  go_simp
                  refine hK _ ?_
                  clear hK K
                  refine lexL_step (fun K hK => ⟨by kernel_rfl, ⟨_, rfl⟩, fun n => ?_, fun v hv => ?_⟩)
                  · go_simp
                    exact lUpon_one
                  subst hv
                  go_simp
                  refine hK _ ?_
                  clear hK K
                  refine lexL_step (fun K hK => ⟨by kernel_rfl, ⟨_, rfl⟩, fun n => ?_, fun v hv => ?_⟩)
                  · go_simp
                    exact lUpon_one
                  subst hv
                  go_simp
                  refine hK _ ?_
                  clear hK K
                  refine lexL_step (fun K hK => ⟨by kernel_rfl, ⟨_, rfl⟩, fun n => ?_, fun v hv => ?_⟩)
                  · go_simp
                    exact lUpon_one
                  subst hv
                  go_simp
                  refine hK _ ?_
                  clear hK K
                  refine lexL_step (fun K hK => ⟨by kernel_rfl, ⟨_, rfl⟩, fun n => ?_, fun v hv => ?_⟩)
                  · go_simp
                    exact lUpon_one
                  subst hv
                  go_simp
                  refine hK _ ?_
                  clear hK K
                  refine lexL_step (fun K hK => ⟨by kernel_rfl, ⟨_, rfl⟩, fun n => ?_, fun v hv => ?_⟩)
                  · go_simp
                    exact lUpon_one
                  subst hv
                  go_simp
                  refine hK _ ?_
                  clear hK K
                  refine lexL_step (fun K hK => ⟨by kernel_rfl, ⟨_, rfl⟩, fun n => ?_, fun v hv => ?_⟩)
                  · go_simp
                    exact lUpon_one
                  subst hv
                  go_simp
                  refine hK _ ?_
                  clear hK K
                  refine lexL_step (fun K hK => ⟨by kernel_rfl, ⟨_, rfl⟩, fun n => ?_, fun v hv => ?_⟩)
                  · go_simp
                    exact lUpon_one
                  subst hv
                  go_simp
                  refine hK _ ?_
                  clear hK K
                  refine lexL_step (fun K hK => ⟨by kernel_rfl, ⟨_, rfl⟩, fun n => ?_, fun v hv => ?_⟩)
                  · go_simp
                    exact lUpon_one
                  subst hv
                  go_simp
                  refine hK _ ?_
                  clear hK K
                  refine lexL_step (fun K hK => ⟨by kernel_rfl, ⟨_, rfl⟩, fun n => ?_, fun v hv => ?_⟩)
                  · go_simp
                    exact lUpon_one
                  subst hv
                  go_simp
                  refine hK _ ?_
                  clear hK K
                  refine lexL_step (fun K hK => ⟨by kernel_rfl, ⟨_, rfl⟩, fun n => ?_, fun v hv => ?_⟩)
                  · go_simp
                    exact lUpon_one
                  subst hv
                  go_simp
                  refine hK _ ?_
                  clear hK K
                  refine lexL_end ?_
                  intro n8
                  have hbW := drawn_below W9 n8
                  replace HS := hideR ((unhideR HS).below hbW)
                  replace HW := hideR (below_go (unhideR HW) hbW)
                  clear cm cq hci cf cs cl
                  generalize W9.drewN n8 = W8 at *
                  clear hbW
                  have cm := unhideR HC _ (unhideR HW) m (by omega)
                  have cq := unhideR HC _ (unhideR HW) (k + 1) hk1
                  have hci := unhideR HC _ (unhideR HW) i (by omega)
                  rw [← unhideR HEm] at cm
                  rw [← unhideR HEq] at cq
                  rw [← unhideR HEi] at hci
                  obtain ⟨_, cf, cs, cl, _⟩ := (unhideR HT).below (unhideR HW)
                  have hput := fun (e : Evt) u v (hu : EvSl u v (sortV (crosses t lev (t.L.length - 1) ++ turns t lev (i - 1)))) => put_any e hu (by omega)
                  by_cases q1 : hm < hi
                  · have q2 : ¬ hi < hm := by omega
                    by_cases q3 : hq < hi
                    · by_cases q4 : lev < hi
                      · as_aux_lemma =>
                          rw [if_pos ⟨q1, q3, q4⟩] at hX
                          have HN := hideR (unhideR HN1 _ hX)
                          clear hX HX HN0 HN1
                          replace hput := hput ⟨3, t.fr + (i : Int) * t.st, (i : Int)⟩
                          go_wp2_with fail
                          clear cm cq hci cf cs cl
                          refine wp_region_made 1 #[true, true, true, true, true, true, true, true, true, true, true, true, true, true, false, false] [.lets (· = u5),
                            .lets (· = .pointer (some ⟨b, off, none⟩)),
                            .lets (· = .pointer (some ⟨b, off, none⟩)),
                            .lets (· = .pointer (some ⟨b, off, none⟩)),
                            .lets (· = .int .i64 t.fr),
                            .lets (· = .int .i64 (i : Nat)),
                            .lets (· = .pointer (some ⟨b, off, none⟩)),
                            .lets (· = .pointer (some ⟨b, off, none⟩)),
                            .lets (· = .pointer (some ⟨b, off + 1, none⟩)),
                            .lets (· = .int .i64 t.st),
                            .lets (· = .int .i64 ((i : Int) * t.st)),
                            .lets (· = .int .i64 (t.fr + (i : Int) * t.st)),
                            .lets (· = .int .i64 (i : Nat)),
                            .lets (· = .agg #[.int .i64 3, .int .i64 (t.fr + (i : Int) * t.st), .int .i64 (i : Nat)])] [] [] (by kernel_rfl) (by kernel_rfl) rfl ?kinds (by kernel_rfl) (by kernel_rfl) (by kernel_rfl) ?_
                          case kinds =>
                            constructor
                            · intro i h
                              rcases i with _ | _ | _ | _ | _ | _ | _ | _ | _ | _ | _ | _ | _ | _ | i <;> simp [Kx.isMade] at h
                            · intro i h
                              rcases i with _ | _ | _ | _ | _ | _ | _ | _ | _ | _ | _ | _ | _ | _ | i <;> simp [Kx.isUse] at h
                          refine lexX_step (fun K hK => ⟨by kernel_rfl, ⟨_, rfl⟩, fun v hv => ?_, fun v hv => ?_⟩)
                          · go_simp
                            exact mUpon_b
                          rw [hv]
                          clear hv v
                          go_simp
                          refine hK _ ?_
                          clear hK K
                          refine lexX_step (fun K hK => ⟨by kernel_rfl, ⟨_, rfl⟩, fun v hv => ?_, fun v hv => ?_⟩)
                          · go_simp
                            exact mUpon_b
                          subst hv
                          go_simp
                          refine hK _ ?_
                          clear hK K
                          refine lexX_step (fun K hK => ⟨by kernel_rfl, ⟨_, rfl⟩, fun v hv => ?_, fun v hv => ?_⟩)
                          · go_simp
                            exact mUpon_b
                          subst hv
                          go_simp
                          refine hK _ ?_
                          clear hK K
                          refine lexX_step (fun K hK => ⟨by kernel_rfl, ⟨_, rfl⟩, fun v hv => ?_, fun v hv => ?_⟩)
                          · go_simp
                            exact mUpon_b
                          subst hv
                          go_simp
                          refine hK _ ?_
                          clear hK K
                          refine lexX_step (fun K hK => ⟨by kernel_rfl, ⟨_, rfl⟩, fun v hv => ?_, fun v hv => ?_⟩)
                          · obtain ⟨_, c0, c1, c2, _⟩ := (unhideR HT).below (below_go (unhideR HW) hv)
                            go_simp
                            exact mUpon_b
                          subst hv
                          go_simp
                          refine hK _ ?_
                          clear hK K
                          refine lexX_step (fun K hK => ⟨by kernel_rfl, ⟨_, rfl⟩, fun v hv => ?_, fun v hv => ?_⟩)
                          · go_simp
                            exact mUpon_b
                          subst hv
                          go_simp
                          refine hK _ ?_
                          clear hK K
                          refine lexX_step (fun K hK => ⟨by kernel_rfl, ⟨_, rfl⟩, fun v hv => ?_, fun v hv => ?_⟩)
                          · go_simp
                            exact mUpon_b
                          subst hv
                          go_simp
                          refine hK _ ?_
                          clear hK K
                          refine lexX_step (fun K hK => ⟨by kernel_rfl, ⟨_, rfl⟩, fun v hv => ?_, fun v hv => ?_⟩)
                          · go_simp
                            exact mUpon_b
                          subst hv
                          go_simp
                          refine hK _ ?_
                          clear hK K
                          refine lexX_step (fun K hK => ⟨by kernel_rfl, ⟨_, rfl⟩, fun v hv => ?_, fun v hv => ?_⟩)
                          · go_simp
                            exact mUpon_b
                          subst hv
                          go_simp
                          refine hK _ ?_
                          clear hK K
                          refine lexX_step (fun K hK => ⟨by kernel_rfl, ⟨_, rfl⟩, fun v hv => ?_, fun v hv => ?_⟩)
                          · obtain ⟨_, c0, c1, c2, _⟩ := (unhideR HT).below (below_go (unhideR HW) hv)
                            go_simp
                            exact mUpon_b
                          subst hv
                          go_simp
                          refine hK _ ?_
                          clear hK K
                          refine lexX_step (fun K hK => ⟨by kernel_rfl, ⟨_, rfl⟩, fun v hv => ?_, fun v hv => ?_⟩)
                          · go_simp
                            exact mUpon_b
                          subst hv
                          go_simp
                          refine hK _ ?_
                          clear hK K
                          refine lexX_step (fun K hK => ⟨by kernel_rfl, ⟨_, rfl⟩, fun v hv => ?_, fun v hv => ?_⟩)
                          · go_simp
                            exact mUpon_b
                          subst hv
                          go_simp
                          refine hK _ ?_
                          clear hK K
                          refine lexX_step (fun K hK => ⟨by kernel_rfl, ⟨_, rfl⟩, fun v hv => ?_, fun v hv => ?_⟩)
                          · go_simp
                            exact mUpon_b
                          subst hv
                          go_simp
                          refine hK _ ?_
                          clear hK K
                          refine lexX_step (fun K hK => ⟨by kernel_rfl, ⟨_, rfl⟩, fun v hv => ?_, fun v hv => ?_⟩)
                          · go_simp
                            exact mUpon_b
                          subst hv
                          go_simp
                          refine hK _ ?_
                          clear hK K
                          refine lexX_end (fun v7 hv => ?_)
                          replace HS := hideR ((unhideR HS).below hv.low)
                          replace HW := hideR (below_go (unhideR HW) hv.low)
                          clear hv
                          refine wpAny_step (i := 14) (by kernel_rfl) rfl (by kernel_rfl) (fun K hK => ?_)
                          unfold Oper.wp
                          go_simp
                          refine (hput _ _ (unhideR HS)).mono ?_
                          rintro e w6 ⟨u6, rfl, hS6, k6⟩
                          have HS6 : HeldR (EvSl w6 u6 (sortV (crosses t lev (t.L.length - 1) ++ turns t lev i))) := by
                            unfold HeldR
                            rw [unhideR HN]
                            exact hS6
                          replace HW := hideR (below_go (unhideR HW) k6)
                          clear hS6 k6 hput HS HN
                          go_simp
                          refine hK _ _ ?_
                          clear hK K
                          refine wpAny_step (i := 15) (by kernel_rfl) rfl (by kernel_rfl) (fun K hK => ?_)
                          unfold Oper.wp
                          go_simp
                          refine hK _ _ ?_
                          clear hK K
                          refine wpAny_end (by kernel_rfl) ?_
                          have cm := unhideR HC _ (unhideR HW) m (by omega)
                          have cq := unhideR HC _ (unhideR HW) (k + 1) hk1
                          have hci := unhideR HC _ (unhideR HW) i (by omega)
                          rw [← unhideR HEm] at cm
                          rw [← unhideR HEq] at cq
                          rw [← unhideR HEi] at hci
                          obtain ⟨_, cf, cs, cl, _⟩ := (unhideR HT).below (unhideR HW)
                          go_wp2
                          exact ⟨⟨i + 1, by omega, by omega, by go_num, HS6, HW⟩, by simp [intOf]; omega⟩
                      · rw [if_neg (by omega), if_neg (by omega)] at hX
                        have HS6 : HeldR (EvSl W8 u5 (sortV (crosses t lev (t.L.length - 1) ++ turns t lev i))) := by
                          unfold HeldR
                          rw [unhideR HN0 hX]
                          exact unhideR HS
                        clear hX HX HN0 HN1 HS
                        go_wp2
                        exact ⟨⟨i + 1, by omega, by omega, by go_num, HS6, HW⟩, by simp [intOf]; omega⟩
                    · rw [if_neg (by omega), if_neg (by omega)] at hX
                      have HS6 : HeldR (EvSl W8 u5 (sortV (crosses t lev (t.L.length - 1) ++ turns t lev i))) := by
                        unfold HeldR
                        rw [unhideR HN0 hX]
                        exact unhideR HS
                      clear hX HX HN0 HN1 HS
                      go_wp2
                      exact ⟨⟨i + 1, by omega, by omega, by go_num, HS6, HW⟩, by simp [intOf]; omega⟩
                  · have q2 : hi < hm := by omega
                    by_cases q3 : hi < hq
                    · by_cases q4 : hi ≤ lev
                      · as_aux_lemma =>
                          rw [if_neg (by omega), if_pos ⟨q2, q3, q4⟩] at hX
                          have HN := hideR (unhideR HN1 _ hX)
                          clear hX HX HN0 HN1
                          replace hput := hput ⟨4, t.fr + (i : Int) * t.st, (i : Int)⟩
                          go_wp2_with fail
                          clear cm cq hci cf cs cl
                          refine wp_region_made 1 #[true, true, true, true, true, true, true, true, true, true, true, true, true, true, false, false] [.lets (· = u5),
                            .lets (· = .pointer (some ⟨b, off, none⟩)),
                            .lets (· = .pointer (some ⟨b, off, none⟩)),
                            .lets (· = .pointer (some ⟨b, off, none⟩)),
                            .lets (· = .int .i64 t.fr),
                            .lets (· = .int .i64 (i : Nat)),
                            .lets (· = .pointer (some ⟨b, off, none⟩)),
                            .lets (· = .pointer (some ⟨b, off, none⟩)),
                            .lets (· = .pointer (some ⟨b, off + 1, none⟩)),
                            .lets (· = .int .i64 t.st),
                            .lets (· = .int .i64 ((i : Int) * t.st)),
                            .lets (· = .int .i64 (t.fr + (i : Int) * t.st)),
                            .lets (· = .int .i64 (i : Nat)),
                            .lets (· = .agg #[.int .i64 4, .int .i64 (t.fr + (i : Int) * t.st), .int .i64 (i : Nat)])] [] [] (by kernel_rfl) (by kernel_rfl) rfl ?kinds (by kernel_rfl) (by kernel_rfl) (by kernel_rfl) ?_
                          case kinds =>
                            constructor
                            · intro i h
                              rcases i with _ | _ | _ | _ | _ | _ | _ | _ | _ | _ | _ | _ | _ | _ | i <;> simp [Kx.isMade] at h
                            · intro i h
                              rcases i with _ | _ | _ | _ | _ | _ | _ | _ | _ | _ | _ | _ | _ | _ | i <;> simp [Kx.isUse] at h
                          refine lexX_step (fun K hK => ⟨by kernel_rfl, ⟨_, rfl⟩, fun v hv => ?_, fun v hv => ?_⟩)
                          · go_simp
                            exact mUpon_b
                          rw [hv]
                          clear hv v
                          go_simp
                          refine hK _ ?_
                          clear hK K
                          refine lexX_step (fun K hK => ⟨by kernel_rfl, ⟨_, rfl⟩, fun v hv => ?_, fun v hv => ?_⟩)
                          · go_simp
                            exact mUpon_b
                          subst hv
                          go_simp
                          refine hK _ ?_
                          clear hK K
                          refine lexX_step (fun K hK => ⟨by kernel_rfl, ⟨_, rfl⟩, fun v hv => ?_, fun v hv => ?_⟩)
                          · go_simp
                            exact mUpon_b
                          subst hv
                          go_simp
                          refine hK _ ?_
                          clear hK K
                          refine lexX_step (fun K hK => ⟨by kernel_rfl, ⟨_, rfl⟩, fun v hv => ?_, fun v hv => ?_⟩)
                          · go_simp
                            exact mUpon_b
                          subst hv
                          go_simp
                          refine hK _ ?_
                          clear hK K
                          refine lexX_step (fun K hK => ⟨by kernel_rfl, ⟨_, rfl⟩, fun v hv => ?_, fun v hv => ?_⟩)
                          · obtain ⟨_, c0, c1, c2, _⟩ := (unhideR HT).below (below_go (unhideR HW) hv)
                            go_simp
                            exact mUpon_b
                          subst hv
                          go_simp
                          refine hK _ ?_
                          clear hK K
                          refine lexX_step (fun K hK => ⟨by kernel_rfl, ⟨_, rfl⟩, fun v hv => ?_, fun v hv => ?_⟩)
                          · go_simp
                            exact mUpon_b
                          subst hv
                          go_simp
                          refine hK _ ?_
                          clear hK K
                          refine lexX_step (fun K hK => ⟨by kernel_rfl, ⟨_, rfl⟩, fun v hv => ?_, fun v hv => ?_⟩)
                          · go_simp
                            exact mUpon_b
                          subst hv
                          go_simp
                          refine hK _ ?_
                          clear hK K
                          refine lexX_step (fun K hK => ⟨by kernel_rfl, ⟨_, rfl⟩, fun v hv => ?_, fun v hv => ?_⟩)
                          · go_simp
                            exact mUpon_b
                          subst hv
                          go_simp
                          refine hK _ ?_
                          clear hK K
                          refine lexX_step (fun K hK => ⟨by kernel_rfl, ⟨_, rfl⟩, fun v hv => ?_, fun v hv => ?_⟩)
                          · go_simp
                            exact mUpon_b
                          subst hv
                          go_simp
                          refine hK _ ?_
                          clear hK K
                          refine lexX_step (fun K hK => ⟨by kernel_rfl, ⟨_, rfl⟩, fun v hv => ?_, fun v hv => ?_⟩)
                          · obtain ⟨_, c0, c1, c2, _⟩ := (unhideR HT).below (below_go (unhideR HW) hv)
                            go_simp
                            exact mUpon_b
                          subst hv
                          go_simp
                          refine hK _ ?_
                          clear hK K
                          refine lexX_step (fun K hK => ⟨by kernel_rfl, ⟨_, rfl⟩, fun v hv => ?_, fun v hv => ?_⟩)
                          · go_simp
                            exact mUpon_b
                          subst hv
                          go_simp
                          refine hK _ ?_
                          clear hK K
                          refine lexX_step (fun K hK => ⟨by kernel_rfl, ⟨_, rfl⟩, fun v hv => ?_, fun v hv => ?_⟩)
                          · go_simp
                            exact mUpon_b
                          subst hv
                          go_simp
                          refine hK _ ?_
                          clear hK K
                          refine lexX_step (fun K hK => ⟨by kernel_rfl, ⟨_, rfl⟩, fun v hv => ?_, fun v hv => ?_⟩)
                          · go_simp
                            exact mUpon_b
                          subst hv
                          go_simp
                          refine hK _ ?_
                          clear hK K
                          refine lexX_step (fun K hK => ⟨by kernel_rfl, ⟨_, rfl⟩, fun v hv => ?_, fun v hv => ?_⟩)
                          · go_simp
                            exact mUpon_b
                          subst hv
                          go_simp
                          refine hK _ ?_
                          clear hK K
                          refine lexX_end (fun v7 hv => ?_)
                          replace HS := hideR ((unhideR HS).below hv.low)
                          replace HW := hideR (below_go (unhideR HW) hv.low)
                          clear hv
                          refine wpAny_step (i := 14) (by kernel_rfl) rfl (by kernel_rfl) (fun K hK => ?_)
                          unfold Oper.wp
                          go_simp
                          refine (hput _ _ (unhideR HS)).mono ?_
                          rintro e w6 ⟨u6, rfl, hS6, k6⟩
                          have HS6 : HeldR (EvSl w6 u6 (sortV (crosses t lev (t.L.length - 1) ++ turns t lev i))) := by
                            unfold HeldR
                            rw [unhideR HN]
                            exact hS6
                          replace HW := hideR (below_go (unhideR HW) k6)
                          clear hS6 k6 hput HS HN
                          go_simp
                          refine hK _ _ ?_
                          clear hK K
                          refine wpAny_step (i := 15) (by kernel_rfl) rfl (by kernel_rfl) (fun K hK => ?_)
                          unfold Oper.wp
                          go_simp
                          refine hK _ _ ?_
                          clear hK K
                          refine wpAny_end (by kernel_rfl) ?_
                          have cm := unhideR HC _ (unhideR HW) m (by omega)
                          have cq := unhideR HC _ (unhideR HW) (k + 1) hk1
                          have hci := unhideR HC _ (unhideR HW) i (by omega)
                          rw [← unhideR HEm] at cm
                          rw [← unhideR HEq] at cq
                          rw [← unhideR HEi] at hci
                          obtain ⟨_, cf, cs, cl, _⟩ := (unhideR HT).below (unhideR HW)
                          go_wp2
                          exact ⟨⟨i + 1, by omega, by omega, by go_num, HS6, HW⟩, by simp [intOf]; omega⟩
                      · rw [if_neg (by omega), if_neg (by omega)] at hX
                        have HS6 : HeldR (EvSl W8 u5 (sortV (crosses t lev (t.L.length - 1) ++ turns t lev i))) := by
                          unfold HeldR
                          rw [unhideR HN0 hX]
                          exact unhideR HS
                        clear hX HX HN0 HN1 HS
                        go_wp2
                        exact ⟨⟨i + 1, by omega, by omega, by go_num, HS6, HW⟩, by simp [intOf]; omega⟩
                    · rw [if_neg (by omega), if_neg (by omega)] at hX
                      have HS6 : HeldR (EvSl W8 u5 (sortV (crosses t lev (t.L.length - 1) ++ turns t lev i))) := by
                        unfold HeldR
                        rw [unhideR HN0 hX]
                        exact unhideR HS
                      clear hX HX HN0 HN1 HS
                      go_wp2
                      exact ⟨⟨i + 1, by omega, by omega, by go_num, HS6, HW⟩, by simp [intOf]; omega⟩
            · as_aux_lemma =>
                have hkl : k = t.L.length - 1 := by omega
                have bi : decide ((k : Int) + 1 < (t.L.length : Int)) = false := decide_eq_false (by omega)
                have hIs : IsEnd t i k := ⟨hik, hkn, unhideR HSame, fun h => absurd h hk1⟩
                have hrun : runEnd t i t.L.length = k := (runEnd_is (by omega)).unique hIs
                have hX : turnV t lev i k = [] := by
                  unfold turnV
                  rw [if_pos (.inl hkl)]
                have HS6 : HeldR (EvSl wr u5 (sortV (crosses t lev (t.L.length - 1) ++ turns t lev i))) := by
                  unfold HeldR
                  have e' := unhideR HMM
                  rw [← hrun] at hX
                  rw [e'] at hX ⊢
                  rw [turn_none hX]
                  have := unhideR HS
                  rw [e', Nat.add_sub_cancel] at this
                  exact this
                have hwk : IntKind.i64.wrap ((k : Int) + 1) = (k : Int) + 1 := iwrap (by omega) (by omega)
                have wn : IntKind.i64.wrap ((t.L.length : Int) - 1) = (t.L.length : Int) - 1 := iwrap (by omega) (by omega)
                have bl : ((k : Int) == (t.L.length : Int) - 1) = true := by simp; omega
                clear hX hrun hIs HSame HS hkl
                go_wp2_with fail
                refine wp_region_lets [(· = .int .i64 (k : Nat)),
                  (· = .int .i64 ((k : Int) + 1)),
                  (· = .int .i64 (t.L.length : Nat)),
                  (· = .bool false),
                  (· = .bool false),
                  (· = undef),
                  (· = undef),
                  (· = undef),
                  (· = undef),
                  (· = undef),
                  (· = undef),
                  (· = undef),
                  (· = undef),
                  (· = undef),
                  (· = undef),
                  (· = undef),
                  (· = undef),
                  (· = undef),
                  (· = undef),
                  (· = undef),
                  (· = undef),
                  (· = .bool false)] (by kernel_rfl) (by kernel_rfl) ?_
                refine lexL_step (fun K hK => ⟨by kernel_rfl, ⟨_, rfl⟩, fun n => ?_, fun v hv => ?_⟩)
                · go_simp
                  exact lUpon_one
                subst hv
                go_simp
                refine hK _ ?_
                clear hK K
                refine lexL_step (fun K hK => ⟨by kernel_rfl, ⟨_, rfl⟩, fun n => ?_, fun v hv => ?_⟩)
                · go_simp
                  exact lUpon_one
                subst hv
                go_simp
                refine hK _ ?_
                clear hK K
                refine lexL_step (fun K hK => ⟨by kernel_rfl, ⟨_, rfl⟩, fun n => ?_, fun v hv => ?_⟩)
                · go_simp
                  exact lUpon_one
                subst hv
                go_simp
                refine hK _ ?_
                clear hK K
                refine lexL_step (fun K hK => ⟨by kernel_rfl, ⟨_, rfl⟩, fun n => ?_, fun v hv => ?_⟩)
                · go_simp
                  exact lUpon_one
                subst hv
                go_simp
                refine hK _ ?_
                clear hK K
                refine lexL_step (fun K hK => ⟨by kernel_rfl, ⟨_, rfl⟩, fun n => ?_, fun v hv => ?_⟩)
                · go_simp
                  exact lUpon_one
                subst hv
                go_simp
                refine hK _ ?_
                clear hK K
                refine lexL_skip (fun K hK => ⟨by kernel_rfl, ?_⟩)
                go_simp
                refine hK _ ?_
                clear hK K
                refine lexL_skip (fun K hK => ⟨by kernel_rfl, ?_⟩)
                go_simp
                refine hK _ ?_
                clear hK K
                refine lexL_skip (fun K hK => ⟨by kernel_rfl, ?_⟩)
                go_simp
                refine hK _ ?_
                clear hK K
                refine lexL_skip (fun K hK => ⟨by kernel_rfl, ?_⟩)
                go_simp
                refine hK _ ?_
                clear hK K
                refine lexL_skip (fun K hK => ⟨by kernel_rfl, ?_⟩)
                go_simp
                refine hK _ ?_
                clear hK K
                refine lexL_skip (fun K hK => ⟨by kernel_rfl, ?_⟩)
                go_simp
                refine hK _ ?_
                clear hK K
                refine lexL_skip (fun K hK => ⟨by kernel_rfl, ?_⟩)
                go_simp
                refine hK _ ?_
                clear hK K
                refine lexL_skip (fun K hK => ⟨by kernel_rfl, ?_⟩)
                go_simp
                refine hK _ ?_
                clear hK K
                refine lexL_skip (fun K hK => ⟨by kernel_rfl, ?_⟩)
                go_simp
                refine hK _ ?_
                clear hK K
                refine lexL_skip (fun K hK => ⟨by kernel_rfl, ?_⟩)
                go_simp
                refine hK _ ?_
                clear hK K
                refine lexL_skip (fun K hK => ⟨by kernel_rfl, ?_⟩)
                go_simp
                refine hK _ ?_
                clear hK K
                refine lexL_skip (fun K hK => ⟨by kernel_rfl, ?_⟩)
                go_simp
                refine hK _ ?_
                clear hK K
                refine lexL_skip (fun K hK => ⟨by kernel_rfl, ?_⟩)
                go_simp
                refine hK _ ?_
                clear hK K
                refine lexL_skip (fun K hK => ⟨by kernel_rfl, ?_⟩)
                go_simp
                refine hK _ ?_
                clear hK K
                refine lexL_skip (fun K hK => ⟨by kernel_rfl, ?_⟩)
                go_simp
                refine hK _ ?_
                clear hK K
                refine lexL_skip (fun K hK => ⟨by kernel_rfl, ?_⟩)
                go_simp
                refine hK _ ?_
                clear hK K
                refine lexL_step (fun K hK => ⟨by kernel_rfl, ⟨_, rfl⟩, fun n => ?_, fun v hv => ?_⟩)
                · go_simp
                  exact lUpon_one
                subst hv
                go_simp
                refine hK _ ?_
                clear hK K
                refine lexL_end ?_
                intro n9
                have hbW := drawn_below wr n9
                replace HS6 := hideR ((unhideR HS6).below hbW)
                replace HW := hideR (below_go (unhideR HW) hbW)
                generalize wr.drewN n9 = W9 at *
                clear hbW
                go_wp2_with fail
                refine wp_region_lets [(· = .int .i64 (k : Nat)),
                  (· = .int .i64 (t.L.length : Nat)),
                  (· = .int .i64 ((t.L.length : Int) - 1)),
                  (· = .bool true),
                  (· = .bool true),
                  (· = undef),
                  (· = undef),
                  (· = undef),
                  (· = undef),
                  (· = undef),
                  (· = undef),
                  (· = undef),
                  (· = undef),
                  (· = undef),
                  (· = undef),
                  (· = undef),
                  (· = undef),
                  (· = undef),
                  (· = undef),
                  (· = undef),
                  (· = undef),
                  (· = .bool true)] (by kernel_rfl) (by kernel_rfl) ?_
                refine lexL_step (fun K hK => ⟨by kernel_rfl, ⟨_, rfl⟩, fun n => ?_, fun v hv => ?_⟩)
                · go_simp
                  exact lUpon_one
                subst hv
                go_simp
                refine hK _ ?_
                clear hK K
                refine lexL_step (fun K hK => ⟨by kernel_rfl, ⟨_, rfl⟩, fun n => ?_, fun v hv => ?_⟩)
                · go_simp
                  exact lUpon_one
                subst hv
                go_simp
                refine hK _ ?_
                clear hK K
                refine lexL_step (fun K hK => ⟨by kernel_rfl, ⟨_, rfl⟩, fun n => ?_, fun v hv => ?_⟩)
                · go_simp
                  exact lUpon_one
                subst hv
                go_simp
                refine hK _ ?_
                clear hK K
                refine lexL_step (fun K hK => ⟨by kernel_rfl, ⟨_, rfl⟩, fun n => ?_, fun v hv => ?_⟩)
                · go_simp
                  exact lUpon_one
                subst hv
                go_simp
                refine hK _ ?_
                clear hK K
                refine lexL_step (fun K hK => ⟨by kernel_rfl, ⟨_, rfl⟩, fun n => ?_, fun v hv => ?_⟩)
                · go_simp
                  exact lUpon_one
                subst hv
                go_simp
                refine hK _ ?_
                clear hK K
                refine lexL_skip (fun K hK => ⟨by kernel_rfl, ?_⟩)
                go_simp
                refine hK _ ?_
                clear hK K
                refine lexL_skip (fun K hK => ⟨by kernel_rfl, ?_⟩)
                go_simp
                refine hK _ ?_
                clear hK K
                refine lexL_skip (fun K hK => ⟨by kernel_rfl, ?_⟩)
                go_simp
                refine hK _ ?_
                clear hK K
                refine lexL_skip (fun K hK => ⟨by kernel_rfl, ?_⟩)
                go_simp
                refine hK _ ?_
                clear hK K
                refine lexL_skip (fun K hK => ⟨by kernel_rfl, ?_⟩)
                go_simp
                refine hK _ ?_
                clear hK K
                refine lexL_skip (fun K hK => ⟨by kernel_rfl, ?_⟩)
                go_simp
                refine hK _ ?_
                clear hK K
                refine lexL_skip (fun K hK => ⟨by kernel_rfl, ?_⟩)
                go_simp
                refine hK _ ?_
                clear hK K
                refine lexL_skip (fun K hK => ⟨by kernel_rfl, ?_⟩)
                go_simp
                refine hK _ ?_
                clear hK K
                refine lexL_skip (fun K hK => ⟨by kernel_rfl, ?_⟩)
                go_simp
                refine hK _ ?_
                clear hK K
                refine lexL_skip (fun K hK => ⟨by kernel_rfl, ?_⟩)
                go_simp
                refine hK _ ?_
                clear hK K
                refine lexL_skip (fun K hK => ⟨by kernel_rfl, ?_⟩)
                go_simp
                refine hK _ ?_
                clear hK K
                refine lexL_skip (fun K hK => ⟨by kernel_rfl, ?_⟩)
                go_simp
                refine hK _ ?_
                clear hK K
                refine lexL_skip (fun K hK => ⟨by kernel_rfl, ?_⟩)
                go_simp
                refine hK _ ?_
                clear hK K
                refine lexL_skip (fun K hK => ⟨by kernel_rfl, ?_⟩)
                go_simp
                refine hK _ ?_
                clear hK K
                refine lexL_skip (fun K hK => ⟨by kernel_rfl, ?_⟩)
                go_simp
                refine hK _ ?_
                clear hK K
                refine lexL_skip (fun K hK => ⟨by kernel_rfl, ?_⟩)
                go_simp
                refine hK _ ?_
                clear hK K
                refine lexL_step (fun K hK => ⟨by kernel_rfl, ⟨_, rfl⟩, fun n => ?_, fun v hv => ?_⟩)
                · go_simp
                  exact lUpon_one
                subst hv
                go_simp
                refine hK _ ?_
                clear hK K
                refine lexL_end ?_
                intro n8
                replace HS6 := hideR ((unhideR HS6).below (drawn_below W9 n8))
                replace HW := hideR (below_go (unhideR HW) (drawn_below W9 n8))
                go_wp2
                exact ⟨⟨i + 1, by omega, by omega, by go_num, HS6, HW⟩, by simp [intOf]; omega⟩
        · have hin : i - 1 = t.L.length - 2 := by omega
          rw [hin] at HS
          have HF : HeldR (EvSl wr u5 EV) := by
            unfold HeldR
            rw [unhideR HEnd]
            exact unhideR HS
          clear HS hin
          go_wp2
          go_ret
          exact ⟨_, rfl, unhideR HF, unhideR HW⟩
end Go.Proofs.YtlhjmmcimhceeagDoor
