/-
  The program's Windows, by contract.
-/
import Derived.Test.YtlhjmmcimhceeahDoorDE10
import Derived.Test.YtlhjmmcimhceeahDoorEvWp
import Derived.Test.YtlhjmmcimhceeahDoorEvWd
namespace Go.Proofs.YtlhjmmcimhceeahDoor
open Go Go.RowKit

theorem cross_in {t : Tr} (h : TrOk t) (lev : Int) {i : Nat} (hi : i + 1 < t.L.length) : ∀ e ∈ crossV t lev i, (e.k = 1 ∨ e.k = 2) ∧ -300000000000000000 ≤ e.at_ ∧ e.at_ ≤ 900000000000000000 := by
  intro e he
  have s1 := h.s1
  have s2 := h.step
  have j := (h.inst (show i < t.L.length by omega)).2.2
  by_cases a1 : lev < t.h i
  · by_cases a2 : lev < t.h (i + 1)
    · rw [cross_nil (by constructor <;> intro <;> assumption)] at he
      cases he
    · rw [cross_set a1 (by omega), List.mem_singleton] at he
      subst he
      have u := up_in (a := t.st) (b := t.h i - lev) (c := t.h i - t.h (i + 1)) (by omega) (by omega) (by omega) (by omega)
      refine ⟨.inr rfl, ?_, ?_⟩
      · show -300000000000000000 ≤ t.fr + (i : Int) * t.st + upV t.st (t.h i - lev) (t.h i - t.h (i + 1))
        omega
      · show t.fr + (i : Int) * t.st + upV t.st (t.h i - lev) (t.h i - t.h (i + 1)) ≤ 900000000000000000
        omega
  · by_cases a2 : lev < t.h (i + 1)
    · rw [cross_rise (by omega) a2, List.mem_singleton] at he
      subst he
      have u := down_in (a := t.st) (b := lev - t.h i) (c := t.h (i + 1) - t.h i) (by omega) (by omega) (by omega) (by omega)
      refine ⟨.inl rfl, ?_, ?_⟩
      · show -300000000000000000 ≤ t.fr + (i : Int) * t.st + downV t.st (lev - t.h i) (t.h (i + 1) - t.h i)
        omega
      · show t.fr + (i : Int) * t.st + downV t.st (lev - t.h i) (t.h (i + 1) - t.h i) ≤ 900000000000000000
        omega
    · rw [cross_nil (by constructor <;> intro <;> contradiction)] at he
      cases he
theorem crosses_in {t : Tr} (h : TrOk t) (lev : Int) : ∀ c, c < t.L.length → ∀ e ∈ crosses t lev c, (e.k = 1 ∨ e.k = 2) ∧ -300000000000000000 ≤ e.at_ ∧ e.at_ ≤ 900000000000000000
  | 0, _, e, he => by cases he
  | c + 1, hc, e, he => by
    unfold crosses at he
    rcases List.mem_append.1 he with he | he
    · exact crosses_in h lev c (by omega) e he
    · exact cross_in h lev hc e he
theorem winL_length (l : List Evt) (s : List Spn × Int) : (l.foldl winL s).1.length ≤ s.1.length + l.length := by
  induction l generalizing s with
  | nil => exact Nat.le_refl _
  | cons e l ih =>
    rw [List.foldl_cons, List.length_cons]
    refine Nat.le_trans (ih _) ?_
    unfold winL
    split
    · show s.1.length + l.length ≤ _
      omega
    · rw [List.length_append, List.length_singleton]
      omega
theorem winL_next {l : List Evt} {k : Nat} (h : k < l.length) (s : List Spn × Int) : (l.take (k + 1)).foldl winL s = winL ((l.take k).foldl winL s) (l.getD k ev0) := by
  rw [Evtake h, List.foldl_append]
  rfl
theorem sp_two {w : World} {b : Nat} {s : Spn} {ty : TypeId} (h : w.heap[b]? = some (.cells #[.int .i64 s.f, .int .i64 s.t] ty)) : ∀ j u, (valSp s)[j]? = some u → w.cell? ((⟨b, 0, none⟩ : Addr).add j) = some u := by
  intro j u hu
  have hj : j < 2 := by
    have := (List.getElem?_eq_some_iff.1 hu).1
    simpa [valSp] using this
  rw [add_pl2, Nat.zero_add]
  have c0 := (cells_at h 0 (by simp)).1
  have c1 := (cells_at h 1 (by simp)).1
  rcases (show j = 0 ∨ j = 1 by omega) with rfl | rfl
  · rw [c0]; exact hu
  · rw [c1]; exact hu
def WinPost (a : Nat → Addr) (t : Tr) (lev : Int) (w : World) (e : Ending) (w' : World) : Prop := ∃ (x : Value) (S : List Spn) (ad : Option Addr) (cap : Nat), e = .returned (.tuple #[.slice ad S.length cap, x]) ∧ ErrIs a (evE t lev) x ∧ (evE t lev ≠ 0 → S = []) ∧
    (evE t lev = 0 → riseV S ∧ S.length ≤ 20000 ∧ (∀ k, k < S.length → t.fr ≤ (S.getD k sp0).f ∧ (S.getD k sp0).t ≤ t.last + 1) ∧ ∀ y, t.fr ≤ y → y ≤ t.last → inV S y = aboveV t lev y) ∧ SpCame w' ad S ∧ Below w.heap.size w w'
set_option maxRecDepth 100000 in
set_option maxHeartbeats 3200000 in
theorem win_ok (a : Nat → Addr) : WinOK a := by
  intro v t lev w hS h hl
  show Calls _ _ _ _ (WinPost a t lev w)
  obtain ⟨i0, hi0, hz0, hz1, hz2⟩ := info_parts infoSp
  have hv := h
  obtain ⟨ad, cap, rfl, hi⟩ := h
  have hta := takes_any a lev (hS.below (below_a w (.cells #[.int .i64 t.fr, .int .i64 t.st, .slice ad t.L.length cap] 32)) (Nat.le_refl _)) (hv.below (below_a w (.cells #[.int .i64 t.fr, .int .i64 t.st, .slice ad t.L.length cap] 32))) hl
  have HV := hideR hv
  have HI := hideR hi
  have HB := hideR (alloc_last w (.cells #[.int .i64 t.fr, .int .i64 t.st, .slice ad t.L.length cap] 32))
  have HW0 := hideR (below_a w (.cells #[.int .i64 t.fr, .int .i64 t.st, .slice ad t.L.length cap] 32))
  have HZ : HeldR (evE t lev = 0 → TrOk t) := ev_zero
  clear hS hi hv
  go_enter Tryd.func8, Tryd.ntmps8
  go_wp2_with fail
  refine hta.mono ?_
  rintro e w1 ⟨y, rfl, hy, k1⟩
  have HW := hideR (below_go (unhideR HW0) k1)
  replace HB := hideR (keepB (unhideR HB) k1)
  clear k1 hta HW0
  rcases hy with ⟨hy0, rfl⟩ | ⟨k, hk, hyk, rfl⟩
  case inr =>
    have HX : HeldR (ErrIs a (evE t lev) (.iface 147 (.pointer (some (a k))))) := by
      unfold HeldR
      rw [hyk]
      exact err_at k hk
    have HN : HeldR (evE t lev ≠ 0) := by unfold HeldR; omega
    clear hyk
    go_wp2
    go_ret2
    unfold WinPost
    exact ⟨_, [], none, 0, rfl, unhideR HX, fun _ => rfl, fun q => absurd q (unhideR HN), SpCame.nil _ _, unhideR HW⟩
  case inl =>
    have hO := unhideR HZ hy0
    have HX : HeldR (ErrIs a (evE t lev) .nilIface) := .inl ⟨hy0, rfl⟩
    have HY := hideR hy0
    have hcr := crossings_any lev ((unhideR HV).below (unhideR HW)) hO
    have HLa := hideR (fun u (k : Below w.heap.size w u) => last_any ((unhideR HV).below k) hO)
    have HWr := hideR (windows_right hO lev)
    have HIn := hideR (crosses_in hO lev (t.L.length - 1) (by have := hO.n1; omega))
    have cn := crosses_length t lev (t.L.length - 1)
    have n2 := hO.n2
    have n1 := hO.n1
    have l1 := hO.l1
    have l2 := hO.l2
    have HWv : HeldR (windowsV t lev = if lev < t.h (t.L.length - 1) then ((crosses t lev (t.L.length - 1)).foldl winL ([], t.fr)).1 ++ [⟨((crosses t lev (t.L.length - 1)).foldl winL ([], t.fr)).2, t.last + 1⟩] else ((crosses t lev (t.L.length - 1)).foldl winL ([], t.fr)).1) := rfl
    obtain ⟨b1, o1, rfl, _, _⟩ := (unhideR HI).at_ 0 (by omega)
    obtain ⟨⟨c0, c1, c2⟩, _⟩ := three_cells (unhideR HB)
    clear hO hy0 HZ
    generalize crosses t lev (t.L.length - 1) = C at *
    have lc : C.length ≤ 4000 := by omega
    clear cn
    go_wp2_with fail
    refine hcr.mono ?_
    rintro e w2 ⟨u2, rfl, ho2, k2⟩
    have HW2 := hideR (below_go (unhideR HW) k2)
    have HB2 := hideR (keepB (unhideR HB) k2)
    obtain ⟨adc, capc, rfl, hcm⟩ := Evown ho2
    have HCM := hideR hcm
    clear c0 c1 c2 hcr k2 ho2 hcm HW HB
    go_wp2
    go_loopw [7, 8, 23] (fun lv fv iv wl => ∃ k : Nat, k ≤ C.length ∧ iv = .int .i64 (k : Nat) ∧ fv = .int .i64 (((C.take k).foldl winL ([], t.fr)).2) ∧ HeldR (wl.ownsRow w2.heap.size 40 2 lv ((C.take k).foldl winL ([], t.fr)).1.length (flatSp ((C.take k).foldl winL ([], t.fr)).1)) ∧ HeldR (Below w2.heap.size w2 wl)) (fun _ _ iv _ => C.length + 1 - (intOf iv).toNat)
    case atStart => exact ⟨0, by omega, rfl, rfl, World.ownsRow_nil _ _ _ _, hideR (Below.refl _ _)⟩
    case round =>
      obtain ⟨k, hk, rfl, rfl, HR, HK⟩ := hrel
      have lk := (unhideR HK).size
      by_cases hlt : k < C.length
      · obtain ⟨be, oe, rfl, hbe, hat⟩ := ((unhideR HCM).below (unhideR HK)).at_ k hlt
        obtain ⟨c0, c1, c2⟩ := hat
        have hin := unhideR HIn (C.getD k ev0) (by rw [List.getD_eq_getElem?_getD, List.getElem?_eq_getElem hlt]; exact List.getElem_mem hlt)
        have HN := hideR (winL_next hlt ([], t.fr))
        have hln := winL_length (C.take k) ([], t.fr)
        have htk : (C.take k).length ≤ k := by rw [List.length_take]; omega
        have hl0 : ([] : List Spn).length = 0 := rfl
        have hl2 : ((C.take k).foldl winL ([], t.fr)).1.length ≤ k := by
          have : (([], t.fr) : List Spn × Int).1.length = 0 := rfl
          omega
        clear hln htk hl0
        generalize (C.take k).foldl winL ([], t.fr) = s at *
        generalize C.getD k ev0 = x at *
        obtain ⟨hk12, a1, a2⟩ := hin
        have wx : IntKind.i64.wrap (x.at_ + 1) = x.at_ + 1 := iwrap (by omega) (by omega)
        by_cases hr : x.k = 1
        · have tr : (x.k == 1) = true := by simp [hr]
          have HS2 : HeldR ((C.take (k + 1)).foldl winL ([], t.fr) = (s.1, x.at_ + 1)) := by
            unfold HeldR
            rw [unhideR HN]
            unfold winL
            rw [if_pos hr]
          have HR2 := fun o => hideR (own_below2 (unhideR HR) (below_a wr o))
          have HK2 := fun o => hideR (below_go (unhideR HK) (below_a wr o))
          clear HN HR HK
          go_wp2
          exact ⟨⟨k + 1, by omega, by go_num, by rw [unhideR HS2], by rw [unhideR HS2]; exact HR2 _, HK2 _⟩, by simp [intOf]; omega⟩
        · have tr : (x.k == 1) = false := by simp [hr]
          have HS2 : HeldR ((C.take (k + 1)).foldl winL ([], t.fr) = (s.1 ++ [⟨s.2, x.at_⟩], s.2)) := by
            unfold HeldR
            rw [unhideR HN]
            unfold winL
            rw [if_neg hr]
          obtain ⟨p, hp⟩ : ∃ p : Spn, p = ⟨s.2, x.at_⟩ := ⟨_, rfl⟩
          have p1 : s.2 = p.f := by rw [hp]
          have p2 : x.at_ = p.t := by rw [hp]
          rw [← hp] at HS2
          have HP1 := hideR p1
          have HP2 := hideR p2
          have hcx : ∀ o j u, (valSp p)[j]? = some u → ((wr.alloc o).alloc (.cells #[.int .i64 s.2, .int .i64 x.at_] 40)).cell? ((⟨wr.heap.size + 1, 0, none⟩ : Addr).add j) = some u := by
            intro o
            have := alloc_two' wr o (.cells #[.int .i64 s.2, .int .i64 x.at_] 40)
            rw [p1, p2] at this ⊢
            exact sp_two this
          have HCX := hideR hcx
          clear hcx HN p1 p2 hp
          go_wp2_with (first
            | (at_builtin; refine wpList_append_own _ rfl _ _ 28 rfl w2.heap.size 40 i0 Spzv 2 16 Tryd.underlying28 hi0 hz0 hz1 hz2 rfl (by decide) _ s.1.length (flatSp s.1) rfl (own_below2 (unhideR HR) (below_go (below_a _ _) (below_a _ _))) ⟨wr.heap.size + 1, 0, none⟩ 1 1 (valSp p) rfl rfl ?c1 ?c2 ?c3 ?c4 ?c5 ?_))
          case c1 => exact unhideR HCX _
          case c2 =>
            intro u hu
            exact flatSp_one [p] u (by simpa [flatSp] using hu)
          case c3 => unfold maxLen; omega
          case c4 => omega
          case c5 => simp; omega
          intro v3 w3 hown2 hgrow2 _
          have B3 := hideR ((below_go (unhideR HK) (below_go (below_a wr _) (below_a _ _))).grown hgrow2 (by simp; omega) (fun g h => own_at2 (unhideR HR) g h))
          have O3 : HeldR (w3.ownsRow w2.heap.size 40 2 v3 (s.1 ++ [p]).length (flatSp (s.1 ++ [p]))) := by
            unfold HeldR
            rw [flatSp_append, List.length_append, show flatSp [p] = valSp p from List.append_nil _]
            exact hown2
          clear hown2 hgrow2 HR HK
          go_wp2
          exact ⟨⟨k + 1, by omega, by go_num, by rw [unhideR HS2], by rw [unhideR HS2]; exact O3, B3⟩, by simp [intOf]; omega⟩
      · obtain rfl : k = C.length := by omega
        rw [List.take_length] at HR ⊢
        obtain ⟨m, hm⟩ : ∃ m, t.L.length = m + 1 := ⟨t.L.length - 1, by omega⟩
        have hml : m < t.L.length := by omega
        have wn : IntKind.i64.wrap ((t.L.length : Int) - 1) = (m : Int) := by
          rw [show (t.L.length : Int) - 1 = (m : Int) by omega]
          exact iwrap (by omega) (by omega)
        have hc : wr.cell? ⟨b1, o1 + m, none⟩ = some (.int .i64 (t.h m)) := heights_at (unhideR HI) (below_go (unhideR HW2) (unhideR HK)) hml
        obtain ⟨⟨c0, c1, c2⟩, _⟩ := three_cells (keepB (unhideR HB2) (unhideR HK))
        have HWv2 := unhideR HWv
        rw [show t.L.length - 1 = m by omega] at HWv2
        have hln := winL_length C ([], t.fr)
        have hl2 : (C.foldl winL ([], t.fr)).1.length ≤ 4000 := by
          have : (([], t.fr) : List Spn × Int).1.length = 0 := rfl
          omega
        have HFin : HeldR (∀ w9 : World, Below w.heap.size w w9 → ∀ (u : Value), w9.ownsRow w2.heap.size 40 2 u (windowsV t lev).length (flatSp (windowsV t lev)) → WinPost a t lev w (.returned (.tuple #[u, .nilIface])) w9) := by
          intro w9 hb u ho
          obtain ⟨ad9, cap9, e9, hcm9⟩ := Spown ho
          exact ⟨.nilIface, windowsV t lev, ad9, cap9, by rw [e9], unhideR HX, fun q => absurd (unhideR HY) q, fun _ => unhideR HWr, hcm9, hb⟩
        have HP2 := hideR (below_go (unhideR HW2) (unhideR HK))
        clear hln hlt HWr HWv HX HIn HCM hm
        generalize C.foldl winL ([], t.fr) = s at *
        generalize t.h m = q at *
        by_cases hq : lev < q
        · have tq : decide (lev < q) = true := decide_eq_true hq
          rw [if_pos hq] at HWv2
          have HWq := hideR HWv2
          have hla := unhideR HLa _ (unhideR HP2)
          have wl : IntKind.i64.wrap (t.last + 1) = t.last + 1 := iwrap (by omega) (by omega)
          clear HWv2 HLa HI
          go_wp2_with fail
          refine hla.mono ?_
          rintro e w5 ⟨rfl, k5⟩
          replace HR := hideR (own_below2 (unhideR HR) k5)
          replace HK := hideR (below_go (unhideR HK) k5)
          replace HP2 := hideR (below_go (unhideR HP2) k5)
          have lk5 := (unhideR HK).size
          clear k5 hla c0 c1 c2 hc
          obtain ⟨p, hp⟩ : ∃ p : Spn, p = ⟨s.2, t.last + 1⟩ := ⟨_, rfl⟩
          have p1 : s.2 = p.f := by rw [hp]
          have p2 : t.last + 1 = p.t := by rw [hp]
          rw [← hp] at HWq
          have hcx : ∀ j u, (valSp p)[j]? = some u → (w5.alloc (.cells #[.int .i64 s.2, .int .i64 (t.last + 1)] 40)).cell? ((⟨w5.heap.size, 0, none⟩ : Addr).add j) = some u := by
            have := alloc_last w5 (.cells #[.int .i64 s.2, .int .i64 (t.last + 1)] 40)
            rw [p1, p2] at this ⊢
            exact sp_two this
          have HCX := hideR hcx
          clear hcx p1 p2 hp
          go_wp2_with (first
            | (at_builtin; refine wpList_append_own _ rfl _ _ 28 rfl w2.heap.size 40 i0 Spzv 2 16 Tryd.underlying28 hi0 hz0 hz1 hz2 rfl (by decide) _ s.1.length (flatSp s.1) rfl (own_below2 (unhideR HR) (below_a _ _)) ⟨w5.heap.size, 0, none⟩ 1 1 (valSp p) rfl rfl ?c1 ?c2 ?c3 ?c4 ?c5 ?_))
          case c1 => exact unhideR HCX
          case c2 =>
            intro u hu
            exact flatSp_one [p] u (by simpa [flatSp] using hu)
          case c3 => unfold maxLen; omega
          case c4 => omega
          case c5 => simp; omega
          intro v3 w3 hown2 hgrow2 _
          have B3 : HeldR (Below w.heap.size w w3) := hideR ((below_go (unhideR HP2) (below_a w5 _)).grown hgrow2 (by have := (unhideR HP2).size; simp; omega) (fun g h => by have := own_at2 (unhideR HR) g h; have := (unhideR HW2).size; omega))
          have O3 : HeldR (w3.ownsRow w2.heap.size 40 2 v3 (windowsV t lev).length (flatSp (windowsV t lev))) := by
            unfold HeldR
            rw [unhideR HWq, flatSp_append, List.length_append, show flatSp [p] = valSp p from List.append_nil _]
            exact hown2
          clear hown2 hgrow2 HR HK
          go_wp2
          go_ret2
          exact unhideR HFin _ (unhideR B3) _ (unhideR O3)
        · have tq : decide (lev < q) = false := decide_eq_false hq
          rw [if_neg hq] at HWv2
          have O3 : HeldR (wr.ownsRow w2.heap.size 40 2 u7 (windowsV t lev).length (flatSp (windowsV t lev))) := by
            unfold HeldR
            rw [HWv2]
            exact unhideR HR
          clear HWv2 HLa HI HR
          go_wp2
          go_ret2
          exact unhideR HFin _ (unhideR HP2) _ (unhideR O3)
end Go.Proofs.YtlhjmmcimhceeahDoor
