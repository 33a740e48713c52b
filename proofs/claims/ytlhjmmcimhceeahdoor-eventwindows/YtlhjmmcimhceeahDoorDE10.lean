/-
  The program's Events, by contract.
-/
import Derived.Test.YtlhjmmcimhceeahDoorDE7
import Derived.Test.YtlhjmmcimhceeahDoorDE9
import Derived.Laws.AppendOwnNone
namespace Go.Proofs.YtlhjmmcimhceeahDoor
open Go Go.RowKit

theorem wp_append_none {P : Program} {w : World} {o : Oper} {a : Act} {K : Act → World → Prop} {Q : Exit → Act → World → Prop} (s x : Operand) (t : TypeId)
    (ho : o.op = .call { callee := .builtin .append, args := #[s, x], argTypes := #[t, t] })
    (base : Nat) (e : TypeId) (i : TypeInfo) (size : Nat) (ht : P.underlying t = some (.slice e)) (hi : P.info? e = some i)
    (v : Value) (n : Nat) (xs : List Value) (hs : a.eval s = v) (hown : w.ownsRow base e size v n xs) (hx : a.eval x = .slice none 0 0)
    (h : K (a.put o.dst v) w) : o.wp P a w K Q := by
  have hrun := run_append_owned_none (P := P) (w := w) base t o.type e i size ht hi v n xs hown
  unfold Oper.wp
  simp [execOp, ho, resolve, invoke, builtin, hs, hx, hrun, Result.andThen]
  exact h
def SlN (n : Nat) (v : Value) : Prop := ∃ ad cap, v = .slice ad n cap
def OwnE (B : Nat) (L : List Evt) (v : Value) (w : World) : Prop := w.ownsRow B 56 3 v L.length (flatEv L)
theorem ownE_stb (B : Nat) (L : List Evt) (v : Value) : Stb (OwnE B L v) := fun _ _ h k => own_below2 h k
theorem ev_zero {t : Tr} {lev : Int} (h : evE t lev = 0) : TrOk t := by
  unfold evE at h
  split at h
  · rename_i q
    exact absurd h q
  · rename_i q
    exact ok_of (Decidable.not_not.1 q)
set_option maxRecDepth 100000 in
set_option maxHeartbeats 3200000 in
theorem events_ok (a : Nat → Addr) : EventsOK a := by
  intro v t lev w hS h hl
  obtain ⟨i0, hi0, hz0, hz1, hz2⟩ := info_parts infoEv
  have hv := h
  obtain ⟨ad, cap, rfl, hi⟩ := h
  have hta := takes_any a lev (hS.below (below_a w (.cells #[.int .i64 t.fr, .int .i64 t.st, .slice ad t.L.length cap] 32)) (Nat.le_refl _)) (hv.below (below_a w (.cells #[.int .i64 t.fr, .int .i64 t.st, .slice ad t.L.length cap] 32))) hl
  have HV := hideR hv
  have HB := hideR (alloc_last w (.cells #[.int .i64 t.fr, .int .i64 t.st, .slice ad t.L.length cap] 32))
  have HW0 := hideR (below_a w (.cells #[.int .i64 t.fr, .int .i64 t.st, .slice ad t.L.length cap] 32))
  have HZ : HeldR (evE t lev = 0 → TrOk t) := ev_zero
  clear hS hi hv
  go_enter Tryd.func21, Tryd.ntmps21
  go_wp2_with fail
  refine hta.mono ?_
  rintro e w1 ⟨y, rfl, hy, k1⟩
  have HW := hideR (below_go (unhideR HW0) k1)
  replace HB := hideR (keepB (unhideR HB) k1)
  clear k1 hta HW0
  rcases hy with ⟨hy0, rfl⟩ | ⟨k, hk, hyk, rfl⟩
  case inr =>
    have HX : HeldR (ErrIs a (evE t lev) (.iface 147 (.pointer (some (a k))))) := by
      unfold HeldR
      rw [hyk]
      exact err_at k hk
    have HN : HeldR (evE t lev ≠ 0) := by unfold HeldR; omega
    clear hyk
    go_wp2
    go_ret2
    exact ⟨_, _, [], none, 0, rfl, unhideR HX, fun q => absurd q (unhideR HN), fun _ => rfl, rfl, EvCame.nil _ _, unhideR HW⟩
  case inl =>
    have hO := unhideR HZ hy0
    have HX : HeldR (ErrIs a (evE t lev) .nilIface) := .inl ⟨hy0, rfl⟩
    have HY := hideR hy0
    have HV1 := hideR ((unhideR HV).below (unhideR HW))
    have hcr := fun u (k : Below w1.heap.size w1 u) => crossings_any lev ((unhideR HV1).below k) hO
    have htu := fun u (k : Below w1.heap.size w1 u) => turns_any lev ((unhideR HV1).below k) hO
    have HCr := hideR hcr
    have HTu := hideR htu
    have cn := crosses_length t lev (t.L.length - 1)
    have tn := turns_length t lev (t.L.length - 2)
    have n2 := hO.n2
    have n1 := hO.n1
    have HGe : HeldR (genV t lev = crosses t lev (t.L.length - 1) ++ turns t lev (t.L.length - 2)) := rfl
    clear hcr htu hO hy0 HZ
    generalize crosses t lev (t.L.length - 1) = C at *
    generalize turns t lev (t.L.length - 2) = D at *
    have lc : C.length ≤ 4000 := by omega
    have ld : D.length ≤ 4000 := by omega
    clear cn tn
    go_wp2_with fail
    refine wp_region_made 1 #[true, true, true, true, true, true, false, false] [.lets (· = .agg #[.int .i64 t.fr, .int .i64 t.st, .slice ad t.L.length cap]),
      .lets (· = .int .i64 lev),
      .made (SlN C.length) (OwnE w1.heap.size C),
      .lets (· = .agg #[.int .i64 t.fr, .int .i64 t.st, .slice ad t.L.length cap]),
      .lets (· = .int .i64 lev),
      .made (SlN D.length) (OwnE w1.heap.size D)] [2, 5] [] (by kernel_rfl) (by kernel_rfl) rfl ?kinds (by kernel_rfl) (by kernel_rfl) (by kernel_rfl) ?_
    case kinds =>
      constructor
      · intro i h
        rcases i with _ | _ | _ | _ | _ | _ | i <;> simp [Kx.isMade] at h ⊢
      · intro i h
        rcases i with _ | _ | _ | _ | _ | _ | i <;> simp [Kx.isUse] at h
    refine lexX_step (fun K hK => ⟨by kernel_rfl, ⟨_, rfl⟩, fun v hv => ?_, fun v hv => ?_⟩)
    · obtain ⟨⟨c0, c1, c2⟩, _⟩ := three_cells (keepB (unhideR HB) hv)
      go_simp
      exact mUpon_b
    subst hv
    go_simp
    refine hK _ ?_
    clear hK K
    refine lexX_step (fun K hK => ⟨by kernel_rfl, ⟨_, rfl⟩, fun v hv => ?_, fun v hv => ?_⟩)
    · go_simp
      exact mUpon_b
    subst hv
    go_simp
    refine hK _ ?_
    clear hK K
    refine lexX_made ⟨by kernel_rfl, ⟨_, none, 0, rfl⟩, ownE_stb _ _, fun v hv => ?_, ?_⟩
    · go_simp
      refine (unhideR HCr v hv).mono ?_
      rintro e w9 ⟨u9, rfl, ho9, k9⟩
      have hsl : SlN C.length u9 := by
        obtain ⟨ad9, cap9, e9, _⟩ := Evown ho9
        exact ⟨ad9, cap9, e9⟩
      exact ⟨u9, rfl, ⟨hsl, own_base ho9 hv.size⟩, k9⟩
    rintro _ ⟨ac, cc, rfl⟩ K hK
    go_simp
    refine hK _ ?_
    clear hK K
    refine lexX_step (fun K hK => ⟨by kernel_rfl, ⟨_, rfl⟩, fun v hv => ?_, fun v hv => ?_⟩)
    · obtain ⟨⟨c0, c1, c2⟩, _⟩ := three_cells (keepB (unhideR HB) hv)
      go_simp
      exact mUpon_b
    subst hv
    go_simp
    refine hK _ ?_
    clear hK K
    refine lexX_step (fun K hK => ⟨by kernel_rfl, ⟨_, rfl⟩, fun v hv => ?_, fun v hv => ?_⟩)
    · go_simp
      exact mUpon_b
    subst hv
    go_simp
    refine hK _ ?_
    clear hK K
    refine lexX_made ⟨by kernel_rfl, ⟨_, none, 0, rfl⟩, ownE_stb _ _, fun v hv => ?_, ?_⟩
    · go_simp
      refine (unhideR HTu v hv).mono ?_
      rintro e w9 ⟨u9, rfl, ho9, k9⟩
      have hsl : SlN D.length u9 := by
        obtain ⟨ad9, cap9, e9, _⟩ := Evown ho9
        exact ⟨ad9, cap9, e9⟩
      exact ⟨u9, rfl, ⟨hsl, own_base ho9 hv.size⟩, k9⟩
    rintro _ ⟨ad2, cd2, rfl⟩ K hK
    go_simp
    refine hK _ ?_
    clear hK K
    refine lexX_end (fun v5 hv => ?_)
    have hf := hv.fact
    have HC := hideR hf.1.2
    have HD := hideR hf.2
    have HK := hideR hv.low
    clear hv hf
    have lk := (unhideR HK).size
    refine wpAny_step (i := 6) (by kernel_rfl) rfl (by kernel_rfl) (fun K hK => ?_)
    rcases (unhideR HD).2 with ⟨hd1, hd2⟩ | ⟨g, cp, cur, hd1, hd2, hd3, hd4, hd5, hd6, hd7⟩
    case' inl =>
      have hnil : D = [] := List.length_eq_zero_iff.1 hd2
      have O3 : HeldR (v5.ownsRow w1.heap.size 56 3 (.slice ac C.length cc) (genV t lev).length (flatEv (genV t lev))) := by
        unfold HeldR
        rw [unhideR HGe, hnil, List.append_nil]
        exact unhideR HC
      refine wp_append_none _ _ 52 rfl w1.heap.size 56 i0 3 Tryd.underlying52 hi0 (.slice ac C.length cc) C.length (flatEv C) rfl (unhideR HC) hd1 ?_
      obtain ⟨u6, hu6⟩ : ∃ u6, u6 = Value.slice ac C.length cc := ⟨_, rfl⟩
      rw [← hu6] at O3 ⊢
      have B3 := HK
      clear hd1 hd2 hu6 HC HD HK hnil
      generalize v5 = w6 at *
    case' inr =>
      rw [hd1]
      refine wp_append_own _ _ _ 52 rfl w1.heap.size 56 i0 Evzv 3 24 Tryd.underlying52 hi0 hz0 hz1 hz2 rfl (by decide) (.slice ac C.length cc) C.length (flatEv C) rfl (unhideR HC) ⟨g, 0, none⟩ D.length cp (flatEv D) rfl (flatEv_length D) ?q1 ?q2 ?q3 ?q4 ?q5 ?_
      case q1 =>
        intro j u hu
        obtain ⟨ad', cap', e', hcm⟩ := Evown (unhideR HD)
        rw [hd1] at e'
        injection e' with e1
        subst e1
        exact Evcame_cells hcm j u hu
      case q2 => exact flatEv_one D
      case q3 => unfold maxLen; omega
      case q4 => omega
      case q5 => omega
      intro u6 w6 hown2 hgrow2 _
      have B3 := hideR ((unhideR HK).grown hgrow2 (by omega) (fun g h => own_at2 (unhideR HC) g h))
      have O3 : HeldR (w6.ownsRow w1.heap.size 56 3 u6 (genV t lev).length (flatEv (genV t lev))) := by
        unfold HeldR
        rw [unhideR HGe, flatEv_append, List.length_append]
        exact hown2
      clear hown2 hgrow2 hd1 hd2 hd3 hd4 hd5 hd6 hd7 HC HD HK
    all_goals
      have lg : (genV t lev).length ≤ 100000 := by rw [unhideR HGe, List.length_append]; omega
      have hso := sort_any (unhideR O3) lg
      go_simp
      refine hK _ _ ?_
      clear hK K
      refine wpAny_step (i := 7) (by kernel_rfl) rfl (by kernel_rfl) (fun K hK => ?_)
      unfold Oper.wp
      go_simp
      refine hK _ _ ?_
      clear hK K
      refine wpAny_end (by kernel_rfl) ?_
      go_wp2_with fail
      refine hso.mono ?_
      rintro e w7 ⟨rfl, ad7, cap7, rfl, hcm7, k7⟩
      have HCM := hideR hcm7
      have HF := hideR ((unhideR HW).trans ((((unhideR B3).trans k7).mono (unhideR HW).size)))
      have lsv : (sortV (genV t lev)).length = (genV t lev).length := sortV_length _
      have he : Value.slice ad7 (genV t lev).length cap7 = Value.slice ad7 (eventsV t lev).length cap7 := by
        unfold eventsV
        rw [lsv]
      have HE := hideR he
      clear hcm7 k7 hso O3 lsv he
      go_wp2
      go_ret2
      exact ⟨_, _, eventsV t lev, ad7, cap7, rfl, unhideR HX, fun _ => rfl, fun q => absurd (unhideR HY) q, unhideR HE, unhideR HCM, unhideR HF⟩
end Go.Proofs.YtlhjmmcimhceeahDoor
