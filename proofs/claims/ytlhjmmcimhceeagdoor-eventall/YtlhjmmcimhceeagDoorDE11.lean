/-
  The program's First, by contract.
-/
import Derived.Test.YtlhjmmcimhceeagDoorDE10
import Derived.Test.YtlhjmmcimhceeagDoorEvFi
namespace Go.Proofs.YtlhjmmcimhceeagDoor
open Go Go.RowKit

/-- where the first one stands from an instant on. -/
structure FoundAt (f : Int) (L : List Evt) (r : Int) : Prop where
  h : (r = -1 ∧ L.find? (fun e => decide (f ≤ e.at_)) = none) ∨ ∃ k : Nat, k < L.length ∧ r = (k : Int) ∧ L.find? (fun e => decide (f ≤ e.at_)) = some (L.getD k ev0)
structure NoneTo (f : Int) (L : List Evt) (k : Nat) : Prop where
  h : (L.take k).find? (fun e => decide (f ≤ e.at_)) = none
set_option maxHeartbeats 800000 in
theorem firstfn_any {w : World} {bf : Nat} {f : Int} (hf : w.heap[bf]? = some (.cells #[.int .i64 f] 3)) (x : Evt) :
    Calls Tryd.prog 60 #[.agg #[.int .i64 x.k, .int .i64 x.at_, .int .i64 x.ix], .pointer (some ⟨bf, 0, none⟩)] w fun e w' => e = .returned (.bool (decide (f ≤ x.at_))) ∧ Below w.heap.size w w' := by
  have c0 := fun o => one_at (keepA (o' := o) hf)
  clear hf
  go_enter Tryd.func60, Tryd.ntmps60
  go_wp2
  all_goals
    go_ret
    exact ⟨rfl, below_a _ _⟩
set_option maxRecDepth 100000 in
set_option maxHeartbeats 1600000 in
theorem indexEv_any (ad : Option Addr) (cap : Nat) (L : List Evt) (w : World) {bf : Nat} {f : Int} (hf : w.heap[bf]? = some (.cells #[.int .i64 f] 3)) (hr : EvCame w ad L) (hl : L.length ≤ 100000) :
    Calls Tryd.prog 59 #[.slice ad L.length cap, .func (.func 60) #[] #[.pointer (some ⟨bf, 0, none⟩)]] w fun e w' => (∃ r : Int, e = .returned (.int .i64 r) ∧ FoundAt f L r) ∧ Below w.heap.size w w' := by
  have HR := hideR hr
  have HF := hideR hf
  clear hr hf
  go_enter Tryd.func59, Tryd.ntmps59
  go_wp2
  go_loopw [8] (fun kv wl => ∃ k : Nat, k ≤ L.length ∧ kv = .int .i64 (k : Nat) ∧ NoneTo f L k ∧ HeldR (Below w.heap.size w wl)) (fun kv _ => L.length + 1 - (intOf kv).toNat)
  case atStart => exact ⟨0, by omega, rfl, ⟨rfl⟩, hideR (Below.refl _ _)⟩
  case round =>
    obtain ⟨k, hk, rfl, HM, HW⟩ := hrel
    by_cases hlt : k < L.length
    · obtain ⟨b, off, rfl, hb, hat⟩ := ((unhideR HR).below (unhideR HW)).at_ k hlt
      obtain ⟨c0, c1, c2⟩ := hat
      have hfn := firstfn_any (keepB (unhideR HF) (unhideR HW)) (L.getD k ev0)
      have HN : HeldR ((L.take (k + 1)).find? (fun e => decide (f ≤ e.at_)) = (if decide (f ≤ (L.getD k ev0).at_) = true then some (L.getD k ev0) else none)) := by
        unfold HeldR
        rw [Evtake hlt, List.find?_append, HM.h, Option.none_or, List.find?_cons]
        split <;> rename_i q
        · rw [if_pos q]
        · rw [if_neg (by rw [q]; exact Bool.noConfusion)]
          rfl
      have HT : HeldR (∀ y, (L.take (k + 1)).find? (fun e => decide (f ≤ e.at_)) = some y → L.find? (fun e => decide (f ≤ e.at_)) = some y) := fun y h => by
        have e := List.take_append_drop (k + 1) L
        rw [← e, List.find?_append, h]
        rfl
      have HGd : HeldR (∀ y, y = L.getD k ev0 → L.find? (fun e => decide (f ≤ e.at_)) = some y → FoundAt f L (k : Int)) := fun y hy h => ⟨.inr ⟨k, hlt, rfl, by rw [← hy]; exact h⟩⟩
      replace HGd := hideR (unhideR HGd _ rfl)
      clear HM
      generalize L.getD k ev0 = s at *
      by_cases q : f ≤ s.at_
      · have tq : decide (f ≤ s.at_) = true := decide_eq_true q
        have HX := unhideR HGd (unhideR HT _ (by rw [unhideR HN, if_pos tq]))
        rw [tq] at hfn
        clear HN HT HGd
        go_wp2_with fail
        refine hfn.mono ?_
        rintro e w1 ⟨rfl, k1⟩
        replace HW := hideR (below_go (unhideR HW) k1)
        clear hfn c0 c1 c2 k1
        go_wp2
        go_ret
        exact ⟨⟨_, rfl, HX⟩, unhideR HW⟩
      · have tq : decide (f ≤ s.at_) = false := decide_eq_false q
        have HM2 : NoneTo f L (k + 1) := by
          refine ⟨?_⟩
          rw [unhideR HN, if_neg (by rw [tq]; exact Bool.noConfusion)]
        rw [tq] at hfn
        clear HN HT HGd
        go_wp2_with fail
        refine hfn.mono ?_
        rintro e w1 ⟨rfl, k1⟩
        replace HW := hideR (below_go (unhideR HW) k1)
        clear hfn c0 c1 c2 k1
        go_wp2
        exact ⟨⟨k + 1, by omega, by go_num, HM2, HW⟩, by simp [intOf]; omega⟩
    · obtain rfl : k = L.length := by omega
      have HX : FoundAt f L (-1) := by
        have := HM.h
        rw [List.take_length] at this
        exact ⟨.inl ⟨rfl, this⟩⟩
      clear HM
      go_wp2
      go_ret
      exact ⟨⟨_, rfl, HX⟩, unhideR HW⟩
def FirstPost (a : Nat → Addr) (t : Tr) (lev f : Int) (w : World) (e : Ending) (w' : World) : Prop := ∃ (x : Value) (r : Evt) (s : Bool), e = .returned (.tuple #[.agg #[.int .i64 r.k, .int .i64 r.at_, .int .i64 r.ix], .bool s, x]) ∧ ErrIs a (evE t lev) x ∧ (evE t lev = 0 → r = firstV f (eventsV t lev) ∧ s = someV f (eventsV t lev)) ∧ (evE t lev ≠ 0 → r = ev0 ∧ s = false) ∧ Below w.heap.size w w'
set_option maxRecDepth 100000 in
set_option maxHeartbeats 3200000 in
theorem first_ok (a : Nat → Addr) : FirstOK a := by
  intro v t lev f w hS h hl
  show Calls _ _ _ _ (FirstPost a t lev f w)
  have hv := h
  obtain ⟨ad, cap, rfl, hi⟩ := h
  have HW0 := hideR (below_al3 w (.cells #[.int .i64 t.fr, .int .i64 t.st, .slice ad t.L.length cap] 56) (.cells #[.int .i64 f] 3) (.cells #[.int .i64 0, .int .i64 0, .int .i64 0] 68))
  have hta := takes_any a lev (hS.below (unhideR HW0) (Nat.le_refl _)) (hv.below (unhideR HW0)) hl
  have HV := hideR hv
  have HB := hideR (keepA (o' := .cells #[.int .i64 0, .int .i64 0, .int .i64 0] 68) (keepA (o' := .cells #[.int .i64 f] 3) (alloc_last w (.cells #[.int .i64 t.fr, .int .i64 t.st, .slice ad t.L.length cap] 56))))
  have HF := hideR (keepA (o' := .cells #[.int .i64 0, .int .i64 0, .int .i64 0] 68) (alloc_two' w (.cells #[.int .i64 t.fr, .int .i64 t.st, .slice ad t.L.length cap] 56) (.cells #[.int .i64 f] 3)))
  have lsz : ((w.alloc (.cells #[.int .i64 t.fr, .int .i64 t.st, .slice ad t.L.length cap] 56)).alloc (.cells #[.int .i64 f] 3)).heap.size = w.heap.size + 2 := by simp
  have HE : HeldR ((((w.alloc (.cells #[.int .i64 t.fr, .int .i64 t.st, .slice ad t.L.length cap] 56)).alloc (.cells #[.int .i64 f] 3)).alloc (.cells #[.int .i64 0, .int .i64 0, .int .i64 0] 68)).heap[w.heap.size + 2]? = some (.cells #[.int .i64 0, .int .i64 0, .int .i64 0] 68)) := by
    have := alloc_last ((w.alloc (.cells #[.int .i64 t.fr, .int .i64 t.st, .slice ad t.L.length cap] 56)).alloc (.cells #[.int .i64 f] 3)) (.cells #[.int .i64 0, .int .i64 0, .int .i64 0] 68)
    rw [lsz] at this
    exact this
  have HZ : HeldR (evE t lev = 0 → TrOk t) := ev_zero
  clear hS hi hv
  go_enter Tryd.func32, Tryd.ntmps32
  go_wp2_with fail
  generalize ((w.alloc (.cells #[.int .i64 t.fr, .int .i64 t.st, .slice ad t.L.length cap] 56)).alloc (.cells #[.int .i64 f] 3)).alloc (.cells #[.int .i64 0, .int .i64 0, .int .i64 0] 68) = W1 at *
  refine hta.mono ?_
  rintro e w1 ⟨y, rfl, hy, k1⟩
  have HW := hideR (below_go (unhideR HW0) k1)
  replace HB := hideR (keepB (unhideR HB) k1)
  replace HF := hideR (keepB (unhideR HF) k1)
  replace HE := hideR (keepB (unhideR HE) k1)
  clear k1 hta HW0
  rcases hy with ⟨hy0, rfl⟩ | ⟨k, hk, hyk, rfl⟩
  case inr =>
    have HX : HeldR (ErrIs a (evE t lev) (.iface 175 (.pointer (some (a k))))) := by
      unfold HeldR
      rw [hyk]
      exact err_at k hk
    have HN : HeldR (evE t lev ≠ 0) := by unfold HeldR; omega
    obtain ⟨⟨d0, d1, d2⟩, f0, f1, f2⟩ := cell_at (unhideR HE)
    clear hyk
    go_wp2
    simp only [bodyPost, results, Tryd.results32]
    simp [go_sem, d0, d1, d2]
    unfold FirstPost
    exact ⟨_, ev0, false, rfl, unhideR HX, fun q => absurd q (unhideR HN), fun _ => ⟨rfl, rfl⟩, below_three (unhideR HW) (by omega) _ _ _⟩
  case inl =>
    have hO := unhideR HZ hy0
    have HX : HeldR (ErrIs a (evE t lev) .nilIface) := .inl ⟨hy0, rfl⟩
    have HY := hideR hy0
    have hcr := crossings_any lev ((unhideR HV).below (unhideR HW)) hO
    have cn := crosses_length t lev (t.L.length - 1)
    have n2 := hO.n2
    have HFi := hideR (fun S (hS : S = sortV (crosses t lev (t.L.length - 1))) => first_is f t lev hS)
    obtain ⟨⟨c0, c1, c2⟩, _⟩ := three_cells (unhideR HB)
    clear hO hy0 HZ
    generalize crosses t lev (t.L.length - 1) = C at *
    have lc : C.length ≤ 4000 := by omega
    clear cn
    go_wp2_with fail
    refine hcr.mono ?_
    rintro e w2 ⟨u2, rfl, ho2, k2⟩
    have HK := hideR k2
    have hso := sort_any ho2 (by omega)
    clear c0 c1 c2 hcr k2 ho2 HB
    go_wp2_with fail
    refine hso.mono ?_
    rintro e w3 ⟨rfl, ad3, cap3, rfl, hcm, k3⟩
    replace HK := hideR ((unhideR HK).trans k3)
    replace HW := hideR (below_go (unhideR HW) (unhideR HK))
    replace HF := hideR (keepB (unhideR HF) (unhideR HK))
    replace HE := hideR (keepB (unhideR HE) (unhideR HK))
    have hix := indexEv_any ad3 cap3 (sortV C) w3 (unhideR HF) hcm (by rw [sortV_length]; omega)
    rw [sortV_length] at hix
    have HCM := hideR hcm
    have hfi := unhideR HFi _ rfl
    have lsv : (sortV C).length = C.length := sortV_length C
    clear k3 hso hcm HK HFi
    generalize sortV C = S at *
    go_wp2_with fail
    refine hix.mono ?_
    rintro e w4 ⟨⟨r, rfl, hfo⟩, k4⟩
    replace HW := hideR (below_go (unhideR HW) k4)
    replace HE := hideR (keepB (unhideR HE) k4)
    replace HCM := hideR ((unhideR HCM).below k4)
    obtain ⟨⟨d0, d1, d2⟩, f0, f1, f2⟩ := cell_at (unhideR HE)
    clear k4 hix HF
    rcases hfo.h with ⟨rfl, hn⟩ | ⟨k, hk, rfl, hs⟩
    · rw [hn] at hfi
      have HFi := hideR hfi
      clear hn hfi hfo
      go_wp2
      simp only [bodyPost, results, Tryd.results32]
      simp [go_sem, d0, d1, d2]
      unfold FirstPost
      exact ⟨_, ev0, false, rfl, unhideR HX, fun _ => ⟨(unhideR HFi).1.symm, (unhideR HFi).2.symm⟩, fun q => absurd (unhideR HY) q, below_three (unhideR HW) (by omega) _ _ _⟩
    · rw [hs] at hfi
      obtain ⟨b9, o9, rfl, hb9, hat⟩ := (unhideR HCM).at_ k hk
      obtain ⟨c0, c1, c2⟩ := hat
      have hk2 : k < C.length := by omega
      have HFi := hideR hfi
      generalize S.getD k ev0 = x at *
      have tk : decide ((k : Int) < 0) = false := decide_eq_false (by omega)
      clear hs hfi hfo
      go_wp2
      simp only [bodyPost, results, Tryd.results32]
      simp [go_sem, d0, d1, d2]
      unfold FirstPost
      exact ⟨_, x, true, rfl, unhideR HX, fun _ => ⟨(unhideR HFi).1.symm, (unhideR HFi).2.symm⟩, fun q => absurd (unhideR HY) q, below_three (unhideR HW) (by omega) _ _ _⟩
end Go.Proofs.YtlhjmmcimhceeagDoor
