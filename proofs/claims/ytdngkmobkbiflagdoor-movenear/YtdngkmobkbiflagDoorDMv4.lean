/-
  The program's Valid and Run, by contracts.
-/
import Derived.Test.YtdngkmobkbiflagDoorDMv3
namespace Go.Proofs.YtdngkmobkbiflagDoor
open Go Go.RowKit

theorem err_at {a : Nat → Addr} (k : Nat) (hk : k < 10) : ErrIs a ((k : Int) + 1) (.iface 105 (.pointer (some (a k)))) := .inr ⟨k, hk, rfl, rfl⟩
set_option maxRecDepth 100000 in
set_option maxHeartbeats 800000 in
theorem valid_ok (a : Nat → Addr) : ValidOK a := by
  intro v L w hS h hl
  obtain ⟨ad, cap, rfl, hr⟩ := h.cut
  have HV : HeldR (∀ x, ErrIs a (errV L) x → ∃ y, Ending.returned x = .returned y ∧ ErrIs a (errV L) y) := fun x hx => ⟨x, rfl, hx⟩
  by_cases h12 : 12 < L.length
  · have hE : errV L = 2 := by unfold errV; rw [if_pos h12]
    have HX : HeldR (ErrIs a (errV L) (.iface 105 (.pointer (some (a 1))))) := by
      unfold HeldR
      rw [hE]
      exact err_at 1 (by decide)
    have c0 := hS.e1
    clear hE h hr
    go_enter Tryd.func13, Tryd.ntmps13
    go_wp2
    go_ret
    exact ⟨_, rfl, unhideR HX, Below.refl _ _⟩
  · have HS := hideR hS
    have HR := hideR hr
    have HE5 : HeldR (mss L = false → ErrIs a (errV L) (.iface 105 (.pointer (some (a 4))))) := fun e => by
      have : errV L = 5 := by unfold errV; rw [if_neg h12, if_pos e]
      rw [this]
      exact err_at 4 (by decide)
    have HE6 : HeldR (mss L = true → (ats L && sps L) = false → ErrIs a (errV L) (.iface 105 (.pointer (some (a 5))))) := fun e e2 => by
      have : errV L = 6 := by unfold errV; rw [if_neg h12, e, if_neg (by exact Bool.noConfusion), if_pos e2]
      rw [this]
      exact err_at 5 (by decide)
    have HE0 : HeldR (mss L = true → (ats L && sps L) = true → ErrIs a (errV L) .nilIface) := fun e e2 => by
      have : errV L = 0 := by unfold errV; rw [if_neg h12, e, if_neg (by exact Bool.noConfusion), e2, if_neg (by exact Bool.noConfusion)]
      exact .inl ⟨this, rfl⟩
    clear hS hr h HV
    go_enter Tryd.func13, Tryd.ntmps13
    go_wp2
    go_loopw [11] (fun kv wl => ∃ k : Nat, k ≤ L.length ∧ kv = .int .i64 (k : Nat) ∧ HeldR (mss (L.take k) = true) ∧ HeldR (Below w.heap.size w wl)) (fun kv _ => L.length + 1 - (intOf kv).toNat)
    case atStart => exact ⟨0, by omega, rfl, hideR rfl, hideR (Below.refl _ _)⟩
    case round =>
      obtain ⟨k, hk, rfl, HM, HW⟩ := hrel
      by_cases hlt : k < L.length
      · obtain ⟨b, off, rfl, hb, hat⟩ := ((unhideR HR).below (unhideR HW)).at_ k hlt
        obtain ⟨c0, c1, c2, c3, c4, c5, c6⟩ := hat
        have ht := take_at hlt
        have HN : HeldR (mss (L.take (k + 1)) = (mss (L.take k) && decide (0 ≤ (L.getD k bd0).m ∧ (L.getD k bd0).m ≤ 65536))) := by unfold mss; rw [ht, all_snoc]; rfl
        clear ht
        generalize L.getD k bd0 = s at *
        by_cases hm : 0 ≤ s.m ∧ s.m ≤ 65536
        · obtain ⟨hm1, hm2⟩ := hm
          have HM2 : HeldR (mss (L.take (k + 1)) = true) := by
            unfold HeldR
            rw [unhideR HN, unhideR HM, decide_eq_true ⟨hm1, hm2⟩]
            rfl
          have HW2 := fun o => hideR (below_go (unhideR HW) (below_a _ o))
          clear HN HM HW
          go_wp2
          exact ⟨⟨k + 1, by omega, by go_num, HM2, HW2 _⟩, by simp [intOf]; omega⟩
        · have hbad : mss L = false := by
            cases e : mss L with
            | false => rfl
            | true =>
              exfalso
              have e2 := all_take (k + 1) e
              have e3 := unhideR HN
              unfold mss at e3 e2
              rw [e2, decide_eq_false hm, Bool.and_false] at e3
              cases e3
          have HX := hideR (unhideR HE5 hbad)
          have HW2 := fun o => hideR (below_go (unhideR HW) (below_a _ o))
          have g4 := fun o => ((unhideR HS).below (unhideR (HW2 o))).e4
          clear hbad HN HM HE5 HE6 HE0 HW
          go_wp2
          all_goals
            go_ret
            exact ⟨_, rfl, unhideR HX, unhideR (HW2 _)⟩
      · obtain rfl : k = L.length := by omega
        have e1 := unhideR HM
        rw [List.take_length] at e1
        have H6 := hideR (unhideR HE6 e1)
        have H0 := hideR (unhideR HE0 e1)
        have hlim := inLimits_any ad cap L wr ((unhideR HR).below (unhideR HW)) (by omega)
        clear HM HE5 HE6 HE0 e1 HR
        generalize (ats L && sps L) = t at *
        cases t
        · have HX := hideR (unhideR H6 rfl)
          clear H6 H0
          go_wp2_with fail
          refine hlim.mono ?_
          rintro e w1 ⟨rfl, k1⟩
          replace HW := hideR (below_go (unhideR HW) k1)
          have g5 := ((unhideR HS).below (unhideR HW)).e5
          clear k1 hlim
          go_wp2
          go_ret
          exact ⟨_, rfl, unhideR HX, unhideR HW⟩
        · have HX := hideR (unhideR H0 rfl)
          clear H6 H0
          go_wp2_with fail
          refine hlim.mono ?_
          rintro e w1 ⟨rfl, k1⟩
          replace HW := hideR (below_go (unhideR HW) k1)
          clear k1 hlim
          go_wp2
          go_ret
          exact ⟨_, rfl, unhideR HX, unhideR HW⟩
end Go.Proofs.YtdngkmobkbiflagDoor
