/-
  Two operations at a region's end that may go either way.
-/
import Derived.Test.YtgmaganajfcpbaiDoorLoose6
namespace Go.Proofs.YtgmaganajfcpbaiDoor
open Go Go.RowKit

section
variable {P : Program} {ops : Array Oper} {md : Region.Mode} {Q' : Exit → Act → World → Prop}
theorem wpAny_two {r i j : Nat} {L : Array Bool} {a : Act} {v : World} {oi oj : Oper} (hr : Region.ready md ops L = [i, j]) (hoi : ops[i]? = some oi) (hoj : ops[j]? = some oj) (hwi : wantB ops oi a = true) (hwj : wantB ops oj a = true)
    (h1 : ∀ K : Act → World → Prop, (∀ a w, wpAny P md ops Q' r (L.setIfInBounds i true) a w → K a w) → oi.wp P a v K Q')
    (h2 : ∀ K : Act → World → Prop, (∀ a w, wpAny P md ops Q' r (L.setIfInBounds j true) a w → K a w) → oj.wp P a v K Q') : wpAny P md ops Q' (r + 1) L a v := by
  refine ⟨fun h0 => (by rw [hr] at h0; cases h0), fun k hk => ?_⟩
  rw [hr] at hk
  rcases List.mem_cons.1 hk with rfl | hk
  · unfold wpOp
    rw [hoi]
    have e : Region.wanted oi (yielded ops a.tmps) = wantB ops oi a := rfl
    simp only [e, hwi, if_true]
    exact .inl (h1 _ fun _ _ h => h)
  · rw [List.mem_singleton] at hk
    subst hk
    unfold wpOp
    rw [hoj]
    have e : Region.wanted oj (yielded ops a.tmps) = wantB ops oj a := rfl
    simp only [e, hwj, if_true]
    exact .inl (h2 _ fun _ _ h => h)
/-- an operation that is not wanted. -/
theorem lexL_skip {C : World → Prop} {Q : Act → Prop} {S : Value → Prop} {Sl : List (Value → Prop)} {o : Oper} {rest : List Oper} {a : Act}
    (h : ∀ K : Act → Prop, (∀ a, wpLexL P ops C Q Sl rest a → K a) → wantB ops o a = false ∧ K (a.put o.dst undef)) :
    wpLexL P ops C Q (S :: Sl) (o :: rest) a := by
  obtain ⟨h1, h2⟩ := h _ (fun _ h => h)
  refine ⟨fun k => (by rw [h1] at k; cases k), fun v hv => ?_⟩
  rw [h1] at hv
  have e : v = undef := hv
  rw [e]
  exact h2
theorem lexX_skip {W : World} {Q : Hd → (World → Prop) → Act → Prop} {S : Value → Prop} {Kl : List Kx} {o : Oper} {rest : List Oper} {β : Hd} {γ : World → Prop} {a : Act}
    (h : ∀ K : Act → Prop, (∀ a, wpLexX P ops W Q Kl rest β γ a → K a) → wantB ops o a = false ∧ K (a.put o.dst undef)) :
    wpLexX P ops W Q (.lets S :: Kl) (o :: rest) β γ a := by
  obtain ⟨h1, h2⟩ := h _ (fun _ h => h)
  refine ⟨fun k => (by rw [h1] at k; cases k), ?_⟩
  rintro v β' γ' ⟨hv, rfl, rfl⟩
  rw [h1] at hv
  have e : v = undef := hv
  rw [e]
  exact h2
end
end Go.Proofs.YtgmaganajfcpbaiDoor
