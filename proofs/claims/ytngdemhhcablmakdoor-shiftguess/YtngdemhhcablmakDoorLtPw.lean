/-
  The power of a wave, whatever bits a NaN has.
-/
import Derived.Test.YtngdemhhcablmakDoorSinIs
import Derived.Test.YtngdemhhcablmakDoorCirA
namespace Go.Proofs.YtngdemhhcablmakDoor
open Go

theorem nan_ng {x : Nat} (h : Nan x) : Nan (ngB x) := by
  obtain ⟨s, t, e⟩ := nan_is h
  unfold Nan
  rw [neg_read, e]
  rfl
theorem same_ng {x y : Nat} (h : FSame x y) : FSame (ngB x) (ngB y) := by
  rcases h with rfl | ⟨h1, h2⟩
  · exact .inl rfl
  · exact .inr ⟨nan_ng h1, nan_ng h2⟩
/-- the sums so far, of what is across and what is up. -/
inductive PwR (T : List Int) (L : List Nat) (w : Int) : Nat → Nat → Nat → Prop
  | zero : PwR T L w 0 0 0
  | next {i re im x y re' im' : Nat} (h : PwR T L w i re im) (hx : FOp .mul (L.getD i 0) (cosV (nrm (w * T.getD i 0))) x) (hy : FOp .mul (L.getD i 0) (sinV (nrm (w * T.getD i 0))) y) (hr : FOp .add re x re') (hm : FOp .add im (ngB y) im') : PwR T L w (i + 1) re' im'
theorem PwR.same {T : List Int} {L : List Nat} {w : Int} {i re im : Nat} (h : PwR T L w i re im) : ∀ {re' im' : Nat}, PwR T L w i re' im' → FSame re re' ∧ FSame im im' := by
  induction h with
  | zero =>
    intro re' im' g
    cases g
    exact ⟨.inl rfl, .inl rfl⟩
  | next h hx hy hr hm ih =>
    intro re' im' g
    cases g with
    | next g gx gy gr gm =>
      obtain ⟨s1, s2⟩ := ih g
      exact ⟨hr.same gr s1 (hx.same gx (.inl rfl) (.inl rfl)), hm.same gm s2 (same_ng (hy.same gy (.inl rfl) (.inl rfl)))⟩
/-- the power. -/
def PwEnd (T : List Int) (L : List Nat) (w : Int) (n r : Nat) : Prop := ∃ re im p q, PwR T L w n re im ∧ FOp .mul re re p ∧ FOp .mul im im q ∧ FOp .add p q r
theorem PwEnd.same {T : List Int} {L : List Nat} {w : Int} {n r r' : Nat} (h : PwEnd T L w n r) (g : PwEnd T L w n r') : FSame r r' := by
  obtain ⟨re, im, p, q, h1, h2, h3, h4⟩ := h
  obtain ⟨re', im', p', q', g1, g2, g3, g4⟩ := g
  obtain ⟨s1, s2⟩ := h1.same g1
  exact h4.same g4 (h2.same g2 s1 s1) (h3.same g3 s2 s2)
end Go.Proofs.YtngdemhhcablmakDoor
