/-
  A region that draws its order, where callees make memory of their own: each operation yields one of a set of values, in every world that keeps what lay below.
-/
import Derived.Test.YtmgnobeaacjdjacLoose
import Derived.Below
import Derived.WalkSmall
namespace Go.Proofs.Ytmgnobeaacjdjac
open Go Go.RowKit

section
variable {P : Program} {ops : Array Oper}
theorem lexB_step {W : World} {B : Nat} {Q : Act → Prop} {S : Value → Prop} {Sl : List (Value → Prop)} {o : Oper} {rest : List Oper} {a : Act}
    (h : ∀ K : Act → Prop, (∀ a, wpLexL P ops (Below B W) Q Sl rest a → K a) →
      wantB ops o a = true ∧ (∃ v, S v) ∧ (∀ v, Below B W v → lUpon P (Below B W) S ((execOp a.eval o).run P v)) ∧ ∀ v, S v → K (a.put o.dst v)) :
    wpLexL P ops (Below B W) Q (S :: Sl) (o :: rest) a := by
  obtain ⟨h1, h2, h3, h4⟩ := h _ (fun _ h => h)
  refine ⟨fun _ => ⟨h2, h3⟩, ?_⟩
  intro v hv
  rw [h1] at hv
  exact h4 v hv
theorem wp_region_letsB {id : Nat} {Q : Exit → Act → World → Prop} {a : Act} {w : World} {l : List Oper} (B : Nat) (Sl : List (Value → Prop)) (hm : P.follows .mixedOrders = true) (hB : Region.lexB .any l.toArray = true)
    (h : wpLexL P l.toArray (Below B w) (fun a' => ∀ v, Below B w v → Q .normal a' v) Sl l a) : (Code.region id l.toArray true).wp P Q a w := by
  simp only [Region.lexB, Bool.and_eq_true] at hB
  refine wp_region_any hm (wpAny_of_lets (C := Below B w) (Ss := fun k => Sl.getD k fun _ => False) (Q := fun a' => ∀ v, Below B w v → Q .normal a' v) (fun _ w' hw' h => h w' hw') _ _ _ _ (below_drewN (Below.refl B w) 1) ?_)
  have := wpAnyL_lex (P := P) (C := Below B w) (Ss := fun k => Sl.getD k fun _ => False) (md := .any) hB.1 l 0 (Array.replicate l.toArray.size false) a (by simp) (by simpa using hB.2)
    (wpLex_of_L Sl l 0 a (fun j _ => by rw [Nat.zero_add]) h)
  simpa using this
theorem lUpon_b {W v : World} {B : Nat} {u : Value} (h : Below B W v) : lUpon P (Below B W) (fun v => v = u) (.ok (.value u) v) := ⟨h, rfl⟩
theorem below_on2 {W v u : World} {B : Nat} (h : Below B W v) (hB : B ≤ W.heap.size) (k : Below v.heap.size v u) : Below B W u := h.trans (k.mono (Nat.le_trans hB h.size))
end
end Go.Proofs.Ytmgnobeaacjdjac
