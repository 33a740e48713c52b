/-
  Against a chain: the program's, by its contract.
-/
import Derived.Test.YtbjpkfmencaafafDoorDAlong
import Derived.Test.YtbjpkfmencaafafDoorInRound
import Derived.Test.YtbjpkfmencaafafDoorNrm
namespace Go.Proofs.YtbjpkfmencaafafDoor
open Go Go.RowKit Go.Shelf
attribute [local go_sem] Oper.semAt_some

def AgainstIs (a : Nat → Addr) (L : List St) (v : V3) (e : Ending) : Prop :=
  (∃ q, (∀ j, j < L.length → (L.getD j st0).good) ∧ Ag L v L.length q ∧ e = .returned (.tuple #[q.val, .nilIface])) ∨ ((∃ j, j < L.length ∧ ¬ (L.getD j st0).good) ∧ e = .returned (.tuple #[zeroV, shapeErr a]))
theorem steps_form {n₀ : Nat} {w : World} {sv : Value} {L : List St} (h : Steps3 n₀ w sv L) : ∃ ad cap, sv = .slice ad L.length cap := by
  cases h with
  | nil => exact ⟨none, 0, rfl⟩
  | row h1 h2 => exact ⟨_, _, rfl⟩
theorem Steps3.below {n₀ : Nat} {w w' : World} {sv : Value} {L : List St} (h : Steps3 n₀ w sv L) (k : Below w.heap.size w w') (hn : n₀ ≤ w.heap.size) : Steps3 n₀ w' sv L := by
  cases h with
  | nil => exact .nil
  | row h1 h2 => exact .row h1 (h2.below k (by omega))
theorem valid_steps {a : Nat → Addr} {n₀ : Nat} {w : World} {sv : Value} {L : List St} (h : Steps3 n₀ w sv L) (hn : n₀ ≤ w.heap.size) (hS : Sents w a) (hl : L.length ≤ 200) :
    Calls Tryd.prog 16 #[sv] w fun e w' => ∃ v, e = .returned v ∧ ValidIs a L v ∧ Below w.heap.size w w' := by
  cases h with
  | nil =>
    refine (valid_nil w).mono ?_
    rintro e w' ⟨rfl, rfl⟩
    exact ⟨_, rfl, .inl ⟨rfl, fun j hj => absurd hj (by simp)⟩, Below.refl _ _⟩
  | row h1 h2 => exact valid_any _ _ _ L w hS h2 hl (by omega)
theorem valid_good {a : Nat → Addr} {n₀ : Nat} {w : World} {sv : Value} {L : List St} (h : Steps3 n₀ w sv L) (hn : n₀ ≤ w.heap.size) (hS : Sents w a) (hl : L.length ≤ 200) (hg : ∀ j, j < L.length → (L.getD j st0).good) :
    Calls Tryd.prog 16 #[sv] w fun e w' => e = .returned .nilIface ∧ Below w.heap.size w w' := by
  refine (valid_steps h hn hS hl).mono ?_
  rintro e w' ⟨v, rfl, ⟨rfl, _⟩ | ⟨_, j, hj, hb⟩, k⟩
  · exact ⟨rfl, k⟩
  · exact (hb (hg j hj)).elim
theorem valid_bad {a : Nat → Addr} {n₀ : Nat} {w : World} {sv : Value} {L : List St} (h : Steps3 n₀ w sv L) (hn : n₀ ≤ w.heap.size) (hS : Sents w a) (hl : L.length ≤ 200) (hg : ∃ j, j < L.length ∧ ¬ (L.getD j st0).good) :
    Calls Tryd.prog 16 #[sv] w fun e w' => e = .returned (shapeErr a) ∧ Below w.heap.size w w' := by
  refine (valid_steps h hn hS hl).mono ?_
  rintro e w' ⟨v, rfl, ⟨_, hb⟩ | ⟨rfl, _⟩, k⟩
  · obtain ⟨j, hj, hk⟩ := hg
    exact (hk (hb j hj)).elim
  · exact ⟨rfl, k⟩
/-- turned by what has come, one behind the other. -/
inductive Tl (v : V3) : List (Int × St) → V3 → Prop where
  | nil : Tl v [] v
  | snoc {pre : List (Int × St)} {x : Int × St} {p q : V3} : Tl v pre p → Turned x.2.k (-nrm x.2.d) p q → Tl v (pre ++ [x]) q
theorem tl_ag {L : List St} {v : V3} : ∀ {k : Nat} {q : V3}, k ≤ L.length → Tl v (upto (fromEnd L) k) q → Ag L v k q
  | 0, q, _, h => by
    generalize he : upto (fromEnd L) 0 = l at h
    cases h with
    | nil => exact .zero
    | snoc _ _ => simp [upto] at he
  | k + 1, q, hk, h => by
    generalize he : upto (fromEnd L) (k + 1) = l at h
    cases h with
    | nil => simp [upto] at he
    | @snoc pre x p q h1 h2 =>
      rw [upto_succ] at he
      obtain ⟨e1, e2⟩ := List.append_inj' he rfl
      subst e1
      cases e2
      exact .succ (tl_ag (by omega) h1) (by omega) h2
def TuS (k d : Int) (q : V3) (v : Value) : Prop := TurnIs k d q.x q.y q.z v
theorem tu_some (k d : Int) (q : V3) : ∃ v, TuS k d q v := by
  unfold TuS TurnIs
  split
  · exact vset_some _ _ _
  · split
    · exact vset_some _ _ _
    · exact vset_some _ _ _
def TfS (v : Value) : Prop := ∃ bc bs, v = turnF bc bs
def RdS (d : Int) (v : Value) (w : World) : Prop := ∀ bc bs, v = turnF bc bs → Ready w bc bs d
theorem rd_stb (d : Int) (v : Value) : Stb (RdS d v) := fun _ _ h k bc bs e => (h bc bs e).keep k
end Go.Proofs.YtbjpkfmencaafafDoor
