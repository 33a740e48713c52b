/-
  The law EventSpans: what the program's calls must answer.
-/
import Derived.Test.YtoacdaemhcbbhaaDoorEvSp0
import Derived.Test.YtoacdaemhcbbhaaDoorSenA
import Derived.Test.YtoacdaemhcbbhaaDoorKitA
namespace Go.Proofs.YtoacdaemhcbbhaaDoor
open Go Go.RowKit

/-- how many instants the first k have. -/
def longK (l : List Spn) : Nat → Int
  | 0 => 0
  | k + 1 => longK l k + ((l.getD k sp0).t - (l.getD k sp0).f)
theorem inV_at {l : List Spn} {k : Nat} (h : k < l.length) {x : Int} (h1 : (l.getD k sp0).f ≤ x) (h2 : x < (l.getD k sp0).t) : inV l x = true := by
  unfold inV
  rw [List.any_eq_true]
  refine ⟨l[k], List.getElem_mem h, ?_⟩
  have e : l.getD k sp0 = l[k] := by simp [List.getD, List.getElem?_eq_getElem h]
  rw [e] at h1 h2
  rw [decide_eq_true h1, decide_eq_true h2]
  rfl
theorem inV_some {l : List Spn} {x : Int} (h : inV l x = true) : ∃ k, k < l.length ∧ (l.getD k sp0).f ≤ x ∧ x < (l.getD k sp0).t := by
  unfold inV at h
  rw [List.any_eq_true] at h
  obtain ⟨s, hs, hx⟩ := h
  obtain ⟨k, hk, rfl⟩ := List.getElem_of_mem hs
  rw [Bool.and_eq_true] at hx
  have e : l.getD k sp0 = l[k] := by simp [List.getD, List.getElem?_eq_getElem hk]
  exact ⟨k, hk, by rw [e]; exact of_decide_eq_true hx.1, by rw [e]; exact of_decide_eq_true hx.2⟩
/-- spans that rise: those behind begin behind. -/
theorem rise_far {l : List Spn} (h : riseV l) {i : Nat} : ∀ d, i + d + 1 < l.length → (l.getD i sp0).t < (l.getD (i + d + 1) sp0).f
  | 0, hl => by
    have := (h (i + 1) (by omega)).2 (by omega)
    simpa using this
  | d + 1, hl => by
    have a := rise_far h (i := i) d (by omega)
    have b := (h (i + d + 1) (by omega)).1
    have c := (h (i + (d + 1) + 1) (by omega)).2 (by omega)
    rw [show i + (d + 1) + 1 - 1 = i + d + 1 by omega] at c
    omega
theorem one_span {X : List Spn} (h : riseV X) (hm : ∀ y, inV X y = (inV [⟨0, 2⟩] y || inV [⟨2, 3⟩] y)) : X = [⟨0, 3⟩] := by
  have hin : ∀ y, inV X y = true ↔ 0 ≤ y ∧ y < 3 := fun y => by
    rw [hm y]
    unfold inV
    simp
    omega
  obtain ⟨k0, hk0, _, _⟩ := inV_some ((hin 0).2 ⟨by omega, by omega⟩)
  have h0 : 0 < X.length := by omega
  have u0 := (h 0 h0).1
  have a1 := (hin _).1 (inV_at h0 (Int.le_refl _) u0)
  have a2 := (hin _).1 (inV_at h0 (x := (X.getD 0 sp0).t - 1) (by omega) (by omega))
  have a3 : ¬ inV X (X.getD 0 sp0).t = true := fun q => by
    obtain ⟨k, hk, q1, q2⟩ := inV_some q
    by_cases e : k = 0
    · subst e
      omega
    · have := rise_far h (i := 0) (k - 1) (by omega)
      rw [show 0 + (k - 1) + 1 = k by omega] at this
      omega
  have a4 : (X.getD 0 sp0).t = 3 := by
    have : ¬ (0 ≤ (X.getD 0 sp0).t ∧ (X.getD 0 sp0).t < 3) := fun q => a3 ((hin _).2 q)
    omega
  have h1 : X.length = 1 := by
    by_cases e : X.length = 1
    · exact e
    · exfalso
      have u1 := h 1 (by omega)
      have b1 := u1.2 (by omega)
      have b2 := (hin _).1 (inV_at (show 1 < X.length by omega) (Int.le_refl _) u1.1)
      have b3 : (X.getD (1 - 1) sp0).t = 3 := a4
      omega
  have a5 : (X.getD 0 sp0).f = 0 := by
    obtain ⟨k, hk, q1, q2⟩ := inV_some ((hin 0).2 ⟨by omega, by omega⟩)
    obtain rfl : k = 0 := by omega
    omega
  match X, h1 with
  | [s], _ =>
    have e1 : s.f = 0 := a5
    have e2 : s.t = 3 := a4
    cases s
    simp only at e1 e2
    rw [e1, e2]
def SpansOK (a : Nat → Addr) (F : FuncId) (f : Bool → Bool → Bool) : Prop := ∀ (ad1 ad2 : Option Addr) (c1 c2 : Nat) (A B : List Spn) (w : World), Sents w a → SpCame w ad1 A → SpCame w ad2 B → A.length * 16 ≤ 140737488355328 → B.length * 16 ≤ 140737488355328 →
  Calls Tryd.prog F #[.slice ad1 A.length c1, .slice ad2 B.length c2] w fun e w' => ∃ (x : Value) (X : List Spn) (ad : Option Addr) (cap : Nat), e = .returned (.tuple #[.slice ad X.length cap, x]) ∧ ErrIs a (spE A B) x ∧ (spE A B ≠ 0 → X = []) ∧ (spE A B = 0 → riseV X ∧ X.length ≤ 20000 ∧ ∀ y, inV X y = f (inV A y) (inV B y)) ∧ SpCame w' ad X ∧ Below w.heap.size w w'
def LongOK (a : Nat → Addr) : Prop := ∀ (ad : Option Addr) (c : Nat) (A : List Spn) (w : World), Sents w a → SpCame w ad A → A.length * 16 ≤ 140737488355328 →
  Calls Tryd.prog 54 #[.slice ad A.length c] w fun e w' => ∃ (n : Int) (x : Value), e = .returned (.tuple #[.int .i64 n, x]) ∧ ErrIs a (spE A []) x ∧ (spE A [] = 0 → n = longK A A.length) ∧ Below w.heap.size w w'
theorem spE_range (A B : List Spn) : spE A B = 0 ∨ spE A B = 2 ∨ spE A B = 5 := by
  unfold spE
  split
  · simp
  · split <;> simp
theorem spE_alone {A B : List Spn} (h : spE A B = 0) : spE A [] = 0 ∧ A.length ≤ 4000 ∧ B.length ≤ 4000 ∧ rightV A = true ∧ rightV B = true := by
  unfold spE at h
  split at h
  · cases h
  · rename_i h1
    split at h
    · cases h
    · rename_i h2
      have r1 : rightV A = true := bool_true (fun k => h2 (.inl k))
      have r2 : rightV B = true := bool_true (fun k => h2 (.inr k))
      refine ⟨?_, by omega, by omega, r1, r2⟩
      unfold spE
      rw [if_neg (by simp; omega), if_neg]
      rintro (k | k)
      · rw [r1] at k; cases k
      · cases k
/-- of spans that are right, each lies within 2^60, and they are together no longer than 2^61. -/
theorem right_in {l : List Spn} (h : rightV l = true) {k : Nat} (hk : k < l.length) : -1152921504606846976 ≤ (l.getD k sp0).f ∧ (l.getD k sp0).f < (l.getD k sp0).t ∧ (l.getD k sp0).t ≤ 1152921504606846976 := by
  have q := of_decide_eq_true h k hk
  exact ⟨q.2.1, q.1, q.2.2.1⟩
theorem long_in {l : List Spn} (h : rightV l = true) : ∀ k, k < l.length → 0 ≤ longK l k ∧ longK l k ≤ (l.getD k sp0).f + 1152921504606846976
  | 0, hk => by
    have := right_in h hk
    exact ⟨Int.le_refl _, by show (0 : Int) ≤ _; omega⟩
  | k + 1, hk => by
    obtain ⟨a, b⟩ := long_in h k (by omega)
    have c := right_in h (k := k) (by omega)
    have d := (of_decide_eq_true h (k + 1) hk).2.2.2 (by omega)
    rw [Nat.add_sub_cancel] at d
    unfold longK
    omega
def FourAt (p q : Spn) (v : Value) (w : World) : Prop := ∀ b, v = .slice (some ⟨b, 0, none⟩) 4 4 → w.heap[b]? = some (.cells #[.int .i64 (p.f - 1), .int .i64 p.f, .int .i64 (q.t - 1), .int .i64 q.t] 3)
def FourS (v : Value) : Prop := ∃ b, v = .slice (some ⟨b, 0, none⟩) 4 4
theorem four_stb (p q : Spn) (v : Value) : Stb (FourAt p q v) := fun _ _ h hb b e => keepB (h b e) hb
end Go.Proofs.YtoacdaemhcbbhaaDoor
