/-
  Two lists of spans, swept end by end: what counts. Nothing of the program's text.
-/
import Derived.Test.YthhhomlgcefalahDoorEvWp
namespace Go.Proofs.YthhhomlgcefalahDoor

/-- an end by its number; behind the last there is none. -/
def endV (A : List Spn) (i : Nat) : Int := if i = 2 * A.length then 9223372036854775807 else if i % 2 = 0 then (A.getD (i / 2) sp0).f else (A.getD (i / 2) sp0).t
def oddV (i : Nat) : Bool := decide (i % 2 = 1)
theorem right_ok {A : List Spn} (h : rightV A = true) {k : Nat} (hk : k < A.length) : Spn.Ok A k := of_decide_eq_true h k hk
theorem end_in {A : List Spn} (h : rightV A = true) {i : Nat} (hi : i < 2 * A.length) : -1152921504606846976 ≤ endV A i ∧ endV A i ≤ 1152921504606846976 := by
  have q := right_ok h (k := i / 2) (by omega)
  unfold Spn.Ok at q
  unfold endV
  rw [if_neg (by omega)]
  split <;> omega
theorem end_lt {A : List Spn} (h : rightV A = true) {i : Nat} (hi : i < 2 * A.length) : endV A i < endV A (i + 1) := by
  have hb := end_in h hi
  by_cases he : i + 1 = 2 * A.length
  · have : endV A (i + 1) = 9223372036854775807 := by unfold endV; rw [if_pos he]
    omega
  · have q := right_ok h (k := i / 2) (by omega)
    unfold Spn.Ok at q
    unfold endV
    have n0 : ¬ i = 2 * A.length := by omega
    rw [if_neg n0, if_neg he]
    rcases Nat.mod_two_eq_zero_or_one i with e | e
    · rw [if_pos e, if_neg (show ¬ (i + 1) % 2 = 0 by omega), show (i + 1) / 2 = i / 2 by omega]
      exact q.1
    · have q2 := right_ok h (k := i / 2 + 1) (by omega)
      unfold Spn.Ok at q2
      rw [if_neg (show ¬ i % 2 = 0 by omega), if_pos (show (i + 1) % 2 = 0 by omega), show (i + 1) / 2 = i / 2 + 1 by omega]
      have := q2.2.2.2 (by omega)
      rwa [Nat.add_sub_cancel] at this
/-- so many ends are not behind an instant. -/
structure PosAt (A : List Spn) (i : Nat) (y : Int) : Prop where
  le : i ≤ 2 * A.length
  lo : 0 < i → endV A (i - 1) ≤ y
  hi : y < endV A i
theorem t_mono {A : List Spn} (h : rightV A = true) {m k : Nat} (hm : m ≤ k) (hk : k < A.length) : (A.getD m sp0).t ≤ (A.getD k sp0).t := by
  rcases Nat.eq_or_lt_of_le hm with rfl | hlt
  · exact Int.le_refl _
  · have a := rise_far (right_rise h) (i := m) (k - m - 1) (by omega)
    rw [show m + (k - m - 1) + 1 = k by omega] at a
    have b := (right_rise h k hk).1
    omega
theorem pos_in {A : List Spn} (h : rightV A = true) {i : Nat} {y : Int} (p : PosAt A i y) : inV A y = oddV i := by
  obtain ⟨p1, p2, p3⟩ := p
  unfold oddV
  rcases Nat.mod_two_eq_zero_or_one i with e | e
  · rw [decide_eq_false (by omega)]
    cases q : inV A y with
    | false => rfl
    | true =>
      exfalso
      obtain ⟨m, hm, h1, h2⟩ := inV_some q
      by_cases hmi : 2 * m < i
      · have := p2 (by omega)
        unfold endV at this
        rw [if_neg (by omega), if_neg (by omega)] at this
        have t := t_mono h (m := m) (k := (i - 1) / 2) (by omega) (by omega)
        omega
      · unfold endV at p3
        rw [if_neg (by omega), if_pos e] at p3
        rcases Nat.eq_or_lt_of_le (show i / 2 ≤ m by omega) with q | q
        · rw [q] at p3
          omega
        · have a := rise_far (right_rise h) (i := i / 2) (m - i / 2 - 1) (by omega)
          rw [show i / 2 + (m - i / 2 - 1) + 1 = m by omega] at a
          have b := (right_rise h (i / 2) (by omega)).1
          omega
  · rw [decide_eq_true e]
    have := p2 (by omega)
    unfold endV at this p3
    rw [if_neg (by omega), if_pos (by omega)] at this
    rw [if_neg (by omega), if_neg (by omega)] at p3
    rw [show (i - 1) / 2 = i / 2 by omega] at this
    exact inV_at (by omega) this p3
theorem PosAt.first {A : List Spn} (h : rightV A = true) : PosAt A 0 (-1152921504606846977) := by
  refine ⟨Nat.zero_le _, fun q => absurd q (Nat.lt_irrefl 0), ?_⟩
  rcases Nat.eq_zero_or_pos A.length with z | z
  · unfold endV
    rw [if_pos (by omega)]
    decide
  · have := end_in h (i := 0) (by omega)
    omega
/-- on to an end: the number of those that are not behind it. -/
def stepV (A : List Spn) (i : Nat) (x : Int) : Nat := if endV A i = x then i + 1 else i
theorem PosAt.step {A : List Spn} (h : rightV A = true) {i : Nat} {T x : Int} (p : PosAt A i T) (hT : T < x) (hx : x ≤ endV A i) (hm : x ≤ 1152921504606846976) : PosAt A (stepV A i x) x := by
  obtain ⟨p1, p2, p3⟩ := p
  unfold stepV
  by_cases e : endV A i = x
  · rw [if_pos e]
    have hi : i < 2 * A.length := by
      rcases Nat.lt_or_ge i (2 * A.length) with q | q
      · exact q
      · exfalso
        have : i = 2 * A.length := by omega
        unfold endV at e
        rw [if_pos this] at e
        omega
    refine ⟨by omega, fun _ => ?_, ?_⟩
    · rw [Nat.add_sub_cancel]
      omega
    · have := end_lt h hi
      omega
  · rw [if_neg e]
    refine ⟨p1, fun q => ?_, by omega⟩
    have := p2 q
    omega
theorem PosAt.mid {A : List Spn} {i : Nat} {T x y : Int} (p : PosAt A i T) (h1 : T ≤ y) (h2 : y < x) (hx : x ≤ endV A i) : PosAt A i y :=
  ⟨p.le, fun q => by have := p.lo q; omega, by omega⟩
structure Sweep (A B : List Spn) (f : Bool → Bool → Bool) (i j : Nat) (T : Int) (inn : Bool) (fr : Int) (l : List Spn) : Prop where
  pa : PosAt A i T
  pb : PosAt B j T
  now : inn = f (oddV i) (oddV j)
  opn : inn = true → fr ≤ T ∧ ∀ k, k < l.length → (l.getD k sp0).t < fr
  rise : riseV l
  high : ∀ k, k < l.length → (l.getD k sp0).t ≤ T
  few : l.length ≤ i + j
  at_ : ∀ y, y ≤ T → (f (inV A y) (inV B y) = true ↔ inV l y = true ∨ (inn = true ∧ fr ≤ y))
theorem Sweep.first {A B : List Spn} {f : Bool → Bool → Bool} (hA : rightV A = true) (hB : rightV B = true) (hf : f false false = false) (fr : Int) : Sweep A B f 0 0 (-1152921504606846977) false fr [] := by
  refine ⟨.first hA, .first hB, ?_, fun q => Bool.noConfusion q, fun k hk => absurd hk (Nat.not_lt_zero k), fun k hk => absurd hk (Nat.not_lt_zero k), Nat.le_refl _, fun y hy => ?_⟩
  · show false = f false false
    exact hf.symm
  · have q : ∀ {L : List Spn}, rightV L = true → inV L y = false := fun {L} hL => by
      cases e : inV L y with
      | false => rfl
      | true =>
        exfalso
        obtain ⟨m, hm, h1, _⟩ := inV_some e
        have := right_ok hL hm
        unfold Spn.Ok at this
        omega
    rw [q hA, q hB, hf]
    constructor
    · intro k; cases k
    · rintro (k | k)
      · cases k
      · cases k.1
/-- one end further. -/
def sweepL (inn now : Bool) (fr x : Int) (l : List Spn) : List Spn := if inn = true ∧ now = false then l ++ [⟨fr, x⟩] else l
def sweepF (inn now : Bool) (fr x : Int) : Int := if now = true ∧ inn = false then x else fr
theorem stepV_le (A : List Spn) (i : Nat) (x : Int) : i ≤ stepV A i x ∧ stepV A i x ≤ i + 1 := by
  unfold stepV
  split <;> omega
theorem Sweep.next {A B : List Spn} {f : Bool → Bool → Bool} {i j : Nat} {T : Int} {inn : Bool} {fr : Int} {l : List Spn} (hA : rightV A = true) (hB : rightV B = true) (S : Sweep A B f i j T inn fr l) {x : Int}
    (hx : x = endV A i ∧ x ≤ endV B j ∨ x = endV B j ∧ x ≤ endV A i) (hm : x ≤ 1152921504606846976) :
    Sweep A B f (stepV A i x) (stepV B j x) x (f (oddV (stepV A i x)) (oddV (stepV B j x))) (sweepF inn (f (oddV (stepV A i x)) (oddV (stepV B j x))) fr x) (sweepL inn (f (oddV (stepV A i x)) (oddV (stepV B j x))) fr x l) := by
  obtain ⟨pa, pb, hnow, hopn, hrise, hhigh, hfew, hat⟩ := S
  have hTa := pa.hi
  have hTb := pb.hi
  have hT : T < x := by rcases hx with ⟨q, _⟩ | ⟨q, _⟩ <;> omega
  have hxa : x ≤ endV A i := by rcases hx with ⟨q, _⟩ | ⟨_, q⟩ <;> omega
  have hxb : x ≤ endV B j := by rcases hx with ⟨_, q⟩ | ⟨q, _⟩ <;> omega
  have pa2 := pa.step hA hT hxa hm
  have pb2 := pb.step hB hT hxb hm
  have hmid : ∀ y, T < y → y < x → f (inV A y) (inV B y) = inn := fun y y1 y2 => by
    rw [pos_in hA (pa.mid (by omega) y2 hxa), pos_in hB (pb.mid (by omega) y2 hxb), hnow]
  have hend : f (inV A x) (inV B x) = f (oddV (stepV A i x)) (oddV (stepV B j x)) := by rw [pos_in hA pa2, pos_in hB pb2]
  have hgrow : i + j + 1 ≤ stepV A i x + stepV B j x := by
    have a := stepV_le A i x
    have b := stepV_le B j x
    rcases hx with ⟨q, _⟩ | ⟨q, _⟩
    · have : stepV A i x = i + 1 := by unfold stepV; rw [if_pos q.symm]
      omega
    · have : stepV B j x = j + 1 := by unfold stepV; rw [if_pos q.symm]
      omega
  generalize hnw : f (oddV (stepV A i x)) (oddV (stepV B j x)) = nw at *
  have hlow : ∀ {y : Int}, T < y → ¬ inV l y = true := fun {y} hy => inV_high hhigh (by omega)
  cases inn with
  | true =>
    obtain ⟨o1, o2⟩ := hopn rfl
    cases nw with
    | true =>
      have e1 : sweepF true true fr x = fr := rfl
      have e2 : sweepL true true fr x l = l := rfl
      rw [e1, e2]
      refine ⟨pa2, pb2, hnw.symm, fun _ => ⟨by omega, o2⟩, hrise, fun k hk => by have := hhigh k hk; omega, by omega, fun y hy => ?_⟩
      rcases (show y ≤ T ∨ (T < y ∧ y < x) ∨ y = x by omega) with q | q | rfl
      · exact hat y q
      · rw [hmid y q.1 q.2]
        exact ⟨fun _ => .inr ⟨rfl, by omega⟩, fun _ => rfl⟩
      · rw [hend]
        exact ⟨fun _ => .inr ⟨rfl, by omega⟩, fun _ => rfl⟩
    | false =>
      have e1 : sweepF true false fr x = fr := rfl
      have e2 : sweepL true false fr x l = l ++ [⟨fr, x⟩] := rfl
      rw [e1, e2]
      have ln : (l ++ [(⟨fr, x⟩ : Spn)]).length = l.length + 1 := by simp
      refine ⟨pa2, pb2, hnw.symm, fun q => Bool.noConfusion q, rise_snoc hrise (by show fr < x; omega) o2, fun k hk => ?_, by omega, fun y hy => ?_⟩
      · rw [ln] at hk
        rcases (show k < l.length ∨ k = l.length by omega) with q | rfl
        · rw [getD_old q]
          have := hhigh k q
          omega
        · rw [getD_new]
          exact Int.le_refl _
      · rw [inV_snoc]
        rcases (show y ≤ T ∨ (T < y ∧ y < x) ∨ y = x by omega) with q | q | rfl
        · rw [hat y q]
          constructor
          · rintro (g | g)
            · exact .inl (.inl g)
            · exact .inl (.inr ⟨g.2, by show y < x; omega⟩)
          · rintro ((g | g) | g)
            · exact .inl g
            · exact .inr ⟨rfl, g.1⟩
            · cases g.1
        · rw [hmid y q.1 q.2]
          exact ⟨fun _ => .inl (.inr ⟨by show fr ≤ y; omega, q.2⟩), fun _ => rfl⟩
        · rw [hend]
          constructor
          · intro g; cases g
          · rintro ((g | g) | g)
            · exact absurd g (hlow hT)
            · exact absurd g.2 (Int.lt_irrefl _)
            · cases g.1
  | false =>
    cases nw with
    | true =>
      have e1 : sweepF false true fr x = x := rfl
      have e2 : sweepL false true fr x l = l := rfl
      rw [e1, e2]
      refine ⟨pa2, pb2, hnw.symm, fun _ => ⟨Int.le_refl _, fun k hk => by have := hhigh k hk; omega⟩, hrise, fun k hk => by have := hhigh k hk; omega, by omega, fun y hy => ?_⟩
      rcases (show y ≤ T ∨ (T < y ∧ y < x) ∨ y = x by omega) with q | q | rfl
      · rw [hat y q]
        constructor
        · rintro (g | g)
          · exact .inl g
          · cases g.1
        · rintro (g | g)
          · exact .inl g
          · exfalso
            omega
      · rw [hmid y q.1 q.2]
        constructor
        · intro g; cases g
        · rintro (g | g)
          · exact absurd g (hlow q.1)
          · exfalso
            omega
      · rw [hend]
        exact ⟨fun _ => .inr ⟨rfl, Int.le_refl _⟩, fun _ => rfl⟩
    | false =>
      have e1 : sweepF false false fr x = fr := rfl
      have e2 : sweepL false false fr x l = l := rfl
      rw [e1, e2]
      refine ⟨pa2, pb2, hnw.symm, fun q => Bool.noConfusion q, hrise, fun k hk => by have := hhigh k hk; omega, by omega, fun y hy => ?_⟩
      rcases (show y ≤ T ∨ (T < y ∧ y < x) ∨ y = x by omega) with q | q | rfl
      · exact hat y q
      · rw [hmid y q.1 q.2]
        constructor
        · intro g; cases g
        · rintro (g | g)
          · exact absurd g (hlow q.1)
          · cases g.1
      · rw [hend]
        constructor
        · intro g; cases g
        · rintro (g | g)
          · exact absurd g (hlow hT)
          · cases g.1
theorem Sweep.done {A B : List Spn} {f : Bool → Bool → Bool} {T : Int} {inn : Bool} {fr : Int} {l : List Spn} (hA : rightV A = true) (hB : rightV B = true) (hf : f false false = false) (lA : A.length ≤ 4000) (lB : B.length ≤ 4000)
    (S : Sweep A B f (2 * A.length) (2 * B.length) T inn fr l) : riseV l ∧ l.length ≤ 20000 ∧ ∀ y, inV l y = f (inV A y) (inV B y) := by
  obtain ⟨pa, pb, hnow, hopn, hrise, hhigh, hfew, hat⟩ := S
  have hin : inn = false := by
    rw [hnow]
    have o : ∀ n, oddV (2 * n) = false := fun n => decide_eq_false (by omega)
    rw [o, o]
    exact hf
  refine ⟨hrise, by omega, fun y => ?_⟩
  by_cases q : y ≤ T
  · rw [Bool.eq_iff_iff, hat y q, hin]
    constructor
    · exact fun g => .inl g
    · rintro (g | g)
      · exact g
      · cases g.1
  · have z : ∀ {L : List Spn}, rightV L = true → PosAt L (2 * L.length) T → inV L y = false := fun {L} hL p => by
      cases e : inV L y with
      | false => rfl
      | true =>
        exfalso
        obtain ⟨m, hm, h1, h2⟩ := inV_some e
        have := p.lo (by omega)
        unfold endV at this
        rw [if_neg (by omega), if_neg (by omega), show (2 * L.length - 1) / 2 = L.length - 1 by omega] at this
        have t := t_mono hL (m := m) (k := L.length - 1) (by omega) (by omega)
        omega
    rw [z hA pa, z hB pb, hf]
    cases e : inV l y with
    | false => rfl
    | true => exact absurd e (inV_high hhigh (by omega))
end Go.Proofs.YthhhomlgcefalahDoor
