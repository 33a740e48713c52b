/-
  Waves of a row of complex numbers, by their parts, whatever bits a NaN has; and by halves.
-/
import Derived.Test.YtngdemhhcablmakDoorSinIs
import Derived.Test.YtngdemhhcablmakDoorCirA
import Derived.Test.YtngdemhhcablmakDoorLtPw
namespace Go.Proofs.YtngdemhhcablmakDoor
open Go

def CSame (x y : Nat × Nat) : Prop := FSame x.1 y.1 ∧ FSame x.2 y.2
theorem CSame.refl (x : Nat × Nat) : CSame x x := ⟨.inl rfl, .inl rfl⟩
/-- a product, each operation by itself. -/
def CPr (x y r : Nat × Nat) : Prop := ∃ ac bd ad bc, FOp .mul x.1 y.1 ac ∧ FOp .mul x.2 y.2 bd ∧ FOp .mul x.1 y.2 ad ∧ FOp .mul x.2 y.1 bc ∧ FOp .sub ac bd r.1 ∧ FOp .add ad bc r.2
def CAd (x y r : Nat × Nat) : Prop := FOp .add x.1 y.1 r.1 ∧ FOp .add x.2 y.2 r.2
def CSb (x y r : Nat × Nat) : Prop := FOp .sub x.1 y.1 r.1 ∧ FOp .sub x.2 y.2 r.2
/-- both parts over a number. -/
def COv (n : Nat) (x r : Nat × Nat) : Prop := FOp .quo x.1 n r.1 ∧ FOp .quo x.2 n r.2
theorem CPr.same {x y r x' y' r' : Nat × Nat} (h : CPr x y r) (g : CPr x' y' r') (sx : CSame x x') (sy : CSame y y') : CSame r r' := by
  obtain ⟨ac, bd, ad, bc, h1, h2, h3, h4, h5, h6⟩ := h
  obtain ⟨ac', bd', ad', bc', g1, g2, g3, g4, g5, g6⟩ := g
  exact ⟨h5.same g5 (h1.same g1 sx.1 sy.1) (h2.same g2 sx.2 sy.2), h6.same g6 (h3.same g3 sx.1 sy.2) (h4.same g4 sx.2 sy.1)⟩
theorem CAd.same {x y r x' y' r' : Nat × Nat} (h : CAd x y r) (g : CAd x' y' r') (sx : CSame x x') (sy : CSame y y') : CSame r r' := ⟨h.1.same g.1 sx.1 sy.1, h.2.same g.2 sx.2 sy.2⟩
theorem CSb.same {x y r x' y' r' : Nat × Nat} (h : CSb x y r) (g : CSb x' y' r') (sx : CSame x x') (sy : CSame y y') : CSame r r' := ⟨h.1.same g.1 sx.1 sy.1, h.2.same g.2 sx.2 sy.2⟩
theorem COv.same {n : Nat} {x r x' r' : Nat × Nat} (h : COv n x r) (g : COv n x' r') (sx : CSame x x') : CSame r r' := ⟨h.1.same g.1 sx.1 (.inl rfl), h.2.same g.2 sx.2 (.inl rfl)⟩
def waveV (g : Int) (back : Bool) : Nat × Nat := (cosV g, if back then sinV g else ngB (sinV g))
/-- the angle of place j in wave k. -/
def gAt (j k n : Nat) : Int := ((1296000000000 * (j * k % n) / n : Nat) : Int)
inductive WvR (L : List (Nat × Nat)) (k n : Nat) (back : Bool) : Nat → Nat × Nat → Prop
  | zero : WvR L k n back 0 (0, 0)
  | next {j : Nat} {x p y : Nat × Nat} (h : WvR L k n back j x) (hp : CPr (L.getD j (0, 0)) (waveV (gAt j k n) back) p) (hy : CAd x p y) : WvR L k n back (j + 1) y
theorem WvR.same {L L' : List (Nat × Nat)} {k n : Nat} {back : Bool} (hL : ∀ j, CSame (L.getD j (0, 0)) (L'.getD j (0, 0))) {j : Nat} {x : Nat × Nat} (h : WvR L k n back j x) : ∀ {x' : Nat × Nat}, WvR L' k n back j x' → CSame x x' := by
  induction h with
  | zero =>
    intro x' g
    cases g
    exact CSame.refl _
  | next h hp hy ih =>
    intro x' g
    cases g with
    | next g gp gy => exact hy.same gy (ih g) (hp.same gp (hL _) (CSame.refl _))
/-- the k-th wave. -/
def WvEnd (L : List (Nat × Nat)) (k n : Nat) (back : Bool) (r : Nat × Nat) : Prop := ∃ x, WvR L k n back n x ∧ (back = false → r = x) ∧ (back = true → COv (floatOfInt .f64 n) x r)
theorem WvEnd.same {L L' : List (Nat × Nat)} {k n : Nat} {back : Bool} (hL : ∀ j, CSame (L.getD j (0, 0)) (L'.getD j (0, 0))) {r r' : Nat × Nat} (h : WvEnd L k n back r) (g : WvEnd L' k n back r') : CSame r r' := by
  obtain ⟨x, h1, h2, h3⟩ := h
  obtain ⟨x', g1, g2, g3⟩ := g
  have s := h1.same hL g1
  cases back with
  | false => rw [h2 rfl, g2 rfl]; exact s
  | true => exact (h3 rfl).same (g3 rfl) s
/-- by halves: of 2 to the power of d numbers. -/
inductive HvR (back : Bool) : Nat → (Nat → Nat × Nat) → (Nat → Nat × Nat) → Prop
  | one {L X : Nat → Nat × Nat} (h : X 0 = L 0) : HvR back 0 L X
  | two {d : Nat} {L E O X : Nat → Nat × Nat} (he : HvR back d (fun i => L (2 * i)) E) (ho : HvR back d (fun i => L (2 * i + 1)) O)
      (h : ∀ k, k < 2 ^ d → ∃ t, CPr (O k) (waveV ((1296000000000 * k / 2 ^ (d + 1) : Nat) : Int) back) t ∧ CAd (E k) t (X k) ∧ CSb (E k) t (X (k + 2 ^ d))) : HvR back (d + 1) L X
theorem HvR.same {back : Bool} {d : Nat} {L X : Nat → Nat × Nat} (h : HvR back d L X) : ∀ {L' X' : Nat → Nat × Nat}, HvR back d L' X' → (∀ i, i < 2 ^ d → CSame (L i) (L' i)) → ∀ k, k < 2 ^ d → CSame (X k) (X' k) := by
  induction h with
  | one h =>
    intro L' X' g hL k hk
    cases g with
    | one g =>
      obtain rfl : k = 0 := by omega
      rw [h, g]
      exact hL 0 hk
  | @two d L E O X he ho h ihe iho =>
    intro L' X' g hL k hk
    cases g with
    | @two _ _ E' O' _ ge go g =>
      have p2 : 2 ^ (d + 1) = 2 ^ d + 2 ^ d := by rw [Nat.pow_succ]; omega
      have sE := ihe ge (fun i hi => hL (2 * i) (by omega))
      have sO := iho go (fun i hi => hL (2 * i + 1) (by omega))
      by_cases q : k < 2 ^ d
      · obtain ⟨t, h1, h2, _⟩ := h k q
        obtain ⟨t', g1, g2, _⟩ := g k q
        exact h2.same g2 (sE k q) (h1.same g1 (sO k q) (CSame.refl _))
      · obtain ⟨k', rfl⟩ : ∃ k', k = k' + 2 ^ d := ⟨k - 2 ^ d, by omega⟩
        have q' : k' < 2 ^ d := by omega
        obtain ⟨t, h1, _, h3⟩ := h k' q'
        obtain ⟨t', g1, _, g3⟩ := g k' q'
        exact h3.same g3 (sE k' q') (h1.same g1 (sO k' q') (CSame.refl _))
/-- what halves look at alone. -/
theorem HvR.congr {back : Bool} {d : Nat} {L X : Nat → Nat × Nat} (h : HvR back d L X) : ∀ {L' : Nat → Nat × Nat}, (∀ i, i < 2 ^ d → L' i = L i) → HvR back d L' X := by
  induction h with
  | one h => intro L' e; exact .one (h.trans (e 0 (by decide)).symm)
  | @two d L E O X he ho h ihe iho =>
    intro L' e
    have p2 : 2 ^ (d + 1) = 2 ^ d + 2 ^ d := by rw [Nat.pow_succ]; omega
    exact .two (ihe (fun i hi => e (2 * i) (by omega))) (iho (fun i hi => e (2 * i + 1) (by omega))) h
end Go.Proofs.YtngdemhhcablmakDoor
