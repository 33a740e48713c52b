/-
  The law OrbitGibbs: the same bits of the same; its first look; its walk, out of the program's Gibbs by its contract.
-/
import Derived.Test.YtfamndjiaebmbafGibOf
namespace Go.Proofs.Ytfamndjiaebmbaf
open Go Go.RowKit

theorem MM.same {f g f' g' : Nat} {v u v' u' r r' : V3} (hf : FSame f f') (hv : SameV v v') (hg : FSame g g') (hu : SameV u u') (h : MM f v g u r) (k : MM f' v' g' u' r') : SameV r r' := by
  obtain ⟨s, t, h1, h2, h3⟩ := h
  obtain ⟨s', t', k1, k2, k3⟩ := k
  exact BoV.same (ScV.same hf hv h1 k1) (ScV.same hg hu h2 k2) h3 k3
theorem PM.same {n n' v v' r r' : V3} {f f' : Nat} (hn : SameV n n') (hf : FSame f f') (hv : SameV v v') (h : PM n f v r) (k : PM n' f' v' r') : SameV r r' := by
  obtain ⟨s, h1, h2⟩ := h
  obtain ⟨s', k1, k2⟩ := k
  exact BoV.same hn (ScV.same hf hv h1 k1) h2 k2
theorem BB.same {p q s p' q' s' r r' : V3} (hp : SameV p p') (hq : SameV q q') (hs : SameV s s') (h : BB p q s r) (k : BB p' q' s' r') : SameV r r' := by
  obtain ⟨t, h1, h2⟩ := h
  obtain ⟨t', k1, k2⟩ := k
  exact BoV.same (BoV.same hp hq h1 k1) hs h2 k2
theorem SS.same {f g f' g' : Nat} {v v' r r' : V3} (hf : FSame f f') (hg : FSame g g') (hv : SameV v v') (h : SS f g v r) (k : SS f' g' v' r') : SameV r r' := by
  obtain ⟨t, h1, h2⟩ := h
  obtain ⟨t', k1, k2⟩ := k
  exact ScV.same (same_sub hf hg h1 k1) hv h2 k2
theorem DM.same {f g f' g' h2 i2 h2' i2' : Nat} {v v' u u' r r' : V3} (hf : FSame f f') (hg : FSame g g') (hv : SameV v v') (hh : FSame h2 h2') (hi : FSame i2 i2') (hu : SameV u u') (h : DM f g v h2 i2 u r) (k : DM f' g' v' h2' i2' u' r') : SameV r r' := by
  obtain ⟨s, t, a1, a2, a3⟩ := h
  obtain ⟨s', t', b1, b2, b3⟩ := k
  exact BoV.same (SS.same hf hg hv a1 b1) (SS.same hh hi hu a2 b2) a3 b3
theorem PS.same {n n' v v' r r' : V3} {f g f' g' : Nat} (hn : SameV n n') (hf : FSame f f') (hg : FSame g g') (hv : SameV v v') (h : PS n f g v r) (k : PS n' f' g' v' r') : SameV r r' := by
  obtain ⟨s, h1, h2⟩ := h
  obtain ⟨s', k1, k2⟩ := k
  exact BoV.same hn (SS.same hf hg hv h1 k1) h2 k2
theorem Q3'.same {f l f' l' : Nat} {d b s d' b' s' r r' : V3} (hf : FSame f f') (hl : FSame l l') (hd : SameV d d') (hb : SameV b b') (hs : SameV s s') (h : Q3' f l d b s r) (k : Q3' f' l' d' b' s' r') : SameV r r' := by
  obtain ⟨x, ⟨y, ⟨g, z, h1, h2, h3⟩, h4⟩, h5⟩ := h
  obtain ⟨x', ⟨y', ⟨g', z', k1, k2, k3⟩, k4⟩, k5⟩ := k
  exact ScV.same hf (BoV.same (ScV.same (same_quo (.refl _) hl h1 k1) (CrV.same hd hb h2 k2) h3 k3) hs h4 k4) h5 k5
theorem GibR.same {a b c : V3} {mu : Nat} {r r' : V3} (h : GibR a b c mu r) (k : GibR a b c mu r') : SameV r r' := by
  obtain ⟨la, lb, lc, ln, ld, p, q, f, bc, ca, ab, n0, n, d, s0, s, h1, h2, h3, h4, h5, h6, h7, h8, h9, h10, h11, h12, h13, h14, h15, h16, h17⟩ := h.ex
  obtain ⟨la', lb', lc', ln', ld', p', q', f', bc', ca', ab', n0', n', d', s0', s', k1, k2, k3, k4, k5, k6, k7, k8, k9, k10, k11, k12, k13, k14, k15, k16, k17⟩ := k.ex
  have ra := SameV.refl a
  have rb := SameV.refl b
  have rc := SameV.refl c
  have ea := LnV.same ra h1 k1
  have eb := LnV.same rb h2 k2
  have ec := LnV.same rc h3 k3
  have ebc := CrV.same rb rc h4 k4
  have eca := CrV.same rc ra h5 k5
  have eab := CrV.same ra rb h6 k6
  have en := PM.same (MM.same ea ebc eb eca h7 k7) ec eab h8 k8
  have ed := BB.same eab ebc eca h9 k9
  have es := PS.same (DM.same eb ec ra ec ea rb h10 k10) ea eb rc h11 k11
  have ef := h16.same k16 (same_quo (.refl _) (same_mul (LnV.same en h12 k12) (LnV.same ed h13 k13) h14 k14) h15 k15)
  exact Q3'.same ef eb ed rb es h17 k17
theorem nan_finB {r : Nat} (hr : Nan r) : finB r = false := by
  unfold Nan at hr
  unfold finB
  cases e : FloatKind.f64.format.read r with
  | number s m i => rw [e] at hr; cases hr
  | infinity s => rfl
  | nan s f => rfl
theorem fin_same {x y : Nat} (h : FSame x y) : finB x = finB y := by
  rcases h with rfl | ⟨h1, h2⟩
  · rfl
  · rw [nan_finB h1, nan_finB h2]
/-! reckoned outright -/
def nanX : Nat := 9221120237041090561
def fv (o : BinOp) (x y : Nat) : Nat := (floatBits o .f64 x y).getD nanX
def sqv (x : Nat) : Nat := (FloatKind.f64.format.sqrt x).getD nanX
theorem nanX_is : Nan nanX := by unfold Nan; decide +kernel
theorem fv_is (o : BinOp) (x y : Nat) : FOp o x y (fv o x y) := by
  unfold FOp fv
  cases floatBits o .f64 x y with
  | some v => rfl
  | none => exact nanX_is
theorem sqv_is (x : Nat) : FSq x (sqv x) := by
  unfold FSq sqv
  cases FloatKind.f64.format.sqrt x with
  | some v => rfl
  | none => exact nanX_is
def crv (a b c d : Nat) : Nat := fv .sub (fv .mul a b) (fv .mul c d)
def crossW (p q : V3) : V3 := ⟨crv p.y q.z p.z q.y, crv p.z q.x p.x q.z, crv p.x q.y p.y q.x⟩
def scW (f : Nat) (v : V3) : V3 := ⟨fv .mul f v.x, fv .mul f v.y, fv .mul f v.z⟩
def boW (v u : V3) : V3 := ⟨fv .add v.x u.x, fv .add v.y u.y, fv .add v.z u.z⟩
def lnW (v : V3) : Nat := sqv (fv .add (fv .add (fv .mul v.x v.x) (fv .mul v.y v.y)) (fv .mul v.z v.z))
theorem crv_is (a b c d : Nat) : Ev (crE a b c d) (crv a b c d) := .op (ev_m (fv_is _ _ _)) (ev_m (fv_is _ _ _)) (fv_is _ _ _)
theorem crossW_is (p q : V3) : CrV p q (crossW p q) := ⟨crv_is _ _ _ _, crv_is _ _ _ _, crv_is _ _ _ _⟩
theorem scW_is (f : Nat) (v : V3) : ScV f v (scW f v) := ⟨fv_is _ _ _, fv_is _ _ _, fv_is _ _ _⟩
theorem boW_is (v u : V3) : BoV v u (boW v u) := ⟨fv_is _ _ _, fv_is _ _ _, fv_is _ _ _⟩
theorem lnW_is (v : V3) : LnV v (lnW v) := ⟨_, .op (.op (.op (.num _) (.num _) (fv_is _ _ _)) (.op (.num _) (.num _) (fv_is _ _ _)) (fv_is _ _ _)) (.op (.num _) (.num _) (fv_is _ _ _)) (fv_is _ _ _), sqv_is _⟩
def gibW (a b c : V3) (mu : Nat) : V3 :=
  let la := lnW a
  let lb := lnW b
  let lc := lnW c
  let bc := crossW b c
  let ca := crossW c a
  let ab := crossW a b
  let n := boW (boW (scW la bc) (scW lb ca)) (scW lc ab)
  let d := boW (boW ab bc) ca
  let s := boW (boW (scW (fv .sub lb lc) a) (scW (fv .sub lc la) b)) (scW (fv .sub la lb) c)
  scW (sqv (fv .quo mu (fv .mul (lnW n) (lnW d)))) (boW (scW (fv .quo 4607182418800017408 lb) (crossW d b)) s)
theorem gibW_is (a b c : V3) (mu : Nat) : GibR a b c mu (gibW a b c mu) :=
  ⟨_, _, _, _, _, _, _, _, _, _, _, _, _, _, _, _, lnW_is a, lnW_is b, lnW_is c, crossW_is b c, crossW_is c a, crossW_is a b, ⟨_, _, scW_is _ _, scW_is _ _, boW_is _ _⟩, ⟨_, scW_is _ _, boW_is _ _⟩, ⟨_, boW_is _ _, boW_is _ _⟩, ⟨_, _, ⟨_, fv_is _ _ _, scW_is _ _⟩, ⟨_, fv_is _ _ _, scW_is _ _⟩, boW_is _ _⟩, ⟨_, ⟨_, fv_is _ _ _, scW_is _ _⟩, boW_is _ _⟩, lnW_is _, lnW_is _, fv_is _ _ _, fv_is _ _ _, sqv_is _, ⟨_, ⟨_, ⟨_, _, fv_is _ _ _, crossW_is _ _, scW_is _ _⟩, boW_is _ _⟩, scW_is _ _⟩⟩
def vX : V3 := ⟨4607182418800017408, 0, 0⟩
def vY : V3 := ⟨0, 4607182418800017408, 0⟩
def vM : V3 := ⟨13830554455654793216, 0, 0⟩
theorem first_v : (finB (gibW vX vY vM 4607182418800017408).x && finB (gibW vX vY vM 4607182418800017408).y && finB (gibW vX vY vM 4607182418800017408).z) = true ∧ (FloatKind.f64.format.order (gibW vX vY vM 4607182418800017408).x 13829653735729319117 == some .gt) = false ∧ (FloatKind.f64.format.order (gibW vX vY vM 4607182418800017408).x 13831004815617530266 == some .lt) = false := by decide +kernel
theorem order_same {x y : Nat} (h : FSame x y) (z : Nat) : FloatKind.f64.format.order x z = FloatKind.f64.format.order y z := by
  rcases h with rfl | ⟨h1, h2⟩
  · rfl
  · have hn : ∀ {x : Nat}, Nan x → FloatKind.f64.format.order x z = none := fun {x} h => by
      unfold Nan at h
      unfold Ieee.Format.order
      cases e : FloatKind.f64.format.read x with
      | number s m i => rw [e] at h; cases h
      | infinity s => rw [e] at h; cases h
      | nan s f => rfl
    rw [hn h1, hn h2]
theorem gib_first {e : Ending} (h : GibEnd vX vY vM 4607182418800017408 e) : ∃ r : V3, e = .returned (.tuple #[r.val, .bool true]) ∧ (FloatKind.f64.format.order r.x 13829653735729319117 == some .gt) = false ∧ (FloatKind.f64.format.order r.x 13831004815617530266 == some .lt) = false := by
  obtain ⟨r, hr, rfl⟩ := h
  have hs := GibR.same hr (gibW_is vX vY vM 4607182418800017408)
  obtain ⟨f1, f2, f3⟩ := first_v
  rw [← fin_same hs.x, ← fin_same hs.y, ← fin_same hs.z] at f1
  rw [← order_same hs.x] at f2 f3
  refine ⟨r, ?_, f2, f3⟩
  rw [f1]
  rfl
theorem gib_two {a b c : V3} {mu : Nat} {e e' : Ending} (h : GibEnd a b c mu e) (k : GibEnd a b c mu e') : ∃ (r r' : V3) (t : Bool), e = .returned (.tuple #[r.val, .bool t]) ∧ e' = .returned (.tuple #[r'.val, .bool t]) ∧ SameV r r' := by
  obtain ⟨r, hr, rfl⟩ := h
  obtain ⟨r', hr', rfl⟩ := k
  have hs := GibR.same hr hr'
  rw [← fin_same hs.x, ← fin_same hs.y, ← fin_same hs.z]
  cases (finB r.x && finB r.y && finB r.z)
  · exact ⟨⟨0, 0, 0⟩, ⟨0, 0, 0⟩, false, rfl, rfl, SameV.refl _⟩
  · exact ⟨r, r', true, rfl, rfl, hs⟩
end Go.Proofs.Ytfamndjiaebmbaf
