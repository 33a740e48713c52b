/-
  A mount: what it does with commands and ticks; that it is safe, and parked at last. Nothing of the program.
-/
namespace Go.Proofs.YteoappoijihomahDoor

structure Lim where
  lo : Int
  hi : Int
  fast : Int
  home : Int
deriving DecidableEq
/-- a kind of command: 1 slew, 2 track, 3 stop, 4 park, 5 hello, any other 0. -/
structure Cmd where
  num : Int
  kind : Nat
  a : Int
  b : Int
structure Mt where
  A : Lim
  B : Lim
  X : Int
  Y : Int
  P : Int
  Q : Int
  st : Int
  pat : Int
  quiet : Int
  taken : Bool
  num : Int
  code : Int
def Lim.shape (l : Lim) : Prop := l.lo ≤ l.hi ∧ l.lo ≤ l.home ∧ l.home ≤ l.hi ∧ 1 ≤ l.fast
instance (l : Lim) : Decidable l.shape := by unfold Lim.shape; infer_instance
def large (n : Int) : Prop := 1099511627776 < n ∨ n < -1099511627776
instance (n : Int) : Decidable (large n) := by unfold large; infer_instance
def Lim.large (l : Lim) : Prop := Go.Proofs.YteoappoijihomahDoor.large l.lo ∨ Go.Proofs.YteoappoijihomahDoor.large l.hi ∨ Go.Proofs.YteoappoijihomahDoor.large l.fast ∨ Go.Proofs.YteoappoijihomahDoor.large l.home
instance (l : Lim) : Decidable l.large := by unfold Lim.large; infer_instance
def newE (a b : Lim) (pat : Int) : Int := if ¬ a.shape ∨ ¬ b.shape ∨ pat < 1 then 5 else if a.large ∨ b.large ∨ large pat then 2 else 0
def newV (a b : Lim) (pat : Int) : Mt := ⟨a, b, a.home, b.home, 0, 0, 4, pat, 0, false, 0, 0⟩
def out (l : Lim) (x : Int) : Prop := x < l.lo ∨ l.hi < x
instance (l : Lim) (x : Int) : Decidable (out l x) := by unfold out; infer_instance
def quick (l : Lim) (x : Int) : Prop := l.fast < x ∨ x < -l.fast
instance (l : Lim) (x : Int) : Decidable (quick l x) := by unfold quick; infer_instance
/-- what a command that is taken does: the mount then, and the error's number. -/
def doV (m : Mt) (c : Cmd) : Mt × Int :=
  if c.kind = 1 then (if out m.A c.a ∨ out m.B c.b then (m, 6) else if m.st = 3 then (m, 7) else ({ m with P := c.a, Q := c.b, st := 1 }, 0))
  else if c.kind = 2 then (if quick m.A c.a ∨ quick m.B c.b then (m, 6) else if m.st = 4 ∨ m.st = 3 then (m, 7) else ({ m with P := c.a, Q := c.b, st := 2 }, 0))
  else if c.kind = 3 then (if m.st = 4 then (m, 7) else ({ m with st := 5 }, 0))
  else if c.kind = 4 then (if m.st = 4 then (m, 0) else ({ m with st := 3 }, 0))
  else if c.kind = 5 then (m, 0)
  else (m, 10)
/-- the mount behind a command, and the number of the error that is told. -/
def takeV (m : Mt) (c : Cmd) : Mt × Int :=
  if m.taken = true ∧ c.num = m.num then (m, m.code)
  else if m.taken = true ∧ c.num < m.num then (m, 7)
  else ({ (doV { m with taken := true, num := c.num, quiet := 0 } c).1 with code := (doV { m with taken := true, num := c.num, quiet := 0 } c).2 }, (doV { m with taken := true, num := c.num, quiet := 0 } c).2)
def towards (at_ to fast : Int) : Int := if fast < to - at_ then at_ + fast else if fast < at_ - to then at_ - fast else to
def moveV (m : Mt) : Mt :=
  if m.st = 1 then { m with X := towards m.X m.P m.A.fast, Y := towards m.Y m.Q m.B.fast, st := if towards m.X m.P m.A.fast = m.P ∧ towards m.Y m.Q m.B.fast = m.Q then 0 else 1 }
  else if m.st = 3 then { m with X := towards m.X m.A.home m.A.fast, Y := towards m.Y m.B.home m.B.fast, st := if towards m.X m.A.home m.A.fast = m.A.home ∧ towards m.Y m.B.home m.B.fast = m.B.home then 4 else 3 }
  else if m.st = 2 then (if out m.A (m.X + m.P) ∨ out m.B (m.Y + m.Q) then { m with st := 5 } else { m with X := m.X + m.P, Y := m.Y + m.Q })
  else m
def tickV (m : Mt) : Mt := { moveV m with quiet := m.quiet + 1, st := if m.pat ≤ m.quiet + 1 ∧ (moveV m).st ≠ 4 then 3 else (moveV m).st }
/-- what always holds. -/
structure Fine (m : Mt) : Prop where
  sa : m.A.shape
  sb : m.B.shape
  la : ¬ m.A.large
  lb : ¬ m.B.large
  x : ¬ out m.A m.X
  y : ¬ out m.B m.Y
  slew : m.st = 1 → ¬ out m.A m.P ∧ ¬ out m.B m.Q
  track : m.st = 2 → ¬ quick m.A m.P ∧ ¬ quick m.B m.Q
  parked : m.st = 4 → m.X = m.A.home ∧ m.Y = m.B.home
  st0 : 0 ≤ m.st ∧ m.st ≤ 5
  q0 : 0 ≤ m.quiet
  p1 : 1 ≤ m.pat
theorem new_fine {a b : Lim} {pat : Int} (h : newE a b pat = 0) : Fine (newV a b pat) := by
  unfold newE at h
  split at h
  · cases h
  · rename_i q1
    split at h
    · cases h
    · rename_i q2
      have sa : a.shape := Decidable.byContradiction fun k => q1 (.inl k)
      have sb : b.shape := Decidable.byContradiction fun k => q1 (.inr (.inl k))
      have sa' := sa
      have sb' := sb
      unfold Lim.shape at sa' sb'
      refine ⟨sa, sb, fun k => q2 (.inl k), fun k => q2 (.inr (.inl k)), ?_, ?_, fun k => ?_, fun k => ?_, fun _ => ⟨rfl, rfl⟩, ⟨by show (0 : Int) ≤ 4; omega, by show (4 : Int) ≤ 5; omega⟩, Int.le_refl _, ?_⟩
      · show ¬ out a a.home
        unfold out
        omega
      · show ¬ out b b.home
        unfold out
        omega
      · have : (4 : Int) = 1 := k
        omega
      · have : (4 : Int) = 2 := k
        omega
      · show 1 ≤ pat
        have : ¬ pat < 1 := fun k => q1 (.inr (.inr k))
        omega
theorem do_fine {m : Mt} (h : Fine m) (c : Cmd) : Fine (doV m c).1 ∧ (doV m c).1.X = m.X ∧ (doV m c).1.Y = m.Y ∧ (doV m c).1.A = m.A ∧ (doV m c).1.B = m.B ∧ (doV m c).1.pat = m.pat ∧ (doV m c).1.quiet = m.quiet := by
  obtain ⟨sa, sb, la, lb, x, y, slew, track, parked, st0, q0, p1⟩ := h
  unfold doV
  repeat' split
  all_goals first
    | exact ⟨⟨sa, sb, la, lb, x, y, slew, track, parked, st0, q0, p1⟩, rfl, rfl, rfl, rfl, rfl, rfl⟩
    | (refine ⟨⟨sa, sb, la, lb, x, y, fun k => ?_, fun k => ?_, fun k => ?_, ⟨by simp, by simp⟩, q0, p1⟩, rfl, rfl, rfl, rfl, rfl, rfl⟩
       all_goals (simp_all))
theorem take_fine {m : Mt} (h : Fine m) (c : Cmd) : Fine (takeV m c).1 ∧ (takeV m c).1.X = m.X ∧ (takeV m c).1.Y = m.Y ∧ (takeV m c).1.A = m.A ∧ (takeV m c).1.B = m.B ∧ (takeV m c).1.pat = m.pat := by
  unfold takeV
  split
  · exact ⟨h, rfl, rfl, rfl, rfl, rfl⟩
  · split
    · exact ⟨h, rfl, rfl, rfl, rfl, rfl⟩
    · have h2 : Fine { m with taken := true, num := c.num, quiet := 0 } := by
        obtain ⟨sa, sb, la, lb, x, y, slew, track, parked, st0, q0, p1⟩ := h
        exact ⟨sa, sb, la, lb, x, y, slew, track, parked, st0, Int.le_refl _, p1⟩
      obtain ⟨f, e1, e2, e3, e4, e5, _⟩ := do_fine h2 c
      obtain ⟨sa, sb, la, lb, x, y, slew, track, parked, st0, q0, p1⟩ := f
      exact ⟨⟨sa, sb, la, lb, x, y, slew, track, parked, st0, q0, p1⟩, e1, e2, e3, e4, e5⟩
theorem towards_in {l : Lim} {x to : Int} (hf : 1 ≤ l.fast) (hx : ¬ out l x) (ht : ¬ out l to) : ¬ out l (towards x to l.fast) ∧ towards x to l.fast - x ≤ l.fast ∧ x - towards x to l.fast ≤ l.fast := by
  unfold towards out at *
  split
  · omega
  · split <;> omega
theorem tick_fine {m : Mt} (h : Fine m) : Fine (tickV m) ∧ ((tickV m).X - m.X ≤ m.A.fast ∧ m.X - (tickV m).X ≤ m.A.fast) ∧ ((tickV m).Y - m.Y ≤ m.B.fast ∧ m.Y - (tickV m).Y ≤ m.B.fast) ∧ (tickV m).A = m.A ∧ (tickV m).B = m.B ∧ (tickV m).pat = m.pat ∧ (tickV m).quiet = m.quiet + 1 := by
  obtain ⟨sa, sb, la, lb, x, y, slew, track, parked, st0, q0, p1⟩ := h
  have sa' := sa
  have sb' := sb
  unfold Lim.shape at sa' sb'
  have ha : ¬ out m.A m.A.home := by unfold out; omega
  have hb : ¬ out m.B m.B.home := by unfold out; omega
  have key : Fine (moveV m) ∧ ((moveV m).X - m.X ≤ m.A.fast ∧ m.X - (moveV m).X ≤ m.A.fast) ∧ ((moveV m).Y - m.Y ≤ m.B.fast ∧ m.Y - (moveV m).Y ≤ m.B.fast) ∧ (moveV m).A = m.A ∧ (moveV m).B = m.B ∧ (moveV m).pat = m.pat ∧ (moveV m).quiet = m.quiet := by
    unfold moveV
    split
    · rename_i k
      have s := slew k
      have t1 := towards_in (by omega) x s.1
      have t2 := towards_in (by omega) y s.2
      refine ⟨⟨sa, sb, la, lb, t1.1, t2.1, fun _ => s, fun q => ?_, fun q => ?_, ?_, q0, p1⟩, t1.2, t2.2, rfl, rfl, rfl, rfl⟩
      · have : (if towards m.X m.P m.A.fast = m.P ∧ towards m.Y m.Q m.B.fast = m.Q then (0 : Int) else 1) = 2 := q
        split at this <;> omega
      · have : (if towards m.X m.P m.A.fast = m.P ∧ towards m.Y m.Q m.B.fast = m.Q then (0 : Int) else 1) = 4 := q
        split at this <;> omega
      · show (0 : Int) ≤ (if towards m.X m.P m.A.fast = m.P ∧ towards m.Y m.Q m.B.fast = m.Q then (0 : Int) else 1) ∧ (if towards m.X m.P m.A.fast = m.P ∧ towards m.Y m.Q m.B.fast = m.Q then (0 : Int) else 1) ≤ 5
        split <;> omega
    · split
      · have t1 := towards_in (by omega) x ha
        have t2 := towards_in (by omega) y hb
        refine ⟨⟨sa, sb, la, lb, t1.1, t2.1, fun q => ?_, fun q => ?_, fun q => ?_, ?_, q0, p1⟩, t1.2, t2.2, rfl, rfl, rfl, rfl⟩
        · have : (if towards m.X m.A.home m.A.fast = m.A.home ∧ towards m.Y m.B.home m.B.fast = m.B.home then (4 : Int) else 3) = 1 := q
          split at this <;> omega
        · have : (if towards m.X m.A.home m.A.fast = m.A.home ∧ towards m.Y m.B.home m.B.fast = m.B.home then (4 : Int) else 3) = 2 := q
          split at this <;> omega
        · have : (if towards m.X m.A.home m.A.fast = m.A.home ∧ towards m.Y m.B.home m.B.fast = m.B.home then (4 : Int) else 3) = 4 := q
          split at this
          · assumption
          · omega
        · show (0 : Int) ≤ (if towards m.X m.A.home m.A.fast = m.A.home ∧ towards m.Y m.B.home m.B.fast = m.B.home then (4 : Int) else 3) ∧ (if towards m.X m.A.home m.A.fast = m.A.home ∧ towards m.Y m.B.home m.B.fast = m.B.home then (4 : Int) else 3) ≤ 5
          split <;> omega
      · split
        · rename_i k
          have s := track k
          unfold quick at s
          split
          · refine ⟨⟨sa, sb, la, lb, x, y, fun q => ?_, fun q => ?_, fun q => ?_, ⟨by show (0 : Int) ≤ 5; omega, by show (5 : Int) ≤ 5; omega⟩, q0, p1⟩, ⟨by show m.X - m.X ≤ _; omega, by show m.X - m.X ≤ _; omega⟩, ⟨by show m.Y - m.Y ≤ _; omega, by show m.Y - m.Y ≤ _; omega⟩, rfl, rfl, rfl, rfl⟩
            · have : (5 : Int) = 1 := q
              omega
            · have : (5 : Int) = 2 := q
              omega
            · have : (5 : Int) = 4 := q
              omega
          · rename_i z
            refine ⟨⟨sa, sb, la, lb, fun q => z (.inl q), fun q => z (.inr q), slew, track, fun q => ?_, st0, q0, p1⟩, ⟨by show m.X + m.P - m.X ≤ _; omega, by show m.X - (m.X + m.P) ≤ _; omega⟩, ⟨by show m.Y + m.Q - m.Y ≤ _; omega, by show m.Y - (m.Y + m.Q) ≤ _; omega⟩, rfl, rfl, rfl, rfl⟩
            have : m.st = 4 := q
            omega
        · exact ⟨⟨sa, sb, la, lb, x, y, slew, track, parked, st0, q0, p1⟩, ⟨by omega, by omega⟩, ⟨by omega, by omega⟩, rfl, rfl, rfl, rfl⟩
  obtain ⟨⟨sa, sb, la, lb, x, y, slew, track, parked, st0, q0', p1'⟩, kx, ky, e1, e2, e3, e4⟩ := key
  refine ⟨⟨sa, sb, la, lb, x, y, fun q => ?_, fun q => ?_, fun q => ?_, ?_, by show 0 ≤ m.quiet + 1; omega, p1'⟩, kx, ky, e1, e2, e3, rfl⟩
  · have : (if m.pat ≤ m.quiet + 1 ∧ (moveV m).st ≠ 4 then (3 : Int) else (moveV m).st) = 1 := q
    split at this
    · omega
    · exact slew this
  · have : (if m.pat ≤ m.quiet + 1 ∧ (moveV m).st ≠ 4 then (3 : Int) else (moveV m).st) = 2 := q
    split at this
    · omega
    · exact track this
  · have : (if m.pat ≤ m.quiet + 1 ∧ (moveV m).st ≠ 4 then (3 : Int) else (moveV m).st) = 4 := q
    split at this
    · omega
    · exact parked this
  · show (0 : Int) ≤ (if m.pat ≤ m.quiet + 1 ∧ (moveV m).st ≠ 4 then (3 : Int) else (moveV m).st) ∧ (if m.pat ≤ m.quiet + 1 ∧ (moveV m).st ≠ 4 then (3 : Int) else (moveV m).st) ≤ 5
    split <;> omega
/-! parked at last -/
def ticks : Nat → Mt → Mt
  | 0, m => m
  | n + 1, m => ticks n (tickV m)
theorem ticks_more (m : Mt) : ∀ n, ticks (n + 1) m = tickV (ticks n m)
  | 0 => rfl
  | n + 1 => by
    show ticks (n + 1) (tickV m) = _
    rw [ticks_more (tickV m) n]
    rfl
theorem ticks_fine {m : Mt} (h : Fine m) : ∀ n, Fine (ticks n m) ∧ (ticks n m).A = m.A ∧ (ticks n m).B = m.B ∧ (ticks n m).pat = m.pat ∧ (ticks n m).quiet = m.quiet + (n : Int)
  | 0 => ⟨h, rfl, rfl, rfl, by show m.quiet = m.quiet + 0; omega⟩
  | n + 1 => by
    obtain ⟨f, e1, e2, e3, e4⟩ := ticks_fine h n
    obtain ⟨g, _, _, k1, k2, k3, k4⟩ := tick_fine f
    rw [ticks_more]
    exact ⟨g, k1.trans e1, k2.trans e2, k3.trans e3, by rw [k4, e4]; omega⟩
theorem parked_stays {m : Mt} (h : m.st = 4) : (tickV m).st = 4 := by
  have e : moveV m = m := by
    unfold moveV
    rw [if_neg (by omega), if_neg (by omega), if_neg (by omega)]
  show (if m.pat ≤ m.quiet + 1 ∧ (moveV m).st ≠ 4 then (3 : Int) else (moveV m).st) = 4
  rw [e, if_neg (fun k => k.2 h)]
  exact h
theorem parked_ticks {m : Mt} (h : m.st = 4) : ∀ n, (ticks n m).st = 4
  | 0 => h
  | n + 1 => by
    rw [ticks_more]
    exact parked_stays (parked_ticks h n)
theorem parking_step {m : Mt} (h : Fine m) (hs : m.st = 3) {n : Nat} (hx : m.X - m.A.home ≤ (n : Int) * m.A.fast ∧ m.A.home - m.X ≤ (n : Int) * m.A.fast) (hy : m.Y - m.B.home ≤ (n : Int) * m.B.fast ∧ m.B.home - m.Y ≤ (n : Int) * m.B.fast) : (ticks (n + 1) m).st = 4 := by
  induction n generalizing m with
  | zero =>
    have sa := h.sa
    have sb := h.sb
    unfold Lim.shape at sa sb
    have t1 : towards m.X m.A.home m.A.fast = m.A.home := by unfold towards; split <;> (try split) <;> omega
    have t2 : towards m.Y m.B.home m.B.fast = m.B.home := by unfold towards; split <;> (try split) <;> omega
    have e : (moveV m).st = 4 := by
      unfold moveV
      rw [if_neg (by omega), if_pos hs]
      show (if towards m.X m.A.home m.A.fast = m.A.home ∧ towards m.Y m.B.home m.B.fast = m.B.home then (4 : Int) else 3) = 4
      rw [if_pos ⟨t1, t2⟩]
    show (if m.pat ≤ m.quiet + 1 ∧ (moveV m).st ≠ 4 then (3 : Int) else (moveV m).st) = 4
    rw [if_neg (fun k => k.2 e)]
    exact e
  | succ n ih =>
    have sa := h.sa
    have sb := h.sb
    unfold Lim.shape at sa sb
    obtain ⟨f, _, _, k1, k2, _, _⟩ := tick_fine h
    have ex : (tickV m).X = towards m.X m.A.home m.A.fast := by
      show (moveV m).X = _
      unfold moveV
      rw [if_neg (by omega), if_pos hs]
    have ey : (tickV m).Y = towards m.Y m.B.home m.B.fast := by
      show (moveV m).Y = _
      unfold moveV
      rw [if_neg (by omega), if_pos hs]
    have es : (tickV m).st = 4 ∨ (tickV m).st = 3 := by
      show (if m.pat ≤ m.quiet + 1 ∧ (moveV m).st ≠ 4 then (3 : Int) else (moveV m).st) = 4 ∨ (if m.pat ≤ m.quiet + 1 ∧ (moveV m).st ≠ 4 then (3 : Int) else (moveV m).st) = 3
      have : (moveV m).st = 4 ∨ (moveV m).st = 3 := by
        unfold moveV
        rw [if_neg (by omega), if_pos hs]
        show (if towards m.X m.A.home m.A.fast = m.A.home ∧ towards m.Y m.B.home m.B.fast = m.B.home then (4 : Int) else 3) = 4 ∨ (if towards m.X m.A.home m.A.fast = m.A.home ∧ towards m.Y m.B.home m.B.fast = m.B.home then (4 : Int) else 3) = 3
        split <;> simp
      split
      · exact .inr rfl
      · exact this
    show (ticks (n + 1) (tickV m)).st = 4
    rcases es with es | es
    · exact parked_ticks es _
    · have exp : ∀ f : Int, ((n + 1 : Nat) : Int) * f = (n : Int) * f + f := fun f => by rw [Int.natCast_add, Int.add_mul]; omega
      rw [exp] at hx
      rw [exp] at hy
      have n1 := Int.mul_nonneg (show (0 : Int) ≤ n by omega) (show 0 ≤ m.A.fast by omega)
      have n2 := Int.mul_nonneg (show (0 : Int) ≤ n by omega) (show 0 ≤ m.B.fast by omega)
      refine ih f es ?_ ?_
      · rw [k1, ex]
        unfold towards
        split
        · omega
        · split <;> omega
      · rw [k2, ey]
        unfold towards
        split
        · omega
        · split <;> omega
/-- without commands it is parked at last. -/
theorem parked_last {m : Mt} (h : Fine m) {far : Nat} (hf : m.pat + (m.A.hi - m.A.lo) / m.A.fast + (m.B.hi - m.B.lo) / m.B.fast + 4 ≤ (far : Int)) : (ticks far m).st = 4 ∧ (ticks far m).X = m.A.home ∧ (ticks far m).Y = m.B.home := by
  have sa := h.sa
  have sb := h.sb
  unfold Lim.shape at sa sb
  have da := Int.ediv_nonneg (show 0 ≤ m.A.hi - m.A.lo by omega) (show 0 ≤ m.A.fast by omega)
  have db := Int.ediv_nonneg (show 0 ≤ m.B.hi - m.B.lo by omega) (show 0 ≤ m.B.fast by omega)
  have p1 := h.p1
  have q0 := h.q0
  have hst : (ticks far m).st = 4 := by
    obtain ⟨p, hp⟩ : ∃ p : Nat, m.pat = (p : Int) := ⟨m.pat.toNat, by omega⟩
    obtain ⟨n, hn⟩ : ∃ n : Nat, (n : Int) = (m.A.hi - m.A.lo) / m.A.fast + (m.B.hi - m.B.lo) / m.B.fast + 1 := ⟨((m.A.hi - m.A.lo) / m.A.fast + (m.B.hi - m.B.lo) / m.B.fast + 1).toNat, by omega⟩
    obtain ⟨k, hk⟩ : ∃ k, far = p + (n + 1) + k := ⟨far - (p + (n + 1)), by omega⟩
    have add : ∀ (i j : Nat) (z : Mt), ticks (i + j) z = ticks j (ticks i z) := by
      intro i
      induction i with
      | zero => intro j z; rw [Nat.zero_add]; rfl
      | succ i ih =>
        intro j z
        rw [show i + 1 + j = (i + j) + 1 by omega]
        show ticks (i + j) (tickV z) = _
        rw [ih]
        rfl
    rw [hk, add, add]
    refine parked_ticks ?_ k
    obtain ⟨f, e1, e2, e3, e4⟩ := ticks_fine h p
    have hs : (ticks p m).st = 4 ∨ (ticks p m).st = 3 := by
      obtain ⟨r, hr⟩ : ∃ r, p = r + 1 := ⟨p - 1, by omega⟩
      rw [hr, ticks_more]
      obtain ⟨_, _, _, g3, g4⟩ := ticks_fine h r
      show (if (ticks r m).pat ≤ (ticks r m).quiet + 1 ∧ (moveV (ticks r m)).st ≠ 4 then (3 : Int) else (moveV (ticks r m)).st) = 4 ∨ (if (ticks r m).pat ≤ (ticks r m).quiet + 1 ∧ (moveV (ticks r m)).st ≠ 4 then (3 : Int) else (moveV (ticks r m)).st) = 3
      by_cases z : (moveV (ticks r m)).st = 4
      · rw [if_neg (fun q => q.2 z)]
        exact .inl z
      · rw [if_pos ⟨by rw [g3, g4]; omega, z⟩]
        exact .inr rfl
    rcases hs with hs | hs
    · exact parked_ticks hs _
    · have fx := f.x
      have fy := f.y
      unfold out at fx fy
      have ka := Int.lt_mul_ediv_self_add (x := m.A.hi - m.A.lo) (k := m.A.fast) (by omega)
      have kb := Int.lt_mul_ediv_self_add (x := m.B.hi - m.B.lo) (k := m.B.fast) (by omega)
      have na : m.A.hi - m.A.lo ≤ (n : Int) * m.A.fast := by
        have : ((m.A.hi - m.A.lo) / m.A.fast + 1) * m.A.fast ≤ (n : Int) * m.A.fast := Int.mul_le_mul_of_nonneg_right (by omega) (by omega)
        rw [Int.add_mul, Int.mul_comm ((m.A.hi - m.A.lo) / m.A.fast)] at this
        omega
      have nb : m.B.hi - m.B.lo ≤ (n : Int) * m.B.fast := by
        have : ((m.B.hi - m.B.lo) / m.B.fast + 1) * m.B.fast ≤ (n : Int) * m.B.fast := Int.mul_le_mul_of_nonneg_right (by omega) (by omega)
        rw [Int.add_mul, Int.mul_comm ((m.B.hi - m.B.lo) / m.B.fast)] at this
        omega
      rw [e1] at fx
      rw [e2] at fy
      refine parking_step f hs ?_ ?_
      · rw [e1]
        omega
      · rw [e2]
        omega
  obtain ⟨f, e1, e2, _, _⟩ := ticks_fine h far
  have := f.parked hst
  rw [e1, e2] at this
  exact ⟨hst, this.1, this.2⟩
end Go.Proofs.YteoappoijihomahDoor
