/-
  The program's mount and sender are what the laws ask.
-/
import Derived.Test.YteoappoijihomahDoorDM6
import Derived.Test.YteoappoijihomahDoorDM7
namespace Go.Proofs.YteoappoijihomahDoor
open Go Go.RowKit

/-- how the program's mount stands beside the document's. -/
structure Sim (p : PM) (m : Mt) : Prop where
  A : p.A = m.A
  B : p.B = m.B
  x : p.x = m.X
  y : p.y = m.Y
  st : p.st = m.st
  pat : p.pat = m.pat
  left : p.left = if m.quiet < m.pat then m.pat - m.quiet else 0
  slew : m.st = 1 → p.ga = m.P ∧ p.gb = m.Q
  park : m.st = 3 → p.ga = m.A.home ∧ p.gb = m.B.home
  track : m.st = 2 → p.pa = m.P ∧ p.pb = m.Q
  big : m.pat ≤ 1099511627776
theorem Sim.st' {p : PM} {m : Mt} (h : Sim p m) {t : Int} (h1 : t ≠ 1) (h2 : t ≠ 2) (h3 : t ≠ 3) : Sim { p with st := t } { m with st := t } :=
  ⟨h.A, h.B, h.x, h.y, rfl, h.pat, h.left, fun k => absurd k h1, fun k => absurd k h3, fun k => absurd k h2, h.big⟩
theorem Sim.parked {p : PM} {m : Mt} (h : Sim p m) : Sim { p with ga := p.A.home, gb := p.B.home, st := 3 } { m with st := 3 } :=
  ⟨h.A, h.B, h.x, h.y, rfl, h.pat, h.left, fun k => absurd (show (3 : Int) = 1 from k) (by decide), fun _ => ⟨by show p.A.home = m.A.home; rw [h.A], by show p.B.home = m.B.home; rw [h.B]⟩, fun k => absurd (show (3 : Int) = 2 from k) (by decide), h.big⟩
theorem sim_do {p : PM} {m : Mt} (h : Sim p m) (c : Cmd) : Sim (doP p c).1 (doV m c).1 ∧ (doP p c).2 = (doV m c).2 := by
  have e1 : slewP p c.a c.b = if out m.A c.a ∨ out m.B c.b then (p, 6) else if m.st = 3 then (p, 7) else ({ p with ga := c.a, gb := c.b, st := 1 }, 0) := by unfold slewP; rw [h.A, h.B, h.st]
  have e2 : trackP p c.a c.b = if quick m.A c.a ∨ quick m.B c.b then (p, 6) else if (m.st = 4 ∨ m.st = 3) then (p, 7) else ({ p with pa := c.a, pb := c.b, st := 2 }, 0) := by unfold trackP; rw [h.A, h.B, h.st]
  have e3 : stopP p = if m.st = 4 then (p, 7) else ({ p with st := 5 }, 0) := by
    unfold stopP
    rw [h.st]
    by_cases q : m.st = 4
    · rw [if_pos q, if_pos q, if_pos q]
    · rw [if_neg q, if_neg q, if_neg q]
  have e4 : (parkP p, (0 : Int)) = if m.st = 4 then (p, 0) else ({ p with ga := p.A.home, gb := p.B.home, st := 3 }, 0) := by
    unfold parkP
    rw [h.st]
    by_cases q : m.st = 4
    · rw [if_pos q, if_pos q]
    · rw [if_neg q, if_neg q]
  unfold doP doV
  rw [e1, e2, e3, e4]
  clear e1 e2 e3 e4
  by_cases k1 : c.kind = 1
  · rw [if_pos k1, if_pos k1]
    by_cases q : out m.A c.a ∨ out m.B c.b
    · rw [if_pos q, if_pos q]
      exact ⟨h, rfl⟩
    · rw [if_neg q, if_neg q]
      by_cases q3 : m.st = 3
      · rw [if_pos q3, if_pos q3]
        exact ⟨h, rfl⟩
      · rw [if_neg q3, if_neg q3]
        exact ⟨⟨h.A, h.B, h.x, h.y, rfl, h.pat, h.left, fun _ => ⟨rfl, rfl⟩, fun k => absurd (show (1 : Int) = 3 from k) (by decide), fun k => absurd (show (1 : Int) = 2 from k) (by decide), h.big⟩, rfl⟩
  · rw [if_neg k1, if_neg k1]
    by_cases k2 : c.kind = 2
    · rw [if_pos k2, if_pos k2]
      by_cases q : quick m.A c.a ∨ quick m.B c.b
      · rw [if_pos q, if_pos q]
        exact ⟨h, rfl⟩
      · rw [if_neg q, if_neg q]
        by_cases q3 : m.st = 4 ∨ m.st = 3
        · rw [if_pos q3, if_pos q3]
          exact ⟨h, rfl⟩
        · rw [if_neg q3, if_neg q3]
          exact ⟨⟨h.A, h.B, h.x, h.y, rfl, h.pat, h.left, fun k => absurd (show (2 : Int) = 1 from k) (by decide), fun k => absurd (show (2 : Int) = 3 from k) (by decide), fun _ => ⟨rfl, rfl⟩, h.big⟩, rfl⟩
    · rw [if_neg k2, if_neg k2]
      by_cases k3 : c.kind = 3
      · rw [if_pos k3, if_pos k3]
        by_cases q : m.st = 4
        · rw [if_pos q, if_pos q]
          exact ⟨h, rfl⟩
        · rw [if_neg q, if_neg q]
          exact ⟨h.st' (t := 5) (by decide) (by decide) (by decide), rfl⟩
      · rw [if_neg k3, if_neg k3]
        by_cases k4 : c.kind = 4
        · rw [if_pos k4, if_pos k4]
          by_cases q : m.st = 4
          · rw [if_pos q, if_pos q]
            exact ⟨h, rfl⟩
          · rw [if_neg q, if_neg q]
            exact ⟨h.parked, rfl⟩
        · rw [if_neg k4, if_neg k4]
          by_cases k5 : c.kind = 5
          · rw [if_pos k5, if_pos k5]
            exact ⟨h, rfl⟩
          · rw [if_neg k5, if_neg k5]
            exact ⟨h, rfl⟩
theorem sim_near {p : PM} {m : Mt} (h : Sim p m) {t P Q : Int} (hga : p.ga = P) (hgb : p.gb = Q) (ht1 : t ≠ 1) (ht2 : t ≠ 2) (ht3 : t ≠ 3) :
    Sim (nearP p t) { m with X := towards m.X P m.A.fast, Y := towards m.Y Q m.B.fast, st := if towards m.X P m.A.fast = P ∧ towards m.Y Q m.B.fast = Q then t else m.st } := by
  have ex : apX p = towards m.X P m.A.fast := by unfold apX; rw [h.x, hga, h.A]
  have ey : apY p = towards m.Y Q m.B.fast := by unfold apY; rw [h.y, hgb, h.B]
  have es : (if apX p = p.ga ∧ apY p = p.gb then t else p.st) = (if towards m.X P m.A.fast = P ∧ towards m.Y Q m.B.fast = Q then t else m.st) := by rw [ex, ey, hga, hgb, h.st]
  have hs : ∀ v : Int, v ≠ t → (if towards m.X P m.A.fast = P ∧ towards m.Y Q m.B.fast = Q then t else m.st) = v → m.st = v := by
    intro v hv k
    split at k
    · exact absurd k.symm hv
    · exact k
  exact ⟨h.A, h.B, ex, ey, es, h.pat, h.left, fun k => h.slew (hs 1 ht1.symm k), fun k => h.park (hs 3 ht3.symm k), fun k => h.track (hs 2 ht2.symm k), h.big⟩
theorem sim_move {p : PM} {m : Mt} (h : Sim p m) : Sim (moveP p) (moveV m) := by
  unfold moveP moveV
  rw [h.st]
  by_cases k1 : m.st = 1
  · rw [if_pos k1, if_pos k1]
    have := sim_near h (t := 0) (h.slew k1).1 (h.slew k1).2 (by decide) (by decide) (by decide)
    rw [k1] at this
    exact this
  · rw [if_neg k1, if_neg k1]
    by_cases k3 : m.st = 3
    · rw [if_pos k3, if_pos k3]
      have := sim_near h (t := 4) (h.park k3).1 (h.park k3).2 (by decide) (by decide) (by decide)
      rw [k3] at this
      exact this
    · rw [if_neg k3, if_neg k3]
      by_cases k2 : m.st = 2
      · rw [if_pos k2, if_pos k2]
        have e : (out p.A (p.x + p.pa) ∨ out p.B (p.y + p.pb)) ↔ (out m.A (m.X + m.P) ∨ out m.B (m.Y + m.Q)) := by rw [h.A, h.B, h.x, h.y, (h.track k2).1, (h.track k2).2]
        unfold followP
        by_cases q : out m.A (m.X + m.P) ∨ out m.B (m.Y + m.Q)
        · rw [if_pos (e.2 q), if_pos q]
          exact h.st' (t := 5) (by decide) (by decide) (by decide)
        · rw [if_neg (fun k => q (e.1 k)), if_neg q]
          exact ⟨h.A, h.B, by show p.x + p.pa = m.X + m.P; rw [h.x, (h.track k2).1], by show p.y + p.pb = m.Y + m.Q; rw [h.y, (h.track k2).2], h.st, h.pat, h.left, h.slew, h.park, h.track, h.big⟩
      · rw [if_neg k2, if_neg k2]
        exact h
theorem move_same (m : Mt) : (moveV m).pat = m.pat ∧ (moveV m).quiet = m.quiet := by
  unfold moveV
  repeat' split
  all_goals exact ⟨rfl, rfl⟩
theorem sim_tick {p : PM} {m : Mt} (h : Sim p m) : Sim (tickP p) (tickV m) := by
  have hs := sim_move h
  obtain ⟨hp, hq⟩ := move_same m
  have hbig := hs.big
  unfold tickP tickV
  generalize moveP p = P at *
  generalize hM : moveV m = M at *
  have hl := hs.left
  have hd : (downP P) = { P with left := if m.quiet + 1 < m.pat then m.pat - (m.quiet + 1) else 0 } := by
    unfold downP
    rw [hp, hq] at hl
    by_cases k : m.quiet < m.pat
    · rw [if_pos k] at hl
      rw [if_pos (by omega), hl]
      by_cases k2 : m.quiet + 1 < m.pat
      · rw [if_pos k2]
        congr 1
        omega
      · rw [if_neg k2]
        congr 1
        omega
    · rw [if_neg k] at hl
      rw [if_neg (by omega), if_neg (by omega)]
      cases P
      simp only at hl
      rw [hl]
  have hs2 : Sim (downP P) { M with quiet := m.quiet + 1 } := by
    rw [hd]
    refine ⟨hs.A, hs.B, hs.x, hs.y, hs.st, hs.pat, ?_, hs.slew, hs.park, hs.track, hbig⟩
    show (if m.quiet + 1 < m.pat then m.pat - (m.quiet + 1) else 0) = if m.quiet + 1 < M.pat then M.pat - (m.quiet + 1) else 0
    rw [hp]
  have hz : (downP P).left = 0 ↔ m.pat ≤ m.quiet + 1 := by
    rw [hd]
    show (if m.quiet + 1 < m.pat then m.pat - (m.quiet + 1) else 0) = 0 ↔ _
    split <;> omega
  unfold watchP
  by_cases q : m.pat ≤ m.quiet + 1
  · rw [if_pos (hz.2 q)]
    unfold parkP
    rw [hs2.st]
    show Sim (if M.st = 4 then downP P else _) _
    by_cases q4 : M.st = 4
    · rw [if_pos q4, if_neg (fun k => k.2 q4)]
      exact hs2
    · rw [if_neg q4, if_pos ⟨q, q4⟩]
      exact hs2.parked
  · rw [if_neg (fun k => q (hz.1 k)), if_neg (fun k => q k.1)]
    exact hs2
theorem near_last (p : PM) : (tickP p).last = p.last := by
  have h1 : (moveP p).last = p.last := by
    unfold moveP nearP followP
    repeat' split
    all_goals rfl
  unfold tickP watchP parkP downP
  repeat' split
  all_goals exact h1
/-- what was taken last: none, or a number and an error. -/
def LastIs (a : Nat → Addr) (w : World) (v : Value) (m : Mt) : Prop := (m.taken = false ∧ v = .pointer none) ∨ (m.taken = true ∧ ∃ h er, v = .pointer (some ⟨h, 0, none⟩) ∧ Tk w h m.num er ∧ ErrIs a m.code er)
theorem Tk.chg {w v : World} {b h : Nat} {n : Int} {er : Value} (k : Tk w h n er) (c : Chg b w v) : Tk v h n er := by
  unfold Tk at *
  by_cases e : h = b
  · subst e
    exact (c.little _ _ _ k (Nat.le_refl 2)).trans k
  · exact c.blk k e
theorem LastIs.chg {a : Nat → Addr} {w v : World} {x : Value} {m : Mt} {b : Nat} (h : LastIs a w x m) (c : Chg b w v) : LastIs a v x m := by
  rcases h with h | ⟨h1, g, er, h2, h3, h4⟩
  · exact .inl h
  · exact .inr ⟨h1, g, er, h2, h3.chg c, h4⟩
theorem LastIs.as {a : Nat → Addr} {w : World} {x : Value} {m n : Mt} (h : LastIs a w x m) (h1 : n.taken = m.taken) (h2 : n.num = m.num) (h3 : n.code = m.code) : LastIs a w x n := by
  unfold LastIs at *
  rw [h1, h2, h3]
  exact h
def RepM (a : Nat → Addr) (w : World) (g : Nat) (m : Mt) : Prop := ∃ p, PB w g p ∧ Sim p m ∧ LastIs a w p.last m
theorem tick_code (m : Mt) : (tickV m).taken = m.taken ∧ (tickV m).num = m.num ∧ (tickV m).code = m.code := by
  have : (moveV m).taken = m.taken ∧ (moveV m).num = m.num ∧ (moveV m).code = m.code := by
    unfold moveV
    repeat' split
    all_goals exact ⟨rfl, rfl, rfl⟩
  exact this
theorem Sim.inB {p : PM} {m : Mt} (h : Sim p m) (hF : Fine m) : InB p := by
  have hb := fine_in hF
  exact ⟨by rw [h.x]; omega, by rw [h.y]; omega, by rw [h.A]; omega, by rw [h.B]; omega⟩
theorem mt_prog (a : Nat → Addr) : MtProg (fun w => Errs5 w a) a (RepM a) where
  skeep := fun h k => h.below k
  low := fun ⟨_, h, _⟩ => ltB h.blk
  keep := fun ⟨p, h1, h2, h3⟩ k hb => ⟨p, h1.chg k hb, h2, h3.chg k⟩
  new := by
    intro x y pat w hS
    refine (pnew_any x y pat w hS).mono ?_
    rintro e w' ⟨k, ⟨h0, g, rfl, hg, hb⟩ | h⟩
    · refine ⟨k, .inl ⟨h0, g, rfl, hg, newP x y pat, hb, ?_, .inl ⟨rfl, rfl⟩⟩⟩
      have hpos : 1 ≤ pat ∧ pat ≤ 1099511627776 := by
        unfold newE at h0
        split at h0
        · cases h0
        · rename_i q
          split at h0
          · cases h0
          · rename_i q2
            unfold large at q2
            omega
      refine ⟨rfl, rfl, rfl, rfl, rfl, rfl, ?_, fun k => absurd (show (4 : Int) = 1 from k) (by decide), fun k => absurd (show (4 : Int) = 3 from k) (by decide), fun k => absurd (show (4 : Int) = 2 from k) (by decide), hpos.2⟩
      show pat = if (0 : Int) < pat then pat - 0 else 0
      rw [if_pos (by omega)]
      omega
    · exact ⟨k, .inr h⟩
  tick := by
    rintro w g m ⟨p, hM, hs, hl⟩ hF hq hS
    have hb := fine_in hF
    have h1 := hF.slew
    have h2 := hF.track
    have q0 := hF.q0
    have p1 := hF.p1
    have big := hs.big
    refine (ptick_any hM (hs.inB hF) ?_ ?_ ?_).mono ?_
    · rw [hs.left]
      split <;> omega
    · intro k
      rw [hs.st] at k
      rcases k with k | k
      · rw [(hs.slew k).1, (hs.slew k).2]
        have := h1 k
        unfold out at this
        omega
      · rw [(hs.park k).1, (hs.park k).2]
        omega
    · intro k
      rw [hs.st] at k
      rw [(hs.track k).1, (hs.track k).2]
      have := h2 k
      unfold quick at this
      omega
    · rintro e w' ⟨rfl, h3, k3⟩
      have hs' := sim_tick hs
      obtain ⟨t1, t2, t3⟩ := tick_code m
      refine ⟨by rw [hs'.x, hs'.y], ⟨tickP p, h3, hs', ?_⟩, k3⟩
      rw [near_last]
      exact (hl.chg k3).as t1 t2 t3
  take := by
    rintro w g m c ⟨p, hM, hs, hl⟩ hF hS
    have hb := fine_in hF
    have hfa : 0 ≤ p.A.fast ∧ p.A.fast ≤ 1099511627776 := by rw [hs.A]; omega
    have hfb : 0 ≤ p.B.fast ∧ p.B.fast ≤ 1099511627776 := by rw [hs.B]; omega
    have p1 := hF.p1
    have hs0 : Sim { p with left := p.pat } { m with taken := true, num := c.num, quiet := 0 } := by
      refine ⟨hs.A, hs.B, hs.x, hs.y, hs.st, hs.pat, ?_, hs.slew, hs.park, hs.track, hs.big⟩
      show p.pat = if (0 : Int) < m.pat then m.pat - 0 else 0
      rw [hs.pat, if_pos (by omega)]
      omega
    obtain ⟨sd, se⟩ := sim_do hs0 c.cmd
    have hfresh : (m.taken = true → m.num < c.num) → ∀ e w', TNew g p c a w e w' → ∃ er, ErrIs a (takeV m c.cmd).2 er ∧ e = .returned (.agg #[.int .i64 c.num, er, .int .i64 (takeV m c.cmd).1.X, .int .i64 (takeV m c.cmd).1.Y, .int .i64 (takeV m c.cmd).1.st]) ∧ RepM a w' g (takeV m c.cmd).1 ∧ Chg g w w' := by
      intro hn e w' ht
      obtain ⟨er, h, he, rfl, k1, k2, k3⟩ := ht
      obtain ⟨d1, d2⟩ := do_keeps { m with taken := true, num := c.num, quiet := 0 } c.cmd
      have ht : takeV m c.cmd = ({ (doV { m with taken := true, num := c.num, quiet := 0 } c.cmd).1 with code := (doV { m with taken := true, num := c.num, quiet := 0 } c.cmd).2 }, (doV { m with taken := true, num := c.num, quiet := 0 } c.cmd).2) := by
        unfold takeV
        rw [if_neg (fun k => by have := hn k.1; have : c.cmd.num = c.num := rfl; omega), if_neg (fun k => by have := hn k.1; have : c.cmd.num = c.num := rfl; omega)]
        rfl
      rw [ht]
      rw [se] at he
      refine ⟨er, he, ?_, ⟨_, k1, ?_, .inr ⟨d1, h, er, rfl, ?_, he⟩⟩, k3⟩
      · rw [sd.x, sd.y, sd.st]
      · exact ⟨sd.A, sd.B, sd.x, sd.y, sd.st, sd.pat, sd.left, sd.slew, sd.park, sd.track, sd.big⟩
      · show Tk w' h (doV { m with taken := true, num := c.num, quiet := 0 } c.cmd).1.num er
        rw [d2]
        exact k2
    rcases hl with ⟨t0, hl⟩ | ⟨t0, h, er, hl, hT, he⟩
    · exact (ptake_first hM hS c hfa hfb hl).mono (fun e w' k => hfresh (fun q => by rw [t0] at q; cases q) e w' k)
    · rcases Int.lt_trichotomy m.num c.num with hn | hn | hn
      · exact (ptake_more hM hS c hfa hfb hl hT hn).mono (fun e w' k => hfresh (fun _ => hn) e w' k)
      · refine (ptake_same hM hS c hl hT he hn.symm).mono ?_
        rintro e w' ⟨rfl, k1, k2, k3⟩
        have ht : takeV m c.cmd = (m, m.code) := by
          unfold takeV
          rw [if_pos ⟨t0, hn.symm⟩]
        rw [ht]
        exact ⟨er, he, by rw [hs.x, hs.y, hs.st], ⟨p, k1, hs, .inr ⟨t0, h, er, hl, k2, he⟩⟩, k3⟩
      · refine (ptake_less hM hS c hl hT hn).mono ?_
        rintro e w' ⟨rfl, k1, k2, k3⟩
        have ht : takeV m c.cmd = (m, 7) := by
          unfold takeV
          rw [if_neg (fun k => by have : c.cmd.num = c.num := rfl; omega), if_pos ⟨t0, hn⟩]
        rw [ht]
        exact ⟨_, err_at 6 (by decide), by rw [hs.x, hs.y, hs.st], ⟨p, k1, hs, .inr ⟨t0, h, er, hl, k2, he⟩⟩, k3⟩
  at_ := by
    rintro w g m ⟨p, hM, hs, _⟩
    refine (mat_any hM).mono ?_
    rintro e w' ⟨rfl, k⟩
    exact ⟨by rw [hs.x, hs.y], k⟩
  state := by
    rintro w g m ⟨p, hM, hs, _⟩
    refine (mstate_any hM).mono ?_
    rintro e w' ⟨rfl, k⟩
    exact ⟨by rw [hs.st], k⟩
end Go.Proofs.YteoappoijihomahDoor
