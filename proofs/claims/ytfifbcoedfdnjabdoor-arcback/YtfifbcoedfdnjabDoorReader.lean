/-
  The reader of texts: its state, and its small calls by their contracts.
-/
import Derived.Test.YtfifbcoedfdnjabDoorShelf
import Derived.Test.YtfifbcoedfdnjabDoorParseMap
import Derived.WalkKit
import Derived.ProofKit
import Derived.WalkLawsBesides
import Derived.Lib.TrimU
import Derived.Lib.DecodeN
namespace Go.Proofs.YtfifbcoedfdnjabDoor
open Go.RowKit Go.Lib

def Held (p : Prop) : Prop := p
theorem hide {p : Prop} (h : p) : Held p := h
theorem unhide {p : Prop} (h : Held p) : p := h

/-- The runes of a string, as Go decodes them. -/
inductive Runs : ByteArray → List Int → Prop where
  | done {s : ByteArray} (h : s.size = 0) : Runs s []
  | more {s : ByteArray} {L : List Int} (h : 0 < s.size) (t : Runs (s.extract (decodeGo s).2 s.size) L) : Runs s (((decodeGo s).1 : Int) :: L)

theorem width_le (s : ByteArray) (h : 0 < s.size) : 1 ≤ (decodeGo s).2 ∧ (decodeGo s).2 ≤ s.size := by
  have e : decodeGo s = Utf8.decode s 0 := by unfold decodeGo; rw [if_neg (by omega)]
  rw [e]
  refine ⟨width_pos s 0, ?_⟩
  rw [decode_at]
  unfold decodeN
  repeat' split
  all_goals (simp only; omega)
theorem rune_range (s : ByteArray) : (0 : Int) ≤ ((decodeGo s).1 : Int) ∧ ((decodeGo s).1 : Int) ≤ 1114111 := by
  refine ⟨by omega, ?_⟩
  unfold decodeGo
  split
  · decide
  · have := rune_le s 0
    omega
theorem Runs.all {s : ByteArray} {L : List Int} (h : Runs s L) : ∀ x ∈ L, 0 ≤ x ∧ x ≤ 1114111 := by
  induction h with
  | done => intro x hx; cases hx
  | more h t ih =>
    intro x hx
    rcases List.mem_cons.1 hx with rfl | hx
    · exact rune_range _
    · exact ih x hx
theorem runs_exists (n : Nat) : ∀ s : ByteArray, s.size ≤ n → ∃ L : List Int, Runs s L ∧ L.length ≤ s.size := by
  induction n with
  | zero => intro s h; exact ⟨[], .done (by omega), by simp⟩
  | succ n ih =>
    intro s h
    rcases (show s.size = 0 ∨ 0 < s.size by omega) with h0 | h0
    · exact ⟨[], .done h0, by simp⟩
    · have hw := width_le s h0
      have hsz : (s.extract (decodeGo s).2 s.size).size = s.size - (decodeGo s).2 := by rw [ByteArray.size_extract]; omega
      obtain ⟨L, hL, hl⟩ := ih (s.extract (decodeGo s).2 s.size) (by omega)
      exact ⟨_, .more h0 hL, by simp; omega⟩

/-- A reader at g, L what is left, k how many runes it has passed. -/
structure Rd (g : Nat) (L : List Int) (k : Nat) (w : World) : Prop where
  rest : ∃ s : ByteArray, w.cell? ⟨g, 0, none⟩ = some (.string s) ∧ Runs s L
  pos : w.cell? ⟨g, 1, none⟩ = some (.int .i64 k)
  f0 : w.frozen? ⟨g, 0, none⟩ = false
  f1 : w.frozen? ⟨g, 1, none⟩ = false
  tabs : Utf8Tabs 13 14 w
  low : 15 ≤ g
  lt : g < w.heap.size
  small : k + L.length ≤ 1000000000

theorem tabs_below {w w' : World} {B : Nat} (h : Utf8Tabs 13 14 w) (hb : Below B w w') (hB : 15 ≤ B) : Utf8Tabs 13 14 w' :=
  ⟨fun c hc => (hb.cell (show 13 < B by omega)).trans (h.1 c hc), fun i hi => ⟨(hb.cell (show 14 < B by omega)).trans (h.2 i hi).1, (hb.cell (show 14 < B by omega)).trans (h.2 i hi).2⟩⟩
theorem Rd.below {g : Nat} {L : List Int} {k : Nat} {w w' : World} (r : Rd g L k w) (hb : Below w.heap.size w w') : Rd g L k w' where
  rest := by
    obtain ⟨s, hs, hr⟩ := r.rest
    exact ⟨s, (hb.cell r.lt).trans hs, hr⟩
  pos := (hb.cell r.lt).trans r.pos
  f0 := (hb.frozen r.lt).trans r.f0
  f1 := (hb.frozen r.lt).trans r.f1
  tabs := tabs_below r.tabs hb (by have := r.lt; have := r.low; omega)
  low := r.low
  lt := Nat.lt_of_lt_of_le r.lt hb.size
  small := r.small

def hd (L : List Int) : Int := match L with | [] => -1 | x :: _ => x

theorem next_any (g : Nat) (L : List Int) (k : Nat) (w : World) (r : Rd g L k w) :
    Calls Tryd.prog 76 #[.pointer (some ⟨g, 0, none⟩)] w fun e w' => e = .returned (.int .i32 (hd L)) ∧ Rd g L k w' ∧ Below w.heap.size w w' := by
  obtain ⟨s, hs, hr⟩ := r.rest
  have R := r
  have tb := r.tabs
  cases hr with
  | done h =>
    have he : s = ⟨#[]⟩ := by
      apply ByteArray.ext
      exact Array.eq_empty_of_size_eq_zero h
    subst he
    go_enter Tryd.func76, Tryd.ntmps76
    go_wp2
    go_ret
    exact ⟨rfl, R, Below.refl _ _⟩
  | more h t =>
    have hne : (s.toList == []) = false := by
      rw [beq_eq_false_iff_ne]
      intro e
      have := congrArg List.length e
      rw [ByteArray.toList_eq] at this
      rw [Array.length_toList, List.length_nil] at this
      have hz : s.size = 0 := this
      omega
    have DC := Tryd.utf8_DecodeRuneInString s w tb
    generalize ((decodeGo s).2 : Int) = q at DC
    unfold hd
    generalize ((decodeGo s).1 : Int) = p at DC R
    go_enter Tryd.func76, Tryd.ntmps76
    go_wp2_with fail
    refine DC.mono ?_
    rintro e w1 ⟨rfl, hb⟩
    go_wp2
    go_ret
    exact ⟨rfl, R.below hb, hb⟩

theorem Rd.moved {g : Nat} {L L' : List Int} {k : Nat} {w w' : World} {s : ByteArray} {z : Int} (r : Rd g L k w) (hz : z = ((k + 1 : Nat) : Int)) (hr : Runs s L') (hl : L'.length + 1 ≤ L.length)
    (e : w' = (w.setCell ⟨g, 0, none⟩ (.string s)).setCell ⟨g, 1, none⟩ (.int .i64 z)) : Rd g L' (k + 1) w' ∧ Below g w w' := by
  subst e hz
  have hb : Below g w ((w.setCell ⟨g, 0, none⟩ (.string s)).setCell ⟨g, 1, none⟩ (.int .i64 ((k + 1 : Nat) : Int))) := ((Below.refl g w).setCell (Nat.le_refl _) _).setCell (Nat.le_refl _) _
  obtain ⟨s0, hs0, _⟩ := r.rest
  refine ⟨⟨⟨s, ?_, hr⟩, ?_, ?_, ?_, tabs_below r.tabs hb r.low, r.low, ?_, ?_⟩, hb⟩
  · simp [go_sem, hs0]
  · have h1 := r.pos
    simp [go_sem, h1]
  · simpa [go_sem] using r.f0
  · simpa [go_sem] using r.f1
  · exact Nat.lt_of_lt_of_le r.lt hb.size
  · have := r.small
    omega

theorem pass_any (g : Nat) (x : Int) (L : List Int) (k : Nat) (w : World) (r : Rd g (x :: L) k w) :
    Calls Tryd.prog 80 #[.pointer (some ⟨g, 0, none⟩)] w fun e w' => e = .returned (.tuple #[]) ∧ Rd g L (k + 1) w' ∧ Below g w w' := by
  obtain ⟨s, hs, hr⟩ := r.rest
  have hsm := r.small
  simp only [List.length_cons] at hsm
  cases hr with
  | more h t =>
    have DC := Tryd.utf8_DecodeRuneInString s w r.tabs
    have hw := width_le s h
    have hsl : ∀ v : World, (Instr.slice 9 (.string s) (some (.int .i64 ((decodeGo s).2 : Int))) none none).run Tryd.prog v = .ok (.string (s.extract (decodeGo s).2 s.size)) v := fun v => by
      have h := run_slice_string_l (P := Tryd.prog) (w := v) (t := 9) (s := s) Tryd.underlying9 .i64 ((decodeGo s).2 : Int) (by omega) (by omega)
      rw [Int.toNat_natCast] at h
      exact h
    have R := hide r
    have T := hide t
    generalize s.extract (decodeGo s).2 s.size = s' at hsl T
    generalize ((decodeGo s).2 : Int) = q at DC hsl
    generalize ((decodeGo s).1 : Int) = p at DC R
    go_enter Tryd.func80, Tryd.ntmps80
    go_wp2_with fail
    refine DC.mono ?_
    rintro e w1 ⟨rfl, hb⟩
    have r1 := (unhide R).below hb
    have c0 : w1.cell? ⟨g, 0, none⟩ = some (.string s) := (hb.cell (unhide R).lt).trans hs
    have c1 := r1.pos
    have f0 := r1.f0
    have f1 := r1.f1
    go_wp2
    go_end0
    have m := r1.moved (z := (k : Int) + 1) (by omega) (unhide T) (by simp) rfl
    exact ⟨rfl, m.1, (hb.mono (Nat.le_of_lt r.lt)).trans m.2⟩

/-- What is thrown where a text is wrong. -/
def thrown (p : Nat) : Value := .iface 73 (.agg #[.int .i64 p])
/-- How a call of the reader ends. -/
def Out (g : Nat) (w : World) (r : Got) (v : Int → Value) (e : Ending) (w' : World) : Prop :=
  match r with
  | .bad p => e = .panicked [{ v := thrown p, recovered := false }] ∧ Below g w w'
  | .got n L k => e = .returned (v n) ∧ Rd g L k w' ∧ Below g w w'

theorem isDigit_any (x : Int) (w : World) : Calls Tryd.prog 75 #[.int .i32 x] w fun e w' => e = .returned (.bool (decide (48 ≤ x) && decide (x ≤ 57))) ∧ w' = w := by
  by_cases h : 48 ≤ x
  · have hd : decide (48 ≤ x) = true := by simp [h]
    go_enter Tryd.func75, Tryd.ntmps75
    go_wp2
    go_ret
    exact ⟨by rw [hd]; rfl, rfl⟩
  · have hd : decide (48 ≤ x) = false := by simp [h]
    go_enter Tryd.func75, Tryd.ntmps75
    go_wp2
    go_ret
    exact ⟨rfl, rfl⟩

theorem take_hit (g : Nat) (c : Int) (L : List Int) (k : Nat) (w : World) (r : Rd g (c :: L) k w) :
    Calls Tryd.prog 57 #[.pointer (some ⟨g, 0, none⟩), .int .i32 c] w fun e w' => e = .returned (.bool true) ∧ Rd g L (k + 1) w' ∧ Below g w w' := by
  have lt := r.lt
  go_enter Tryd.func57, Tryd.ntmps57
  go_wp2_with fail
  refine (next_any g _ k _ r).mono ?_
  rintro e w1 ⟨rfl, r1, hb1⟩
  have hh : hd (c :: L) = c := rfl
  go_wp2_with fail
  refine (pass_any g c L k _ r1).mono ?_
  rintro e w2 ⟨rfl, r2, hb2⟩
  go_wp2
  go_ret
  exact ⟨rfl, r2, (hb1.mono (Nat.le_of_lt lt)).trans hb2⟩

theorem take_miss (g : Nat) (c : Int) (L : List Int) (k : Nat) (w : World) (r : Rd g L k w) (h : hd L ≠ c) :
    Calls Tryd.prog 57 #[.pointer (some ⟨g, 0, none⟩), .int .i32 c] w fun e w' => e = .returned (.bool false) ∧ Rd g L k w' ∧ Below g w w' := by
  have lt := r.lt
  go_enter Tryd.func57, Tryd.ntmps57
  go_wp2_with fail
  refine (next_any g _ k _ r).mono ?_
  rintro e w1 ⟨rfl, r1, hb1⟩
  go_wp2
  go_ret
  exact ⟨rfl, r1, hb1.mono (Nat.le_of_lt lt)⟩

theorem needUpTo_yes (b n f : Int) (w : World) (h : n ≤ b) : Calls Tryd.prog 54 #[.int .i64 b, .int .i64 n, .int .i64 f] w fun e w' => e = .returned (.tuple #[]) ∧ w' = w := by
  go_enter Tryd.func54, Tryd.ntmps54
  go_wp2
  go_end0
  exact ⟨rfl, rfl⟩
theorem needUpTo_no (b n : Int) (f : Nat) (w : World) (h : b < n) : Calls Tryd.prog 54 #[.int .i64 b, .int .i64 n, .int .i64 f] w fun e w' => e = .panicked [{ v := thrown f, recovered := false }] ∧ w' = w := by
  go_enter Tryd.func54, Tryd.ntmps54
  go_wp2
  exact ⟨rfl, rfl, rfl⟩

theorem digit_any (g : Nat) (L : List Int) (k : Nat) (w : World) (r : Rd g L k w) :
    Calls Tryd.prog 74 #[.pointer (some ⟨g, 0, none⟩)] w (Out g w (digP L k) (fun n => .int .i64 n)) := by
  have lt := r.lt
  have bad : (decide (48 ≤ hd L) && decide (hd L ≤ 57)) = false → digP L k = .bad k → Calls Tryd.prog 74 #[.pointer (some ⟨g, 0, none⟩)] w (Out g w (.bad k) (fun n => .int .i64 n)) := fun hf _ => by
    go_enter Tryd.func74, Tryd.ntmps74
    go_wp2_with fail
    refine (next_any g _ k _ r).mono ?_
    rintro e w1 ⟨rfl, r1, hb1⟩
    have c1 := r1.pos
    go_wp2_with fail
    refine (isDigit_any _ _).mono ?_
    rintro e w2 ⟨rfl, rfl⟩
    rw [hf]
    go_wp2
    exact ⟨rfl, rfl, hb1.mono (Nat.le_of_lt lt)⟩
  cases L with
  | nil => exact bad rfl rfl
  | cons x L =>
    by_cases h : 48 ≤ x ∧ x ≤ 57
    · have hr : digP (x :: L) k = .got (x - 48) L (k + 1) := by simp [digP, h]
      have ht : (decide (48 ≤ x) && decide (x ≤ 57)) = true := by simp [h]
      obtain ⟨h1, h2⟩ := h
      rw [hr]
      clear bad hr
      go_enter Tryd.func74, Tryd.ntmps74
      go_wp2_with fail
      refine (next_any g _ k _ r).mono ?_
      rintro e w1 ⟨rfl, r1, hb1⟩
      have hh : hd (x :: L) = x := rfl
      rw [hh]
      go_wp2_with fail
      refine (isDigit_any _ _).mono ?_
      rintro e w2 ⟨rfl, rfl⟩
      rw [ht]
      go_wp2_with fail
      refine (pass_any g x L k _ r1).mono ?_
      rintro e w2 ⟨rfl, r2, hb2⟩
      go_wp2
      go_ret
      exact ⟨rfl, r2, (hb1.mono (Nat.le_of_lt lt)).trans hb2⟩
    · have hr : digP (x :: L) k = .bad k := by simp [digP, h]
      rw [hr]
      exact bad (by
        show (decide (48 ≤ x) && decide (x ≤ 57)) = false
        rw [← Bool.decide_and]; simpa using h) hr

theorem need_any (g : Nat) (c : Int) (L : List Int) (k : Nat) (w : World) (r : Rd g L k w) (hc : c ≠ -1) :
    Calls Tryd.prog 55 #[.pointer (some ⟨g, 0, none⟩), .int .i32 c] w (Out g w (needP c L k) (fun _ => .tuple #[])) := by
  have bad : hd L ≠ c → needP c L k = .bad k → Calls Tryd.prog 55 #[.pointer (some ⟨g, 0, none⟩), .int .i32 c] w (Out g w (.bad k) (fun _ => .tuple #[])) := fun hf _ => by
    go_enter Tryd.func55, Tryd.ntmps55
    go_wp2_with fail
    refine (take_miss g c L k _ r hf).mono ?_
    rintro e w1 ⟨rfl, r1, hb1⟩
    have c1 := r1.pos
    go_wp2
    exact ⟨rfl, rfl, hb1⟩
  cases L with
  | nil => exact bad (fun e => hc e.symm) rfl
  | cons x L =>
    by_cases h : x = c
    · subst h
      have hr : needP x (x :: L) k = .got 0 L (k + 1) := by simp [needP]
      rw [hr]
      clear bad hr
      go_enter Tryd.func55, Tryd.ntmps55
      go_wp2_with fail
      refine (take_hit g x L k _ r).mono ?_
      rintro e w1 ⟨rfl, r1, hb1⟩
      go_wp2
      go_end0
      exact ⟨rfl, r1, hb1⟩
    · have hr : needP c (x :: L) k = .bad k := by simp [needP, h]
      rw [hr]
      exact bad h hr

theorem needEnd_any (g : Nat) (n : Int) (L : List Int) (k : Nat) (w : World) (r : Rd g L k w) :
    Calls Tryd.prog 79 #[.pointer (some ⟨g, 0, none⟩)] w (Out g w (endP n L k) (fun _ => .tuple #[])) := by
  have lt := r.lt
  obtain ⟨s, hs, hr⟩ := r.rest
  cases L with
  | nil =>
    have hh : hd [] = -1 := rfl
    show Calls Tryd.prog 79 #[.pointer (some ⟨g, 0, none⟩)] w (Out g w (.got n [] k) (fun _ => .tuple #[]))
    go_enter Tryd.func79, Tryd.ntmps79
    go_wp2_with fail
    refine (next_any g _ k _ r).mono ?_
    rintro e w1 ⟨rfl, r1, hb1⟩
    go_wp2
    go_end0
    exact ⟨rfl, r1, hb1.mono (Nat.le_of_lt lt)⟩
  | cons x L =>
    have hx := hr.all x (by simp)
    have hh : hd (x :: L) = x := rfl
    have hne : ¬ x = -1 := by omega
    show Calls Tryd.prog 79 #[.pointer (some ⟨g, 0, none⟩)] w (Out g w (.bad k) (fun _ => .tuple #[]))
    clear hs hr
    go_enter Tryd.func79, Tryd.ntmps79
    go_wp2_with fail
    refine (next_any g _ k _ r).mono ?_
    rintro e w1 ⟨rfl, r1, hb1⟩
    have c1 := r1.pos
    rw [hh]
    go_wp2
    exact ⟨rfl, rfl, hb1.mono (Nat.le_of_lt lt)⟩
end Go.Proofs.YtfifbcoedfdnjabDoor
