/-
  The reader's numbers by their contracts.
-/
import Derived.Test.YtfifbcoedfdnjabDoorReader
namespace Go.Proofs.YtfifbcoedfdnjabDoor
open Go.RowKit Go.Lib

theorem digs_hit (m : Nat) (n x : Int) (L : List Int) (h : 48 ≤ x ∧ x ≤ 57) : digs (m + 1) n (x :: L) = ((digs m (n * 10 + (x - 48)) L).1, (digs m (n * 10 + (x - 48)) L).2.1 + 1, (digs m (n * 10 + (x - 48)) L).2.2) := by
  simp only [digs, if_pos h]
theorem digs_miss (m : Nat) (n : Int) (L : List Int) (h : (decide (48 ≤ hd L) && decide (hd L ≤ 57)) = false) : digs (m + 1) n L = (n, 0, L) := by
  cases L with
  | nil => rfl
  | cons x L =>
    have h' : ¬ (48 ≤ x ∧ x ≤ 57) := by
      intro hx
      have : (decide (48 ≤ x) && decide (x ≤ 57)) = true := by simp [hx]
      rw [show hd (x :: L) = x from rfl, this] at h
      cases h
    simp only [digs, if_neg h']
theorem digs_zero (n : Int) (L : List Int) : digs 0 n L = (n, 0, L) := rfl

/-- where the loop over digits stands: i of them are read. -/
structure Mid (many : Nat) (L : List Int) (k i : Nat) (n : Int) (M : List Int) : Prop where
  le : i ≤ many
  one : 1 ≤ i
  n0 : 0 ≤ n
  n1 : n < 10 ^ i
  eq : digs many 0 L = ((digs (many - i) n M).1, (digs (many - i) n M).2.1 + i, (digs (many - i) n M).2.2)

theorem Mid.done {many : Nat} {L : List Int} {k i : Nat} {n : Int} {M : List Int} (h : Mid many L k i n M) (e : many - i = 0 ∨ (decide (48 ≤ hd M) && decide (hd M ≤ 57)) = false) : numP many L k = .got n M (k + i) := by
  have e2 : digs (many - i) n M = (n, 0, M) := by
    rcases e with e | e
    · rw [e]; rfl
    · rcases (show many - i = 0 ∨ ∃ j, many - i = j + 1 from (by cases h' : many - i with | zero => exact .inl rfl | succ j => exact .inr ⟨j, rfl⟩)) with h0 | ⟨j, hj⟩
      · rw [h0]; rfl
      · rw [hj]; exact digs_miss j n M e
  have := h.one
  unfold numP
  rw [h.eq, e2]
  simp only
  rw [if_neg (by omega), Nat.zero_add]
theorem Mid.step {many : Nat} {L : List Int} {k i : Nat} {n x : Int} {M : List Int} (h : Mid many L k i n (x :: M)) (hi : i < many) (hx : 48 ≤ x ∧ x ≤ 57) : Mid many L k (i + 1) (n * 10 + (x - 48)) M where
  le := hi
  one := by omega
  n0 := by have := h.n0; omega
  n1 := by
    have := h.n1
    rw [Int.pow_succ]
    omega
  eq := by
    rw [h.eq, show many - i = (many - (i + 1)) + 1 by omega, digs_hit _ _ _ _ hx]
    simp only
    rw [show (digs (many - (i + 1)) (n * 10 + (x - 48)) M).2.1 + 1 + i = (digs (many - (i + 1)) (n * 10 + (x - 48)) M).2.1 + (i + 1) by omega]
theorem Mid.start {many : Nat} {L M : List Int} {k : Nat} {x : Int} (hm : 1 ≤ many) (hL : L = x :: M) (hx : 48 ≤ x ∧ x ≤ 57) : Mid many L k 1 (x - 48) M where
  le := hm
  one := by omega
  n0 := by omega
  n1 := by simp; omega
  eq := by
    subst hL
    rw [show many = (many - 1) + 1 by omega, digs_hit _ _ _ _ hx]
    simp

theorem pow_small (i : Nat) (h : i ≤ 6) : (10 : Int) ^ i ≤ 1000000 := by
  rcases (show i = 0 ∨ i = 1 ∨ i = 2 ∨ i = 3 ∨ i = 4 ∨ i = 5 ∨ i = 6 by omega) with rfl | rfl | rfl | rfl | rfl | rfl | rfl <;> decide

set_option maxHeartbeats 1000000 in
theorem number_any (g : Nat) (many : Nat) (L : List Int) (k : Nat) (w : World) (r : Rd g L k w) (h1 : 1 ≤ many) (h6 : many ≤ 6) :
    Calls Tryd.prog 53 #[.pointer (some ⟨g, 0, none⟩), .int .i64 many] w (Out g w (numP many L k) (fun n => .int .i64 n)) := by
  have c1 := digit_any g L k w r
  rcases hdig : digP L k with p | ⟨a, M, j⟩
  · rw [hdig] at c1
    have hn : numP many L k = .bad p := by
      have hz : digs many 0 L = (0, 0, L) ∧ p = k := by
        obtain ⟨m, rfl⟩ : ∃ m, many = m + 1 := ⟨many - 1, by omega⟩
        cases L with
        | nil => exact ⟨rfl, by simp [digP] at hdig; exact hdig.symm⟩
        | cons x L =>
          by_cases hx : 48 ≤ x ∧ x ≤ 57
          · simp [digP, hx] at hdig
          · simp [digP, hx] at hdig
            exact ⟨by simp only [digs, if_neg hx], hdig.symm⟩
      unfold numP
      rw [hz.1, hz.2]
      rfl
    rw [hn]
    go_enter Tryd.func53, Tryd.ntmps53
    go_wp2_with fail
    refine c1.mono ?_
    rintro e w1 ⟨rfl, hb1⟩
    go_wp2
    exact ⟨rfl, rfl, hb1⟩
  · rw [hdig] at c1
    obtain ⟨x, rfl, hx, rfl, rfl⟩ : ∃ x, L = x :: M ∧ (48 ≤ x ∧ x ≤ 57) ∧ a = x - 48 ∧ j = k + 1 := by
      cases L with
      | nil => simp [digP] at hdig
      | cons x L =>
        by_cases hx : 48 ≤ x ∧ x ≤ 57
        · simp [digP, hx] at hdig
          obtain ⟨rfl, rfl, rfl⟩ := hdig
          exact ⟨x, rfl, hx, rfl, rfl⟩
        · simp [digP, hx] at hdig
    have hmid := Mid.start (k := k) (L := x :: M) (M := M) h1 rfl hx
    clear hdig
    generalize x :: M = L0 at hmid ⊢
    generalize hres : numP many L0 k = res
    have HRES := hide hres
    clear hres
    go_enter Tryd.func53, Tryd.ntmps53
    go_wp2_with fail
    refine c1.mono ?_
    rintro e w1 ⟨rfl, r1, hb1⟩
    clear c1
    go_wp2
    go_loopw [5, 6] (fun a b wr => ∃ (i : Nat) (n : Int) (M : List Int), a = .int .i64 n ∧ b = .int .i64 i ∧ Mid many L0 k i n M ∧ Rd g M (k + i) wr ∧ Below g w wr) (fun _ b _ => many - (RowKit.intOf b).toNat)
    case atStart => exact ⟨1, x - 48, M, rfl, rfl, hmid, r1, hb1⟩
    case round =>
      obtain ⟨i, n, M, rfl, rfl, hm, rr, hb⟩ := hrel
      have le := hm.le
      have n0 := hm.n0
      have n1 := hm.n1
      have ps := pow_small i (by omega)
      have lt := rr.lt
      by_cases hi : i < many
      · go_wp2_with fail
        refine (next_any g _ _ _ rr).mono ?_
        rintro e w2 ⟨rfl, r2, hb2⟩
        go_wp2_with fail
        refine (isDigit_any _ _).mono ?_
        rintro e w3 ⟨rfl, rfl⟩
        cases hdm : (decide (48 ≤ hd M) && decide (hd M ≤ 57)) with
        | false =>
          have hfin := hm.done (.inr hdm)
          have hres := unhide HRES
          rw [hfin] at hres
          subst hres
          go_wp2
          go_ret
          exact ⟨rfl, r2, hb.trans (hb2.mono (Nat.le_of_lt lt))⟩
        | true =>
          obtain ⟨y, M', rfl, hy⟩ : ∃ y M', M = y :: M' ∧ (48 ≤ y ∧ y ≤ 57) := by
            cases M with
            | nil => simp [hd] at hdm
            | cons y M' => exact ⟨y, M', rfl, by
              rw [show hd (y :: M') = y from rfl, Bool.and_eq_true] at hdm
              exact ⟨of_decide_eq_true hdm.1, of_decide_eq_true hdm.2⟩⟩
          have hst := hm.step hi hy
          have c2 := digit_any g (y :: M') (k + i) _ r2
          have hdig : digP (y :: M') (k + i) = .got (y - 48) M' (k + i + 1) := by simp [digP, hy]
          rw [hdig] at c2
          clear hdig hdm
          obtain ⟨y1, y2⟩ := hy
          go_wp2_with fail
          refine c2.mono ?_
          rintro e w4 ⟨rfl, r4, hb4⟩
          clear c2
          go_wp2
          exact ⟨⟨i + 1, n * 10 + (y - 48), M', rfl, by go_num, hst, r4, (hb.trans (hb2.mono (Nat.le_of_lt lt))).trans hb4⟩, by simp [RowKit.intOf]; omega⟩
      · have hfin := hm.done (.inl (by omega))
        have hres := unhide HRES
        rw [hfin] at hres
        subst hres
        go_wp2
        go_ret
        exact ⟨rfl, rr, hb⟩

theorem numP_bound {many : Nat} {L M : List Int} {k j : Nat} {n : Int} (h : numP many L k = .got n M j) (h6 : many ≤ 6) : 0 ≤ n ∧ n < 1000000 ∧ j = k + (digs many 0 L).2.1 ∧ 1 ≤ (digs many 0 L).2.1 ∧ (digs many 0 L).2.1 ≤ many ∧ n < 10 ^ (digs many 0 L).2.1 := by
  unfold numP at h
  have hl := digs_le many 0 L
  have hb := digs_bound many 0 L 1 (by omega) (by omega)
  split at h
  · cases h
  · rename_i h0
    have e := Got.got.inj h
    have ps := pow_small _ (Nat.le_trans hl h6)
    rw [Int.one_mul] at hb
    refine ⟨by rw [← e.1]; exact hb.1, by rw [← e.1]; omega, e.2.2.symm, by omega, hl, by rw [← e.1]; exact hb.2⟩
theorem digP_bound {L M : List Int} {k j : Nat} {n : Int} (h : digP L k = .got n M j) : 0 ≤ n ∧ n ≤ 9 ∧ j = k + 1 := by
  cases L with
  | nil => cases h
  | cons x L =>
    by_cases hx : 48 ≤ x ∧ x ≤ 57
    · simp [digP, hx] at h
      omega
    · simp [digP, hx] at h
theorem twoP_bound {L M : List Int} {k j : Nat} {n : Int} (h : twoP L k = .got n M j) : 0 ≤ n ∧ n ≤ 59 ∧ j = k + 2 := by
  unfold twoP at h
  rcases h1 : digP L k with p | ⟨a, M1, j1⟩
  · rw [h1] at h; cases h
  · rw [h1] at h
    simp only at h
    rcases h2 : digP M1 j1 with p | ⟨b, M2, j2⟩
    · rw [h2] at h; cases h
    · rw [h2] at h
      simp only [upTo] at h
      have b1 := digP_bound h1
      have b2 := digP_bound h2
      split at h
      · cases h
      · have e := Got.got.inj h
        omega

set_option maxHeartbeats 1000000 in
theorem twoDigits_any (g : Nat) (L : List Int) (k : Nat) (w : World) (r : Rd g L k w) :
    Calls Tryd.prog 77 #[.pointer (some ⟨g, 0, none⟩)] w (Out g w (twoP L k) (fun n => .int .i64 n)) := by
  have c0 := r.pos
  have c1 := digit_any g L k w r
  unfold twoP
  rcases hdig : digP L k with p | ⟨a, M, j⟩
  · rw [hdig] at c1
    simp only
    go_enter Tryd.func77, Tryd.ntmps77
    go_wp2_with fail
    refine c1.mono ?_
    rintro e w1 ⟨rfl, hb1⟩
    go_wp2
    exact ⟨rfl, rfl, hb1⟩
  · rw [hdig] at c1
    obtain ⟨a1, a2, _⟩ := digP_bound hdig
    simp only
    rcases hd2 : digP M j with p | ⟨b, M', j'⟩
    · simp only
      go_enter Tryd.func77, Tryd.ntmps77
      go_wp2_with fail
      refine c1.mono ?_
      rintro e w1 ⟨rfl, r1, hb1⟩
      have c2 := digit_any g M j w1 r1
      rw [hd2] at c2
      clear c1
      go_wp2_with fail
      refine c2.mono ?_
      rintro e w2 ⟨rfl, hb2⟩
      go_wp2
      exact ⟨rfl, rfl, hb1.trans hb2⟩
    · obtain ⟨b1, b2, _⟩ := digP_bound hd2
      simp only [upTo]
      by_cases h59 : 59 < a * 10 + b
      · rw [if_pos h59]
        go_enter Tryd.func77, Tryd.ntmps77
        go_wp2_with fail
        refine c1.mono ?_
        rintro e w1 ⟨rfl, r1, hb1⟩
        have c2 := digit_any g M j w1 r1
        rw [hd2] at c2
        clear c1
        go_wp2_with fail
        refine c2.mono ?_
        rintro e w2 ⟨rfl, r2, hb2⟩
        clear c2
        go_wp2_with fail
        refine (needUpTo_no 59 _ k _ h59).mono ?_
        rintro e w3 ⟨rfl, rfl⟩
        go_wp2
        exact ⟨rfl, rfl, hb1.trans hb2⟩
      · rw [if_neg h59]
        go_enter Tryd.func77, Tryd.ntmps77
        go_wp2_with fail
        refine c1.mono ?_
        rintro e w1 ⟨rfl, r1, hb1⟩
        have c2 := digit_any g M j w1 r1
        rw [hd2] at c2
        clear c1
        go_wp2_with fail
        refine c2.mono ?_
        rintro e w2 ⟨rfl, r2, hb2⟩
        clear c2
        go_wp2_with fail
        refine (needUpTo_yes 59 _ _ _ (by omega)).mono ?_
        rintro e w3 ⟨rfl, rfl⟩
        go_wp2
        go_ret
        exact ⟨rfl, r2, hb1.trans hb2⟩

theorem pad_step (n : Int) (i : Nat) : n * 10 ^ i * 10 = n * 10 ^ (i + 1) := by rw [Int.pow_succ, Int.mul_assoc]
theorem pad_bound (n : Int) (d i : Nat) (h0 : 0 ≤ n) (h1 : n < 10 ^ d) (hd : d + i ≤ 6) : 0 ≤ n * 10 ^ i ∧ n * 10 ^ i < 1000000 := by
  have p : (0 : Int) < 10 ^ i := Int.pow_pos (by decide)
  refine ⟨Int.mul_nonneg h0 (Int.le_of_lt p), ?_⟩
  have h2 : n * 10 ^ i < 10 ^ d * 10 ^ i := Int.mul_lt_mul_of_pos_right h1 p
  rw [← Int.pow_add] at h2
  have := pow_small (d + i) hd
  omega

set_option maxHeartbeats 1000000 in
theorem micros_any (g : Nat) (L : List Int) (k : Nat) (w : World) (r : Rd g L k w) :
    Calls Tryd.prog 78 #[.pointer (some ⟨g, 0, none⟩)] w (Out g w (micP L k) (fun n => .int .i64 n)) := by
  have c0 := r.pos
  have small := r.small
  have c1 := number_any g 6 L k w r (by omega) (by omega)
  unfold micP
  rcases hnum : numP 6 L k with p | ⟨n, M, j⟩
  · rw [hnum] at c1
    simp only
    go_enter Tryd.func78, Tryd.ntmps78
    go_wp2_with fail
    refine c1.mono ?_
    rintro e w1 ⟨rfl, hb1⟩
    go_wp2
    exact ⟨rfl, rfl, hb1⟩
  · rw [hnum] at c1
    obtain ⟨n0, n1, hj, d1, d2, n2⟩ := numP_bound hnum (by omega)
    generalize (digs 6 0 L).2.1 = d at hj d1 d2 n2
    subst hj
    simp only
    have hp : pad n (k + d - k) = n * 10 ^ (6 - d) := by unfold pad; rw [show k + d - k = d by omega]
    rw [hp]
    clear hp hnum
    have HN2 := hide n2
    clear n2
    generalize hres : n * 10 ^ (6 - d) = res
    have HRES := hide hres
    clear hres
    go_enter Tryd.func78, Tryd.ntmps78
    go_wp2_with fail
    refine c1.mono ?_
    rintro e w1 ⟨rfl, r1, hb1⟩
    clear c1
    have c2 := r1.pos
    go_wp2
    go_loop [4, 18] (fun a b => ∃ (i : Nat) (v : Int), a = .int .i64 v ∧ b = .int .i64 i ∧ i ≤ 6 - d ∧ Held (v = n * 10 ^ i) ∧ 0 ≤ v ∧ v < 1000000) (fun _ b => 6 - (RowKit.intOf b).toNat)
    case atStart => exact ⟨0, n, rfl, rfl, by omega, by show n = _; simp, n0, n1⟩
    case round =>
      obtain ⟨i, v, rfl, rfl, hi, HV, v0, v1⟩ := hrel
      by_cases hlt : i < 6 - d
      · have hb := pad_bound n d (i + 1) n0 (unhide HN2) (by omega)
        have hst : v * 10 = n * 10 ^ (i + 1) := by rw [unhide HV]; exact pad_step n i
        rw [← hst] at hb
        have HST := hide hst
        clear hst
        obtain ⟨hb0, hb9⟩ := hb
        go_wp2
        exact ⟨⟨i + 1, v * 10, rfl, by go_num, by omega, HST, hb0, hb9⟩, by simp [RowKit.intOf]; omega⟩
      · obtain rfl : i = 6 - d := by omega
        obtain rfl : v = res := (unhide HV).trans (unhide HRES)
        go_wp2
        go_ret
        exact ⟨rfl, r1, hb1⟩
end Go.Proofs.YtfifbcoedfdnjabDoor
