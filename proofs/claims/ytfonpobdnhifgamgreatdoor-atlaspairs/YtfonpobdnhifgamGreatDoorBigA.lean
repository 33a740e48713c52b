/-
   meridianref1.BigOf by its contract. meridianref1.trimmed by its contract. meridianref1.BigMul by its contract. Plain numbers, more: which of two rows of digits is the greater number. meridianref1's numbers of any size: BigOf, BigMul, BigCmp, Product, of any numbers, by contracts.
-/
import Derived.Test.YtfonpobdnhifgamGreatDoorProg
import Derived.WalkKit
import Derived.WalkSpells
import Derived.WalkLawsBesides
import Derived.BigQuiet
import Derived.Test.YtfonpobdnhifgamGreatDoorKitA
/-
  Plain numbers: little-endian digits to the base of a million, and greatest common divisors. Nothing of the program.
-/
namespace Go.Proofs.YtfonpobdnhifgamGreatDoor

def pw : Nat → Int
  | 0 => 1
  | n + 1 => 1000000 * pw n
def val : List Int → Int
  | [] => 0
  | d :: r => d + 1000000 * val r
def Digs (L : List Int) : Prop := ∀ d ∈ L, 0 ≤ d ∧ d < 1000000
/-- No nought at the end. -/
def Top (L : List Int) : Prop := ∀ k, L.length = k + 1 → L.getD k 0 ≠ 0

theorem pw_add (i k : Nat) : pw (i + k) = pw i * pw k := by
  induction i with
  | zero => simp [pw]
  | succ i ih => rw [Nat.succ_add]; simp only [pw, ih, Int.mul_assoc]
theorem pw_pos (i : Nat) : 0 < pw i := by
  induction i with
  | zero => simp [pw]
  | succ i ih => simp only [pw]; omega
theorem val_append (A B : List Int) : val (A ++ B) = val A + pw A.length * val B := by
  induction A with
  | nil => simp [val, pw]
  | cons d r ih => simp only [List.cons_append, val, ih, List.length_cons, pw, Int.mul_add, Int.mul_assoc]; omega
theorem val_take_succ (A : List Int) (i : Nat) (h : i < A.length) : val (A.take (i + 1)) = val (A.take i) + A.getD i 0 * pw i := by
  rw [List.take_succ_eq_append_getElem h, val_append, List.length_take, Nat.min_eq_left (by omega)]
  simp [val, List.getD_eq_getElem?_getD, List.getElem?_eq_getElem h, Int.mul_comm]
theorem val_set (O : List Int) : ∀ (j : Nat) (x : Int), j < O.length → val (O.set j x) = val O + (x - O.getD j 0) * pw j := by
  induction O with
  | nil => intro j x h; simp at h
  | cons d r ih =>
    intro j x h
    cases j with
    | zero => simp [val, pw]; omega
    | succ j =>
      have := ih j x (by simpa using h)
      simp only [List.set_cons_succ, val, this, List.getD_cons_succ, pw, Int.mul_add]
      have e : 1000000 * ((x - r.getD j 0) * pw j) = (x - r.getD j 0) * (1000000 * pw j) := by ac_rfl
      rw [e]; omega
theorem val_nonneg (L : List Int) (h : Digs L) : 0 ≤ val L := by
  induction L with
  | nil => simp [val]
  | cons d r ih =>
    have h1 := h d (by simp)
    have h2 := ih (fun x hx => h x (by simp [hx]))
    simp only [val]; omega
theorem val_noughts (L : List Int) (h : ∀ i, L.getD i 0 = 0) : val L = 0 := by
  induction L with
  | nil => rfl
  | cons d r ih =>
    have h0 : d = 0 := by simpa using h 0
    have h1 := ih (fun i => by simpa using h (i + 1))
    simp [val, h0, h1]
theorem val_trim (L : List Int) (m : Nat) (h : ∀ i, m ≤ i → L.getD i 0 = 0) : val (L.take m) = val L := by
  have e := val_append (L.take m) (L.drop m)
  rw [List.take_append_drop] at e
  have z : val (L.drop m) = 0 := val_noughts _ (fun i => by
    have := h (m + i) (by omega)
    simpa [List.getD_eq_getElem?_getD, List.getElem?_drop] using this)
  rw [e, z]; simp
theorem Top.tail {d : Int} {r : List Int} (h : Top (d :: r)) : Top r := fun k hk => by
  have := h (k + 1) (by simp [hk])
  simpa using this
theorem val_pos (L : List Int) (hd : Digs L) (ht : Top L) (hne : L ≠ []) : 0 < val L := by
  induction L with
  | nil => exact absurd rfl hne
  | cons d r ih =>
    have h1 := hd d (by simp)
    have hr : Digs r := fun x hx => hd x (by simp [hx])
    cases r with
    | nil =>
      have := ht 0 rfl
      simp at this
      simp [val]; omega
    | cons e s =>
      have := ih hr ht.tail (by simp)
      simp only [val] at this ⊢; omega
theorem canon_unique (A : List Int) : ∀ B, Digs A → Digs B → Top A → Top B → val A = val B → A = B := by
  induction A with
  | nil =>
    intro B _ hB _ tB e
    cases B with
    | nil => rfl
    | cons d r =>
      have := val_pos (d :: r) hB tB (by simp)
      simp only [val] at e this; omega
  | cons d r ih =>
    intro B hA hB tA tB e
    cases B with
    | nil =>
      have := val_pos (d :: r) hA tA (by simp)
      simp only [val] at e this; omega
    | cons c s =>
      have h1 := hA d (by simp)
      have h2 := hB c (by simp)
      simp only [val] at e
      have e1 : d = c := by omega
      have e2 : val r = val s := by omega
      rw [e1, ih s (fun x hx => hA x (by simp [hx])) (fun x hx => hB x (by simp [hx])) tA.tail tB.tail e2]

/-- One step of the inner round of a product. -/
theorem mul_step (v c P o a b d c' t X Y pi pk : Int) (hP : P = pi * pk) (h : v + c * P = X + a * pi * Y) (ht : t = c + o + a * b) (hd : t = 1000000 * c' + d) :
    (v + (d - o) * P) + c' * (1000000 * P) = X + a * pi * (Y + b * pk) := by
  have e1 : c' * (1000000 * P) + d * P = t * P := by rw [hd, Int.add_mul]; congr 1; ac_rfl
  have e2 : t * P = c * P + o * P + a * b * P := by rw [ht, Int.add_mul, Int.add_mul]
  have e3 : a * b * P = a * pi * (b * pk) := by rw [hP]; ac_rfl
  rw [Int.sub_mul, Int.mul_add, ← e3]
  omega

theorem set_getD (L : List Int) (j : Nat) (x : Int) (i : Nat) (h : j < L.length) : (L.set j x).getD i 0 = if i = j then x else L.getD i 0 := by
  simp only [List.getD_eq_getElem?_getD, List.getElem?_set]
  by_cases e : i = j
  · subst e; simp [h]
  · simp [e, Ne.symm e]
theorem digs_set {L : List Int} (h : Digs L) (j : Nat) (x : Int) (hx : 0 ≤ x ∧ x < 1000000) : Digs (L.set j x) := fun d hd => by
  rcases List.mem_or_eq_of_mem_set hd with m | e
  · exact h d m
  · rw [e]; exact hx
theorem digs_getD {L : List Int} (h : Digs L) (i : Nat) : 0 ≤ L.getD i 0 ∧ L.getD i 0 < 1000000 := by
  by_cases hi : i < L.length
  · rw [List.getD_eq_getElem?_getD, List.getElem?_eq_getElem hi]; exact h _ (List.getElem_mem hi)
  · rw [List.getD_eq_getElem?_getD, List.getElem?_eq_none (by omega)]; simp
theorem digs_take {L : List Int} (h : Digs L) (m : Nat) : Digs (L.take m) := fun d hd => h d (List.mem_of_mem_take hd)
theorem top_take {L : List Int} {m : Nat} (hm : m ≤ L.length) (h : m = 0 ∨ L.getD (m - 1) 0 ≠ 0) : Top (L.take m) := fun k hk => by
  rw [List.length_take, Nat.min_eq_left hm] at hk
  subst hk
  rcases h with h | h
  · omega
  · simpa [List.getD_eq_getElem?_getD, List.getElem?_take] using h

/-- The greatest common divisor goes through a step of Go's remainder. -/
theorem gcd_rem (a b : Int) : Int.gcd (b.tmod a) a = Int.gcd a b := by
  simp only [Int.gcd, Int.natAbs_tmod]
  exact (Nat.gcd_rec _ _).symm
theorem gcd_rem' (a b : Int) : Int.gcd b (a.tmod b) = Int.gcd a b := by
  rw [Int.gcd_comm, gcd_rem, Int.gcd_comm]
end Go.Proofs.YtfonpobdnhifgamGreatDoor
namespace Go.Proofs.YtfonpobdnhifgamGreatDoor
open Go.RowKit

theorem hide {p : Prop} (h : p) : Hid p := h
theorem unhide {p : Prop} (h : Hid p) : p := h

theorem info3 : (Tryz.prog.info? 3).map (fun i => (i.zero, i.size, i.bytes)) = some (some (.int .i64 0), 1, 8) := by kernel_rfl

theorem pw4 : pw 4 = 1000000000000000000000000 := by simp [pw]
theorem len_small {L : List Int} {m n : Int} (hd : Digs L) (hm : 0 < m) (e : val L + pw L.length * m = n) (hn : n ≤ 9223372036854775807) (hl : L.length ≤ 4) : L.length ≤ 3 := by
  rcases Nat.lt_or_ge L.length 4 with h | h
  · omega
  · have : L.length = 4 := by omega
    rw [this, pw4] at e
    have := val_nonneg L hd
    omega
theorem bigOf_step {L : List Int} {m n : Int} (hm : 0 < m) (hd : Digs L) (e : val L + pw L.length * m = n) :
    val (L ++ [m % 1000000]) + pw (L ++ [m % 1000000]).length * (m / 1000000) = n ∧ Digs (L ++ [m % 1000000]) ∧ (m / 1000000 = 0 → Top (L ++ [m % 1000000])) := by
  refine ⟨?_, ?_, ?_⟩
  · have h1 : pw (L ++ [m % 1000000]).length = pw L.length * 1000000 := by rw [List.length_append, pw_add]; simp [pw]
    have hv : val [m % 1000000] = m % 1000000 := by simp [val]
    rw [val_append, h1, hv, ← e, Int.mul_assoc]
    have h2 : m = 1000000 * (m / 1000000) + m % 1000000 := by omega
    have h3 : pw L.length * m = pw L.length * (1000000 * (m / 1000000)) + pw L.length * (m % 1000000) := by rw [← Int.mul_add, ← h2]
    omega
  · intro d hx
    rcases List.mem_append.1 hx with h | h
    · exact hd d h
    · simp at h; subst h; omega
  · intro hz k hk
    simp at hk
    subst hk
    simp [List.getD_eq_getElem?_getD]; omega

set_option maxHeartbeats 400000 in
theorem bigOf_any (n : Int) (w : World) (h0 : 0 ≤ n) (h1 : n ≤ 9223372036854775807) :
    Calls Tryz.prog 45 #[.int .i64 n] w fun e w' => ∃ v : Value, e = .returned v ∧ ∃ L : List Int, w'.ownsRow w.heap.size 3 1 v L.length (L.map (Value.int .i64)) ∧ Digs L ∧ Top L ∧ val L = n ∧ L.length ≤ 4 ∧ (L = [] → v = .slice none 0 0) ∧ Below w.heap.size w w' := by
  obtain ⟨i0, hi, hz0, hz1, hz2⟩ := info_parts info3
  have H1 : Hid (n ≤ 9223372036854775807) := h1
  clear h1
  go_enter Tryz.func45, Tryz.ntmps45
  go_wp2
  go_loopw [0, 3] (fun x v wr => ∃ (m : Int) (L : List Int), x = .int .i64 m ∧ 0 ≤ m ∧ m ≤ n ∧ val L + pw L.length * m = n ∧ Digs L ∧ (m = 0 → Top L) ∧ L.length ≤ 4 ∧ (L = [] → v = .slice none 0 0) ∧ wr.ownsRow w.heap.size 3 1 v L.length (L.map (Value.int .i64)) ∧ Below w.heap.size w wr)
    (fun x _ _ => (intOf x).toNat)
  case atStart => exact ⟨n, [], rfl, h0, Int.le_refl _, by simp [val, pw], (fun d hd => by simp at hd), (fun _ k hk => by simp at hk), by simp, fun _ => rfl, World.ownsRow_nil _ _ _ _, Below.refl _ _⟩
  case round =>
    obtain ⟨m, L, rfl, hm0, hmn, he, hd, ht, hl, hnil, hown, hb⟩ := hrel
    have hm9 : m ≤ 9223372036854775807 := Int.le_trans hmn H1.out
    by_cases hpos : 0 < m
    · have S := bigOf_step hpos hd he
      have hl3 := len_small hd hpos he H1.out hl
      have HS := hide S
      have HE := hide he
      have hsz := hb.size
      clear S he ht
      go_wp2_with (first
        | (at_builtin; refine wpList_append_own _ rfl _ _ 99 rfl w.heap.size 3 i0 (.int .i64 0) 1 8 Tryz.underlying99 hi hz0 hz1 hz2 rfl (by decide) _ _ _ rfl (hown.alloc _) ⟨wr.heap.size, 0, none⟩ 1 1 [.int .i64 (m % 1000000)] rfl rfl ?c1 ?c2 ?c3 ?c4 ?c5 ?_))
      case c1 => exact cell_one_new _ _ _
      case c2 => intro u hu; simp at hu; subst hu; rfl
      case c3 => unfold maxLen; omega
      case c4 => omega
      case c5 => simp; omega
      · intro v' w1 hown' hgrow _
        have hB : Below w.heap.size w w1 := (hb.alloc hsz _).grown hgrow (by simp; omega) (fun k e => (hown.lt k e).1)
        have hne : L ++ [m % 1000000] ≠ [] := by simp
        clear hgrow hown
        go_wp2
        go_roundw
        case rel => exact ⟨m / 1000000, L ++ [m % 1000000], rfl, by omega, by omega, (unhide HS).1, (unhide HS).2.1, (unhide HS).2.2, by simp; omega, fun h => absurd h hne, by simpa using hown', hB⟩
        case measure => simp [intOf]; omega
    · have hm : m = 0 := by omega
      have hv : val L = n := by rw [hm] at he; simpa using he
      have HV := hide hv
      have HT := hide (ht hm)
      clear hv he ht hm
      go_wp2
      go_ret
      exact ⟨_, rfl, L, hown, hd, unhide HT, unhide HV, hl, hnil, hb⟩
end Go.Proofs.YtfonpobdnhifgamGreatDoor
namespace Go.Proofs.YtfonpobdnhifgamGreatDoor
open Go.RowKit

theorem own_cell {w : World} {base g cap : Nat} {L : List Int} (h : w.ownsRow base 3 1 (.slice (some ⟨g, 0, none⟩) L.length cap) L.length (L.map (Value.int .i64))) (j : Nat) (hj : j < L.length) :
    w.cell? ⟨g, j, none⟩ = some (.int .i64 (L.getD j 0)) := by
  rw [h.cellAt j (by omega), List.getElem?_map, List.getElem?_eq_getElem hj, List.getD_eq_getElem?_getD, List.getElem?_eq_getElem hj]; rfl
theorem own_cap {w : World} {base g cap n : Nat} {xs : List Value} (h : w.ownsRow base 3 1 (.slice (some ⟨g, 0, none⟩) n cap) n xs) : n ≤ cap ∧ cap ≤ maxLen ∧ base ≤ g ∧ g < w.heap.size := by
  have hl := h.lt g rfl
  rcases h.2 with ⟨h1, _⟩ | ⟨g', cap', cur, e, _, _, h3, h4, _⟩
  · cases h1
  · cases e; exact ⟨h3, h4, hl⟩
theorem own_take {w : World} {base g cap : Nat} {L : List Int} (h : w.ownsRow base 3 1 (.slice (some ⟨g, 0, none⟩) L.length cap) L.length (L.map (Value.int .i64))) (m : Nat) (hm : m ≤ L.length) :
    w.ownsRow base 3 1 (.slice (some ⟨g, 0, none⟩) (L.take m).length cap) (L.take m).length ((L.take m).map (Value.int .i64)) := by
  have el : (L.take m).length = m := by simp [hm]
  rcases h.2 with ⟨h1, _⟩ | ⟨g', cap', cur, e, hb, hg, h3, h4, h5, h6⟩
  · cases h1
  · cases e
    refine ⟨by simp, .inr ⟨g, cap, cur, rfl, hb, hg, by omega, h4, h5, ?_⟩⟩
    rw [el, Nat.mul_one, List.map_take, ← h6, Nat.mul_one, List.take_take, Nat.min_eq_left hm]

set_option maxHeartbeats 400000 in
theorem trimmed_any (base g cap : Nat) (L : List Int) (w : World) (hlen : L.length ≤ 1000000)
    (hown : w.ownsRow base 3 1 (.slice (some ⟨g, 0, none⟩) L.length cap) L.length (L.map (Value.int .i64))) :
    Calls Tryz.prog 73 #[.slice (some ⟨g, 0, none⟩) L.length cap] w fun e w' => ∃ m : Nat, m ≤ L.length ∧ e = .returned (.slice (some ⟨g, 0, none⟩) m cap) ∧ (∀ i, m ≤ i → L.getD i 0 = 0) ∧ (m = 0 ∨ L.getD (m - 1) 0 ≠ 0) ∧ w' = w := by
  have hcap := (own_cap hown).1
  have HC := hide (own_cell hown)
  clear hown
  go_enter Tryz.func73, Tryz.ntmps73
  go_wp2
  go_loop [3] (fun x => ∃ m : Nat, m ≤ L.length ∧ x = .int .i64 m ∧ ∀ i, m ≤ i → L.getD i 0 = 0) (fun x => (intOf x).toNat)
  case atStart => exact ⟨L.length, Nat.le_refl _, rfl, fun i hi => by rw [List.getD_eq_getElem?_getD, List.getElem?_eq_none hi]; rfl⟩
  case round =>
    obtain ⟨m, hm, rfl, hz⟩ := hrel
    have HZ := hide hz
    clear hz
    cases m with
    | zero =>
      go_wp2
      go_ret
      exact ⟨0, Nat.zero_le _, rfl, unhide HZ, Or.inl rfl, rfl⟩
    | succ k =>
      have hc := unhide HC k (by omega)
      have hkb : (k : Int) ≤ 1000000 := by omega
      have hkc : (k : Int) + 1 ≤ cap := by omega
      generalize hd : L.getD k 0 = d at hc
      have HD := hide hd
      clear hd
      by_cases h0 : d = 0
      · have hb0 : (d == 0) = true := by simp [h0]
        have H0 := hide h0
        clear h0
        go_wp2
        refine ⟨⟨k, by omega, rfl, fun i hi => ?_⟩, by simp [intOf]⟩
        by_cases e : i = k
        · rw [e, unhide HD, unhide H0]
        · exact unhide HZ i (by omega)
      · have hb0 : (d == 0) = false := by simp [h0]
        go_wp2
        go_ret
        exact ⟨k + 1, hm, rfl, unhide HZ, Or.inr (by rw [Nat.add_sub_cancel]; intro e; exact h0 (by rw [← unhide HD]; exact e)), rfl⟩
end Go.Proofs.YtfonpobdnhifgamGreatDoor
namespace Go.Proofs.YtfonpobdnhifgamGreatDoor
open Go.RowKit

/-- The state of the inner round: out, what is carried. -/
structure MulIn (A B O : List Int) (i k : Nat) (c : Int) : Prop where
  len : O.length = A.length + B.length
  digs : Digs O
  c0 : 0 ≤ c
  c1 : c < 1000000
  rest : ∀ j, i + B.length ≤ j → O.getD j 0 = 0
  sum : val O + c * pw (i + k) = val (A.take i) * val B + A.getD i 0 * pw i * val (B.take k)
structure MulOut (A B O : List Int) (i : Nat) : Prop where
  len : O.length = A.length + B.length
  digs : Digs O
  rest : ∀ j, i + B.length ≤ j → O.getD j 0 = 0
  sum : val O = val (A.take i) * val B

theorem MulOut.start (A B : List Int) : MulOut A B (List.replicate (A.length + B.length) 0) 0 where
  len := by simp
  digs := fun d hd => by rw [List.mem_replicate] at hd; omega
  rest := fun j _ => by
    rw [List.getD_eq_getElem?_getD, List.getElem?_replicate]; split <;> rfl
  sum := by
    have : val (List.replicate (A.length + B.length) 0) = 0 := val_noughts _ (fun i => by rw [List.getD_eq_getElem?_getD, List.getElem?_replicate]; split <;> rfl)
    simp [this, val]
theorem MulOut.enter {A B O : List Int} {i : Nat} (h : MulOut A B O i) : MulIn A B O i 0 0 := ⟨h.len, h.digs, by omega, by omega, h.rest, by simp [h.sum, val]⟩
theorem MulIn.bound {A B O : List Int} {i k : Nat} {c : Int} (h : MulIn A B O i k c) (hA : Digs A) (hB : Digs B) :
    0 ≤ c + O.getD (i + k) 0 + A.getD i 0 * B.getD k 0 ∧ c + O.getD (i + k) 0 + A.getD i 0 * B.getD k 0 < 1000000000000 ∧ 0 ≤ A.getD i 0 * B.getD k 0 ∧ A.getD i 0 * B.getD k 0 ≤ 999998000001 := by
  have a := digs_getD hA i
  have b := digs_getD hB k
  have o := digs_getD h.digs (i + k)
  have p := h.c0
  have q := h.c1
  have m1 : 0 ≤ A.getD i 0 * B.getD k 0 := Int.mul_nonneg a.1 b.1
  have m2 : A.getD i 0 * B.getD k 0 ≤ 999999 * 999999 := Int.mul_le_mul (by omega) (by omega) b.1 (by omega)
  omega
theorem MulIn.step {A B O : List Int} {i k : Nat} {c : Int} (h : MulIn A B O i k c) (hA : Digs A) (hB : Digs B) (hi : i < A.length) (hk : k < B.length) (t : Int) (ht : t = c + O.getD (i + k) 0 + A.getD i 0 * B.getD k 0) :
    MulIn A B (O.set (i + k) (t % 1000000)) i (k + 1) (t / 1000000) := by
  have bd := h.bound hA hB
  rw [← ht] at bd
  have hl : i + k < O.length := by rw [h.len]; omega
  refine ⟨by simp [h.len], digs_set h.digs _ _ (by omega), by omega, by omega, fun j hj => ?_, ?_⟩
  · rw [set_getD _ _ _ _ hl, if_neg (by omega)]; exact h.rest j hj
  · rw [val_set _ _ _ hl, val_take_succ B k hk]
    exact mul_step (val O) c (pw (i + k)) (O.getD (i + k) 0) (A.getD i 0) (B.getD k 0) (t % 1000000) (t / 1000000) t _ _ (pw i) (pw k) (pw_add i k) h.sum ht (by omega)
theorem MulIn.leave {A B O : List Int} {i : Nat} {c : Int} (h : MulIn A B O i B.length c) (hi : i < A.length) : MulOut A B (O.set (i + B.length) c) (i + 1) := by
  have hl : i + B.length < O.length := by rw [h.len]; omega
  refine ⟨by simp [h.len], digs_set h.digs _ _ ⟨h.c0, h.c1⟩, fun j hj => ?_, ?_⟩
  · rw [set_getD _ _ _ _ hl, if_neg (by omega)]; exact h.rest j (by omega)
  · rw [val_set _ _ _ hl, h.rest _ (Nat.le_refl _), val_take_succ A i hi, Int.sub_zero, h.sum, List.take_length, Int.add_mul]
theorem MulOut.done {A B O : List Int} (h : MulOut A B O A.length) : val O = val A * val B := by rw [h.sum, List.take_length]

theorem trimmed_n (base g cap n : Nat) (L : List Int) (w : World) (hn : L.length = n) (hlen : n ≤ 1000000)
    (hown : w.ownsRow base 3 1 (.slice (some ⟨g, 0, none⟩) n cap) n (L.map (Value.int .i64))) :
    Calls Tryz.prog 73 #[.slice (some ⟨g, 0, none⟩) n cap] w fun e w' => ∃ m : Nat, m ≤ L.length ∧ e = .returned (.slice (some ⟨g, 0, none⟩) m cap) ∧ (∀ i, m ≤ i → L.getD i 0 = 0) ∧ (m = 0 ∨ L.getD (m - 1) 0 ≠ 0) ∧ w' = w := by
  subst hn
  exact trimmed_any base g cap L w hlen hown

set_option maxHeartbeats 1000000 in
theorem bigMul_any (ga ca gb cb : Nat) (A B : List Int) (w : World) (hlA : A.length ≤ 1000) (hlB : B.length ≤ 1000) (hdA : Digs A) (hdB : Digs B)
    (cA : ∀ i, i < A.length → w.cell? ⟨ga, i, none⟩ = some (.int .i64 (A.getD i 0))) (cB : ∀ i, i < B.length → w.cell? ⟨gb, i, none⟩ = some (.int .i64 (B.getD i 0)))
    (zA : ga < w.heap.size) (zB : gb < w.heap.size) :
    Calls Tryz.prog 43 #[.slice (some ⟨ga, 0, none⟩) A.length ca, .slice (some ⟨gb, 0, none⟩) B.length cb] w fun e w' => ∃ v : Value, e = .returned v ∧ ∃ (g cap : Nat) (L : List Int), v = .slice (some ⟨g, 0, none⟩) L.length cap ∧ w'.ownsRow w.heap.size 3 1 v L.length (L.map (Value.int .i64)) ∧ Digs L ∧ Top L ∧ val L = val A * val B ∧ L.length ≤ 2000 ∧ Below w.heap.size w w' := by
  obtain ⟨i0, hi, hz0, hz1, hz2⟩ := info_parts info3
  have HA := hide cA
  have HB := hide cB
  have hdA' := hide hdA
  have hdB' := hide hdB
  clear cA cB hdA hdB
  go_enter Tryz.func43, Tryz.ntmps43
  go_wp2_with (first
    | (at_make; refine wpList_make_full _ rfl (.tmp 13) (.tmp 13) 99 rfl w.heap.size 3 i0 (.int .i64 0) 1 Tryz.underlying99 hi hz0 hz1 .i64 .i64 _ _ (A.length + B.length) rfl rfl (by go_num) (by go_num) (by rw [hz2]; omega) (by unfold maxLen; omega) (Nat.le_refl _) ?_))
  intro w1 hown hgrow
  have hl : (List.replicate (A.length + B.length) (0 : Int)).length = A.length + B.length := by simp
  have hown1 : w1.ownsRow w.heap.size 3 1 (.slice (some ⟨w.heap.size, 0, none⟩) (A.length + B.length) (A.length + B.length)) (A.length + B.length) ((List.replicate (A.length + B.length) (0 : Int)).map (Value.int .i64)) := by
    have e : (madeCells #[Value.int .i64 0] (A.length + B.length)).toList = (List.replicate (A.length + B.length) (0 : Int)).map (Value.int .i64) := by
      rw [List.map_replicate]; exact toList_madeCells_one _ _
    rw [← e]; exact hown
  have hb1 : Below w.heap.size w w1 := (Below.refl _ _).grown hgrow (Nat.le_refl _) (fun k e => by cases e)
  have hO := MulOut.start A B
  generalize List.replicate (A.length + B.length) (0 : Int) = O0 at hown1 hO
  clear hown hgrow hl
  go_wp2
  go_loopw [6, 7, 8] (fun x _ _ wr => ∃ (i : Nat) (O : List Int), i ≤ A.length ∧ x = .int .i64 i ∧ MulOut A B O i ∧ wr.ownsRow w.heap.size 3 1 (.slice (some ⟨w.heap.size, 0, none⟩) (A.length + B.length) (A.length + B.length)) (A.length + B.length) (O.map (Value.int .i64)) ∧ Below w.heap.size w wr)
    (fun x _ _ _ => A.length - (intOf x).toNat)
  case atStart => exact ⟨0, O0, Nat.zero_le _, rfl, hO, hown1, hb1⟩
  case round =>
    obtain ⟨i, O, hiA, rfl, hM, hown, hb⟩ := hrel
    by_cases hlt : i < A.length
    · have hin := hM.enter
      clear hM hown1 hO hb1
      go_wp2
      go_loopw [7, 8] (fun c k wr' => ∃ (kk : Nat) (cc : Int) (O : List Int), kk ≤ B.length ∧ k = .int .i64 kk ∧ c = .int .i64 cc ∧ MulIn A B O i kk cc ∧ wr'.ownsRow w.heap.size 3 1 (.slice (some ⟨w.heap.size, 0, none⟩) (A.length + B.length) (A.length + B.length)) (A.length + B.length) (O.map (Value.int .i64)) ∧ Below w.heap.size w wr')
        (fun _ k _ => B.length - (intOf k).toNat)
      case atStart => exact ⟨0, 0, O, Nat.zero_le _, rfl, rfl, hin, hown, hb⟩
      case round =>
        obtain ⟨k, c, O', hkB, rfl, rfl, hI, hown', hb'⟩ := hrel
        by_cases hk : k < B.length
        · have hcA : wr.cell? ⟨ga, i, none⟩ = some (.int .i64 (A.getD i 0)) := by rw [hb'.cell zA]; exact unhide HA i hlt
          have hcB : wr.cell? ⟨gb, k, none⟩ = some (.int .i64 (B.getD k 0)) := by rw [hb'.cell zB]; exact unhide HB k hk
          have hlO : O'.length = A.length + B.length := hI.len
          have hown2 : wr.ownsRow w.heap.size 3 1 (.slice (some ⟨w.heap.size, 0, none⟩) O'.length (A.length + B.length)) O'.length (O'.map (Value.int .i64)) := by rw [hlO]; exact hown'
          have hcO := own_cell hown2 (i + k) (by omega)
          have hfO := hown'.frozenAt (i + k)
          have bd := hI.bound (unhide hdA') (unhide hdB')
          have ba := digs_getD (unhide hdA') i
          have bb := digs_getD (unhide hdB') k
          have bo := digs_getD hI.digs (i + k)
          have c0 := hI.c0
          have c1 := hI.c1
          have ST := hide (fun t ht => hI.step (unhide hdA') (unhide hdB') hlt hk t ht)
          have HO := hide hown'
          generalize A.getD i 0 = a at hcA bd ba ST
          generalize B.getD k 0 = b at hcB bd bb ST
          generalize O'.getD (i + k) 0 = o at hcO bd bo ST
          obtain ⟨bd1, bd2, bd3, bd4⟩ := bd
          obtain ⟨ba1, ba2⟩ := ba
          obtain ⟨bb1, bb2⟩ := bb
          obtain ⟨bo1, bo2⟩ := bo
          clear hI hown' hown2 hlO
          go_wp2
          go_quiet (fail)
          go_wp2
          have hst := World.ownsRow.stored (w := wr.drewN nq) (unhide HO) (i + k) (.int .i64 ((c + o + a * b) % 1000000))
          rw [← List.map_set] at hst
          exact ⟨⟨k + 1, _, O'.set (i + k) ((c + o + a * b) % 1000000), by omega, by go_num, rfl, unhide ST _ rfl, hst.1, (below_drewN hb' nq).setCell (Nat.le_refl _) _⟩, by simp [intOf]; omega⟩
        · obtain rfl : k = B.length := by omega
          have hlO : O'.length = A.length + B.length := hI.len
          have hown2 : wr.ownsRow w.heap.size 3 1 (.slice (some ⟨w.heap.size, 0, none⟩) O'.length (A.length + B.length)) O'.length (O'.map (Value.int .i64)) := by rw [hlO]; exact hown'
          have hcO := own_cell hown2 (i + B.length) (by omega)
          have hfO := hown'.frozenAt (i + B.length)
          have c0 := hI.c0
          have c1 := hI.c1
          have LV := hide (hI.leave hlt)
          have HO := hide hown'
          clear hI hown' hown2 hlO
          go_wp2
          have hst := World.ownsRow.stored (unhide HO) (i + B.length) (.int .i64 c)
          rw [← List.map_set] at hst
          exact ⟨⟨i + 1, O'.set (i + B.length) c, by omega, by go_num, unhide LV, hst.1, hb'.setCell (Nat.le_refl _) _⟩, by simp [intOf]; omega⟩
    · obtain rfl : i = A.length := by omega
      have hlO : O.length = A.length + B.length := hM.len
      go_wp2_with (go_at_call 73; refine (trimmed_n w.heap.size w.heap.size (A.length + B.length) (A.length + B.length) O _ hlO (by omega) hown).mono ?_; rintro e w' ⟨m, hm, rfl, hz, ht, rfl⟩)
      go_ret
      refine ⟨_, rfl, w.heap.size, A.length + B.length, O.take m, ?_, ?_, digs_take hM.digs m, top_take hm ht, ?_, ?_, hb⟩
      · simp [hm]
      · have h2 := own_take (L := O) (cap := A.length + B.length) (by rw [hlO]; exact hown) m hm
        have el : (O.take m).length = m := by simp [hm]
        rw [el] at h2 ⊢
        exact h2
      · rw [val_trim O m hz, hM.done]
      · simp; omega
end Go.Proofs.YtfonpobdnhifgamGreatDoor
namespace Go.Proofs.YtfonpobdnhifgamGreatDoor

theorem val_lt_pw (L : List Int) (h : Digs L) : val L < pw L.length := by
  induction L with
  | nil => simp [val, pw]
  | cons d r ih =>
    have h1 := h d (by simp)
    have h2 := ih (fun x hx => h x (by simp [hx]))
    simp only [val, List.length_cons, pw]
    omega
theorem pw_le {i k : Nat} (h : i ≤ k) : pw i ≤ pw k := by
  obtain ⟨j, rfl⟩ := Nat.exists_eq_add_of_le h
  rw [pw_add]
  have a := pw_pos i
  have b := pw_pos j
  have : pw i * 1 ≤ pw i * pw j := Int.mul_le_mul_of_nonneg_left (by omega) (by omega)
  omega
theorem val_ge_pw {L : List Int} {k : Nat} (hd : Digs L) (ht : Top L) (hl : L.length = k + 1) : pw k ≤ val L := by
  have e : val L = val (L.take k) + L.getD k 0 * pw k := by
    rw [← val_take_succ L k (by omega), ← hl, List.take_length]
  have h1 := val_nonneg (L.take k) (digs_take hd k)
  have h2 := (digs_getD hd k).1
  have h3 := ht k hl
  have h4 := pw_pos k
  have h5 : 1 * pw k ≤ L.getD k 0 * pw k := Int.mul_le_mul_of_nonneg_right (by omega) (by omega)
  omega
/-- the longer is the greater. -/
theorem val_lt_len {A B : List Int} (hA : Digs A) (hB : Digs B) (tB : Top B) (h : A.length < B.length) : val A < val B := by
  obtain ⟨k, hk⟩ : ∃ k, B.length = k + 1 := ⟨B.length - 1, by omega⟩
  have h1 := val_lt_pw A hA
  have h2 := pw_le (show A.length ≤ k by omega)
  have h3 := val_ge_pw hB tB hk
  omega
theorem val_split (A : List Int) (i : Nat) (h : i ≤ A.length) : val A = val (A.take i) + pw i * val (A.drop i) := by
  have e := val_append (A.take i) (A.drop i)
  rw [List.take_append_drop, List.length_take, Nat.min_eq_left h] at e
  exact e
theorem drop_same {A B : List Int} (hl : A.length = B.length) {i : Nat} (h : ∀ j, i ≤ j → A.getD j 0 = B.getD j 0) : A.drop i = B.drop i := by
  refine List.ext_getElem? (fun j => ?_)
  rw [List.getElem?_drop, List.getElem?_drop]
  have e := h (i + j) (by omega)
  rw [List.getD_eq_getElem?_getD, List.getD_eq_getElem?_getD] at e
  by_cases hj : i + j < A.length
  · rw [List.getElem?_eq_getElem hj, List.getElem?_eq_getElem (by omega)] at e ⊢
    exact congrArg some e
  · rw [List.getElem?_eq_none (by omega), List.getElem?_eq_none (by omega)]
/-- the first digit from the top that differs tells. -/
theorem val_lt_digit {A B : List Int} (hA : Digs A) (hB : Digs B) (hl : A.length = B.length) {i : Nat} (hi : i < A.length) (h : ∀ j, i + 1 ≤ j → A.getD j 0 = B.getD j 0) (hd : A.getD i 0 < B.getD i 0) : val A < val B := by
  have e1 := val_split A (i + 1) (by omega)
  have e2 := val_split B (i + 1) (by omega)
  rw [drop_same hl h] at e1
  rw [val_take_succ A i hi] at e1
  rw [val_take_succ B i (by omega)] at e2
  have a1 := val_lt_pw (A.take i) (digs_take hA i)
  rw [List.length_take, Nat.min_eq_left (by omega)] at a1
  have a2 := val_nonneg (B.take i) (digs_take hB i)
  have a3 : (A.getD i 0 + 1) * pw i ≤ B.getD i 0 * pw i := Int.mul_le_mul_of_nonneg_right (by omega) (Int.le_of_lt (pw_pos i))
  rw [Int.add_mul] at a3
  omega
theorem val_same {A B : List Int} (hl : A.length = B.length) (h : ∀ j, A.getD j 0 = B.getD j 0) : val A = val B := by
  have := drop_same hl (i := 0) (fun j _ => h j)
  simp at this
  rw [this]
theorem nil_of_val {L : List Int} (hd : Digs L) (ht : Top L) (h : val L = 0) : L = [] := by
  cases L with
  | nil => rfl
  | cons d r => have := val_pos _ hd ht (by simp); omega
theorem val_nil_iff {L : List Int} (hd : Digs L) (ht : Top L) : L.length = 0 ↔ val L = 0 := by
  constructor
  · intro h
    rw [List.length_eq_zero_iff.1 h]
    rfl
  · intro h
    rw [nil_of_val hd ht h]
    rfl
/-- -1, 0, 1. -/
def cmp3 (a b : Int) : Int := if a < b then -1 else if b < a then 1 else 0
theorem cmp3_lt {a b : Int} (h : a < b) : cmp3 a b = -1 := by unfold cmp3; rw [if_pos h]
theorem cmp3_gt {a b : Int} (h : b < a) : cmp3 a b = 1 := by unfold cmp3; rw [if_neg (by omega), if_pos h]
theorem cmp3_eq {a b : Int} (h : a = b) : cmp3 a b = 0 := by unfold cmp3; rw [if_neg (by omega), if_neg (by omega)]
end Go.Proofs.YtfonpobdnhifgamGreatDoor
namespace Go.Proofs.YtfonpobdnhifgamGreatDoor
open Go Go.RowKit

/-- a row of digits in memory, or none. -/
structure BigV (w : World) (ad : Option Addr) (L : List Int) : Prop where
  dg : Digs L
  tp : Top L
  at_ : ∀ i, i < L.length → ∃ g, ad = some ⟨g, 0, none⟩ ∧ g < w.heap.size ∧ w.cell? ⟨g, i, none⟩ = some (.int .i64 (L.getD i 0))
theorem BigV.below {w v : World} {ad : Option Addr} {L : List Int} (h : BigV w ad L) (k : Below w.heap.size w v) : BigV v ad L := ⟨h.dg, h.tp, fun i hi => by
  obtain ⟨g, e, hg, hc⟩ := h.at_ i hi
  exact ⟨g, e, Nat.lt_of_lt_of_le hg k.size, (k.cell (p := ⟨g, i, none⟩) hg).trans hc⟩⟩
theorem own_bigV {w : World} {base : Nat} {v : Value} {L : List Int} (h : w.ownsRow base 3 1 v L.length (L.map (Value.int .i64))) (hd : Digs L) (ht : Top L) : ∃ ad cap, v = .slice ad L.length cap ∧ BigV w ad L := by
  have h' := h
  rcases h.2 with ⟨h1, h2⟩ | ⟨g, cap, cur, e, h3⟩
  · have e : L = [] := List.length_eq_zero_iff.1 h2
    subst e
    exact ⟨none, 0, h1, hd, ht, fun i hi => absurd hi (Nat.not_lt_zero i)⟩
  · subst e
    exact ⟨_, cap, rfl, hd, ht, fun i hi => ⟨g, rfl, (own_cap h').2.2.2, own_cell h' i hi⟩⟩
theorem bigOfV (n : Int) (w : World) (h0 : 0 ≤ n) (h1 : n ≤ 9223372036854775807) :
    Calls Tryz.prog 45 #[.int .i64 n] w fun e w' => ∃ ad cap L, e = .returned (.slice ad L.length cap) ∧ BigV w' ad L ∧ val L = n ∧ L.length ≤ 4 ∧ Below w.heap.size w w' := by
  refine (bigOf_any n w h0 h1).mono ?_
  rintro e w' ⟨v, rfl, L, hown, hd, ht, hv, hl, _, hb⟩
  obtain ⟨ad, cap, rfl, hB⟩ := own_bigV hown hd ht
  exact ⟨ad, cap, L, rfl, hB, hv, hl, hb⟩
set_option maxHeartbeats 1000000 in
theorem bigMulV (adA adB : Option Addr) (ca cb : Nat) (A B : List Int) (w : World) (hlA : A.length ≤ 1000) (hlB : B.length ≤ 1000) (hA : BigV w adA A) (hB : BigV w adB B) :
    Calls Tryz.prog 43 #[.slice adA A.length ca, .slice adB B.length cb] w fun e w' => ∃ ad cap L, e = .returned (.slice ad L.length cap) ∧ BigV w' ad L ∧ val L = val A * val B ∧ L.length ≤ A.length + B.length ∧ Below w.heap.size w w' := by
  obtain ⟨i0, hi, hz0, hz1, hz2⟩ := info_parts info3
  have HA := hide hA.at_
  have HB := hide hB.at_
  have hdA' := hide hA.dg
  have hdB' := hide hB.dg
  clear hA hB
  go_enter Tryz.func43, Tryz.ntmps43
  go_wp2_with (first
    | (at_make; refine wpList_make_full _ rfl (.tmp 13) (.tmp 13) 99 rfl w.heap.size 3 i0 (.int .i64 0) 1 Tryz.underlying99 hi hz0 hz1 .i64 .i64 _ _ (A.length + B.length) rfl rfl (by go_num) (by go_num) (by rw [hz2]; omega) (by unfold maxLen; omega) (Nat.le_refl _) ?_))
  intro w1 hown hgrow
  have hl : (List.replicate (A.length + B.length) (0 : Int)).length = A.length + B.length := by simp
  have hown1 : w1.ownsRow w.heap.size 3 1 (.slice (some ⟨w.heap.size, 0, none⟩) (A.length + B.length) (A.length + B.length)) (A.length + B.length) ((List.replicate (A.length + B.length) (0 : Int)).map (Value.int .i64)) := by
    have e : (madeCells #[Value.int .i64 0] (A.length + B.length)).toList = (List.replicate (A.length + B.length) (0 : Int)).map (Value.int .i64) := by
      rw [List.map_replicate]; exact toList_madeCells_one _ _
    rw [← e]; exact hown
  have hb1 : Below w.heap.size w w1 := (Below.refl _ _).grown hgrow (Nat.le_refl _) (fun k e => by cases e)
  have hO := MulOut.start A B
  generalize List.replicate (A.length + B.length) (0 : Int) = O0 at hown1 hO
  clear hown hgrow hl
  go_wp2
  go_loopw [6, 7, 8] (fun x _ _ wr => ∃ (i : Nat) (O : List Int), i ≤ A.length ∧ x = .int .i64 i ∧ MulOut A B O i ∧ wr.ownsRow w.heap.size 3 1 (.slice (some ⟨w.heap.size, 0, none⟩) (A.length + B.length) (A.length + B.length)) (A.length + B.length) (O.map (Value.int .i64)) ∧ Below w.heap.size w wr)
    (fun x _ _ _ => A.length - (intOf x).toNat)
  case atStart => exact ⟨0, O0, Nat.zero_le _, rfl, hO, hown1, hb1⟩
  case round =>
    obtain ⟨i, O, hiA, rfl, hM, hown, hb⟩ := hrel
    by_cases hlt : i < A.length
    · have hin := hM.enter
      clear hM hown1 hO hb1
      go_wp2
      go_loopw [7, 8] (fun c k wr' => ∃ (kk : Nat) (cc : Int) (O : List Int), kk ≤ B.length ∧ k = .int .i64 kk ∧ c = .int .i64 cc ∧ MulIn A B O i kk cc ∧ wr'.ownsRow w.heap.size 3 1 (.slice (some ⟨w.heap.size, 0, none⟩) (A.length + B.length) (A.length + B.length)) (A.length + B.length) (O.map (Value.int .i64)) ∧ Below w.heap.size w wr')
        (fun _ k _ => B.length - (intOf k).toNat)
      case atStart => exact ⟨0, 0, O, Nat.zero_le _, rfl, rfl, hin, hown, hb⟩
      case round =>
        obtain ⟨k, c, O', hkB, rfl, rfl, hI, hown', hb'⟩ := hrel
        by_cases hk : k < B.length
        · obtain ⟨ga, rfl, zA, cA⟩ := unhide HA i hlt
          obtain ⟨gb, rfl, zB, cB⟩ := unhide HB k hk
          have hcA : wr.cell? ⟨ga, i, none⟩ = some (.int .i64 (A.getD i 0)) := by rw [hb'.cell zA]; exact cA
          have hcB : wr.cell? ⟨gb, k, none⟩ = some (.int .i64 (B.getD k 0)) := by rw [hb'.cell zB]; exact cB
          clear cA cB
          have hlO : O'.length = A.length + B.length := hI.len
          have hown2 : wr.ownsRow w.heap.size 3 1 (.slice (some ⟨w.heap.size, 0, none⟩) O'.length (A.length + B.length)) O'.length (O'.map (Value.int .i64)) := by rw [hlO]; exact hown'
          have hcO := own_cell hown2 (i + k) (by omega)
          have hfO := hown'.frozenAt (i + k)
          have bd := hI.bound (unhide hdA') (unhide hdB')
          have ba := digs_getD (unhide hdA') i
          have bb := digs_getD (unhide hdB') k
          have bo := digs_getD hI.digs (i + k)
          have c0 := hI.c0
          have c1 := hI.c1
          have ST := hide (fun t ht => hI.step (unhide hdA') (unhide hdB') hlt hk t ht)
          have HO := hide hown'
          generalize A.getD i 0 = a at hcA bd ba ST
          generalize B.getD k 0 = b at hcB bd bb ST
          generalize O'.getD (i + k) 0 = o at hcO bd bo ST
          obtain ⟨bd1, bd2, bd3, bd4⟩ := bd
          obtain ⟨ba1, ba2⟩ := ba
          obtain ⟨bb1, bb2⟩ := bb
          obtain ⟨bo1, bo2⟩ := bo
          clear hI hown' hown2 hlO
          go_wp2
          go_quiet (fail)
          go_wp2
          have hst := World.ownsRow.stored (w := wr.drewN nq) (unhide HO) (i + k) (.int .i64 ((c + o + a * b) % 1000000))
          rw [← List.map_set] at hst
          exact ⟨⟨k + 1, _, O'.set (i + k) ((c + o + a * b) % 1000000), by omega, by go_num, rfl, unhide ST _ rfl, hst.1, (below_drewN hb' nq).setCell (Nat.le_refl _) _⟩, by simp [intOf]; omega⟩
        · obtain rfl : k = B.length := by omega
          have hlO : O'.length = A.length + B.length := hI.len
          have hown2 : wr.ownsRow w.heap.size 3 1 (.slice (some ⟨w.heap.size, 0, none⟩) O'.length (A.length + B.length)) O'.length (O'.map (Value.int .i64)) := by rw [hlO]; exact hown'
          have hcO := own_cell hown2 (i + B.length) (by omega)
          have hfO := hown'.frozenAt (i + B.length)
          have c0 := hI.c0
          have c1 := hI.c1
          have LV := hide (hI.leave hlt)
          have HO := hide hown'
          clear hI hown' hown2 hlO
          go_wp2
          have hst := World.ownsRow.stored (unhide HO) (i + B.length) (.int .i64 c)
          rw [← List.map_set] at hst
          exact ⟨⟨i + 1, O'.set (i + B.length) c, by omega, by go_num, unhide LV, hst.1, hb'.setCell (Nat.le_refl _) _⟩, by simp [intOf]; omega⟩
    · obtain rfl : i = A.length := by omega
      have hlO : O.length = A.length + B.length := hM.len
      go_wp2_with (go_at_call 73; refine (trimmed_n w.heap.size w.heap.size (A.length + B.length) (A.length + B.length) O _ hlO (by omega) hown).mono ?_; rintro e w' ⟨m, hm, rfl, hz, ht, rfl⟩)
      go_ret
      have el : (O.take m).length = m := by simp [hm]
      have h2 := own_take (L := O) (cap := A.length + B.length) (by rw [hlO]; exact hown) m hm
      refine ⟨some ⟨w.heap.size, 0, none⟩, A.length + B.length, O.take m, by rw [el]; rfl, ⟨digs_take hM.digs m, top_take hm ht, fun j hj => ⟨w.heap.size, rfl, (own_cap hown).2.2.2, own_cell h2 j hj⟩⟩, ?_, by omega, hb⟩
      rw [val_trim O m hz, hM.done]
set_option maxHeartbeats 400000 in
theorem bigCmpV (adA adB : Option Addr) (ca cb : Nat) (A B : List Int) (w : World) (hlA : A.length ≤ 1000000) (hA : BigV w adA A) (hB : BigV w adB B) :
    Calls Tryz.prog 46 #[.slice adA A.length ca, .slice adB B.length cb] w fun e w' => e = .returned (.int .i64 (cmp3 (val A) (val B))) ∧ Below w.heap.size w w' := by
  have HL1 := hide (fun h => cmp3_lt (val_lt_len hA.dg hB.dg hB.tp h))
  have HL2 := hide (fun h => cmp3_gt (val_lt_len hB.dg hA.dg hA.tp h))
  have HD1 := hide (fun (hl : A.length = B.length) i (hi : i < A.length) h hd => cmp3_lt (val_lt_digit hA.dg hB.dg hl hi h hd))
  have HD2 := hide (fun (hl : A.length = B.length) i (hi : i < B.length) (h : ∀ j, i + 1 ≤ j → A.getD j 0 = B.getD j 0) hd => cmp3_gt (val_lt_digit hB.dg hA.dg hl.symm hi (fun j hj => (h j hj).symm) hd))
  have HD0 := hide (fun (hl : A.length = B.length) h => cmp3_eq (val_same hl h))
  have HA := hide hA.at_
  have HB := hide hB.at_
  clear hA hB
  generalize cmp3 (val A) (val B) = R at *
  by_cases h1 : A.length < B.length
  · obtain rfl := unhide HL1 h1
    go_enter Tryz.func46, Tryz.ntmps46
    go_wp2
    go_ret
    exact ⟨rfl, Below.refl _ _⟩
  by_cases h2 : B.length < A.length
  · obtain rfl := unhide HL2 h2
    go_enter Tryz.func46, Tryz.ntmps46
    go_wp2
    go_ret
    exact ⟨rfl, Below.refl _ _⟩
  have hl : A.length = B.length := by omega
  have HL := hide hl
  have hbe : ((A.length : Int) != (B.length : Int)) = false := by simp [hl]
  clear HL1 HL2 hl
  go_enter Tryz.func46, Tryz.ntmps46
  go_wp2
  go_loopw [5] (fun x wr => ∃ i : Nat, i ≤ A.length ∧ x = .int .i64 ((i : Int) - 1) ∧ Hid (∀ j, i ≤ j → A.getD j 0 = B.getD j 0) ∧ Below w.heap.size w wr) (fun x _ => (intOf x + 1).toNat)
  case atStart =>
    refine ⟨A.length, Nat.le_refl _, rfl, hide (fun j hj => ?_), Below.refl _ _⟩
    have := unhide HL
    rw [List.getD_eq_getElem?_getD, List.getD_eq_getElem?_getD, List.getElem?_eq_none (by omega), List.getElem?_eq_none (by omega)]
  case round =>
    obtain ⟨i, hi, rfl, HS, hb⟩ := hrel
    cases i with
    | zero =>
      obtain rfl := unhide HD0 (unhide HL) (fun j => unhide HS j (Nat.zero_le _))
      go_wp2
      go_ret
      exact ⟨rfl, hb⟩
    | succ k =>
      have hkB : k < B.length := by have := unhide HL; omega
      obtain ⟨ga, rfl, zA, cA⟩ := unhide HA k (by omega)
      obtain ⟨gb, rfl, zB, cB⟩ := unhide HB k hkB
      have hcA : wr.cell? ⟨ga, k, none⟩ = some (.int .i64 (A.getD k 0)) := by rw [hb.cell zA]; exact cA
      have hcB : wr.cell? ⟨gb, k, none⟩ = some (.int .i64 (B.getD k 0)) := by rw [hb.cell zB]; exact cB
      have E1 := hide (unhide HD1 (unhide HL) k (by omega) (unhide HS))
      have E2 := hide (unhide HD2 (unhide HL) k hkB (unhide HS))
      have E0 : Hid (A.getD k 0 = B.getD k 0 → ∀ j, k ≤ j → A.getD j 0 = B.getD j 0) := fun e j hj => by
        by_cases h : j = k
        · rw [h]; exact e
        · exact unhide HS j (by omega)
      clear cA cB HS HD1 HD2 HD0 HA HB
      generalize A.getD k 0 = d at hcA E1 E2 E0
      generalize B.getD k 0 = c at hcB E1 E2 E0
      have hk1 : (k : Int) < A.length := by omega
      have hk2 : (k : Int) < B.length := by omega
      have ek : ((k + 1 : Nat) : Int) - 1 = (k : Int) := by omega
      rw [ek]
      clear ek
      by_cases q1 : d < c
      · obtain rfl := unhide E1 q1
        have b1 : decide (d < c) = true := decide_eq_true q1
        go_wp2
        go_quiet (fail)
        go_wp2
        go_ret
        exact ⟨rfl, below_drewN hb _⟩
      have b1 : decide (d < c) = false := decide_eq_false q1
      by_cases q2 : c < d
      · obtain rfl := unhide E2 q2
        have b2 : decide (c < d) = true := decide_eq_true q2
        go_wp2
        go_quiet (fail)
        go_wp2
        go_quiet (fail)
        go_wp2
        go_ret
        exact ⟨rfl, below_drewN (below_drewN hb _) _⟩
      have b2 : decide (c < d) = false := decide_eq_false q2
      have E3 := hide (unhide E0 (by omega))
      go_wp2
      go_quiet (fail)
      go_wp2
      go_quiet (fail)
      go_wp2
      exact ⟨⟨k, by omega, rfl, E3, below_drewN hb _⟩, by simp [intOf]⟩
end Go.Proofs.YtfonpobdnhifgamGreatDoor
