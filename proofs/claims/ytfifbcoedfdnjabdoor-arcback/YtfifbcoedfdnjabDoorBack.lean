/-
  Parse of print: an angle's texts as runes, and what is read of them. No program here.
-/
import Derived.Test.YtfifbcoedfdnjabDoorDegrees
import Derived.Test.YtfifbcoedfdnjabDoorReadWalk
import Derived.Lib.Strings
namespace Go.Proofs.YtfifbcoedfdnjabDoor
open Go.Lib

def num (b : UInt8) : Int := b.toNat
def RunsL (l : List UInt8) (R : List Int) : Prop := Runs (str l) R

theorem str_rest (x l : List UInt8) : (str (x ++ l)).extract x.length (str (x ++ l)).size = str l := by
  apply ByteArray.ext
  apply Array.ext'
  rw [extract_data, str_list, str_list, str_size, List.drop_left, List.length_append, Nat.add_sub_cancel_left, List.take_length]
theorem runs_put (x l : List UInt8) (r : Nat) (R : List Int) (hx : 0 < x.length) (hd : decodeGo (str (x ++ l)) = (r, x.length)) (h : RunsL l R) : RunsL (x ++ l) ((r : Int) :: R) := by
  have hs : 0 < (str (x ++ l)).size := by rw [str_size, List.length_append]; omega
  have := @Runs.more (str (x ++ l)) R hs (by rw [hd, str_rest]; exact h)
  rw [hd] at this
  exact this
theorem get0 (b : UInt8) (l : List UInt8) : (str (b :: l)).get! 0 = b := rfl
theorem get1 (b c : UInt8) (l : List UInt8) : (str (b :: c :: l)).get! 1 = c := rfl
theorem get2 (b c d : UInt8) (l : List UInt8) : (str (b :: c :: d :: l)).get! 2 = d := rfl
theorem go_is (b : UInt8) (l : List UInt8) : decodeGo (str (b :: l)) = decodeN (l.length + 1) b.toNat ((str (b :: l)).get! 1).toNat ((str (b :: l)).get! 2).toNat ((str (b :: l)).get! 3).toNat := by
  unfold decodeGo
  rw [if_neg (by rw [str_size]; simp), decode_at, get0, str_size]
  rfl
theorem runs_ascii (b : UInt8) (l : List UInt8) (R : List Int) (hb : b.toNat < 128) (h : RunsL l R) : RunsL (b :: l) (num b :: R) :=
  runs_put [b] l b.toNat R (by simp) (by
    show decodeGo (str (b :: l)) = _
    rw [go_is]
    unfold decodeN
    rw [if_pos hb]
    rfl) h
theorem runs_degree (l : List UInt8) (R : List Int) (h : RunsL l R) : RunsL ([194, 176] ++ l) (176 :: R) :=
  runs_put [194, 176] l 176 R (by decide) (by
    show decodeGo (str (194 :: 176 :: l)) = _
    rw [go_is, get1]
    unfold decodeN
    rw [if_neg (by decide), if_pos ⟨by decide, by simp, by decide⟩, if_pos (by decide)]
    rfl) h
theorem runs_minute (l : List UInt8) (R : List Int) (h : RunsL l R) : RunsL ([226, 128, 178] ++ l) (8242 :: R) :=
  runs_put [226, 128, 178] l 8242 R (by decide) (by
    show decodeGo (str (226 :: 128 :: 178 :: l)) = _
    rw [go_is, get1, get2]
    unfold decodeN
    rw [if_neg (by decide), if_neg (fun h => absurd h.1 (by decide)), if_pos ⟨by decide, ⟨by simp, by decide⟩, by simp, by decide⟩, if_pos (by decide)]
    rfl) h
theorem runs_second (l : List UInt8) (R : List Int) (h : RunsL l R) : RunsL ([226, 128, 179] ++ l) (8243 :: R) :=
  runs_put [226, 128, 179] l 8243 R (by decide) (by
    show decodeGo (str (226 :: 128 :: 179 :: l)) = _
    rw [go_is, get1, get2]
    unfold decodeN
    rw [if_neg (by decide), if_neg (fun h => absurd h.1 (by decide)), if_pos ⟨by decide, ⟨by simp, by decide⟩, by simp, by decide⟩, if_pos (by decide)]
    rfl) h

/-- all are digits. -/
def DigL (ds : List UInt8) : Prop := ∀ b ∈ ds, 48 ≤ b.toNat ∧ b.toNat ≤ 57
theorem runs_digits (ds l : List UInt8) (R : List Int) (hd : DigL ds) (h : RunsL l R) : RunsL (ds ++ l) (ds.map num ++ R) := by
  induction ds with
  | nil => exact h
  | cons b ds ih =>
    have hb := hd b (by simp)
    exact runs_ascii b _ _ (by omega) (ih (fun c hc => hd c (by simp [hc])))

def dv (n : Int) (ds : List Int) : Int := ds.foldl (fun a x => a * 10 + (x - 48)) n
theorem digs_all (ds : List UInt8) : ∀ (n : Int) (m : Nat) (rest : List Int), DigL ds → ds.length ≤ m → (m = ds.length ∨ (decide (48 ≤ hd rest) && decide (hd rest ≤ 57)) = false) → digs m n (ds.map num ++ rest) = (dv n (ds.map num), ds.length, rest) := by
  induction ds with
  | nil =>
    intro n m rest _ _ h
    rcases (show m = 0 ∨ ∃ j, m = j + 1 from (by cases m with | zero => exact .inl rfl | succ j => exact .inr ⟨j, rfl⟩)) with rfl | ⟨j, rfl⟩
    · rfl
    · rcases h with h | h
      · simp at h
      · exact digs_miss j n rest h
  | cons b ds ih =>
    intro n m rest hd hl h
    obtain ⟨j, rfl⟩ : ∃ j, m = j + 1 := ⟨m - 1, by simp at hl; omega⟩
    have hb := hd b (by simp)
    have hx : 48 ≤ num b ∧ num b ≤ 57 := by unfold num; omega
    rw [List.map_cons, List.cons_append, digs_hit _ _ _ _ hx, ih _ j rest (fun c hc => hd c (by simp [hc])) (by simp at hl; omega) (h.imp (fun e => by simp at e; omega) id)]
    rfl

theorem dig_range (n : Nat) : 48 ≤ (dig n).toNat ∧ (dig n).toNat ≤ 57 := by
  have := dig_nat n
  omega
theorem wide_dig (m : Nat) : ∀ n, DigL (wide m n) := by
  induction m with
  | zero => intro n b hb; cases hb
  | succ m ih =>
    intro n b hb
    rcases List.mem_append.1 hb with h | h
    · exact ih _ b h
    · rw [List.mem_singleton.1 h]; exact dig_range n
theorem dec_dig (n : Nat) : DigL (decDigits n) := by
  induction n using Nat.strongRecOn with
  | _ n ih =>
    intro b hb
    rw [decDigits] at hb
    split at hb
    · rename_i h
      have := dig_range n
      unfold dig at this
      rw [Nat.mod_eq_of_lt h] at this
      rw [List.mem_singleton.1 hb]
      exact this
    · rename_i h
      rcases List.mem_append.1 hb with h' | h'
      · exact ih _ (by omega) b h'
      · rw [List.mem_singleton.1 h']; exact dig_range n
theorem dv_snoc (n : Int) (ds : List UInt8) (k : Nat) : dv n ((ds ++ [dig k]).map num) = dv n (ds.map num) * 10 + (k : Int) % 10 := by
  unfold dv
  rw [List.map_append, List.foldl_append]
  simp only [List.map_cons, List.map_nil, List.foldl_cons, List.foldl_nil]
  have := dig_nat k
  unfold num
  omega
theorem dv_wide (m : Nat) : ∀ n : Nat, n < 10 ^ m → dv 0 ((wide m n).map num) = n := by
  induction m with
  | zero => intro n h; simp at h; subst h; rfl
  | succ m ih =>
    intro n h
    rw [wide, dv_snoc, ih (n / 10) (by rw [Nat.pow_succ] at h; omega)]
    omega
theorem dv_dec (n : Nat) : dv 0 ((decDigits n).map num) = n := by
  induction n using Nat.strongRecOn with
  | _ n ih =>
    rw [decDigits]
    split
    · rename_i h
      have e : UInt8.ofNat (48 + n) = dig n := by unfold dig; rw [Nat.mod_eq_of_lt h]
      rw [e]
      have := dv_snoc 0 [] n
      simp only [List.nil_append] at this
      rw [this]
      simp [dv]
      omega
    · rename_i h
      have e : UInt8.ofNat (48 + n % 10) = dig n := rfl
      rw [e, dv_snoc, ih _ (by omega)]
      omega

theorem not_dig {x : Int} {L : List Int} (h : ¬ (48 ≤ x ∧ x ≤ 57)) : (decide (48 ≤ hd (x :: L)) && decide (hd (x :: L) ≤ 57)) = false := by
  rw [show hd (x :: L) = x from rfl, ← Bool.decide_and]
  exact decide_eq_false h
theorem two_is (n : Nat) (k : Nat) (rest : List Int) (h : n < 60) : twoP ((wide 2 n).map num ++ rest) k = .got n rest (k + 2) := by
  rw [twoP_digs, digs_all (wide 2 n) 0 2 rest (wide_dig 2 n) (by rw [wide_length]; omega) (.inl (by rw [wide_length])), dv_wide 2 n (by omega), wide_length]
  simp only
  rw [if_neg (by omega)]
  unfold upTo
  rw [if_neg (by omega)]
theorem mic_is (n : Nat) (k : Nat) (rest : List Int) (h : n < 1000000) : micP ((wide 6 n).map num ++ rest) k = .got n rest (k + 6) := by
  unfold micP numP
  rw [digs_all (wide 6 n) 0 6 rest (wide_dig 6 n) (by rw [wide_length]; omega) (.inl (by rw [wide_length])), dv_wide 6 n (by omega), wide_length]
  simp only
  rw [if_neg (by omega)]
  simp only
  rw [show k + 6 - k = 6 by omega]
  simp [pad]
theorem need_is (c : Int) (L : List Int) (k : Nat) : needP c (c :: L) k = .got 0 L (k + 1) := by simp [needP]

/-- minutes and seconds as runes. -/
def sixR (n : Nat) (m s : Int) : List Int := (wide 2 (n / 60000000 % 60)).map num ++ (m :: ((wide 2 (n / 1000000 % 60)).map num ++ (46 :: ((wide 6 (n % 1000000)).map num ++ [s]))))
theorem six_is (n : Nat) (m s : Int) (k : Nat) : ∃ j, sixP m s (sixR n m s) k = .got ((n % 3600000000 : Nat) : Int) [] j := by
  unfold sixR
  have e1 := two_is (n / 60000000 % 60) k (m :: ((wide 2 (n / 1000000 % 60)).map num ++ (46 :: ((wide 6 (n % 1000000)).map num ++ [s])))) (by omega)
  have e2 := two_is (n / 1000000 % 60) (k + 2 + 1) (46 :: ((wide 6 (n % 1000000)).map num ++ [s])) (by omega)
  have e3 := mic_is (n % 1000000) (k + 2 + 1 + 2 + 1) [s] (by omega)
  have n1 : ∃ x L, (wide 2 (n / 60000000 % 60)).map num ++ (m :: ((wide 2 (n / 1000000 % 60)).map num ++ (46 :: ((wide 6 (n % 1000000)).map num ++ [s])))) = x :: L := by rw [wide_cons]; exact ⟨_, _, rfl⟩
  have n2 : ∃ x L, (wide 2 (n / 1000000 % 60)).map num ++ (46 :: ((wide 6 (n % 1000000)).map num ++ [s])) = x :: L := by rw [wide_cons]; exact ⟨_, _, rfl⟩
  generalize (wide 2 (n / 1000000 % 60)).map num ++ (46 :: ((wide 6 (n % 1000000)).map num ++ [s])) = S2 at *
  generalize (wide 2 (n / 60000000 % 60)).map num ++ (m :: S2) = S1 at *
  generalize hX : (wide 6 (n % 1000000)).map num ++ [s] = X at *
  obtain ⟨x1, L1, rfl⟩ := n1
  obtain ⟨x2, L2, rfl⟩ := n2
  have hs : secP s (x2 :: L2) (k + 2 + 1) = .got (((n / 1000000 % 60 : Nat) : Int) * 1000000 + ((n % 1000000 : Nat) : Int)) [] (k + 2 + 1 + 2 + 1 + 6 + 1) := by
    unfold secP
    rw [e2]
    simp only
    have hp : pointP (46 :: X) (k + 2 + 1 + 2) = micP X (k + 2 + 1 + 2 + 1) := by simp [pointP]
    rw [hp, e3]
    simp only
    rw [need_is]
    rfl
  refine ⟨k + 2 + 1 + 2 + 1 + 6 + 1, ?_⟩
  unfold sixP
  simp only
  rw [e1]
  simp only
  rw [need_is]
  simp only
  rw [hs]
  simp only
  congr 1
  omega

/-- an angle's degrees as runes. -/
def degR (m : Nat) : List Int := (decDigits (m / 3600000000)).map num ++ (176 :: sixR m 8242 8243)
theorem deg_is (m : Nat) (mn : Bool) (k : Nat) (h : m ≤ 3599999999000000) : ∃ j, degP mn (degR m) k = .got (if mn then -(m : Int) else m) [] j := by
  have hl := dec_length_le 5 (m / 3600000000) (by omega)
  have e1 := digs_all (decDigits (m / 3600000000)) 0 6 (176 :: sixR m 8242 8243) (dec_dig _) (by omega) (.inr (not_dig (by omega)))
  rw [dv_dec] at e1
  have hp : 1 ≤ (decDigits (m / 3600000000)).length := by rw [decDigits_length]; exact nDigits_pos _
  obtain ⟨j, hj⟩ := six_is m 8242 8243 (k + (decDigits (m / 3600000000)).length + 1)
  refine ⟨j, ?_⟩
  unfold degP numP degR
  rw [e1]
  simp only
  rw [if_neg (by omega)]
  simp only
  rw [need_is]
  simp only
  rw [hj]
  simp only
  have ev : ((m / 3600000000 : Nat) : Int) * 3600000000 + ((m % 3600000000 : Nat) : Int) = m := by omega
  rw [ev]
theorem six_runs (n : Nat) : RunsL (sixL n [226, 128, 178] [226, 128, 179]) (sixR n 8242 8243) := by
  unfold sixL sixR
  simp only [List.append_assoc]
  exact runs_digits (wide 2 (n / 60000000 % 60)) _ _ (wide_dig _ _) (runs_minute _ _ (runs_digits (wide 2 (n / 1000000 % 60)) _ _ (wide_dig _ _) (runs_ascii 46 _ _ (by decide) (runs_digits (wide 6 (n % 1000000)) _ _ (wide_dig _ _) (runs_second [] [] (.done rfl))))))
theorem six_runs_h (n : Nat) : RunsL (sixL n [109] [115]) (sixR n 109 115) := by
  unfold sixL sixR
  simp only [List.append_assoc]
  exact runs_digits (wide 2 (n / 60000000 % 60)) _ _ (wide_dig _ _) (runs_ascii 109 _ _ (by decide) (runs_digits (wide 2 (n / 1000000 % 60)) _ _ (wide_dig _ _) (runs_ascii 46 _ _ (by decide) (runs_digits (wide 6 (n % 1000000)) _ _ (wide_dig _ _) (runs_ascii 115 [] [] (by decide) (.done rfl))))))
theorem deg_runs (m : Nat) : RunsL (decDigits (m / 3600000000) ++ [194, 176] ++ sixL m [226, 128, 178] [226, 128, 179]) (degR m) := by
  unfold degR
  rw [List.append_assoc]
  exact runs_digits (decDigits (m / 3600000000)) _ _ (dec_dig _) (runs_degree _ _ (six_runs m))

/-- the runes of an angle's degrees, and that they are read as it. -/
theorem degrees_back (a : Int) (h1 : -3599999999000000 ≤ a) (h2 : a ≤ 3599999999000000) : ∃ (L M : List Int) (j : Nat), Runs (str (degL a)) L ∧ degreesP L = .got a M j := by
  rcases (show (∃ m : Nat, a = m) ∨ ∃ m : Nat, 0 < m ∧ a = -(m : Int) from (by
    rcases (show 0 ≤ a ∨ a < 0 by omega) with h | h
    · exact .inl ⟨a.toNat, by omega⟩
    · exact .inr ⟨(-a).toNat, by omega, by omega⟩)) with ⟨m, rfl⟩ | ⟨m, h0, rfl⟩
  · obtain ⟨j, hj⟩ := deg_is m false 0 (by omega)
    refine ⟨degR m, [], j, by rw [degL_pos]; exact deg_runs m, ?_⟩
    have hne : ∃ x L, degR m = x :: L ∧ (48 ≤ x ∧ x ≤ 57) := by
      unfold degR
      have hp : 1 ≤ (decDigits (m / 3600000000)).length := by rw [decDigits_length]; exact nDigits_pos _
      have hd := dec_dig (m / 3600000000)
      cases hc : decDigits (m / 3600000000) with
      | nil => rw [hc] at hp; simp at hp
      | cons b l =>
        have := hd b (by rw [hc]; simp)
        exact ⟨num b, _, rfl, by unfold num; omega⟩
    obtain ⟨x, L, e, hx⟩ := hne
    rw [degreesP_none (degR m) (by rw [e]; show x ≠ 45; omega) (by rw [e]; show x ≠ 43; omega), hj]
    simp
  · obtain ⟨j, hj⟩ := deg_is m true 1 (by omega)
    refine ⟨45 :: degR m, [], j, ?_, ?_⟩
    · rw [degL_neg m h0]
      exact runs_ascii 45 _ _ (by decide) (by
        have := deg_runs m
        exact this)
    · rw [degreesP_minus, hj]
      simp

theorem hours_back (a : Int) : ∃ (L M : List Int) (j : Nat), Runs (str (hrsL a)) L ∧ hoursP L = .got ((hrs a : Int) * 15) M j := by
  have hh : hrs a < 86400000000 := by unfold hrs; omega
  have e1 := digs_all (wide 2 (hrs a / 3600000000)) 0 2 (104 :: sixR (hrs a) 109 115) (wide_dig _ _) (by rw [wide_length]; omega) (.inl (by rw [wide_length]))
  rw [dv_wide 2 _ (by omega), wide_length] at e1
  obtain ⟨j, hj⟩ := six_is (hrs a) 109 115 (0 + 2 + 1)
  refine ⟨(wide 2 (hrs a / 3600000000)).map num ++ (104 :: sixR (hrs a) 109 115), [], j, ?_, ?_⟩
  · unfold hrsL
    rw [List.append_assoc]
    exact runs_digits (wide 2 (hrs a / 3600000000)) _ _ (wide_dig _ _) (runs_ascii 104 _ _ (by decide) (six_runs_h _))
  · unfold hoursP numP
    rw [e1]
    simp only
    rw [if_neg (by omega)]
    simp only
    rw [if_neg (by omega), need_is]
    simp only
    rw [hj]
    simp only
    congr 1
    omega
theorem near (a : Int) : apt ((hrs a : Int) * 15) a ≤ 7 := by
  unfold apt far sgd
  have hx : 0 ≤ a % 1296000000000 ∧ a % 1296000000000 < 1296000000000 := by omega
  have e : (hrs a : Int) = (a % 1296000000000 + 7) / 15 % 86400000000 := by unfold hrs; omega
  rw [e]
  rw [show nrm a = a % 1296000000000 from rfl]
  generalize a % 1296000000000 = x at *
  unfold nrm
  by_cases h : (x + 7) / 15 = 86400000000
  · rw [h]
    split <;> split <;> omega
  · have e2 : (x + 7) / 15 % 86400000000 = (x + 7) / 15 := by omega
    rw [e2]
    split <;> split <;> omega
end Go.Proofs.YtfifbcoedfdnjabDoor
