/-
  A log's bytes: the document's bytes, sumOf, numberOf, by contract.
-/
import Derived.Test.YtfonpobdnhifganNgB
namespace Go.Proofs.Ytfonpobdnhifgan
open Go Go.RowKit

theorem u8_of (m : Nat) : ((UInt8.ofNat (m % 256)).toNat : Int) = ((m : Int) % 256) := by
  rw [UInt8.toNat_ofNat', Nat.mod_eq_of_lt (show m % 256 < 2 ^ 8 from Nat.mod_lt _ (by decide))]
  omega
theorem uwrap {n : Int} (h1 : 0 ≤ n) (h2 : n < 18446744073709551616) : IntKind.u64.wrap n = n := by
  simp [IntKind.wrap, IntKind.bits, IntKind.signed]
  omega
set_option maxRecDepth 100000 in
set_option maxHeartbeats 1600000 in
theorem bytes_any {B : Nat} {w : World} {v : Value} {b : Bs} (n : Nat) (k : Nat) (hB : B ≤ w.heap.size) (h : BOwn w B v b) (hn : n < 18446744073709551616) (hk : k ≤ 8) (hb : b.length ≤ 1000000) :
    Calls Try.prog 15 #[v, .int .u64 (n : Nat), .int .i64 (k : Nat)] w (RowPost B w (b ++ leB k n)) := by
  obtain ⟨i0, hi0, hz0, hz1, hz2⟩ := info_parts infoB
  have H0 := hideR h
  have HP : HeldR (∀ D v' w', D = leB k n → BOwn w' B v' (b ++ D) → Below B w w' → RowPost B w (b ++ leB k n) (.returned v') w') := hideR (fun D v' w' e h1 h2 => by subst e; exact ⟨v', rfl, h1, h2⟩)
  generalize RowPost B w (b ++ leB k n) = POST at *
  clear h
  go_enter Try.func15, Try.ntmps15
  go_wp2
  go_loopw [0, 1, 7] (fun bv nv iv wl => ∃ (i m : Nat) (D : Bs), i ≤ k ∧ D.length = i ∧ m < 18446744073709551616 ∧ iv = .int .i64 (i : Nat) ∧ nv = .int .u64 (m : Nat) ∧ HeldR (leB k n = D ++ leB (k - i) m) ∧ HeldR (BOwn wl B bv (b ++ D)) ∧ HeldR (Below B w wl)) (fun _ _ iv _ => k + 1 - (intOf iv).toNat)
  case atStart => exact ⟨0, n, [], by omega, rfl, hn, rfl, rfl, hideR (by simp), by rw [List.append_nil]; exact H0, hideR (Below.refl _ _)⟩
  case round =>
    clear H0
    obtain ⟨i, m, D, hi, hD, hm, rfl, rfl, HL, HO, HB⟩ := hrel
    by_cases q : i < k
    · have ti : decide ((i : Int) < (k : Int)) = true := decide_eq_true (by omega)
      have tin : decide (i < k) = true := decide_eq_true q
      have wi : IntKind.i64.wrap ((i : Int) + 1) = (i : Int) + 1 := iwrap (by omega) (by omega)
      obtain ⟨ad, cap, e⟩ := (unhideR HO).slice
      subst e
      have hl9 : (b ++ D).length = b.length + i := by rw [List.length_append, hD]
      have HO2 := unhideR HO
      unfold BOwn at HO2
      obtain ⟨N9, hN9⟩ : ∃ N9, (b ++ D).length = N9 := ⟨_, rfl⟩
      rw [hN9] at HO2 ⊢
      have HN9 := hideR hN9
      have hNb : N9 ≤ 1000008 := by omega
      have HO3 := hideR HO2
      have HS : HeldR (∀ D2, D2 = D ++ [UInt8.ofNat (m % 256)] → leB k n = D2 ++ leB (k - (i + 1)) (m / 256)) := hideR (fun D2 e => by
        rw [e, unhideR HL, show k - i = (k - (i + 1)) + 1 by omega]
        simp [leB])
      have Hby : HeldR (byV (UInt8.ofNat (m % 256)) = .int .u8 ((m : Int) % 256)) := hideR (by unfold byV; rw [u8_of])
      obtain ⟨m2, hm2⟩ : ∃ m2, m / 256 = m2 := ⟨_, rfl⟩
      have Hm2 := hideR hm2
      have hm3 : m2 < 18446744073709551616 := by omega
      rw [hm2] at HS
      have wm : (m : Int).tdiv 256 = (m2 : Nat) := by rw [Int.tdiv_eq_ediv_of_nonneg (by omega)]; omega
      have wq : IntKind.u64.wrap (m2 : Nat) = (m2 : Nat) := uwrap (by omega) (by omega)
      have wq2 : IntKind.u64.wrap ((m : Int).tdiv 256) = (m2 : Nat) := by rw [wm, wq]
      clear HO2 hN9 HO hl9 hm2 wm wq
      go_wp2_with (first
        | (at_builtin; refine wpList_append_own _ rfl _ _ 23 rfl B 5 i0 (.int .u8 0) 1 1 Try.underlying23 hi0 hz0 hz1 hz2 rfl (by decide) _ N9 _ rfl ((unhideR HO3).alloc _) ⟨wr.heap.size, 0, none⟩ 1 1 [.int .u8 ((m : Int) % 256)] rfl rfl ?c1 ?c2 ?c3 ?c4 ?c5 ?_))
      case c1 =>
        intro j u hu
        cases j with
        | zero =>
          cases hu
          rw [add_pl2]
          exact one_at (alloc_last wr _)
        | succ j => simp at hu
      case c2 => intro u hu; simp at hu; subst hu; rfl
      case c3 => unfold maxLen; omega
      case c4 => omega
      case c5 =>
        have := (unhideR HB).size
        simp
        omega
      intro v' w1 hown hgrow _
      have HB2 := hideR (((unhideR HB).alloc (Nat.le_trans hB (unhideR HB).size) _).grown hgrow (by have := (unhideR HB).size; simp; omega) (fun k e => ((unhideR HO3).lt k e).1))
      have HO4 : HeldR (BOwn w1 B v' (b ++ (D ++ [UInt8.ofNat (m % 256)]))) := hideR (by
        unfold BOwn
        rw [← List.append_assoc, List.length_append, unhideR HN9]
        unfold byCells
        rw [List.map_append]
        show w1.ownsRow B 5 1 v' (N9 + 1) (byCells (b ++ D) ++ [byV (UInt8.ofNat (m % 256))])
        rw [unhideR Hby]
        exact hown)
      have HL2 := hideR (unhideR HS _ rfl)
      clear hown hgrow HO3 HB HS Hby HL
      go_wp2
      exact ⟨⟨i + 1, m2, D ++ [UInt8.ofNat (m % 256)], by omega, by simp [hD], hm3, by go_num, congrArg (Value.int .u64) (by have := unhideR Hm2; omega), HL2, HO4, HB2⟩, by simp [intOf]; omega⟩
    · obtain rfl : i = k := by omega
      have ti : decide ((i : Int) < (i : Int)) = false := decide_eq_false (by omega)
      have tin : decide (i < i) = false := decide_eq_false (by omega)
      have e : D = leB i n := by rw [unhideR HL, Nat.sub_self]; simp [leB]
      have He := hideR e
      clear e HL
      go_wp2
      exact unhideR HP D _ _ (unhideR He) (unhideR HO) (unhideR HB)
theorem sumB_take (s : Nat) : ∀ (b : Bs) (k : Nat), k < b.length → sumB s (b.take (k + 1)) = (sumB s (b.take k) * 31 + (b.getD k 0).toNat) % 4294967296
  | [], k, h => absurd h (Nat.not_lt_zero k)
  | x :: b, 0, _ => by simp [sumB]
  | x :: b, k + 1, h => by
    show sumB ((s * 31 + x.toNat) % 4294967296) (b.take (k + 1)) = (sumB ((s * 31 + x.toNat) % 4294967296) (b.take k) * 31 + (b.getD k 0).toNat) % 4294967296
    exact sumB_take _ b k (by simpa using h)
theorem sumB_lt : ∀ (b : Bs) (s : Nat), s < 4294967296 → sumB s b < 4294967296
  | [], _, h => h
  | x :: b, s, _ => sumB_lt b _ (Nat.mod_lt _ (by decide))
set_option maxRecDepth 100000 in
set_option maxHeartbeats 1600000 in
theorem sumOf_any {w : World} {ad : Option Addr} {cap : Nat} {b : Bs} (s : Nat) (h : BAt w ad b) (hs : s < 4294967296) (hb : b.length ≤ 1000000) :
    Calls Try.prog 16 #[.int .i64 (s : Nat), .slice ad b.length cap] w fun e w' => e = .returned (.int .i64 (sumB s b : Nat)) ∧ w' = w := by
  have H := hideR h
  obtain ⟨N, hN⟩ : ∃ N, b.length = N := ⟨_, rfl⟩
  have HN := hideR hN
  have HS : HeldR (∀ k, k < N → sumB s (b.take (k + 1)) = (sumB s (b.take k) * 31 + (b.getD k 0).toNat) % 4294967296) := hideR (fun k hk => sumB_take s b k (by omega))
  have HE : HeldR (sumB s (b.take N) = sumB s b) := hideR (by rw [← hN, List.take_length])
  have HL : HeldR (∀ k, sumB s (b.take k) < 4294967296) := hideR (fun k => sumB_lt _ _ hs)
  have H0 : HeldR (sumB s (b.take 0) = s) := hideR (by simp [sumB])
  rw [hN] at hb ⊢
  generalize sumB s b = R at *
  obtain ⟨F, hF⟩ : ∃ F : Nat → Nat, F = fun k => sumB s (b.take k) := ⟨_, rfl⟩
  have HS' : HeldR (∀ k, k < N → F (k + 1) = (F k * 31 + (b.getD k 0).toNat) % 4294967296) := hideR (by rw [hF]; exact unhideR HS)
  have HE' : HeldR (F N = R) := hideR (by rw [hF]; exact unhideR HE)
  have HL' : HeldR (∀ k, F k < 4294967296) := hideR (by rw [hF]; exact unhideR HL)
  have H0' : HeldR (F 0 = s) := hideR (by rw [hF]; exact unhideR H0)
  clear h hN HS HE HL H0 hF
  go_enter Try.func16, Try.ntmps16
  go_wp2
  go_loopw [0, 5] (fun sv iv wl => ∃ i : Nat, i ≤ N ∧ iv = .int .i64 (i : Nat) ∧ sv = .int .i64 (F i : Nat) ∧ wl = w) (fun _ iv _ => N + 1 - (intOf iv).toNat)
  case atStart => exact ⟨0, by omega, rfl, by rw [unhideR H0'], rfl⟩
  case round =>
    obtain ⟨i, hi, rfl, rfl, rfl⟩ := hrel
    by_cases q : i < N
    · have ti : decide ((i : Int) < (N : Int)) = true := decide_eq_true (by omega)
      have tin : decide (i < N) = true := decide_eq_true q
      have wi : IntKind.i64.wrap ((i : Int) + 1) = (i : Int) + 1 := iwrap (by omega) (by omega)
      have hii : (i : Int) < (N : Int) := by omega
      obtain ⟨bb, off, e, _, hc⟩ := (unhideR H).at_ i (by rw [unhideR HN]; exact q)
      subst e
      have hf := unhideR HL' i
      have hx : (b.getD i 0).toNat < 256 := (b.getD i 0).toNat_lt
      have hst := unhideR HS' i q
      generalize (b.getD i 0).toNat = x at *
      obtain ⟨f, hf1⟩ : ∃ f, F i = f := ⟨_, rfl⟩
      rw [hf1] at hf hst ⊢
      clear hf1
      obtain ⟨f2, hf2⟩ : ∃ f2, F (i + 1) = f2 := ⟨_, rfl⟩
      rw [hf2] at hst
      have Hf2 := hideR hf2
      clear hf2
      have w1 : IntKind.i64.wrap ((f : Int) * 31) = (f : Int) * 31 := iwrap (by omega) (by omega)
      have w2 : IntKind.i64.wrap ((f : Int) * 31 + (x : Int)) = (f : Int) * 31 + (x : Int) := iwrap (by omega) (by omega)
      have w0 : IntKind.i64.wrap (x : Int) = (x : Int) := iwrap (by omega) (by omega)
      have Hst := hideR hst
      clear hst HS' HL' HE' H0' H
      go_wp2
      exact ⟨⟨i + 1, by omega, by go_num, by rw [unhideR Hf2, unhideR Hst]; exact congrArg (Value.int .i64) (by omega), trivial⟩, by simp [intOf]; omega⟩
    · obtain rfl : i = N := by omega
      have ti : decide ((i : Int) < (i : Int)) = false := decide_eq_false (by omega)
      have tin : decide (i < i) = false := decide_eq_false (by omega)
      have e := unhideR HE'
      rw [e]
      clear HS' HL' HE' H0' H e
      go_wp2
      go_ret
      exact ⟨rfl, rfl⟩
theorem unLe_drop (b : Bs) {k : Nat} (h : k < b.length) : unLe (b.drop k) = (b.getD k 0).toNat + 256 * unLe (b.drop (k + 1)) := by
  rw [List.drop_eq_getElem_cons h, List.getD_eq_getElem?_getD, List.getElem?_eq_getElem h]
  rfl
theorem unLe_lt : ∀ b : Bs, unLe b < 256 ^ b.length
  | [] => by simp [unLe]
  | x :: b => by
    have h := unLe_lt b
    have hx : x.toNat < 256 := x.toNat_lt
    show x.toNat + 256 * unLe b < 256 ^ (b.length + 1)
    rw [Nat.pow_succ]
    omega
theorem i64_wrap {n : Nat} (h : n < 18446744073709551616) : IntKind.i64.wrap (n : Int) = i64 n := by
  simp only [IntKind.wrap, IntKind.bits, IntKind.signed]
  unfold i64
  simp
  split <;> split <;> omega
set_option maxRecDepth 100000 in
set_option maxHeartbeats 1600000 in
theorem numberOf_any {w : World} {ad : Option Addr} {cap : Nat} {b : Bs} (h : BAt w ad b) (hb : b.length = 8) :
    Calls Try.prog 20 #[.slice ad 8 cap] w fun e w' => e = .returned (.int .i64 (i64 (unLe b))) ∧ w' = w := by
  have H := hideR h
  have Hb := hideR hb
  have HS : HeldR (∀ k, k < 8 → unLe (b.drop k) = (b.getD k 0).toNat + 256 * unLe (b.drop (k + 1))) := hideR (fun k hk => unLe_drop b (by omega))
  have HL : HeldR (∀ k, 1 ≤ k → k ≤ 8 → unLe (b.drop k) < 72057594037927936) := hideR (fun k h1 h2 => by
    have := unLe_lt (b.drop k)
    rw [List.length_drop, hb] at this
    exact Nat.lt_of_lt_of_le this (Nat.le_trans (Nat.pow_le_pow_right (by decide) (show 8 - k ≤ 7 by omega)) (by decide)))
  have H8 : HeldR (unLe (b.drop 8) = 0) := hideR (by rw [List.drop_of_length_le (by omega)]; rfl)
  have H0 : HeldR (IntKind.i64.wrap ((unLe (b.drop 0) : Nat) : Int) = i64 (unLe b)) := hideR (by
    rw [List.drop_zero]
    refine i64_wrap ?_
    have := unLe_lt b
    rw [hb] at this
    exact Nat.lt_of_lt_of_le this (by decide))
  generalize i64 (unLe b) = R at *
  obtain ⟨F, hF⟩ : ∃ F : Nat → Nat, F = fun k => unLe (b.drop k) := ⟨_, rfl⟩
  have HS' : HeldR (∀ k, k < 8 → F k = (b.getD k 0).toNat + 256 * F (k + 1)) := hideR (by rw [hF]; exact unhideR HS)
  have HL' : HeldR (∀ k, 1 ≤ k → k ≤ 8 → F k < 72057594037927936) := hideR (by rw [hF]; exact unhideR HL)
  have H8' : HeldR (F 8 = 0) := hideR (by rw [hF]; exact unhideR H8)
  have H0' : HeldR (IntKind.i64.wrap ((F 0 : Nat) : Int) = R) := hideR (by rw [hF]; exact unhideR H0)
  clear h hb HS HL H8 H0 hF
  go_enter Try.func20, Try.ntmps20
  go_wp2
  go_loopw [3, 4] (fun nv iv wl => ∃ k : Nat, k ≤ 8 ∧ iv = .int .i64 ((k : Int) - 1) ∧ nv = .int .u64 (F k : Nat) ∧ wl = w) (fun _ iv _ => ((intOf iv) + 1).toNat)
  case atStart => exact ⟨8, by omega, rfl, by rw [unhideR H8']; rfl, rfl⟩
  case round =>
    obtain ⟨k, hk, rfl, rfl, rfl⟩ := hrel
    by_cases q : 0 < k
    · obtain ⟨j, rfl⟩ : ∃ j, k = j + 1 := ⟨k - 1, by omega⟩
      have ej : ((j + 1 : Nat) : Int) - 1 = (j : Int) := by omega
      rw [ej]
      have tj : decide ((0 : Int) ≤ (j : Int)) = true := decide_eq_true (by omega)
      have wj : IntKind.i64.wrap ((j : Int) - 1) = (j : Int) - 1 := iwrap (by omega) (by omega)
      have hj8 : (j : Int) < 8 := by omega
      obtain ⟨bb, off, e, _, hc⟩ := (unhideR H).at_ j (by rw [unhideR Hb]; omega)
      subst e
      have hf := unhideR HL' (j + 1) (by omega) hk
      have hx : (b.getD j 0).toNat < 256 := (b.getD j 0).toNat_lt
      have hst := unhideR HS' j (by omega)
      generalize (b.getD j 0).toNat = x at *
      obtain ⟨f, hf1⟩ : ∃ f, F (j + 1) = f := ⟨_, rfl⟩
      rw [hf1] at hf hst ⊢
      clear hf1 ej
      obtain ⟨f2, hf2⟩ : ∃ f2, F j = f2 := ⟨_, rfl⟩
      rw [hf2] at hst
      have Hf2 := hideR hf2
      have Hst := hideR hst
      have w1 : IntKind.u64.wrap ((f : Int) * 256) = (f : Int) * 256 := uwrap (by omega) (by omega)
      have w2 : IntKind.u64.wrap ((f : Int) * 256 + (x : Int)) = (f : Int) * 256 + (x : Int) := uwrap (by omega) (by omega)
      have w0 : IntKind.u64.wrap (x : Int) = (x : Int) := uwrap (by omega) (by omega)
      clear hf2 hst HS' HL' H8' H0' H
      go_wp2
      exact ⟨⟨j, by omega, by first | rfl | go_num, by rw [unhideR Hf2, unhideR Hst]; exact congrArg (Value.int .u64) (by omega), by first | exact trivial | rfl⟩, by simp [intOf]; try omega⟩
    · obtain rfl : k = 0 := by omega
      have e := unhideR H0'
      clear HS' HL' H8' H0' H
      go_wp2
      go_ret
      exact ⟨rfl, rfl⟩
end Go.Proofs.Ytfonpobdnhifgan
