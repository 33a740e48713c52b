/-
  A log's bytes: the program's lowFirst, fromLow, summed, by contract.
-/
import Derived.Test.YtfonpobdnhifganNgD1
import Derived.Test.YtfonpobdnhifganNgR
import Derived.Laws.Bits64b
namespace Go.Proofs.Ytfonpobdnhifgan
open Go Go.RowKit

set_option maxRecDepth 100000 in
set_option maxHeartbeats 1600000 in
theorem plow_any {B : Nat} {w : World} {v : Value} {b : Bs} (n : Nat) (k : Nat) (hB : B ≤ w.heap.size) (h : BOwn w B v b) (_hn : n < 18446744073709551616) (hk : k ≤ 8) (hb : b.length ≤ 1000000) :
    Calls Try.prog 14 #[v, .int .u64 (n : Nat), .int .i64 (k : Nat)] w (RowPost B w (b ++ leB k n)) := by
  obtain ⟨i0, hi0, hz0, hz1, hz2⟩ := info_parts infoB
  have H0 := hideR h
  have HP : HeldR (∀ D v' w', D = leB k n → BOwn w' B v' (b ++ D) → Below B w w' → RowPost B w (b ++ leB k n) (.returned v') w') := hideR (fun D v' w' e h1 h2 => by subst e; exact ⟨v', rfl, h1, h2⟩)
  generalize RowPost B w (b ++ leB k n) = POST at *
  clear h
  go_enter Try.func14, Try.ntmps14
  go_wp2
  go_loopw [0, 9] (fun bv iv wl => ∃ (i : Nat), i ≤ k ∧ iv = .int .i64 (i : Nat) ∧ HeldR (BOwn wl B bv (b ++ leB i n)) ∧ HeldR (Below B w wl)) (fun _ iv _ => k + 1 - (intOf iv).toNat)
  case atStart => exact ⟨0, by omega, rfl, by show HeldR (BOwn w B v (b ++ [])); rw [List.append_nil]; exact H0, hideR (Below.refl _ _)⟩
  case round =>
    clear H0
    obtain ⟨i, hi, rfl, HO, HB⟩ := hrel
    by_cases q : i < k
    · have ti : decide ((i : Int) < (k : Int)) = true := decide_eq_true (by omega)
      have tin : decide (i < k) = true := decide_eq_true q
      have wi : IntKind.i64.wrap ((i : Int) + 1) = (i : Int) + 1 := iwrap (by omega) (by omega)
      have w8 : IntKind.i64.wrap (8 * (i : Int)) = 8 * (i : Int) := iwrap (by omega) (by omega)
      obtain ⟨ad, cap, e⟩ := (unhideR HO).slice
      subst e
      have hl9 : (b ++ leB i n).length = b.length + i := by rw [List.length_append, leB_len]
      have HO2 := unhideR HO
      unfold BOwn at HO2
      obtain ⟨N9, hN9⟩ : ∃ N9, (b ++ leB i n).length = N9 := ⟨_, rfl⟩
      rw [hN9] at HO2 ⊢
      have HN9 := hideR hN9
      have hNb : N9 ≤ 1000008 := by omega
      have HO3 := hideR HO2
      have Hby : HeldR (byV (UInt8.ofNat (n / 256 ^ i % 256)) = .int .u8 ((n : Int) / 2 ^ (8 * i) % 256)) := hideR (by
        unfold byV
        rw [u8_of, show (256 : Nat) ^ i = 2 ^ (8 * i) by rw [Nat.pow_mul]]
        congr 1)
      have HL := hideR (leB_next i n)
      clear HO2 hN9 HO hl9
      go_wp2_with (first
        | (at_builtin; refine wpList_append_own _ rfl _ _ 23 rfl B 5 i0 (.int .u8 0) 1 1 Try.underlying23 hi0 hz0 hz1 hz2 rfl (by decide) _ N9 _ rfl ((unhideR HO3).alloc _) ⟨wr.heap.size, 0, none⟩ 1 1 [.int .u8 ((n : Int) / 2 ^ (8 * i) % 256)] rfl rfl ?c1 ?c2 ?c3 ?c4 ?c5 ?_))
      case c1 =>
        intro j u hu
        cases j with
        | zero =>
          cases hu
          rw [add_pl2]
          exact one_at (alloc_last wr _)
        | succ j => simp at hu
      case c2 => intro u hu; simp at hu; subst hu; rfl
      case c3 => unfold maxLen; omega
      case c4 => omega
      case c5 =>
        have := (unhideR HB).size
        simp
        omega
      intro v' w1 hown hgrow _
      have HB2 := hideR (((unhideR HB).alloc (Nat.le_trans hB (unhideR HB).size) _).grown hgrow (by have := (unhideR HB).size; simp; omega) (fun k e => ((unhideR HO3).lt k e).1))
      have HO4 : HeldR (BOwn w1 B v' (b ++ leB (i + 1) n)) := hideR (by
        unfold BOwn
        rw [unhideR HL, ← List.append_assoc, List.length_append, unhideR HN9]
        unfold byCells
        rw [List.map_append]
        show w1.ownsRow B 5 1 v' (N9 + 1) (byCells (b ++ leB i n) ++ [byV (UInt8.ofNat (n / 256 ^ i % 256))])
        rw [unhideR Hby]
        exact hown)
      clear hown hgrow HO3 HB Hby HL
      go_wp2
      exact ⟨⟨i + 1, by omega, by go_num, HO4, HB2⟩, by simp [intOf]; omega⟩
    · obtain rfl : i = k := by omega
      have ti : decide ((i : Int) < (i : Int)) = false := decide_eq_false (by omega)
      have tin : decide (i < i) = false := decide_eq_false (by omega)
      go_wp2
      exact unhideR HP _ _ _ rfl (unhideR HO) (unhideR HB)
theorem unLe_take {b : Bs} {i : Nat} (hi : i < b.length) : unLe (b.take (i + 1)) = unLe (b.take i) ||| ((b.getD i 0).toNat * 2 ^ (8 * i)) := by
  have e : b.take (i + 1) = b.take i ++ [b.getD i 0] := by
    rw [List.take_add_one, List.getElem?_eq_getElem hi, List.getD_eq_getElem?_getD, List.getElem?_eq_getElem hi]
    rfl
  have hl : (b.take i).length = i := by rw [List.length_take]; omega
  have := unLe_or (b := b.take i) (x := b.getD i 0)
  rw [hl, show (256 : Nat) ^ i = 2 ^ (8 * i) by rw [Nat.pow_mul]] at this
  rw [e, ← this]
set_option maxRecDepth 100000 in
set_option maxHeartbeats 1600000 in
theorem pfrom_any {w : World} {ad : Option Addr} {cap : Nat} {b : Bs} (h : BAt w ad b) (hb : b.length ≤ 8) :
    Calls Try.prog 18 #[.slice ad b.length cap] w fun e w' => e = .returned (.int .u64 (unLe b : Nat)) ∧ w' = w := by
  have H := hideR h
  obtain ⟨N, hN⟩ : ∃ N, b.length = N := ⟨_, rfl⟩
  have HN := hideR hN
  have HS : HeldR (∀ k, k < N → unLe (b.take (k + 1)) = unLe (b.take k) ||| ((b.getD k 0).toNat * 2 ^ (8 * k))) := hideR (fun k hk => unLe_take (by omega))
  have HE : HeldR (unLe (b.take N) = unLe b) := hideR (by rw [← hN, List.take_length])
  have H0 : HeldR (unLe (b.take 0) = 0) := hideR rfl
  have HL : HeldR (∀ k, k ≤ N → unLe (b.take k) < 18446744073709551616) := hideR (fun k hk => by
    have := unLe_lt (b.take k)
    exact Nat.lt_of_lt_of_le this (Nat.le_trans (Nat.pow_le_pow_right (by decide) (show (b.take k).length ≤ 8 by rw [List.length_take]; omega)) (by decide)))
  rw [hN] at hb ⊢
  generalize unLe b = R at *
  obtain ⟨F, hF⟩ : ∃ F : Nat → Nat, F = fun k => unLe (b.take k) := ⟨_, rfl⟩
  have HS' : HeldR (∀ k, k < N → F (k + 1) = F k ||| ((b.getD k 0).toNat * 2 ^ (8 * k))) := hideR (by rw [hF]; exact unhideR HS)
  have HE' : HeldR (F N = R) := hideR (by rw [hF]; exact unhideR HE)
  have H0' : HeldR (F 0 = 0) := hideR (by rw [hF]; exact unhideR H0)
  have HLt : HeldR (∀ k, k ≤ N → F k < 18446744073709551616) := hideR (by rw [hF]; exact unhideR HL)
  clear h hN HS HE H0 hF HL
  go_enter Try.func18, Try.ntmps18
  go_wp2
  go_loopw [3, 8] (fun sv iv wl => ∃ i : Nat, i ≤ N ∧ iv = .int .i64 (i : Nat) ∧ sv = .int .u64 (F i : Nat) ∧ wl = w) (fun _ iv _ => N + 1 - (intOf iv).toNat)
  case atStart => exact ⟨0, by omega, rfl, by rw [unhideR H0']; rfl, rfl⟩
  case round =>
    obtain ⟨i, hi, rfl, rfl, rfl⟩ := hrel
    by_cases q : i < N
    · have ti : decide ((i : Int) < (N : Int)) = true := decide_eq_true (by omega)
      have tin : decide (i < N) = true := decide_eq_true q
      have wi : IntKind.i64.wrap ((i : Int) + 1) = (i : Int) + 1 := iwrap (by omega) (by omega)
      have w8 : IntKind.i64.wrap (8 * (i : Int)) = 8 * (i : Int) := iwrap (by omega) (by omega)
      have hii : (i : Int) < (N : Int) := by omega
      obtain ⟨bb, off, e, _, hc⟩ := (unhideR H).at_ i (by rw [unhideR HN]; exact q)
      subst e
      have hx : (b.getD i 0).toNat < 256 := (b.getD i 0).toNat_lt
      have hst := unhideR HS' i q
      generalize (b.getD i 0).toNat = x at *
      have w0 : IntKind.u64.wrap (x : Int) = (x : Int) := uwrap (by omega) (by omega)
      have hp : x * 2 ^ (8 * i) < 18446744073709551616 := by
        have h1 : x * 2 ^ (8 * i) < 256 * 2 ^ (8 * i) := Nat.mul_lt_mul_of_pos_right hx (Nat.two_pow_pos _)
        have h2 : 256 * 2 ^ (8 * i) = 2 ^ (8 * (i + 1)) := by rw [show 8 * (i + 1) = 8 + 8 * i by omega, Nat.pow_add]
        have h3 : 2 ^ (8 * (i + 1)) ≤ 2 ^ 64 := Nat.pow_le_pow_right (by decide) (by omega)
        have h4 : (2 : Nat) ^ 64 = 18446744073709551616 := by decide
        omega
      have hF1 := unhideR HLt i hi
      have HV : HeldR (bits .or .u64 ((F i : Nat) : Int) (IntKind.u64.wrap ((x : Int) * 2 ^ (8 * i))) = ((F (i + 1) : Nat) : Int)) := hideR (by
        have e1 : ((x : Int) * 2 ^ (8 * i)) = ((x * 2 ^ (8 * i) : Nat) : Int) := by
          rw [Int.natCast_mul, Int.natCast_pow]
          rfl
        rw [e1, uwrap (by omega) (by omega), bits_or_u64_nat _ _ hF1 hp, hst])
      clear HS' HE' H0' H hst hp hF1 HLt
      go_wp2
      exact ⟨⟨i + 1, by omega, by go_num, congrArg (Value.int .u64) (unhideR HV), trivial⟩, by simp [intOf]; omega⟩
    · obtain rfl : i = N := by omega
      have ti : decide ((i : Int) < (i : Int)) = false := decide_eq_false (by omega)
      have tin : decide (i < i) = false := decide_eq_false (by omega)
      have e := unhideR HE'
      rw [e]
      clear HS' HE' H0' H e
      go_wp2
      go_ret
      exact ⟨rfl, rfl⟩
set_option maxRecDepth 100000 in
set_option maxHeartbeats 1600000 in
theorem psummed_any {w : World} {ad : Option Addr} {cap : Nat} {b : Bs} (s : Nat) (h : BAt w ad b) (hs : s < 4294967296) (hb : b.length ≤ 1000000) :
    Calls Try.prog 21 #[.int .u32 (s : Nat), .slice ad b.length cap] w fun e w' => e = .returned (.int .u32 (sumB s b : Nat)) ∧ w' = w := by
  have H := hideR h
  obtain ⟨N, hN⟩ : ∃ N, b.length = N := ⟨_, rfl⟩
  have HN := hideR hN
  have HS : HeldR (∀ k, k < N → sumB s (b.take (k + 1)) = (sumB s (b.take k) * 31 + (b.getD k 0).toNat) % 4294967296) := hideR (fun k hk => sumB_take s b k (by omega))
  have HE : HeldR (sumB s (b.take N) = sumB s b) := hideR (by rw [← hN, List.take_length])
  have HL : HeldR (∀ k, sumB s (b.take k) < 4294967296) := hideR (fun k => sumB_lt _ _ hs)
  have H0 : HeldR (sumB s (b.take 0) = s) := hideR (by simp [sumB])
  rw [hN] at hb ⊢
  generalize sumB s b = R at *
  obtain ⟨F, hF⟩ : ∃ F : Nat → Nat, F = fun k => sumB s (b.take k) := ⟨_, rfl⟩
  have HS' : HeldR (∀ k, k < N → F (k + 1) = (F k * 31 + (b.getD k 0).toNat) % 4294967296) := hideR (by rw [hF]; exact unhideR HS)
  have HE' : HeldR (F N = R) := hideR (by rw [hF]; exact unhideR HE)
  have HL' : HeldR (∀ k, F k < 4294967296) := hideR (by rw [hF]; exact unhideR HL)
  have H0' : HeldR (F 0 = s) := hideR (by rw [hF]; exact unhideR H0)
  clear h hN HS HE HL H0 hF
  go_enter Try.func21, Try.ntmps21
  go_wp2
  go_loopw [0, 9] (fun sv iv wl => ∃ i : Nat, i ≤ N ∧ iv = .int .i64 (i : Nat) ∧ sv = .int .u32 (F i : Nat) ∧ wl = w) (fun _ iv _ => N + 1 - (intOf iv).toNat)
  case atStart => exact ⟨0, by omega, rfl, by rw [unhideR H0'], rfl⟩
  case round =>
    obtain ⟨i, hi, rfl, rfl, rfl⟩ := hrel
    by_cases q : i < N
    · have ti : decide ((i : Int) < (N : Int)) = true := decide_eq_true (by omega)
      have tin : decide (i < N) = true := decide_eq_true q
      have wi : IntKind.i64.wrap ((i : Int) + 1) = (i : Int) + 1 := iwrap (by omega) (by omega)
      have hii : (i : Int) < (N : Int) := by omega
      obtain ⟨bb, off, e, _, hc⟩ := (unhideR H).at_ i (by rw [unhideR HN]; exact q)
      subst e
      have hf := unhideR HL' i
      have hx : (b.getD i 0).toNat < 256 := (b.getD i 0).toNat_lt
      have hst := unhideR HS' i q
      generalize (b.getD i 0).toNat = x at *
      obtain ⟨f, hf1⟩ : ∃ f, F i = f := ⟨_, rfl⟩
      rw [hf1] at hf hst ⊢
      clear hf1
      obtain ⟨f2, hf2⟩ : ∃ f2, F (i + 1) = f2 := ⟨_, rfl⟩
      rw [hf2] at hst
      have Hf2 := hideR hf2
      clear hf2
      have Hst := hideR hst
      clear hst HS' HL' HE' H0' H
      go_wp2
      exact ⟨⟨i + 1, by omega, by go_num, by rw [unhideR Hf2, unhideR Hst]; exact congrArg (Value.int .u32) (by omega), trivial⟩, by simp [intOf]; omega⟩
    · obtain rfl : i = N := by omega
      have ti : decide ((i : Int) < (i : Int)) = false := decide_eq_false (by omega)
      have tin : decide (i < i) = false := decide_eq_false (by omega)
      have e := unhideR HE'
      rw [e]
      clear HS' HL' HE' H0' H e
      go_wp2
      go_ret
      exact ⟨rfl, rfl⟩
end Go.Proofs.Ytfonpobdnhifgan
