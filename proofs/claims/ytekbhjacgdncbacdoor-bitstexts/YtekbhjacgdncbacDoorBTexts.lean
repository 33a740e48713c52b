/-
  The law BitsTexts walked out of the contracts.
-/
import Derived.Test.YtekbhjacgdncbacDoorFaulted
namespace Go.Proofs.YtekbhjacgdncbacDoor
open Go Go.RowKit Go.Lib

theorem textN_lt (x : Nat) (hx : x < 18446744073709551616) : textN x < 18446744073709551616 := by
  unfold textN
  split <;> omega
theorem nan_canon : Nan 9221120237041090560 := by unfold Nan; decide +kernel
theorem textN_same (x : Nat) : sameB (textN x) x = true := by
  rw [same_iff]
  unfold textN
  cases h : nanB x with
  | false => exact .inl rfl
  | true => exact .inr ⟨nan_canon, h⟩
theorem sameB_self (x : Nat) : sameB x x = true := same_iff.2 (.refl x)
theorem readOut_below {g0 : Addr} {w w' : World} {r : Nat × Int} {e : Ending} (h : ReadOut g0 w r e w') : Below w.heap.size w w' := by
  rcases h with ⟨_, _, hb⟩ | ⟨_, _, _, _, _, hb⟩ <;> exact hb
/-- both answers together. -/
theorem faulted_out {w w1 w2 : World} {a : Nat → Addr} {s : ByteArray} {e : Ending} (hR : ReadOut (a 0) w (rdV s) e w1) (hs : Sents w2 a) (hb : Below w1.heap.size w1 w2) :
    ∃ y, e = .returned (.tuple #[.float .f64 (rdV s).1, y]) ∧ Calls Tryd.prog 7 #[y, .agg #[.int .i64 (codeOf (rdV s).2), .int .i64 (rdV s).2]] w2 fun e w' => e = .returned (.bool true) ∧ Below w2.heap.size w2 w' := by
  rcases hR with ⟨hp, rfl, _⟩ | ⟨hp, fb, rfl, h0, h1, _⟩
  · refine ⟨_, rfl, ?_⟩
    rw [hp]
    exact faulted_nil w2
  · obtain ⟨f0, f1⟩ := rd_fault s 16 0 0 hp
    have f0 : (rdV s).1 = 0 := f0
    have f1 : 0 ≤ (rdV s).2 := f1
    have hc : codeOf (rdV s).2 = 1 := by unfold codeOf; rw [if_neg hp]
    rw [f0, hc]
    obtain ⟨p, hpp⟩ := Int.eq_ofNat_of_zero_le f1
    rw [hpp] at h0 ⊢
    refine ⟨_, rfl, faulted_bad hs fb p ?_ ?_⟩
    · exact (hb.cell (show (⟨fb, 0, none⟩ : Addr).block < _ from in_heap h0)).trans h0
    · exact (hb.cell (show (⟨fb, 1, none⟩ : Addr).block < _ from in_heap h0)).trans h1
theorem hex_one : hexS (textN 4607182418800017408) = ⟨#[51, 102, 102, 48, 48, 48, 48, 48, 48, 48, 48, 48, 48, 48, 48, 48]⟩ := by decide +kernel

theorem readOut_of {g0 : Addr} {w w' : World} {s : ByteArray} {e : Ending} (h : ReadOut g0 w (rdV s) e w') : ∃ y, e = .returned (.tuple #[.float .f64 (rdV s).1, y]) ∧ ReadOut g0 w (rdV s) e w' := by
  have hh := h
  rcases h with ⟨hp, rfl, _⟩ | ⟨hp, fb, rfl, _⟩
  · exact ⟨_, rfl, hh⟩
  · have f0 : (rdV s).1 = 0 := (rd_fault s 16 0 0 hp).1
    exact ⟨_, by rw [f0], hh⟩
theorem readOut_nil {g0 : Addr} {w w' : World} {n : Nat} {e : Ending} (h : ReadOut g0 w (n, -1) e w') : e = .returned (.tuple #[.float .f64 n, .nilIface]) ∧ Below w.heap.size w w' := by
  rcases h with ⟨_, rfl, hb⟩ | ⟨hp, _⟩
  · exact ⟨rfl, hb⟩
  · exact absurd rfl hp

set_option maxHeartbeats 4000000 in
theorem btexts_some {w : World} {a : Nat → Addr} (hS : Sents w a) (x : Nat) (s : ByteArray) (hx : x < 18446744073709551616) (hs : s.size ≤ 3000) :
    Calls Tryd.prog 3 #[.float .f64 x, .string s] w fun e w' => e = .returned (.bool true) ∧ Below w.heap.size w w' := by
  have C1 := fun v => text_any 4607182418800017408 v (by omega)
  rw [hex_one] at C1
  have C2 := hideT (fun v => text_any x v hx)
  have C9 := hideT (fun v => bitsText_any x v hx)
  have hback := rdV_hex (textN x) (textN_lt x hx)
  have hsz := hexS_size (textN x)
  have C7 := hideT (fun v g (h : v.cell? ⟨0, 0, none⟩ = some (.iface 83 (.pointer (some g)))) => read_any (hexS (textN x)) g v (by omega) h)
  rw [hback] at C7
  have hsame := textN_same x
  have CS := hideT (hsame ▸ fun v => sameBits_any (textN x) x v)
  have CV := hideT ((sameB_self (rdV s).1) ▸ fun v => sameBits_any (rdV s).1 (rdV s).1 v)
  clear hback hsame
  generalize hexS (textN x) = U at *
  generalize textN x = N at *
  have CX := hideT (fun v => same_any x (rdV s).1 v)
  have CY := hideT (fun v => sameBits_any x (rdV s).1 v)
  generalize sameB x (rdV s).1 = bq at *
  have C3 := hideT (fun v h => read_any s (a 0) v (by omega) h)
  have C4 := hideT (fun v => readBits_any s v (by omega))
  have F5 := hideT (fun (w w1 w2 : World) (e : Ending) hR hs hb => faulted_out (w := w) (w1 := w1) (w2 := w2) (a := a) (s := s) (e := e) hR hs hb)
  have RO := hideT (fun (w w' : World) (e : Ending) h => readOut_of (g0 := a 0) (w := w) (w' := w') (s := s) (e := e) h)
  generalize rdV s = r at *
  obtain ⟨V, P⟩ := r
  generalize codeOf (V, P).2 = cd at *
  go_enter Tryd.func3, Tryd.ntmps3
  go_wp2_with fail
  refine (C1 _).mono ?_
  rintro e w1 ⟨rfl, b1⟩
  have S1 := hS.below b1 (Nat.le_refl _)
  have B1 := hideT b1
  clear b1 hS C1
  go_wp2_with fail
  refine (unhideT C2 _).mono ?_
  rintro e w2 ⟨rfl, b2⟩
  have S2 := S1.below b2 (Nat.le_refl _)
  have B2 := hideT ((unhideT B1).trans (b2.mono (unhideT B1).size))
  clear b2 S1 B1 C2
  go_wp2_with fail
  refine (unhideT C3 _ S2.g0).mono ?_
  intro e w3 hQ
  have b3 := readOut_below hQ
  obtain ⟨y, rfl, _⟩ := unhideT RO _ _ _ hQ
  have Q3 := hideT hQ
  have S3 := S2.below b3 (Nat.le_refl _)
  have B3 := hideT ((unhideT B2).trans (b3.mono (unhideT B2).size))
  clear b3 hQ B2 S2 C3 RO
  go_wp2_with fail
  refine (unhideT C4 _).mono ?_
  rintro e w4 ⟨rfl, b4⟩
  have z4 := b4.size
  have b4' := b4.alloc z4 (.cells #[.int .i64 cd, .int .i64 P] 29)
  have S4 := S3.below b4' (Nat.le_refl _)
  obtain ⟨y', he, CF⟩ := unhideT F5 _ _ _ _ (unhideT Q3) S4 b4'
  simp only [Ending.returned.injEq, Value.tuple.injEq, Array.mk.injEq, List.cons.injEq, and_true, true_and] at he
  subst he
  have B4 := hideT ((unhideT B3).trans (b4'.mono (unhideT B3).size))
  have CC := hideT CF
  clear b4 b4' CF Q3 S3 B3 C4 F5
  go_wp2_with fail
  refine (unhideT CC).mono ?_
  rintro e w5 ⟨rfl, b5⟩
  have S5 := S4.below b5 (Nat.le_refl _)
  have B5 := hideT ((unhideT B4).trans (b5.mono (unhideT B4).size))
  clear b5 S4 B4 CC z4
  go_wp2_with fail
  refine (unhideT C7 _ _ S5.g0).mono ?_
  intro e w6 hQ
  obtain ⟨rfl, b6⟩ := readOut_nil hQ
  have B6 := hideT ((unhideT B5).trans (b6.mono (unhideT B5).size))
  clear b6 hQ S5 B5 C7
  go_wp2_with fail
  refine (unhideT CV _).mono ?_
  rintro e w7 ⟨rfl, rfl⟩
  go_wp2_with fail
  refine (unhideT CS _).mono ?_
  rintro e w8 ⟨rfl, rfl⟩
  go_wp2_with fail
  refine (unhideT CX _).mono ?_
  rintro e w9 ⟨rfl, rfl⟩
  go_wp2_with fail
  refine (unhideT C9 _).mono ?_
  rintro e w10 ⟨rfl, b10⟩
  have B10 := hideT ((unhideT B6).trans (b10.mono (unhideT B6).size))
  clear b10 B6 C9
  go_wp2_with fail
  refine (unhideT CY _).mono ?_
  rintro e w11 ⟨rfl, rfl⟩
  go_wp2
  go_ret
  exact ⟨rfl, unhideT B10⟩
theorem btexts_none (x : Nat) (s : ByteArray) (w : World) (hs : 3000 < s.size) (h2 : s.size ≤ 9223372036854775807) :
    Calls Tryd.prog 3 #[.float .f64 x, .string s] w fun e w' => e = .returned (.bool true) ∧ Below w.heap.size w w' := by
  have C1 := fun v => text_any 4607182418800017408 v (by omega)
  rw [hex_one] at C1
  go_enter Tryd.func3, Tryd.ntmps3
  go_wp2_with fail
  refine (C1 _).mono ?_
  rintro e w1 ⟨rfl, b1⟩
  have B1 := hideT b1
  clear b1 C1
  go_wp2
  go_ret
  exact ⟨rfl, unhideT B1⟩
end Go.Proofs.YtekbhjacgdncbacDoor
