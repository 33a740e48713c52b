/-
  The document's decimal digits by their contract.
-/
import Derived.Test.YtfifbcoedfdnjabDoorWideWalk
import Derived.BigRegion
namespace Go.Proofs.YtfifbcoedfdnjabDoor
open Go.RowKit Go.Lib

theorem dec_len (n : Nat) (h : n < 1000000000000000000) : (decDigits n).length ≤ 18 := dec_length_le 17 n (by omega)

theorem conv_late {w w1 : World} {n : Nat} (hb : Below (w.alloc (.cells #[.int .u8 (48 + (n : Int) % 10)] 5)).heap.size ((w.alloc (.cells #[.int .u8 (48 + (n : Int) % 10)] 5)).drew) w1) :
    (convert 71 9 (.slice (some ⟨w.heap.size, 0, none⟩) 1 1)).run Tryd.prog w1 = .ok (.string (str [dig n])) w1 :=
  conv_one _ _ _ n _ rfl ((hb.cell (p := ⟨w.heap.size, 0, none⟩) (by show w.heap.size < (w.heap.push _).size; simp)).trans (by simp [go_sem]))

theorem below_a {w w1 : World} {o : Obj} (hb : Below w.heap.size w.drew w1) : Below w.heap.size w (w1.alloc o) :=
  (show Below w.heap.size w w1 from ⟨hb.os, hb.tape, hb.output, hb.size, hb.block⟩).alloc hb.size o
theorem below_b {w w1 : World} {o : Obj} (hb : Below (w.alloc o).heap.size (w.alloc o).drew w1) : Below w.heap.size w w1 :=
  ((Below.refl w.heap.size w).alloc (Nat.le_refl _) o).trans (Below.mono (show Below (w.alloc o).heap.size (w.alloc o) w1 from ⟨hb.os, hb.tape, hb.output, hb.size, hb.block⟩) ((Below.refl w.heap.size w).alloc (Nat.le_refl _) o).size)

set_option maxHeartbeats 2000000 in
set_option maxRecDepth 100000 in
theorem decimal_any (n : Nat) : ∀ (z : Int) (w : World), z = n → n < 1000000000000000000 →
    Calls Tryd.prog 30 #[.int .i64 z] w fun e w' => ∃ s, e = .returned (.string s) ∧ Kept (s = str (decDigits n)) ∧ s.size ≤ 18 ∧ Below w.heap.size w w' := by
  induction n using Nat.strongRecOn with
  | _ n ih =>
    intro z w hz hn
    subst hz
    have IH := keep ih
    clear ih
    by_cases h : n < 10
    · have hcv : ∀ u : World, (convert 71 9 (.slice (some ⟨u.heap.size, 0, none⟩) 1 1)).run Tryd.prog (u.alloc (.cells #[.int .u8 (48 + (n : Int))] 5)) = .ok (.string (str [dig n])) (u.alloc (.cells #[.int .u8 (48 + (n : Int))] 5)) :=
        fun u => conv_one _ _ _ n (48 + (n : Int)) (by omega) (by simp [go_sem])
      go_enter Tryd.func30, Tryd.ntmps30
      go_wp2
      go_ret
      refine ⟨_, rfl, ?_, by rw [str_size]; simp, (Below.refl _ w).alloc (Nat.le_refl _) _⟩
      show _ = _
      rw [decDigits_one h]
      unfold dig
      rw [Nat.mod_eq_of_lt h]
    · have hcv := fun u => conv_new u n
      have hcv2 : ∀ u : World, (convert 71 9 (.slice (some ⟨u.heap.size, 0, none⟩) 1 1)).run Tryd.prog (u.alloc (.cells #[.int .u8 (48 + (n : Int) % 10)] 5)).drew = .ok (.string (str [dig n])) (u.alloc (.cells #[.int .u8 (48 + (n : Int) % 10)] 5)).drew :=
        fun u => conv_one _ _ _ n (48 + (n : Int) % 10) rfl (by simp [go_sem])
      have hds : (str [dig n]).size = 1 := str_size _
      have hrec : decDigits n = decDigits (n / 10) ++ [dig n] := by rw [decDigits, dif_neg h]; rfl
      have HREC := keep hrec
      clear hrec
      generalize hd : str [dig n] = d at hcv hcv2 hds
      have HD := keep hd
      clear hd
      have e1 : IntKind.i64.wrap ((n : Int) / 10) = ((n / 10 : Nat) : Int) := by rw [IntKind.wrap_i64]; omega
      have e2 : ((n : Int)).tmod 10 = (n : Int) % 10 := Int.tmod_eq_emod_of_nonneg (by omega)
      have e3 : IntKind.i64.wrap (48 + (n : Int) % 10) = 48 + (n : Int) % 10 := by rw [IntKind.wrap_i64]; omega
      have e4 : IntKind.u8.wrap (48 + (n : Int) % 10) = 48 + (n : Int) % 10 := by rw [IntKind.wrap_u8]; omega
      go_enter Tryd.func30, Tryd.ntmps30
      go_wp2_with fail
      go_region_with ((go_at_call 30; refine (kept IH (n / 10) (by omega) _ _ rfl (by omega)).mono ?_; rintro e w1 ⟨s, rfl, HS, hz, hb⟩; (try (have hcw := conv_late hb)); (try (rw [kept HD] at hcw))))
      all_goals
        go_wp2
        go_ret
        have hfin : s ++ d = str (decDigits n) := by rw [kept HREC, ← str_append, kept HS, kept HD]
        refine ⟨_, rfl, hfin, by rw [hfin, str_size]; exact dec_len n hn, ?_⟩
        first | exact below_a hb | exact below_b hb
end Go.Proofs.YtfifbcoedfdnjabDoor
