/-
  The document's decimal digits of a side, by contract.
-/
import Derived.Test.YtncbmkflilcdgaiGreatDoorFfNum
import Derived.Laws.Concat
import Derived.Laws.IdiomStrings
namespace Go.Proofs.YtncbmkflilcdgaiGreatDoor
open Go Go.RowKit

def strB (l : List UInt8) : ByteArray := ⟨l.toArray⟩
theorem strB_append (x y : List UInt8) : strB x ++ strB y = strB (x ++ y) := ByteArray.mk_append_mk x y
theorem strB_size (l : List UInt8) : (strB l).size = l.length := by simp [strB, ByteArray.size]
theorem dg_nat (n : Nat) : ((dg n).toNat : Int) = 48 + (n : Int) % 10 := by
  unfold dg
  rw [UInt8.toNat_ofNat', Nat.mod_eq_of_lt (by omega)]
  omega
theorem conv_dg (w : World) (g c : Nat) (n : Nat) (z : Int) (hz : z = 48 + (n : Int) % 10) (hc : w.cell? ⟨g, 0, none⟩ = some (.int .u8 z)) :
    (convert 27 9 (.slice (some ⟨g, 0, none⟩) 1 c)).run Tryz.prog w = .ok (.string (strB [dg n])) w := by
  refine run_convert_bytes_back w 27 9 5 ⟨g, 0, none⟩ c [dg n] Tryz.underlying27 Tryz.underlying5 Tryz.underlying9 (fun j hj => ?_)
  obtain rfl : j = 0 := by simp at hj; omega
  show w.cell? ⟨g, 0, none⟩ = _
  rw [hc, hz, ← dg_nat]
  rfl
theorem conv_dlate {w w1 : World} {n : Nat} (hb : Below (w.alloc (.cells #[.int .u8 (48 + (n : Int) % 10)] 5)).heap.size ((w.alloc (.cells #[.int .u8 (48 + (n : Int) % 10)] 5)).drew) w1) :
    (convert 27 9 (.slice (some ⟨w.heap.size, 0, none⟩) 1 1)).run Tryz.prog w1 = .ok (.string (strB [dg n])) w1 :=
  conv_dg _ _ _ n _ rfl ((hb.cell (p := ⟨w.heap.size, 0, none⟩) (by show w.heap.size < (w.heap.push _).size; simp)).trans (by simp [go_sem]))
theorem below_da {w w1 : World} {o : Obj} (hb : Below w.heap.size w.drew w1) : Below w.heap.size w (w1.alloc o) :=
  (show Below w.heap.size w w1 from ⟨hb.os, hb.tape, hb.output, hb.size, hb.block⟩).alloc hb.size o
theorem below_db {w w1 : World} {o : Obj} (hb : Below (w.alloc o).heap.size (w.alloc o).drew w1) : Below w.heap.size w w1 :=
  ((Below.refl w.heap.size w).alloc (Nat.le_refl _) o).trans (Below.mono (show Below (w.alloc o).heap.size (w.alloc o) w1 from ⟨hb.os, hb.tape, hb.output, hb.size, hb.block⟩) ((Below.refl w.heap.size w).alloc (Nat.le_refl _) o).size)
theorem dec3_step {n : Nat} (h : ¬ n < 10) (h2 : n < 1000) : dec3 n = dec3 (n / 10) ++ [dg n] := by
  unfold dec3
  rw [if_neg h]
  by_cases k : n < 100
  · rw [if_pos k, if_pos (by omega)]
    rfl
  · rw [if_neg k, if_neg (by omega), if_pos (by omega), show n / 10 / 10 = n / 100 by omega]
    rfl
theorem dec3_len (n : Nat) : (dec3 n).length ≤ 3 := by
  unfold dec3
  split
  · exact Nat.le_add_left 1 2
  · split
    · exact Nat.le_succ 2
    · exact Nat.le_refl 3
def DecPost (n : Nat) (w : World) (e : Ending) (w' : World) : Prop := ∃ s : ByteArray, e = .returned (.string s) ∧ HeldR (s = strB (dec3 n)) ∧ s.size ≤ 3 ∧ Below w.heap.size w w'
set_option maxHeartbeats 2000000 in
set_option maxRecDepth 100000 in
theorem dec_any (n : Nat) : ∀ (z : Int) (w : World), z = n → n < 1000 → Calls Tryz.prog 23 #[.int .i64 z] w (DecPost n w) := by
  induction n using Nat.strongRecOn with
  | _ n ih =>
    intro z w hz hn
    subst hz
    have IH := hideR ih
    clear ih
    by_cases h : n < 10
    · have hcv : ∀ u : World, (convert 27 9 (.slice (some ⟨u.heap.size, 0, none⟩) 1 1)).run Tryz.prog (u.alloc (.cells #[.int .u8 (48 + (n : Int))] 5)) = .ok (.string (strB [dg n])) (u.alloc (.cells #[.int .u8 (48 + (n : Int))] 5)) :=
        fun u => conv_dg _ _ _ n (48 + (n : Int)) (by omega) (by simp [go_sem])
      have HF : HeldR (DecPost n w (.returned (.string (strB [dg n]))) (w.alloc (.cells #[.int .u8 (48 + (n : Int))] 5))) := by
        refine ⟨_, rfl, ?_, by rw [strB_size]; simp, below_a _ _⟩
        unfold HeldR dec3
        rw [if_pos h]
      go_enter Tryz.func23, Tryz.ntmps23
      go_wp2
      go_ret
      exact unhideR HF
    · have hcv : ∀ u : World, (convert 27 9 (.slice (some ⟨u.heap.size, 0, none⟩) 1 1)).run Tryz.prog (u.alloc (.cells #[.int .u8 (48 + (n : Int) % 10)] 5)) = .ok (.string (strB [dg n])) (u.alloc (.cells #[.int .u8 (48 + (n : Int) % 10)] 5)) :=
        fun u => conv_dg _ _ _ n _ rfl (by simp [go_sem])
      have hcv2 : ∀ u : World, (convert 27 9 (.slice (some ⟨u.heap.size, 0, none⟩) 1 1)).run Tryz.prog (u.alloc (.cells #[.int .u8 (48 + (n : Int) % 10)] 5)).drew = .ok (.string (strB [dg n])) (u.alloc (.cells #[.int .u8 (48 + (n : Int) % 10)] 5)).drew :=
        fun u => conv_dg _ _ _ n (48 + (n : Int) % 10) rfl (by simp [go_sem])
      have hds : (strB [dg n]).size = 1 := strB_size _
      have HREC := hideR (dec3_step h hn)
      generalize hd : strB [dg n] = d at hcv hcv2 hds
      have HD := hideR hd
      clear hd
      have e1 : IntKind.i64.wrap ((n : Int) / 10) = ((n / 10 : Nat) : Int) := by rw [IntKind.wrap_i64]; omega
      have e2 : ((n : Int)).tmod 10 = (n : Int) % 10 := Int.tmod_eq_emod_of_nonneg (by omega)
      have e3 : IntKind.i64.wrap (48 + (n : Int) % 10) = 48 + (n : Int) % 10 := by rw [IntKind.wrap_i64]; omega
      have e4 : IntKind.u8.wrap (48 + (n : Int) % 10) = 48 + (n : Int) % 10 := by rw [IntKind.wrap_u8]; omega
      have HF : HeldR (∀ (s : ByteArray) u, HeldR (s = strB (dec3 (n / 10))) → Below w.heap.size w u → DecPost n w (.returned (.string (s ++ d))) u) := by
        intro s u hs hu
        have hfin : s ++ d = strB (dec3 n) := by rw [unhideR HREC, ← strB_append, ← unhideR hs, unhideR HD]
        exact ⟨_, rfl, hfin, by rw [hfin, strB_size]; exact dec3_len n, hu⟩
      go_enter Tryz.func23, Tryz.ntmps23
      go_wp2_with fail
      go_region_with ((go_at_call 23; refine (unhideR IH (n / 10) (by omega) _ _ rfl (by omega)).mono ?_; rintro e w1 ⟨s, rfl, HS, hz, hb⟩; (try (have hcw := conv_dlate hb)); (try (rw [unhideR HD] at hcw))))
      all_goals
        go_wp2
        go_ret
        first
          | exact unhideR HF s _ HS (below_da hb)
          | exact unhideR HF s _ HS (below_db hb)
end Go.Proofs.YtncbmkflilcdgaiGreatDoor
