/-
  The document's numbers in digits by their contracts.
-/
import Derived.Test.YtfifbcoedfdnjabDoorOfWalk
import Derived.Laws.IdiomStrings
namespace Go.Proofs.YtfifbcoedfdnjabDoor
open Go.RowKit Go.Lib

theorem dig_nat (n : Nat) : ((dig n).toNat : Int) = 48 + (n : Int) % 10 := by
  unfold dig
  rw [UInt8.toNat_ofNat', Nat.mod_eq_of_lt (by omega)]
  omega

theorem conv_one (w : World) (g c : Nat) (n : Nat) (z : Int) (hz : z = 48 + (n : Int) % 10) (hc : w.cell? ⟨g, 0, none⟩ = some (.int .u8 z)) :
    (convert 71 9 (.slice (some ⟨g, 0, none⟩) 1 c)).run Tryd.prog w = .ok (.string (str [dig n])) w := by
  refine run_convert_bytes_back w 71 9 5 ⟨g, 0, none⟩ c [dig n] Tryd.underlying71 Tryd.underlying5 Tryd.underlying9 (fun j hj => ?_)
  obtain rfl : j = 0 := by simp at hj; omega
  show w.cell? ⟨g, 0, none⟩ = _
  rw [hc, hz, ← dig_nat]
  rfl
theorem conv_new (u : World) (n : Nat) :
    (convert 71 9 (.slice (some ⟨u.heap.size, 0, none⟩) 1 1)).run Tryd.prog (u.alloc (.cells #[.int .u8 (48 + (n : Int) % 10)] 5)) = .ok (.string (str [dig n])) (u.alloc (.cells #[.int .u8 (48 + (n : Int) % 10)] 5)) :=
  conv_one _ _ _ n _ rfl (by simp [go_sem])

set_option maxHeartbeats 1000000 in
set_option maxRecDepth 100000 in
theorem wide_any (m n : Nat) (w : World) (hm : m ≤ 18) (hn : n < 9000000000000000000) :
    Calls Tryd.prog 33 #[.int .i64 n, .int .i64 m] w fun e w' => ∃ s, e = .returned (.string s) ∧ Kept (s = str (wide m n)) ∧ s.size = m ∧ Below w.heap.size w w' := by
  go_enter Tryd.func33, Tryd.ntmps33
  go_wp2
  go_loopw [0, 5, 6] (fun x y z wr => ∃ (i r : Nat) (s : ByteArray), i ≤ m ∧ r = n / 10 ^ i ∧ x = .int .i64 r ∧ y = .string s ∧ z = .int .i64 i ∧ Kept (s = str (wide i n)) ∧ s.size = i ∧ Below w.heap.size w wr) (fun _ _ z _ => m - (RowKit.intOf z).toNat)
  case atStart => exact ⟨0, n, _, Nat.zero_le _, by simp, rfl, rfl, rfl, rfl, rfl, Below.refl _ _⟩
  case round =>
    obtain ⟨i, r, s, hi, hr, rfl, rfl, rfl, HS, hz, hb⟩ := hrel
    have HR := keep hr
    have hrn : r ≤ n := by rw [hr]; exact Nat.div_le_self _ _
    clear hr
    by_cases hlt : i < m
    · have hcv := fun u => conv_new u r
      have hds : (str [dig r]).size = 1 := str_size _
      generalize hd : str [dig r] = d at hcv hds
      have HD := keep hd
      clear hd
      go_wp2
      refine ⟨⟨i + 1, r / 10, d ++ s, by omega, ?_, by go_num, rfl, by go_num, ?_, by rw [ByteArray.size_append]; omega, hb.alloc hb.size _⟩, by simp [RowKit.intOf]; omega⟩
      · rw [kept HR, Nat.div_div_eq_div_mul, Nat.pow_succ]
      · show d ++ s = _
        rw [← kept HD, kept HS, str_append, wide_cons, kept HR]; rfl
    · obtain rfl : i = m := by omega
      go_wp2
      go_ret
      exact ⟨s, rfl, HS, hz, hb⟩
end Go.Proofs.YtfifbcoedfdnjabDoor
