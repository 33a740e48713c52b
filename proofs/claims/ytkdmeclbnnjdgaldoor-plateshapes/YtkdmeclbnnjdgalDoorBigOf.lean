/-
  meridianref1.BigOf by its contract.
-/
import Derived.Test.YtkdmeclbnnjdgalDoorProg
import Derived.Test.YtkdmeclbnnjdgalDoorNum
import Derived.WalkKit
import Derived.WalkSpells
import Derived.WalkLawsBesides
import Derived.BigQuiet
namespace Go.Proofs.YtkdmeclbnnjdgalDoor
open Go.RowKit

theorem hide {p : Prop} (h : p) : Hid p := h
theorem unhide {p : Prop} (h : Hid p) : p := h

theorem info3 : (Tryd.prog.info? 3).map (fun i => (i.zero, i.size, i.bytes)) = some (some (.int .i64 0), 1, 8) := by kernel_rfl

theorem pw4 : pw 4 = 1000000000000000000000000 := by simp [pw]
theorem len_small {L : List Int} {m n : Int} (hd : Digs L) (hm : 0 < m) (e : val L + pw L.length * m = n) (hn : n ≤ 9223372036854775807) (hl : L.length ≤ 4) : L.length ≤ 3 := by
  rcases Nat.lt_or_ge L.length 4 with h | h
  · omega
  · have : L.length = 4 := by omega
    rw [this, pw4] at e
    have := val_nonneg L hd
    omega
theorem bigOf_step {L : List Int} {m n : Int} (hm : 0 < m) (hd : Digs L) (e : val L + pw L.length * m = n) :
    val (L ++ [m % 1000000]) + pw (L ++ [m % 1000000]).length * (m / 1000000) = n ∧ Digs (L ++ [m % 1000000]) ∧ (m / 1000000 = 0 → Top (L ++ [m % 1000000])) := by
  refine ⟨?_, ?_, ?_⟩
  · have h1 : pw (L ++ [m % 1000000]).length = pw L.length * 1000000 := by rw [List.length_append, pw_add]; simp [pw]
    have hv : val [m % 1000000] = m % 1000000 := by simp [val]
    rw [val_append, h1, hv, ← e, Int.mul_assoc]
    have h2 : m = 1000000 * (m / 1000000) + m % 1000000 := by omega
    have h3 : pw L.length * m = pw L.length * (1000000 * (m / 1000000)) + pw L.length * (m % 1000000) := by rw [← Int.mul_add, ← h2]
    omega
  · intro d hx
    rcases List.mem_append.1 hx with h | h
    · exact hd d h
    · simp at h; subst h; omega
  · intro hz k hk
    simp at hk
    subst hk
    simp [List.getD_eq_getElem?_getD]; omega

set_option maxHeartbeats 400000 in
theorem bigOf_any (n : Int) (w : World) (h0 : 0 ≤ n) (h1 : n ≤ 9223372036854775807) :
    Calls Tryd.prog 69 #[.int .i64 n] w fun e w' => ∃ v : Value, e = .returned v ∧ ∃ L : List Int, w'.ownsRow w.heap.size 3 1 v L.length (L.map (Value.int .i64)) ∧ Digs L ∧ Top L ∧ val L = n ∧ L.length ≤ 4 ∧ (L = [] → v = .slice none 0 0) ∧ Below w.heap.size w w' := by
  obtain ⟨i0, hi, hz0, hz1, hz2⟩ := info_parts info3
  have H1 : Hid (n ≤ 9223372036854775807) := h1
  clear h1
  go_enter Tryd.func69, Tryd.ntmps69
  go_wp2
  go_loopw [0, 3] (fun x v wr => ∃ (m : Int) (L : List Int), x = .int .i64 m ∧ 0 ≤ m ∧ m ≤ n ∧ val L + pw L.length * m = n ∧ Digs L ∧ (m = 0 → Top L) ∧ L.length ≤ 4 ∧ (L = [] → v = .slice none 0 0) ∧ wr.ownsRow w.heap.size 3 1 v L.length (L.map (Value.int .i64)) ∧ Below w.heap.size w wr)
    (fun x _ _ => (intOf x).toNat)
  case atStart => exact ⟨n, [], rfl, h0, Int.le_refl _, by simp [val, pw], (fun d hd => by simp at hd), (fun _ k hk => by simp at hk), by simp, fun _ => rfl, World.ownsRow_nil _ _ _ _, Below.refl _ _⟩
  case round =>
    obtain ⟨m, L, rfl, hm0, hmn, he, hd, ht, hl, hnil, hown, hb⟩ := hrel
    have hm9 : m ≤ 9223372036854775807 := Int.le_trans hmn H1.out
    by_cases hpos : 0 < m
    · have S := bigOf_step hpos hd he
      have hl3 := len_small hd hpos he H1.out hl
      have HS := hide S
      have HE := hide he
      have hsz := hb.size
      clear S he ht
      go_wp2_with (first
        | (at_builtin; refine wpList_append_own _ rfl _ _ 128 rfl w.heap.size 3 i0 (.int .i64 0) 1 8 Tryd.underlying128 hi hz0 hz1 hz2 rfl (by decide) _ _ _ rfl (hown.alloc _) ⟨wr.heap.size, 0, none⟩ 1 1 [.int .i64 (m % 1000000)] rfl rfl ?c1 ?c2 ?c3 ?c4 ?c5 ?_))
      case c1 => exact cell_one_new _ _ _
      case c2 => intro u hu; simp at hu; subst hu; rfl
      case c3 => unfold maxLen; omega
      case c4 => omega
      case c5 => simp; omega
      · intro v' w1 hown' hgrow _
        have hB : Below w.heap.size w w1 := (hb.alloc hsz _).grown hgrow (by simp; omega) (fun k e => (hown.lt k e).1)
        have hne : L ++ [m % 1000000] ≠ [] := by simp
        clear hgrow hown
        go_wp2
        go_roundw
        case rel => exact ⟨m / 1000000, L ++ [m % 1000000], rfl, by omega, by omega, (unhide HS).1, (unhide HS).2.1, (unhide HS).2.2, by simp; omega, fun h => absurd h hne, by simpa using hown', hB⟩
        case measure => simp [intOf]; omega
    · have hm : m = 0 := by omega
      have hv : val L = n := by rw [hm] at he; simpa using he
      have HV := hide hv
      have HT := hide (ht hm)
      clear hv he ht hm
      go_wp2
      go_ret
      exact ⟨_, rfl, L, hown, hd, unhide HT, unhide HV, hl, hnil, hb⟩
end Go.Proofs.YtkdmeclbnnjdgalDoor
