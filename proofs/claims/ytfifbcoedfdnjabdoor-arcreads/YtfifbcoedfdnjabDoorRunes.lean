/-
  The document's list of runes, by its contract.
-/
import Derived.Test.YtfifbcoedfdnjabDoorRuneList
namespace Go.Proofs.YtfifbcoedfdnjabDoor
open Go.RowKit Go.Lib

theorem infoInt : (Tryd.prog.info? 3).map (fun i => (i.zero, i.size, i.bytes)) = some (some (.int .i64 0), 1, 8) := by kernel_rfl

/-- O is read of s, up to place i. -/
def ReadTo (s : ByteArray) (i : Nat) (O : List Int) : Prop := ∀ R, Runs (s.extract i s.size) R → Runs s (O.map told ++ R)
theorem readTo_start (s : ByteArray) : ReadTo s 0 [] := fun R h => by
  have e : s.extract 0 s.size = s := by
    apply ByteArray.ext
    rw [ByteArray.data_extract]
    show s.data.extract 0 s.data.size = s.data
    simp
  rw [e] at h
  exact h
theorem readTo_step {s : ByteArray} {i : Nat} {O : List Int} (h : ReadTo s i O) (hi : i < s.size) : ReadTo s (i + (Utf8.decode s i).2) (O ++ [(runeR s i).1]) := fun R hR => by
  have := h _ (runs_step s i hi R hR)
  rw [List.map_append, List.append_assoc]
  exact this
theorem readTo_end {s : ByteArray} {O : List Int} (h : ReadTo s s.size O) : Runs s (O.map told) := by
  have := h [] (.done (by rw [ByteArray.size_extract]; omega))
  rw [List.append_nil] at this
  exact this

set_option maxHeartbeats 1000000 in
theorem runes_any (s : ByteArray) (w : World) (hs : s.size ≤ 1000000) :
    Calls Tryd.prog 37 #[.string s] w fun e w' => ∃ (v : Value) (O : List Int), e = .returned v ∧ w'.ownsRow w.heap.size 3 1 v O.length (O.map (Value.int .i64)) ∧ Runs s (O.map told) ∧ (∀ x ∈ O, -1 ≤ x ∧ x ≤ 1114111) ∧ O.length ≤ 1000000 ∧ (O = [] → v = .slice none 0 0) ∧ Below w.heap.size w w' := by
  obtain ⟨i0, hi, hz0, hz1, hz2⟩ := info_parts infoInt
  go_enter Tryd.func37, Tryd.ntmps37
  go_wp2
  go_loopw [3, 4] (fun v x wr => ∃ (i : Nat) (O : List Int), x = .int .i64 i ∧ i ≤ s.size ∧ Held (ReadTo s i O) ∧ Held (∀ x ∈ O, -1 ≤ x ∧ x ≤ 1114111) ∧ O.length ≤ i ∧ (O = [] → v = .slice none 0 0) ∧ wr.ownsRow w.heap.size 3 1 v O.length (O.map (Value.int .i64)) ∧ Below w.heap.size w wr)
    (fun _ x _ => s.size - (RowKit.intOf x).toNat)
  case atStart => exact ⟨0, [], rfl, Nat.zero_le _, readTo_start s, (fun x hx => by cases hx), by simp, fun _ => rfl, World.ownsRow_nil _ _ _ _, Below.refl _ _⟩
  case round =>
    obtain ⟨i, O, rfl, hi', HR, HA, hl, hnil, hown, hb⟩ := hrel
    by_cases hlt : i < s.size
    · have hst := readTo_step (unhide HR) hlt
      have hw := width_at s i hlt
      have hx := runeR_range s i hlt
      have hd := (runeR_decode s i hlt).2
      have CR := hide (runeAt_any s i wr hlt (by omega))
      generalize (Utf8.decode s i).2 = wd at hst hw hd
      rw [hd] at CR
      generalize (runeR s i).1 = x at hst hx CR
      have HST := hide hst
      have hsz := hb.size
      clear hst hd HR
      obtain ⟨w1, w2⟩ := hw
      go_wp2_with fail
      refine (unhide CR).mono ?_
      rintro e w' ⟨rfl, rfl⟩
      go_wp2_with (first
        | (at_builtin; refine wpList_append_own _ rfl _ _ 41 rfl w.heap.size 3 i0 (.int .i64 0) 1 8 Tryd.underlying41 hi hz0 hz1 hz2 rfl (by decide) _ _ _ rfl (hown.alloc _) ⟨w'.heap.size, 0, none⟩ 1 1 [.int .i64 x] rfl rfl ?c1 ?c2 ?c3 ?c4 ?c5 ?_))
      case c1 => exact cell_one_new _ _ _
      case c2 => intro u hu; simp at hu; subst hu; rfl
      case c3 => unfold maxLen; omega
      case c4 => omega
      case c5 => simp; omega
      · intro v' w1' hown' hgrow _
        have hB : Below w.heap.size w w1' := (hb.alloc hsz _).grown hgrow (by simp; omega) (fun k e => (hown.lt k e).1)
        have hne : O ++ [x] ≠ [] := by simp
        have hall : ∀ y ∈ O ++ [x], -1 ≤ y ∧ y ≤ 1114111 := fun y hy => by
          rcases List.mem_append.1 hy with h | h
          · exact unhide HA y h
          · simp at h; subst h; exact hx
        have HAll := hide hall
        clear hgrow hown hall
        go_wp2
        go_roundw
        case rel => exact ⟨i + wd, O ++ [x], by go_num, by omega, HST, HAll, by simp; omega, fun h => absurd h hne, by simpa using hown', hB⟩
        case measure => simp [RowKit.intOf]; omega
    · obtain rfl : i = s.size := by omega
      have HE := hide (readTo_end (unhide HR))
      go_wp2
      go_ret
      exact ⟨_, O, rfl, hown, unhide HE, unhide HA, by omega, hnil, hb⟩
end Go.Proofs.YtfifbcoedfdnjabDoor
