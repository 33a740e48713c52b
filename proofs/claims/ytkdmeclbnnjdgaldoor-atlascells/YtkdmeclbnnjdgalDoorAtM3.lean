/-
  The program's New, Size, and what Add asks.
-/
import Derived.Test.YtkdmeclbnnjdgalDoorAtM2
namespace Go.Proofs.YtkdmeclbnnjdgalDoor
open Go Go.RowKit
open Go.Maps (Keyed)
open Go.MapKept (Stamped)
open Go.ChangeMaps (setBlock heap_setBlock_same heap_setBlock_other)

theorem GOf_nil (lv : Int) : GOf lv [] = fun _ => [] := rfl
theorem arep_new {w : World} {lv : Int} (h1 : 0 ≤ lv ∧ lv ≤ 12) : ARep (((w.alloc (.map #[] 0)).alloc (.map #[] 0)).alloc (.cells #[.int .i64 lv, .slice none 0 0, .map (some w.heap.size), .map (some (w.heap.size + 1)), .int .i64 0] 110)) (w.heap.size + 1 + 1) lv [] (fun k => k = w.heap.size + 1 + 1 ∨ k = w.heap.size ∨ k = w.heap.size + 1) 0 := by
  have a3 := alloc_last ((w.alloc (.map #[] 0)).alloc (.map #[] 0)) (.cells #[.int .i64 lv, .slice none 0 0, .map (some w.heap.size), .map (some (w.heap.size + 1)), .int .i64 0] 110)
  rw [World.size_alloc, World.size_alloc] at a3
  have a2 := alloc_last (w.alloc (.map #[] 0)) (.map #[] 0)
  rw [World.size_alloc] at a2
  have a1 := alloc_last w (.map #[] 0)
  refine ⟨.slice none 0 0, w.heap.size, w.heap.size + 1, #[], 0, ⟨h1, a3, ⟨World.ownsRow_nil _ _ _ _⟩, ⟨.map [], ?_, fun s _ => ?_⟩, ?_, by omega, by omega, by omega, fun e h => (by cases h), fun e h => (by cases h)⟩, fun k => ?_⟩
  · have := World.ownsMap_made (H := Unit) w Tryd.prog 9 Go.unitElem
    obtain ⟨es, c, hb, r⟩ := this
    exact ⟨es, c, keepA (keepA hb), r⟩
  · simp [Maps.has]
  · exact ⟨keepA a2, MapKept.stamped_empty 0, fun x hx => (by cases hx), fun _ _ _ => rfl, fun x hx => (by cases hx)⟩
  · unfold ownO
    constructor
    · rintro (h | h | h)
      · exact .inl h
      · exact .inr (.inl h)
      · exact .inr (.inr (.inl h))
    · rintro (h | h | h | h | ⟨x, hx, _⟩)
      · exact .inl h
      · exact .inr (.inl h)
      · exact .inr (.inr h)
      · cases h
      · cases hx
set_option maxRecDepth 100000 in
set_option maxHeartbeats 3200000 in
theorem pnew_any {a : Nat → Addr} {w : World} (hS : Sents w a) (l : Int) : Calls Tryd.prog 51 #[.int .i64 l] w fun e w' => NewPost a ARep w l e w' ∧ Below w.heap.size w w' := by
  have hl := fun u => level_any l u
  have s1 := hS.g1
  have hmm := @run_makeMap Tryd.prog
  have e0 : lvB l = lvlB l := rfl
  by_cases q : lvlB l = true
  case neg =>
    have HN : HeldR (∀ u : World, NewPost a ARep w l (.returned (.tuple #[.pointer none, .iface 207 (.pointer (some (a 1)))])) u) := hideR (fun u => by unfold NewPost; rw [e0, if_neg q])
    rw [Bool.not_eq_true] at q
    rw [q] at hl
    clear e0 q hS
    generalize NewPost a ARep w l = NP at *
    go_enter Tryd.func51, Tryd.ntmps51
    go_wp2_with fail
    refine (hl _).mono ?_
    rintro e u2 ⟨rfl, rfl⟩
    clear hl
    go_wp2_with fail
    go_region
    go_wp2
    go_ret2
    exact ⟨unhideR HN _, drewF (Below.refl _ _)⟩
  have HN : HeldR (NewPost a ARep w l (.returned (.tuple #[.pointer (some ⟨w.heap.size + 1 + 1, 0, none⟩), .nilIface])) (((w.alloc (.map #[] 0)).alloc (.map #[] 0)).alloc (.cells #[.int .i64 l, .slice none 0 0, .map (some w.heap.size), .map (some (w.heap.size + 1)), .int .i64 0] 110))) := hideR (by
    unfold NewPost
    rw [e0, if_pos q]
    refine ⟨_, _, rfl, arep_new (w := w) (of_decide_eq_true q), fun k hk => ?_⟩
    rcases hk with h | h | h <;> omega)
  rw [q] at hl
  clear e0 q hS s1
  generalize NewPost a ARep w l = NP at *
  go_enter Tryd.func51, Tryd.ntmps51
  go_wp2_with fail
  refine (hl _).mono ?_
  rintro e u2 ⟨rfl, rfl⟩
  clear hl
  go_wp2
  go_ret2
  exact ⟨unhideR HN, below_go (below_go (below_a _ _) (below_a _ _)) (below_a _ _)⟩
theorem ARep.slice {w : World} {p : Nat} {lv : Int} {L : List En} {O : Nat → Prop} {sn : Int} (h : ARep w p lv L O sn) : ∃ ad cap bn bc, w.heap[p]? = some (.cells #[.int .i64 lv, .slice ad L.length cap, .map (some bn), .map (some bc), .int .i64 sn] 110) := by
  obtain ⟨sv, bn, bc, es, clock, hx, hO⟩ := h
  obtain ⟨ad, cap, e, _⟩ := hx.st.at
  have := hx.hp
  rw [e] at this
  exact ⟨ad, cap, bn, bc, this⟩
set_option maxRecDepth 100000 in
set_option maxHeartbeats 3200000 in
theorem psize2_any {w : World} {p : Nat} {lv : Int} {L : List En} {O : Nat → Prop} {sn : Int} (h : ARep w p lv L O sn) : Calls Tryd.prog 54 #[.pointer (some ⟨p, 0, none⟩)] w fun r w' => r = .returned (.int .i64 L.length) ∧ w' = w := by
  obtain ⟨ad, cap, bn, bc, hp⟩ := h.slice
  have x1 := (cells_at hp 1 (by simp)).1
  generalize L.length = n at *
  clear h
  go_enter Tryd.func54, Tryd.ntmps54
  go_wp2
  go_ret
  exact ⟨rfl, rfl⟩
set_option maxRecDepth 100000 in
set_option maxHeartbeats 3200000 in
theorem pisName_any (s : ByteArray) (hs : s.size ≤ 9223372036854775807) (w : World) : Calls Tryd.prog 75 #[.string s] w fun e w' => e = .returned (.bool (decide (0 < s.size ∧ s.size ≤ 40))) ∧ w' = w := by
  by_cases q : s = ByteArray.empty
  · subst q
    rw [show decide (0 < ByteArray.empty.size ∧ ByteArray.empty.size ≤ 40) = false from rfl]
    go_enter Tryd.func75, Tryd.ntmps75
    go_wp2
    go_ret
    exact ⟨rfl, rfl⟩
  have h0 : 0 < s.size := by
    rcases Nat.eq_zero_or_pos s.size with h | h
    · exact absurd (ByteArray.ext (Array.eq_empty_of_size_eq_zero h)) q
    · exact h
  have hd : decide (0 < s.size ∧ s.size ≤ 40) = decide ((s.size : Int) ≤ 40) := by
    rw [Bool.eq_iff_iff]
    simp only [decide_eq_true_eq]
    omega
  have hte : s.toList.isEmpty = false := by
    rw [ByteArray.toList_eq]
    cases hq : s.data.toList with
    | nil =>
      have h1 := congrArg List.length hq
      simp at h1
      have h2 : s.size = 0 := by show s.data.size = 0; rw [h1]; rfl
      omega
    | cons x l => rfl
  rw [hd]
  clear hd
  go_enter Tryd.func75, Tryd.ntmps75
  go_wp2
  all_goals go_ret
  all_goals first | exact absurd (by assumption) q | exact ⟨rfl, rfl⟩
/-- is there an entry of that name? -/
def hasN (s : ByteArray) (L : List En) : Bool := decide (∃ e ∈ L, e.nm = s)
theorem zeroU (w : World) : (zeroValue 162).run Tryd.prog w = .ok (.agg #[]) w := by kernel_rfl
theorem lawStr : Keyed Tryd.prog 9 := Maps.string_keyed Tryd.underlying9
theorem NMap.look {w : World} {b : Nat} {L : List En} (h : NMap w b L) (s : ByteArray) (hs : s.size ≤ maxLen) : (Instr.lookup 107 (.map (some b)) (.string s) true).run Tryd.prog w = .ok (.tuple #[.agg #[], .bool (hasN s L)]) w := by
  obtain ⟨D, hD, hh⟩ := h.ex
  obtain ⟨v, ps, hrun, hv⟩ := hD.look_ok lawStr Tryd.underlying107 (zeroU w) (unitElem_mk (H := Unit)) (WideMaps.keyOf_string_mk Tryd.underlying9 hs)
  obtain ⟨rfl, _⟩ := unitElem_inv hv
  rw [hrun, hh s hs]
  rfl
set_option maxRecDepth 100000 in
set_option maxHeartbeats 3200000 in
theorem phas_any {w : World} {p : Nat} {lv : Int} {L : List En} {O : Nat → Prop} {sn : Int} (h : ARep w p lv L O sn) (s : ByteArray) (hs : s.size ≤ 140737488355328) : Calls Tryd.prog 76 #[.pointer (some ⟨p, 0, none⟩), .string s] w fun r w' => r = .returned (.bool (hasN s L)) ∧ Below w.heap.size w w' := by
  obtain ⟨sv, bn, bc, es, clock, hx, hO⟩ := h
  have x2 := (cells_at hx.hp 2 (by simp)).1
  have hlk := hx.nm.look s (by unfold maxLen; omega)
  generalize hasN s L = q at *
  clear hx hO
  go_enter Tryd.func76, Tryd.ntmps76
  go_wp2
  go_ret
  exact ⟨rfl, below_a w _⟩
set_option maxRecDepth 100000 in
set_option maxHeartbeats 3200000 in
theorem pfull_any {w : World} {p : Nat} {lv : Int} {L : List En} {O : Nat → Prop} {sn : Int} (h : ARep w p lv L O sn) : Calls Tryd.prog 77 #[.pointer (some ⟨p, 0, none⟩)] w fun r w' => r = .returned (.bool (decide (4000 ≤ (L.length : Int)))) ∧ w' = w := by
  obtain ⟨ad, cap, bn, bc, hp⟩ := h.slice
  have x1 := (cells_at hp 1 (by simp)).1
  have x3 := (cells_at hp 3 (by simp)).1
  have heq : ∀ u, (binOp .eql 108 (.map (some bc)) (.map none)).run Tryd.prog u = .ok (.bool false) u := fun u => rfl
  generalize L.length = n at *
  clear h hp
  go_enter Tryd.func77, Tryd.ntmps77
  go_wp2
  all_goals go_ret
  all_goals exact ⟨rfl, rfl⟩
end Go.Proofs.YtkdmeclbnnjdgalDoor
