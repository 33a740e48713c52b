/-
  ReadDegrees and ReadHours by their contracts.
-/
import Derived.Test.YtfifbcoedfdnjabDoorCaught
namespace Go.Proofs.YtfifbcoedfdnjabDoor
open Go.RowKit Go.Lib

/-- How the two calls that read end. -/
def Read (ad : Addr) (w : World) (r : Got) (e : Ending) (w' : World) : Prop :=
  match r with
  | .bad p => ∃ fb, e = .returned (.tuple #[.int .i64 0, .iface 61 (.pointer (some ⟨fb, 0, none⟩))]) ∧ w'.cell? ⟨fb, 0, none⟩ = some (.int .i64 p) ∧ w'.cell? ⟨fb, 1, none⟩ = some (.iface 151 (.pointer (some ad))) ∧ Below w.heap.size w w'
  | .got n _ _ => e = .returned (.tuple #[.int .i64 n, .nilIface]) ∧ Below w.heap.size w w'

/-- What the two calls lean on. -/
structure Reads (ad : Addr) (w : World) : Prop where
  tabs : Utf8Tabs 13 14 w
  big : 15 ≤ w.heap.size
  text : w.cell? ⟨1, 0, none⟩ = some (.iface 151 (.pointer (some ad)))
theorem Reads.below {ad : Addr} {w w' : World} {B : Nat} (h : Reads ad w) (hb : Below B w w') (hB : 15 ≤ B) : Reads ad w' where
  tabs := tabs_below h.tabs hb hB
  big := Nat.le_trans h.big hb.size
  text := (hb.cell (show (⟨1, 0, none⟩ : Addr).block < B by show 1 < B; omega)).trans h.text

theorem caught_any (f : FuncId) (P : List Int → Got) (s : ByteArray) (L : List Int) (ad : Addr) (w : World) (h : Reads ad w) (hr : Runs s L) (hl : L.length ≤ 1000000000)
    (hc : ∀ args w, (callFunc f args).run Tryd.prog w = .ok (.enter f args) w)
    (hf : ∀ (g : Nat) (v : World), Rd g L 0 v → Calls Tryd.prog f #[.pointer (some ⟨g, 0, none⟩)] v (Out g v (P L) (fun n => .int .i64 n))) :
    Calls Tryd.prog 34 #[.string s, .func (.func f) #[] #[]] w (Read ad w (P L)) := by
  rcases hP : P L with p | ⟨n, M, j⟩
  · rw [hP] at hf
    exact caught_bad f s L p ad w h.tabs hr hl h.big h.text hc hf
  · rw [hP] at hf
    exact caught_got f s L M n j w h.tabs hr hl h.big hc hf

theorem read_of {ad : Addr} {w : World} {r : Got} {e : Ending} {w' : World} (h : Read ad w r e w') : ∃ x y, e = .returned (.tuple #[x, y]) ∧ Read ad w r e w' := by
  rcases r with p | ⟨n, M, j⟩
  · obtain ⟨fb, rfl, hh⟩ := h
    exact ⟨_, _, rfl, fb, rfl, hh⟩
  · obtain ⟨rfl, hh⟩ := h
    exact ⟨_, _, rfl, rfl, hh⟩

theorem readDegrees_any (s : ByteArray) (L : List Int) (ad : Addr) (w : World) (h : Reads ad w) (hr : Runs s L) (hl : L.length ≤ 1000000000) :
    Calls Tryd.prog 16 #[.string s] w (Read ad w (degreesP L)) := by
  have C := hide (caught_any 36 degreesP s L ad w h hr hl (enters_of Tryd.func36 (by kernel_rfl) rfl) (fun g v r => degreesIn_any g L v r))
  generalize degreesP L = res at C
  go_enter Tryd.func16, Tryd.ntmps16
  go_wp2_with fail
  refine (unhide C).mono ?_
  intro e w1 hR
  obtain ⟨x, y, rfl, hR⟩ := read_of hR
  have HR := hide hR
  clear hR
  go_wp2
  go_ret2
  exact unhide HR

theorem readHours_any (s : ByteArray) (L : List Int) (ad : Addr) (w : World) (h : Reads ad w) (hr : Runs s L) (hl : L.length ≤ 1000000000) :
    Calls Tryd.prog 15 #[.string s] w (Read ad w (hoursP L)) := by
  have C := hide (caught_any 35 hoursP s L ad w h hr hl (enters_of Tryd.func35 (by kernel_rfl) rfl) (fun g v r => hoursIn_any g L v r))
  generalize hoursP L = res at C
  go_enter Tryd.func15, Tryd.ntmps15
  go_wp2_with fail
  refine (unhide C).mono ?_
  intro e w1 hR
  obtain ⟨x, y, rfl, hR⟩ := read_of hR
  have HR := hide hR
  clear hR
  go_wp2
  go_ret2
  exact unhide HR
end Go.Proofs.YtfifbcoedfdnjabDoor
