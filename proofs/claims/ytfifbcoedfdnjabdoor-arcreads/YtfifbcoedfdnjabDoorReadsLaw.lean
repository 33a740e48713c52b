/-
  The law ArcReads walked out of the contracts.
-/
import Derived.Test.YtfifbcoedfdnjabDoorReadWalk
import Derived.Test.YtfifbcoedfdnjabDoorDegWalk
import Derived.Test.YtfifbcoedfdnjabDoorFault
namespace Go.Proofs.YtfifbcoedfdnjabDoor
open Go.RowKit Go.Lib

theorem faulted_nil (w : World) : Calls Tryd.prog 18 #[.nilIface, .agg #[.int .i64 0, .int .i64 (-1)]] w fun e w' => e = .returned (.bool true) ∧ Below w.heap.size w w' := by
  go_enter Tryd.func18, Tryd.ntmps18
  go_wp2_with fail
  refine (code_nil _).mono ?_
  rintro e w1 ⟨rfl, rfl⟩
  go_wp2
  go_ret
  exact ⟨rfl, (Below.refl _ _).alloc (Nat.le_refl _) _⟩

theorem faulted_bad {w : World} {a : Nat → Addr} (h : Sents w a) (fb p : Nat) (h0 : w.cell? ⟨fb, 0, none⟩ = some (.int .i64 p)) (h1 : w.cell? ⟨fb, 1, none⟩ = some (.iface 151 (.pointer (some (a 0))))) :
    Calls Tryd.prog 18 #[.iface 61 (.pointer (some ⟨fb, 0, none⟩)), .agg #[.int .i64 1, .int .i64 p]] w fun e w' => e = .returned (.bool true) ∧ Below w.heap.size w w' := by
  have lf := in_heap h0
  have hb : Below w.heap.size w (w.alloc (.cells #[.int .i64 1, .int .i64 p] 33)) := (Below.refl _ _).alloc (Nat.le_refl _) _
  have n0 : (w.alloc (.cells #[.int .i64 1, .int .i64 p] 33)).cell? ⟨w.heap.size, 0, none⟩ = some (.int .i64 1) := new_cellS rfl
  have n1 : (w.alloc (.cells #[.int .i64 1, .int .i64 p] 33)).cell? ⟨w.heap.size, 1, none⟩ = some (.int .i64 p) := new_cellS rfl
  have sz : w.heap.size < (w.alloc (.cells #[.int .i64 1, .int .i64 p] 33)).heap.size := by simp
  have C := hide (code_fault (h.below hb (Nat.le_refl _)) 0 (by omega) fb p ((hb.cell (show (⟨fb, 0, none⟩ : Addr).block < _ from lf)).trans h0) ((hb.cell (show (⟨fb, 1, none⟩ : Addr).block < _ from lf)).trans h1))
  go_enter Tryd.func18, Tryd.ntmps18
  go_wp2_with fail
  refine (unhide C).mono ?_
  rintro e w1 ⟨rfl, hb1⟩
  have k0 := (hb1.cell (show (⟨w.heap.size, 0, none⟩ : Addr).block < _ from sz)).trans n0
  have k1 := (hb1.cell (show (⟨w.heap.size, 1, none⟩ : Addr).block < _ from sz)).trans n1
  have B := hide (hb.trans (hb1.mono (Nat.le_of_lt sz)))
  clear hb hb1 n0 n1 sz C h h0 h1
  go_wp2
  go_ret
  exact ⟨rfl, unhide B⟩

/-- both answers together. -/
theorem faulted_any {w w1 w2 : World} {a : Nat → Addr} {r : Got} {e : Ending} {v c p : Int} (hR : Read (a 0) w r e w1) (hD : DocOut r v c p) (hs : Sents w2 a) (hb : Below w1.heap.size w1 w2) :
    ∃ y, e = .returned (.tuple #[.int .i64 v, y]) ∧ Calls Tryd.prog 18 #[y, .agg #[.int .i64 c, .int .i64 p]] w2 fun e w' => e = .returned (.bool true) ∧ Below w2.heap.size w2 w' := by
  rcases r with q | ⟨n, M, j⟩
  · obtain ⟨fb, rfl, h0, h1, _⟩ := hR
    obtain ⟨rfl, rfl, rfl⟩ := hD
    refine ⟨_, rfl, faulted_bad hs fb q ?_ ?_⟩
    · exact (hb.cell (show (⟨fb, 0, none⟩ : Addr).block < _ from in_heap h0)).trans h0
    · exact (hb.cell (show (⟨fb, 1, none⟩ : Addr).block < _ from in_heap h0)).trans h1
  · obtain ⟨rfl, _⟩ := hR
    obtain ⟨rfl, rfl, rfl⟩ := hD
    exact ⟨_, rfl, faulted_nil _⟩
theorem read_below {ad : Addr} {w : World} {r : Got} {e : Ending} {w' : World} (h : Read ad w r e w') : Below w.heap.size w w' := by
  rcases r with p | ⟨n, M, j⟩
  · obtain ⟨_, _, _, _, hb⟩ := h; exact hb
  · exact h.2

theorem one_hour : Runs ⟨#[49, 104]⟩ [49, 104] := by
  have e1 : decodeGo ⟨#[49, 104]⟩ = (49, 1) := by decide +kernel
  have e2 : decodeGo ⟨#[104]⟩ = (104, 1) := by decide +kernel
  have x1 : (⟨#[49, 104]⟩ : ByteArray).extract 1 2 = ⟨#[104]⟩ := by decide +kernel
  have x2 : (⟨#[104]⟩ : ByteArray).extract 1 1 = ⟨#[]⟩ := by decide +kernel
  have h2 : Runs ⟨#[104]⟩ [((decodeGo ⟨#[104]⟩).1 : Int)] := .more (by decide) (by rw [e2]; show Runs (ByteArray.extract _ 1 1) []; rw [x2]; exact .done rfl)
  rw [e2] at h2
  have h1 : Runs ⟨#[49, 104]⟩ (((decodeGo ⟨#[49, 104]⟩).1 : Int) :: [104]) := .more (by decide) (by rw [e1]; show Runs (ByteArray.extract _ 1 2) [104]; rw [x1]; exact h2)
  rw [e1] at h1
  exact h1
theorem hours_one : hoursP [49, 104] = .got 54000000000 [] 2 := by kernel_rfl

set_option maxHeartbeats 4000000 in
theorem reads_some {w : World} {a : Nat → Addr} (s : ByteArray) (hS : Sents w a) (hR : Reads (a 0) w) (hs : s.size ≤ 3000) :
    Calls Tryd.prog 5 #[.string s] w fun e w' => e = .returned (.bool true) ∧ Below w.heap.size w w' := by
  obtain ⟨L, hL, hl⟩ := runs_exists s.size s (Nat.le_refl _)
  have C1 := hide (readHours_any ⟨#[49, 104]⟩ [49, 104] (a 0) w hR one_hour (by decide))
  rw [hours_one] at C1
  go_enter Tryd.func5, Tryd.ntmps5
  go_wp2_with fail
  refine (unhide C1).mono ?_
  rintro e w1 ⟨rfl, hb1⟩
  clear C1
  have R1 := hR.below hb1 hR.big
  have S1 := hS.below hb1 (Nat.le_refl _)
  have B1 := hide hb1
  clear hb1 hR hS
  have C2 := hide (readDegrees_any s L (a 0) w1 R1 hL (by omega))
  go_wp2_with fail
  refine (unhide C2).mono ?_
  intro e w2 hQ2
  clear C2
  have hb2 := read_below hQ2
  have R2 := R1.below hb2 R1.big
  have S2 := S1.below hb2 (Nat.le_refl _)
  have B2 := hide ((unhide B1).trans (hb2.mono (unhide B1).size))
  obtain ⟨x2, y2, rfl, _⟩ := read_of hQ2
  have Q2 := hide hQ2
  clear hb2 hQ2 R1 S1
  have C3 := hide (degreesOf_any s L w2 hL hs)
  go_wp2_with fail
  refine (unhide C3).mono ?_
  rintro e w3 ⟨v3, c3, p3, rfl, hD3, hb3⟩
  clear C3
  have hz3 := hb3.size
  have hb3' := hb3.alloc hz3 (.cells #[.int .i64 c3, .int .i64 p3] 33)
  have R3 := R2.below hb3' R2.big
  have S3 := S2.below hb3' (Nat.le_refl _)
  obtain ⟨y, he, CF⟩ := faulted_any (unhide Q2) hD3 S3 hb3'
  simp only [Ending.returned.injEq, Value.tuple.injEq, Array.mk.injEq, List.cons.injEq, and_true] at he
  obtain ⟨rfl, rfl⟩ := he
  have B3 := hide ((unhide B2).trans (hb3'.mono (unhide B2).size))
  have CC := hide CF
  clear hb3 hb3' CF Q2 hD3 S2 R2 B2
  go_wp2_with fail
  refine (unhide CC).mono ?_
  rintro e w4 ⟨rfl, hb4⟩
  have R4 := R3.below hb4 R3.big
  have S4 := S3.below hb4 (Nat.le_refl _)
  have B4 := hide ((unhide B3).trans (hb4.mono (unhide B3).size))
  clear hb4 CC S3 R3 B3 hz3
  have C5 := hide (readHours_any s L (a 0) w4 R4 hL (by omega))
  go_wp2_with fail
  refine (unhide C5).mono ?_
  intro e w5 hQ5
  clear C5
  have hb5 := read_below hQ5
  have R5 := R4.below hb5 R4.big
  have S5 := S4.below hb5 (Nat.le_refl _)
  have B5 := hide ((unhide B4).trans (hb5.mono (unhide B4).size))
  obtain ⟨x5, y5, rfl, _⟩ := read_of hQ5
  have Q5 := hide hQ5
  clear hb5 hQ5 R4 S4 B4
  have C6 := hide (hoursOf_any s L w5 hL hs)
  go_wp2_with fail
  refine (unhide C6).mono ?_
  rintro e w6 ⟨v6, c6, p6, rfl, hD6, hb6⟩
  clear C6
  have hz6 := hb6.size
  have hb6' := hb6.alloc hz6 (.cells #[.int .i64 c6, .int .i64 p6] 33)
  have S6 := S5.below hb6' (Nat.le_refl _)
  obtain ⟨y, he, CF⟩ := faulted_any (unhide Q5) hD6 S6 hb6'
  simp only [Ending.returned.injEq, Value.tuple.injEq, Array.mk.injEq, List.cons.injEq, and_true] at he
  obtain ⟨rfl, rfl⟩ := he
  have B6 := hide ((unhide B5).trans (hb6'.mono (unhide B5).size))
  have CC := hide CF
  clear hb6 hb6' CF Q5 hD6 S5 R5 B5 S6
  go_wp2_with fail
  refine (unhide CC).mono ?_
  rintro e w7 ⟨rfl, hb7⟩
  have B7 := hide ((unhide B6).trans (hb7.mono (unhide B6).size))
  clear hb7 CC B6 hz6
  go_wp2
  go_ret
  exact ⟨rfl, unhide B7⟩

theorem reads_none {w : World} {a : Nat → Addr} (s : ByteArray) (hR : Reads (a 0) w) (hs : 3000 < s.size) (h2 : s.size ≤ 9223372036854775807) :
    Calls Tryd.prog 5 #[.string s] w fun e w' => e = .returned (.bool true) ∧ Below w.heap.size w w' := by
  have C1 := hide (readHours_any ⟨#[49, 104]⟩ [49, 104] (a 0) w hR one_hour (by decide))
  rw [hours_one] at C1
  go_enter Tryd.func5, Tryd.ntmps5
  go_wp2_with fail
  refine (unhide C1).mono ?_
  rintro e w1 ⟨rfl, hb1⟩
  clear C1
  go_wp2
  go_ret
  exact ⟨rfl, hb1⟩
end Go.Proofs.YtfifbcoedfdnjabDoor
