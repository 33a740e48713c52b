/-
  Rows of cells: the four parts of a cell, the whole faces: the program's, by contract.
-/
import Derived.Test.YtfonpobdnhifgamGreatDoorAtSA
namespace Go.Proofs.YtfonpobdnhifgamGreatDoor
open Go Go.RowKit

def valQ (c : Sq) : List Value := [.int .i64 c.f, .int .i64 c.l, .int .i64 c.c, .int .i64 c.r]
def sq0 : Sq := ⟨0, 0, 0, 0⟩
def flatQ : List Sq → List Value
  | [] => []
  | s :: l => valQ s ++ flatQ l
theorem flatQ_append : ∀ (L M : List Sq), flatQ (L ++ M) = flatQ L ++ flatQ M
  | [], M => rfl
  | s :: l, M => by
    show valQ s ++ flatQ (l ++ M) = (valQ s ++ flatQ l) ++ flatQ M
    rw [flatQ_append l M, List.append_assoc]
theorem flatQ_length : ∀ L : List Sq, (flatQ L).length = L.length * 4
  | [] => rfl
  | s :: l => by
    show (valQ s ++ flatQ l).length = (l.length + 1) * 4
    rw [List.length_append, flatQ_length l]
    show 4 + l.length * 4 = _
    omega
theorem flatQ_at : ∀ (L : List Sq) (j i : Nat), j < L.length → i < 4 → (flatQ L)[j * 4 + i]? = (valQ (L.getD j sq0))[i]?
  | [], j, _, h, _ => absurd h (Nat.not_lt_zero j)
  | s :: l, 0, i, _, hi => by
    show (valQ s ++ flatQ l)[0 * 4 + i]? = (valQ s)[i]?
    rw [Nat.zero_mul, Nat.zero_add, List.getElem?_append_left (by show i < 4; exact hi)]
  | s :: l, j + 1, i, h, hi => by
    have ih := flatQ_at l j i (by simpa using h) hi
    show (valQ s ++ flatQ l)[(j + 1) * 4 + i]? = _
    rw [List.getElem?_append_right (by show 4 ≤ _; omega)]
    have e : (j + 1) * 4 + i - (valQ s).length = j * 4 + i := by show (j + 1) * 4 + i - 4 = _; omega
    rw [e, ih]
    rfl
/-- a cell in memory. -/
structure QAt (w : World) (b o : Nat) (s : Sq) : Prop where
  c0 : w.cell? ⟨b, o, none⟩ = some (.int .i64 s.f)
  c1 : w.cell? ⟨b, o + 1, none⟩ = some (.int .i64 s.l)
  c2 : w.cell? ⟨b, o + 2, none⟩ = some (.int .i64 s.c)
  c3 : w.cell? ⟨b, o + 3, none⟩ = some (.int .i64 s.r)
abbrev QRow (w : World) (B : Nat) (v : Value) (C : List Sq) : Prop := w.ownsRow B 61 4 v C.length (flatQ C)
theorem QRow.at {w : World} {B : Nat} {v : Value} {C : List Sq} (h : QRow w B v C) : ∃ ad cap, v = .slice ad C.length cap ∧ C.length ≤ cap ∧ ∀ k, k < C.length → ∃ b, ad = some ⟨b, 0, none⟩ ∧ B ≤ b ∧ b < w.heap.size ∧ QAt w b (k * 4) (C.getD k sq0) := by
  rcases h.2 with ⟨e, h0⟩ | ⟨g, cap, cur, e, hB, hh, hn, hc, hsz, ht⟩
  · exact ⟨none, 0, by rw [e, h0], by omega, fun k hk => absurd hk (by omega)⟩
  · refine ⟨some ⟨g, 0, none⟩, cap, e, hn, fun k hk => ⟨g, rfl, hB, ltB hh, ?_⟩⟩
    have hc : ∀ i, i < 4 → w.cell? ⟨g, k * 4 + i, none⟩ = (valQ (C.getD k sq0))[i]? := by
      intro i hi
      have h1 := flatQ_at C k i hk hi
      have hlt : k * 4 + i < C.length * 4 := by omega
      rw [← ht, List.getElem?_take, if_pos hlt, Array.getElem?_toList] at h1
      rw [← h1]
      simp [World.cell?, hh]
    exact ⟨(hc 0 (by omega)).trans rfl, (hc 1 (by omega)).trans rfl, (hc 2 (by omega)).trans rfl, (hc 3 (by omega)).trans rfl⟩
/-- the four parts of a cell. -/
def prtV (s : Sq) : List Sq := [⟨s.f, s.l + 1, 2 * s.c, 2 * s.r⟩, ⟨s.f, s.l + 1, 2 * s.c, 2 * s.r + 1⟩, ⟨s.f, s.l + 1, 2 * s.c + 1, 2 * s.r⟩, ⟨s.f, s.l + 1, 2 * s.c + 1, 2 * s.r + 1⟩]
def QPost (C : List Sq) (w : World) (r : Ending) (w' : World) : Prop := (∃ v, r = .returned v ∧ QRow w' w.heap.size v C) ∧ Below w.heap.size w w'
set_option maxRecDepth 1000000 in
set_option maxHeartbeats 6400000 in
theorem pparts_any (s : Sq) {n : Nat} (h : SqV s n) (w : World) : Calls Tryz.prog 81 #[s.val] w (QPost (prtV s) w) := by
  have hp := pow12 h.n12
  have hc := h.c
  have hr := h.r
  have hn := h.n12
  have hl := h.l
  have b1 : 0 ≤ s.c ∧ s.c ≤ 4096 := by omega
  have b2 : 0 ≤ s.r ∧ s.r ≤ 4096 := by omega
  have b3 : 0 ≤ s.l ∧ s.l ≤ 12 := by omega
  obtain ⟨f, l, c, r⟩ := s
  simp only at b1 b2 b3
  have HP : HeldR (∀ g w', w'.heap[g]? = some (.cells #[.int .i64 f, .int .i64 (l + 1), .int .i64 (2 * c), .int .i64 (2 * r), .int .i64 f, .int .i64 (l + 1), .int .i64 (2 * c), .int .i64 (2 * r + 1), .int .i64 f, .int .i64 (l + 1), .int .i64 (2 * c + 1), .int .i64 (2 * r), .int .i64 f, .int .i64 (l + 1), .int .i64 (2 * c + 1), .int .i64 (2 * r + 1)] 61) → w.heap.size ≤ g → Below w.heap.size w w' → QPost (prtV ⟨f, l, c, r⟩) w (.returned (.slice (some ⟨g, 0, none⟩) 4 4)) w') := hideR (fun g w' h1 h2 h3 => ⟨⟨_, rfl, ⟨rfl, .inr ⟨g, 4, _, rfl, h2, h1, by simp [prtV], by simp [maxLen], rfl, rfl⟩⟩⟩, h3⟩)
  generalize QPost (prtV ⟨f, l, c, r⟩) w = QP at *
  unfold Sq.val
  simp only
  have z := alloc_last w (.cells #[.int .i64 f, .int .i64 l, .int .i64 c, .int .i64 r] 61)
  have HB := hideR (below_a w (.cells #[.int .i64 f, .int .i64 l, .int .i64 c, .int .i64 r] 61))
  have w1 : IntKind.i64.wrap (l + 1) = l + 1 := iwrap (by omega) (by omega)
  have w2 : IntKind.i64.wrap (2 * c) = 2 * c := iwrap (by omega) (by omega)
  have w3 : IntKind.i64.wrap (2 * r) = 2 * r := iwrap (by omega) (by omega)
  have w4 : IntKind.i64.wrap (2 * c + 1) = 2 * c + 1 := iwrap (by omega) (by omega)
  have w5 : IntKind.i64.wrap (2 * r + 1) = 2 * r + 1 := iwrap (by omega) (by omega)
  have x0 := (cells_at z 0 (by simp)).1
  have x1 := (cells_at z 1 (by simp)).1
  have x2 := (cells_at z 2 (by simp)).1
  have x3 := (cells_at z 3 (by simp)).1
  clear h hp hc hr hn hl z
  go_enter Tryz.func81, Tryz.ntmps81
  go_wp2
  go_region
  go_wp2
  refine unhideR HP _ _ (two_allocW w _ _).2.1 ?_ ?_
  · simp
  · exact (drewF (unhideR HB)).alloc (by simp) _
theorem infoQ : (Tryz.prog.info? 61).map (fun i => (i.zero, i.size, i.bytes)) = some (some (.agg #[.int .i64 0, .int .i64 0, .int .i64 0, .int .i64 0]), 4, 32) := by kernel_rfl
/-- the first whole faces. -/
def facL : Nat → List Sq
  | 0 => []
  | n + 1 => facL n ++ [⟨n, 0, 0, 0⟩]
theorem facL_len : ∀ n, (facL n).length = n
  | 0 => rfl
  | n + 1 => by
    show (facL n ++ [_]).length = _
    rw [List.length_append, facL_len n]
    rfl
theorem one_q {w : World} {g : Nat} {e : Sq} (h : w.heap[g]? = some (.cells #[.int .i64 e.f, .int .i64 e.l, .int .i64 e.c, .int .i64 e.r] 61)) : ∀ k u, (valQ e)[k]? = some u → w.cell? ((⟨g, 0, none⟩ : Addr).add k) = some u := by
  intro k u hu
  rw [add_plS, Nat.zero_add]
  rcases k with _ | _ | _ | _ | k
  · rw [← hu]; exact (cells_at h 0 (by simp)).1
  · rw [← hu]; exact (cells_at h 1 (by simp)).1
  · rw [← hu]; exact (cells_at h 2 (by simp)).1
  · rw [← hu]; exact (cells_at h 3 (by simp)).1
  · simp [valQ] at hu
set_option maxRecDepth 1000000 in
set_option maxHeartbeats 6400000 in
theorem pfaces_any (w : World) : Calls Tryz.prog 58 #[] w (QPost (facL 6) w) := by
  obtain ⟨i0, hi, hz0, hz1, hz2⟩ := info_parts infoQ
  have HP : HeldR (∀ v w', QRow w' w.heap.size v (facL 6) → Below w.heap.size w w' → QPost (facL 6) w (.returned v) w') := hideR (fun v w' h1 h2 => ⟨⟨_, rfl, h1⟩, h2⟩)
  generalize QPost (facL 6) w = QP at *
  have H0 : HeldR (QRow w w.heap.size (.slice none 0 0) (facL 0)) := hideR (World.ownsRow_nil _ _ _ _)
  have HB0 := hideR (Below.refl w.heap.size w)
  go_enter Tryz.func58, Tryz.ntmps58
  go_wp2_with fail
  go_loopw [1, 3] (fun ov iv wl => ∃ k : Nat, k ≤ 6 ∧ iv = .int .i64 (k : Nat) ∧ HeldR (QRow wl w.heap.size ov (facL k)) ∧ HeldR (Below w.heap.size w wl)) (fun _ iv _ => 7 - (intOf iv).toNat)
  case atStart => exact ⟨0, by omega, rfl, H0, HB0⟩
  case round =>
    clear H0 HB0
    obtain ⟨k, hk, rfl, HO, HB⟩ := hrel
    by_cases q : k < 6
    case neg =>
      obtain rfl : k = 6 := by omega
      have HQ := hideR (unhideR HP _ _ (unhideR HO) (unhideR HB))
      clear HO HB HP
      go_wp2
      exact unhideR HQ
    have ti : decide ((k : Int) < 6) = true := decide_eq_true (by omega)
    have tin : decide (k < 6) = true := decide_eq_true q
    have wi : IntKind.i64.wrap ((k : Int) + 1) = (k : Int) + 1 := iwrap (by omega) (by omega)
    have hO : wr.ownsRow w.heap.size 61 4 u1 k (flatQ (facL k)) := by
      have := unhideR HO
      unfold QRow at this
      rwa [facL_len k] at this
    clear HO
    have HO := hideR hO
    clear hO
    go_wp2_with (first
      | (at_builtin; refine wpList_append_own _ rfl _ _ 113 rfl w.heap.size 61 i0 (.agg #[.int .i64 0, .int .i64 0, .int .i64 0, .int .i64 0]) 4 32 Tryz.underlying113 hi hz0 hz1 hz2 rfl (by decide) _ k _ rfl ((unhideR HO).alloc _) ⟨wr.heap.size, 0, none⟩ 1 1 (valQ ⟨k, 0, 0, 0⟩) rfl rfl ?c1 ?c2 ?c3 ?c4 ?c5 ?_))
    case c1 => exact one_q (e := ⟨k, 0, 0, 0⟩) (alloc_last _ _)
    case c2 =>
      intro u hu
      simp only [valQ, List.mem_cons, List.not_mem_nil, or_false] at hu
      rcases hu with rfl | rfl | rfl | rfl <;> rfl
    case c3 => unfold maxLen; omega
    case c4 => omega
    case c5 =>
      have := (unhideR HB).size
      simp
      omega
    intro v' w1 hown' hgrow _
    have HB1 := hideR (((unhideR HB).alloc (unhideR HB).size _).grown hgrow (by have := (unhideR HB).size; simp; omega) (fun k e => ((unhideR HO).lt k e).1))
    have HO1 : HeldR (QRow w1 w.heap.size v' (facL (k + 1))) := hideR (by
      show World.ownsRow _ _ 61 4 _ (facL (k + 1)).length (flatQ (facL k ++ [⟨k, 0, 0, 0⟩]))
      rw [facL_len (k + 1), flatQ_append]
      simpa [flatQ] using hown')
    clear hown' hgrow HO HB
    go_wp2
    exact ⟨⟨k + 1, by omega, by go_num, HO1, HB1⟩, by simp [intOf]; omega⟩
end Go.Proofs.YtfonpobdnhifgamGreatDoor
