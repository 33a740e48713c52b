/-
  The program's windows: what lies in one, its corners, by contract. Rows of cosines; a window's corners: the program's, by contract. The foot on an edge: the program's, by contract.
-/
import Derived.Test.YtfonpobdnhifgamGreatDoorAtNA
import Derived.Test.YtfonpobdnhifgamGreatDoorAtD4
namespace Go.Proofs.YtfonpobdnhifgamGreatDoor
open Go Go.RowKit

/-- a cell that is one. -/
structure SqV (s : Sq) (n : Nat) : Prop where
  f : 0 ≤ s.f ∧ s.f < 6
  l : s.l = n
  n12 : n ≤ 12
  c : 0 ≤ s.c ∧ s.c < 2 ^ n
  r : 0 ≤ s.r ∧ s.r < 2 ^ n
def winV (s : Sq) (n : Nat) : Wn := ⟨2 ^ n, 2 * s.c - 2 ^ n, 2 * s.c - 2 ^ n + 2, 2 * s.r - 2 ^ n, 2 * s.r - 2 ^ n + 2⟩
def wnV (w : Wn) : Value := .agg #[.int .i64 w.o, .int .i64 w.l, .int .i64 w.r, .int .i64 w.b, .int .i64 w.t]
/-- a window's numbers. -/
structure Wn.Sm (w : Wn) : Prop where
  o : 1 ≤ w.o ∧ w.o ≤ 4096
  l : -4096 ≤ w.l ∧ w.l ≤ 4096
  r : -4096 ≤ w.r ∧ w.r ≤ 4096
  b : -4096 ≤ w.b ∧ w.b ≤ 4096
  t : -4096 ≤ w.t ∧ w.t ≤ 4096
theorem win_sm {s : Sq} {n : Nat} (h : SqV s n) : (winV s n).Sm := by
  have p := pow12 h.n12
  have c := h.c
  have r := h.r
  refine ⟨?_, ?_, ?_, ?_, ?_⟩ <;> unfold winV <;> simp only <;> omega
theorem win_ok {s : Sq} {n : Nat} (h : SqV s n) : (winV s n).Ok := by
  have p := pow12 h.n12
  refine ⟨?_, ?_, ?_⟩ <;> unfold winV <;> simp only <;> omega
set_option maxRecDepth 100000 in
set_option maxHeartbeats 3200000 in
theorem pwin_any (s : Sq) {n : Nat} (h : SqV s n) (w : World) : Calls Tryz.prog 127 #[s.val] w fun r w' => r = .returned (wnV (winV s n)) ∧ Below w.heap.size w w' := by
  have hsh := fun u => shl1 h.n12 3 u
  have hn12 := h.n12
  have hp := pow12 h.n12
  have hc := h.c
  have hr := h.r
  unfold wnV winV
  simp only
  obtain ⟨S, hS⟩ : ∃ S : Int, 2 ^ n = S := ⟨_, rfl⟩
  have hw64 : wrap64 (2 ^ n) = S := by rw [← hS]; exact IntWalk.wrap64_in _ (by omega)
  rw [hS] at hsh hp hc hr ⊢
  obtain ⟨f, l, c, r⟩ := s
  have hl := h.l
  simp only at hl hc hr ⊢
  subst hl
  clear hS h
  unfold Sq.val
  have z := alloc_last w (.cells #[.int .i64 f, .int .i64 (n : Int), .int .i64 c, .int .i64 r] 61)
  have HB := hideR (below_a w (.cells #[.int .i64 f, .int .i64 (n : Int), .int .i64 c, .int .i64 r] 61))
  go_enter Tryz.func127, Tryz.ntmps127
  go_wp2
  go_region
  all_goals go_wp2
  all_goals simp [bodyPost, results, Tryz.results127, go_sem]
  all_goals exact drewF (below_go (below_a w _) (below_a _ _))
set_option maxRecDepth 100000 in
set_option maxHeartbeats 3200000 in
theorem pwithin_any {w : World} {bd bw : Nat} {d : Dr} {W : Wn} {n a b : Int} (hd : w.heap[bd]? = some (.cells #[.int .i64 d.x, .int .i64 d.y, .int .i64 d.z] 24)) (hw : w.heap[bw]? = some (.cells #[.int .i64 W.o, .int .i64 W.l, .int .i64 W.r, .int .i64 W.b, .int .i64 W.t] 205)) (hx : -1048576 ≤ d.x ∧ d.x ≤ 1048576) (ho : 1 ≤ W.o ∧ W.o ≤ 4096) (hn : -1048576 ≤ n ∧ n ≤ 1048576) (ha : -4096 ≤ a ∧ a ≤ 4096) (hb : -4096 ≤ b ∧ b ≤ 4096) :
    Calls Tryz.prog 135 #[.int .i64 n, .int .i64 a, .int .i64 b, .pointer (some ⟨bd, 0, none⟩), .pointer (some ⟨bw, 0, none⟩)] w fun r w' => r = .returned (.bool (decide (a * d.x ≤ n * W.o) && decide (n * W.o ≤ b * d.x))) ∧ w' = w := by
  have x0 := (cells_at hd 0 (by simp)).1
  have y0 := (cells_at hw 0 (by simp)).1
  have m1 := mulP (x := a) (y := d.x) (A := 4096) (B := 1048576) ha hx (by omega) (by omega)
  have m2 := mulP (x := b) (y := d.x) (A := 4096) (B := 1048576) hb hx (by omega) (by omega)
  have m3 := mulP (x := n) (y := W.o) (A := 1048576) (B := 4096) hn ⟨by omega, by omega⟩ (by omega) (by omega)
  obtain ⟨p, ep⟩ : ∃ p, a * d.x = p := ⟨_, rfl⟩
  obtain ⟨q, eq⟩ : ∃ p, b * d.x = p := ⟨_, rfl⟩
  obtain ⟨r, er⟩ : ∃ p, n * W.o = p := ⟨_, rfl⟩
  rw [ep] at m1 ⊢
  rw [eq] at m2 ⊢
  rw [er] at m3 ⊢
  have w1 : IntKind.i64.wrap (a * d.x) = p := by rw [ep]; exact iwrap (by omega) (by omega)
  have w2 : IntKind.i64.wrap (b * d.x) = q := by rw [eq]; exact iwrap (by omega) (by omega)
  have w3 : IntKind.i64.wrap (n * W.o) = r := by rw [er]; exact iwrap (by omega) (by omega)
  clear ep eq er hd hw
  go_enter Tryz.func135, Tryz.ntmps135
  go_wp2
  all_goals go_ret
  all_goals
    refine ⟨congrArg (fun b => Ending.returned (.bool b)) ?_, rfl⟩
    rw [Bool.eq_iff_iff]
    simp
    try omega
set_option maxRecDepth 100000 in
set_option maxHeartbeats 3200000 in
theorem pholds_any (W : Wn) (d : Dr) (hW : W.Sm) (hd : dirB d = true) (w : World) : Calls Tryz.prog 128 #[wnV W, d.val] w fun r w' => r = .returned (.bool (W.holdsB d)) ∧ Below w.heap.size w w' := by
  have hb := dir_is hd
  obtain ⟨z1, z2, hbw⟩ := two_allocW w (.cells #[.int .i64 W.o, .int .i64 W.l, .int .i64 W.r, .int .i64 W.b, .int .i64 W.t] 205) (.cells #[.int .i64 d.x, .int .i64 d.y, .int .i64 d.z] 24)
  have c1 := pwithin_any (n := d.y) (a := W.l) (b := W.r) z2 z1 (by omega) hW.o (by omega) hW.l hW.r
  have c2 := pwithin_any (n := d.z) (a := W.b) (b := W.t) z2 z1 (by omega) hW.o (by omega) hW.b hW.t
  have hR : W.holdsB d = ((decide (W.l * d.x ≤ d.y * W.o) && decide (d.y * W.o ≤ W.r * d.x)) && (decide (W.b * d.x ≤ d.z * W.o) && decide (d.z * W.o ≤ W.t * d.x))) := by
    unfold Wn.holdsB
    rw [Bool.and_assoc]
  generalize (decide (W.l * d.x ≤ d.y * W.o) && decide (d.y * W.o ≤ W.r * d.x)) = A at *
  generalize (decide (W.b * d.x ≤ d.z * W.o) && decide (d.z * W.o ≤ W.t * d.x)) = B at *
  rw [hR]
  unfold wnV Dr.val
  have x1 := (cells_at z1 1 (by simp)).1
  have x2 := (cells_at z1 2 (by simp)).1
  have x3 := (cells_at z1 3 (by simp)).1
  have x4 := (cells_at z1 4 (by simp)).1
  have y1 := (cells_at z2 1 (by simp)).1
  have y2 := (cells_at z2 2 (by simp)).1
  clear hR hb hd hW z1 z2
  go_enter Tryz.func128, Tryz.ntmps128
  go_wp2_with fail
  refine c1.mono ?_
  rintro r u1 ⟨rfl, rfl⟩
  cases A
  · clear c2
    go_wp2
    go_ret
    exact ⟨rfl, hbw⟩
  go_wp2_with fail
  refine c2.mono ?_
  rintro r u1 ⟨rfl, rfl⟩
  go_wp2
  go_ret
  exact ⟨rfl, hbw⟩
end Go.Proofs.YtfonpobdnhifgamGreatDoor
namespace Go.Proofs.YtfonpobdnhifgamGreatDoor
open Go Go.RowKit

def ohV (c : Co) : Int := ((c.ov.toNat / 18446744073709551616 : Nat) : Int)
def olV (c : Co) : Int := ((c.ov.toNat % 18446744073709551616 : Nat) : Int)
def valCo (c : Co) : List Value := [.int .i64 c.sg, .int .u64 (ohV c), .int .u64 (olV c), .int .i64 c.un]
theorem coV_is (c : Co) : coV c = .agg #[.int .i64 c.sg, .int .u64 (ohV c), .int .u64 (olV c), .int .i64 c.un] := rfl
def co0 : Co := ⟨0, 0, 0⟩
def flatCo : List Co → List Value
  | [] => []
  | s :: l => valCo s ++ flatCo l
theorem flatCo_append : ∀ (L M : List Co), flatCo (L ++ M) = flatCo L ++ flatCo M
  | [], M => rfl
  | s :: l, M => by
    show valCo s ++ flatCo (l ++ M) = (valCo s ++ flatCo l) ++ flatCo M
    rw [flatCo_append l M, List.append_assoc]
theorem flatCo_length : ∀ L : List Co, (flatCo L).length = L.length * 4
  | [] => rfl
  | s :: l => by
    show (valCo s ++ flatCo l).length = (l.length + 1) * 4
    rw [List.length_append, flatCo_length l]
    show 4 + l.length * 4 = _
    omega
theorem flatCo_at : ∀ (L : List Co) (j i : Nat), j < L.length → i < 4 → (flatCo L)[j * 4 + i]? = (valCo (L.getD j co0))[i]?
  | [], j, _, h, _ => absurd h (Nat.not_lt_zero j)
  | s :: l, 0, i, _, hi => by
    show (valCo s ++ flatCo l)[0 * 4 + i]? = (valCo s)[i]?
    rw [Nat.zero_mul, Nat.zero_add, List.getElem?_append_left (by show i < 4; exact hi)]
  | s :: l, j + 1, i, h, hi => by
    have ih := flatCo_at l j i (by simpa using h) hi
    show (valCo s ++ flatCo l)[(j + 1) * 4 + i]? = _
    rw [List.getElem?_append_right (by show 4 ≤ _; omega)]
    have e : (j + 1) * 4 + i - (valCo s).length = j * 4 + i := by show (j + 1) * 4 + i - 4 = _; omega
    rw [e, ih]
    rfl
/-- a cosine in memory. -/
structure CoAt (w : World) (b o : Nat) (s : Co) : Prop where
  c0 : w.cell? ⟨b, o, none⟩ = some (.int .i64 s.sg)
  c1 : w.cell? ⟨b, o + 1, none⟩ = some (.int .u64 (ohV s))
  c2 : w.cell? ⟨b, o + 2, none⟩ = some (.int .u64 (olV s))
  c3 : w.cell? ⟨b, o + 3, none⟩ = some (.int .i64 s.un)
abbrev CRow (w : World) (B : Nat) (v : Value) (C : List Co) : Prop := w.ownsRow B 76 4 v C.length (flatCo C)
theorem CRow.at {w : World} {B : Nat} {v : Value} {C : List Co} (h : CRow w B v C) : ∃ ad cap, v = .slice ad C.length cap ∧ C.length ≤ cap ∧ ∀ k, k < C.length → ∃ b, ad = some ⟨b, 0, none⟩ ∧ B ≤ b ∧ b < w.heap.size ∧ CoAt w b (k * 4) (C.getD k co0) := by
  rcases h.2 with ⟨e, h0⟩ | ⟨g, cap, cur, e, hB, hh, hn, hc, hsz, ht⟩
  · exact ⟨none, 0, by rw [e, h0], by omega, fun k hk => absurd hk (by omega)⟩
  · refine ⟨some ⟨g, 0, none⟩, cap, e, hn, fun k hk => ⟨g, rfl, hB, ltB hh, ?_⟩⟩
    have hc : ∀ i, i < 4 → w.cell? ⟨g, k * 4 + i, none⟩ = (valCo (C.getD k co0))[i]? := by
      intro i hi
      have h1 := flatCo_at C k i hk hi
      have hlt : k * 4 + i < C.length * 4 := by omega
      rw [← ht, List.getElem?_take, if_pos hlt, Array.getElem?_toList] at h1
      rw [← h1]
      simp [World.cell?, hh]
    exact ⟨(hc 0 (by omega)).trans rfl, (hc 1 (by omega)).trans rfl, (hc 2 (by omega)).trans rfl, (hc 3 (by omega)).trans rfl⟩
theorem corner_dir {W : Wn} (hW : W.Sm) {u v : Int} (hu : -4096 ≤ u ∧ u ≤ 4096) (hv : -4096 ≤ v ∧ v ≤ 4096) : dirB ⟨W.o, u, v⟩ = true := by
  have ho := hW.o
  refine decide_eq_true ?_
  simp only
  omega
set_option maxRecDepth 100000 in
set_option maxHeartbeats 3200000 in
theorem pcorner_any {w : World} {bd bw : Nat} {d : Dr} {W : Wn} {u v : Int} (hd : w.heap[bd]? = some (.cells #[.int .i64 d.x, .int .i64 d.y, .int .i64 d.z] 24)) (hw : w.heap[bw]? = some (.cells #[.int .i64 W.o, .int .i64 W.l, .int .i64 W.r, .int .i64 W.b, .int .i64 W.t] 205)) (hdd : dirB d = true) (hW : W.Sm) (hu : -4096 ≤ u ∧ u ≤ 4096) (hv : -4096 ≤ v ∧ v ≤ 4096) :
    Calls Tryz.prog 136 #[.int .i64 u, .int .i64 v, .pointer (some ⟨bd, 0, none⟩), .pointer (some ⟨bw, 0, none⟩)] w fun r w' => r = .returned (coV (coTo d ⟨W.o, u, v⟩)) ∧ Below w.heap.size w w' := by
  have hc := fun x => pcosTo_any d ⟨W.o, u, v⟩ hdd (corner_dir hW hu hv) x
  have a0 := alloc_last w (.cells #[.int .i64 0, .int .u64 0, .int .u64 0, .int .i64 0] 76)
  have HB := hideR (below_a w (.cells #[.int .i64 0, .int .u64 0, .int .u64 0, .int .i64 0] 76))
  have hd1 := keepA (o' := .cells #[.int .i64 0, .int .u64 0, .int .u64 0, .int .i64 0] 76) hd
  have hw1 := keepA (o' := .cells #[.int .i64 0, .int .u64 0, .int .u64 0, .int .i64 0] 76) hw
  have x0 := (cells_at hd1 0 (by simp)).1
  have x1 := (cells_at hd1 1 (by simp)).1
  have x2 := (cells_at hd1 2 (by simp)).1
  have y0 := (cells_at hw1 0 (by simp)).1
  generalize coTo d ⟨W.o, u, v⟩ = C at *
  rw [coV_is]
  simp only [coV_is] at hc
  unfold Dr.val at hc
  simp only at hc
  clear hd hw hdd hW hu hv hd1 hw1
  go_enter Tryz.func136, Tryz.ntmps136
  go_wp2_with fail
  refine (hc _).mono ?_
  rintro r u1 ⟨rfl, k1⟩
  have zr := keepB a0 k1
  replace HB := hideR (below_go (unhideR HB) k1)
  clear k1 hc a0 x0 x1 x2 y0
  have d0 := (cells_at zr 0 (by simp)).1
  have d1 := (cells_at zr 1 (by simp)).1
  have d2 := (cells_at zr 2 (by simp)).1
  have d3 := (cells_at zr 3 (by simp)).1
  have f0 := (cells_at zr 0 (by simp)).2
  have f1 := (cells_at zr 1 (by simp)).2
  have f2 := (cells_at zr 2 (by simp)).2
  have f3 := (cells_at zr 3 (by simp)).2
  have HB2 := hideR (set4_bl4 (unhideR HB) (show w.heap.size ≤ w.heap.size by omega) (.int .i64 C.sg) (.int .u64 (ohV C)) (.int .u64 (olV C)) (.int .i64 C.un))
  have o := set4_at4 zr (.int .i64 C.sg) (.int .u64 (ohV C)) (.int .u64 (olV C)) (.int .i64 C.un)
  have o0 := (cells_at o 0 (by simp)).1
  have o1 := (cells_at o 1 (by simp)).1
  have o2 := (cells_at o 2 (by simp)).1
  have o3 := (cells_at o 3 (by simp)).1
  clear o zr HB
  go_wp2
  simp [bodyPost, results, Tryz.results136, go_sem, o0, o1, o2, o3]
  exact unhideR HB2
def Sl4C (v : Value) : Prop := ∃ g : Nat, v = .slice (some ⟨g, 0, none⟩) 4 4
def Co4At (N : Nat) (xs : Array Value) (v : Value) (w : World) : Prop := ∀ g : Nat, v = .slice (some ⟨g, 0, none⟩) 4 4 → w.heap[g]? = some (.cells xs 76) ∧ N ≤ g
theorem co4_stb (N : Nat) (xs : Array Value) (v : Value) : Stb (Co4At N xs v) := fun _ _ h k g q => ⟨keepB (h g q).1 k, (h g q).2⟩
def RowPost (C : List Co) (w : World) (r : Ending) (w' : World) : Prop := (∃ v, r = .returned v ∧ CRow w' w.heap.size v C) ∧ Below w.heap.size w w'
set_option maxRecDepth 100000 in
set_option maxHeartbeats 3200000 in
theorem pcorners_any (W : Wn) (d : Dr) (hW : W.Sm) (hd : dirB d = true) (w : World) : Calls Tryz.prog 130 #[wnV W, d.val] w (RowPost (W.corners d) w) := by
  obtain ⟨z1, z2, hbw⟩ := two_allocW w (.cells #[.int .i64 W.o, .int .i64 W.l, .int .i64 W.r, .int .i64 W.b, .int .i64 W.t] 205) (.cells #[.int .i64 d.x, .int .i64 d.y, .int .i64 d.z] 24)
  have hcA := fun (x : World) {bd bw : Nat} (h1 : x.heap[bd]? = some (.cells #[.int .i64 d.x, .int .i64 d.y, .int .i64 d.z] 24)) (h2 : x.heap[bw]? = some (.cells #[.int .i64 W.o, .int .i64 W.l, .int .i64 W.r, .int .i64 W.b, .int .i64 W.t] 205)) => pcorner_any h1 h2 hd hW hW.l hW.b
  have hcB := fun (x : World) {bd bw : Nat} (h1 : x.heap[bd]? = some (.cells #[.int .i64 d.x, .int .i64 d.y, .int .i64 d.z] 24)) (h2 : x.heap[bw]? = some (.cells #[.int .i64 W.o, .int .i64 W.l, .int .i64 W.r, .int .i64 W.b, .int .i64 W.t] 205)) => pcorner_any h1 h2 hd hW hW.l hW.t
  have hcC := fun (x : World) {bd bw : Nat} (h1 : x.heap[bd]? = some (.cells #[.int .i64 d.x, .int .i64 d.y, .int .i64 d.z] 24)) (h2 : x.heap[bw]? = some (.cells #[.int .i64 W.o, .int .i64 W.l, .int .i64 W.r, .int .i64 W.b, .int .i64 W.t] 205)) => pcorner_any h1 h2 hd hW hW.r hW.b
  have hcD := fun (x : World) {bd bw : Nat} (h1 : x.heap[bd]? = some (.cells #[.int .i64 d.x, .int .i64 d.y, .int .i64 d.z] 24)) (h2 : x.heap[bw]? = some (.cells #[.int .i64 W.o, .int .i64 W.l, .int .i64 W.r, .int .i64 W.b, .int .i64 W.t] 205)) => pcorner_any h1 h2 hd hW hW.r hW.t
  unfold Wn.corners
  generalize coTo d ⟨W.o, W.l, W.b⟩ = A at *
  generalize coTo d ⟨W.o, W.l, W.t⟩ = B at *
  generalize coTo d ⟨W.o, W.r, W.b⟩ = C at *
  generalize coTo d ⟨W.o, W.r, W.t⟩ = D at *
  simp only [coV_is] at hcA hcB hcC hcD
  have HB := hideR hbw
  unfold wnV Dr.val
  clear hbw hW hd
  have HKz : HeldR (w.heap.size ≤ ((w.alloc (.cells #[.int .i64 W.o, .int .i64 W.l, .int .i64 W.r, .int .i64 W.b, .int .i64 W.t] 205)).alloc (.cells #[.int .i64 d.x, .int .i64 d.y, .int .i64 d.z] 24)).heap.size) := hideR (unhideR HB).size
  go_enter Tryz.func130, Tryz.ntmps130
  go_upto_region 2 with fail
  generalize (w.alloc (.cells #[.int .i64 W.o, .int .i64 W.l, .int .i64 W.r, .int .i64 W.b, .int .i64 W.t] 205)).alloc (.cells #[.int .i64 d.x, .int .i64 d.y, .int .i64 d.z] 24) = u0 at *
  obtain ⟨K, hK⟩ : ∃ K, w.heap.size = K := ⟨_, rfl⟩
  have HK := hideR hK
  rw [hK] at z1 z2 HKz ⊢
  clear hK
  refine wp_region_made 0 #[true, true, true, true, true, true, true, true, true, true, true, true, true, true, true, true, true, true, true, true, true, true, true, true, true, false] [.lets (· = .func (Fn.func 136) #[] #[.pointer (some ⟨K + 1, 0, none⟩), .pointer (some ⟨K, 0, none⟩)]),
    .lets (· = .pointer (some ⟨K, 1, none⟩)),
    .lets (· = .int .i64 W.l),
    .lets (· = .pointer (some ⟨K, 3, none⟩)),
    .lets (· = .int .i64 W.b),
    .lets (· = .agg #[.int .i64 A.sg, .int .u64 (ohV A), .int .u64 (olV A), .int .i64 A.un]),
    .lets (· = .func (Fn.func 136) #[] #[.pointer (some ⟨K + 1, 0, none⟩), .pointer (some ⟨K, 0, none⟩)]),
    .lets (· = .pointer (some ⟨K, 1, none⟩)),
    .lets (· = .int .i64 W.l),
    .lets (· = .pointer (some ⟨K, 4, none⟩)),
    .lets (· = .int .i64 W.t),
    .lets (· = .agg #[.int .i64 B.sg, .int .u64 (ohV B), .int .u64 (olV B), .int .i64 B.un]),
    .lets (· = .func (Fn.func 136) #[] #[.pointer (some ⟨K + 1, 0, none⟩), .pointer (some ⟨K, 0, none⟩)]),
    .lets (· = .pointer (some ⟨K, 2, none⟩)),
    .lets (· = .int .i64 W.r),
    .lets (· = .pointer (some ⟨K, 3, none⟩)),
    .lets (· = .int .i64 W.b),
    .lets (· = .agg #[.int .i64 C.sg, .int .u64 (ohV C), .int .u64 (olV C), .int .i64 C.un]),
    .lets (· = .func (Fn.func 136) #[] #[.pointer (some ⟨K + 1, 0, none⟩), .pointer (some ⟨K, 0, none⟩)]),
    .lets (· = .pointer (some ⟨K, 2, none⟩)),
    .lets (· = .int .i64 W.r),
    .lets (· = .pointer (some ⟨K, 4, none⟩)),
    .lets (· = .int .i64 W.t),
    .lets (· = .agg #[.int .i64 D.sg, .int .u64 (ohV D), .int .u64 (olV D), .int .i64 D.un]),
    .made Sl4C (Co4At K #[.int .i64 A.sg, .int .u64 (ohV A), .int .u64 (olV A), .int .i64 A.un, .int .i64 B.sg, .int .u64 (ohV B), .int .u64 (olV B), .int .i64 B.un, .int .i64 C.sg, .int .u64 (ohV C), .int .u64 (olV C), .int .i64 C.un, .int .i64 D.sg, .int .u64 (ohV D), .int .u64 (olV D), .int .i64 D.un])] [24] [] (by kernel_rfl) (by kernel_rfl) rfl ?kinds (by kernel_rfl) (by kernel_rfl) (by kernel_rfl) ?_
  case kinds =>
    constructor
    · intro i h
      rcases i with _ | _ | _ | _ | _ | _ | _ | _ | _ | _ | _ | _ | _ | _ | _ | _ | _ | _ | _ | _ | _ | _ | _ | _ | _ | i <;> simp [Kx.isMade] at h ⊢
    · intro i h
      rcases i with _ | _ | _ | _ | _ | _ | _ | _ | _ | _ | _ | _ | _ | _ | _ | _ | _ | _ | _ | _ | _ | _ | _ | _ | _ | i <;> simp [Kx.isUse] at h
  refine lexX_step (fun K hK => ⟨by kernel_rfl, ⟨_, rfl⟩, fun v hv => ?_, fun v hv => ?_⟩)
  · go_simp
    exact mUpon_b
  subst hv
  go_simp
  refine hK _ ?_
  clear hK K
  refine lexX_step (fun K hK => ⟨by kernel_rfl, ⟨_, rfl⟩, fun v hv => ?_, fun v hv => ?_⟩)
  · go_simp
    exact mUpon_b
  subst hv
  go_simp
  refine hK _ ?_
  clear hK K
  refine lexX_step (fun K hK => ⟨by kernel_rfl, ⟨_, rfl⟩, fun v hv => ?_, fun v hv => ?_⟩)
  · have y := (cells_at (keepB z1 hv) 1 (by simp)).1
    go_simp
    exact mUpon_b
  subst hv
  go_simp
  refine hK _ ?_
  clear hK K
  refine lexX_step (fun K hK => ⟨by kernel_rfl, ⟨_, rfl⟩, fun v hv => ?_, fun v hv => ?_⟩)
  · go_simp
    exact mUpon_b
  subst hv
  go_simp
  refine hK _ ?_
  clear hK K
  refine lexX_step (fun K hK => ⟨by kernel_rfl, ⟨_, rfl⟩, fun v hv => ?_, fun v hv => ?_⟩)
  · have y := (cells_at (keepB z1 hv) 3 (by simp)).1
    go_simp
    exact mUpon_b
  subst hv
  go_simp
  refine hK _ ?_
  clear hK K
  refine lexX_step (fun K hK => ⟨by kernel_rfl, ⟨_, rfl⟩, fun v hv => ?_, fun v hv => ?_⟩)
  · go_simp
    refine (hcA v (keepB z2 hv) (keepB z1 hv)).mono ?_
    rintro e w9 ⟨rfl, k⟩
    exact ⟨_, rfl, rfl, k⟩
  subst hv
  go_simp
  refine hK _ ?_
  clear hK K
  refine lexX_step (fun K hK => ⟨by kernel_rfl, ⟨_, rfl⟩, fun v hv => ?_, fun v hv => ?_⟩)
  · go_simp
    exact mUpon_b
  subst hv
  go_simp
  refine hK _ ?_
  clear hK K
  refine lexX_step (fun K hK => ⟨by kernel_rfl, ⟨_, rfl⟩, fun v hv => ?_, fun v hv => ?_⟩)
  · go_simp
    exact mUpon_b
  subst hv
  go_simp
  refine hK _ ?_
  clear hK K
  refine lexX_step (fun K hK => ⟨by kernel_rfl, ⟨_, rfl⟩, fun v hv => ?_, fun v hv => ?_⟩)
  · have y := (cells_at (keepB z1 hv) 1 (by simp)).1
    go_simp
    exact mUpon_b
  subst hv
  go_simp
  refine hK _ ?_
  clear hK K
  refine lexX_step (fun K hK => ⟨by kernel_rfl, ⟨_, rfl⟩, fun v hv => ?_, fun v hv => ?_⟩)
  · go_simp
    exact mUpon_b
  subst hv
  go_simp
  refine hK _ ?_
  clear hK K
  refine lexX_step (fun K hK => ⟨by kernel_rfl, ⟨_, rfl⟩, fun v hv => ?_, fun v hv => ?_⟩)
  · have y := (cells_at (keepB z1 hv) 4 (by simp)).1
    go_simp
    exact mUpon_b
  subst hv
  go_simp
  refine hK _ ?_
  clear hK K
  refine lexX_step (fun K hK => ⟨by kernel_rfl, ⟨_, rfl⟩, fun v hv => ?_, fun v hv => ?_⟩)
  · go_simp
    refine (hcB v (keepB z2 hv) (keepB z1 hv)).mono ?_
    rintro e w9 ⟨rfl, k⟩
    exact ⟨_, rfl, rfl, k⟩
  subst hv
  go_simp
  refine hK _ ?_
  clear hK K
  refine lexX_step (fun K hK => ⟨by kernel_rfl, ⟨_, rfl⟩, fun v hv => ?_, fun v hv => ?_⟩)
  · go_simp
    exact mUpon_b
  subst hv
  go_simp
  refine hK _ ?_
  clear hK K
  refine lexX_step (fun K hK => ⟨by kernel_rfl, ⟨_, rfl⟩, fun v hv => ?_, fun v hv => ?_⟩)
  · go_simp
    exact mUpon_b
  subst hv
  go_simp
  refine hK _ ?_
  clear hK K
  refine lexX_step (fun K hK => ⟨by kernel_rfl, ⟨_, rfl⟩, fun v hv => ?_, fun v hv => ?_⟩)
  · have y := (cells_at (keepB z1 hv) 2 (by simp)).1
    go_simp
    exact mUpon_b
  subst hv
  go_simp
  refine hK _ ?_
  clear hK K
  refine lexX_step (fun K hK => ⟨by kernel_rfl, ⟨_, rfl⟩, fun v hv => ?_, fun v hv => ?_⟩)
  · go_simp
    exact mUpon_b
  subst hv
  go_simp
  refine hK _ ?_
  clear hK K
  refine lexX_step (fun K hK => ⟨by kernel_rfl, ⟨_, rfl⟩, fun v hv => ?_, fun v hv => ?_⟩)
  · have y := (cells_at (keepB z1 hv) 3 (by simp)).1
    go_simp
    exact mUpon_b
  subst hv
  go_simp
  refine hK _ ?_
  clear hK K
  refine lexX_step (fun K hK => ⟨by kernel_rfl, ⟨_, rfl⟩, fun v hv => ?_, fun v hv => ?_⟩)
  · go_simp
    refine (hcC v (keepB z2 hv) (keepB z1 hv)).mono ?_
    rintro e w9 ⟨rfl, k⟩
    exact ⟨_, rfl, rfl, k⟩
  subst hv
  go_simp
  refine hK _ ?_
  clear hK K
  refine lexX_step (fun K hK => ⟨by kernel_rfl, ⟨_, rfl⟩, fun v hv => ?_, fun v hv => ?_⟩)
  · go_simp
    exact mUpon_b
  subst hv
  go_simp
  refine hK _ ?_
  clear hK K
  refine lexX_step (fun K hK => ⟨by kernel_rfl, ⟨_, rfl⟩, fun v hv => ?_, fun v hv => ?_⟩)
  · go_simp
    exact mUpon_b
  subst hv
  go_simp
  refine hK _ ?_
  clear hK K
  refine lexX_step (fun K hK => ⟨by kernel_rfl, ⟨_, rfl⟩, fun v hv => ?_, fun v hv => ?_⟩)
  · have y := (cells_at (keepB z1 hv) 2 (by simp)).1
    go_simp
    exact mUpon_b
  subst hv
  go_simp
  refine hK _ ?_
  clear hK K
  refine lexX_step (fun K hK => ⟨by kernel_rfl, ⟨_, rfl⟩, fun v hv => ?_, fun v hv => ?_⟩)
  · go_simp
    exact mUpon_b
  subst hv
  go_simp
  refine hK _ ?_
  clear hK K
  refine lexX_step (fun K hK => ⟨by kernel_rfl, ⟨_, rfl⟩, fun v hv => ?_, fun v hv => ?_⟩)
  · have y := (cells_at (keepB z1 hv) 4 (by simp)).1
    go_simp
    exact mUpon_b
  subst hv
  go_simp
  refine hK _ ?_
  clear hK K
  refine lexX_step (fun K hK => ⟨by kernel_rfl, ⟨_, rfl⟩, fun v hv => ?_, fun v hv => ?_⟩)
  · go_simp
    refine (hcD v (keepB z2 hv) (keepB z1 hv)).mono ?_
    rintro e w9 ⟨rfl, k⟩
    exact ⟨_, rfl, rfl, k⟩
  subst hv
  go_simp
  refine hK _ ?_
  clear hK K
  refine lexX_made ⟨by kernel_rfl, ⟨_, 0, rfl⟩, co4_stb _ _, fun v hv => ?_, ?_⟩
  · go_simp
    exact ⟨below_a v _, ⟨_, rfl⟩, fun q hq => by cases hq; exact ⟨alloc_last v _, Nat.le_trans (unhideR HKz) hv.size⟩⟩
  rintro _ ⟨u9, rfl⟩ K9 hK
  go_simp
  refine hK _ ?_
  clear hK K9
  refine lexX_end (fun v5 hv => ?_)
  obtain ⟨hO9, hN9⟩ := hv.fact.2 _ rfl
  replace HB := hideR (below_go (unhideR HB) hv.low)
  clear hv z1 z2 hcA hcB hcC hcD
  refine wpAny_step (i := 25) (by kernel_rfl) rfl (by kernel_rfl) (fun K hK => ?_)
  unfold Oper.wp
  go_simp
  refine hK _ _ ?_
  clear hK K
  refine wpAny_end (by kernel_rfl) ?_
  have HR : HeldR (RowPost [A, B, C, D] w (.returned (.slice (some ⟨u9, 0, none⟩) 4 4)) v5) := hideR ⟨⟨_, rfl, ⟨rfl, .inr ⟨u9, 4, _, rfl, by have := unhideR HK; omega, hO9, by simp, by simp [maxLen], rfl, rfl⟩⟩⟩, unhideR HB⟩
  clear hO9 hN9 HB
  generalize RowPost [A, B, C, D] w = RP at *
  go_wp2
  exact unhideR HR
end Go.Proofs.YtfonpobdnhifgamGreatDoor
namespace Go.Proofs.YtfonpobdnhifgamGreatDoor
open Go Go.RowKit

def ftA (d : Dr) (o u lo hi : Int) : Co := if ftB d o u lo hi then ftV d o u else co0
set_option maxRecDepth 100000 in
set_option maxHeartbeats 3200000 in
theorem pfoot_any (d : Dr) (hd : dirB d = true) (o u lo hi : Int) (ho : 1 ≤ o ∧ o ≤ 4096) (hu : -4096 ≤ u ∧ u ≤ 4096) (hlo : -4096 ≤ lo ∧ lo ≤ 4096) (hhi : -4096 ≤ hi ∧ hi ≤ 4096) (hlh : lo < hi) (w : World) :
    Calls Tryz.prog 138 #[d.val, .int .i64 o, .int .i64 u, .int .i64 lo, .int .i64 hi] w fun r w' => r = .returned (.tuple #[coV (ftA d o u lo hi), .bool (ftB d o u lo hi)]) ∧ Below w.heap.size w w' := by
  have hb := dir_is hd
  have m1 := mulP (x := d.x) (y := o) (A := 1048576) (B := 4096) ⟨by omega, by omega⟩ ⟨by omega, by omega⟩ (by omega) (by omega)
  have m2 := mulP (x := d.y) (y := u) (A := 1048576) (B := 4096) ⟨by omega, by omega⟩ ⟨by omega, by omega⟩ (by omega) (by omega)
  have m3 := sq_toNat (x := o) (A := 4096) ⟨by omega, by omega⟩ (by omega)
  have m4 := sq_toNat (x := u) (A := 4096) hu (by omega)
  have m0 := Int.mul_pos (show 0 < o by omega) (show 0 < o by omega)
  have hft : ftA d o u lo hi = if ftB d o u lo hi then ftV d o u else co0 := rfl
  have hfb : ftB d o u lo hi = !(decide (d.z * (o * o + u * u) ≤ lo * (d.x * o + d.y * u)) || decide (hi * (d.x * o + d.y * u) ≤ d.z * (o * o + u * u))) := rfl
  have hfv : ftV d o u = ⟨1, (d.x * o + d.y * u) * (d.x * o + d.y * u) + d.z * d.z * (o * o + u * u), o * o + u * u⟩ := rfl
  have w1 : IntKind.i64.wrap (d.x * o) = d.x * o := iwrap (by omega) (by omega)
  have w2 : IntKind.i64.wrap (d.y * u) = d.y * u := iwrap (by omega) (by omega)
  have w3 : IntKind.i64.wrap (o * o) = o * o := iwrap (by omega) (by omega)
  have w4 : IntKind.i64.wrap (u * u) = u * u := iwrap (by omega) (by omega)
  obtain ⟨p1, e1⟩ : ∃ p, d.x * o = p := ⟨_, rfl⟩
  obtain ⟨p2, e2⟩ : ∃ p, d.y * u = p := ⟨_, rfl⟩
  obtain ⟨p3, e3⟩ : ∃ p, o * o = p := ⟨_, rfl⟩
  obtain ⟨p4, e4⟩ : ∃ p, u * u = p := ⟨_, rfl⟩
  rw [e1] at m1 hfb hfv
  rw [e2] at m2 hfb hfv
  rw [e3] at m3 m0 hfb hfv
  rw [e4] at m4 hfb hfv
  have w1' : IntKind.i64.wrap (d.x * o) = p1 := by rw [w1, e1]
  have w2' : IntKind.i64.wrap (d.y * u) = p2 := by rw [w2, e2]
  have w3' : IntKind.i64.wrap (o * o) = p3 := by rw [w3, e3]
  have w4' : IntKind.i64.wrap (u * u) = p4 := by rw [w4, e4]
  clear w1 w2 w3 w4 e1 e2 e3 e4
  have w5 : IntKind.i64.wrap (p1 + p2) = p1 + p2 := iwrap (by omega) (by omega)
  have w6 : IntKind.i64.wrap (p3 + p4) = p3 + p4 := iwrap (by omega) (by omega)
  obtain ⟨al, eal⟩ : ∃ p, p1 + p2 = p := ⟨_, rfl⟩
  obtain ⟨sq, esq⟩ : ∃ p, p3 + p4 = p := ⟨_, rfl⟩
  have w5' : IntKind.i64.wrap (p1 + p2) = al := by rw [w5, eal]
  have w6' : IntKind.i64.wrap (p3 + p4) = sq := by rw [w6, esq]
  clear w5 w6
  have bal : -8589934592 ≤ al ∧ al ≤ 8589934592 := by omega
  have bsq : 1 ≤ sq ∧ sq ≤ 33554432 := by omega
  rw [eal] at hfb hfv
  rw [esq] at hfb hfv
  have n1 := mulP (x := d.z) (y := sq) (A := 1048576) (B := 33554432) ⟨by omega, by omega⟩ ⟨by omega, by omega⟩ (by omega) (by omega)
  have n2 := mulP (x := lo) (y := al) (A := 4096) (B := 8589934592) hlo bal (by omega) (by omega)
  have n3 := mulP (x := hi) (y := al) (A := 4096) (B := 8589934592) hhi bal (by omega) (by omega)
  have n4 := sq_toNat (x := d.z) (A := 1048576) ⟨by omega, by omega⟩ (by omega)
  have hpos : ftB d o u lo hi = true → 0 < al := by
    intro q
    rw [hfb] at q
    simp only [Bool.not_eq_true', Bool.or_eq_false_iff, decide_eq_false_iff_not] at q
    rcases lt_geI 0 al with h | h
    · exact h
    · have := Int.mul_nonneg (a := hi - lo) (b := -al) (by omega) (by omega)
      have e : (hi - lo) * -al = lo * al - hi * al := by grind
      omega
  obtain ⟨q1, f1⟩ : ∃ p, d.z * sq = p := ⟨_, rfl⟩
  obtain ⟨q2, f2⟩ : ∃ p, lo * al = p := ⟨_, rfl⟩
  obtain ⟨q3, f3⟩ : ∃ p, hi * al = p := ⟨_, rfl⟩
  have w7 : IntKind.i64.wrap (d.z * sq) = q1 := by rw [f1] at n1 ⊢; exact iwrap (by omega) (by omega)
  have w8 : IntKind.i64.wrap (lo * al) = q2 := by rw [f2] at n2 ⊢; exact iwrap (by omega) (by omega)
  have w9 : IntKind.i64.wrap (hi * al) = q3 := by rw [f3] at n3 ⊢; exact iwrap (by omega) (by omega)
  rw [f1, f2, f3] at hfb
  obtain ⟨zz, ezz⟩ : ∃ v : Nat, d.z * d.z = v := ⟨(d.z * d.z).toNat, by omega⟩
  have w10 : IntKind.i64.wrap (d.z * d.z) = (zz : Int) := by rw [ezz] at n4 ⊢; exact iwrap (by omega) (by omega)
  rw [ezz] at hfv n4
  obtain ⟨s, es⟩ : ∃ v : Nat, sq = v := ⟨sq.toNat, by omega⟩
  subst es
  clear n1 n2 n3 f1 f2 f3 hlo hhi hlh hu ho m0 m1 m2 m3 m4 ezz eal esq
  obtain ⟨z1, z2, hbw⟩ := two_allocW w (.cells #[.int .i64 d.x, .int .i64 d.y, .int .i64 d.z] 24) (.cells #[.int .i64 0, .int .u64 0, .int .u64 0, .int .i64 0] 76)
  have x0 := (cells_at z1 0 (by simp)).1
  have x1 := (cells_at z1 1 (by simp)).1
  have x2 := (cells_at z1 2 (by simp)).1
  have HB := hideR hbw
  unfold Dr.val
  cases hq : ftB d o u lo hi
  · rw [hq] at hfb hft
    rw [if_neg (by decide)] at hft
    rw [hft, show coV co0 = .agg #[.int .i64 0, .int .u64 0, .int .u64 0, .int .i64 0] from rfl]
    have HF := hideR hfb
    clear hft hfv hpos hfb hq z1 z2
    have tor : q1 ≤ q2 ∨ q3 ≤ q1 := by
      have h := unhideR HF
      simp only [Bool.false_eq, Bool.not_eq_false', Bool.or_eq_true, decide_eq_true_eq] at h
      exact h
    by_cases t1 : q1 ≤ q2
    · have d1 : decide (q1 ≤ q2) = true := decide_eq_true t1
      go_enter Tryz.func138, Tryz.ntmps138
      go_wp2
      simp [bodyPost, results, Tryz.results138, go_sem]
      exact below_go (below_a w _) (below_a _ _)
    · have d1 : decide (q1 ≤ q2) = false := decide_eq_false t1
      have d2 : decide (q3 ≤ q1) = true := decide_eq_true (by omega)
      go_enter Tryz.func138, Tryz.ntmps138
      go_wp2
      simp [bodyPost, results, Tryz.results138, go_sem]
      exact below_go (below_a w _) (below_a _ _)
  have hal := hpos hq
  rw [hq] at hfb hft
  rw [if_pos rfl, hfv] at hft
  obtain ⟨a, ea⟩ : ∃ v : Nat, al = v := ⟨al.toNat, by omega⟩
  subst ea
  have hp1 := fun x => wprod_any a a x (by omega) (by omega)
  have hp2 := fun x => wprod_any zz s x (by omega) (by omega)
  have k1 := Nat.mul_le_mul (show a ≤ 8589934592 by omega) (show a ≤ 8589934592 by omega)
  have k2 := Nat.mul_le_mul (show zz ≤ 1099511627776 by omega) (show s ≤ 33554432 by omega)
  have hpl := fun x => wplus_any (a * a) (zz * s) x (by omega)
  rw [hft]
  unfold coV
  simp only
  rw [← Int.natCast_mul, ← Int.natCast_mul, ← Int.natCast_add, Int.toNat_natCast]
  unfold wdV at hp1 hp2 hpl
  have td : ¬ (q1 ≤ q2) ∧ ¬ (q3 ≤ q1) := by
    have h := hfb
    simp only [Bool.true_eq, Bool.not_eq_true', Bool.or_eq_false_iff, decide_eq_false_iff_not] at h
    exact h
  have d1 : decide (q1 ≤ q2) = false := decide_eq_false td.1
  have d2 : decide (q3 ≤ q1) = false := decide_eq_false td.2
  clear hft hfv hpos hfb hq td k1 k2 hal n4 hb hd bal bsq
  generalize (a * a + zz * s) / 18446744073709551616 = ch at *
  generalize (a * a + zz * s) % 18446744073709551616 = cl at *
  generalize a * a / 18446744073709551616 = ah at *
  generalize a * a % 18446744073709551616 = al at *
  generalize zz * s / 18446744073709551616 = bh at *
  generalize zz * s % 18446744073709551616 = bl at *
  go_enter Tryz.func138, Tryz.ntmps138
  go_upto_region 4 with fail
  clear x0 x1 x2 d1 d2
  generalize (w.alloc (.cells #[.int .i64 d.x, .int .i64 d.y, .int .i64 d.z] 24)).alloc (.cells #[.int .i64 0, .int .u64 0, .int .u64 0, .int .i64 0] 76) = u0 at *
  obtain ⟨K, hK⟩ : ∃ K, w.heap.size = K := ⟨_, rfl⟩
  have HK := hideR hK
  rw [hK] at z1 z2 ⊢
  clear hK hbw
  refine wp_region_made 1 #[true, true, true, true, true, true, true, true, true, true, true, true, true, false, false] [.lets (· = .int .i64 (a : Nat)),
    .lets (· = .int .i64 (a : Nat)),
    .lets (· = .agg #[.int .u64 (ah : Nat), .int .u64 (al : Nat)]),
    .lets (· = .pointer (some ⟨K, 2, none⟩)),
    .lets (· = .int .i64 d.z),
    .lets (· = .pointer (some ⟨K, 2, none⟩)),
    .lets (· = .int .i64 d.z),
    .lets (· = .int .i64 (zz : Nat)),
    .lets (· = .int .i64 (s : Nat)),
    .lets (· = .agg #[.int .u64 (bh : Nat), .int .u64 (bl : Nat)]),
    .lets (· = .agg #[.int .u64 (ch : Nat), .int .u64 (cl : Nat)]),
    .lets (· = .int .i64 (s : Nat)),
    .lets (· = .agg #[.int .i64 1, .int .u64 (ch : Nat), .int .u64 (cl : Nat), .int .i64 (s : Nat)])] [] [] (by kernel_rfl) (by kernel_rfl) rfl ?kinds (by kernel_rfl) (by kernel_rfl) (by kernel_rfl) ?_
  case kinds =>
    constructor
    · intro i h
      rcases i with _ | _ | _ | _ | _ | _ | _ | _ | _ | _ | _ | _ | _ | i <;> simp [Kx.isMade] at h
    · intro i h
      rcases i with _ | _ | _ | _ | _ | _ | _ | _ | _ | _ | _ | _ | _ | i <;> simp [Kx.isUse] at h
  refine lexX_step (fun K hK => ⟨by kernel_rfl, ⟨_, rfl⟩, fun v hv => ?_, fun v hv => ?_⟩)
  · go_simp
    exact mUpon_b
  subst hv
  go_simp
  refine hK _ ?_
  clear hK K
  refine lexX_step (fun K hK => ⟨by kernel_rfl, ⟨_, rfl⟩, fun v hv => ?_, fun v hv => ?_⟩)
  · go_simp
    exact mUpon_b
  subst hv
  go_simp
  refine hK _ ?_
  clear hK K
  refine lexX_step (fun K hK => ⟨by kernel_rfl, ⟨_, rfl⟩, fun v hv => ?_, fun v hv => ?_⟩)
  · go_simp
    refine (hp1 v).mono ?_
    rintro e w9 ⟨rfl, k⟩
    exact ⟨_, rfl, rfl, k⟩
  subst hv
  go_simp
  refine hK _ ?_
  clear hK K
  refine lexX_step (fun K hK => ⟨by kernel_rfl, ⟨_, rfl⟩, fun v hv => ?_, fun v hv => ?_⟩)
  · go_simp
    exact mUpon_b
  subst hv
  go_simp
  refine hK _ ?_
  clear hK K
  refine lexX_step (fun K hK => ⟨by kernel_rfl, ⟨_, rfl⟩, fun v hv => ?_, fun v hv => ?_⟩)
  · have y := (cells_at (keepB z1 hv) 2 (by simp)).1
    go_simp
    exact mUpon_b
  subst hv
  go_simp
  refine hK _ ?_
  clear hK K
  refine lexX_step (fun K hK => ⟨by kernel_rfl, ⟨_, rfl⟩, fun v hv => ?_, fun v hv => ?_⟩)
  · go_simp
    exact mUpon_b
  subst hv
  go_simp
  refine hK _ ?_
  clear hK K
  refine lexX_step (fun K hK => ⟨by kernel_rfl, ⟨_, rfl⟩, fun v hv => ?_, fun v hv => ?_⟩)
  · have y := (cells_at (keepB z1 hv) 2 (by simp)).1
    go_simp
    exact mUpon_b
  subst hv
  go_simp
  refine hK _ ?_
  clear hK K
  refine lexX_step (fun K hK => ⟨by kernel_rfl, ⟨_, rfl⟩, fun v hv => ?_, fun v hv => ?_⟩)
  · go_simp
    exact mUpon_b
  subst hv
  go_simp
  refine hK _ ?_
  clear hK K
  refine lexX_step (fun K hK => ⟨by kernel_rfl, ⟨_, rfl⟩, fun v hv => ?_, fun v hv => ?_⟩)
  · go_simp
    exact mUpon_b
  subst hv
  go_simp
  refine hK _ ?_
  clear hK K
  refine lexX_step (fun K hK => ⟨by kernel_rfl, ⟨_, rfl⟩, fun v hv => ?_, fun v hv => ?_⟩)
  · go_simp
    refine (hp2 v).mono ?_
    rintro e w9 ⟨rfl, k⟩
    exact ⟨_, rfl, rfl, k⟩
  subst hv
  go_simp
  refine hK _ ?_
  clear hK K
  refine lexX_step (fun K hK => ⟨by kernel_rfl, ⟨_, rfl⟩, fun v hv => ?_, fun v hv => ?_⟩)
  · go_simp
    refine (hpl v).mono ?_
    rintro e w9 ⟨rfl, k⟩
    exact ⟨_, rfl, rfl, k⟩
  subst hv
  go_simp
  refine hK _ ?_
  clear hK K
  refine lexX_step (fun K hK => ⟨by kernel_rfl, ⟨_, rfl⟩, fun v hv => ?_, fun v hv => ?_⟩)
  · go_simp
    exact mUpon_b
  subst hv
  go_simp
  refine hK _ ?_
  clear hK K
  refine lexX_step (fun K hK => ⟨by kernel_rfl, ⟨_, rfl⟩, fun v hv => ?_, fun v hv => ?_⟩)
  · go_simp
    exact mUpon_b
  subst hv
  go_simp
  refine hK _ ?_
  clear hK K
  refine lexX_end (fun v5 hv => ?_)
  replace z2 := keepB z2 hv.low
  replace HB := hideR (below_go (unhideR HB) hv.low)
  clear hv z1 hp1 hp2 hpl
  have d0 := (cells_at z2 0 (by simp)).1
  have d1 := (cells_at z2 1 (by simp)).1
  have d2 := (cells_at z2 2 (by simp)).1
  have d3 := (cells_at z2 3 (by simp)).1
  have f0 := (cells_at z2 0 (by simp)).2
  have f1 := (cells_at z2 1 (by simp)).2
  have f2 := (cells_at z2 2 (by simp)).2
  have f3 := (cells_at z2 3 (by simp)).2
  refine wpAny_step (i := 13) (by kernel_rfl) rfl (by kernel_rfl) (fun K hK => ?_)
  unfold Oper.wp
  go_simp
  refine hK _ _ ?_
  clear hK K
  refine wpAny_step (i := 14) (by kernel_rfl) rfl (by kernel_rfl) (fun K hK => ?_)
  unfold Oper.wp
  go_simp
  refine hK _ _ ?_
  clear hK K
  refine wpAny_end (by kernel_rfl) ?_
  have HB2 := hideR (set4_bl4 (unhideR HB) (show w.heap.size ≤ K + 1 by have := unhideR HK; omega) (.int .i64 1) (.int .u64 (ch : Nat)) (.int .u64 (cl : Nat)) (.int .i64 (s : Nat)))
  have o := set4_at4 z2 (.int .i64 1) (.int .u64 (ch : Nat)) (.int .u64 (cl : Nat)) (.int .i64 (s : Nat))
  have o0 := (cells_at o 0 (by simp)).1
  have o1 := (cells_at o 1 (by simp)).1
  have o2 := (cells_at o 2 (by simp)).1
  have o3 := (cells_at o 3 (by simp)).1
  clear d0 d1 d2 d3 f0 f1 f2 f3 o z2 HB
  go_wp2
  simp [bodyPost, results, Tryz.results138, go_sem, o0, o1, o2, o3]
  exact unhideR HB2
end Go.Proofs.YtfonpobdnhifgamGreatDoor
