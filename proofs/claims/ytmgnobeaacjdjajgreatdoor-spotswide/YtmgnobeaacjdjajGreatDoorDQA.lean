/-
  The program's spread of a number from a pixel to all of its part, by contract. The program's spread of a number: its walk. The program's numbers of parts, by contract.
-/
import Derived.Test.YtmgnobeaacjdjajGreatDoorSpKA
import Derived.Test.YtmgnobeaacjdjajGreatDoorPureA
import Derived.BigQuiet
namespace Go.Proofs.YtmgnobeaacjdjajGreatDoor
open Go Go.RowKit

def natI (S : List Nat) : List Int := S.map (fun k : Nat => (k : Int))
theorem natI_len (S : List Nat) : (natI S).length = S.length := by unfold natI; rw [List.length_map]
theorem own_other {w : World} {B g k n s : Nat} {e : TypeId} {v x : Value} {xs : List Value} (h : w.ownsRow B e s v n xs) (hg : g < B) : (w.setCell ⟨g, k, none⟩ x).ownsRow B e s v n xs := by
  obtain ⟨h1, h2⟩ := h
  refine ⟨h1, ?_⟩
  rcases h2 with h2 | ⟨g', cap, cur, hv, hb, hh, r⟩
  · exact Or.inl h2
  · exact Or.inr ⟨g', cap, cur, hv, hb, by rw [heap_setCell_other _ _ _ _ (by show g' ≠ g; omega)]; exact hh, r⟩
theorem own_apart {w w' : World} {B g n s : Nat} {e : TypeId} {c : Nat} {xs : List Value} (h : w.ownsRow B e s (.slice (some ⟨g, 0, none⟩) n c) n xs) (k : w'.heap[g]? = w.heap[g]?) : w'.ownsRow B e s (.slice (some ⟨g, 0, none⟩) n c) n xs := by
  obtain ⟨h1, h2⟩ := h
  refine ⟨h1, ?_⟩
  rcases h2 with ⟨h2, _⟩ | ⟨g', cap, cur, hv, hb, hh, r⟩
  · cases h2
  · injection hv with e1 e2 e3
    injection e1 with e1
    injection e1 with e1
    subst e1
    subst e3
    exact Or.inr ⟨g, c, cur, rfl, hb, by rw [k]; exact hh, r⟩
/-- the last one of a row. -/
theorem IOwn.last {u : World} {B : Nat} {v : Value} {l : List Int} {c : Int} (h : IOwn u B v (l ++ [c])) : ∃ b cap, v = .slice (some ⟨b, 0, none⟩) (l.length + 1) cap ∧ l.length + 1 ≤ cap ∧ u.cell? ⟨b, l.length, none⟩ = some (.int .i64 c) ∧ IOwn u B (.slice (some ⟨b, 0, none⟩) l.length cap) l := by
  have h' := h
  unfold IOwn at h
  rcases h.2 with ⟨_, h2⟩ | ⟨g, cap, cur, hv, hb, hh, hc, hm, hs, ht⟩
  · simp at h2
  · rw [List.length_append, List.length_singleton] at hv hc ht
    refine ⟨g, cap, hv, hc, ?_, ?_⟩
    · subst hv
      have := (IOwn.has (n := l.length + 1) h' (by simp) (k := l.length) (by omega)).1
      rw [this]
      simp [List.getD]
    · unfold IOwn
      refine ⟨by simp, Or.inr ⟨g, cap, cur, rfl, hb, hh, by omega, hm, hs, ?_⟩⟩
      have e : cur.toList.take (l.length * 1) = (cur.toList.take ((l.length + 1) * 1)).take l.length := by
        rw [List.take_take]
        congr 1
        omega
      rw [e, ht, List.map_append, List.take_append_of_le_length (by simp), List.take_of_length_le (by simp)]
def cellsZero : List Value → Nat
  | [] => 0
  | v :: r => (if intOf v = 0 then 1 else 0) + cellsZero r
def rowZeros (w : World) (g : Nat) : Nat := match w.heap[g]? with
  | some (.cells cs _ _) => cellsZero cs.toList
  | _ => 0
theorem cells_zero (C : List Int) : cellsZero (C.map (Value.int .i64)) = zeros C := by
  unfold zeros
  induction C with
  | nil => rfl
  | cons c C ih =>
    rw [List.map_cons, List.countP_cons, ← ih]
    show (if intOf (.int .i64 c) = 0 then 1 else 0) + _ = _
    rw [show intOf (.int .i64 c) = c from rfl, Nat.add_comm]
    by_cases e : c = 0 <;> simp [e]
theorem IOwn.zero {w : World} {B g n : Nat} {C : List Int} (h : IOwn w B (.slice (some ⟨g, 0, none⟩) n n) C) (hn : C.length = n) : rowZeros w g = zeros C := by
  unfold IOwn at h
  rw [hn] at h
  rcases h.2 with ⟨h1, _⟩ | ⟨g', c, cur, h1, _, hh, _, _, hs, ht⟩
  · cases h1
  · injection h1 with h1 h2 h3
    injection h1 with h1
    injection h1 with h1
    subst h1
    subst h3
    unfold rowZeros
    rw [hh]
    show cellsZero cur.toList = _
    rw [List.take_of_length_le (by rw [Array.length_toList, hs]; exact Nat.le_refl _)] at ht
    rw [ht, cells_zero]
/-- the numbers in block g, those that wait from B on. -/
structure WtS (w : World) (g n B : Nat) (D : List Int) (wv : Value) (S : List Nat) (u : World) : Prop where
  own : IOwn u g (.slice (some ⟨g, 0, none⟩) n n) D
  len : D.length = n
  row : IOwn u B wv (natI S)
  bel : Below g w u
  siz : B ≤ u.heap.size
theorem WtS.put {w u : World} {g n B k : Nat} {D : List Int} {wv : Value} {S : List Nat} (h : WtS w g n B D wv S u) (hg : g < B) (x : Int) : WtS w g n B (D.set k x) wv S (u.setCell ⟨g, k, none⟩ (.int .i64 x)) :=
  ⟨h.own.put h.len k x, by rw [List.length_set]; exact h.len, own_other h.row hg, h.bel.setCell (Nat.le_refl g) _, by simpa using h.siz⟩
def lenOf : Value → Nat
  | .slice _ n _ => n
  | _ => 0
def SprPost (L : List Bool) (W i : Nat) (num : Int) (C : List Int) (w : World) (g n : Nat) (e : Ending) (w' : World) : Prop := e = .returned (.tuple #[]) ∧ ∃ D, Spread L W i num C D ∧ IOwn w' g (.slice (some ⟨g, 0, none⟩) n n) D ∧ D.length = n ∧ Below g w w'
end Go.Proofs.YtmgnobeaacjdjajGreatDoor
namespace Go.Proofs.YtmgnobeaacjdjajGreatDoor
open Go Go.RowKit

theorem seen_in {L : List Bool} {W c r u : Nat} {D : List Int} (h : Seen L W c r 0 D) (hu : u = 0 ∨ u + 1 = c % W) : Seen L W c r u D := fun k l a q => by
  refine h k l a ?_
  unfold Adj at a
  omega
theorem seen_row {L : List Bool} {W c r u : Nat} {D : List Int} (hW : 1 ≤ W) (h : Seen L W c r u D) (hu : u = W ∨ u = c % W + 2) : Seen L W c (r + 1) 0 D := fun k l a q => by
  refine h k l a ?_
  have := Nat.mod_lt k (show W > 0 by omega)
  unfold Adj at a
  omega
theorem seen_top {L : List Bool} {W c r : Nat} (D : List Int) (hr : r = 0 ∨ r + 1 = c / W) : Seen L W c r 0 D := fun k l a q => by
  unfold Adj at a
  generalize k / W = k1 at *
  generalize c / W = c1 at *
  omega
theorem adj_at {W c r u : Nat} (hu : u < W) (h1 : r ≤ c / W + 1) (h2 : c / W ≤ r + 1) (h3 : u ≤ c % W + 1) (h4 : c % W ≤ u + 1) : Adj W c (r * W + u) := by
  obtain ⟨e1, e2⟩ := row_div (W := W) (y := r) hu
  unfold Adj
  rw [e1, e2]
  exact ⟨h2, h1, h4, h3⟩
theorem min_is {a b t : Int} (h : t = if b < a then b else a) : ∀ (ts : Array TypeId) (ty : TypeId) (u : World), (Builtin.min_ ts ty #[.int .i64 a, .int .i64 b]).run Tryz.prog u = .ok (.int .i64 t) u := fun ts ty u => by
  rw [h]
  exact run_min_int2 u ts ty _ _ _ _
theorem max_is {a b t : Int} (h : t = if b > a then b else a) : ∀ (ts : Array TypeId) (ty : TypeId) (u : World), (Builtin.max_ ts ty #[.int .i64 a, .int .i64 b]).run Tryz.prog u = .ok (.int .i64 t) u := fun ts ty u => by
  rw [h]
  exact run_max_int2 u ts ty _ _ _ _
theorem WtS.begin {w : World} {g n i : Nat} {D : List Int} (ho : IOwn w g (.slice (some ⟨g, 0, none⟩) n n) D) (hl : D.length = n) (hg : g < w.heap.size) {w0 : World} (hb : Below g w0 w) : WtS w0 g n w.heap.size D (.slice (some ⟨w.heap.size, 0, none⟩) 1 1) [i] (w.alloc (.cells #[.int .i64 (i : Nat)] 3)) := by
  refine ⟨?_, hl, ?_, hb.alloc (by omega) _, by simp⟩
  · unfold IOwn at ho ⊢
    rw [hl] at ho ⊢
    exact own_apart ho (alloc_block hg)
  · unfold IOwn
    refine ⟨rfl, Or.inr ⟨w.heap.size, 1, _, rfl, Nat.le_refl _, alloc_last w _, Nat.le_refl _, by unfold maxLen; omega, rfl, rfl⟩⟩
theorem WtS.grown {w u v : World} {g n B : Nat} {D : List Int} {wv wv2 : Value} {S : List Nat} {k : Nat} {o : Obj} (h : WtS w g n B D wv S u) (hg : g < B) (hrow : v.ownsRow B 3 1 wv2 (S.length + 1) ((natI S).map (Value.int .i64) ++ [.int .i64 (k : Nat)])) (hgr : (u.alloc o).grownBy v wv.ownBlock) : WtS w g n B D wv2 (S ++ [k]) v := by
  have hsz := h.siz
  have hne : some g ≠ wv.ownBlock := fun e => by have := own_at2 h.row g e.symm; omega
  have hb : v.heap[g]? = u.heap[g]? := (hgr.block g (by simp; omega) hne).trans (alloc_block (by omega))
  refine ⟨?_, h.len, ?_, (h.bel.alloc (by omega) o).grown hgr (by simp; omega) (fun q hq => by have := own_at2 h.row q hq; omega), by have := hgr.size; simp at this; omega⟩
  · have := h.own
    unfold IOwn at this ⊢
    rw [h.len] at this ⊢
    exact own_apart this hb
  · unfold IOwn
    rw [show natI (S ++ [k]) = natI S ++ [(k : Int)] by unfold natI; rw [List.map_append]; rfl, List.length_append, natI_len, List.map_append]
    exact hrow
theorem WtS.drew {w u : World} {g n B : Nat} {D : List Int} {wv : Value} {S : List Nat} (h : WtS w g n B D wv S u) (q : Nat) : WtS w g n B D wv S (u.drewN q) := ⟨h.own, h.len, h.row, ⟨h.bel.os, h.bel.tape, h.bel.output, h.bel.size, h.bel.block⟩, h.siz⟩
set_option maxRecDepth 100000 in
set_option maxHeartbeats 12800000 in
theorem spread_any {w : World} {bl ol cap W g i : Nat} {L : List Bool} {C : List Int} {num : Nat} (hL : LCame w (some ⟨bl, ol, none⟩) L) (hLg : bl < g) (hW : 1 ≤ W) (H : Nat) (hH : L.length = H * W) (hn : L.length ≤ 65536)
    (hO : IOwn w g (.slice (some ⟨g, 0, none⟩) L.length L.length) C) (hC : C.length = L.length) (hg : g < w.heap.size) (hi : litB L i = true) (h0 : ∀ k, Conn L W i k → C.getD k 0 = 0) (hnum : 1 ≤ num) (hnb : num ≤ 100000) :
    Calls Tryz.prog 76 #[.slice (some ⟨bl, ol, none⟩) L.length cap, .slice (some ⟨g, 0, none⟩) L.length L.length, .int .i64 (W : Nat), .int .i64 (i : Nat), .int .i64 (num : Nat)] w (SprPost L W i num C w g L.length) := by
  obtain ⟨i0, hi0, hz0, hz1, hz2⟩ := info_parts infoI
  have hil := lit_lt hi
  have HL : HeldR (∀ u, Below g w u → ∀ k, k < L.length → u.cell? ⟨bl, ol + k, none⟩ = some (.bool (litB L k))) := hideR (fun u q k hk => by
    obtain ⟨b, off, e, hb, x⟩ := hL.at_ k hk
    injection e with e
    injection e with e1 e2
    subst e1
    subst e2
    exact (q.cell (p := ⟨bl, ol + k, none⟩) hLg).trans x)
  have HSp0 := hideR (spr0 (W := W) hC hi h0 (show (num : Int) ≠ 0 by omega))
  have HZ := hideR h0
  have HEnd : HeldR (∀ D u, Spr L W i num C D [] L.length → IOwn u g (.slice (some ⟨g, 0, none⟩) L.length L.length) D → D.length = L.length → Below g w u → SprPost L W i num C w g L.length (.returned (.tuple #[])) u) := hideR (fun D u s o l b => ⟨rfl, D, s.done, o, l, b⟩)
  obtain ⟨xo, fo⟩ := hO.has hC hil
  have HS0 := hideR (WtS.begin (i := i) (hO.put hC i (num : Int)) (by rw [List.length_set]; exact hC) (by simpa using hg) ((Below.refl g w).setCell (Nat.le_refl g) (.int .i64 (num : Nat))))
  have HC := hideR hC
  have HM00 : HeldR (2 * zeros (C.set i (num : Int)) + [i].length ≤ 2 * L.length) := hideR (by
    have q1 := zeros_set (C := C) (k := i) (x := (num : Int)) (by rw [hC]; exact hil) (h0 i (.one hi)) (by omega)
    have q2 : zeros C ≤ C.length := List.countP_le_length
    simp only [List.length_singleton]
    omega)
  obtain ⟨n, hnn⟩ : ∃ n, L.length = n := ⟨_, rfl⟩
  have HN := hideR hnn
  rw [hnn] at hH hn hil HL HSp0 HEnd HS0 HM00 ⊢
  have HHW := hideR hH
  have hWn : W ≤ n := by
    rw [hH]
    cases H with
    | zero => rw [Nat.zero_mul] at hH; omega
    | succ H => rw [Nat.succ_mul]; omega
  have hHn : H ≤ n := by rw [hH]; exact Nat.le_mul_of_pos_right H (by omega)
  have hdiv : n / W = H := by rw [hH]; exact Nat.mul_div_cancel H (by omega)
  have dH : (n : Int).tdiv (W : Int) = (H : Nat) := by rw [Int.tdiv_eq_ediv_of_nonneg (Int.natCast_nonneg n), ← hdiv]; exact (Int.natCast_ediv n W).symm
  have dH2 : (n : Int) / (W : Int) = (H : Nat) := by rw [← hdiv]; exact (Int.natCast_ediv n W).symm
  have jj : (i : Int) < (n : Int) := by omega
  have hW0 : (W : Int) ≠ 0 := by omega
  have hW0' : W ≠ 0 := by omega
  rw [show ((w.setCell ⟨g, i, none⟩ (.int .i64 (num : Nat))).heap.size) = w.heap.size by simp] at HS0
  obtain ⟨B, hB⟩ : ∃ B, w.heap.size = B := ⟨_, rfl⟩
  have HBw := hideR hB
  have hgB : g < B := by omega
  clear hnn hL hi h0 hO hH hC hLg hg hdiv
  generalize hx0 : C.getD i 0 = x0 at xo
  clear hx0
  go_enter Tryz.func76, Tryz.ntmps76
  go_wp2
  go_loopw [10] (fun wv wl => ∃ (D : List Int) (S : List Nat), HeldR (WtS w g n B D wv S wl) ∧ HeldR (Spr L W i num C D S n) ∧ HeldR (2 * zeros D + S.length ≤ 2 * n)) (fun wv wl => 2 * rowZeros wl g + lenOf wv)
  case atStart => exact ⟨_, _, by rw [← hB]; exact HS0, HSp0, HM00⟩
  case round =>
    clear HS0 HSp0 xo fo HM00
    obtain ⟨D, S, HS, HP, HMn⟩ := hrel
    rcases List.eq_nil_or_concat S with rfl | ⟨S', c, hSc⟩
    · obtain ⟨a1, c1, e⟩ := (unhideR HS).row.slice
      have e2 : u10 = .slice a1 0 c1 := e
      subst e2
      go_wp2
      go_end0
      exact unhideR HEnd D _ (unhideR HP) (unhideR HS).own (unhideR HS).len (unhideR HS).bel
    · rw [List.concat_eq_append] at hSc
      subst hSc
      have hm0 : HeldR (2 * rowZeros wr g + lenOf u10 = 2 * zeros D + (S'.length + 1)) := hideR (by
        obtain ⟨a1, c1, e⟩ := (unhideR HS).row.slice
        rw [e, (unhideR HS).own.zero (unhideR HS).len]
        show _ + (natI (S' ++ [c])).length = _
        rw [natI_len, List.length_append]
        rfl)
      obtain ⟨b, cp, e, hcp, xc, hrow⟩ := IOwn.last (l := natI S') (c := (c : Int)) (by
        have := (unhideR HS).row
        unfold natI at this ⊢
        rw [List.map_append] at this
        exact this)
      rw [natI_len] at e hcp xc hrow
      subst e
      have HP2 : HeldR (Spr L W i num C D S' c) := hideR (by
        have := unhideR HP
        rw [← unhideR HN] at this
        exact this.pop)
      have hcn : c < n := by rw [← unhideR HN]; exact lit_lt ((unhideR HP).wait c (List.mem_append_right _ (List.mem_singleton.2 rfl))).1.lit2
      have HS2 : HeldR (WtS w g n B D (.slice (some ⟨b, 0, none⟩) S'.length cp) S' wr) := hideR ⟨(unhideR HS).own, (unhideR HS).len, hrow, (unhideR HS).bel, (unhideR HS).siz⟩
      have hHW := unhideR HHW
      have hyH : c / W < H := by
        rw [Nat.div_lt_iff_lt_mul (by omega)]
        omega
      have hxW : c % W < W := Nat.mod_lt _ (by omega)
      have hm1 : (c : Int) % (W : Int) = ((c % W : Nat) : Int) := (Int.natCast_emod c W).symm
      have hm2 : (c : Int).tmod (W : Int) = ((c % W : Nat) : Int) := (Int.tmod_eq_emod_of_nonneg (Int.natCast_nonneg c)).trans hm1
      have hd1 : (c : Int) / (W : Int) = ((c / W : Nat) : Int) := (Int.natCast_ediv c W).symm
      have hd2 : (c : Int).tdiv (W : Int) = ((c / W : Nat) : Int) := (Int.tdiv_eq_ediv_of_nonneg (Int.natCast_nonneg c)).trans hd1
      obtain ⟨y, hy⟩ : ∃ y, c / W = y := ⟨_, rfl⟩
      obtain ⟨x, hx⟩ : ∃ x, c % W = x := ⟨_, rfl⟩
      rw [hy] at hyH hd1 hd2
      rw [hx] at hxW hm1 hm2
      have HY := hideR hy
      have HX := hideR hx
      obtain ⟨m, hm⟩ : ∃ m, S'.length = m := ⟨_, rfl⟩
      have HM := hideR hm
      rw [hm] at hcp xc HS2 hm0 ⊢
      have hmb : cp ≤ 9223372036854775807 := by
        rcases hrow.2 with ⟨q, _⟩ | ⟨g', cc, cur, q, _, _, _, q2, _⟩
        · cases q
        · injection q with q1 q3 q4
          rw [q4]
          simpa [maxLen] using q2
      clear hHW hy hx hm HS HP hrow
      have wl : IntKind.i64.wrap (((m + 1 : Nat) : Int) - 1) = (m : Int) := by
        rw [show ((m + 1 : Nat) : Int) - 1 = (m : Int) by omega]
        exact iwrap (by omega) (by omega)
      have wl2 : IntKind.i64.wrap ((m : Int) + 1 - 1) = (m : Int) := by
        rw [show (m : Int) + 1 - 1 = (m : Int) by omega]
        exact iwrap (by omega) (by omega)
      have wx : IntKind.i64.wrap (x : Int) = (x : Int) := iwrap (by omega) (by omega)
      have wy : IntKind.i64.wrap (y : Int) = (y : Int) := iwrap (by omega) (by omega)
      have wH : IntKind.i64.wrap (H : Int) = (H : Int) := iwrap (by omega) (by omega)
      have wy1 : IntKind.i64.wrap ((y : Int) - 1) = (y : Int) - 1 := iwrap (by omega) (by omega)
      have wy2 : IntKind.i64.wrap ((y : Int) + 1) = (y : Int) + 1 := iwrap (by omega) (by omega)
      have wx1 : IntKind.i64.wrap ((x : Int) - 1) = (x : Int) - 1 := iwrap (by omega) (by omega)
      have wx2 : IntKind.i64.wrap ((x : Int) + 1) = (x : Int) + 1 := iwrap (by omega) (by omega)
      have wH1 : IntKind.i64.wrap ((H : Int) - 1) = (H : Int) - 1 := iwrap (by omega) (by omega)
      have wW1 : IntKind.i64.wrap ((W : Int) - 1) = (W : Int) - 1 := iwrap (by omega) (by omega)
      obtain ⟨Y0, hY0⟩ : ∃ Y0 : Nat, (Y0 : Int) = if 0 > (y : Int) - 1 then 0 else (y : Int) - 1 := ⟨y - 1, by split <;> omega⟩
      obtain ⟨X0, hX0⟩ : ∃ X0 : Nat, (X0 : Int) = if 0 > (x : Int) - 1 then 0 else (x : Int) - 1 := ⟨x - 1, by split <;> omega⟩
      obtain ⟨YT, hYT⟩ : ∃ YT : Nat, (YT : Int) = if (H : Int) - 1 < (y : Int) + 1 then (H : Int) - 1 else (y : Int) + 1 := ⟨min (y + 1) (H - 1), by split <;> omega⟩
      obtain ⟨XT, hXT⟩ : ∃ XT : Nat, (XT : Int) = if (W : Int) - 1 < (x : Int) + 1 then (W : Int) - 1 else (x : Int) + 1 := ⟨min (x + 1) (W - 1), by split <;> omega⟩
      have mY0 := max_is hY0
      have mX0 := max_is hX0
      have mYT := min_is hYT
      have mXT := min_is hXT
      have bY0 : (Y0 = 0 ∧ y ≤ 1 ∨ Y0 + 1 = y) := by split at hY0 <;> omega
      have bX0 : (X0 = 0 ∧ x ≤ 1 ∨ X0 + 1 = x) := by split at hX0 <;> omega
      have bYT : (YT + 1 = H ∧ H ≤ y + 2 ∨ YT = y + 1 ∧ y + 2 ≤ H) := by split at hYT <;> omega
      have bXT : (XT + 1 = W ∧ W ≤ x + 2 ∨ XT = x + 1 ∧ x + 2 ≤ W) := by split at hXT <;> omega
      have HbY0 := hideR bY0
      have HbX0 := hideR bX0
      have HbYT := hideR bYT
      have HbXT := hideR bXT
      have lY : YT < 65536 := by omega
      have lX : XT < 65536 := by omega
      have lY0 : Y0 ≤ YT := by omega
      have lX0 : X0 ≤ XT := by omega
      have lXW : XT < W := by omega
      have lYH : YT < H := by omega
      have HM0 : HeldR (2 * zeros D + S'.length ≤ 2 * zeros D + m) := hideR (by rw [unhideR HM]; exact Nat.le_refl _)
      obtain ⟨MM, hMM⟩ : ∃ MM, 2 * zeros D + m = MM := ⟨_, rfl⟩
      rw [show 2 * zeros D + (m + 1) = 2 * zeros D + m + 1 by omega, hMM] at hm0
      rw [hMM] at HM0
      have hMMb : MM ≤ 2 * n := by
        have := unhideR HMn
        rw [List.length_append, List.length_singleton, unhideR HM] at this
        omega
      clear hY0 hX0 hYT hXT bY0 bX0 bYT bXT hMM HMn
      go_wp2
      go_quiet (fail)
      go_wp2
      clear xc mY0 wl wl2 hm1 hm2 hd1 hd2 wx wy wy1 hmb hcp
      go_loopw [10, 15] (fun wv vv wl => ∃ (r : Nat) (D : List Int) (S : List Nat), Y0 ≤ r ∧ r ≤ YT + 1 ∧ vv = .int .i64 (r : Nat) ∧ HeldR (WtS w g n B D wv S wl) ∧ HeldR (Spr L W i num C D S c) ∧ HeldR (Seen L W c r 0 D) ∧ HeldR (2 * zeros D + S.length ≤ MM)) (fun _ vv _ => 100000 - (intOf vv).toNat)
      case atStart => exact ⟨Y0, D, S', Nat.le_refl _, by omega, rfl, hideR ((unhideR HS2).drew _), HP2, hideR (seen_top D (by have := unhideR HbY0; have := unhideR HY; omega)), HM0⟩
      case round =>
        clear HS2 HP2 HM0
        obtain ⟨r, D, S, hr1, hr2, rfl, HS, HP, HSe, HMe⟩ := hrel
        by_cases hr : r ≤ YT
        · have tr : decide ((r : Int) ≤ (YT : Int)) = true := decide_eq_true (by omega)
          have trn : decide (r ≤ YT) = true := decide_eq_true hr
          have wr1 : IntKind.i64.wrap ((r : Int) + 1) = (r : Int) + 1 := iwrap (by omega) (by omega)
          obtain ⟨Q, hQ⟩ : ∃ Q, r * W = Q := ⟨_, rfl⟩
          have hQb : Q + W ≤ n := by
            rw [← hQ, unhideR HHW, show r * W + W = (r + 1) * W by rw [Nat.succ_mul]]
            exact Nat.mul_le_mul_right W (by omega)
          have wQ : IntKind.i64.wrap ((r : Int) * (W : Int)) = (Q : Int) := by
            rw [show (r : Int) * (W : Int) = ((Q : Nat) : Int) by rw [← hQ, Int.natCast_mul]]
            exact iwrap (by omega) (by omega)
          have HQ := hideR hQ
          have HSe2 := hideR (seen_in (u := X0) (unhideR HSe) (by have := unhideR HbX0; have := unhideR HX; omega))
          clear hQ HSe
          go_wp2
          go_loopw [10, 16] (fun wv uv wl => ∃ (u : Nat) (D : List Int) (S : List Nat), X0 ≤ u ∧ u ≤ XT + 1 ∧ uv = .int .i64 (u : Nat) ∧ HeldR (WtS w g n B D wv S wl) ∧ HeldR (Spr L W i num C D S c) ∧ HeldR (Seen L W c r u D) ∧ HeldR (2 * zeros D + S.length ≤ MM)) (fun _ uv _ => 100000 - (intOf uv).toNat)
          case atStart => exact ⟨X0, D, S, Nat.le_refl _, by omega, rfl, HS, HP, HSe2, HMe⟩
          case round =>
            clear HS HP HSe2 HMe
            obtain ⟨u, D, S, hu1, hu2, rfl, HS, HP, HSe, HMe⟩ := hrel
            by_cases hu : u ≤ XT
            · have tu : decide ((u : Int) ≤ (XT : Int)) = true := decide_eq_true (by omega)
              have tun : decide (u ≤ XT) = true := decide_eq_true hu
              have wu1 : IntKind.i64.wrap ((u : Int) + 1) = (u : Int) + 1 := iwrap (by omega) (by omega)
              obtain ⟨K, hK⟩ : ∃ K, Q + u = K := ⟨_, rfl⟩
              have hKn : K < n := by omega
              have wK : IntKind.i64.wrap ((Q : Int) + (u : Int)) = (K : Int) := by
                rw [show (Q : Int) + (u : Int) = (K : Int) by omega]
                exact iwrap (by omega) (by omega)
              have hKat : K = r * W + u := by rw [unhideR HQ]; exact hK.symm
              have HKr : HeldR (K / W = r ∧ K % W = u) := hideR (by rw [hKat]; exact row_div (by omega))
              have HKa : HeldR (Adj W c K) := hideR (by
                have q1 := unhideR HbY0
                have q2 := unhideR HbX0
                have q3 := unhideR HbYT
                have q4 := unhideR HbXT
                have q5 := unhideR HY
                have q6 := unhideR HX
                rw [hKat]
                exact adj_at (by omega) (by omega) (by omega) (by omega) (by omega))
              have xl := unhideR HL wr (unhideR HS).bel K hKn
              obtain ⟨xo, fo⟩ := (unhideR HS).own.has (unhideR HS).len hKn
              have jk : (K : Int) < (n : Int) := by omega
              clear hK hKat
              cases hlb : litB L K with
              | false =>
                rw [hlb] at xl
                have HSe2 := hideR ((unhideR HSe).one (unhideR HKr) (.inl hlb))
                clear hlb HSe HKa HKr
                go_wp2
                exact ⟨⟨u + 1, D, S, by omega, by omega, by go_num, HS, HP, HSe2, HMe⟩, by simp [intOf]; omega⟩
              | true =>
                rw [hlb] at xl
                by_cases hz : D.getD K 0 = 0
                · rw [hz] at xo
                  have HS3 := hideR ((unhideR HS).put (k := K) hgB (num : Int))
                  have HP3 : HeldR (Spr L W i num C (D.set K num) (S ++ [K]) c) := hideR ((unhideR HP).push (unhideR HC) (by rw [unhideR HN]; exact hcn) hlb (unhideR HKa))
                  have HSe3 : HeldR (Seen L W c r (u + 1) (D.set K num)) := hideR ((seen_put (num := (num : Int)) (k := K) (by omega) (by rw [(unhideR HS).len]; exact hKn) (unhideR HSe)).one (unhideR HKr) (.inr (by rw [getD_setI (by rw [(unhideR HS).len]; exact hKn), if_pos rfl]; omega)))
                  have HMe3 : HeldR (2 * zeros (D.set K num) + (S ++ [K]).length ≤ MM) := hideR (by
                    have q1 := zeros_set (C := D) (k := K) (x := (num : Int)) (by rw [(unhideR HS).len]; exact hKn) hz (by omega)
                    have q2 := unhideR HMe
                    rw [List.length_append]
                    simp only [List.length_singleton]
                    omega)
                  have hSl : S.length ≤ 1000000 := by
                    have := unhideR HMe
                    omega
                  clear hlb HSe HKa HKr hz HS HP HMe
                  go_wp2_with (first
                    | (at_builtin; refine wpList_append_own _ rfl _ _ 29 rfl B 3 i0 (.int .i64 0) 1 8 Tryz.underlying29 hi0 hz0 hz1 hz2 rfl (by decide) _ S.length ((natI S).map (Value.int .i64)) rfl (own_below2 (by have := (unhideR HS3).row; unfold IOwn at this; rw [natI_len] at this; exact this) (below_a _ _)) ⟨wr.heap.size, 0, none⟩ 1 1 [.int .i64 (K : Nat)] rfl rfl ?c1 ?c2 ?c3 ?c4 ?c5 ?_))
                  case c1 =>
                    have q := alloc_last (wr.setCell ⟨g, K, none⟩ (.int .i64 (num : Nat))) (.cells #[.int .i64 (K : Nat)] 3)
                    rw [show (wr.setCell ⟨g, K, none⟩ (.int .i64 (num : Nat))).heap.size = wr.heap.size by simp] at q
                    exact one_cell q
                  case c2 => exact int_one
                  case c3 => unfold maxLen; omega
                  case c4 => omega
                  case c5 => have := (unhideR HS3).siz; simp at this ⊢; omega
                  intro v7 w7 hown7 hgrow7 _
                  have HS7 := hideR ((unhideR HS3).grown hgB hown7 hgrow7)
                  clear hown7 hgrow7 HS3
                  go_wp2
                  exact ⟨⟨u + 1, _, _, by omega, by omega, by go_num, HS7, HP3, HSe3, HMe3⟩, by simp [intOf]; omega⟩
                · have hz2 : decide (D.getD K 0 = 0) = false := decide_eq_false hz
                  have HSe2 := hideR ((unhideR HSe).one (unhideR HKr) (.inr hz))
                  obtain ⟨dk, hdk⟩ : ∃ dk, D.getD K 0 = dk := ⟨_, rfl⟩
                  rw [hdk] at xo hz hz2
                  clear hlb HSe HKa HKr hdk
                  go_wp2
                  exact ⟨⟨u + 1, D, S, by omega, by omega, by go_num, HS, HP, HSe2, HMe⟩, by simp [intOf]; omega⟩
            · obtain rfl : u = XT + 1 := by omega
              have tu : decide (((XT + 1 : Nat) : Int) ≤ (XT : Int)) = false := decide_eq_false (by omega)
              have tun : decide (XT + 1 ≤ XT) = false := decide_eq_false hu
              have HSr := hideR (seen_row hW (unhideR HSe) (by have := unhideR HbXT; have := unhideR HX; omega))
              clear HSe
              go_wp2
              exact ⟨⟨r + 1, D, S, by omega, by omega, by go_num, HS, HP, HSr, HMe⟩, by simp [intOf]; omega⟩
        · obtain rfl : r = YT + 1 := by omega
          have tr : decide (((YT + 1 : Nat) : Int) ≤ (YT : Int)) = false := decide_eq_false (by omega)
          have trn : decide (YT + 1 ≤ YT) = false := decide_eq_false hr
          have HPn : HeldR (Spr L W i num C D S n) := hideR (by
            have q3 := unhideR HbYT
            have q5 := unhideR HY
            have := (unhideR HP).shutC (unhideR HZ) (by rw [unhideR HN]; exact hcn) (unhideR HSe) (fun k l a => by
              have hk := lit_lt l
              rw [unhideR HN, unhideR HHW] at hk
              have hkH : k / W < H := by rw [Nat.div_lt_iff_lt_mul (by omega)]; exact hk
              unfold Adj at a
              omega)
            rw [unhideR HN] at this
            exact this)
          clear HSe HP
          go_wp2
          refine ⟨⟨D, S, HS, HPn, hideR (by have := unhideR HMe; omega)⟩, ?_⟩
          obtain ⟨a1, c1, e⟩ := (unhideR HS).row.slice
          have q1 := unhideR hm0
          have q2 := unhideR HMe
          rw [(unhideR HS).own.zero (unhideR HS).len, e]
          show 2 * zeros D + (natI S).length < _
          rw [natI_len]
          omega
end Go.Proofs.YtmgnobeaacjdjajGreatDoor
namespace Go.Proofs.YtmgnobeaacjdjajGreatDoor
open Go Go.RowKit

theorem IOwn.size {w : World} {B g n c : Nat} {C : List Int} (h : IOwn w B (.slice (some ⟨g, 0, none⟩) n c) C) : g < w.heap.size := by
  unfold IOwn at h
  rcases h.2 with ⟨h1, _⟩ | ⟨g', c, cur, h1, _, hh, _⟩
  · cases h1
  · injection h1 with h1 _ _
    injection h1 with h1
    injection h1 with h1
    subst h1
    exact (Array.getElem?_eq_some_iff.1 hh).1
set_option maxRecDepth 100000 in
set_option maxHeartbeats 12800000 in
theorem numbered_any {w : World} {ad : Option Addr} {cap W : Nat} {L : List Bool} (hL : LCame w ad L) (hW : 1 ≤ W) (H : Nat) (hH : L.length = H * W) (hn : L.length ≤ 65536) :
    Calls Tryz.prog 43 #[.slice ad L.length cap, .int .i64 (W : Nat)] w (LbPost L W w) := by
  obtain ⟨w1, hmk, ho, hb1⟩ := make_zeroS (w := w) (n := L.length) w.heap.size (Nat.le_refl _) hn
  have HS0 : HeldR (LbS w w.heap.size L.length (List.replicate L.length 0) w1) := hideR ⟨ho, by simp, hb1⟩
  have HF0 := hideR (num0 (L := L) (W := W))
  have HL : HeldR (∀ u, Below w.heap.size w u → LCame u ad L) := hideR (fun u k => hL.below k)
  have HLb : HeldR (∀ k, k < L.length → ∃ b o, ad = some ⟨b, o, none⟩ ∧ b < w.heap.size) := hideR (fun k hk => by
    obtain ⟨b, o, e, hb, _⟩ := hL.at_ k hk
    exact ⟨b, o, e, hb⟩)
  have HEnd : HeldR (∀ C p u, NumTo L W L.length C p → p ≤ L.length → LbS w w.heap.size L.length C u → LbPost L W w (.returned (.tuple #[.slice (some ⟨w.heap.size, 0, none⟩) L.length L.length, .int .i64 (p : Nat)])) u) := hideR (fun C p u h hp s => ⟨_, _, C, p, rfl, h.done rfl, hp, s.own.row, s.bel⟩)
  generalize hC0 : List.replicate L.length (0 : Int) = C0 at *
  have HSp : HeldR (∀ (u : World) (bl ol i p : Nat) (C : List Int), ad = some ⟨bl, ol, none⟩ → bl < w.heap.size → LbS w w.heap.size L.length C u → NumTo L W i C p → litB L i = true → C.getD i 0 = 0 → p ≤ 70000 → Calls Tryz.prog 76 #[.slice (some ⟨bl, ol, none⟩) L.length cap, .slice (some ⟨w.heap.size, 0, none⟩) L.length L.length, .int .i64 (W : Nat), .int .i64 (i : Nat), .int .i64 ((p : Int) + 1)] u fun e w' => e = .returned (.tuple #[]) ∧ ∃ D, HeldR (NumTo L W (i + 1) D (p + 1)) ∧ HeldR (LbS w w.heap.size L.length D w')) := hideR (fun u bl ol i p C e hb s h hi h0 hp => by
    subst e
    have hc := spread_any (num := p + 1) (cap := cap) (i := i) (hL.below s.bel) hb hW H hH hn s.own s.len s.own.size hi (fresh_of h h0) (by omega) (by omega)
    refine hc.mono ?_
    rintro e w' ⟨rfl, D, hs, ho, hl, hb⟩
    refine ⟨rfl, D, hideR (h.more hi h0 ?_), hideR ⟨ho, hl, s.bel.trans hb⟩⟩
    exact hs)
  obtain ⟨n, hnn⟩ : ∃ n, L.length = n := ⟨_, rfl⟩
  have HN := hideR hnn
  rw [hnn] at hmk HS0 HEnd hn HLb HSp ⊢
  clear ho hb1 hL hC0 hnn hH
  go_enter Tryz.func43, Tryz.ntmps43
  go_wp2
  clear hmk
  generalize w.heap.size = g at *
  go_loopw [7, 14] (fun pv iv wl => ∃ (i p : Nat) (C : List Int), i ≤ n ∧ p ≤ i ∧ pv = .int .i64 (p : Nat) ∧ iv = .int .i64 (i : Nat) ∧ HeldR (LbS w g n C wl) ∧ HeldR (NumTo L W i C p)) (fun _ iv _ => 100000 - (intOf iv).toNat)
  case atStart => exact ⟨0, 0, C0, by omega, by omega, rfl, rfl, HS0, HF0⟩
  case round =>
    clear HS0 HF0
    obtain ⟨i, p, C, hin, hpi, rfl, rfl, HS, HF⟩ := hrel
    by_cases hi : i < n
    · obtain ⟨b, o, e, hb⟩ := unhideR HLb i hi
      obtain ⟨b2, o2, e2, _, xl⟩ := (unhideR HL wr (unhideR HS).bel).at_ i (by rw [unhideR HN]; exact hi)
      subst e
      injection e2 with e2
      injection e2 with e3 e4
      subst e3
      subst e4
      obtain ⟨xo, fo⟩ := (unhideR HS).own.has (unhideR HS).len hi
      have tin : decide (i < n) = true := decide_eq_true hi
      have wi : IntKind.i64.wrap ((i : Int) + 1) = (i : Int) + 1 := iwrap (by omega) (by omega)
      have wp : IntKind.i64.wrap ((p : Int) + 1) = (p : Int) + 1 := iwrap (by omega) (by omega)
      cases hlb : litB L i with
      | true =>
        have xl2 : wr.cell? ⟨b, o + i, none⟩ = some (.bool true) := by rw [← hlb]; exact xl
        by_cases hz : C.getD i 0 = 0
        · have hsp := unhideR HSp wr b o i p C rfl hb (unhideR HS) (unhideR HF) hlb hz (by omega)
          rw [hz] at xo
          clear xl hlb HF HS hb hz
          go_wp2_with fail
          refine hsp.mono ?_
          rintro e w2 ⟨rfl, D, HF2, HS2⟩
          clear hsp xl2 xo fo
          go_wp2
          exact ⟨⟨i + 1, p + 1, D, by omega, by omega, by go_num, by go_num, HS2, HF2⟩, by simp [intOf]; omega⟩
        · have HF2 := hideR ((unhideR HF).skip (.inr hz))
          obtain ⟨x, hx⟩ : ∃ x, C.getD i 0 = x := ⟨_, rfl⟩
          rw [hx] at xo hz
          have hz2 : decide (x = 0) = false := decide_eq_false hz
          clear xl hlb HF hb hx
          go_wp2
          exact ⟨⟨i + 1, p, C, by omega, by omega, rfl, by go_num, HS, HF2⟩, by simp [intOf]; omega⟩
      | false =>
        have HF2 := hideR ((unhideR HF).skip (.inl hlb))
        have xl2 : wr.cell? ⟨b, o + i, none⟩ = some (.bool false) := by rw [← hlb]; exact xl
        clear xl hlb HF hb
        go_wp2
        exact ⟨⟨i + 1, p, C, by omega, by omega, rfl, by go_num, HS, HF2⟩, by simp [intOf]; omega⟩
    · obtain rfl : n = i := by omega
      have tin : decide (n < n) = false := decide_eq_false hi
      have HR := hideR (unhideR HEnd C p wr (unhideR HF) hpi (unhideR HS))
      clear HF HS
      go_wp2
      go_ret2
      exact unhideR HR
end Go.Proofs.YtmgnobeaacjdjajGreatDoor
