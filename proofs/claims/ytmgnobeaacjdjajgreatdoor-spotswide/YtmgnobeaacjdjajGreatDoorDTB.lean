/-
  The program's Ground, by contract. The program's look at a picture, by contract.
-/
import Derived.Test.YtmgnobeaacjdjajGreatDoorDTA
import Derived.Test.YtmgnobeaacjdjajGreatDoorDF1A
import Derived.Test.YtmgnobeaacjdjajGreatDoorFrA
import Derived.Test.YtmgnobeaacjdjajGreatDoorDT2e
import Derived.Test.YtmgnobeaacjdjajGreatDoorSpKA
import Derived.Deep.OwnRows
import Derived.Deep.CutRange
import Derived.BigRegion
namespace Go.Proofs.YtmgnobeaacjdjajGreatDoor
open Go Go.RowKit

def GdPost (a : Nat → Addr) (p : Pic) (tile : Int) (w : World) (e : Ending) (w' : World) : Prop := ∃ (X : List Int) (ad : Option Addr) (cap : Nat) (er : Value), e = .returned (.tuple #[.slice ad X.length cap, er]) ∧ ErrIs a (groundE p tile) er ∧ (groundE p tile = 0 → X = groundV p tile.toNat) ∧ (groundE p tile ≠ 0 → X = []) ∧ ICame w' ad X ∧ Below w.heap.size w w'
theorem gd_none {a : Nat → Addr} {p : Pic} {tile : Int} {w w' : World} {er : Value} (h : ErrIs a (groundE p tile) er) (h0 : groundE p tile ≠ 0) (k : Below w.heap.size w w') : GdPost a p tile w (.returned (.tuple #[.slice none 0 0, er])) w' :=
  ⟨[], none, 0, er, rfl, h, fun q => absurd q h0, fun _ => rfl, ⟨fun k hk => absurd hk (Nat.not_lt_zero k)⟩, k⟩
set_option maxRecDepth 100000 in
set_option maxHeartbeats 3200000 in
theorem ground_any {a : Nat → Addr} {w : World} {v : Value} {p : Pic} (hS : Er2 w a) (hv : PicC w v p) (tile : Int) : Calls Tryz.prog 74 #[v, .int .i64 tile] w (GdPost a p tile w) := by
  have hvd := fun u (k : Below w.heap.size w u) => valid_any (hS.below k (Nat.le_refl _)) ((hv.v).below k)
  have HPc : HeldR (∀ u, Below w.heap.size w u → PicC u v p) := hideR (fun u k => hv.below k)
  obtain ⟨ad, cap, rfl, hc, hl, hcc, hcb⟩ := hv
  have hb := below_a w (.cells #[.int .i64 p.wide, .int .i64 p.high, .slice ad p.L.length cap] 31)
  have hg0 := alloc_last w (.cells #[.int .i64 p.wide, .int .i64 p.high, .slice ad p.L.length cap] 31)
  obtain ⟨c0, c1, c2⟩ := pic_three hg0
  have hv1 := hvd _ hb
  have HSb : HeldR (∀ u, Below w.heap.size w u → Er2 u a) := hideR (fun u k => hS.below k (Nat.le_refl _))
  have HG := hideR hg0
  have HB := hideR hb
  clear hvd hS hc hg0 hb
  by_cases e0 : picE p = 0
  · have hok := pic_ok e0
    unfold ValidPost at hv1
    rw [e0] at hv1
    have hE : groundE p tile = if tile < 1 ∨ 256 < tile then 5 else 0 := by unfold groundE; rw [if_neg (by simpa using e0)]
    by_cases e1 : tile < 1 ∨ 256 < tile
    · rw [if_pos e1] at hE
      have HF : HeldR (∀ u, Below w.heap.size w u → GdPost a p tile w (.returned (.tuple #[.slice none 0 0, .iface 232 (.pointer (some (a 4)))])) u) := hideR (fun u k => gd_none (by rw [hE]; exact err_at 4 (by decide)) (by rw [hE]; decide) k)
      clear hE
      by_cases e2 : tile < 1
      · have t1 : decide (tile < 1) = true := decide_eq_true e2
        go_enter Tryz.func74, Tryz.ntmps74
        go_wp2_with fail
        refine hv1.mono ?_
        rintro e w2 ⟨er, rfl, her, k2⟩
        obtain rfl := errIs_0 her
        have HB2 := hideR (below_go (unhideR HB) k2)
        have x4 := (unhideR HSb w2 (unhideR HB2)).g4
        clear hv1 her k2
        go_wp2
        go_quiet (fail)
        go_wp2
        go_ret2
        exact unhideR HF _ (drew_below _ _ (unhideR HB2))
      · have t1 : decide (tile < 1) = false := decide_eq_false e2
        have t2 : decide (256 < tile) = true := decide_eq_true (by omega)
        go_enter Tryz.func74, Tryz.ntmps74
        go_wp2_with fail
        refine hv1.mono ?_
        rintro e w2 ⟨er, rfl, her, k2⟩
        obtain rfl := errIs_0 her
        have HB2 := hideR (below_go (unhideR HB) k2)
        have x4 := (unhideR HSb w2 (unhideR HB2)).g4
        clear hv1 her k2
        go_wp2
        go_quiet (fail)
        go_wp2
        go_ret2
        exact unhideR HF _ (drew_below _ _ (unhideR HB2))
    · rw [if_neg e1] at hE
      obtain ⟨t, rfl⟩ : ∃ t : Nat, tile = (t : Nat) := ⟨tile.toNat, by omega⟩
      have t1 : decide ((t : Int) < 1) = false := decide_eq_false (by omega)
      have t1n : decide (t < 1) = false := decide_eq_false (by omega)
      have t2 : decide ((256 : Int) < (t : Int)) = false := decide_eq_false (by omega)
      have t2n : decide (256 < t) = false := decide_eq_false (by omega)
      have HF : HeldR (∀ u W e u', Below w.heap.size w u → Below u.heap.size u W → TmPost p t W e u' → ∃ (a9 : Option Addr) (n9 c9 : Nat), e = .returned (.slice a9 n9 c9) ∧ HeldR (GdPost a p (t : Nat) w (.returned (.tuple #[.slice a9 n9 c9, .nilIface])) u')) := hideR (by
        rintro u W e u' k0 k1 ⟨a9, c9, rfl, h1, h2⟩
        refine ⟨a9, _, c9, rfl, hideR ⟨groundV p t, a9, c9, .nilIface, rfl, by rw [hE]; exact .inl ⟨rfl, rfl⟩, fun _ => by rw [Int.toNat_natCast], fun q => absurd hE q, h1, below_go (below_go k0 k1) h2⟩⟩)
      clear hE
      go_enter Tryz.func74, Tryz.ntmps74
      go_wp2_with fail
      refine hv1.mono ?_
      rintro e w2 ⟨er, rfl, her, k2⟩
      obtain rfl := errIs_0 her
      have k2' := below_go (unhideR HB) k2
      obtain ⟨x0, x1, x2⟩ := pic_three (keepB (unhideR HG) k2)
      obtain ⟨a3, cap3, e3, hc3, _, hcc3, hcb3⟩ := unhideR HPc w2 k2'
      injection e3 with e3
      simp only [Array.mk.injEq, List.cons.injEq, Value.slice.injEq, true_and, and_true] at e3
      obtain ⟨e4, e5⟩ := e3
      subst e4
      subst e5
      have htm := tileMedians_any hc3 hcc3 hcb3 hok t (by omega) (by omega)
      have HB2 := hideR k2'
      clear hv1 her k2 k2' hc3
      go_wp2_with fail
      refine htm.mono ?_
      intro e u' hp
      obtain ⟨a9, n9, c9, rfl, HR⟩ := unhideR HF w2 w2 e u' (unhideR HB2) (Below.refl _ _) hp
      clear hp htm
      go_wp2
      go_ret2
      exact unhideR HR
  · have hE : groundE p tile = picE p := by unfold groundE; rw [if_pos e0]
    have HF : HeldR (∀ u er, ErrIs a (picE p) er → Below w.heap.size w u → GdPost a p tile w (.returned (.tuple #[.slice none 0 0, er])) u) := hideR (fun u er h k => gd_none (by rw [hE]; exact h) (by rw [hE]; exact e0) k)
    have HE0 := hideR e0
    clear hE e0
    go_enter Tryz.func74, Tryz.ntmps74
    go_wp2_with fail
    refine hv1.mono ?_
    rintro e w2 ⟨er, rfl, her, k2⟩
    have HR := hideR (unhideR HF w2 er her (below_go (unhideR HB) k2))
    obtain ⟨kk, rfl⟩ := errIs_ne her (unhideR HE0)
    clear hv1 her k2
    go_wp2
    go_ret2
    exact unhideR HR
end Go.Proofs.YtmgnobeaacjdjajGreatDoor
namespace Go.Proofs.YtmgnobeaacjdjajGreatDoor
open Go Go.RowKit

theorem mixedP' : Tryz.prog.follows .mixedOrders = true := by kernel_rfl
def MdT (K N : Nat) (v : Value) : Prop := ∃ g : Nat, K ≤ g ∧ v = .slice (some ⟨g, 0, none⟩) N N
def MdI (N : Nat) (v : Value) (u : World) : Prop := ∀ g : Nat, v = .slice (some ⟨g, 0, none⟩) N N → u.heap[g]? = some (.cells (madeCells #[.int .i64 0] N) 3)
def MdB (N : Nat) (v : Value) (u : World) : Prop := ∀ g : Nat, v = .slice (some ⟨g, 0, none⟩) N N → u.heap[g]? = some (.cells (madeCells #[.bool false] N) 4)
theorem mdI_stb (N : Nat) (v : Value) : Stb (MdI N v) := fun _ _ h k g e => keepB (h g e) k
theorem mdB_stb (N : Nat) (v : Value) : Stb (MdB N v) := fun _ _ h k g e => keepB (h g e) k
theorem makeI_run (n : Nat) (hn : n ≤ 65536) (w : World) : (Instr.makeSlice 29 (.int .i64 (n : Int)) (.int .i64 (n : Int))).run Tryz.prog w = .ok (.slice (some ⟨w.heap.size, 0, none⟩) n n) (w.alloc (.cells (madeCells #[.int .i64 0] n) 3)) :=
  run_make_row' 29 3 (.int .i64 0) 8 (by kernel_rfl) infoI rfl .i64 .i64 n (by omega) (by omega) w
theorem makeB_run (n : Nat) (hn : n ≤ 65536) (w : World) : (Instr.makeSlice 90 (.int .i64 (n : Int)) (.int .i64 (n : Int))).run Tryz.prog w = .ok (.slice (some ⟨w.heap.size, 0, none⟩) n n) (w.alloc (.cells (madeCells #[.bool false] n) 4)) :=
  run_make_row' 90 4 (.bool false) 1 (by kernel_rfl) infoBo rfl .i64 .i64 n (by omega) (by omega) w
/-- numbers and truths that are written side by side. -/
structure LkS (w1 : World) (g1 g2 n : Nat) (X : List Int) (C : List Bool) (u : World) : Prop where
  own1 : IOwn u w1.heap.size (.slice (some ⟨g1, 0, none⟩) n n) X
  len1 : X.length = n
  own2 : u.ownsRow w1.heap.size 4 1 (.slice (some ⟨g2, 0, none⟩) n n) n (C.map Value.bool)
  len2 : C.length = n
  bel : Below w1.heap.size w1 u
theorem LkS.go {w1 u v : World} {g1 g2 n : Nat} {X : List Int} {C : List Bool} (h : LkS w1 g1 g2 n X C u) (k : Below u.heap.size u v) : LkS w1 g1 g2 n X C v :=
  ⟨h.own1.below k, h.len1, own_below2 h.own2 k, h.len2, below_go h.bel k⟩
theorem LkS.ne {w1 u : World} {g1 g2 n : Nat} {X : List Int} {C : List Bool} (h : LkS w1 g1 g2 n X C u) : g1 ≠ g2 := by
  intro e
  subst e
  have h1 := h.own1
  unfold IOwn at h1
  rcases h1.2 with ⟨q, _⟩ | ⟨g, c, cur, q, _, h3, _⟩
  · cases q
  · injection q with q
    injection q with q
    injection q with q
    subst q
    rcases h.own2.2 with ⟨q, _⟩ | ⟨g, c, cur2, q, _, h4, _⟩
    · cases q
    · injection q with q
      injection q with q
      injection q with q
      subst q
      rw [h3] at h4
      injection h4 with h4
      injection h4 with _ h5
      revert h5
      decide
theorem LkS.low {w1 u : World} {g1 g2 n : Nat} {X : List Int} {C : List Bool} (h : LkS w1 g1 g2 n X C u) : w1.heap.size ≤ g1 ∧ w1.heap.size ≤ g2 := ⟨h.own1.low, own_at2 h.own2 g2 rfl⟩
theorem LkS.put1 {w1 u : World} {g1 g2 n : Nat} {X : List Int} {C : List Bool} (h : LkS w1 g1 g2 n X C u) (k : Nat) (x : Int) : LkS w1 g1 g2 n (X.set k x) C (u.setCell ⟨g1, k, none⟩ (.int .i64 x)) :=
  ⟨h.own1.put h.len1 k x, by rw [List.length_set]; exact h.len1, own_apart h.own2 (heap_setCell_other _ _ _ _ (fun e => h.ne (by simpa using e.symm))), h.len2, h.bel.setCell h.low.1 _⟩
theorem LkS.put2 {w1 u : World} {g1 g2 n : Nat} {X : List Int} {C : List Bool} (h : LkS w1 g1 g2 n X C u) (k : Nat) (x : Bool) : LkS w1 g1 g2 n X (C.set k x) (u.setCell ⟨g2, k, none⟩ (.bool x)) := by
  refine ⟨?_, h.len1, ?_, by rw [List.length_set]; exact h.len2, h.bel.setCell h.low.2 _⟩
  · have := h.own1
    unfold IOwn at this ⊢
    rw [h.len1] at this ⊢
    exact own_apart this (heap_setCell_other _ _ _ _ (fun e => h.ne (by simpa using e)))
  · rw [List.map_set]
    exact (h.own2.stored k (.bool x)).1
theorem LkS.has2 {w1 u : World} {g1 g2 n : Nat} {X : List Int} {C : List Bool} (h : LkS w1 g1 g2 n X C u) {k : Nat} (hk : k < n) : u.cell? ⟨g2, k, none⟩ = some (.bool (C.getD k false)) ∧ u.frozen? ⟨g2, k, none⟩ = false := by
  refine ⟨?_, h.own2.frozenAt k⟩
  have := h.len2
  rw [h.own2.cellAt k (by rw [Nat.mul_one]; exact hk), List.getElem?_map, List.getElem?_eq_getElem (by omega), List.getD_eq_getElem?_getD, List.getElem?_eq_getElem (by omega)]
  rfl
theorem LkS.came2 {w1 u : World} {g1 g2 n : Nat} {X : List Int} {C : List Bool} (h : LkS w1 g1 g2 n X C u) : LCame u (some ⟨g2, 0, none⟩) C := ⟨fun k hk => by
  rw [h.len2] at hk
  exact ⟨g2, 0, rfl, (h.own2.lt g2 rfl).2, by rw [Nat.zero_add]; exact (h.has2 hk).1⟩⟩
theorem LkS.new {w1 u : World} {g1 g2 n : Nat} (hn : n ≤ 65536) (h1 : w1.heap.size ≤ g1) (h2 : w1.heap.size ≤ g2) (f1 : u.heap[g1]? = some (.cells (madeCells #[.int .i64 0] n) 3)) (f2 : u.heap[g2]? = some (.cells (madeCells #[.bool false] n) 4)) (k : Below w1.heap.size w1 u) : LkS w1 g1 g2 n (List.replicate n 0) (List.replicate n false) u := by
  have s1 : (madeCells #[Value.int .i64 0] n).toList = (List.replicate n (0 : Int)).map (Value.int .i64) := by rw [toList_madeCells_one, List.map_replicate]
  have s2 : (madeCells #[Value.bool false] n).toList = (List.replicate n false).map Value.bool := by rw [toList_madeCells_one, List.map_replicate]
  refine ⟨?_, by simp, ?_, by simp, k⟩
  · unfold IOwn
    rw [List.length_replicate]
    refine ⟨by simp, .inr ⟨g1, n, _, rfl, h1, f1, Nat.le_refl _, by unfold maxLen; omega, ?_, ?_⟩⟩
    · rw [← Array.length_toList, s1]; simp
    · rw [s1, List.take_of_length_le (by simp)]
  · refine ⟨by simp, .inr ⟨g2, n, _, rfl, h2, f2, Nat.le_refl _, by unfold maxLen; omega, ?_, ?_⟩⟩
    · rw [← Array.length_toList, s2]; simp
    · rw [s2, List.take_of_length_le (by simp)]
/-- told up to a place. -/
def IntTo (L : List Int) (i : Nat) (C : List Int) : Prop := C.length = L.length ∧ ∀ j, j < i → C.getD j 0 = L.getD j 0
theorem int0 (L : List Int) : IntTo L 0 (List.replicate L.length 0) := ⟨by simp, fun j h => absurd h (Nat.not_lt_zero j)⟩
theorem IntTo.put {L C : List Int} {i : Nat} (h : IntTo L i C) (hi : i < L.length) : IntTo L (i + 1) (C.set i (L.getD i 0)) := ⟨by rw [List.length_set]; exact h.1, fun j hj => by
  have hC := h.1
  rw [getD_setI (by omega)]
  by_cases e : i = j
  · rw [if_pos e, e]
  · rw [if_neg e]
    exact h.2 j (by omega)⟩
theorem IntTo.done {L C : List Int} (h : IntTo L L.length C) : C = L := by
  refine List.ext_getElem h.1 (fun i h1 h2 => ?_)
  have := h.2 i h2
  simpa [List.getD, List.getElem?_eq_getElem h1, List.getElem?_eq_getElem h2] using this
def LkPost (a : Nat → Addr) (p : Pic) (tile over : Int) (w : World) (e : Ending) (w' : World) : Prop := ∃ (X : List Int) (C : List Bool) (a1 a2 : Option Addr) (c1 c2 : Nat) (er : Value), e = .returned (.tuple #[.slice a1 X.length c1, .slice a2 C.length c2, er]) ∧ ErrIs a (litE p tile over) er ∧ (litE p tile over = 0 → X = overV p tile.toNat ∧ C = litV p tile.toNat over) ∧ (litE p tile over ≠ 0 → X = [] ∧ C = []) ∧ ICame w' a1 X ∧ LCame w' a2 C ∧ Below w.heap.size w w'
theorem lk_none {a : Nat → Addr} {p : Pic} {tile over : Int} {w w' : World} {er : Value} (h : ErrIs a (litE p tile over) er) (h0 : litE p tile over ≠ 0) (k : Below w.heap.size w w') : LkPost a p tile over w (.returned (.tuple #[.slice none 0 0, .slice none 0 0, er])) w' :=
  ⟨[], [], none, none, 0, 0, er, rfl, h, fun q => absurd q h0, fun _ => ⟨rfl, rfl⟩, ⟨fun k hk => absurd hk (Nat.not_lt_zero k)⟩, ⟨fun k hk => absurd hk (Nat.not_lt_zero k)⟩, k⟩
set_option maxRecDepth 100000 in
set_option maxHeartbeats 3000000 in
theorem look_any {a : Nat → Addr} {w : World} {v : Value} {p : Pic} (hS : Er2 w a) (hv : PicC w v p) (tile over : Int) : Calls Tryz.prog 42 #[v, .int .i64 tile, .int .i64 over] w (LkPost a p tile over w) := by
  have hgd := fun u (k : Below w.heap.size w u) => ground_any (hS.below k (Nat.le_refl _)) (hv.below k) tile
  obtain ⟨ad, cap, rfl, hc, hl, hcc, hcb⟩ := hv
  have hb := below_a w (.cells #[.int .i64 p.wide, .int .i64 p.high, .slice ad p.L.length cap] 31)
  have hg0 := alloc_last w (.cells #[.int .i64 p.wide, .int .i64 p.high, .slice ad p.L.length cap] 31)
  obtain ⟨c0, c1, c2⟩ := pic_three hg0
  have hv1 := hgd _ hb
  have HSb : HeldR (∀ u, Below w.heap.size w u → Er2 u a) := hideR (fun u k => hS.below k (Nat.le_refl _))
  have HG := hideR hg0
  have HB := hideR hb
  clear hgd hS hg0 hb
  unfold GdPost at hv1
  by_cases e0 : groundE p tile = 0
  · rw [e0] at hv1
    have hE : litE p tile over = if over < 0 then 5 else 0 := by unfold litE; rw [if_neg (by simpa using e0)]
    by_cases e1 : over < 0
    · rw [if_pos e1] at hE
      have HF : HeldR (∀ u, Below w.heap.size w u → LkPost a p tile over w (.returned (.tuple #[.slice none 0 0, .slice none 0 0, .iface 232 (.pointer (some (a 4)))])) u) := hideR (fun u k => lk_none (by rw [hE]; exact err_at 4 (by decide)) (by rw [hE]; decide) k)
      have t1 : decide (over < 0) = true := decide_eq_true e1
      clear hE hc
      go_enter Tryz.func42, Tryz.ntmps42
      go_wp2_with fail
      refine hv1.mono ?_
      rintro e w2 ⟨X, a2, cp2, er, rfl, her, _, _, _, k2⟩
      obtain rfl := errIs_0 her
      have HB2 := hideR (below_go (unhideR HB) k2)
      have x4 := (unhideR HSb w2 (unhideR HB2)).g4
      generalize X.length = xl at *
      clear hv1 her k2
      go_wp2
      go_quiet (fail)
      go_wp2
      go_ret3
      exact unhideR HF _ (drew_below _ _ (unhideR HB2))
    · rw [if_neg e1] at hE
      have hrg : ¬ (tile < 1 ∨ 256 < tile) := fun q => by
        unfold groundE at e0
        by_cases q2 : picE p ≠ 0
        · rw [if_pos q2] at e0; exact q2 e0
        · rw [if_neg q2, if_pos q] at e0; omega
      have hok : PicOk p := pic_ok (by
        refine Decidable.byContradiction (fun q => ?_)
        unfold groundE at e0
        rw [if_pos q] at e0
        exact q e0)
      obtain ⟨t, rfl⟩ : ∃ t : Nat, tile = (t : Nat) := ⟨tile.toNat, by omega⟩
      have ht1 : 1 ≤ t := by omega
      have ht2 : t ≤ 256 := by omega
      have t1 : decide (over < 0) = false := decide_eq_false e1
      have w1' := hok.w1
      have w2' := hok.w2
      have h1' := hok.h1
      have h2' := hok.h2
      have hpx := hok.len
      have hfew : p.L.length ≤ 65536 := hok.few
      have HEa : HeldR (∀ k, k < p.L.length → 0 ≤ p.L.getD k 0 ∧ p.L.getD k 0 ≤ 65535) := hideR (fun k hk => hok.each k hk)
      obtain ⟨Wi, Hi, Lp⟩ := p
      simp only at *
      obtain ⟨W, rfl⟩ : ∃ W : Nat, Wi = (W : Nat) := ⟨Wi.toNat, by omega⟩
      obtain ⟨H, rfl⟩ : ∃ H : Nat, Hi = (H : Nat) := ⟨Hi.toNat, by omega⟩
      have hLn : Lp.length = H * W := by
        rw [← Int.natCast_mul] at hpx
        have := Int.ofNat.inj hpx
        rw [this, Nat.mul_comm]
      have HMc : HeldR (∀ a c, a < cdiv H t → c < cdiv W t → 0 ≤ (groundV ⟨W, H, Lp⟩ t).getD (a * cdiv W t + c) 0 ∧ (groundV ⟨W, H, Lp⟩ t).getD (a * cdiv W t + c) 0 ≤ 65535) := hideR (fun a c x y => med_count hok x y ht1)
      have hOl : (overV ⟨W, H, Lp⟩ t).length = Lp.length := by rw [over_len]; exact hLn.symm
      have hBl : (litV ⟨W, H, Lp⟩ t over).length = Lp.length := by rw [lit_len]; exact hLn.symm
      have HOv : HeldR (∀ i, i < Lp.length → (overV ⟨W, H, Lp⟩ t).getD i 0 = Lp.getD i 0 - (groundV ⟨W, H, Lp⟩ t).getD (i / W / t * cdiv W t + i % W / t) 0) := hideR (fun i hi => over_at (by show i < H * W; rw [← hLn]; exact hi))
      have HLi : HeldR (∀ i, i < Lp.length → (litV ⟨W, H, Lp⟩ t over).getD i false = decide (over < (overV ⟨W, H, Lp⟩ t).getD i 0)) := hideR (fun i hi => lit_at (by show i < H * W; rw [← hLn]; exact hi))
      have hgl2 : (groundV ⟨W, H, Lp⟩ t).length = cdiv H t * cdiv W t := gRows_len _ _ _ _
      have hn1 := fun u => tilesIn_any W t ht1 (by omega) (by omega) u
      have HI0 : HeldR (IntTo (overV ⟨W, H, Lp⟩ t) 0 (List.replicate Lp.length 0)) := hideR (by rw [← hOl]; exact int0 _)
      have HL0 : HeldR (LitTo (litV ⟨W, H, Lp⟩ t over) 0 (List.replicate Lp.length false)) := hideR (by rw [← hBl]; exact lit0 _)
      have HIp : HeldR (∀ i C, i < Lp.length → IntTo (overV ⟨W, H, Lp⟩ t) i C → IntTo (overV ⟨W, H, Lp⟩ t) (i + 1) (C.set i ((overV ⟨W, H, Lp⟩ t).getD i 0))) := hideR (fun i C hi h => h.put (by rw [hOl]; exact hi))
      have HLp : HeldR (∀ i C, i < Lp.length → LitTo (litV ⟨W, H, Lp⟩ t over) i C → LitTo (litV ⟨W, H, Lp⟩ t over) (i + 1) (C.set i ((litV ⟨W, H, Lp⟩ t over).getD i false))) := hideR (fun i C hi h => h.put (by rw [hBl]; exact hi))
      have HDone : HeldR (∀ w1 g1 g2 X C u, Below w.heap.size w w1 → LkS w1 g1 g2 Lp.length X C u → IntTo (overV ⟨W, H, Lp⟩ t) Lp.length X → LitTo (litV ⟨W, H, Lp⟩ t over) Lp.length C → LkPost a ⟨W, H, Lp⟩ (t : Nat) over w (.returned (.tuple #[.slice (some ⟨g1, 0, none⟩) Lp.length Lp.length, .slice (some ⟨g2, 0, none⟩) Lp.length Lp.length, .nilIface])) u) := hideR (fun w1 g1 g2 X C u k s h1 h2 => by
        rw [← hOl] at h1
        rw [← hBl] at h2
        have e1 := h1.done
        have e2 := h2.done
        refine ⟨X, C, _, _, _, _, .nilIface, by rw [s.len1, s.len2], by rw [hE]; exact .inl ⟨rfl, rfl⟩, fun _ => ⟨?_, ?_⟩, fun q => absurd hE q, s.own1.row, s.came2, below_go k s.bel⟩
        · rw [Int.toNat_natCast]; exact e1
        · rw [Int.toNat_natCast]; exact e2)
      obtain ⟨bl, ol, rfl, hbl, _⟩ := hc.at_ 0 (by
        show 0 < Lp.length
        have := Nat.mul_le_mul (show 1 ≤ H by omega) (show 1 ≤ W by omega)
        omega)
      have HRow : HeldR (∀ u, Below w.heap.size w u → ∀ k, k < Lp.length → u.cell? ⟨bl, ol + k, none⟩ = some (.int .i64 (Lp.getD k 0))) := hideR (fun u k j hj => by
        obtain ⟨b9, o9, e9, _, x9⟩ := (hc.below k).at_ j hj
        injection e9 with e9
        injection e9 with e1 e2
        subst e1
        subst e2
        exact x9)
      have HCx : HeldR (∀ i, i < Lp.length → i / W < H ∧ i % W < W) := hideR (fun i hi => ⟨by rw [Nat.div_lt_iff_lt_mul (by omega), ← hLn]; exact hi, Nat.mod_lt _ (by omega)⟩)
      have HCi : HeldR (∀ n x, x < n → x / t < cdiv n t) := hideR (fun n x h => cdiv_in ht1 h)
      have HGl := hideR hgl2
      have hn256 : cdiv W t ≤ 256 := by
        refine Decidable.byContradiction (fun q => ?_)
        have := (cdiv_lt (n := W) (a := 256) ht1).1 (by omega)
        have h9 := Nat.mul_le_mul_left 256 ht1
        omega
      obtain ⟨n1, en1⟩ : ∃ n1, cdiv W t = n1 := ⟨_, rfl⟩
      have HN1 := hideR en1
      rw [en1] at hn1 hn256 HOv HMc HGl
      obtain ⟨N, hNN⟩ : ∃ N, Lp.length = N := ⟨_, rfl⟩
      rw [hNN] at hl hcc hfew HEa HOv HLi HI0 HL0 HIp HLp HDone HRow HCx hv1 HG HB c0 c1 c2 ⊢
      clear hNN
      have hmkI := makeI_run N hfew
      have hmkB := makeB_run N hfew
      clear hpx hLn hOl hBl hE hc en1 hgl2 hrg hok
      go_enter Tryz.func42, Tryz.ntmps42
      go_wp2_with fail
      refine hv1.mono ?_
      rintro e w2 ⟨Xg, a2, cp2, er, rfl, her, hXg, _, hcg, k2⟩
      obtain rfl := errIs_0 her
      have hXe := hXg trivial
      have HG2 := hideR (keepB (unhideR HG) k2)
      have HB2 := hideR (below_go (unhideR HB) k2)
      rw [Int.toNat_natCast] at hXe
      subst hXe
      have HCg := hideR hcg
      obtain ⟨gl, hgl⟩ : ∃ gl, (groundV ⟨W, H, Lp⟩ t).length = gl := ⟨_, rfl⟩
      have HGL := hideR hgl
      rw [hgl]
      obtain ⟨b, hb⟩ : ∃ b, w.heap.size = b := ⟨_, rfl⟩
      obtain ⟨K1, hK1⟩ : ∃ K1, w2.heap.size = K1 := ⟨_, rfl⟩
      have hk1 : b < K1 := by rw [← hb, ← hK1]; exact ltB (unhideR HG2)
      rw [hb] at HG2
      rw [show (⟨w.heap.size, 0, none⟩ : Addr) = ⟨b, 0, none⟩ by rw [hb]]
      obtain ⟨ab, ao, ha2⟩ : ∃ ab ao, a2 = some ⟨ab, ao, none⟩ := by
        obtain ⟨ab, ao, e, _⟩ := hcg.at_ 0 (by
          have h1 := cdiv_in (n := H) (i := 0) ht1 (by omega)
          have h2 := cdiv_in (n := W) (i := 0) ht1 (by omega)
          rw [unhideR HGl, ← unhideR HN1]
          exact Nat.mul_pos (Nat.lt_of_le_of_lt (Nat.zero_le _) h1) (Nat.lt_of_le_of_lt (Nat.zero_le _) h2))
        exact ⟨ab, ao, e⟩
      subst ha2
      have HGr : HeldR (∀ u, Below K1 w2 u → ∀ k, k < gl → u.cell? ⟨ab, ao + k, none⟩ = some (.int .i64 ((groundV ⟨W, H, Lp⟩ t).getD k 0))) := hideR (fun u k j hj => by
        rw [← hK1] at k
        obtain ⟨b9, o9, e9, _, x9⟩ := ((unhideR HCg).below k).at_ j (by rw [hgl]; exact hj)
        injection e9 with e9
        injection e9 with e1 e2
        subst e1
        subst e2
        exact x9)
      have HKs := hideR hK1
      clear hv1 her k2 hXg hcg hb hgl HG HB c0 c1 c2
      have mixed := mixedP'
      obtain ⟨c0, c1, c2⟩ := pic_three (unhideR HG2)
      have HNw : HeldR (∀ (q : Nat) (A B : Obj) (g1 g2 : Nat), (g1 = K1 ∧ g2 = K1 + 1 ∧ A = .cells (madeCells #[.int .i64 0] N) 3 ∧ B = .cells (madeCells #[.bool false] N) 4) ∨ (g2 = K1 ∧ g1 = K1 + 1 ∧ B = .cells (madeCells #[.int .i64 0] N) 3 ∧ A = .cells (madeCells #[.bool false] N) 4) → LkS w2 g1 g2 N (List.replicate N 0) (List.replicate N false) (((w2.drewN q).alloc A).alloc B)) := hideR (fun q A B g1 g2 h => by
        have eK : (w2.drewN q).heap.size = K1 := hK1
        have fA : (((w2.drewN q).alloc A).alloc B).heap[K1]? = some A := by
          rw [alloc_block (by simp; omega), ← eK]
          exact alloc_last _ A
        have fB : (((w2.drewN q).alloc A).alloc B).heap[K1 + 1]? = some B := by
          have := alloc_last ((w2.drewN q).alloc A) B
          rw [show ((w2.drewN q).alloc A).heap.size = K1 + 1 by simp; exact hK1] at this
          exact this
        have kk : Below w2.heap.size w2 (((w2.drewN q).alloc A).alloc B) := below_go (drew_below _ q (Below.refl _ _)) (below_al2 _ A B)
        rcases h with ⟨rfl, rfl, rfl, rfl⟩ | ⟨rfl, rfl, rfl, rfl⟩
        · exact LkS.new hfew (by omega) (by omega) fA fB kk
        · exact LkS.new hfew (by omega) (by omega) fB fA kk)
      go_upto_region 6 with fail
      go_cut [11, 12] from 30 to 37 (fun s11 s12 wx => ∃ g1 g2 : Nat, s11 = .slice (some ⟨g1, 0, none⟩) N N ∧ s12 = .slice (some ⟨g2, 0, none⟩) N N ∧ HeldR (LkS w2 g1 g2 N (List.replicate N 0) (List.replicate N false) wx))
      case' first =>
        go_region
        all_goals
          go_wp2_with fail
          go_meet
          refine ⟨_, _, rfl, rfl, hideR (unhideR HNw 1 _ _ _ _ ?_)⟩
          first
            | exact .inl ⟨hK1, by rw [← hK1], rfl, rfl⟩
            | exact .inr ⟨hK1, by rw [← hK1], rfl, rfl⟩
            | exact .inl ⟨rfl, rfl, rfl, rfl⟩
            | exact .inr ⟨rfl, rfl, rfl, rfl⟩
      obtain ⟨g1, g2, rfl, rfl, HS0⟩ := hcut
      clear hmkI hmkB c0 c1 c2 HNw
      obtain ⟨c0, c1, c2⟩ := pic_three (keepB (unhideR HG2) (unhideR HS0).bel)
      go_wp2_with fail
      refine (hn1 _).mono ?_
      rintro e w9 ⟨rfl, rfl⟩
      go_wp2
      clear hn1
      go_loopw [45] (fun iv wl => ∃ (i : Nat) (X : List Int) (C : List Bool), i ≤ N ∧ iv = .int .i64 (i : Nat) ∧ HeldR (LkS w2 g1 g2 N X C wl) ∧ HeldR (IntTo (overV ⟨W, H, Lp⟩ t) i X) ∧ HeldR (LitTo (litV ⟨W, H, Lp⟩ t over) i C)) (fun iv _ => 100000 - (intOf iv).toNat)
      case atStart => exact ⟨0, _, _, by omega, rfl, HS0, HI0, HL0⟩
      case round =>
        clear HS0 HI0 HL0 c0 c1 c2
        obtain ⟨i, X, C, hin, rfl, HS, HI, HL⟩ := hrel
        by_cases hi : i < N
        · have tin : decide (i < N) = true := decide_eq_true hi
          have ji : (i : Int) < (N : Int) := by omega
          have wi : IntKind.i64.wrap ((i : Int) + 1) = (i : Int) + 1 := iwrap (by omega) (by omega)
          have xc := unhideR HRow wr (below_go (unhideR HB2) (unhideR HS).bel) i hi
          obtain ⟨c0, c1, c2⟩ := pic_three (keepB (unhideR HG2) (unhideR HS).bel)
          obtain ⟨hy, hx⟩ := unhideR HCx i hi
          have hyt := unhideR HCi H (i / W) hy
          have hxt := unhideR HCi W (i % W) hx
          rw [unhideR HN1] at hxt
          have hbd := unhideR HMc (i / W / t) (i % W / t) hyt hxt
          have hov := unhideR HOv i hi
          have hli := unhideR HLi i hi
          have hcb2 := unhideR HEa i hi
          have hxg : i / W / t * n1 + i % W / t < gl := by
            rw [← unhideR HGL, unhideR HGl]
            have := Nat.mul_le_mul_right n1 (show i / W / t + 1 ≤ cdiv H t from hyt)
            rw [Nat.succ_mul] at this
            omega
          have xg := unhideR HGr wr (by rw [← unhideR HKs]; exact (unhideR HS).bel) _ hxg
          have hm1 : (i : Int) % (W : Int) = ((i % W : Nat) : Int) := (Int.natCast_emod i W).symm
          have hm2 : (i : Int).tmod (W : Int) = ((i % W : Nat) : Int) := (Int.tmod_eq_emod_of_nonneg (Int.natCast_nonneg i)).trans hm1
          have hd1 : (i : Int) / (W : Int) = ((i / W : Nat) : Int) := (Int.natCast_ediv i W).symm
          have hd2 : (i : Int).tdiv (W : Int) = ((i / W : Nat) : Int) := (Int.tdiv_eq_ediv_of_nonneg (Int.natCast_nonneg i)).trans hd1
          have HIn := hideR (unhideR HIp i X hi (unhideR HI))
          have HLn := hideR (unhideR HLp i C hi (unhideR HL))
          rw [hov] at hli
          rw [hov] at HIn
          rw [hli] at HLn
          obtain ⟨y, hy'⟩ : ∃ y, i / W = y := ⟨_, rfl⟩
          obtain ⟨x, hx'⟩ : ∃ x, i % W = x := ⟨_, rfl⟩
          rw [hy'] at hd1 hd2 hy hyt hbd hxg xg HIn HLn
          rw [hx'] at hm1 hm2 hx hxt hbd hxg xg HIn HLn
          have e1 : (y : Int) / (t : Int) = ((y / t : Nat) : Int) := (Int.natCast_ediv y t).symm
          have e2 : (y : Int).tdiv (t : Int) = ((y / t : Nat) : Int) := (Int.tdiv_eq_ediv_of_nonneg (Int.natCast_nonneg y)).trans e1
          have e3 : (x : Int) / (t : Int) = ((x / t : Nat) : Int) := (Int.natCast_ediv x t).symm
          have e4 : (x : Int).tdiv (t : Int) = ((x / t : Nat) : Int) := (Int.tdiv_eq_ediv_of_nonneg (Int.natCast_nonneg x)).trans e3
          have hyb : y / t ≤ y := Nat.div_le_self _ _
          have hxb : x / t ≤ x := Nat.div_le_self _ _
          obtain ⟨yt, hyt'⟩ : ∃ yt, y / t = yt := ⟨_, rfl⟩
          obtain ⟨xt, hxt'⟩ : ∃ xt, x / t = xt := ⟨_, rfl⟩
          rw [hyt'] at e1 e2 hyb hbd hxg xg HIn HLn hyt
          rw [hxt'] at e3 e4 hxb hbd hxg xg HIn HLn hxt
          have hynb : yt * n1 ≤ 65536 := Nat.mul_le_mul (show yt ≤ 256 by omega) hn256
          obtain ⟨yn, hyn'⟩ : ∃ yn, yt * n1 = yn := ⟨_, rfl⟩
          have wyn : IntKind.i64.wrap ((yt : Int) * (n1 : Int)) = (yn : Int) := by rw [← Int.natCast_mul, hyn']; exact iwrap (by omega) (by omega)
          rw [hyn'] at hynb hbd hxg xg HIn HLn
          obtain ⟨ix, hix⟩ : ∃ ix, yn + xt = ix := ⟨_, rfl⟩
          have wix : IntKind.i64.wrap ((yn : Int) + (xt : Int)) = (ix : Int) := by rw [show (yn : Int) + (xt : Int) = (ix : Int) by omega]; exact iwrap (by omega) (by omega)
          rw [hix] at hbd hxg xg HIn HLn
          have jx : (ix : Int) < (gl : Int) := by omega
          obtain ⟨gv, hgv⟩ : ∃ gv, (groundV ⟨W, H, Lp⟩ t).getD ix 0 = gv := ⟨_, rfl⟩
          obtain ⟨cnt, hcnt⟩ : ∃ cnt, Lp.getD i 0 = cnt := ⟨_, rfl⟩
          rw [hgv] at hbd xg HIn HLn
          rw [hcnt] at xc hcb2 HIn HLn
          have wd : IntKind.i64.wrap (cnt - gv) = cnt - gv := iwrap (by omega) (by omega)
          have wx1 : IntKind.i64.wrap (x : Int) = (x : Int) := iwrap (by omega) (by omega)
          have wy1 : IntKind.i64.wrap (y : Int) = (y : Int) := iwrap (by omega) (by omega)
          have wx2 : IntKind.i64.wrap (xt : Int) = (xt : Int) := iwrap (by omega) (by omega)
          have wy2 : IntKind.i64.wrap (yt : Int) = (yt : Int) := iwrap (by omega) (by omega)
          have hW0 : (W : Int) ≠ 0 := by omega
          have hW0' : W ≠ 0 := by omega
          have ht0 : (t : Int) ≠ 0 := by omega
          have ht0' : t ≠ 0 := by omega
          clear hov hli hy' hx' hyt' hxt' hyn' hix hgv hcnt hbd hcb2 hyt hxt HI HL hxg
          go_wp2
          go_quiet (fail)
          have HS3 := hideR ((unhideR HS).go (drew_below _ nq (Below.refl _ _)))
          replace xg : (wr.drewN nq).cell? ⟨ab, ao + ix, none⟩ = some (.int .i64 gv) := xg
          clear HS
          generalize wr.drewN nq = w3 at *
          go_wp2_with fail
          refine wp_region_made 0 #[true, true, true, true, true, true, true, true, true, true, true, true, true, true, true, true, true, false] [.lets (· = .slice (some ⟨g1, 0, none⟩) N N),
            .lets (· = .int .i64 (i : Nat)),
            .lets (· = .int .i64 cnt),
            .lets (· = .slice (some ⟨ab, ao, none⟩) gl cp2),
            .lets (· = .int .i64 (y : Nat)),
            .lets (· = .int .i64 (t : Nat)),
            .lets (· = .int .i64 (yt : Nat)),
            .lets (· = .int .i64 (n1 : Nat)),
            .lets (· = .int .i64 (yn : Nat)),
            .lets (· = .int .i64 (x : Nat)),
            .lets (· = .int .i64 (t : Nat)),
            .lets (· = .int .i64 (xt : Nat)),
            .lets (· = .int .i64 (ix : Nat)),
            .lets (· = .pointer (some ⟨ab, ao + ix, none⟩)),
            .lets (· = .int .i64 gv),
            .lets (· = .int .i64 (cnt - gv)),
            .lets (· = .pointer (some ⟨g1, i, none⟩))] [] [] (by kernel_rfl) (by kernel_rfl) rfl ?kinds (by kernel_rfl) (by kernel_rfl) (by kernel_rfl) ?_
          case kinds =>
            constructor
            · intro i h
              rcases i with _ | _ | _ | _ | _ | _ | _ | _ | _ | _ | _ | _ | _ | _ | _ | _ | _ | i <;> simp [Kx.isMade] at h
            · intro i h
              rcases i with _ | _ | _ | _ | _ | _ | _ | _ | _ | _ | _ | _ | _ | _ | _ | _ | _ | i <;> simp [Kx.isUse] at h
          refine lexX_step (fun K hK => ⟨by kernel_rfl, ⟨_, rfl⟩, fun v hv => ?_, fun v hv => ?_⟩)
          · go_simp
            exact mUpon_b
          subst hv
          go_simp
          refine hK _ ?_
          clear hK K
          refine lexX_step (fun K hK => ⟨by kernel_rfl, ⟨_, rfl⟩, fun v hv => ?_, fun v hv => ?_⟩)
          · go_simp
            exact mUpon_b
          subst hv
          go_simp
          refine hK _ ?_
          clear hK K
          refine lexX_step (fun K hK => ⟨by kernel_rfl, ⟨_, rfl⟩, fun v hv => ?_, fun v hv => ?_⟩)
          · go_simp
            exact mUpon_b
          subst hv
          go_simp
          refine hK _ ?_
          clear hK K
          refine lexX_step (fun K hK => ⟨by kernel_rfl, ⟨_, rfl⟩, fun v hv => ?_, fun v hv => ?_⟩)
          · go_simp
            exact mUpon_b
          subst hv
          go_simp
          refine hK _ ?_
          clear hK K
          refine lexX_step (fun K hK => ⟨by kernel_rfl, ⟨_, rfl⟩, fun v hv => ?_, fun v hv => ?_⟩)
          · go_simp
            exact mUpon_b
          subst hv
          go_simp
          refine hK _ ?_
          clear hK K
          refine lexX_step (fun K hK => ⟨by kernel_rfl, ⟨_, rfl⟩, fun v hv => ?_, fun v hv => ?_⟩)
          · go_simp
            exact mUpon_b
          subst hv
          go_simp
          refine hK _ ?_
          clear hK K
          refine lexX_step (fun K hK => ⟨by kernel_rfl, ⟨_, rfl⟩, fun v hv => ?_, fun v hv => ?_⟩)
          · go_simp
            exact mUpon_b
          subst hv
          go_simp
          refine hK _ ?_
          clear hK K
          refine lexX_step (fun K hK => ⟨by kernel_rfl, ⟨_, rfl⟩, fun v hv => ?_, fun v hv => ?_⟩)
          · go_simp
            exact mUpon_b
          subst hv
          go_simp
          refine hK _ ?_
          clear hK K
          refine lexX_step (fun K hK => ⟨by kernel_rfl, ⟨_, rfl⟩, fun v hv => ?_, fun v hv => ?_⟩)
          · go_simp
            exact mUpon_b
          subst hv
          go_simp
          refine hK _ ?_
          clear hK K
          refine lexX_step (fun K hK => ⟨by kernel_rfl, ⟨_, rfl⟩, fun v hv => ?_, fun v hv => ?_⟩)
          · go_simp
            exact mUpon_b
          subst hv
          go_simp
          refine hK _ ?_
          clear hK K
          refine lexX_step (fun K hK => ⟨by kernel_rfl, ⟨_, rfl⟩, fun v hv => ?_, fun v hv => ?_⟩)
          · go_simp
            exact mUpon_b
          subst hv
          go_simp
          refine hK _ ?_
          clear hK K
          refine lexX_step (fun K hK => ⟨by kernel_rfl, ⟨_, rfl⟩, fun v hv => ?_, fun v hv => ?_⟩)
          · go_simp
            exact mUpon_b
          subst hv
          go_simp
          refine hK _ ?_
          clear hK K
          refine lexX_step (fun K hK => ⟨by kernel_rfl, ⟨_, rfl⟩, fun v hv => ?_, fun v hv => ?_⟩)
          · go_simp
            exact mUpon_b
          subst hv
          go_simp
          refine hK _ ?_
          clear hK K
          refine lexX_step (fun K hK => ⟨by kernel_rfl, ⟨_, rfl⟩, fun v hv => ?_, fun v hv => ?_⟩)
          · go_simp
            exact mUpon_b
          subst hv
          go_simp
          refine hK _ ?_
          clear hK K
          refine lexX_step (fun K hK => ⟨by kernel_rfl, ⟨_, rfl⟩, fun v hv => ?_, fun v hv => ?_⟩)
          · have cc := (hv.cell (p := ⟨ab, ao + ix, none⟩) (lt_of_cell xg)).trans xg
            go_simp
            exact mUpon_b
          subst hv
          go_simp
          refine hK _ ?_
          clear hK K
          refine lexX_step (fun K hK => ⟨by kernel_rfl, ⟨_, rfl⟩, fun v hv => ?_, fun v hv => ?_⟩)
          · go_simp
            exact mUpon_b
          subst hv
          go_simp
          refine hK _ ?_
          clear hK K
          refine lexX_step (fun K hK => ⟨by kernel_rfl, ⟨_, rfl⟩, fun v hv => ?_, fun v hv => ?_⟩)
          · go_simp
            exact mUpon_b
          subst hv
          go_simp
          refine hK _ ?_
          clear hK K
          refine lexX_end (fun v5 hv => ?_)
          have K6 := hv.low
          clear hv
          have HS5 := hideR ((unhideR HS3).go K6)
          obtain ⟨xo, fo⟩ := (unhideR HS5).own1.has (unhideR HS5).len1 hi
          generalize X.getD i 0 = xold at xo
          refine wpAny_step (i := 17) (by kernel_rfl) rfl (by kernel_rfl) (fun K hK => ?_)
          unfold Oper.wp
          go_simp
          refine hK _ _ ?_
          clear hK K
          refine wpAny_end (by kernel_rfl) ?_
          have HS6 := hideR ((unhideR HS5).put1 i (cnt - gv))
          obtain ⟨xb, fb⟩ := (unhideR HS6).has2 hi
          obtain ⟨xo2, fo2⟩ := (unhideR HS6).own1.has (unhideR HS6).len1 hi
          rw [getD_setI (by rw [(unhideR HS5).len1]; exact hi), if_pos rfl] at xo2
          have HS7 := hideR ((unhideR HS6).put2 i (decide (over < cnt - gv)))
          generalize C.getD i false = cold at xb
          clear HS5 HS6 HS3 xo fo
          go_wp2
          exact ⟨⟨i + 1, _, _, by omega, by go_num, HS7, HIn, HLn⟩, by simp [intOf]; omega⟩
        · obtain rfl : N = i := by omega
          have tin : decide (N < N) = false := decide_eq_false hi
          have HF := hideR (unhideR HDone w2 g1 g2 X C wr (unhideR HB2) (unhideR HS) (unhideR HI) (unhideR HL))
          clear HS HI HL
          go_wp2
          go_ret3
          exact unhideR HF
  · have hE : litE p tile over = groundE p tile := by unfold litE; rw [if_pos e0]
    have HF : HeldR (∀ u er, ErrIs a (groundE p tile) er → Below w.heap.size w u → LkPost a p tile over w (.returned (.tuple #[.slice none 0 0, .slice none 0 0, er])) u) := hideR (fun u er h k => lk_none (by rw [hE]; exact h) (by rw [hE]; exact e0) k)
    have HE0 := hideR e0
    clear hE e0 hc
    go_enter Tryz.func42, Tryz.ntmps42
    go_wp2_with fail
    refine hv1.mono ?_
    rintro e w2 ⟨X, a2, cp2, er, rfl, her, _, _, _, k2⟩
    have HR := hideR (unhideR HF w2 er her (below_go (unhideR HB) k2))
    obtain ⟨kk, rfl⟩ := errIs_ne her (unhideR HE0)
    generalize X.length = xl at *
    clear hv1 her k2
    go_wp2
    go_ret3
    exact unhideR HR
end Go.Proofs.YtmgnobeaacjdjajGreatDoor
