/-
  Rows of a plan in memory.
-/
import Derived.Test.YtoacdaemhcbbhaaDoorNgG2
import Derived.Laws.MakeOwn
import Derived.Laws.OwnMore
import Derived.Laws.IdiomCopy
namespace Go.Proofs.YtoacdaemhcbbhaaDoor
open Go Go.RowKit

theorem size_setCellsG (g : Nat) : ∀ (vs : List Value) (o : Nat) (u : World), (u.setCells g o vs).heap.size = u.heap.size
  | [], _, _ => rfl
  | v :: r, o, u => by
    rw [World.setCells, size_setCellsG g r (o + 1)]
    simp
def valRw (r : Rw) : List Value := [.bool r.can, .int .i64 (r.last : Nat), .int .i64 r.fr, .int .i64 r.to_, .int .i64 r.wo]
/-- N rows in block g. -/
structure RwR (w : World) (g N : Nat) (f : Nat → Rw) : Prop where
  cell : ∀ i, i < N → ∀ o, o < 5 → w.cell? ⟨g, i * 5 + o, none⟩ = (valRw (f i))[o]?
  fz : ∀ o, w.frozen? ⟨g, o, none⟩ = false
  lt : g < w.heap.size
theorem RwR.below {w v : World} {g N : Nat} {f : Nat → Rw} (h : RwR w g N f) (b : Below w.heap.size w v) : RwR v g N f :=
  ⟨fun i hi o ho => (b.cell (p := ⟨g, i * 5 + o, none⟩) h.lt).trans (h.cell i hi o ho), fun o => (b.frozen (p := ⟨g, o, none⟩) h.lt).trans (h.fz o), Nat.lt_of_lt_of_le h.lt b.size⟩
theorem RwR.congr {w : World} {g N : Nat} {f f' : Nat → Rw} (h : RwR w g N f) (e : ∀ i, i < N → f i = f' i) : RwR w g N f' := ⟨fun i hi o ho => by rw [← e i hi]; exact h.cell i hi o ho, h.fz, h.lt⟩
def updR (f : Nat → Rw) (i : Nat) (r : Rw) : Nat → Rw := fun j => if j = i then r else f j
theorem RwR.put {w : World} {g N : Nat} {f : Nat → Rw} (h : RwR w g N f) {i : Nat} (hi : i < N) (r : Rw) : RwR (w.setCells g (i * 5) (valRw r)) g N (updR f i r) := by
  have hs : ∀ j, j < (valRw r).length → (w.cell? ⟨g, i * 5 + j, none⟩).isSome = true := fun j hj => by
    have hj : j < 5 := hj
    rw [h.cell i hi j hj]
    rcases (show j = 0 ∨ j = 1 ∨ j = 2 ∨ j = 3 ∨ j = 4 by omega) with q | q | q | q | q <;> rw [q] <;> rfl
  refine ⟨fun k hk o ho => ?_, fun o => by rw [World.frozen?_setCells]; exact h.fz o, ?_⟩
  · unfold updR
    by_cases e : k = i
    · subst e
      rw [if_pos rfl]
      have hl : o < (valRw r).length := ho
      rw [World.cell?_setCells_in g (valRw r) (k * 5) w hs o hl, List.getElem?_eq_getElem hl]
    · rw [if_neg e, World.cell?_setCells_out g (valRw r) (i * 5) w ⟨g, k * 5 + o, none⟩ (fun _ _ => ?_)]
      · exact h.cell k hk o ho
      · show k * 5 + o < i * 5 ∨ i * 5 + 5 ≤ k * 5 + o
        omega
  · rw [size_setCellsG]
    exact h.lt
theorem below_setCellsG {g : Nat} {w : World} {B : Nat} (hB : B ≤ g) : ∀ (vs : List Value) (o : Nat) (u : World), Below B w u → Below B w (u.setCells g o vs)
  | [], _, _, h => h
  | v :: r, o, u, h => by
    rw [World.setCells]
    exact below_setCellsG hB r (o + 1) _ (h.setCell (p := ⟨g, o, none⟩) hB v)
theorem infoRw : (Tryd.prog.info? 78).map (fun i => (i.zero, i.size, i.bytes)) = some (some (.agg #[.bool false, .int .i64 0, .int .i64 0, .int .i64 0, .int .i64 0]), 5, 40) := by kernel_rfl
theorem make_rows {w : World} {n : Nat} (hn : n ≤ 65536) : ∃ w', (Instr.makeSlice 75 (.int .i64 (n : Int)) (.int .i64 (n : Int))).run Tryd.prog w = .ok (.slice (some ⟨w.heap.size, 0, none⟩) n n) w' ∧ RwR w' w.heap.size n (fun _ => rwZ) ∧ Below w.heap.size w w' := by
  obtain ⟨i0, hi0, hz0, hz1, hz2⟩ := info_parts infoRw
  obtain ⟨w', h1, h2, h3⟩ := run_make_full (P := Tryd.prog) w w.heap.size 75 78 i0 (.agg #[.bool false, .int .i64 0, .int .i64 0, .int .i64 0, .int .i64 0]) 5 (by kernel_rfl) hi0 hz0 hz1 .i64 .i64 n (by rw [hz2]; omega) (by simp [maxLen]; omega) (Nat.le_refl _)
  refine ⟨w', h1, ⟨fun i hi o ho => ?_, fun o => h2.frozenAt o, (h2.lt _ rfl).2⟩, (Below.refl _ _).grown h3 (Nat.le_refl _) (fun k hk => by cases hk)⟩
  have hj : i * 5 + o < n * 5 := by omega
  rw [h2.cellAt (i * 5 + o) hj]
  have e2 : (madeCells (Value.cells (.agg #[.bool false, .int .i64 0, .int .i64 0, .int .i64 0, .int .i64 0])) (n * 5)).toList[i * 5 + o]? = some ((Value.cells (.agg #[.bool false, .int .i64 0, .int .i64 0, .int .i64 0, .int .i64 0]))[o]!) := by
    obtain ⟨J, hJ⟩ : ∃ J, i * 5 + o = J := ⟨_, rfl⟩
    have hm : J % 5 = o := by omega
    rw [hJ] at hj ⊢
    rw [← hm]
    unfold madeCells
    simp [hj]
    rfl
  rw [e2]
  rcases (show o = 0 ∨ o = 1 ∨ o = 2 ∨ o = 3 ∨ o = 4 by omega) with q | q | q | q | q <;> rw [q] <;> rfl
/-- windows of the first so many jobs, in block g; none of them lies in block h. -/
structure WnR (w : World) (g h n : Nat) (l : List Jb) (i : Nat) : Prop where
  has : ∀ k, k < i → ∃ ad cap, w.cell? ⟨g, k, none⟩ = some (.slice ad (leL (l.getD k jb0).lo (l.getD k jb0).ws).length cap) ∧ SpCame w ad (leL (l.getD k jb0).lo (l.getD k jb0).ws) ∧ ∀ a0, ad = some a0 → a0.block ≠ h ∧ a0.block < w.heap.size
  any : ∀ k, k < n → (w.cell? ⟨g, k, none⟩).isSome = true
  fz : ∀ o, w.frozen? ⟨g, o, none⟩ = false
  lt : g < w.heap.size
theorem WnR.below {w v : World} {g h n : Nat} {l : List Jb} {i : Nat} (hw : WnR w g h n l i) (b : Below w.heap.size w v) : WnR v g h n l i :=
  ⟨fun k hk => by
    obtain ⟨ad, cap, h1, h2, h3⟩ := hw.has k hk
    exact ⟨ad, cap, (b.cell (p := ⟨g, k, none⟩) hw.lt).trans h1, h2.below b, fun a0 ha => ⟨(h3 a0 ha).1, Nat.lt_of_lt_of_le (h3 a0 ha).2 b.size⟩⟩, fun k hk => by rw [b.cell (p := ⟨g, k, none⟩) hw.lt]; exact hw.any k hk, fun o => (b.frozen (p := ⟨g, o, none⟩) hw.lt).trans (hw.fz o), Nat.lt_of_lt_of_le hw.lt b.size⟩
theorem WnR.put {w : World} {g n : Nat} {l : List Jb} {i : Nat} (h : WnR w g g n l i) (hi : i < n) {ad : Option Addr} {cap : Nat} (hs : SpCame w ad (leL (l.getD i jb0).lo (l.getD i jb0).ws)) (hn : ∀ a0, ad = some a0 → a0.block ≠ g ∧ a0.block < w.heap.size) : WnR (w.setCell ⟨g, i, none⟩ (.slice ad (leL (l.getD i jb0).lo (l.getD i jb0).ws).length cap)) g g n l (i + 1) := by
  have keep : ∀ (a0 : Option Addr) (L : List Spn), SpCame w a0 L → (∀ a1, a0 = some a1 → a1.block ≠ g) → SpCame (w.setCell ⟨g, i, none⟩ (.slice ad (leL (l.getD i jb0).lo (l.getD i jb0).ws).length cap)) a0 L := fun a0 L hc hne => ⟨fun k hk => by
    obtain ⟨b, off, e, hb, hS⟩ := hc.at_ k hk
    have hbg : b ≠ g := hne _ e
    have c := fun o => World.cell?_setCell_other (w := w) (v := .slice ad (leL (l.getD i jb0).lo (l.getD i jb0).ws).length cap) (a := ⟨g, i, none⟩) (b := ⟨b, o, none⟩) (fun e => hbg (by injection e with e1; exact e1.symm))
    exact ⟨b, off, e, by simpa using hb, ⟨(c _).trans hS.c0, (c _).trans hS.c1⟩⟩⟩
  have sz : (w.setCell ⟨g, i, none⟩ (.slice ad (leL (l.getD i jb0).lo (l.getD i jb0).ws).length cap)).heap.size = w.heap.size := by simp
  refine ⟨fun k hk => ?_, fun k hk => ?_, fun o => by rw [World.frozen?_setCell]; exact h.fz o, by rw [sz]; exact h.lt⟩
  · rw [sz]
    by_cases e : k = i
    · subst e
      obtain ⟨u, hu⟩ := Option.isSome_iff_exists.1 (h.any k hi)
      exact ⟨ad, cap, World.cell?_setCell_same _ _ _ hu, keep ad _ hs (fun a1 q => (hn a1 q).1), hn⟩
    · obtain ⟨ad', cap', h1, h2, h3⟩ := h.has k (by omega)
      refine ⟨ad', cap', ?_, keep ad' _ h2 (fun a1 q => (h3 a1 q).1), h3⟩
      rw [World.cell?_setCell_other _ _ _ _ (fun q => e (by injection q with _ q; exact q.symm))]
      exact h1
  · by_cases e : k = i
    · subst e
      obtain ⟨u, hu⟩ := Option.isSome_iff_exists.1 (h.any k hi)
      rw [World.cell?_setCell_same _ _ _ hu]
      rfl
    · rw [World.cell?_setCell_other _ _ _ _ (fun q => e (by injection q with _ q; exact q.symm))]
      exact h.any k hk
/-- a block that is made later. -/
theorem WnR.later {w : World} {g h n : Nat} {l : List Jb} {i : Nat} (hw : WnR w g h n l i) {h' : Nat} (hh : w.heap.size ≤ h') : WnR w g h' n l i :=
  ⟨fun k hk => by
    obtain ⟨ad, cap, h1, h2, h3⟩ := hw.has k hk
    exact ⟨ad, cap, h1, h2, fun a0 ha => ⟨by have := (h3 a0 ha).2; omega, (h3 a0 ha).2⟩⟩, hw.any, hw.fz, hw.lt⟩
/-- that block is written. -/
theorem WnR.wrote {w : World} {g h n : Nat} {l : List Jb} {i : Nat} (hw : WnR w g h n l i) (hne : g ≠ h) (o : Nat) (vs : List Value) : WnR (w.setCells h o vs) g h n l i := by
  have oth : ∀ (b x : Nat), b ≠ h → (w.setCells h o vs).cell? ⟨b, x, none⟩ = w.cell? ⟨b, x, none⟩ := fun b x hb => World.cell?_setCells_out h vs o w ⟨b, x, none⟩ (fun e _ => absurd e hb)
  refine ⟨fun k hk => ?_, fun k hk => by rw [oth g k hne]; exact hw.any k hk, fun x => by rw [World.frozen?_setCells]; exact hw.fz x, by rw [size_setCellsG]; exact hw.lt⟩
  obtain ⟨ad, cap, h1, h2, h3⟩ := hw.has k hk
  refine ⟨ad, cap, (oth g k hne).trans h1, ⟨fun q hq => ?_⟩, fun a0 ha => by rw [size_setCellsG]; exact h3 a0 ha⟩
  obtain ⟨b, off, e, hb, hS⟩ := h2.at_ q hq
  have hbh : b ≠ h := (h3 _ e).1
  exact ⟨b, off, e, by rw [size_setCellsG]; exact hb, ⟨(oth b _ hbh).trans hS.c0, (oth b _ hbh).trans hS.c1⟩⟩
theorem infoSsp : (Tryd.prog.info? 70).map (fun i => (i.zero, i.size, i.bytes)) = some (some (.slice none 0 0), 1, 24) := by kernel_rfl
theorem make_wins {w : World} {n : Nat} (hn : n ≤ 65536) (l : List Jb) : ∃ w', (Instr.makeSlice 109 (.int .i64 (n : Int)) (.int .i64 (n : Int))).run Tryd.prog w = .ok (.slice (some ⟨w.heap.size, 0, none⟩) n n) w' ∧ WnR w' w.heap.size w.heap.size n l 0 ∧ Below w.heap.size w w' := by
  obtain ⟨i0, hi0, hz0, hz1, hz2⟩ := info_parts infoSsp
  obtain ⟨w', h1, h2, h3⟩ := run_make_full (P := Tryd.prog) w w.heap.size 109 70 i0 (.slice none 0 0) 1 (by kernel_rfl) hi0 hz0 hz1 .i64 .i64 n (by rw [hz2]; omega) (by simp [maxLen]; omega) (Nat.le_refl _)
  refine ⟨w', h1, ⟨fun k hk => absurd hk (Nat.not_lt_zero k), fun k hk => ?_, fun o => h2.frozenAt o, (h2.lt _ rfl).2⟩, (Below.refl _ _).grown h3 (Nat.le_refl _) (fun k hk => by cases hk)⟩
  have hj : k < n * 1 := by omega
  rw [h2.cellAt k hj]
  have : k < (madeCells (Value.cells (.slice none 0 0)) (n * 1)).toList.length := by
    rw [h2.1]
    exact hj
  rw [List.getElem?_eq_getElem this]
  rfl
/-- the rows while the sets are gone through. -/
def rowsAt (J : Jo) (T : Int) (s i : Nat) : Nat → Rw := fun q => if q < s then rowV J T q else if q = s then rowK J (rowV J T) s i else rwZ
theorem rowsAt_next {J : Jo} {T : Int} {s : Nat} (hs : 0 < s) (q : Nat) : rowsAt J T s J.n q = rowsAt J T (s + 1) 0 q := by
  unfold rowsAt
  by_cases h : q < s
  · rw [if_pos h, if_pos (by omega)]
  · rw [if_neg h]
    by_cases e : q = s
    · subst e
      rw [if_pos rfl, if_pos (by omega), rowV_pos J T hs]
    · rw [if_neg e, if_neg (by omega)]
      split <;> rfl
theorem rowsAt_step {J : Jo} {T : Int} {s i : Nat} (r : Rw) (h : stepR J (rowV J T) s i (rowK J (rowV J T) s i) = r) (q : Nat) : updR (rowsAt J T s i) s r q = rowsAt J T s (i + 1) q := by
  unfold updR rowsAt
  by_cases e : q = s
  · subst e
    rw [if_pos rfl, if_neg (Nat.lt_irrefl _), if_pos rfl]
    exact h.symm
  · rw [if_neg e, if_neg e, if_neg e]
theorem rowsAt_same {J : Jo} {T : Int} {s i : Nat} (h : stepR J (rowV J T) s i (rowK J (rowV J T) s i) = rowK J (rowV J T) s i) (q : Nat) : rowsAt J T s i q = rowsAt J T s (i + 1) q := by
  unfold rowsAt
  by_cases e : q = s
  · subst e
    rw [if_neg (Nat.lt_irrefl _), if_pos rfl, if_neg (Nat.lt_irrefl _), if_pos rfl]
    exact h.symm
  · rw [if_neg e, if_neg e]
end Go.Proofs.YtoacdaemhcbbhaaDoor
