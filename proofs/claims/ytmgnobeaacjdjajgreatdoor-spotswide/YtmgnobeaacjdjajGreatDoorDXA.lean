/-
  Spots that are too small: how they are told, and where the first is. Spots that are too small are taken out of a row. slices.DeleteFunc of spots that are too small, by contract.
-/
import Derived.Test.YtmgnobeaacjdjajGreatDoorDWA
import Derived.Lib.SliceRun
namespace Go.Proofs.YtmgnobeaacjdjajGreatDoor
open Go Go.RowKit Go.Shelf Go.Lib Go.Sort

set_option maxRecDepth 100000 in
set_option maxHeartbeats 1600000 in
theorem tiny_any {w : World} (s : Sta) {bl : Nat} {least : Int} (hb : bl < w.heap.size) (hc : w.cell? ⟨bl, 0, none⟩ = some (.int .i64 least)) : Calls Tryz.prog 46 #[.agg (valSx s).toArray, .pointer (some ⟨bl, 0, none⟩)] w fun e w' => e = .returned (.bool (decide (s.px < least))) ∧ Below w.heap.size w w' := by
  have e : (valSx s).toArray = #[.int .i64 s.le, .int .i64 s.tp, .int .i64 s.ri, .int .i64 s.lo, .int .i64 s.px, .int .i64 s.li, .int .i64 s.x, .int .i64 s.y, .int .i64 s.lt] := rfl
  rw [e]
  have hB := below_a w (.cells #[.int .i64 s.le, .int .i64 s.tp, .int .i64 s.ri, .int .i64 s.lo, .int .i64 s.px, .int .i64 s.li, .int .i64 s.x, .int .i64 s.y, .int .i64 s.lt] 36)
  have cl := (hB.cell (p := ⟨bl, 0, none⟩) hb).trans hc
  have HB := hideR hB
  clear e hB hc
  by_cases h : s.px < least
  · have t : decide (s.px < least) = true := decide_eq_true h
    rw [t]
    go_enter Tryz.func46, Tryz.ntmps46
    go_wp2
    go_ret
    exact ⟨rfl, unhideR HB⟩
  · have t : decide (s.px < least) = false := decide_eq_false h
    rw [t]
    go_enter Tryz.func46, Tryz.ntmps46
    go_wp2
    go_ret
    exact ⟨rfl, unhideR HB⟩
def IxPost (f : Nat → Sta) (N : Nat) (least : Int) (w : World) (e : Ending) (w' : World) : Prop := ∃ i : Int, e = .returned (.int .i64 i) ∧ Below w.heap.size w w' ∧ ((i = -1 ∧ ∀ j, j < N → least ≤ (f j).px) ∨ ∃ m : Nat, i = (m : Int) ∧ m < N ∧ (f m).px < least ∧ ∀ j, j < m → least ≤ (f j).px)
set_option maxRecDepth 100000 in
set_option maxHeartbeats 1600000 in
theorem index_any {k : Nat} (zE : ∀ w, (Go.sizeOf 36).run Tryz.prog w = .ok k w) {w0 w : World} {g N cap : Nat} {f : Nat → Sta} (h : GRow k w0 g N f w) {bl : Nat} {least : Int} (hb : bl < w.heap.size) (hc : w.cell? ⟨bl, 0, none⟩ = some (.int .i64 least)) (hN : N ≤ 100000) :
    Calls Tryz.prog 78 #[.slice (some ⟨g, 0, none⟩) N cap, .func (.func 46) #[] #[.pointer (some ⟨bl, 0, none⟩)]] w (IxPost f N least w) := by
  have HR := hideR h
  have HB0 := hideR (Below.refl w.heap.size w)
  have aE := aggX
  have HSm : HeldR (∀ u s, Below w.heap.size w u → Calls Tryz.prog 46 #[.agg (valSx s).toArray, .pointer (some ⟨bl, 0, none⟩)] u fun e w' => e = .returned (.bool (decide (s.px < least))) ∧ Below u.heap.size u w') := hideR (fun u s b => tiny_any s (Nat.lt_of_lt_of_le hb b.size) ((b.cell (p := ⟨bl, 0, none⟩) hb).trans hc))
  have H0 : HeldR (∀ j, j < 0 → least ≤ (f j).px) := hideR (fun j q => absurd q (Nat.not_lt_zero j))
  have hk : (valSx (f 0)).length = k := h.k9
  clear h hc
  go_enter Tryz.func78, Tryz.ntmps78
  go_wp2
  go_loopw [8] (fun iv wl => ∃ i : Nat, i ≤ N ∧ iv = .int .i64 (i : Nat) ∧ HeldR (Below w.heap.size w wl) ∧ HeldR (∀ j, j < i → least ≤ (f j).px)) (fun iv _ => 200000 - (intOf iv).toNat)
  case atStart => exact ⟨0, by omega, rfl, HB0, H0⟩
  case round =>
    clear HB0 H0
    obtain ⟨i, hin, rfl, HB, HA⟩ := hrel
    by_cases hi : i < N
    · have ti : decide (i < N) = true := decide_eq_true hi
      have ji : (i : Int) < (N : Int) := by omega
      have wi : IntKind.i64.wrap ((i : Int) + 1) = (i : Int) + 1 := iwrap (by omega) (by omega)
      have l1 := (unhideR HR).load hi (unhideR HB)
      have n1 : (valSx (f i)).length = k := hk
      have hs := unhideR HSm wr (f i) (unhideR HB)
      obtain ⟨q, hq⟩ : ∃ q, decide ((f i).px < least) = q := ⟨_, rfl⟩
      have HQ := hideR hq
      rw [hq] at hs
      obtain ⟨cI, hcI⟩ : ∃ cI, valSx (f i) = cI := ⟨_, rfl⟩
      rw [hcI] at l1 n1 hs
      have HF : HeldR (∀ u, Below w.heap.size w u → q = true → IxPost f N least w (.returned (.int .i64 (i : Nat))) u) := hideR (fun u b e => ⟨_, rfl, b, .inr ⟨i, rfl, hi, of_decide_eq_true (hq.trans e), unhideR HA⟩⟩)
      have HA2 : HeldR (q = false → ∀ j, j < i + 1 → least ≤ (f j).px) := hideR (fun e j hj => by
        by_cases ej : j = i
        · have := of_decide_eq_false (hq.trans e)
          rw [ej]
          omega
        · exact unhideR HA j (by omega))
      clear hq hcI HA
      go_wp2_with fail
      refine hs.mono ?_
      rintro e w2 ⟨rfl, k2⟩
      have HB2 := hideR (below_go (unhideR HB) k2)
      clear hs k2 l1
      cases q with
      | true =>
        have HR2 := hideR (unhideR HF w2 (unhideR HB2) rfl)
        clear HF HA2 HQ
        go_wp2
        go_ret
        exact unhideR HR2
      | false =>
        have HA3 := hideR (unhideR HA2 rfl)
        clear HF HA2 HQ
        go_wp2
        exact ⟨⟨i + 1, by omega, by go_num, HB2, HA3⟩, by simp [intOf]; omega⟩
    · obtain rfl : N = i := by omega
      have ti : decide (N < N) = false := decide_eq_false hi
      have HF : HeldR (IxPost f N least w (.returned (.int .i64 (-1))) wr) := hideR ⟨-1, rfl, unhideR HB, .inl ⟨rfl, unhideR HA⟩⟩
      clear HA HB
      go_wp2
      go_ret
      exact unhideR HF
end Go.Proofs.YtmgnobeaacjdjajGreatDoor
namespace Go.Proofs.YtmgnobeaacjdjajGreatDoor
open Go Go.RowKit Go.Shelf Go.Lib Go.Sort

/-- the places of those that stay. -/
def keepN (f : Nat → Sta) (least : Int) (j : Nat) : List Nat := (List.range j).filter fun x => decide (least ≤ (f x).px)
theorem keep_next (f : Nat → Sta) (least : Int) (j : Nat) : keepN f least (j + 1) = if least ≤ (f j).px then keepN f least j ++ [j] else keepN f least j := by
  unfold keepN
  rw [List.range_succ, List.filter_append]
  by_cases e : least ≤ (f j).px
  · rw [if_pos e, List.filter_cons_of_pos (by simpa using e)]
    rfl
  · rw [if_neg e, List.filter_cons_of_neg (by simpa using e)]
    simp
theorem keep_all {f : Nat → Sta} {least : Int} : ∀ {j : Nat}, (∀ x, x < j → least ≤ (f x).px) → keepN f least j = List.range j
  | 0, _ => rfl
  | j + 1, h => by
    rw [keep_next, if_pos (h j (Nat.lt_succ_self j)), keep_all (fun x hx => h x (by omega)), List.range_succ]
structure Kp (f : Nat → Sta) (least : Int) (N j i : Nat) (h : Nat → Sta) : Prop where
  len : (keepN f least j).length = i
  lt : i < j
  jn : j ≤ N
  front : ∀ a, a < i → h a = f ((keepN f least j).getD a 0)
  rest : ∀ a, j ≤ a → a < N → h a = f a
theorem kp0 {f : Nat → Sta} {least : Int} {N m : Nat} (hm : m < N) (h1 : (f m).px < least) (h2 : ∀ x, x < m → least ≤ (f x).px) : Kp f least N (m + 1) m f := by
  have e : keepN f least (m + 1) = List.range m := by rw [keep_next, if_neg (by omega), keep_all h2]
  refine ⟨by rw [e]; simp, by omega, hm, fun a ha => ?_, fun a _ _ => rfl⟩
  rw [e]
  simp [List.getD, ha]
theorem Kp.keep {f : Nat → Sta} {least : Int} {N j i : Nat} {h : Nat → Sta} (p : Kp f least N j i h) (hj : j < N) (e : least ≤ (f j).px) : Kp f least N (j + 1) (i + 1) (updS h i (f j)) := by
  have q : keepN f least (j + 1) = keepN f least j ++ [j] := by rw [keep_next, if_pos e]
  have hl := p.len
  have := p.lt
  refine ⟨by rw [q, List.length_append, hl]; rfl, by omega, hj, fun a ha => ?_, fun a h1 h2 => ?_⟩
  · rw [q]
    unfold updS
    by_cases ea : a = i
    · rw [if_pos ea, ea, List.getD_eq_getElem?_getD, List.getElem?_append_right (by omega), hl]
      simp
    · rw [if_neg ea, List.getD_eq_getElem?_getD, List.getElem?_append_left (by omega), ← List.getD_eq_getElem?_getD]
      exact p.front a (by omega)
  · unfold updS
    rw [if_neg (by omega)]
    exact p.rest a (by omega) h2
theorem Kp.drop {f : Nat → Sta} {least : Int} {N j i : Nat} {h : Nat → Sta} (p : Kp f least N j i h) (hj : j < N) (e : ¬ least ≤ (f j).px) : Kp f least N (j + 1) i h := by
  have q : keepN f least (j + 1) = keepN f least j := by rw [keep_next, if_neg e]
  have := p.lt
  exact ⟨by rw [q]; exact p.len, by omega, hj, by rw [q]; exact p.front, fun a h1 h2 => p.rest a (by omega) h2⟩
/-- the first so many of a row. -/
theorem GRow.prefix {k : Nat} {w : World} {g N m : Nat} {f : Nat → Sta} {u v : World} (h : GRow k w g N f u) (hm : m ≤ N) (hc : ∀ j, j < m * k → v.cell? ⟨g, j, none⟩ = u.cell? ⟨g, j, none⟩ ∧ v.frozen? ⟨g, j, none⟩ = u.frozen? ⟨g, j, none⟩) (hl : u.heap.size ≤ v.heap.size) (hb : Below g w v) : GRow k w g m f v := by
  obtain ⟨d, h1, h2, h3⟩ := h.has
  have hk9 := h.k9
  refine ⟨⟨d.extract 0 m, by simp; omega, fun i hi => ?_, fun j hj => ?_⟩, Nat.lt_of_lt_of_le h.lt hl, hb, h.k9⟩
  · rw [← h2 i (by omega)]
    simp only [getElem!_def]
    rw [Array.getElem?_extract]
    simp
    rw [if_pos (by omega)]
  · rw [size_flatK] at hj
    have hj' : j < m * k := by
      have e : (d.extract 0 m).size = m := by simp; omega
      rwa [e] at hj
    have hjn : j < d.size * k := Nat.lt_of_lt_of_le hj' (by rw [h1]; exact Nat.mul_le_mul_right k hm)
    obtain ⟨q1, q2⟩ := h3 j (by rw [size_flatK]; exact hjn)
    rw [Nat.zero_add] at q1 q2 ⊢
    refine ⟨(hc j hj').1.trans (q1.trans ?_), (hc j hj').2.trans q2⟩
    rw [get_flatK _ _ _ _ hjn, get_flatK _ _ _ _ hj]
    have : (d.extract 0 m)[j / k]! = d[j / k]! := by
      have hd : j / k < m := Nat.div_lt_of_lt_mul (by rw [Nat.mul_comm]; exact hj')
      simp only [getElem!_def]
      rw [Array.getElem?_extract]
      simp
      rw [if_pos (by omega)]
    rw [this]
end Go.Proofs.YtmgnobeaacjdjajGreatDoor
namespace Go.Proofs.YtmgnobeaacjdjajGreatDoor
open Go Go.RowKit Go.Shelf Go.Lib Go.Sort

theorem zeroX : ∀ w, (zeroValue 36).run Tryz.prog w = .ok Sxzv w := fun w => by kernel_rfl
theorem clear_spots {w : World} {g o n c : Nat} (ty : TypeId) (hn : 0 < n) (hc : ∀ j, j < n * 9 → (w.cell? ⟨g, o + j, none⟩).isSome = true) (hf : ∀ j, j < n * 9 → w.frozen? ⟨g, o + j, none⟩ = false) : ∃ vs : List Value, (Builtin.clear_ #[50] ty #[.slice (some ⟨g, o, none⟩) n c]).run Tryz.prog w = .ok (.tuple #[]) (w.setCells g o vs) := by
  refine ⟨(Builtin.zeroCells Sxzv.cells n).toList, ?_⟩
  have hl : (Builtin.zeroCells Sxzv.cells n).toList.length = n * 9 := by simp [Builtin.zeroCells, Sxzv, Value.cells]
  have h1 : ∀ v ∈ (Builtin.zeroCells Sxzv.cells n).toList, v.oneCell' = true := by
    intro v hv
    obtain ⟨i, hi, rfl⟩ := List.mem_iff_getElem.1 hv
    have e : (Builtin.zeroCells Sxzv.cells n).toList[i] = .int .i64 0 := by
      simp only [Builtin.zeroCells, Sxzv, Value.cells, Array.toList_map, List.getElem_map, Array.toList_range, List.getElem_range]
      have : i % 9 < 9 := Nat.mod_lt _ (by decide)
      show (#[Value.int .i64 0, .int .i64 0, .int .i64 0, .int .i64 0, .int .i64 0, .int .i64 0, .int .i64 0, .int .i64 0, .int .i64 0] : Array Value)[i % 9]! = _
      rcases (show i % 9 = 0 ∨ i % 9 = 1 ∨ i % 9 = 2 ∨ i % 9 = 3 ∨ i % 9 = 4 ∨ i % 9 = 5 ∨ i % 9 = 6 ∨ i % 9 = 7 ∨ i % 9 = 8 by omega) with q | q | q | q | q | q | q | q | q <;> rw [q] <;> rfl
    rw [e]
    rfl
  have hst := run_storeCells_cells (P := Tryz.prog) g o (Builtin.zeroCells Sxzv.cells n).toList 0 w (by rw [hl]; simpa using hc) (by rw [hl]; simpa using hf) h1
  simp only [Nat.add_zero] at hst
  obtain ⟨m, rfl⟩ : ∃ m, n = m + 1 := ⟨n - 1, by omega⟩
  have hu : Tryz.prog.underlying 50 = some (.slice 36) := by kernel_rfl
  unfold Sxzv at hst ⊢
  simp [Builtin.clear_, run_underlying hu, hst]
def DfPost (f : Nat → Sta) (N : Nat) (least : Int) (w0 : World) (g cap : Nat) (e : Ending) (w' : World) : Prop := ∃ (m : Nat) (h : Nat → Sta), e = .returned (.slice (some ⟨g, 0, none⟩) m cap) ∧ (keepN f least N).length = m ∧ GRow 9 w0 g m h w' ∧ ∀ a, a < m → h a = f ((keepN f least N).getD a 0)
theorem cells_out {u : World} {g o : Nat} {vs : List Value} {j : Nat} (h : j < o) : (u.setCells g o vs).cell? ⟨g, j, none⟩ = u.cell? ⟨g, j, none⟩ ∧ (u.setCells g o vs).frozen? ⟨g, j, none⟩ = u.frozen? ⟨g, j, none⟩ :=
  ⟨World.cell?_setCells_out g vs o u ⟨g, j, none⟩ (fun _ _ => .inl h), World.frozen?_setCells g vs o u ⟨g, j, none⟩⟩
set_option maxRecDepth 100000 in
theorem slice_fromX {u : World} {b n c l : Nat} (h1 : l < n) (h2 : n ≤ c) : (Instr.slice 50 (.slice (some ⟨b, 0, none⟩) n c) (some (.int .i64 (l : Nat))) none none).run Tryz.prog u = .ok (.slice (some ⟨b, l * 9, none⟩) (n - l) (c - l)) u := by
  rw [run_slice_l u 50 (some ⟨b, 0, none⟩) n c Tryz.underlying50 .i64 (l : Nat) (by omega) (by omega)]
  have e : ¬ c - l = 0 := by omega
  have e2 : ¬ c = l := by omega
  simp [go_sem, sliced, e2, Addr.add]
  omega
set_option maxRecDepth 100000 in
theorem slice_toX {u : World} {b n c l : Nat} (h1 : l ≤ n) (h2 : n ≤ c) : (Instr.slice 50 (.slice (some ⟨b, 0, none⟩) n c) none (some (.int .i64 (l : Nat))) none).run Tryz.prog u = .ok (.slice (some ⟨b, 0, none⟩) l c) u := by
  rw [run_slice_h u 50 (some ⟨b, 0, none⟩) n c Tryz.underlying50 .i64 (l : Nat) (by omega) (by omega)]
  by_cases e : c = 0
  · simp [go_sem, sliced, e]
  · simp [go_sem, sliced, e]
set_option maxRecDepth 100000 in
set_option maxHeartbeats 3200000 in
theorem delete_any {w0 w : World} {g N cap : Nat} {f : Nat → Sta} (h : GRow 9 w0 g N f w) (hcap : N ≤ cap) {bl : Nat} {least : Int} (hb : bl < g) (hc : w.cell? ⟨bl, 0, none⟩ = some (.int .i64 least)) (hN : N ≤ 100000) :
    Calls Tryz.prog 45 #[.slice (some ⟨g, 0, none⟩) N cap, .func (.func 46) #[] #[.pointer (some ⟨bl, 0, none⟩)]] w (DfPost f N least w0 g cap) := by
  have hix := index_any (cap := cap) sizX h (Nat.lt_trans hb h.lt) hc hN
  have HR := hideR h
  have HC : HeldR (∀ u, Below g w u → u.cell? ⟨bl, 0, none⟩ = some (.int .i64 least)) := hideR (fun u b => (b.cell (p := ⟨bl, 0, none⟩) hb).trans hc)
  have HSm : HeldR (∀ (u : World) (s : Sta), bl < u.heap.size → Below g w u → Calls Tryz.prog 46 #[.agg #[.int .i64 s.le, .int .i64 s.tp, .int .i64 s.ri, .int .i64 s.lo, .int .i64 s.px, .int .i64 s.li, .int .i64 s.x, .int .i64 s.y, .int .i64 s.lt], .pointer (some ⟨bl, 0, none⟩)] u fun e w' => e = .returned (.bool (decide (s.px < least))) ∧ Below u.heap.size u w') := hideR (fun u s b0 b => tiny_any s b0 ((b.cell (p := ⟨bl, 0, none⟩) hb).trans hc))
  have hgl := h.lt
  clear h hc
  go_enter Tryz.func45, Tryz.ntmps45
  go_wp2_with fail
  refine hix.mono ?_
  rintro e w1 ⟨ix, rfl, k1, hcase⟩
  have HR1 := hideR ((unhideR HR).below k1)
  have HK1 : HeldR (Below g w w1) := hideR (k1.mono (Nat.le_of_lt hgl))
  clear hix
  rcases hcase with ⟨rfl, hall⟩ | ⟨m, rfl, hm, hdel, hfr⟩
  · have HF : HeldR (DfPost f N least w0 g cap (.returned (.slice (some ⟨g, 0, none⟩) N cap)) w1) := hideR (by
      have e := keep_all (f := f) (least := least) hall
      refine ⟨N, f, rfl, by rw [e]; simp, unhideR HR1, fun a ha => ?_⟩
      rw [e]
      simp [List.getD, ha])
    clear hall k1
    go_wp2
    go_ret
    exact unhideR HF
  · have HK0 := hideR (kp0 hm hdel hfr)
    have t1 : ((m : Int) == -1) = false := beq_eq_false_iff_ne.2 (by omega)
    have w1' : IntKind.i64.wrap ((m : Int) + 1) = (m : Int) + 1 := iwrap (by omega) (by omega)
    clear hdel hfr k1
    go_wp2
    go_loopw [5, 6] (fun iv jv wl => ∃ (i j : Nat) (h : Nat → Sta), iv = .int .i64 (i : Nat) ∧ jv = .int .i64 (j : Nat) ∧ HeldR (Kp f least N j i h) ∧ HeldR (GRow 9 w0 g N h wl) ∧ HeldR (Below g w wl)) (fun _ jv _ => 200000 - (intOf jv).toNat)
    case atStart => exact ⟨m, m + 1, f, rfl, by go_num, HK0, HR1, HK1⟩
    case round =>
      clear HK0 HR1 HK1
      obtain ⟨i, j, h, rfl, rfl, HKp, HG, HB⟩ := hrel
      have hij := (unhideR HKp).lt
      have hjn := (unhideR HKp).jn
      by_cases hj : j < N
      · have tj : decide (j < N) = true := decide_eq_true hj
        have jj : (j : Int) < (N : Int) := by omega
        have ji : (i : Int) < (N : Int) := by omega
        have wj : IntKind.i64.wrap ((j : Int) + 1) = (j : Int) + 1 := iwrap (by omega) (by omega)
        have wi : IntKind.i64.wrap ((i : Int) + 1) = (i : Int) + 1 := iwrap (by omega) (by omega)
        obtain ⟨hcj, _⟩ := (unhideR HG).cell hj
        rw [(unhideR HKp).rest j (Nat.le_refl _) hj] at hcj
        obtain ⟨c0, c1, c2, c3, c4, c5, c6, c7, c8⟩ := hcj
        have HKk := hideR (fun e => (unhideR HKp).keep hj e)
        have HKd := hideR (fun e => (unhideR HKp).drop hj e)
        obtain ⟨s, hs⟩ : ∃ s, f j = s := ⟨_, rfl⟩
        rw [hs] at c0 c1 c2 c3 c4 c5 c6 c7 c8 HKk HKd
        have HBa := hideR (below_a wr (.cells #[.int .i64 s.le, .int .i64 s.tp, .int .i64 s.ri, .int .i64 s.lo, .int .i64 s.px, .int .i64 s.li, .int .i64 s.x, .int .i64 s.y, .int .i64 s.lt] 36))
        have HGa := hideR (alloc_last wr (.cells #[.int .i64 s.le, .int .i64 s.tp, .int .i64 s.ri, .int .i64 s.lo, .int .i64 s.px, .int .i64 s.li, .int .i64 s.x, .int .i64 s.y, .int .i64 s.lt] 36))
        have hsm := unhideR HSm (wr.alloc (.cells #[.int .i64 s.le, .int .i64 s.tp, .int .i64 s.ri, .int .i64 s.lo, .int .i64 s.px, .int .i64 s.li, .int .i64 s.x, .int .i64 s.y, .int .i64 s.lt] 36)) s (by have := (unhideR HG).lt; simp; omega) ((unhideR HB).trans ((unhideR HBa).mono (Nat.le_of_lt (unhideR HG).lt)))
        obtain ⟨q, hq⟩ : ∃ q, decide (s.px < least) = q := ⟨_, rfl⟩
        rw [hq] at hsm
        have HQ := hideR hq
        clear hq hs HKp
        go_wp2_with fail
        refine hsm.mono ?_
        rintro e w2 ⟨rfl, k2⟩
        have hG2 := (unhideR HG).below (below_go (unhideR HBa) k2)
        have HB2 : HeldR (Below g w w2) := hideR ((unhideR HB).trans ((below_go (unhideR HBa) k2).mono (Nat.le_of_lt (unhideR HG).lt)))
        have HGc := hideR (keepB (unhideR HGa) k2)
        have HG2 := hideR hG2
        clear hsm k2 c0 c1 c2 c3 c4 c5 c6 c7 c8 HG HB HBa HGa hG2
        have x0 := (nine_at9 (unhideR HGc)).c0
        have x1 := (nine_at9 (unhideR HGc)).c1
        have x2 := (nine_at9 (unhideR HGc)).c2
        have x3 := (nine_at9 (unhideR HGc)).c3
        have x4 := (nine_at9 (unhideR HGc)).c4
        have x5 := (nine_at9 (unhideR HGc)).c5
        have x6 := (nine_at9 (unhideR HGc)).c6
        have x7 := (nine_at9 (unhideR HGc)).c7
        have x8 := (nine_at9 (unhideR HGc)).c8
        cases q with
        | true =>
          have HKd2 := hideR (unhideR HKd (by have := of_decide_eq_true (unhideR HQ); omega))
          clear HKk HKd HQ
          go_wp2
          exact ⟨⟨i, j + 1, h, rfl, by go_num, HKd2, HG2, HB2⟩, by simp [intOf]; omega⟩
        | false =>
          have HKk2 := hideR (unhideR HKk (by have := of_decide_eq_false (unhideR HQ); omega))
          obtain ⟨hci, hfi⟩ := (unhideR HG2).cell (show i < N by omega)
          obtain ⟨d0, d1, d2, d3, d4, d5, d6, d7, d8⟩ := hci
          have f0 : w2.frozen? ⟨g, i * 9, none⟩ = false := hfi 0 (by omega)
          have f1 := hfi 1 (by omega)
          have f2 := hfi 2 (by omega)
          have f3 := hfi 3 (by omega)
          have f4 := hfi 4 (by omega)
          have f5 := hfi 5 (by omega)
          have f6 := hfi 6 (by omega)
          have f7 := hfi 7 (by omega)
          have f8 := hfi 8 (by omega)
          have HG3 : HeldR (GRow 9 w0 g N (updS h i s) (((((((((w2.setCell ⟨g, i * 9, none⟩ (.int .i64 s.le)).setCell ⟨g, i * 9 + 1, none⟩ (.int .i64 s.tp)).setCell ⟨g, i * 9 + 2, none⟩ (.int .i64 s.ri)).setCell ⟨g, i * 9 + 3, none⟩ (.int .i64 s.lo)).setCell ⟨g, i * 9 + 4, none⟩ (.int .i64 s.px)).setCell ⟨g, i * 9 + 5, none⟩ (.int .i64 s.li)).setCell ⟨g, i * 9 + 6, none⟩ (.int .i64 s.x)).setCell ⟨g, i * 9 + 7, none⟩ (.int .i64 s.y)).setCell ⟨g, i * 9 + 8, none⟩ (.int .i64 s.lt))) := hideR ((unhideR HG2).store (show i < N by omega) s).2
          have HB3 : HeldR (Below g w (((((((((w2.setCell ⟨g, i * 9, none⟩ (.int .i64 s.le)).setCell ⟨g, i * 9 + 1, none⟩ (.int .i64 s.tp)).setCell ⟨g, i * 9 + 2, none⟩ (.int .i64 s.ri)).setCell ⟨g, i * 9 + 3, none⟩ (.int .i64 s.lo)).setCell ⟨g, i * 9 + 4, none⟩ (.int .i64 s.px)).setCell ⟨g, i * 9 + 5, none⟩ (.int .i64 s.li)).setCell ⟨g, i * 9 + 6, none⟩ (.int .i64 s.x)).setCell ⟨g, i * 9 + 7, none⟩ (.int .i64 s.y)).setCell ⟨g, i * 9 + 8, none⟩ (.int .i64 s.lt))) := hideR (below_setCells (valSx s) (i * 9) w2 (unhideR HB2))
          clear HKk HKd HQ hfi HG2 HB2
          go_wp2
          exact ⟨⟨i + 1, j + 1, updS h i s, by go_num, by go_num, HKk2, HG3, HB3⟩, by simp [intOf]; omega⟩
      · obtain rfl : N = j := by omega
        have tj : decide (N < N) = false := decide_eq_false hj
        have hs1 := fun u => slice_fromX (u := u) (b := g) (n := N) (c := cap) (l := i) hij hcap
        have hs2 := fun u => slice_toX (u := u) (b := g) (n := N) (c := cap) (l := i) (by omega) hcap
        obtain ⟨vs, hcl⟩ := clear_spots (w := wr) (g := g) (o := i * 9) (n := N - i) (c := cap - i) 0 (by omega) (fun q hq => by
          obtain ⟨d, e1, _, e3⟩ := (unhideR HG).has
          have := (e3 (i * 9 + q) (by rw [size_flatK, e1]; omega)).1
          rw [Nat.zero_add] at this
          rw [this]
          rfl) (fun q hq => by
          obtain ⟨d, e1, _, e3⟩ := (unhideR HG).has
          have := (e3 (i * 9 + q) (by rw [size_flatK, e1]; omega)).2
          rw [Nat.zero_add] at this
          exact this)
        have HF : HeldR (DfPost f N least w0 g cap (.returned (.slice (some ⟨g, 0, none⟩) i cap)) (wr.setCells g (i * 9) vs)) := hideR ⟨i, h, rfl, (unhideR HKp).len, (unhideR HG).prefix (by omega) (fun q hq => cells_out hq) (by rw [size_setCells]; exact Nat.le_refl _) (below_setCells vs (i * 9) wr (unhideR HG).bel), (unhideR HKp).front⟩
        clear HKp HG HB
        go_wp2
        go_ret
        exact unhideR HF
end Go.Proofs.YtmgnobeaacjdjajGreatDoor
