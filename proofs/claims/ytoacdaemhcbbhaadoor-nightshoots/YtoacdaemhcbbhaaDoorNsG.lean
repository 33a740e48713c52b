/-
  One fitting more among those of a house: the library's Insert, walked.
-/
import Derived.Test.YtoacdaemhcbbhaaDoorNsF
namespace Go.Proofs.YtoacdaemhcbbhaaDoor
open Go Go.RowKit

theorem sizeFg : (Tryd.prog.info? 104).map (·.size) = some 2 := by kernel_rfl
theorem infoFg : (Tryd.prog.info? 104).map (fun i => (i.zero, i.size, i.bytes)) = some (some (.agg #[.string ByteArray.empty, .nilIface]), 2, 32) := by kernel_rfl
theorem row_szG (w : World) (g : Nat) (cs : Array Value) : (w.setRow g cs).heap.size = w.heap.size := by simp [World.setRow]
theorem row_otG (w : World) (g k : Nat) (cs : Array Value) (h : g ≠ k) : (w.setRow g cs).heap[k]? = w.heap[k]? := by
  unfold World.setRow
  simp only [Array.getElem?_modify]
  rw [if_neg h]
theorem belowRow {B g : Nat} {w0 w : World} (hb : Below B w0 w) (hBg : B ≤ g) (cs : Array Value) : Below B w0 (w.setRow g cs) :=
  hb.trans ⟨rfl, rfl, rfl, by rw [row_szG]; exact Nat.le_refl _, fun k hk => row_otG w g k cs (by omega)⟩
def InPost (B : Nat) (v : Value) (X : List Fg) (k : Nat) (f : Fg) (w : World) (e : Ending) (w' : World) : Prop := (∃ v', e = .returned v' ∧ w'.ownsRow B 104 2 v' (X.length + 1) (flatFg (insF X k f))) ∧ w.grownBy w' v.ownBlock
theorem grown_row {w : World} {g : Nat} (cs : Array Value) {v : Value} (h : v.ownBlock = some g) : w.grownBy (w.setRow g cs) v.ownBlock := ⟨rfl, rfl, rfl, by rw [row_szG]; exact Nat.le_refl _, fun k _ hk => row_otG w g k cs (fun e => hk (by rw [h, e]))⟩
theorem grown_trans {w u v : World} {r : Option Nat} (h : w.grownBy u r) (k : u.grownBy v r) : w.grownBy v r := ⟨k.os.trans h.os, k.tape.trans h.tape, k.output.trans h.output, Nat.le_trans h.size k.size, fun i hi hr => (k.block i (Nat.lt_of_lt_of_le hi h.size) hr).trans (h.block i hi hr)⟩
theorem grown_below {w u : World} {r : Option Nat} (h : Below w.heap.size w u) : w.grownBy u r := ⟨h.os, h.tape, h.output, h.size, fun i hi _ => h.block i hi⟩
set_option maxRecDepth 1000000 in
set_option maxHeartbeats 6400000 in
theorem pinsS_any {w : World} {B g n cap k vb : Nat} {X : List Fg} {cur : Array Value} {f : Fg} (hn : X.length = n) (hk : k < n) (hroom : n + 1 ≤ cap) (hcap : cap ≤ maxLen) (hB : B ≤ g) (hg : w.heap[g]? = some (.cells cur 104 (0, 0))) (hcs : cur.size = cap * 2) (hc : cur.toList.take (n * 2) = flatFg X) (hvb : w.heap[vb]? = some (.cells #[.string f.t.nm, .iface f.ty f.pv] 104)) (hne : vb ≠ g) (hX : n ≤ 4000) :
    Calls Tryd.prog 40 #[.slice (some ⟨g, 0, none⟩) n cap, .int .i64 (k : Nat), .slice (some ⟨vb, 0, none⟩) 1 1] w (InPost B (.slice (some ⟨g, 0, none⟩) n cap) X k f w) := by
  obtain ⟨R1, hR1⟩ : ∃ R1, R1 = cur.toList.take ((k + 1) * 2) ++ flatFg (X.drop k) ++ cur.toList.drop ((k + 1) * 2 + (flatFg (X.drop k)).length) := ⟨_, rfl⟩
  obtain ⟨s1, s2, s3⟩ := shift_row f hn hk hc (m := cap * 2) (by simpa using hcs) (by omega) R1 hR1
  have hD : (flatFg (X.drop k)).length = (n - k) * 2 := by rw [flatFg_length, List.length_drop, hn]
  have hgl : g < w.heap.size := ltB hg
  have hvl : vb < w.heap.size := ltB hvb
  have hcpA : ∀ (u : World), u.heap[g]? = w.heap[g]? → ∀ ty, (Builtin.copy_ #[94, 94] ty #[.slice (some ⟨g, (k + 1) * 2, none⟩) (n - k) (cap - (k + 1)), .slice (some ⟨g, k * 2, none⟩) (n + 1 - k) (cap - k)]).run Tryd.prog u = .ok (goInt ((n - k : Nat) : Int)) (u.setRow g R1.toArray) := fun u hu ty => by
    rw [hR1]
    refine run_copy_two u 94 94 ty 104 g ((k + 1) * 2) (n - k) (cap - (k + 1)) ⟨g, k * 2, none⟩ (n + 1 - k) (cap - k) (n - k) cur 104 (flatFg (X.drop k)) Tryd.underlying94 sizeFg (hu.trans hg) (by show min (n + 1 - k) (n - k) = n - k; omega) hD (fun j v hj => ?_) (by rw [hD, hcs]; omega) (flatFg_one _)
    rw [add_pl2]
    rw [flatFg_drop, List.getElem?_drop, ← hc, List.getElem?_take] at hj
    split at hj
    · simp only [World.cell?, hu.trans hg]
      simpa using hj
    · cases hj
  have hR1g : ∀ u : World, u.heap[g]? = w.heap[g]? → (u.setRow g R1.toArray).heap[g]? = some (.cells R1.toArray 104 (0, 0)) := fun u hu => setRow_heap u g cur _ _ _ (hu.trans hg)
  have hcpB : ∀ (u : World), u.heap[g]? = w.heap[g]? → u.heap[vb]? = w.heap[vb]? → ∀ ty, (Builtin.copy_ #[94, 94] ty #[.slice (some ⟨g, k * 2, none⟩) (n + 1 - k) (cap - k), .slice (some ⟨vb, 0, none⟩) 1 1]).run Tryd.prog (u.setRow g R1.toArray) = .ok (goInt 1) ((u.setRow g R1.toArray).setRow g (R1.take (k * 2) ++ valFg f ++ R1.drop (k * 2 + (valFg f).length)).toArray) := fun u hu hu2 ty => by
    refine run_copy_two (u.setRow g R1.toArray) 94 94 ty 104 g (k * 2) (n + 1 - k) (cap - k) ⟨vb, 0, none⟩ 1 1 1 R1.toArray 104 (valFg f) Tryd.underlying94 sizeFg (hR1g u hu) (by show min 1 (n + 1 - k) = 1; omega) rfl (fun j v hj => ?_) (by show k * 2 + 2 ≤ R1.toArray.size; simp only [List.size_toArray]; omega) (flatFg_one [f])
    rw [add_pl2, Nat.zero_add]
    simp only [World.cell?, row_otG u g vb _ (fun e => hne e.symm), hu2, hvb]
    rcases j with _ | _ | j
    · exact hj
    · exact hj
    · simp [valFg] at hj
  have hov : ∀ lb cb, (callFunc 63 #[.slice (some ⟨vb, 0, none⟩) 1 1, .slice (some ⟨g, (k + 1) * 2, none⟩) lb cb]).run Tryd.prog w = .ok (.value (.bool false)) w := fun lb cb => by
    rw [run_callFunc_extern Tryd.func63 (by kernel_rfl) (by kernel_rfl) (by kernel_rfl) (e := Extern.SlicesOverlaps.overlaps #[94, 94] #[4]) (by kernel_rfl),
      Lib.run_overlaps_apart w 94 4 104 Tryd.underlying94 2 (fun u => Tryd.sizeOf104 u) ⟨vb, 0, none⟩ ⟨g, (k + 1) * 2, none⟩ 1 1 lb cb hne 104 104 2 (cap * 2) (by simp [World.shape?, hvb]) (by simp [World.shape?, hg, hcs]) (by omega) (by simp [World.frozen?, hvb]) (by simp [World.frozen?, hvb])]
    rfl
  have HP : HeldR (∀ u : World, u.heap[g]? = w.heap[g]? → Below w.heap.size w u → InPost B (.slice (some ⟨g, 0, none⟩) n cap) X k f w (.returned (.slice (some ⟨g, 0, none⟩) (n + 1) cap)) ((u.setRow g R1.toArray).setRow g (R1.take (k * 2) ++ valFg f ++ R1.drop (k * 2 + (valFg f).length)).toArray)) := hideR (fun u hu hb => by
    refine ⟨⟨_, rfl, ?_, .inr ⟨g, cap, (R1.take (k * 2) ++ valFg f ++ R1.drop (k * 2 + (valFg f).length)).toArray, by rw [hn], hB, setRow_heap _ g _ _ _ _ (hR1g u hu), by omega, hcap, by simpa using s2, by rw [hn]; simpa using s3⟩⟩, grown_trans (grown_below hb) (grown_trans (grown_row _ rfl) (grown_row _ rfl))⟩
    rw [flatFg_length, insF_len X (by omega)])
  generalize InPost B (.slice (some ⟨g, 0, none⟩) n cap) X k f w = POST at *
  generalize (R1.take (k * 2) ++ valFg f ++ R1.drop (k * 2 + (valFg f).length)).toArray = R2A at *
  generalize R1.toArray = R1A at *
  have HcA := hideR hcpA
  have HcB := hideR hcpB
  clear hR1 s1 s2 s3 hD hc hcpA hcpB hR1g hvb hg hcs
  have hk1 : (k : Int) ≤ (n : Int) := by omega
  have hkn : ((k : Int) == (n : Int)) = false := beq_eq_false_iff_ne.2 (by omega)
  have hkn2 : ((n : Int) == (k : Int)) = false := beq_eq_false_iff_ne.2 (by omega)
  have hkn3 : ¬ ((k : Int) = (n : Int)) := by omega
  have hcap1 : decide ((cap : Int) < (n : Int) + 1) = false := decide_eq_false (by omega)
  have w1 : IntKind.i64.wrap ((n : Int) + 1) = (n : Int) + 1 := iwrap (by omega) (by omega)
  have w2 : IntKind.i64.wrap ((k : Int) + 1) = (k : Int) + 1 := iwrap (by omega) (by omega)
  unfold maxLen at hcap
  have c1 : ¬ (cap = k) := by omega
  have c2 : ¬ (cap = k + 1) := by omega
  have b1 : (0 : Int) ≤ (n : Int) + 1 := by omega
  have b2 : (n : Int) + 1 ≤ (cap : Int) := by omega
  have b3 : (0 : Int) ≤ (k : Int) + 1 := by omega
  have b4 : (k : Int) + 1 ≤ (n : Int) + 1 := by omega
  have b5 : (k : Int) ≤ (n : Int) + 1 := by omega
  have tn1 : ((n : Int) + 1).toNat = n + 1 := by omega
  have tk1 : ((k : Int) + 1).toNat = k + 1 := by omega
  go_enter Tryd.func40, Tryd.ntmps40
  go_upto_region 15 with fail
  refine wp_region_made 0 #[true, true, true, true, true, true, true, true, false] [.lets (· = .slice (some ⟨g, 0, none⟩) (n + 1) cap),
    .lets (· = .int .i64 (k : Nat)),
    .lets (· = .int .i64 1),
    .lets (· = .int .i64 ((k : Nat) + 1)),
    .lets (· = .slice (some ⟨g, (k + 1) * 2, none⟩) (n - k) (cap - (k + 1))),
    .lets (· = .slice (some ⟨g, 0, none⟩) (n + 1) cap),
    .lets (· = .int .i64 (k : Nat)),
    .lets (· = .slice (some ⟨g, k * 2, none⟩) (n + 1 - k) (cap - k))] [] [] (by kernel_rfl) (by kernel_rfl) rfl ?kinds (by kernel_rfl) (by kernel_rfl) (by kernel_rfl) ?_
  case kinds =>
    constructor
    · intro i h
      rcases i with _ | _ | _ | _ | _ | _ | _ | _ | i <;> simp [Kx.isMade] at h
    · intro i h
      rcases i with _ | _ | _ | _ | _ | _ | _ | _ | i <;> simp [Kx.isUse] at h
  refine lexX_step (fun K hK => ⟨by kernel_rfl, ⟨_, rfl⟩, fun v hv => ?_, fun v hv => ?_⟩)
  · go_simp
    exact mUpon_b
  subst hv
  go_simp
  refine hK _ ?_
  clear hK K
  refine lexX_step (fun K hK => ⟨by kernel_rfl, ⟨_, rfl⟩, fun v hv => ?_, fun v hv => ?_⟩)
  · go_simp
    exact mUpon_b
  subst hv
  go_simp
  refine hK _ ?_
  clear hK K
  refine lexX_step (fun K hK => ⟨by kernel_rfl, ⟨_, rfl⟩, fun v hv => ?_, fun v hv => ?_⟩)
  · go_simp
    exact mUpon_b
  subst hv
  go_simp
  refine hK _ ?_
  clear hK K
  refine lexX_step (fun K hK => ⟨by kernel_rfl, ⟨_, rfl⟩, fun v hv => ?_, fun v hv => ?_⟩)
  · go_simp
    exact mUpon_b
  subst hv
  go_simp
  refine hK _ ?_
  clear hK K
  refine lexX_step (fun K hK => ⟨by kernel_rfl, ⟨_, rfl⟩, fun v hv => ?_, fun v hv => ?_⟩)
  · go_simp
    exact mUpon_b
  subst hv
  go_simp
  refine hK _ ?_
  clear hK K
  refine lexX_step (fun K hK => ⟨by kernel_rfl, ⟨_, rfl⟩, fun v hv => ?_, fun v hv => ?_⟩)
  · go_simp
    exact mUpon_b
  subst hv
  go_simp
  refine hK _ ?_
  clear hK K
  refine lexX_step (fun K hK => ⟨by kernel_rfl, ⟨_, rfl⟩, fun v hv => ?_, fun v hv => ?_⟩)
  · go_simp
    exact mUpon_b
  subst hv
  go_simp
  refine hK _ ?_
  clear hK K
  refine lexX_step (fun K hK => ⟨by kernel_rfl, ⟨_, rfl⟩, fun v hv => ?_, fun v hv => ?_⟩)
  · go_simp
    exact mUpon_b
  subst hv
  go_simp
  refine hK _ ?_
  clear hK K
  refine lexX_end (fun v5 hv => ?_)
  have hb5 : v5.heap[g]? = w.heap[g]? := hv.low.block g hgl
  have hb6 : v5.heap[vb]? = w.heap[vb]? := hv.low.block vb hvl
  have hA := unhideR HcA v5 hb5
  have hB2 := unhideR HcB v5 hb5 hb6
  have HQ := hideR (unhideR HP v5 hb5 hv.low)
  clear hv HcA HcB HP hov hb5 hb6
  refine wpAny_step (i := 8) (by kernel_rfl) rfl (by kernel_rfl) (fun K hK => ?_)
  unfold Oper.wp
  go_simp
  refine hK _ _ ?_
  clear hK K
  refine wpAny_end (by kernel_rfl) ?_
  clear hA
  go_wp2
  exact unhideR HQ
set_option maxRecDepth 1000000 in
set_option maxHeartbeats 6400000 in
theorem pinsG_any {w : World} {B g n cap k vb : Nat} {X : List Fg} {cur : Array Value} {f : Fg} (hn : X.length = n) (hk : k < n) (hnc : n ≤ cap) (hroom : cap < n + 1) (hBw : B ≤ w.heap.size) (hg : w.heap[g]? = some (.cells cur 104 (0, 0))) (hc : cur.toList.take (n * 2) = flatFg X) (hvb : w.heap[vb]? = some (.cells #[.string f.t.nm, .iface f.ty f.pv] 104)) (hX : n ≤ 4000) :
    Calls Tryd.prog 40 #[.slice (some ⟨g, 0, none⟩) n cap, .int .i64 (k : Nat), .slice (some ⟨vb, 0, none⟩) 1 1] w (InPost B (.slice (some ⟨g, 0, none⟩) n cap) X k f w) := by
  obtain ⟨i0, hi0, hz0, hzs, hzb⟩ := info_parts infoFg
  have hgl : g < w.heap.size := ltB hg
  have hvl : vb < w.heap.size := ltB hvb
  have hT : (flatFg (X.take k)).length = k * 2 := by rw [flatFg_length, List.length_take, hn, Nat.min_eq_left (by omega)]
  have hD : (flatFg (X.drop k)).length = (n - k) * 2 := by rw [flatFg_length, List.length_drop, hn]
  have hsrc : ∀ (u : World), u.heap[g]? = w.heap[g]? → ∀ o j v, (flatFg X)[o + j]? = some v → u.cell? ⟨g, o + j, none⟩ = some v := fun u hu o j v hj => by
    rw [← hc, List.getElem?_take] at hj
    split at hj
    · simp only [World.cell?, hu.trans hg]
      simpa using hj
    · cases hj
  have hold : (Builtin.firstCells i0.size k (.slice (some ⟨g, 0, none⟩) k cap)).run Tryd.prog w.drew = .ok (flatFg (X.take k)).toArray w.drew := by
    rw [hzs]
    refine run_firstCells_some w.drew 2 k ⟨g, 0, none⟩ k cap (flatFg (X.take k)) hT (fun j v hj => ?_)
    rw [add_pl2]
    rw [flatFg_take, List.getElem?_take] at hj
    split at hj
    · exact hsrc w.drew rfl 0 j v (by rw [Nat.zero_add]; exact hj)
    · cases hj
  obtain ⟨G, hG⟩ : ∃ G, G = grownCap w (n + 1) cap 104 := ⟨_, rfl⟩
  obtain ⟨ROW, hROW⟩ : ∃ ROW : Array Value, ROW = (flatFg (X.take k)).toArray ++ Builtin.zeroCells (Value.agg #[.string ByteArray.empty, .nilIface]).cells (n + 1 - k) ++ Builtin.zeroCells (Value.agg #[.string ByteArray.empty, .nilIface]).cells (G - (n + 1)) := ⟨_, rfl⟩
  have hGn : n + 1 ≤ G := by rw [hG]; exact grownCap_ge w _ _ _
  have hGm : G ≤ maxLen := by rw [hG]; exact grownCap_le_maxLen w _ _ _ (by unfold maxLen; omega)
  have hik : k + (n + 1 - k) = n + 1 := by omega
  have hkk : (n : Int) + 1 - (k : Int) = ((n + 1 - k : Nat) : Int) := by omega
  have hrz : ∀ ty, (Builtin.append_ #[94, 3] ty #[.slice (some ⟨g, 0, none⟩) k cap, .int .i64 ((n : Int) + 1 - (k : Int))]).run Tryd.prog w = .ok (.slice (some ⟨w.heap.size, 0, none⟩) (n + 1) G) (w.drew.alloc (.cells ROW 104)) := fun ty => by
    have h := Lib.run_append_grow_zeros (P := Tryd.prog) w 94 3 ty 104 i0 _ .i64 .i64 Tryd.underlying94 Tryd.underlying3 hi0 hz0 (some ⟨g, 0, none⟩) k cap (flatFg (X.take k)) hold (n + 1 - k) (by omega) (by rw [hzs]; decide) (by omega) (by omega) (by rw [hzb]; omega) (by rw [hzb, hik]; exact growslice_fits hroom (by omega))
    rw [hik] at h
    rw [hkk, hROW, hG]
    exact h
  obtain ⟨Z, hZ, hZl⟩ : ∃ Z, ROW.toList = flatFg (X.take k) ++ Z ∧ ROW.size = G * 2 := by
    refine ⟨(Builtin.zeroCells (Value.agg #[.string ByteArray.empty, .nilIface]).cells (n + 1 - k)).toList ++ (Builtin.zeroCells (Value.agg #[.string ByteArray.empty, .nilIface]).cells (G - (n + 1))).toList, ?_, ?_⟩
    · rw [hROW]
      simp
    · rw [hROW]
      simp [Builtin.zeroCells, Value.cells, hT]
      omega
  clear hROW hold hkk hik hG
  obtain ⟨R1, hR1⟩ : ∃ R1, R1 = (flatFg (X.take k) ++ Z).take (k * 2) ++ valFg f ++ (flatFg (X.take k) ++ Z).drop (k * 2 + (valFg f).length) := ⟨_, rfl⟩
  have hrl : (flatFg (X.take k) ++ Z).length = G * 2 := by rw [← hZ]; simpa using hZl
  obtain ⟨s1, s2, s3⟩ := grow_row f hn hk (Z := Z) (m := G * 2) hrl (by omega) R1 hR1
  have hW1N : (w.alloc (.cells ROW 104)).drew.heap[w.heap.size]? = some (.cells ROW 104 (0, 0)) := alloc_last w _
  have hW1B : Below w.heap.size w (w.alloc (.cells ROW 104)).drew := below_go (below_a w _) (drawn_below _ 1)
  have hcpB : ∀ ty, (Builtin.copy_ #[94, 94] ty #[.slice (some ⟨w.heap.size, k * 2, none⟩) (n + 1 - k) (G - k), .slice (some ⟨vb, 0, none⟩) 1 1]).run Tryd.prog (w.alloc (.cells ROW 104)).drew = .ok (goInt 1) ((w.alloc (.cells ROW 104)).drew.setRow w.heap.size R1.toArray) := fun ty => by
    rw [hR1, ← hZ]
    refine run_copy_two (w.alloc (.cells ROW 104)).drew 94 94 ty 104 w.heap.size (k * 2) (n + 1 - k) (G - k) ⟨vb, 0, none⟩ 1 1 1 ROW 104 (valFg f) Tryd.underlying94 sizeFg hW1N (by show min 1 (n + 1 - k) = 1; omega) rfl (fun j v hj => ?_) (by show k * 2 + 2 ≤ ROW.size; omega) (flatFg_one [f])
    rw [add_pl2, Nat.zero_add]
    simp only [World.cell?, hW1B.block vb hvl, hvb]
    rcases j with _ | _ | j
    · exact hj
    · exact hj
    · simp [valFg] at hj
  have hW2N : ∀ u : World, Below ((w.alloc (.cells ROW 104)).drew.setRow w.heap.size R1.toArray).heap.size ((w.alloc (.cells ROW 104)).drew.setRow w.heap.size R1.toArray) u → u.heap[w.heap.size]? = some (.cells R1.toArray 104 (0, 0)) := fun u hu => keepB (setRow_heap _ _ _ _ _ _ hW1N) hu
  have hW2B : ∀ u : World, Below ((w.alloc (.cells ROW 104)).drew.setRow w.heap.size R1.toArray).heap.size ((w.alloc (.cells ROW 104)).drew.setRow w.heap.size R1.toArray) u → Below w.heap.size w u := fun u hu => by
    have h1 := belowRow hW1B (Nat.le_refl w.heap.size) R1.toArray
    exact h1.trans (hu.mono h1.size)
  have hcpA : ∀ u : World, Below ((w.alloc (.cells ROW 104)).drew.setRow w.heap.size R1.toArray).heap.size ((w.alloc (.cells ROW 104)).drew.setRow w.heap.size R1.toArray) u → ∀ ty, (Builtin.copy_ #[94, 94] ty #[.slice (some ⟨w.heap.size, (k + 1) * 2, none⟩) (n - k) (G - (k + 1)), .slice (some ⟨g, k * 2, none⟩) (n - k) (cap - k)]).run Tryd.prog u = .ok (goInt ((n - k : Nat) : Int)) (u.setRow w.heap.size (R1.take ((k + 1) * 2) ++ flatFg (X.drop k) ++ R1.drop ((k + 1) * 2 + (flatFg (X.drop k)).length)).toArray) := fun u hu ty => by
    refine run_copy_two u 94 94 ty 104 w.heap.size ((k + 1) * 2) (n - k) (G - (k + 1)) ⟨g, k * 2, none⟩ (n - k) (cap - k) (n - k) R1.toArray 104 (flatFg (X.drop k)) Tryd.underlying94 sizeFg (hW2N u hu) (by show min (n - k) (n - k) = n - k; omega) hD (fun j v hj => ?_) (by rw [hD]; simp only [List.size_toArray]; omega) (flatFg_one _)
    rw [add_pl2]
    rw [flatFg_drop, List.getElem?_drop] at hj
    exact hsrc u ((hW2B u hu).block g hgl) (k * 2) j v hj
  have HP : HeldR (∀ u : World, Below ((w.alloc (.cells ROW 104)).drew.setRow w.heap.size R1.toArray).heap.size ((w.alloc (.cells ROW 104)).drew.setRow w.heap.size R1.toArray) u → InPost B (.slice (some ⟨g, 0, none⟩) n cap) X k f w (.returned (.slice (some ⟨w.heap.size, 0, none⟩) (n + 1) G)) (u.setRow w.heap.size (R1.take ((k + 1) * 2) ++ flatFg (X.drop k) ++ R1.drop ((k + 1) * 2 + (flatFg (X.drop k)).length)).toArray)) := hideR (fun u hu => by
    refine ⟨⟨_, rfl, ?_, .inr ⟨w.heap.size, G, (R1.take ((k + 1) * 2) ++ flatFg (X.drop k) ++ R1.drop ((k + 1) * 2 + (flatFg (X.drop k)).length)).toArray, by rw [hn], hBw, setRow_heap _ _ _ _ _ _ (hW2N u hu), by omega, hGm, by simpa using s2, by rw [hn]; simpa using s3⟩⟩, grown_below (belowRow (hW2B u hu) (Nat.le_refl _) _)⟩
    rw [flatFg_length, insF_len X (by omega)])
  generalize InPost B (.slice (some ⟨g, 0, none⟩) n cap) X k f w = POST at *
  generalize (R1.take ((k + 1) * 2) ++ flatFg (X.drop k) ++ R1.drop ((k + 1) * 2 + (flatFg (X.drop k)).length)).toArray = R2A at *
  generalize R1.toArray = R1A at *
  have HcA := hideR hcpA
  unfold maxLen at hGm
  clear hR1 s1 s2 s3 hD hT hc hcpA hW2N hW2B hvb hg hsrc hZ hZl hrl hW1N hW1B hi0 hz0 hzs hzb
  have hk1 : (k : Int) ≤ (n : Int) := by omega
  have hkn : ((k : Int) == (n : Int)) = false := beq_eq_false_iff_ne.2 (by omega)
  have hkn2 : ((n : Int) == (k : Int)) = false := beq_eq_false_iff_ne.2 (by omega)
  have hkn3 : ¬ ((k : Int) = (n : Int)) := by omega
  have hcap1 : decide ((cap : Int) < (n : Int) + 1) = true := decide_eq_true (by omega)
  have w1 : IntKind.i64.wrap ((n : Int) + 1) = (n : Int) + 1 := iwrap (by omega) (by omega)
  have w2 : IntKind.i64.wrap ((k : Int) + 1) = (k : Int) + 1 := iwrap (by omega) (by omega)
  have w3 : IntKind.i64.wrap ((n : Int) + 1 - (k : Int)) = (n : Int) + 1 - (k : Int) := iwrap (by omega) (by omega)
  have c1 : ¬ (cap = k) := by omega
  have c2 : ¬ (G = k + 1) := by omega
  have c3 : ¬ (G = k) := by omega
  have b0 : (k : Int) ≤ (cap : Int) := by omega
  have b3 : (0 : Int) ≤ (k : Int) + 1 := by omega
  have b4 : (k : Int) + 1 ≤ (n : Int) + 1 := by omega
  have b5 : (k : Int) ≤ (n : Int) + 1 := by omega
  have tk1 : ((k : Int) + 1).toNat = k + 1 := by omega
  go_enter Tryd.func40, Tryd.ntmps40
  go_upto_region 11 with (first
    | (at_builtin; refine Lib.wpList_append_run _ rfl _ _ _ _ rfl _ _ rfl rfl _ _ (hrz _) ?_))
  clear hrz hcpB
  generalize (w.alloc (.cells ROW 104)).drew.setRow w.heap.size R1A = W2 at *
  obtain ⟨N, hN⟩ : ∃ N, w.heap.size = N := ⟨_, rfl⟩
  rw [hN] at HcA HP ⊢
  clear hN
  refine wp_region_made 0 #[true, true, true, true, true, true, true, true, false] [.lets (· = .slice (some ⟨N, 0, none⟩) (n + 1) G),
    .lets (· = .int .i64 (k : Nat)),
    .lets (· = .int .i64 1),
    .lets (· = .int .i64 ((k : Nat) + 1)),
    .lets (· = .slice (some ⟨N, (k + 1) * 2, none⟩) (n - k) (G - (k + 1))),
    .lets (· = .slice (some ⟨g, 0, none⟩) n cap),
    .lets (· = .int .i64 (k : Nat)),
    .lets (· = .slice (some ⟨g, k * 2, none⟩) (n - k) (cap - k))] [] [] (by kernel_rfl) (by kernel_rfl) rfl ?kinds (by kernel_rfl) (by kernel_rfl) (by kernel_rfl) ?_
  case kinds =>
    constructor
    · intro i h
      rcases i with _ | _ | _ | _ | _ | _ | _ | _ | i <;> simp [Kx.isMade] at h
    · intro i h
      rcases i with _ | _ | _ | _ | _ | _ | _ | _ | i <;> simp [Kx.isUse] at h
  refine lexX_step (fun K hK => ⟨by kernel_rfl, ⟨_, rfl⟩, fun v hv => ?_, fun v hv => ?_⟩)
  · go_simp
    exact mUpon_b
  subst hv
  go_simp
  refine hK _ ?_
  clear hK K
  refine lexX_step (fun K hK => ⟨by kernel_rfl, ⟨_, rfl⟩, fun v hv => ?_, fun v hv => ?_⟩)
  · go_simp
    exact mUpon_b
  subst hv
  go_simp
  refine hK _ ?_
  clear hK K
  refine lexX_step (fun K hK => ⟨by kernel_rfl, ⟨_, rfl⟩, fun v hv => ?_, fun v hv => ?_⟩)
  · go_simp
    exact mUpon_b
  subst hv
  go_simp
  refine hK _ ?_
  clear hK K
  refine lexX_step (fun K hK => ⟨by kernel_rfl, ⟨_, rfl⟩, fun v hv => ?_, fun v hv => ?_⟩)
  · go_simp
    exact mUpon_b
  subst hv
  go_simp
  refine hK _ ?_
  clear hK K
  refine lexX_step (fun K hK => ⟨by kernel_rfl, ⟨_, rfl⟩, fun v hv => ?_, fun v hv => ?_⟩)
  · go_simp
    exact mUpon_b
  subst hv
  go_simp
  refine hK _ ?_
  clear hK K
  refine lexX_step (fun K hK => ⟨by kernel_rfl, ⟨_, rfl⟩, fun v hv => ?_, fun v hv => ?_⟩)
  · go_simp
    exact mUpon_b
  subst hv
  go_simp
  refine hK _ ?_
  clear hK K
  refine lexX_step (fun K hK => ⟨by kernel_rfl, ⟨_, rfl⟩, fun v hv => ?_, fun v hv => ?_⟩)
  · go_simp
    exact mUpon_b
  subst hv
  go_simp
  refine hK _ ?_
  clear hK K
  refine lexX_step (fun K hK => ⟨by kernel_rfl, ⟨_, rfl⟩, fun v hv => ?_, fun v hv => ?_⟩)
  · go_simp
    exact mUpon_b
  subst hv
  go_simp
  refine hK _ ?_
  clear hK K
  refine lexX_end (fun v5 hv => ?_)
  have hA := unhideR HcA v5 hv.low
  have HQ := hideR (unhideR HP v5 hv.low)
  clear hv HcA HP
  refine wpAny_step (i := 8) (by kernel_rfl) rfl (by kernel_rfl) (fun K hK => ?_)
  unfold Oper.wp
  go_simp
  refine hK _ _ ?_
  clear hK K
  refine wpAny_end (by kernel_rfl) ?_
  clear hA
  go_wp2
  exact unhideR HQ
end Go.Proofs.YtoacdaemhcbbhaaDoor
