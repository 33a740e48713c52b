/-
  Products and waves: the document's, by contract. Rows of complex numbers in memory: by their parts, and as such.
-/
import Derived.Test.YtngdemhhcablmakDoorShW
import Derived.Test.YtngdemhhcablmakDoorFlK
import Derived.Deep.CutRange
import Derived.OwnWalk
import Derived.Laws.Entries
import Derived.Laws.NewBlocks
namespace Go.Proofs.YtngdemhhcablmakDoor
open Go Go.RowKit

def prV (x : Nat × Nat) : Value := .agg #[.float .f64 x.1, .float .f64 x.2]
theorem below_set2 {w v : World} {b : Nat} (h : Below w.heap.size w v) (hb : w.heap.size ≤ b) (x0 x1 : Value) : Below w.heap.size w ((v.setCell ⟨b, 0, none⟩ x0).setCell ⟨b, 1, none⟩ x1) := (h.setCell hb x0).setCell hb x1
theorem below_3 (w : World) (o1 o2 o3 : Obj) : Below w.heap.size w (((w.alloc o1).alloc o2).alloc o3) := (((Below.refl w.heap.size w).alloc (Nat.le_refl _) o1).alloc (by simp) o2).alloc (by simp; omega) o3
set_option maxRecDepth 100000 in
set_option maxHeartbeats 4000000 in
theorem product_any (x y : Nat × Nat) (w : World) : Calls Tryd.prog 32 #[prV x, prV y] w fun e w' => ∃ r, e = .returned (prV r) ∧ CPr x y r ∧ Below w.heap.size w w' := by
  obtain ⟨x1, x2⟩ := x
  obtain ⟨y1, y2⟩ := y
  unfold prV
  have hsf := fun w a x m => run_store Tryd.prog w a (.float .f64 x) m rfl
  go_enter Tryd.func32, Tryd.ntmps32
  go_wp2_with fail
  refine upon_flt fl_mul ?_
  intro ac n1 h1
  go_wp2_with fail
  refine upon_flt fl_mul ?_
  intro bd n2 h2
  go_wp2_with fail
  refine upon_flt fl_mul ?_
  intro ad n3 h3
  go_wp2_with fail
  refine upon_flt fl_mul ?_
  intro bc n4 h4
  go_wp2_with fail
  refine upon_flt fl_sub ?_
  intro r1 n5 h5
  go_wp2_with fail
  refine upon_flt fl_add ?_
  intro r2 n6 h6
  go_wp2
  simp [bodyPost, results, Tryd.results32, go_sem]
  exact ⟨r1, r2, ⟨rfl, rfl⟩, ⟨ac, bd, ad, bc, h1, h2, h3, h4, h5, h6⟩, below_set2 (below_drewN (below_3 w _ _ _) _) (by omega) _ _⟩
set_option maxRecDepth 100000 in
set_option maxHeartbeats 4000000 in
theorem wave_any (g : Int) (back : Bool) (w : World) : Calls Tryd.prog 33 #[.int .i64 g, .bool back] w fun e w' => e = .returned (prV (waveV g back)) ∧ Below w.heap.size w w' := by
  have hsf := fun w a x m => run_store Tryd.prog w a (.float .f64 x) m rfl
  have hneg : ∀ x v, (Op.unary UnOp.neg (.float .f64 x)).run Tryd.prog v = .ok (.float .f64 (ngB x)) v := fun _ _ => rfl
  have hsc := sinCos_is g (w.alloc (.cells #[.float .f64 0, .float .f64 0] 39))
  unfold waveV prV
  generalize sinV g = sv at *
  generalize cosV g = cv at *
  have hg := alloc_last w (.cells #[.float .f64 0, .float .f64 0] 39)
  have HB0 := hideR (below_a w (.cells #[.float .f64 0, .float .f64 0] 39))
  have HG := hideR hg
  clear hg
  cases back with
  | true =>
    go_enter Tryd.func33, Tryd.ntmps33
    go_wp2_with fail
    refine hsc.mono ?_
    rintro e w2 ⟨rfl, k2⟩
    have HB2 := hideR (below_go (unhideR HB0) k2)
    have hg2 := keepB (unhideR HG) k2
    obtain ⟨K, hK⟩ : ∃ K, w.heap.size = K := ⟨_, rfl⟩
    have hKl : w.heap.size ≤ K := by omega
    have HF := hideR (below_set2 (unhideR HB2) hKl (.float .f64 cv) (.float .f64 sv))
    rw [hK] at hg2 ⊢
    have c0 := (cells_at hg2 0 (by simp)).1
    have c1 := (cells_at hg2 1 (by simp)).1
    have f0 := (cells_at hg2 0 (by simp)).2
    have f1 := (cells_at hg2 1 (by simp)).2
    clear hsc k2 hK hKl HB0 HG HB2 hg2
    go_wp2
    simp [bodyPost, results, Tryd.results33, go_sem, c0, c1]
    exact unhideR HF
  | false =>
    go_enter Tryd.func33, Tryd.ntmps33
    go_wp2_with fail
    refine hsc.mono ?_
    rintro e w2 ⟨rfl, k2⟩
    have HB2 := hideR (below_go (unhideR HB0) k2)
    have hg2 := keepB (unhideR HG) k2
    obtain ⟨K, hK⟩ : ∃ K, w.heap.size = K := ⟨_, rfl⟩
    have hKl : w.heap.size ≤ K := by omega
    have HF := hideR (below_set2 (unhideR HB2) hKl (.float .f64 cv) (.float .f64 (ngB sv)))
    rw [hK] at hg2 ⊢
    have c0 := (cells_at hg2 0 (by simp)).1
    have c1 := (cells_at hg2 1 (by simp)).1
    have f0 := (cells_at hg2 0 (by simp)).2
    have f1 := (cells_at hg2 1 (by simp)).2
    clear hsc k2 hK hKl HB0 HG HB2 hg2
    go_wp2
    simp [bodyPost, results, Tryd.results33, go_sem, c0, c1]
    exact unhideR HF
theorem lengthError_any (n : Int) (w : World) : Calls Tryd.prog 11 #[.int .i64 n] w fun e w' => e = .returned (.int .i64 (if 256 < n then 2 else if n < 1 then 5 else 0)) ∧ w' = w := by
  by_cases h1 : 256 < n
  · have t1 : decide (256 < n) = true := decide_eq_true h1
    rw [if_pos h1]
    go_enter Tryd.func11, Tryd.ntmps11
    go_wp2
    go_ret
    exact ⟨rfl, rfl⟩
  · have t1 : decide (256 < n) = false := decide_eq_false h1
    rw [if_neg h1]
    by_cases h2 : n < 1
    · have t2 : decide (n < 1) = true := decide_eq_true h2
      rw [if_pos h2]
      go_enter Tryd.func11, Tryd.ntmps11
      go_wp2
      go_ret
      exact ⟨rfl, rfl⟩
    · have t2 : decide (n < 1) = false := decide_eq_false h2
      rw [if_neg h2]
      go_enter Tryd.func11, Tryd.ntmps11
      go_wp2
      go_ret
      exact ⟨rfl, rfl⟩
/-- is it a power of two? -/
def twoF : Nat → Nat → Bool
  | 0, n => n == 1
  | f + 1, n => if 1 < n ∧ n % 2 = 0 then twoF f (n / 2) else n == 1
def twoB (n : Nat) : Bool := twoF n n
theorem twoF_more : ∀ {f g n : Nat}, n ≤ f → n ≤ g → twoF f n = twoF g n
  | 0, 0, n, _, _ => rfl
  | 0, g + 1, n, h, _ => by
    obtain rfl : n = 0 := by omega
    rfl
  | f + 1, 0, n, _, h => by
    obtain rfl : n = 0 := by omega
    rfl
  | f + 1, g + 1, n, h1, h2 => by
    unfold twoF
    split
    · exact twoF_more (by omega) (by omega)
    · rfl
theorem twoB_half {n : Nat} (h : 1 < n ∧ n % 2 = 0) : twoB n = twoB (n / 2) := by
  unfold twoB
  obtain ⟨m, rfl⟩ : ∃ m, n = m + 1 := ⟨n - 1, by omega⟩
  rw [twoF, if_pos h]
  exact twoF_more (by omega) (Nat.le_refl _)
theorem twoB_end {n : Nat} (h : ¬ (1 < n ∧ n % 2 = 0)) : twoB n = (n == 1) := by
  unfold twoB
  cases n with
  | zero => rfl
  | succ m => rw [twoF, if_neg h]
theorem twoB_is {n : Nat} (h : twoB n = true) : ∃ d, n = 2 ^ d := by
  induction n using Nat.strongRecOn with
  | ind n ih =>
    by_cases q : 1 < n ∧ n % 2 = 0
    · rw [twoB_half q] at h
      obtain ⟨d, hd⟩ := ih (n / 2) (by omega) h
      exact ⟨d + 1, by rw [Nat.pow_succ, ← hd]; omega⟩
    · rw [twoB_end q] at h
      exact ⟨0, by simpa using h⟩
set_option maxRecDepth 100000 in
theorem isTwo_any (n : Nat) (hn : n ≤ 1000000) (w : World) : Calls Tryd.prog 16 #[.int .i64 (n : Nat)] w fun e w' => e = .returned (.bool (twoB n)) ∧ w' = w := by
  obtain ⟨r, hr⟩ : ∃ r, twoB n = r := ⟨_, rfl⟩
  rw [hr]
  have HR := hideR hr
  clear hr
  go_enter Tryd.func16, Tryd.ntmps16
  go_wp2
  go_loop [0] (fun nv => ∃ m : Nat, m ≤ 1000000 ∧ nv = .int .i64 (m : Nat) ∧ HeldR (twoB m = r)) (fun nv => (intOf nv).toNat)
  case atStart => exact ⟨n, hn, rfl, HR⟩
  case round =>
    obtain ⟨m, hm, rfl, HM⟩ := hrel
    have e1 : (m : Int) % 2 = ((m % 2 : Nat) : Int) := by omega
    have e2 : (m : Int).tmod 2 = ((m % 2 : Nat) : Int) := by rw [Int.tmod_eq_emod_of_nonneg (by omega)]; omega
    have e3 : (m : Int) / 2 = ((m / 2 : Nat) : Int) := by omega
    have e4 : (m : Int).tdiv 2 = ((m / 2 : Nat) : Int) := by rw [Int.tdiv_eq_ediv_of_nonneg (by omega)]; omega
    have w3 : IntKind.i64.wrap ((m / 2 : Nat) : Int) = ((m / 2 : Nat) : Int) := iwrap (by omega) (by omega)
    by_cases q1 : 1 < m
    · have t1 : decide ((1 : Int) < (m : Int)) = true := decide_eq_true (by omega)
      have t1n : decide (1 < m) = true := decide_eq_true q1
      by_cases q2 : m % 2 = 0
      · have HN : HeldR (twoB (m / 2) = r) := hideR (by rw [← twoB_half ⟨q1, q2⟩]; exact unhideR HM)
        obtain ⟨h, hh⟩ : ∃ h, m / 2 = h := ⟨_, rfl⟩
        have hlt : h < m := by omega
        rw [q2] at e1 e2
        rw [hh] at e3 e4 w3 HN
        clear hh HM q2
        go_wp2
        exact ⟨⟨h, by omega, rfl, HN⟩, by simp [intOf]; omega⟩
      · have HE : HeldR (r = (m == 1)) := hideR (by rw [← unhideR HM]; exact twoB_end (fun q => q2 q.2))
        have q3 : m % 2 = 1 := by omega
        rw [q3] at e1 e2
        have t5 : (m == 1) = false := beq_eq_false_iff_ne.2 (by omega)
        have t5i : ((m : Int) == 1) = false := beq_eq_false_iff_ne.2 (by omega)
        clear HM q2 q3 e3 e4 w3
        go_wp2
        rw [unhideR HE]
        go_ret
        exact ⟨by rw [t5]; rfl, rfl⟩
    · have t1 : decide ((1 : Int) < (m : Int)) = false := decide_eq_false (by omega)
      have t1n : decide (1 < m) = false := decide_eq_false q1
      have HE : HeldR (r = (m == 1)) := hideR (by rw [← unhideR HM]; exact twoB_end (fun q => q1 q.1))
      have t5 : ((m : Int) == 1) = (m == 1) := by
        rw [Bool.eq_iff_iff]
        simp
        omega
      clear HM e1 e2 e3 e4 w3
      go_wp2
      rw [unhideR HE]
      go_ret
      exact ⟨rfl, rfl⟩
end Go.Proofs.YtngdemhhcablmakDoor
namespace Go.Proofs.YtngdemhhcablmakDoor
open Go Go.RowKit

structure PrAt (w : World) (b o : Nat) (s : Nat × Nat) : Prop where
  c0 : w.cell? ⟨b, o, none⟩ = some (.float .f64 s.1)
  c1 : w.cell? ⟨b, o + 1, none⟩ = some (.float .f64 s.2)
theorem PrAt.below {w v : World} {b o B : Nat} {s : Nat × Nat} (h : PrAt w b o s) (k : Below B w v) (hb : b < B) : PrAt v b o s :=
  ⟨(k.cell hb).trans h.c0, (k.cell hb).trans h.c1⟩
structure PrCame (w : World) (ad : Option Addr) (L : List (Nat × Nat)) : Prop where
  at_ : ∀ k, k < L.length → ∃ b off, ad = some ⟨b, off, none⟩ ∧ b < w.heap.size ∧ PrAt w b (off + k * 2) (L.getD k (0, 0))
theorem PrCame.below {w v : World} {ad : Option Addr} {L : List (Nat × Nat)} (h : PrCame w ad L) (k : Below w.heap.size w v) : PrCame v ad L := ⟨fun j hj => by
  obtain ⟨b, off, e, hb, h1⟩ := h.at_ j hj
  exact ⟨b, off, e, Nat.lt_of_lt_of_le hb k.size, h1.below k hb⟩⟩
theorem PrCame.nil (w : World) (ad : Option Addr) : PrCame w ad [] := ⟨fun k hk => absurd hk (Nat.not_lt_zero k)⟩
def valPr (s : Nat × Nat) : List Value := [.float .f64 s.1, .float .f64 s.2]
def flatPr : List (Nat × Nat) → List Value
  | [] => []
  | s :: L => valPr s ++ flatPr L
theorem flatPr_append : ∀ (L M : List (Nat × Nat)), flatPr (L ++ M) = flatPr L ++ flatPr M
  | [], _ => rfl
  | q :: L, M => by
    show valPr q ++ flatPr (L ++ M) = (valPr q ++ flatPr L) ++ flatPr M
    rw [flatPr_append L M, List.append_assoc]
theorem flatPr_length : ∀ L : List (Nat × Nat), (flatPr L).length = L.length * 2
  | [] => rfl
  | q :: L => by
    show (valPr q ++ flatPr L).length = _
    rw [List.length_append, flatPr_length L, List.length_cons]
    simp [valPr]
    omega
theorem flatPr_at : ∀ (L : List (Nat × Nat)) (j i : Nat), j < L.length → i < 2 → (flatPr L)[j * 2 + i]? = (valPr (L.getD j (0, 0)))[i]?
  | [], j, i, h, _ => absurd h (Nat.not_lt_zero j)
  | q :: L, 0, i, _, hi => by
    show (valPr q ++ flatPr L)[0 * 2 + i]? = _
    rw [Nat.zero_mul, Nat.zero_add, List.getElem?_append_left (by simp [valPr]; omega)]
    rfl
  | q :: L, j + 1, i, h, hi => by
    show (valPr q ++ flatPr L)[(j + 1) * 2 + i]? = _
    rw [List.getElem?_append_right (by simp [valPr]; omega)]
    have e : (j + 1) * 2 + i - (valPr q).length = j * 2 + i := by simp [valPr]; omega
    rw [e, flatPr_at L j i (by simpa using h) hi]
    rfl
theorem flatPr_one (L : List (Nat × Nat)) : ∀ u ∈ flatPr L, u.oneCell' = true := by
  induction L with
  | nil => intro u hu; cases hu
  | cons q L ih =>
    intro u hu
    rcases List.mem_append.1 (show u ∈ valPr q ++ flatPr L from hu) with h | h
    · simp only [valPr, List.mem_cons, List.not_mem_nil, or_false] at h
      rcases h with rfl | rfl <;> rfl
    · exact ih u h
theorem Prat_of {w : World} {b o : Nat} {s : Nat × Nat} (h : ∀ i, i < 2 → w.cell? ⟨b, o + i, none⟩ = (valPr s)[i]?) : PrAt w b o s :=
  ⟨h 0 (by decide), h 1 (by decide)⟩
theorem PrAt.all {w : World} {b o : Nat} {s : Nat × Nat} (h : PrAt w b o s) : ∀ i, i < 2 → w.cell? ⟨b, o + i, none⟩ = (valPr s)[i]? := by
  intro i hi
  rcases (show i = 0 ∨ i = 1 by omega) with rfl | rfl
  · exact h.c0
  · exact h.c1
theorem Prcame_cells {w : World} {a0 : Addr} {L : List (Nat × Nat)} (h : PrCame w (some a0) L) : ∀ j u, (flatPr L)[j]? = some u → w.cell? (a0.add j) = some u := by
  intro j u hu
  have hj : j < L.length * 2 := by
    have := (List.getElem?_eq_some_iff.1 hu).1
    rwa [flatPr_length] at this
  obtain ⟨b, off, e, _, hat⟩ := h.at_ (j / 2) (by omega)
  cases e
  have e1 : j = j / 2 * 2 + j % 2 := by omega
  have h2 := hat.all (j % 2) (by omega)
  rw [← flatPr_at L (j / 2) (j % 2) (by omega) (by omega), ← e1, hu] at h2
  have e2 : off + j / 2 * 2 + j % 2 = off + j := by omega
  rw [add_pl2, ← e2]
  exact h2
theorem Prown {w : World} {B : Nat} {t : TypeId} {v : Value} {L : List (Nat × Nat)} (h : w.ownsRow B t 2 v L.length (flatPr L)) : ∃ ad cap, v = .slice ad L.length cap ∧ PrCame w ad L := by
  obtain ⟨_, h⟩ := h
  rcases h with ⟨h1, h2⟩ | ⟨g, cap, cur, rfl, hB, hg, hc, _, hs, ht⟩
  · have e : L = [] := List.length_eq_zero_iff.1 h2
    subst e
    exact ⟨none, 0, h1, PrCame.nil _ _⟩
  · refine ⟨_, cap, rfl, ⟨fun j hj => ⟨g, 0, rfl, (Array.getElem?_eq_some_iff.1 hg).1, ?_⟩⟩⟩
    refine Prat_of (fun i hi => ?_)
    rw [← flatPr_at L j i hj hi, ← ht, List.getElem?_take, if_pos (by omega)]
    simp only [World.cell?, hg]
    simp
def Przv : Value := .agg #[.float .f64 0, .float .f64 0]
theorem Prtake {L : List (Nat × Nat)} {k : Nat} (h : k < L.length) : L.take (k + 1) = L.take k ++ [L.getD k (0, 0)] := by
  rw [List.take_add_one, List.getElem?_eq_getElem h, List.getD_eq_getElem?_getD, List.getElem?_eq_getElem h]
  rfl
/-- a row of complex numbers that came in. -/
structure CxCame (w : World) (ad : Option Addr) (L : List (Nat × Nat)) : Prop where
  at_ : ∀ k, k < L.length → ∃ b off, ad = some ⟨b, off, none⟩ ∧ b < w.heap.size ∧ w.cell? ⟨b, off + k, none⟩ = some (.complex .f64 (L.getD k (0, 0)).1 (L.getD k (0, 0)).2)
theorem CxCame.below {w v : World} {ad : Option Addr} {L : List (Nat × Nat)} (h : CxCame w ad L) (k : Below w.heap.size w v) : CxCame v ad L := ⟨fun j hj => by
  obtain ⟨b, off, e, hb, h1⟩ := h.at_ j hj
  exact ⟨b, off, e, Nat.lt_of_lt_of_le hb k.size, (k.cell hb).trans h1⟩⟩
theorem CxCame.nil (w : World) (ad : Option Addr) : CxCame w ad [] := ⟨fun k hk => absurd hk (Nat.not_lt_zero k)⟩
def cxV (x : Nat × Nat) : Value := .complex .f64 x.1 x.2
/-- a row of complex numbers that was made. -/
def CxOwn (w : World) (B : Nat) (v : Value) (L : List (Nat × Nat)) : Prop := w.ownsRow B 41 1 v L.length (L.map cxV)
theorem CxOwn.below {w w' : World} {B : Nat} {v : Value} {L : List (Nat × Nat)} (h : CxOwn w B v L) (k : Below w.heap.size w w') : CxOwn w' B v L := own_below2 h k
theorem cx_nil (w : World) (B : Nat) : CxOwn w B (.slice none 0 0) [] := World.ownsRow_nil _ _ _ _
theorem CxOwn.came {w : World} {B : Nat} {v : Value} {L : List (Nat × Nat)} (h : CxOwn w B v L) : ∃ ad cap, v = .slice ad L.length cap ∧ CxCame w ad L := by
  unfold CxOwn at h
  rcases h.2 with ⟨h1, h2⟩ | ⟨g, cap, cur, rfl, hB, hg, hc, _, hs, ht⟩
  · have e : L = [] := List.length_eq_zero_iff.1 h2
    subst e
    exact ⟨none, 0, h1, CxCame.nil _ _⟩
  · refine ⟨_, cap, rfl, ⟨fun j hj => ⟨g, 0, rfl, (Array.getElem?_eq_some_iff.1 hg).1, ?_⟩⟩⟩
    have := h.cellAt j (by rw [Nat.mul_one]; exact hj)
    rw [Nat.zero_add, this, List.getElem?_map, List.getElem?_eq_getElem hj, List.getD_eq_getElem?_getD, List.getElem?_eq_getElem hj]
    rfl
end Go.Proofs.YtngdemhhcablmakDoor
