/-
  A row of whole numbers that is made and written. An atlas in which no name comes twice; the nearest ones in another atlas: the program's, by contract. Rows of pairs of names; put in order: the program's, by contract.
-/
import Derived.Test.YtfonpobdnhifgamGreatDoorKitA
import Derived.OwnWalk
import Derived.Laws.OwnMore
import Derived.Laws.MakeOwn
import Derived.Test.YtfonpobdnhifgamGreatDoorAtTC
import Derived.Test.YtfonpobdnhifgamGreatDoorAtPwA
import Derived.Test.YtfonpobdnhifgamGreatDoorSortL
import Derived.Test.YtfonpobdnhifgamGreatDoorShelfC
namespace Go.Proofs.YtfonpobdnhifgamGreatDoor
open Go Go.RowKit

def JOwn (w : World) (B : Nat) (v : Value) (C : List Int) : Prop := w.ownsRow B 3 1 v C.length (C.map (Value.int .i64))
theorem JOwn.below {w w' : World} {B : Nat} {v : Value} {C : List Int} (h : JOwn w B v C) (k : Below w.heap.size w w') : JOwn w' B v C := own_below2 h k
theorem infoJ : (Tryz.prog.info? 3).map (fun i => (i.zero, i.size, i.bytes)) = some (some (.int .i64 0), 1, 8) := by kernel_rfl
theorem make_zeroJ {w : World} {n : Nat} (B : Nat) (hB : B ≤ w.heap.size) (hn : n ≤ 65536) : ∃ w', (Instr.makeSlice 91 (.int .i64 (n : Int)) (.int .i64 (n : Int))).run Tryz.prog w = .ok (.slice (some ⟨w.heap.size, 0, none⟩) n n) w' ∧ JOwn w' B (.slice (some ⟨w.heap.size, 0, none⟩) n n) (List.replicate n 0) ∧ Below w.heap.size w w' := by
  obtain ⟨i0, hi0, hz0, hz1, hz2⟩ := info_parts infoJ
  obtain ⟨w', h1, h2, h3⟩ := run_make_full (P := Tryz.prog) w B 91 3 i0 (.int .i64 0) 1 (by kernel_rfl) hi0 hz0 hz1 .i64 .i64 n (by rw [hz2]; omega) (by simp [maxLen]; omega) hB
  refine ⟨w', h1, ?_, (Below.refl _ _).grown h3 (Nat.le_refl _) (fun k hk => by cases hk)⟩
  unfold JOwn
  have e : (madeCells (Value.cells (.int .i64 0)) (n * 1)).toList = (List.replicate n (0 : Int)).map (Value.int .i64) := by
    rw [Nat.mul_one, show (Value.cells (.int .i64 0)) = #[.int .i64 0] from rfl, toList_madeCells_one, List.map_replicate]
  rw [← e, List.length_replicate]
  exact h2
theorem JOwn.has {w : World} {B g n c : Nat} {C : List Int} (h : JOwn w B (.slice (some ⟨g, 0, none⟩) n c) C) (hn : C.length = n) {k : Nat} (hk : k < n) : w.cell? ⟨g, k, none⟩ = some (.int .i64 (C.getD k 0)) ∧ w.frozen? ⟨g, k, none⟩ = false := by
  unfold JOwn at h
  rw [hn] at h
  refine ⟨?_, h.frozenAt k⟩
  rw [h.cellAt k (by rw [Nat.mul_one]; exact hk), List.getElem?_map, List.getElem?_eq_getElem (by omega), List.getD_eq_getElem?_getD, List.getElem?_eq_getElem (by omega)]
  rfl
theorem JOwn.put {w : World} {B g n c : Nat} {C : List Int} (h : JOwn w B (.slice (some ⟨g, 0, none⟩) n c) C) (hn : C.length = n) (k : Nat) (x : Int) : JOwn (w.setCell ⟨g, k, none⟩ (.int .i64 x)) B (.slice (some ⟨g, 0, none⟩) n c) (C.set k x) := by
  unfold JOwn at h ⊢
  rw [hn] at h
  rw [List.length_set, hn, List.map_set]
  exact (h.stored k (.int .i64 x)).1
theorem JOwn.row {w : World} {B g n c : Nat} {C : List Int} (h : JOwn w B (.slice (some ⟨g, 0, none⟩) n c) C) : ICame w (some ⟨g, 0, none⟩) C := by
  obtain ⟨ad, cap, e, hc, _⟩ := own_ints h
  injection e with e
  subst e
  exact hc
end Go.Proofs.YtfonpobdnhifgamGreatDoor
namespace Go.Proofs.YtfonpobdnhifgamGreatDoor
open Go Go.RowKit

def Uni (L : List En) : Prop := ∀ i j, i < L.length → j < L.length → (L.getD i en0).nm = (L.getD j en0).nm → i = j
def URep (w : World) (p : Nat) (lv : Int) (L : List En) (O : Nat → Prop) (sn : Int) : Prop := ARep w p lv L O sn ∧ Uni L
theorem uni_add {e : En} {L : List En} (h : Uni L) (hE : adE e L = 0) : Uni (L ++ [e]) := by
  have hh : hadV e L L.length = false := by
    unfold adE at hE
    cases q : hadV e L L.length
    · rfl
    · rw [q, if_pos rfl] at hE
      cases hE
  have hn : ∀ k, k < L.length → (L.getD k en0).nm ≠ e.nm := by
    have key : ∀ m, hadV e L m = false → ∀ k, k < m → (L.getD k en0).nm ≠ e.nm := by
      intro m
      induction m with
      | zero => intro _ k hk; exact absurd hk (Nat.not_lt_zero k)
      | succ m ih =>
        intro h k hk
        have h : (hadV e L m || ((L.getD m en0).nm.toList == e.nm.toList)) = false := h
        rw [Bool.or_eq_false_iff] at h
        by_cases q : k < m
        · exact ih h.1 k q
        · obtain rfl : k = m := by omega
          intro z
          rw [z] at h
          simp at h
    exact key _ hh
  have g1 : ∀ k, k < L.length → (L ++ [e]).getD k en0 = L.getD k en0 := fun k hk => by
    rw [List.getD_eq_getElem?_getD, List.getElem?_append_left hk, ← List.getD_eq_getElem?_getD]
  have g2 : (L ++ [e]).getD L.length en0 = e := by
    rw [List.getD_eq_getElem?_getD, List.getElem?_append_right (Nat.le_refl _), Nat.sub_self]
    rfl
  intro i j hi hj q
  rw [List.length_append] at hi hj
  simp only [List.length_cons, List.length_nil] at hi hj
  by_cases h1 : i < L.length <;> by_cases h2 : j < L.length
  · rw [g1 i h1, g1 j h2] at q
    exact h i j h1 h2 q
  · obtain rfl : j = L.length := by omega
    rw [g1 i h1, g2] at q
    exact absurd q (hn i h1)
  · obtain rfl : i = L.length := by omega
    rw [g1 j h2, g2] at q
    exact absurd q.symm (hn j h2)
  · omega
theorem eu_prog (a : Nat → Addr) : EnProg a URep where
  low := fun h => arep_low h.1
  keep := fun h k => ⟨arep_keep h.1 k, h.2⟩
  typ := fun h => arep_typ h.1
  new := fun hS l => ((en_prog a).new hS l).mono (fun e w' ⟨h1, h2⟩ => ⟨by
    unfold NewPost at h1 ⊢
    split
    · rename_i q
      rw [if_pos q] at h1
      obtain ⟨p, O, g1, g2, g3⟩ := h1
      exact ⟨p, O, g1, ⟨g2, fun i j hi _ _ => absurd hi (Nat.not_lt_zero i)⟩, g3⟩
    · rename_i q
      rw [if_neg q] at h1
      exact h1, h2⟩)
  add := fun h hS hL e he => ((en_prog a).add h.1 hS hL e he).mono (fun r w' ⟨E, O', g1, g2, g3, g4, g5⟩ => ⟨E, O', g1, g2, ⟨g3, by
    split
    · rename_i q
      exact uni_add h.2 q
    · exact h.2⟩, g4, g5⟩)
  size := fun h hL => (en_prog a).size h.1 hL
def NiPost (w : World) (L M : List En) (e : Ending) (w' : World) : Prop := (∃ g C, e = .returned (.slice (some ⟨g, 0, none⟩) L.length L.length) ∧ C.length = L.length ∧ JOwn w' w.heap.size (.slice (some ⟨g, 0, none⟩) L.length L.length) C ∧ ∀ k, k < L.length → C.getD k 0 = prK L M k) ∧ Below w.heap.size w w'
set_option maxRecDepth 1000000 in
set_option maxHeartbeats 6400000 in
theorem pnin_any {w : World} {p q : Nat} {lv lv2 : Int} {L M : List En} {O Q : Nat → Prop} {sn sm : Int} (hA : ARep w p lv L O sn) (hB : ARep w q lv2 M Q sm) (hU : Uni M) (hM0 : 0 < M.length) (hM : M.length ≤ 200) (hL : L.length ≤ 200) :
    Calls Tryz.prog 36 #[.pointer (some ⟨p, 0, none⟩), .pointer (some ⟨q, 0, none⟩)] w (NiPost w L M) := by
  have HN : HeldR (∀ u, Below w.heap.size w u → ∀ d : Dr, dirB d = true → Calls Tryz.prog 34 #[.pointer (some ⟨q, 0, none⟩), d.val] u fun r w' => (∃ lk, r = .returned (.tuple #[.int .i64 (nbV d M M.length), .int .i64 lk])) ∧ Below u.heap.size u w') := hideR (fun u hu d hd => by
    obtain ⟨sv, bn, bc, es, clock, hx, hO⟩ := arep_keep hB (fun j hj => hu.block j (arep_low hB j hj))
    obtain ⟨ad, cap, esv, hro⟩ := hx.ro
    refine (pnearest_all hro hM hd).mono ?_
    rintro r w' ⟨⟨y, lk, rfl, hC⟩, hb⟩
    exact ⟨⟨lk, by rw [nb_is hx.lvl.1 hx.dir hM0 hU hC]⟩, hb⟩)
  obtain ⟨sv, bn, bc, es, clock, hx, hO⟩ := hA
  obtain ⟨ad, cap, esv, hro⟩ := hx.ro
  subst esv
  have HP : HeldR (∀ u, Below w.heap.size w u → u.heap[p]? = some (.cells #[.int .i64 lv, .slice ad L.length cap, .map (some bn), .map (some bc), .int .i64 sn] 82)) := hideR (fun u hu => keepB hx.hp hu)
  have HS : HeldR (∀ u, Below w.heap.size w u → ∀ k, k < L.length → ∃ b, ad = some ⟨b, 0, none⟩ ∧ StAt u b (k * 4) (L.getD k en0)) := hideR (fun u hu k hk => by
    obtain ⟨b, e, hb, hs⟩ := hro.st k hk
    have c := fun o => World.cell?_of_block (a := ⟨b, o, none⟩) (hu.block b hb)
    exact ⟨b, e, ⟨(c _).trans hs.c0, (c _).trans hs.c1, (c _).trans hs.c2, (c _).trans hs.c3⟩⟩)
  have HD : HeldR (∀ k, k < L.length → dirB (L.getD k en0).d = true) := hideR (fun k hk => getD_dir hro.dir hk)
  have HPo : HeldR (∀ g C w', C.length = L.length → JOwn w' w.heap.size (.slice (some ⟨g, 0, none⟩) L.length L.length) C → (∀ k, k < L.length → C.getD k 0 = prK L M k) → Below w.heap.size w w' → NiPost w L M (.returned (.slice (some ⟨g, 0, none⟩) L.length L.length)) w') := hideR (fun g C w' h1 h2 h3 h4 => ⟨⟨g, C, rfl, h1, h2, h3⟩, h4⟩)
  generalize NiPost w L M = NP at *
  obtain ⟨w1, hmk, hj1, hb1⟩ := make_zeroJ (w := w) (n := L.length) w.heap.size (Nat.le_refl _) (by omega)
  have c0 := (cells_at hx.hp 1 (by simp)).1
  have c1 := (cells_at (unhideR HP w1 hb1) 1 (by simp)).1
  obtain ⟨n, hn⟩ : ∃ n, L.length = n := ⟨_, rfl⟩
  have Hn := hideR hn
  rw [hn] at hL hmk hj1 c0 c1 HPo HS HD HP
  have HJ := hideR hj1
  have HB1 := hideR hb1
  clear hx hO hro hB hj1 hb1 hn hU
  go_enter Tryz.func36, Tryz.ntmps36
  go_wp2_with fail
  clear hmk c0 c1
  go_loopw [19] (fun iv wl => ∃ (i : Nat) (C : List Int), i ≤ n ∧ C.length = n ∧ iv = .int .i64 (i : Nat) ∧ HeldR (∀ k, k < i → C.getD k 0 = prK L M k) ∧ HeldR (JOwn wl w.heap.size (.slice (some ⟨w.heap.size, 0, none⟩) n n) C) ∧ HeldR (Below w.heap.size w wl)) (fun iv _ => n + 1 - (intOf iv).toNat)
  case atStart => exact ⟨0, List.replicate n 0, by omega, by simp, rfl, hideR (fun k hk => absurd hk (Nat.not_lt_zero k)), HJ, HB1⟩
  case round =>
    clear HJ HB1
    obtain ⟨i, C, hi, hC, rfl, HA, HJ, HB⟩ := hrel
    by_cases q1 : i < n
    case neg =>
      obtain rfl : i = n := by omega
      have ti : decide ((i : Int) < (i : Int)) = false := decide_eq_false (by omega)
      have tin : decide (i < i) = false := decide_eq_false (by omega)
      have HQ := hideR (unhideR HPo _ C _ hC (unhideR HJ) (unhideR HA) (unhideR HB))
      clear HA HJ HB HPo HN HS HD HP
      go_wp2
      exact unhideR HQ
    have ti : decide ((i : Int) < (n : Int)) = true := decide_eq_true (by omega)
    have tin : decide (i < n) = true := decide_eq_true q1
    have wi : IntKind.i64.wrap ((i : Int) + 1) = (i : Int) + 1 := iwrap (by omega) (by omega)
    have hii : (i : Int) < (n : Int) := by omega
    obtain ⟨b, had, hSt⟩ := unhideR HS wr (unhideR HB) i q1
    subst had
    have s0 := hSt.c0
    have s1 := hSt.c1
    have s2 := hSt.c2
    have s3 := hSt.c3
    have hd := unhideR HD i q1
    have HK : HeldR (prK L M i = nbV (L.getD i en0).d M M.length) := hideR rfl
    generalize L.getD i en0 = e at *
    have z := alloc_last wr (.cells #[.string e.nm, .int .i64 e.d.x, .int .i64 e.d.y, .int .i64 e.d.z] 89)
    have hba := below_a wr (.cells #[.string e.nm, .int .i64 e.d.x, .int .i64 e.d.y, .int .i64 e.d.z] 89)
    have HB2 := hideR ((unhideR HB).trans (hba.mono (unhideR HB).size))
    have HJ2 := hideR ((unhideR HJ).below hba)
    have hcl := unhideR HN _ (unhideR HB2) e.d hd
    unfold Dr.val at hcl
    have x1 := (cells_at z 1 (by simp)).1
    have x2 := (cells_at z 2 (by simp)).1
    have x3 := (cells_at z 3 (by simp)).1
    clear z hba HJ HB hSt hd
    go_wp2_with fail
    refine hcl.mono ?_
    rintro r u2 ⟨⟨lk, rfl⟩, k2⟩
    have HB3 := hideR ((unhideR HB2).trans (k2.mono (unhideR HB2).size))
    have HJ3 := (unhideR HJ2).below k2
    obtain ⟨j0, j1⟩ := HJ3.has hC q1
    have HJ4 := hideR (HJ3.put hC i (nbV e.d M M.length))
    have HB4 := hideR ((unhideR HB3).setCell (p := ⟨w.heap.size, i, none⟩) (Nat.le_refl _) (.int .i64 (nbV e.d M M.length)))
    have HA4 : HeldR (∀ k, k < i + 1 → (C.set i (nbV e.d M M.length)).getD k 0 = prK L M k) := hideR (fun k hk => by
      by_cases h : k = i
      · subst h
        rw [unhideR HK, List.getD_eq_getElem?_getD, List.getElem?_set_self (by omega)]
        rfl
      · rw [List.getD_eq_getElem?_getD, List.getElem?_set_ne (by omega), ← List.getD_eq_getElem?_getD]
        exact unhideR HA k (by omega))
    have hC2 : (C.set i (nbV e.d M M.length)).length = n := by rw [List.length_set]; exact hC
    clear hcl k2 HB2 HJ2 HJ3 HB3 x1 x2 x3 s0 s1 s2 s3 HA HK
    generalize nbV e.d M M.length = y at *
    go_wp2
    exact ⟨⟨i + 1, _, by omega, hC2, by go_num, HA4, HJ4, HB4⟩, by simp [intOf]; omega⟩
end Go.Proofs.YtfonpobdnhifgamGreatDoor
namespace Go.Proofs.YtfonpobdnhifgamGreatDoor
open Go Go.RowKit Go.Sort Go.Shelf

def valPr (x : Pr2) : List Value := [.string x.1, .string x.2]
def flatPr : List Pr2 → List Value
  | [] => []
  | s :: L => valPr s ++ flatPr L
theorem flatPr_append : ∀ (L M : List Pr2), flatPr (L ++ M) = flatPr L ++ flatPr M
  | [], _ => rfl
  | q :: L, M => by
    show valPr q ++ flatPr (L ++ M) = (valPr q ++ flatPr L) ++ flatPr M
    rw [flatPr_append L M, List.append_assoc]
theorem flatPr_length : ∀ L : List Pr2, (flatPr L).length = L.length * 2
  | [] => rfl
  | q :: L => by
    show (valPr q ++ flatPr L).length = _
    rw [List.length_append, flatPr_length L, List.length_cons]
    simp [valPr]
    omega
theorem flatPr_at : ∀ (L : List Pr2) (j i : Nat), j < L.length → i < 2 → (flatPr L)[j * 2 + i]? = (valPr (L.getD j pr0))[i]?
  | [], j, _, h, _ => absurd h (Nat.not_lt_zero j)
  | q :: L, 0, i, _, hi => by
    show (valPr q ++ flatPr L)[0 * 2 + i]? = _
    rw [Nat.zero_mul, Nat.zero_add, List.getElem?_append_left (by simp [valPr]; omega)]
    rfl
  | q :: L, j + 1, i, h, hi => by
    have e : (j + 1) * 2 + i = (valPr q).length + (j * 2 + i) := by simp [valPr]; omega
    show (valPr q ++ flatPr L)[(j + 1) * 2 + i]? = _
    rw [e, List.getElem?_append_right (by omega), Nat.add_sub_cancel_left, flatPr_at L j i (by simpa using h) hi]
    rfl
theorem flatPr_one : ∀ (L : List Pr2), ∀ u ∈ flatPr L, u.oneCell' = true
  | [], _, h => nomatch h
  | q :: L, u, h => by
    rcases List.mem_append.1 h with h | h
    · simp only [valPr, List.mem_cons, List.not_mem_nil, or_false] at h
      rcases h with rfl | rfl <;> rfl
    · exact flatPr_one L u h
theorem pr_came {w : World} {B : Nat} {v : Value} {L : List Pr2} (h : w.ownsRow B 53 2 v L.length (flatPr L)) : ∃ ad cap, v = .slice ad L.length cap ∧ P2Came w ad L := by
  rcases h.2 with ⟨h1, h2⟩ | ⟨g, cap, cur, e, hB, hg, hc, _, hs, ht⟩
  · obtain rfl : L = [] := List.length_eq_zero_iff.1 h2
    exact ⟨none, 0, h1, ⟨fun k hk => absurd hk (Nat.not_lt_zero k)⟩⟩
  · subst e
    refine ⟨_, cap, rfl, ⟨fun k hk => ⟨g, 0, rfl, ltB hg, ?_, ?_⟩⟩⟩
    · have q := flatPr_at L k 0 hk (by decide)
      rw [← ht, List.getElem?_take, if_pos (by omega)] at q
      rw [Nat.zero_add]
      simp only [World.cell?, hg]
      simpa [valPr] using q
    · have q := flatPr_at L k 1 hk (by decide)
      rw [← ht, List.getElem?_take, if_pos (by omega)] at q
      rw [Nat.zero_add]
      simp only [World.cell?, hg]
      simpa [valPr] using q
theorem cb_neg : ∀ x y : List UInt8, Lib.compareBytes x y < 0 ↔ x < y
  | [], [] => by simp [Lib.compareBytes]
  | [], _ :: _ => by simp [Lib.compareBytes]
  | _ :: _, [] => by simp [Lib.compareBytes]
  | a :: x, b :: y => by
    have ih := cb_neg x y
    unfold Lib.compareBytes
    rw [List.cons_lt_cons_iff]
    split
    · rename_i h
      simp [h]
    · rename_i h
      split
      · rename_i h2
        have : ¬ a = b := fun e => by subst e; exact h h2
        simp [h, this]
      · rename_i h2
        have e : a = b := by
          have h3 := UInt8.not_lt.1 h
          have h4 := UInt8.not_lt.1 h2
          exact UInt8.le_antisymm h4 h3
        subst e
        rw [ih]
        simp
def cfR (x y : Pr2) : Int := Lib.compareBytes x.1.data.toList y.1.data.toList
theorem ltR (x y : Pr2) : ltOf cfR x y = true ↔ x.1.data.toList < y.1.data.toList := by unfold ltOf cfR; rw [decide_eq_true_iff]; exact cb_neg _ _
theorem ltR' (x y : Pr2) : ltOf cfR x y = false ↔ ¬ x.1.data.toList < y.1.data.toList := by
  rw [← ltR]
  simp
theorem swoR : SWO (ltOf cfR) where
  irrefl x := by rw [ltR']; exact List.lt_irrefl _
  trans x y z h1 h2 := by rw [ltR] at *; exact List.lt_trans h1 h2
  ntrans x y z h1 h2 := by
    rw [ltR'] at *
    rw [List.not_lt] at *
    exact List.le_trans h2 h1
set_option maxRecDepth 100000 in
set_option maxHeartbeats 1600000 in
theorem prcmp_any (x y : Pr2) (W : World) : Calls Tryz.prog 40 #[.agg (valPr x).toArray, .agg (valPr y).toArray] W fun e w' => e = .returned (.int .i64 (cfR x y)) ∧ ∃ q os, w' = grow (W.drewN q) os := by
  have hc := fun u => Tryz.strings_Compare x.1 y.1 u
  unfold cfR
  generalize Lib.compareBytes x.1.data.toList y.1.data.toList = c at *
  have ex : (valPr x).toArray = #[.string x.1, .string x.2] := rfl
  have ey : (valPr y).toArray = #[.string y.1, .string y.2] := rfl
  rw [ex, ey]
  generalize x.1 = a0 at *
  generalize x.2 = a1
  generalize y.1 = b0 at *
  generalize y.2 = b1
  have z1 := keepA (o' := .cells #[.string b0, .string b1] 53) (alloc_last W (.cells #[.string a0, .string a1] 53))
  have z2 := alloc_last (W.alloc (.cells #[.string a0, .string a1] 53)) (.cells #[.string b0, .string b1] 53)
  rw [World.size_alloc] at z2
  have x0 := (cells_at z1 0 (by simp)).1
  have y0 := (cells_at z2 0 (by simp)).1
  clear ex ey z1 z2
  go_enter Tryz.func40, Tryz.ntmps40
  go_wp2_with fail
  refine (hc _).mono ?_
  rintro e w' ⟨rfl, rfl⟩
  clear hc
  go_wp2
  go_ret
  exact ⟨rfl, 0, _, by rw [alloc_eq_grow, alloc_eq_grow, grow_grow]; rfl⟩
end Go.Proofs.YtfonpobdnhifgamGreatDoor
