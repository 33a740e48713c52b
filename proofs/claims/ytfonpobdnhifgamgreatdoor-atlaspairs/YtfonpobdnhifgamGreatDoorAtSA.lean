/-
  Parts of the sky in a row; how two are held against each other. Parts of the sky put in order one by one: slices.insertionSortCmpFunc, by contract. slices.SortStableFunc over few parts, by contract.
-/
import Derived.Test.YtfonpobdnhifgamGreatDoorAtND
import Derived.Laws.CopyRow
import Derived.Shelf.SlicesQ.Load
import Derived.Shelf.SlSortCmp.ReverseRangeK
import Derived.BigQuiet
namespace Go.Proofs.YtfonpobdnhifgamGreatDoor
open Go Go.RowKit

structure Pt where
  s : Sq
  c : Co
def pt0 : Pt := ⟨⟨0, 0, 0, 0⟩, co0⟩
def valPt (p : Pt) : List Value := [.int .i64 p.s.f, .int .i64 p.s.l, .int .i64 p.s.c, .int .i64 p.s.r, .int .i64 p.c.sg, .int .u64 (ohV p.c), .int .u64 (olV p.c), .int .i64 p.c.un]
theorem valPt_one (p : Pt) : ∀ u ∈ valPt p, u.oneCell' = true := by
  intro u q
  simp only [valPt, List.mem_cons, List.not_mem_nil, or_false] at q
  rcases q with rfl | rfl | rfl | rfl | rfl | rfl | rfl | rfl <;> rfl
def flatP : List Pt → List Value
  | [] => []
  | s :: l => valPt s ++ flatP l
theorem flatP_append : ∀ (L M : List Pt), flatP (L ++ M) = flatP L ++ flatP M
  | [], M => rfl
  | s :: l, M => by
    show valPt s ++ flatP (l ++ M) = (valPt s ++ flatP l) ++ flatP M
    rw [flatP_append l M, List.append_assoc]
theorem flatP_length : ∀ L : List Pt, (flatP L).length = L.length * 8
  | [] => rfl
  | s :: l => by
    show (valPt s ++ flatP l).length = (l.length + 1) * 8
    rw [List.length_append, flatP_length l]
    show 8 + l.length * 8 = _
    omega
theorem flatP_at : ∀ (L : List Pt) (R : List Value) (j i : Nat), j < L.length → i < 8 → (flatP L ++ R)[j * 8 + i]? = (valPt (L.getD j pt0))[i]?
  | [], _, j, _, h, _ => absurd h (Nat.not_lt_zero j)
  | s :: l, R, 0, i, _, hi => by
    show ((valPt s ++ flatP l) ++ R)[0 * 8 + i]? = (valPt s)[i]?
    rw [List.append_assoc, Nat.zero_mul, Nat.zero_add, List.getElem?_append_left (by show i < 8; exact hi)]
  | s :: l, R, j + 1, i, h, hi => by
    have ih := flatP_at l R j i (by simpa using h) hi
    show ((valPt s ++ flatP l) ++ R)[(j + 1) * 8 + i]? = _
    rw [List.append_assoc, List.getElem?_append_right (by show 8 ≤ _; omega)]
    have e : (j + 1) * 8 + i - (valPt s).length = j * 8 + i := by show (j + 1) * 8 + i - 8 = _; omega
    rw [e, ih]
    rfl
theorem flatP_set : ∀ (L : List Pt) (R : List Value) (j : Nat) (q : Pt), j < L.length → (flatP L ++ R).take (j * 8) ++ valPt q ++ (flatP L ++ R).drop (j * 8 + 8) = flatP (L.set j q) ++ R
  | [], _, j, _, h => absurd h (Nat.not_lt_zero j)
  | s :: l, R, 0, q, _ => by
    show ((valPt s ++ flatP l) ++ R).take (0 * 8) ++ valPt q ++ ((valPt s ++ flatP l) ++ R).drop (0 * 8 + 8) = (valPt q ++ flatP l) ++ R
    rw [Nat.zero_mul, List.take_zero, List.nil_append, Nat.zero_add, List.append_assoc (valPt s), List.drop_left' (show (valPt s).length = 8 from rfl), List.append_assoc]
  | s :: l, R, j + 1, q, h => by
    have ih := flatP_set l R j q (by simpa using h)
    show ((valPt s ++ flatP l) ++ R).take ((j + 1) * 8) ++ valPt q ++ ((valPt s ++ flatP l) ++ R).drop ((j + 1) * 8 + 8) = (valPt s ++ flatP (l.set j q)) ++ R
    have e1 : (j + 1) * 8 = 8 + j * 8 := by omega
    have e2 : 8 + j * 8 + 8 = 8 + (j * 8 + 8) := by omega
    rw [List.append_assoc (valPt s), List.append_assoc (valPt s), ← ih, e1, e2, ← List.drop_drop, List.drop_left' (show (valPt s).length = 8 from rfl), List.take_append, List.take_of_length_le (show (valPt s).length ≤ 8 + j * 8 by show 8 ≤ _; omega)]
    rw [show 8 + j * 8 - (valPt s).length = j * 8 by show 8 + j * 8 - 8 = _; omega]
    simp only [List.append_assoc]
/-- a row of parts that is being put in order. -/
structure PSo (w0 : World) (blk : Nat) (R : List Value) (L : List Pt) (W : World) : Prop where
  hp : W.heap[blk]? = some (.cells (flatP L ++ R).toArray 139)
  oth : Oth (· = blk) w0 W
theorem PSo.bel {w0 : World} {blk : Nat} {R : List Value} {L : List Pt} {W V : World} (h : PSo w0 blk R L W) (k : Below W.heap.size W V) : PSo w0 blk R L V := ⟨keepB h.hp k, h.oth.bel k⟩
theorem PSo.drew {w0 : World} {blk : Nat} {R : List Value} {L : List Pt} {W : World} (h : PSo w0 blk R L W) : PSo w0 blk R L W.drew := ⟨h.hp, h.oth.os, h.oth.tape, h.oth.output, h.oth.size, h.oth.block⟩
theorem PSo.load {w0 : World} {blk : Nat} {R : List Value} {L : List Pt} {W : World} (h : PSo w0 blk R L W) {j k : Nat} (hj : j < L.length) (hk : k = 8) : Sem.run Tryz.prog (loadCellsFrom ⟨blk, j * k, none⟩ 0 k #[]) W = .ok (valPt (L.getD j pt0)).toArray W := by
  subst hk
  refine run_loadCellsFrom_list Tryz.prog W ⟨blk, j * 8, none⟩ (valPt (L.getD j pt0)) 8 rfl (fun i v hv => ?_)
  have hi : i < 8 := by
    have := (List.getElem?_eq_some_iff.1 hv).1
    exact this
  rw [add_plS]
  have := flatP_at L R j i hj hi
  rw [← this] at hv
  show W.cell? ⟨blk, j * 8 + i, none⟩ = some v
  simp only [World.cell?, h.hp]
  simp only [Option.isSome_none, Bool.false_eq_true, if_false]
  rw [List.getElem?_toArray]
  exact hv
theorem setRow_oth (w : World) (g b : Nat) (cs : Array Value) (h : b ≠ g) : (w.setRow g cs).heap[b]? = w.heap[b]? := by
  unfold World.setRow
  simp only
  rw [Array.getElem?_modify, if_neg (fun e => h e.symm)]
theorem PSo.set {w0 : World} {blk : Nat} {R : List Value} {L M : List Pt} {W : World} (h : PSo w0 blk R L W) : PSo w0 blk R M (W.setRow blk (flatP M ++ R).toArray) :=
  ⟨setRow_heap W blk _ _ _ _ h.hp, h.oth.os, h.oth.tape, h.oth.output, by show _ ≤ (W.heap.modify _ _).size; rw [Array.size_modify]; exact h.oth.size, fun k hk hO => (setRow_oth W blk k _ hO).trans (h.oth.block k hk hO)⟩
theorem PSo.store {w0 : World} {blk : Nat} {R : List Value} {L : List Pt} {W : World} (h : PSo w0 blk R L W) {j k : Nat} (hj : j < L.length) (hk : k = 8) (q : Pt) : Sem.run Tryz.prog (storeCells ⟨blk, j * k, none⟩ (valPt q) 0) W = .ok () (W.setRow blk (flatP (L.set j q) ++ R).toArray) := by
  subst hk
  have := run_storeCells_at (P := Tryz.prog) blk (j * 8) 139 (valPt q) 0 _ W h.hp (by
    show j * 8 + 0 + 8 ≤ (flatP L ++ R).length
    rw [List.length_append, flatP_length]
    omega) (valPt_one q)
  rw [this]
  simp only [Nat.add_zero]
  rw [show (valPt q).length = 8 from rfl, flatP_set L R j q hj]
set_option maxRecDepth 100000 in
set_option maxHeartbeats 3200000 in
theorem porder_any (p q : Pt) (hp : p.c.Sm) (hq : q.c.Sm) (w : World) : Calls Tryz.prog 114 #[.agg (valPt p).toArray, .agg (valPt q).toArray] w fun r w' => r = .returned (.int .i64 (coCmp q.c p.c)) ∧ Below w.heap.size w w' := by
  have hc := fun x => pcmp_any q.c p.c hq hp x
  simp only [coV_is] at hc
  generalize coCmp q.c p.c = z at *
  have e1 : (valPt p).toArray = #[.int .i64 p.s.f, .int .i64 p.s.l, .int .i64 p.s.c, .int .i64 p.s.r, .int .i64 p.c.sg, .int .u64 (ohV p.c), .int .u64 (olV p.c), .int .i64 p.c.un] := rfl
  have e2 : (valPt q).toArray = #[.int .i64 q.s.f, .int .i64 q.s.l, .int .i64 q.s.c, .int .i64 q.s.r, .int .i64 q.c.sg, .int .u64 (ohV q.c), .int .u64 (olV q.c), .int .i64 q.c.un] := rfl
  rw [e1, e2]
  clear e1 e2 hp hq
  obtain ⟨z1, z2, hbw⟩ := two_allocW w (.cells #[.int .i64 p.s.f, .int .i64 p.s.l, .int .i64 p.s.c, .int .i64 p.s.r, .int .i64 p.c.sg, .int .u64 (ohV p.c), .int .u64 (olV p.c), .int .i64 p.c.un] 139) (.cells #[.int .i64 q.s.f, .int .i64 q.s.l, .int .i64 q.s.c, .int .i64 q.s.r, .int .i64 q.c.sg, .int .u64 (ohV q.c), .int .u64 (olV q.c), .int .i64 q.c.un] 139)
  have a0 := (cells_at z1 4 (by simp)).1
  have a1 := (cells_at z1 5 (by simp)).1
  have a2 := (cells_at z1 6 (by simp)).1
  have a3 := (cells_at z1 7 (by simp)).1
  have b0 := (cells_at z2 4 (by simp)).1
  have b1 := (cells_at z2 5 (by simp)).1
  have b2 := (cells_at z2 6 (by simp)).1
  have b3 := (cells_at z2 7 (by simp)).1
  have HB := hideR hbw
  clear z1 z2 hbw
  go_enter Tryz.func114, Tryz.ntmps114
  go_wp2_with fail
  refine (hc _).mono ?_
  rintro r u1 ⟨rfl, k1⟩
  have HB2 := hideR (below_go (unhideR HB) k1)
  clear k1 HB a0 a1 a2 a3 b0 b1 b2 b3
  go_wp2
  go_ret
  exact ⟨rfl, unhideR HB2⟩
end Go.Proofs.YtfonpobdnhifgamGreatDoor
namespace Go.Proofs.YtfonpobdnhifgamGreatDoor
open Go Go.RowKit Go.Shelf Go.Lib Go.Sort

abbrev cAt (M : List Pt) (x : Nat) : Co := (M.getD x pt0).c
def Dn (M : List Pt) (b : Nat) : Prop := ∀ x y, x < y → y < b → (cAt M y).le (cAt M x)
def swL (M : List Pt) (x y : Nat) : List Pt := (M.set x (M.getD y pt0)).set y (M.getD x pt0)
theorem getD_set (M : List Pt) (x : Nat) (q : Pt) (y : Nat) (hx : x < M.length) : (M.set x q).getD y pt0 = if y = x then q else M.getD y pt0 := by
  rw [List.getD_eq_getElem?_getD, List.getD_eq_getElem?_getD, List.getElem?_set]
  by_cases h : x = y
  · rw [if_pos h, if_pos hx, if_pos h.symm]
    rfl
  · rw [if_neg h, if_neg (fun e => h e.symm)]
theorem swL_get (M : List Pt) {x y : Nat} (hx : x < M.length) (hy : y < M.length) (z : Nat) : (swL M x y).getD z pt0 = if z = y then M.getD x pt0 else if z = x then M.getD y pt0 else M.getD z pt0 := by
  unfold swL
  rw [getD_set _ _ _ _ (by rw [List.length_set]; exact hy), getD_set _ _ _ _ hx]
theorem swL_perm (M : List Pt) {x y : Nat} (hx : x < M.length) (hy : y < M.length) : (swL M x y).Perm M := by
  have h := Array.swap_perm (xs := M.toArray) (i := x) (j := y) (by simpa using hx) (by simpa using hy)
  have h2 := h.toList
  have e : (M.toArray.swap x y (by simpa using hx) (by simpa using hy)).toList = swL M x y := by
    unfold swL
    rw [Array.toList_swap]
    simp [List.getD_eq_getElem?_getD, List.getElem?_eq_getElem hx, List.getElem?_eq_getElem hy]
  rw [e] at h2
  exact h2
/-- one is on its way. -/
structure Ins (L M : List Pt) (i j : Nat) : Prop where
  pm : M.Perm L
  a : ∀ x y, x < y → y ≤ i → x ≠ j → y ≠ j → (cAt M y).le (cAt M x)
  b : ∀ y, j < y → y ≤ i → (cAt M y).le (cAt M j)
theorem Ins.start {L M : List Pt} {i : Nat} (h : M.Perm L) (d : Dn M i) : Ins L M i i := ⟨h, fun x y h1 h2 _ h4 => d x y h1 (by omega), fun y h1 h2 => by omega⟩
theorem Ins.stop0 {L M : List Pt} {i : Nat} (h : Ins L M i 0) : Dn M (i + 1) := fun x y h1 h2 => by
  by_cases e : x = 0
  · subst e
    exact h.b y h1 (by omega)
  · exact h.a x y h1 (by omega) e (by omega)
theorem mem_gd {L M : List Pt} (hG : ∀ p ∈ L, p.c.Gd) (pm : M.Perm L) {x : Nat} (hx : x < M.length) : (cAt M x).Gd := by
  refine hG _ (pm.mem_iff.1 ?_)
  rw [List.getD_eq_getElem?_getD, List.getElem?_eq_getElem hx]
  exact List.getElem_mem hx
theorem Ins.stop {L M : List Pt} {i j : Nat} (hG : ∀ p ∈ L, p.c.Gd) (h : Ins L M i (j + 1)) (hj : j + 1 ≤ i) (hi : i < M.length) (q : (cAt M (j + 1)).le (cAt M j)) : Dn M (i + 1) := fun x y h1 h2 => by
  by_cases e : x = j + 1
  · subst e
    exact h.b y h1 (by omega)
  · by_cases e2 : y = j + 1
    · subst e2
      by_cases e3 : x = j
      · subst e3; exact q
      · have g1 := (mem_gd hG h.pm (x := j + 1) (by omega)).ok
        have g2 := (mem_gd hG h.pm (x := j) (by omega)).ok
        have g3 := (mem_gd hG h.pm (x := x) (by omega)).ok
        exact q.trans (h.a x j (by omega) (by omega) e (by omega)) g1 g2 g3
    · exact h.a x y h1 (by omega) e e2
theorem Ins.swap {L M : List Pt} {i j : Nat} (h : Ins L M i (j + 1)) (hj : j + 1 ≤ i) (hi : i < M.length) (q : (cAt M j).le (cAt M (j + 1))) : Ins L (swL M (j + 1) j) i j := by
  have g := swL_get M (x := j + 1) (y := j) (by omega) (by omega)
  refine ⟨(swL_perm M (by omega) (by omega)).trans h.pm, fun x y h1 h2 h3 h4 => ?_, fun y h1 h2 => ?_⟩
  · unfold cAt
    rw [g, g, if_neg h4, if_neg h3]
    by_cases e1 : y = j + 1
    · rw [if_pos e1, if_neg (by omega)]
      exact h.a x j (by omega) (by omega) (by omega) (by omega)
    · rw [if_neg e1]
      by_cases e2 : x = j + 1
      · rw [if_pos e2]
        exact h.a j y (by omega) h2 (by omega) e1
      · rw [if_neg e2]
        exact h.a x y h1 h2 e2 e1
  · unfold cAt
    rw [g, g, if_pos rfl, if_neg (by omega)]
    by_cases e1 : y = j + 1
    · rw [if_pos e1]
      exact q
    · rw [if_neg e1]
      exact h.b y (by omega) h2
theorem mixedPt : Tryz.prog.follows .mixedOrders = true := by kernel_rfl
theorem aggPt : ∀ w, (isAgg 139).run Tryz.prog w = .ok true w := fun w => by kernel_rfl
theorem sizPt : ∀ w, (Go.sizeOf 139).run Tryz.prog w = .ok 8 w := fun w => by kernel_rfl
/-- the row is so far in order. -/
def SoFar (w0 : World) (blk : Nat) (R : List Value) (L : List Pt) (i : Nat) (W : World) : Prop := ∃ M, M.Perm L ∧ Dn M i ∧ PSo w0 blk R M W
set_option maxRecDepth 1000000 in
set_option maxHeartbeats 6400000 in
theorem pins_any {k : Nat} (hk8 : k = 8) (zE : ∀ w, (Go.sizeOf 139).run Tryz.prog w = .ok k w) {w0 w : World} {blk cap : Nat} {R : List Value} {L : List Pt} (hG : ∀ p ∈ L, p.c.Gd) (hl : L.length ≤ 1000) (S : PSo w0 blk R L w) :
    Calls Tryz.prog 139 #[.slice (some ⟨blk, 0, none⟩) L.length cap, .int .i64 0, .int .i64 (L.length : Nat), .func (.func 114) #[] #[]] w fun e w' => e = .returned (.tuple #[]) ∧ SoFar w0 blk R L L.length w' := by
  have HG := hideR hG
  have H8 := hideR hk8
  have H00 : HeldR (SoFar w0 blk R L (min 1 L.length) w) := hideR ⟨L, List.Perm.refl L, fun x y h1 h2 => by omega, S⟩
  have mixed := mixedPt
  have aE := aggPt
  obtain ⟨N, hN⟩ : ∃ N, L.length = N := ⟨_, rfl⟩
  have HN := hideR hN
  rw [hN] at H00 hl ⊢
  clear S hG hk8 hN
  go_enter Tryz.func139, Tryz.ntmps139
  go_wp2
  go_loopw [8] (fun iv wl => ∃ i : Nat, 1 ≤ i ∧ i ≤ N + 1 ∧ iv = .int .i64 (i : Nat) ∧ HeldR (SoFar w0 blk R L (min i N) wl)) (fun iv _ => 2000 - (intOf iv).toNat)
  case atStart => exact ⟨1, by omega, by omega, by go_num, H00⟩
  case round =>
    clear H00
    obtain ⟨i, hi1, hi2, rfl, HS⟩ := hrel
    by_cases hi : i < N
    · have tin : decide ((i : Int) < (N : Int)) = true := decide_eq_true (by omega)
      have tinn : decide (i < N) = true := decide_eq_true hi
      have wi : IntKind.i64.wrap ((i : Int) + 1) = (i : Int) + 1 := iwrap (by omega) (by omega)
      have HI0 : HeldR (∃ M, Ins L M i i ∧ PSo w0 blk R M wr) := hideR (by
        obtain ⟨M, h1, h2, h3⟩ := unhideR HS
        rw [Nat.min_eq_left (by omega)] at h2
        exact ⟨M, Ins.start h1 h2, h3⟩)
      clear HS
      go_wp2
      go_loopw [9] (fun jv wl => ∃ j : Nat, j ≤ i ∧ jv = .int .i64 (j : Nat) ∧ HeldR (∃ M, Ins L M i j ∧ PSo w0 blk R M wl)) (fun jv _ => (intOf jv).toNat)
      case atStart => exact ⟨i, Nat.le_refl _, rfl, HI0⟩
      case round =>
        clear HI0
        obtain ⟨j, hj2, rfl, HB⟩ := hrel
        by_cases hj : 0 < j
        case neg =>
          obtain rfl : j = 0 := by omega
          have HS3 : HeldR (SoFar w0 blk R L (min (i + 1) N) wr.drew) := hideR (by
            obtain ⟨M, h1, h2⟩ := unhideR HB
            exact ⟨M, h1.pm, by rw [Nat.min_eq_left (by omega)]; exact h1.stop0, h2.drew⟩)
          clear HB
          go_wp2_with fail
          go_big_region_o
          generalize wr.drew = w2 at *
          go_wp2
          exact ⟨⟨i + 1, by omega, by omega, by go_num, HS3⟩, by simp [intOf]; omega⟩
        obtain ⟨jp, hjp⟩ : ∃ jp, j = jp + 1 := ⟨j - 1, by omega⟩
        have HJ := hideR hjp
        have tj : decide ((0 : Int) < (j : Int)) = true := decide_eq_true (by omega)
        have tjn : decide (0 < j) = true := decide_eq_true hj
        have wj : IntKind.i64.wrap ((j : Int) - 1) = (jp : Int) := by rw [show (j : Int) - 1 = (jp : Int) by omega]; exact iwrap (by omega) (by omega)
        have jj1 : (j : Int) < (N : Int) := by omega
        have jj2 : (jp : Int) < (N : Int) := by omega
        obtain ⟨M, hM, hS⟩ := unhideR HB
        have hMl : M.length = N := hM.pm.length_eq.trans (unhideR HN)
        have hjl : j < M.length := by omega
        have hjpl : jp < M.length := by omega
        have g1 := mem_gd (unhideR HG) hM.pm hjl
        have g2 := mem_gd (unhideR HG) hM.pm hjpl
        have hcall := fun x => porder_any (M.getD j pt0) (M.getD jp pt0) g1.sm g2.sm x
        have hneg := coCmp_neg g2.ok g1.ok
        have HL1 : HeldR (∀ v, Below wr.heap.size wr v → Sem.run Tryz.prog (loadCellsFrom ⟨blk, j * k, none⟩ 0 k #[]) v = .ok (valPt (M.getD j pt0)).toArray v) := hideR (fun v hv => (hS.bel hv).load hjl (unhideR H8))
        have HL2 : HeldR (∀ v, Below wr.heap.size wr v → Sem.run Tryz.prog (loadCellsFrom ⟨blk, jp * k, none⟩ 0 k #[]) v = .ok (valPt (M.getD jp pt0)).toArray v) := hideR (fun v hv => (hS.bel hv).load hjpl (unhideR H8))
        have HStop : HeldR (∀ v, Below wr.heap.size wr v → (cAt M j).le (cAt M jp) → SoFar w0 blk R L (min (i + 1) N) v) := hideR (fun v hv q => by
          rw [Nat.min_eq_left (by omega)]
          subst hjp
          exact ⟨M, hM.pm, hM.stop (unhideR HG) hj2 (by omega) q, hS.bel hv⟩)
        have HGo : HeldR (∀ v, Below wr.heap.size wr v → ¬ (cAt M j).le (cAt M jp) → ∃ A1 A2 : Array Value, Sem.run Tryz.prog (loadCellsFrom ⟨blk, j * k, none⟩ 0 k #[]) v.drew = .ok (valPt (M.getD j pt0)).toArray v.drew ∧ Sem.run Tryz.prog (loadCellsFrom ⟨blk, jp * k, none⟩ 0 k #[]) v.drew = .ok (valPt (M.getD jp pt0)).toArray v.drew ∧
            Sem.run Tryz.prog (storeCells ⟨blk, j * k, none⟩ (valPt (M.getD jp pt0)) 0) v.drew = .ok () (v.drew.setRow blk A1) ∧ Sem.run Tryz.prog (storeCells ⟨blk, jp * k, none⟩ (valPt (M.getD j pt0)) 0) (v.drew.setRow blk A1) = .ok () ((v.drew.setRow blk A1).setRow blk A2) ∧ HeldR (∃ M, Ins L M i jp ∧ PSo w0 blk R M ((v.drew.setRow blk A1).setRow blk A2))) := hideR (fun v hv q => by
          have S1 := (hS.bel hv).drew
          have S2 := S1.set (M := M.set j (M.getD jp pt0))
          refine ⟨_, _, S1.load hjl (unhideR H8), S1.load hjpl (unhideR H8), S1.store hjl (unhideR H8) _, S2.store (by rw [List.length_set]; exact hjpl) (unhideR H8) _, hideR ⟨_, ?_, S2.set⟩⟩
          subst hjp
          exact hM.swap hj2 (by omega) ((Co.le_total _ _).resolve_right (fun e => q e)))
        have hlen : ∀ p : Pt, (valPt p).length = k := fun p => (unhideR H8).symm ▸ rfl
        generalize coCmp (M.getD jp pt0).c (M.getD j pt0).c = z at *
        have hl1 := hlen (M.getD j pt0)
        have hl2 := hlen (M.getD jp pt0)
        generalize hc1 : valPt (M.getD j pt0) = c1 at *
        generalize hc2 : valPt (M.getD jp pt0) = c2 at *
        clear hM hS hMl hjl hjpl g1 g2 HB hjp hlen hc1 hc2
        go_upto_region 4 with fail
        refine wp_region_made 0 #[true, true, true, true, true, true, true, true, true, true, true, true, true, true, true, true, false] [.lets (· = .int .i64 (j : Nat)),
          .lets (· = .int .i64 0),
          .lets (· = .bool true),
          .lets (· = .bool true),
          .lets (· = .func (.func 114) #[] #[]),
          .lets (· = .slice (some ⟨blk, 0, none⟩) N cap),
          .lets (· = .int .i64 (j : Nat)),
          .lets (· = .pointer (some ⟨blk, j * k, none⟩)),
          .lets (· = .agg c1.toArray),
          .lets (· = .slice (some ⟨blk, 0, none⟩) N cap),
          .lets (· = .int .i64 (j : Nat)),
          .lets (· = .int .i64 (jp : Nat)),
          .lets (· = .pointer (some ⟨blk, jp * k, none⟩)),
          .lets (· = .agg c2.toArray),
          .lets (· = .int .i64 z),
          .lets (· = .bool (decide (z < 0)))] [] [] (by kernel_rfl) (by kernel_rfl) rfl ?kinds (by kernel_rfl) (by kernel_rfl) (by kernel_rfl) ?_
        case kinds =>
          constructor
          · intro i h
            rcases i with _ | _ | _ | _ | _ | _ | _ | _ | _ | _ | _ | _ | _ | _ | _ | _ | i <;> simp [Kx.isMade] at h
          · intro i h
            rcases i with _ | _ | _ | _ | _ | _ | _ | _ | _ | _ | _ | _ | _ | _ | _ | _ | i <;> simp [Kx.isUse] at h
        refine lexX_step (fun K hK => ⟨by kernel_rfl, ⟨_, rfl⟩, fun v hv => ?_, fun v hv => ?_⟩)
        · go_simp
          exact mUpon_b
        subst hv
        go_simp
        refine hK _ ?_
        clear hK K
        refine lexX_step (fun K hK => ⟨by kernel_rfl, ⟨_, rfl⟩, fun v hv => ?_, fun v hv => ?_⟩)
        · go_simp
          exact mUpon_b
        subst hv
        go_simp
        refine hK _ ?_
        clear hK K
        refine lexX_step (fun K hK => ⟨by kernel_rfl, ⟨_, rfl⟩, fun v hv => ?_, fun v hv => ?_⟩)
        · go_simp
          exact mUpon_b
        subst hv
        go_simp
        refine hK _ ?_
        clear hK K
        refine lexX_step (fun K hK => ⟨by kernel_rfl, ⟨_, rfl⟩, fun v hv => ?_, fun v hv => ?_⟩)
        · go_simp
          exact mUpon_b
        subst hv
        go_simp
        refine hK _ ?_
        clear hK K
        refine lexX_step (fun K hK => ⟨by kernel_rfl, ⟨_, rfl⟩, fun v hv => ?_, fun v hv => ?_⟩)
        · go_simp
          exact mUpon_b
        subst hv
        go_simp
        refine hK _ ?_
        clear hK K
        refine lexX_step (fun K hK => ⟨by kernel_rfl, ⟨_, rfl⟩, fun v hv => ?_, fun v hv => ?_⟩)
        · go_simp
          exact mUpon_b
        subst hv
        go_simp
        refine hK _ ?_
        clear hK K
        refine lexX_step (fun K hK => ⟨by kernel_rfl, ⟨_, rfl⟩, fun v hv => ?_, fun v hv => ?_⟩)
        · go_simp
          exact mUpon_b
        subst hv
        go_simp
        refine hK _ ?_
        clear hK K
        refine lexX_step (fun K hK => ⟨by kernel_rfl, ⟨_, rfl⟩, fun v hv => ?_, fun v hv => ?_⟩)
        · go_simp
          exact mUpon_b
        subst hv
        go_simp
        refine hK _ ?_
        clear hK K
        refine lexX_step (fun K hK => ⟨by kernel_rfl, ⟨_, rfl⟩, fun v hv => ?_, fun v hv => ?_⟩)
        · have y := unhideR HL1 v hv
          go_simp
          exact mUpon_b
        subst hv
        go_simp
        refine hK _ ?_
        clear hK K
        refine lexX_step (fun K hK => ⟨by kernel_rfl, ⟨_, rfl⟩, fun v hv => ?_, fun v hv => ?_⟩)
        · go_simp
          exact mUpon_b
        subst hv
        go_simp
        refine hK _ ?_
        clear hK K
        refine lexX_step (fun K hK => ⟨by kernel_rfl, ⟨_, rfl⟩, fun v hv => ?_, fun v hv => ?_⟩)
        · go_simp
          exact mUpon_b
        subst hv
        go_simp
        refine hK _ ?_
        clear hK K
        refine lexX_step (fun K hK => ⟨by kernel_rfl, ⟨_, rfl⟩, fun v hv => ?_, fun v hv => ?_⟩)
        · go_simp
          exact mUpon_b
        subst hv
        go_simp
        refine hK _ ?_
        clear hK K
        refine lexX_step (fun K hK => ⟨by kernel_rfl, ⟨_, rfl⟩, fun v hv => ?_, fun v hv => ?_⟩)
        · go_simp
          exact mUpon_b
        subst hv
        go_simp
        refine hK _ ?_
        clear hK K
        refine lexX_step (fun K hK => ⟨by kernel_rfl, ⟨_, rfl⟩, fun v hv => ?_, fun v hv => ?_⟩)
        · have y := unhideR HL2 v hv
          go_simp
          exact mUpon_b
        subst hv
        go_simp
        refine hK _ ?_
        clear hK K
        refine lexX_step (fun K hK => ⟨by kernel_rfl, ⟨_, rfl⟩, fun v hv => ?_, fun v hv => ?_⟩)
        · go_simp
          refine (hcall v).mono ?_
          rintro e w9 ⟨rfl, k⟩
          exact ⟨_, rfl, rfl, k⟩
        subst hv
        go_simp
        refine hK _ ?_
        clear hK K
        refine lexX_step (fun K hK => ⟨by kernel_rfl, ⟨_, rfl⟩, fun v hv => ?_, fun v hv => ?_⟩)
        · go_simp
          exact mUpon_b
        subst hv
        go_simp
        refine hK _ ?_
        clear hK K
        refine lexX_end (fun v5 hv => ?_)
        have HV := hideR hv.low
        clear hv hcall HL1 HL2
        refine wpAny_step (i := 16) (by kernel_rfl) rfl (by kernel_rfl) (fun K hK => ?_)
        unfold Oper.wp
        go_simp
        refine hK _ _ ?_
        clear hK K
        refine wpAny_end (by kernel_rfl) ?_
        by_cases hz : z < 0
        case neg =>
          have hle : (cAt M j).le (cAt M jp) := Classical.byContradiction (fun h => hz (hneg.2 h))
          have HS2 := hideR (unhideR HStop v5 (unhideR HV) hle)
          have dz : decide (z < 0) = false := decide_eq_false hz
          rw [dz]
          clear HStop HGo HV hle hneg hl1 hl2
          go_wp2
          exact ⟨⟨i + 1, by omega, by omega, by go_num, HS2⟩, by simp [intOf]; omega⟩
        have hle := hneg.1 hz
        have dz : decide (z < 0) = true := decide_eq_true hz
        rw [dz]
        obtain ⟨A1, A2, l1, l2, s1, s2, S3⟩ := unhideR HGo v5 (unhideR HV) hle
        clear HStop HGo HV hle hneg
        go_wp2_with fail
        go_big_region_o
        clear l1 l2 s1 s2
        generalize (v5.drew.setRow blk A1).setRow blk A2 = w3 at S3 ⊢
        go_wp2
        exact ⟨⟨jp, by have := unhideR HJ; omega, rfl, S3⟩, by have := unhideR HJ; simp [intOf]; omega⟩
    · have tin : decide ((i : Int) < (N : Int)) = false := decide_eq_false (by omega)
      have tinn : decide (i < N) = false := decide_eq_false hi
      have HS2 : HeldR (SoFar w0 blk R L N wr) := hideR (by
        have := unhideR HS
        rwa [Nat.min_eq_right (by omega)] at this)
      clear HS
      go_wp2
      go_end0
      exact ⟨rfl, unhideR HS2⟩
end Go.Proofs.YtfonpobdnhifgamGreatDoor
namespace Go.Proofs.YtfonpobdnhifgamGreatDoor
open Go Go.RowKit

set_option maxRecDepth 1000000 in
set_option maxHeartbeats 6400000 in
theorem pstable_any {w : World} {blk cap : Nat} {R : List Value} {L : List Pt} (hG : ∀ p ∈ L, p.c.Gd) (hl : L.length ≤ 19) (S : PSo w blk R L w) :
    Calls Tryz.prog 132 #[.slice (some ⟨blk, 0, none⟩) L.length cap, .int .i64 (L.length : Nat), .func (.func 114) #[] #[]] w fun e w' => e = .returned (.tuple #[]) ∧ SoFar w blk R L L.length w' := by
  have hi := pins_any (cap := cap) rfl sizPt hG (by omega) S
  have HP : HeldR (∀ w', SoFar w blk R L L.length w' → (Ending.returned (.tuple #[]) = Ending.returned (.tuple #[]) ∧ SoFar w blk R L L.length w')) := hideR (fun w' h => ⟨rfl, h⟩)
  obtain ⟨N, hN⟩ : ∃ N, L.length = N := ⟨_, rfl⟩
  rw [hN] at hi hl HP ⊢
  clear S hG hN
  generalize SoFar w blk R L N = SF at *
  have t1 : decide ((20 : Int) ≤ (N : Int)) = false := decide_eq_false (by omega)
  have t2 : decide (20 ≤ N) = false := decide_eq_false (by omega)
  have t3 : decide ((20 : Int) < (N : Int)) = false := decide_eq_false (by omega)
  have t4 : decide (20 < N) = false := decide_eq_false (by omega)
  go_enter Tryz.func132, Tryz.ntmps132
  go_wp2_with fail
  go_loopw [7, 8] (fun av bv wl => av = .int .i64 0 ∧ bv = .int .i64 20 ∧ wl = w) (fun _ _ _ => 1)
  case atStart => exact ⟨rfl, rfl, rfl⟩
  case round =>
    obtain ⟨rfl, rfl, rfl⟩ := hrel
    go_wp2_with fail
    refine hi.mono ?_
    rintro e w' ⟨rfl, hS⟩
    have HS := hideR hS
    clear hS hi
    go_wp2_with fail
    go_loopw [6] (fun av wl => av = .int .i64 20 ∧ HeldR (SF wl)) (fun _ _ => 1)
    case atStart => exact ⟨rfl, HS⟩
    case round =>
      clear HS
      obtain ⟨rfl, HS⟩ := hrel
      go_wp2
      go_end0
      exact ⟨rfl, unhideR HS⟩
set_option maxRecDepth 1000000 in
set_option maxHeartbeats 6400000 in
theorem psort_any {w : World} {blk cap : Nat} {R : List Value} {L : List Pt} (hG : ∀ p ∈ L, p.c.Gd) (hl : L.length ≤ 19) (S : PSo w blk R L w) :
    Calls Tryz.prog 113 #[.slice (some ⟨blk, 0, none⟩) L.length cap, .func (.func 114) #[] #[]] w fun e w' => e = .returned (.tuple #[]) ∧ SoFar w blk R L L.length w' := by
  have hi := pstable_any (cap := cap) hG hl S
  obtain ⟨N, hN⟩ : ∃ N, L.length = N := ⟨_, rfl⟩
  rw [hN] at hi ⊢
  clear S hG hN
  generalize SoFar w blk R L N = SF at *
  go_enter Tryz.func113, Tryz.ntmps113
  go_wp2_with fail
  refine hi.mono ?_
  rintro e w' ⟨rfl, hS⟩
  go_wp2
  go_end0
  exact ⟨rfl, hS⟩
end Go.Proofs.YtfonpobdnhifgamGreatDoor
