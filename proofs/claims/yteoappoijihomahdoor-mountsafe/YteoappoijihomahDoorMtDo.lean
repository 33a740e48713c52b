/-
  The document's mount: a command, by contract.
-/
import Derived.Test.YteoappoijihomahDoorMtRef
import Derived.Laws.Strings
import Derived.Deep.QuietTactic
namespace Go.Proofs.YteoappoijihomahDoor
open Go Go.RowKit

structure CmdS where
  num : Int
  s : ByteArray
  a : Int
  b : Int
def kindOf (l : List UInt8) : Nat := if (l == [115, 108, 101, 119]) = true then 1 else if (l == [116, 114, 97, 99, 107]) = true then 2 else if (l == [115, 116, 111, 112]) = true then 3 else if (l == [112, 97, 114, 107]) = true then 4 else if (l == [104, 101, 108, 108, 111]) = true then 5 else 0
def CmdS.cmd (c : CmdS) : Cmd := ⟨c.num, kindOf c.s.toList, c.a, c.b⟩
def CmdS.val (c : CmdS) : Value := .agg #[.int .i64 c.num, .string c.s, .int .i64 c.a, .int .i64 c.b]
theorem four_cells {w : World} {b : Nat} {x0 x1 x2 x3 : Value} {ty : TypeId} (h : w.heap[b]? = some (.cells #[x0, x1, x2, x3] ty)) : w.cell? ⟨b, 0, none⟩ = some x0 ∧ w.cell? ⟨b, 1, none⟩ = some x1 ∧ w.cell? ⟨b, 2, none⟩ = some x2 ∧ w.cell? ⟨b, 3, none⟩ = some x3 :=
  ⟨(cells_at h 0 (by simp)).1, (cells_at h 1 (by simp)).1, (cells_at h 2 (by simp)).1, (cells_at h 3 (by simp)).1⟩
theorem beq_nat {l m : List UInt8} (h : l = m) : (l == m) = true := by simp [h]
def DoPost (g : Nat) (m : Mt) (c : CmdS) (w : World) (e : Ending) (w' : World) : Prop := e = .returned (.int .i64 (doV m c.cmd).2) ∧ Ref w' g (doV m c.cmd).1 ∧ Chg g w w'
theorem blk_other {w : World} {b c i : Nat} {o : Obj} {x : Value} (h : w.heap[b]? = some o) (hb : b ≠ c) : (w.setCell ⟨c, i, none⟩ x).heap[b]? = some o := by
  rw [heap_setCell_other _ _ _ _ hb]
  exact h
set_option maxRecDepth 100000 in
set_option maxHeartbeats 3200000 in
theorem do_hello {g : Nat} {m : Mt} {w : World} (hM : Ref w g m) (c : CmdS) (hF : Fine m) (hk : (c.s.toList == [115, 108, 101, 119]) = false ∧ (c.s.toList == [116, 114, 97, 99, 107]) = false ∧ (c.s.toList == [115, 116, 111, 112]) = false ∧ (c.s.toList == [112, 97, 114, 107]) = false ∧ (c.s.toList == [104, 101, 108, 108, 111]) = true) :
    Calls Tryd.prog 69 #[.pointer (some ⟨g, 0, none⟩), c.val] w (DoPost g m c w) := by
  have hg : g < w.heap.size := ltB hM.blk
  have HW := hideR (below_a w (.cells #[.int .i64 c.num, .string c.s, .int .i64 c.a, .int .i64 c.b] 64))
  have HC := hideR (alloc_last w (.cells #[.int .i64 c.num, .string c.s, .int .i64 c.a, .int .i64 c.b] 64))
  have HM := hideR (hM.keep (below_a w (.cells #[.int .i64 c.num, .string c.s, .int .i64 c.a, .int .i64 c.b] 64)))
  have HK := hideR ((Chg.refl g w).go (below_a w (.cells #[.int .i64 c.num, .string c.s, .int .i64 c.a, .int .i64 c.b] 64)))
  have hf := hF.sa
  have hf2 := hF.sb
  have hla := hF.la
  have hlb := hF.lb
  unfold Lim.shape at hf hf2
  unfold Lim.large large at hla hlb
  have st0 := hF.st0
  have k1 : (c.s.toList == [115, 108, 101, 119]) = false := hk.1
  have k2 : (c.s.toList == [116, 114, 97, 99, 107]) = false := hk.2.1
  have k3 : (c.s.toList == [115, 116, 111, 112]) = false := hk.2.2.1
  have k4 : (c.s.toList == [112, 97, 114, 107]) = false := hk.2.2.2.1
  have k5 : (c.s.toList == [104, 101, 108, 108, 111]) = true := hk.2.2.2.2
  have hkd : c.cmd.kind = 5 := by
    show kindOf c.s.toList = 5
    unfold kindOf
    rw [if_neg (by rw [k1]; exact Bool.noConfusion), if_neg (by rw [k2]; exact Bool.noConfusion), if_neg (by rw [k3]; exact Bool.noConfusion), if_neg (by rw [k4]; exact Bool.noConfusion), if_pos k5]
  have hd : doV m c.cmd = (m, 0) := by
    unfold doV
    rw [hkd]
    rfl
  have HF : HeldR (DoPost g m c w (.returned (.int .i64 0)) (w.alloc (.cells #[.int .i64 c.num, .string c.s, .int .i64 c.a, .int .i64 c.b] 64))) := by
    unfold HeldR DoPost
    rw [hd]
    exact ⟨rfl, unhideR HM, unhideR HK⟩
  have c12 : (w.alloc (.cells #[.int .i64 c.num, .string c.s, .int .i64 c.a, .int .i64 c.b] 64)).cell? ⟨g, 12, none⟩ = some (.int .i64 m.st) := ((unhideR HM).cell 12 (by decide)).1
  clear hd hkd hk
  unfold CmdS.val
  go_enter Tryd.func69, Tryd.ntmps69
  go_wp2
  all_goals
    go_ret
    exact unhideR HF
set_option maxRecDepth 100000 in
set_option maxHeartbeats 3200000 in
theorem do_other {g : Nat} {m : Mt} {w : World} (hM : Ref w g m) (c : CmdS) (hF : Fine m) (hk : (c.s.toList == [115, 108, 101, 119]) = false ∧ (c.s.toList == [116, 114, 97, 99, 107]) = false ∧ (c.s.toList == [115, 116, 111, 112]) = false ∧ (c.s.toList == [112, 97, 114, 107]) = false ∧ (c.s.toList == [104, 101, 108, 108, 111]) = false) :
    Calls Tryd.prog 69 #[.pointer (some ⟨g, 0, none⟩), c.val] w (DoPost g m c w) := by
  have hg : g < w.heap.size := ltB hM.blk
  have HW := hideR (below_a w (.cells #[.int .i64 c.num, .string c.s, .int .i64 c.a, .int .i64 c.b] 64))
  have HC := hideR (alloc_last w (.cells #[.int .i64 c.num, .string c.s, .int .i64 c.a, .int .i64 c.b] 64))
  have HM := hideR (hM.keep (below_a w (.cells #[.int .i64 c.num, .string c.s, .int .i64 c.a, .int .i64 c.b] 64)))
  have HK := hideR ((Chg.refl g w).go (below_a w (.cells #[.int .i64 c.num, .string c.s, .int .i64 c.a, .int .i64 c.b] 64)))
  have hf := hF.sa
  have hf2 := hF.sb
  have hla := hF.la
  have hlb := hF.lb
  unfold Lim.shape at hf hf2
  unfold Lim.large large at hla hlb
  have st0 := hF.st0
  have k1 : (c.s.toList == [115, 108, 101, 119]) = false := hk.1
  have k2 : (c.s.toList == [116, 114, 97, 99, 107]) = false := hk.2.1
  have k3 : (c.s.toList == [115, 116, 111, 112]) = false := hk.2.2.1
  have k4 : (c.s.toList == [112, 97, 114, 107]) = false := hk.2.2.2.1
  have k5 : (c.s.toList == [104, 101, 108, 108, 111]) = false := hk.2.2.2.2
  have hkd : c.cmd.kind = 0 := by
    show kindOf c.s.toList = 0
    unfold kindOf
    rw [if_neg (by rw [k1]; exact Bool.noConfusion), if_neg (by rw [k2]; exact Bool.noConfusion), if_neg (by rw [k3]; exact Bool.noConfusion), if_neg (by rw [k4]; exact Bool.noConfusion), if_neg (by rw [k5]; exact Bool.noConfusion)]
  have hd : doV m c.cmd = (m, 10) := by
    unfold doV
    rw [hkd]
    rfl
  have HF : HeldR (DoPost g m c w (.returned (.int .i64 10)) (w.alloc (.cells #[.int .i64 c.num, .string c.s, .int .i64 c.a, .int .i64 c.b] 64))) := by
    unfold HeldR DoPost
    rw [hd]
    exact ⟨rfl, unhideR HM, unhideR HK⟩
  have c12 : (w.alloc (.cells #[.int .i64 c.num, .string c.s, .int .i64 c.a, .int .i64 c.b] 64)).cell? ⟨g, 12, none⟩ = some (.int .i64 m.st) := ((unhideR HM).cell 12 (by decide)).1
  clear hd hkd hk
  unfold CmdS.val
  go_enter Tryd.func69, Tryd.ntmps69
  go_wp2
  all_goals
    go_ret
    exact unhideR HF
set_option maxRecDepth 100000 in
set_option maxHeartbeats 3200000 in
theorem do_stop {g : Nat} {m : Mt} {w : World} (hM : Ref w g m) (c : CmdS) (hF : Fine m) (hk : (c.s.toList == [115, 108, 101, 119]) = false ∧ (c.s.toList == [116, 114, 97, 99, 107]) = false ∧ (c.s.toList == [115, 116, 111, 112]) = true) :
    Calls Tryd.prog 69 #[.pointer (some ⟨g, 0, none⟩), c.val] w (DoPost g m c w) := by
  have hg : g < w.heap.size := ltB hM.blk
  have HW := hideR (below_a w (.cells #[.int .i64 c.num, .string c.s, .int .i64 c.a, .int .i64 c.b] 64))
  have HC := hideR (alloc_last w (.cells #[.int .i64 c.num, .string c.s, .int .i64 c.a, .int .i64 c.b] 64))
  have HM := hideR (hM.keep (below_a w (.cells #[.int .i64 c.num, .string c.s, .int .i64 c.a, .int .i64 c.b] 64)))
  have HK := hideR ((Chg.refl g w).go (below_a w (.cells #[.int .i64 c.num, .string c.s, .int .i64 c.a, .int .i64 c.b] 64)))
  have hf := hF.sa
  have hf2 := hF.sb
  have hla := hF.la
  have hlb := hF.lb
  unfold Lim.shape at hf hf2
  unfold Lim.large large at hla hlb
  have st0 := hF.st0
  have k1 : (c.s.toList == [115, 108, 101, 119]) = false := hk.1
  have k2 : (c.s.toList == [116, 114, 97, 99, 107]) = false := hk.2.1
  have k3 : (c.s.toList == [115, 116, 111, 112]) = true := hk.2.2
  have hkd : c.cmd.kind = 3 := by
    show kindOf c.s.toList = 3
    unfold kindOf
    rw [if_neg (by rw [k1]; exact Bool.noConfusion), if_neg (by rw [k2]; exact Bool.noConfusion), if_pos k3]
  have c12 : (w.alloc (.cells #[.int .i64 c.num, .string c.s, .int .i64 c.a, .int .i64 c.b] 64)).cell? ⟨g, 12, none⟩ = some (.int .i64 m.st) := ((unhideR HM).cell 12 (by decide)).1
  have f12 : (w.alloc (.cells #[.int .i64 c.num, .string c.s, .int .i64 c.a, .int .i64 c.b] 64)).frozen? ⟨g, 12, none⟩ = false := ((unhideR HM).cell 12 (by decide)).2
  by_cases h4 : m.st = 4
  · have hd : doV m c.cmd = (m, 7) := by
      unfold doV
      rw [hkd]
      show (if m.st = 4 then _ else _) = _
      rw [if_pos h4]
    have HF : HeldR (DoPost g m c w (.returned (.int .i64 7)) (w.alloc (.cells #[.int .i64 c.num, .string c.s, .int .i64 c.a, .int .i64 c.b] 64))) := by
      unfold HeldR DoPost
      rw [hd]
      exact ⟨rfl, unhideR HM, unhideR HK⟩
    have t4 : (m.st == 4) = true := by simp [h4]
    clear hd hkd hk h4
    unfold CmdS.val
    go_enter Tryd.func69, Tryd.ntmps69
    go_wp2
    all_goals
      go_ret
      exact unhideR HF
  · have hd : doV m c.cmd = ({ m with st := 5 }, 0) := by
      unfold doV
      rw [hkd]
      show (if m.st = 4 then _ else _) = _
      rw [if_neg h4]
    have HF : HeldR (DoPost g m c w (.returned (.int .i64 0)) ((w.setCell ⟨g, 12, none⟩ (.int .i64 5)).alloc (.cells #[.int .i64 c.num, .string c.s, .int .i64 c.a, .int .i64 c.b] 64))) := by
      unfold HeldR DoPost
      rw [hd]
      exact ⟨rfl, (hM.st 5).keep (below_a _ _), ((Chg.refl g w).put 12 _).go (below_a _ _)⟩
    have t4 : (m.st == 4) = false := by simp [h4]
    clear hd hkd hk h4
    unfold CmdS.val
    go_enter Tryd.func69, Tryd.ntmps69
    go_wp2
    all_goals
      go_ret
      exact unhideR HF
set_option maxRecDepth 100000 in
set_option maxHeartbeats 3200000 in
theorem do_park {g : Nat} {m : Mt} {w : World} (hM : Ref w g m) (c : CmdS) (hF : Fine m) (hk : (c.s.toList == [115, 108, 101, 119]) = false ∧ (c.s.toList == [116, 114, 97, 99, 107]) = false ∧ (c.s.toList == [115, 116, 111, 112]) = false ∧ (c.s.toList == [112, 97, 114, 107]) = true) :
    Calls Tryd.prog 69 #[.pointer (some ⟨g, 0, none⟩), c.val] w (DoPost g m c w) := by
  have hg : g < w.heap.size := ltB hM.blk
  have HW := hideR (below_a w (.cells #[.int .i64 c.num, .string c.s, .int .i64 c.a, .int .i64 c.b] 64))
  have HC := hideR (alloc_last w (.cells #[.int .i64 c.num, .string c.s, .int .i64 c.a, .int .i64 c.b] 64))
  have HM := hideR (hM.keep (below_a w (.cells #[.int .i64 c.num, .string c.s, .int .i64 c.a, .int .i64 c.b] 64)))
  have HK := hideR ((Chg.refl g w).go (below_a w (.cells #[.int .i64 c.num, .string c.s, .int .i64 c.a, .int .i64 c.b] 64)))
  have hf := hF.sa
  have hf2 := hF.sb
  have hla := hF.la
  have hlb := hF.lb
  unfold Lim.shape at hf hf2
  unfold Lim.large large at hla hlb
  have st0 := hF.st0
  have k1 : (c.s.toList == [115, 108, 101, 119]) = false := hk.1
  have k2 : (c.s.toList == [116, 114, 97, 99, 107]) = false := hk.2.1
  have k3 : (c.s.toList == [115, 116, 111, 112]) = false := hk.2.2.1
  have k4 : (c.s.toList == [112, 97, 114, 107]) = true := hk.2.2.2
  have hkd : c.cmd.kind = 4 := by
    show kindOf c.s.toList = 4
    unfold kindOf
    rw [if_neg (by rw [k1]; exact Bool.noConfusion), if_neg (by rw [k2]; exact Bool.noConfusion), if_neg (by rw [k3]; exact Bool.noConfusion), if_pos k4]
  have c12 : (w.alloc (.cells #[.int .i64 c.num, .string c.s, .int .i64 c.a, .int .i64 c.b] 64)).cell? ⟨g, 12, none⟩ = some (.int .i64 m.st) := ((unhideR HM).cell 12 (by decide)).1
  have f12 : (w.alloc (.cells #[.int .i64 c.num, .string c.s, .int .i64 c.a, .int .i64 c.b] 64)).frozen? ⟨g, 12, none⟩ = false := ((unhideR HM).cell 12 (by decide)).2
  by_cases h4 : m.st = 4
  · have hd : doV m c.cmd = (m, 0) := by
      unfold doV
      rw [hkd]
      show (if m.st = 4 then _ else _) = _
      rw [if_pos h4]
    have HF : HeldR (DoPost g m c w (.returned (.int .i64 0)) (w.alloc (.cells #[.int .i64 c.num, .string c.s, .int .i64 c.a, .int .i64 c.b] 64))) := by
      unfold HeldR DoPost
      rw [hd]
      exact ⟨rfl, unhideR HM, unhideR HK⟩
    have t4 : (m.st == 4) = true := by simp [h4]
    clear hd hkd hk h4
    unfold CmdS.val
    go_enter Tryd.func69, Tryd.ntmps69
    go_wp2
    all_goals
      go_ret
      exact unhideR HF
  · have hd : doV m c.cmd = ({ m with st := 3 }, 0) := by
      unfold doV
      rw [hkd]
      show (if m.st = 4 then _ else _) = _
      rw [if_neg h4]
    have HF : HeldR (DoPost g m c w (.returned (.int .i64 0)) ((w.setCell ⟨g, 12, none⟩ (.int .i64 3)).alloc (.cells #[.int .i64 c.num, .string c.s, .int .i64 c.a, .int .i64 c.b] 64))) := by
      unfold HeldR DoPost
      rw [hd]
      exact ⟨rfl, (hM.st 3).keep (below_a _ _), ((Chg.refl g w).put 12 _).go (below_a _ _)⟩
    have t4 : (m.st == 4) = false := by simp [h4]
    clear hd hkd hk h4
    unfold CmdS.val
    go_enter Tryd.func69, Tryd.ntmps69
    go_wp2
    all_goals
      go_ret
      exact unhideR HF
set_option maxRecDepth 100000 in
set_option maxHeartbeats 3200000 in
theorem do_slew {g : Nat} {m : Mt} {w : World} (hM : Ref w g m) (c : CmdS) (hF : Fine m) (hk : (c.s.toList == [115, 108, 101, 119]) = true) :
    Calls Tryd.prog 69 #[.pointer (some ⟨g, 0, none⟩), c.val] w (DoPost g m c w) := by
  have hg : g < w.heap.size := ltB hM.blk
  have HW := hideR (below_a w (.cells #[.int .i64 c.num, .string c.s, .int .i64 c.a, .int .i64 c.b] 64))
  have HC := hideR (alloc_last w (.cells #[.int .i64 c.num, .string c.s, .int .i64 c.a, .int .i64 c.b] 64))
  have HM := hideR (hM.keep (below_a w (.cells #[.int .i64 c.num, .string c.s, .int .i64 c.a, .int .i64 c.b] 64)))
  have HK := hideR ((Chg.refl g w).go (below_a w (.cells #[.int .i64 c.num, .string c.s, .int .i64 c.a, .int .i64 c.b] 64)))
  have hf := hF.sa
  have hf2 := hF.sb
  have hla := hF.la
  have hlb := hF.lb
  unfold Lim.shape at hf hf2
  unfold Lim.large large at hla hlb
  have st0 := hF.st0
  have k1 : (c.s.toList == [115, 108, 101, 119]) = true := hk
  have hkd : c.cmd.kind = 1 := by
    show kindOf c.s.toList = 1
    unfold kindOf
    rw [if_pos k1]
  have hd : doV m c.cmd = (if out m.A c.a ∨ out m.B c.b then (m, 6) else if m.st = 3 then (m, 7) else ({ m with P := c.a, Q := c.b, st := 1 }, 0)) := by
    unfold doV
    rw [hkd]
    rfl
  have HD := hideR hd
  have c12 : (w.alloc (.cells #[.int .i64 c.num, .string c.s, .int .i64 c.a, .int .i64 c.b] 64)).cell? ⟨g, 12, none⟩ = some (.int .i64 m.st) := ((unhideR HM).cell 12 (by decide)).1
  obtain ⟨e0, e1, e2, e3⟩ := four_cells (unhideR HC)
  have hcase : (out m.A c.a ∨ out m.B c.b) ∧ ((decide (c.a < m.A.lo) = true) ∨ (decide (c.a < m.A.lo) = false ∧ decide (m.A.hi < c.a) = true) ∨ (decide (c.a < m.A.lo) = false ∧ decide (m.A.hi < c.a) = false ∧ decide (c.b < m.B.lo) = true) ∨ (decide (c.a < m.A.lo) = false ∧ decide (m.A.hi < c.a) = false ∧ decide (c.b < m.B.lo) = false ∧ decide (m.B.hi < c.b) = true)) ∨ ¬ (out m.A c.a ∨ out m.B c.b) ∧ decide (c.a < m.A.lo) = false ∧ decide (m.A.hi < c.a) = false ∧ decide (c.b < m.B.lo) = false ∧ decide (m.B.hi < c.b) = false := by
    unfold out
    by_cases q1 : c.a < m.A.lo
    · exact .inl ⟨by omega, .inl (decide_eq_true q1)⟩
    · by_cases q2 : m.A.hi < c.a
      · exact .inl ⟨by omega, .inr (.inl ⟨decide_eq_false q1, decide_eq_true q2⟩)⟩
      · by_cases q3 : c.b < m.B.lo
        · exact .inl ⟨by omega, .inr (.inr (.inl ⟨decide_eq_false q1, decide_eq_false q2, decide_eq_true q3⟩))⟩
        · by_cases q4 : m.B.hi < c.b
          · exact .inl ⟨by omega, .inr (.inr (.inr ⟨decide_eq_false q1, decide_eq_false q2, decide_eq_false q3, decide_eq_true q4⟩))⟩
          · exact .inr ⟨by omega, decide_eq_false q1, decide_eq_false q2, decide_eq_false q3, decide_eq_false q4⟩
  clear hd hkd hk hf hf2 hla hlb hF
  unfold CmdS.val
  go_enter Tryd.func69, Tryd.ntmps69
  go_wp2_with fail
  clear e0 e1 e2 e3 c12
  generalize (w.alloc (.cells #[.int .i64 c.num, .string c.s, .int .i64 c.a, .int .i64 c.b] 64)) = W1 at *
  obtain ⟨e0, e1, e2, e3⟩ := four_cells (unhideR HC)
  have c0 : W1.cell? ⟨g, 0, none⟩ = some (.int .i64 m.A.lo) := ((unhideR HM).cell 0 (by decide)).1
  have c1 : W1.cell? ⟨g, 1, none⟩ = some (.int .i64 m.A.hi) := ((unhideR HM).cell 1 (by decide)).1
  have c4 : W1.cell? ⟨g, 4, none⟩ = some (.int .i64 m.B.lo) := ((unhideR HM).cell 4 (by decide)).1
  have c5 : W1.cell? ⟨g, 5, none⟩ = some (.int .i64 m.B.hi) := ((unhideR HM).cell 5 (by decide)).1
  rcases hcase with ⟨hb, hc⟩ | ⟨hb, u1, u2, u3, u4⟩
  · have hd := unhideR HD
    rw [if_pos hb] at hd
    have HF : HeldR (∀ u, Ref u g m → Chg g w u → DoPost g m c w (.returned (.int .i64 6)) u) := fun u h1 h2 => by
      unfold DoPost
      rw [hd]
      exact ⟨rfl, h1, h2⟩
    clear hd hb HD
    rcases hc with u1 | ⟨u1, u2⟩ | ⟨u1, u2, u3⟩ | ⟨u1, u2, u3, u4⟩
    · skip
      refine wp_region_lets [(· = .pointer (some ⟨w.heap.size, 2, none⟩)),
        (· = .int .i64 c.a),
        (· = .pointer (some ⟨g, 0, none⟩)),
        (· = .pointer (some ⟨g, 0, none⟩)),
        (· = .pointer (some ⟨g, 0, none⟩)),
        (· = .pointer (some ⟨g, 0, none⟩)),
        (· = .int .i64 m.A.lo),
        (· = .bool true),
        (· = .bool true),
        (· = undef),
        (· = undef),
        (· = undef),
        (· = undef),
        (· = undef),
        (· = undef),
        (· = undef),
        (· = undef),
        (· = .bool true),
        (· = .bool true),
        (· = undef),
        (· = undef),
        (· = undef),
        (· = undef),
        (· = undef),
        (· = undef),
        (· = undef),
        (· = undef),
        (· = .bool true),
        (· = .bool true),
        (· = undef),
        (· = undef),
        (· = undef),
        (· = undef),
        (· = undef),
        (· = undef),
        (· = undef),
        (· = undef),
        (· = .bool true)] (by kernel_rfl) (by kernel_rfl) ?_
      refine lexL_step (fun K hK => ⟨by kernel_rfl, ⟨_, rfl⟩, fun n => ?_, fun v hv => ?_⟩)
      · go_simp
        exact lUpon_one
      subst hv
      go_simp
      refine hK _ ?_
      clear hK K
      refine lexL_step (fun K hK => ⟨by kernel_rfl, ⟨_, rfl⟩, fun n => ?_, fun v hv => ?_⟩)
      · go_simp
        exact lUpon_one
      subst hv
      go_simp
      refine hK _ ?_
      clear hK K
      refine lexL_step (fun K hK => ⟨by kernel_rfl, ⟨_, rfl⟩, fun n => ?_, fun v hv => ?_⟩)
      · go_simp
        exact lUpon_one
      subst hv
      go_simp
      refine hK _ ?_
      clear hK K
      refine lexL_step (fun K hK => ⟨by kernel_rfl, ⟨_, rfl⟩, fun n => ?_, fun v hv => ?_⟩)
      · go_simp
        exact lUpon_one
      subst hv
      go_simp
      refine hK _ ?_
      clear hK K
      refine lexL_step (fun K hK => ⟨by kernel_rfl, ⟨_, rfl⟩, fun n => ?_, fun v hv => ?_⟩)
      · go_simp
        exact lUpon_one
      subst hv
      go_simp
      refine hK _ ?_
      clear hK K
      refine lexL_step (fun K hK => ⟨by kernel_rfl, ⟨_, rfl⟩, fun n => ?_, fun v hv => ?_⟩)
      · go_simp
        exact lUpon_one
      subst hv
      go_simp
      refine hK _ ?_
      clear hK K
      refine lexL_step (fun K hK => ⟨by kernel_rfl, ⟨_, rfl⟩, fun n => ?_, fun v hv => ?_⟩)
      · go_simp
        exact lUpon_one
      subst hv
      go_simp
      refine hK _ ?_
      clear hK K
      refine lexL_step (fun K hK => ⟨by kernel_rfl, ⟨_, rfl⟩, fun n => ?_, fun v hv => ?_⟩)
      · go_simp
        exact lUpon_one
      subst hv
      go_simp
      refine hK _ ?_
      clear hK K
      refine lexL_step (fun K hK => ⟨by kernel_rfl, ⟨_, rfl⟩, fun n => ?_, fun v hv => ?_⟩)
      · go_simp
        exact lUpon_one
      subst hv
      go_simp
      refine hK _ ?_
      clear hK K
      refine lexL_skip (fun K hK => ⟨by kernel_rfl, ?_⟩)
      go_simp
      refine hK _ ?_
      clear hK K
      refine lexL_skip (fun K hK => ⟨by kernel_rfl, ?_⟩)
      go_simp
      refine hK _ ?_
      clear hK K
      refine lexL_skip (fun K hK => ⟨by kernel_rfl, ?_⟩)
      go_simp
      refine hK _ ?_
      clear hK K
      refine lexL_skip (fun K hK => ⟨by kernel_rfl, ?_⟩)
      go_simp
      refine hK _ ?_
      clear hK K
      refine lexL_skip (fun K hK => ⟨by kernel_rfl, ?_⟩)
      go_simp
      refine hK _ ?_
      clear hK K
      refine lexL_skip (fun K hK => ⟨by kernel_rfl, ?_⟩)
      go_simp
      refine hK _ ?_
      clear hK K
      refine lexL_skip (fun K hK => ⟨by kernel_rfl, ?_⟩)
      go_simp
      refine hK _ ?_
      clear hK K
      refine lexL_skip (fun K hK => ⟨by kernel_rfl, ?_⟩)
      go_simp
      refine hK _ ?_
      clear hK K
      refine lexL_step (fun K hK => ⟨by kernel_rfl, ⟨_, rfl⟩, fun n => ?_, fun v hv => ?_⟩)
      · go_simp
        exact lUpon_one
      subst hv
      go_simp
      refine hK _ ?_
      clear hK K
      refine lexL_step (fun K hK => ⟨by kernel_rfl, ⟨_, rfl⟩, fun n => ?_, fun v hv => ?_⟩)
      · go_simp
        exact lUpon_one
      subst hv
      go_simp
      refine hK _ ?_
      clear hK K
      refine lexL_skip (fun K hK => ⟨by kernel_rfl, ?_⟩)
      go_simp
      refine hK _ ?_
      clear hK K
      refine lexL_skip (fun K hK => ⟨by kernel_rfl, ?_⟩)
      go_simp
      refine hK _ ?_
      clear hK K
      refine lexL_skip (fun K hK => ⟨by kernel_rfl, ?_⟩)
      go_simp
      refine hK _ ?_
      clear hK K
      refine lexL_skip (fun K hK => ⟨by kernel_rfl, ?_⟩)
      go_simp
      refine hK _ ?_
      clear hK K
      refine lexL_skip (fun K hK => ⟨by kernel_rfl, ?_⟩)
      go_simp
      refine hK _ ?_
      clear hK K
      refine lexL_skip (fun K hK => ⟨by kernel_rfl, ?_⟩)
      go_simp
      refine hK _ ?_
      clear hK K
      refine lexL_skip (fun K hK => ⟨by kernel_rfl, ?_⟩)
      go_simp
      refine hK _ ?_
      clear hK K
      refine lexL_skip (fun K hK => ⟨by kernel_rfl, ?_⟩)
      go_simp
      refine hK _ ?_
      clear hK K
      refine lexL_step (fun K hK => ⟨by kernel_rfl, ⟨_, rfl⟩, fun n => ?_, fun v hv => ?_⟩)
      · go_simp
        exact lUpon_one
      subst hv
      go_simp
      refine hK _ ?_
      clear hK K
      refine lexL_step (fun K hK => ⟨by kernel_rfl, ⟨_, rfl⟩, fun n => ?_, fun v hv => ?_⟩)
      · go_simp
        exact lUpon_one
      subst hv
      go_simp
      refine hK _ ?_
      clear hK K
      refine lexL_skip (fun K hK => ⟨by kernel_rfl, ?_⟩)
      go_simp
      refine hK _ ?_
      clear hK K
      refine lexL_skip (fun K hK => ⟨by kernel_rfl, ?_⟩)
      go_simp
      refine hK _ ?_
      clear hK K
      refine lexL_skip (fun K hK => ⟨by kernel_rfl, ?_⟩)
      go_simp
      refine hK _ ?_
      clear hK K
      refine lexL_skip (fun K hK => ⟨by kernel_rfl, ?_⟩)
      go_simp
      refine hK _ ?_
      clear hK K
      refine lexL_skip (fun K hK => ⟨by kernel_rfl, ?_⟩)
      go_simp
      refine hK _ ?_
      clear hK K
      refine lexL_skip (fun K hK => ⟨by kernel_rfl, ?_⟩)
      go_simp
      refine hK _ ?_
      clear hK K
      refine lexL_skip (fun K hK => ⟨by kernel_rfl, ?_⟩)
      go_simp
      refine hK _ ?_
      clear hK K
      refine lexL_skip (fun K hK => ⟨by kernel_rfl, ?_⟩)
      go_simp
      refine hK _ ?_
      clear hK K
      refine lexL_step (fun K hK => ⟨by kernel_rfl, ⟨_, rfl⟩, fun n => ?_, fun v hv => ?_⟩)
      · go_simp
        exact lUpon_one
      subst hv
      go_simp
      refine hK _ ?_
      clear hK K
      refine lexL_end ?_
      intro n9
      have HX := hideR (unhideR HF _ ((unhideR HM).keep (drawn_below W1 n9)) ((unhideR HK).go (drawn_below W1 n9)))
      go_wp2
      go_ret
      exact unhideR HX
    · skip
      refine wp_region_lets [(· = .pointer (some ⟨w.heap.size, 2, none⟩)),
        (· = .int .i64 c.a),
        (· = .pointer (some ⟨g, 0, none⟩)),
        (· = .pointer (some ⟨g, 0, none⟩)),
        (· = .pointer (some ⟨g, 0, none⟩)),
        (· = .pointer (some ⟨g, 0, none⟩)),
        (· = .int .i64 m.A.lo),
        (· = .bool false),
        (· = .bool false),
        (· = .pointer (some ⟨w.heap.size, 2, none⟩)),
        (· = .int .i64 c.a),
        (· = .pointer (some ⟨g, 0, none⟩)),
        (· = .pointer (some ⟨g, 0, none⟩)),
        (· = .pointer (some ⟨g, 0, none⟩)),
        (· = .pointer (some ⟨g, 1, none⟩)),
        (· = .int .i64 m.A.hi),
        (· = .bool true),
        (· = .bool true),
        (· = .bool true),
        (· = undef),
        (· = undef),
        (· = undef),
        (· = undef),
        (· = undef),
        (· = undef),
        (· = undef),
        (· = undef),
        (· = .bool true),
        (· = .bool true),
        (· = undef),
        (· = undef),
        (· = undef),
        (· = undef),
        (· = undef),
        (· = undef),
        (· = undef),
        (· = undef),
        (· = .bool true)] (by kernel_rfl) (by kernel_rfl) ?_
      refine lexL_step (fun K hK => ⟨by kernel_rfl, ⟨_, rfl⟩, fun n => ?_, fun v hv => ?_⟩)
      · go_simp
        exact lUpon_one
      subst hv
      go_simp
      refine hK _ ?_
      clear hK K
      refine lexL_step (fun K hK => ⟨by kernel_rfl, ⟨_, rfl⟩, fun n => ?_, fun v hv => ?_⟩)
      · go_simp
        exact lUpon_one
      subst hv
      go_simp
      refine hK _ ?_
      clear hK K
      refine lexL_step (fun K hK => ⟨by kernel_rfl, ⟨_, rfl⟩, fun n => ?_, fun v hv => ?_⟩)
      · go_simp
        exact lUpon_one
      subst hv
      go_simp
      refine hK _ ?_
      clear hK K
      refine lexL_step (fun K hK => ⟨by kernel_rfl, ⟨_, rfl⟩, fun n => ?_, fun v hv => ?_⟩)
      · go_simp
        exact lUpon_one
      subst hv
      go_simp
      refine hK _ ?_
      clear hK K
      refine lexL_step (fun K hK => ⟨by kernel_rfl, ⟨_, rfl⟩, fun n => ?_, fun v hv => ?_⟩)
      · go_simp
        exact lUpon_one
      subst hv
      go_simp
      refine hK _ ?_
      clear hK K
      refine lexL_step (fun K hK => ⟨by kernel_rfl, ⟨_, rfl⟩, fun n => ?_, fun v hv => ?_⟩)
      · go_simp
        exact lUpon_one
      subst hv
      go_simp
      refine hK _ ?_
      clear hK K
      refine lexL_step (fun K hK => ⟨by kernel_rfl, ⟨_, rfl⟩, fun n => ?_, fun v hv => ?_⟩)
      · go_simp
        exact lUpon_one
      subst hv
      go_simp
      refine hK _ ?_
      clear hK K
      refine lexL_step (fun K hK => ⟨by kernel_rfl, ⟨_, rfl⟩, fun n => ?_, fun v hv => ?_⟩)
      · go_simp
        exact lUpon_one
      subst hv
      go_simp
      refine hK _ ?_
      clear hK K
      refine lexL_step (fun K hK => ⟨by kernel_rfl, ⟨_, rfl⟩, fun n => ?_, fun v hv => ?_⟩)
      · go_simp
        exact lUpon_one
      subst hv
      go_simp
      refine hK _ ?_
      clear hK K
      refine lexL_step (fun K hK => ⟨by kernel_rfl, ⟨_, rfl⟩, fun n => ?_, fun v hv => ?_⟩)
      · go_simp
        exact lUpon_one
      subst hv
      go_simp
      refine hK _ ?_
      clear hK K
      refine lexL_step (fun K hK => ⟨by kernel_rfl, ⟨_, rfl⟩, fun n => ?_, fun v hv => ?_⟩)
      · go_simp
        exact lUpon_one
      subst hv
      go_simp
      refine hK _ ?_
      clear hK K
      refine lexL_step (fun K hK => ⟨by kernel_rfl, ⟨_, rfl⟩, fun n => ?_, fun v hv => ?_⟩)
      · go_simp
        exact lUpon_one
      subst hv
      go_simp
      refine hK _ ?_
      clear hK K
      refine lexL_step (fun K hK => ⟨by kernel_rfl, ⟨_, rfl⟩, fun n => ?_, fun v hv => ?_⟩)
      · go_simp
        exact lUpon_one
      subst hv
      go_simp
      refine hK _ ?_
      clear hK K
      refine lexL_step (fun K hK => ⟨by kernel_rfl, ⟨_, rfl⟩, fun n => ?_, fun v hv => ?_⟩)
      · go_simp
        exact lUpon_one
      subst hv
      go_simp
      refine hK _ ?_
      clear hK K
      refine lexL_step (fun K hK => ⟨by kernel_rfl, ⟨_, rfl⟩, fun n => ?_, fun v hv => ?_⟩)
      · go_simp
        exact lUpon_one
      subst hv
      go_simp
      refine hK _ ?_
      clear hK K
      refine lexL_step (fun K hK => ⟨by kernel_rfl, ⟨_, rfl⟩, fun n => ?_, fun v hv => ?_⟩)
      · go_simp
        exact lUpon_one
      subst hv
      go_simp
      refine hK _ ?_
      clear hK K
      refine lexL_step (fun K hK => ⟨by kernel_rfl, ⟨_, rfl⟩, fun n => ?_, fun v hv => ?_⟩)
      · go_simp
        exact lUpon_one
      subst hv
      go_simp
      refine hK _ ?_
      clear hK K
      refine lexL_step (fun K hK => ⟨by kernel_rfl, ⟨_, rfl⟩, fun n => ?_, fun v hv => ?_⟩)
      · go_simp
        exact lUpon_one
      subst hv
      go_simp
      refine hK _ ?_
      clear hK K
      refine lexL_step (fun K hK => ⟨by kernel_rfl, ⟨_, rfl⟩, fun n => ?_, fun v hv => ?_⟩)
      · go_simp
        exact lUpon_one
      subst hv
      go_simp
      refine hK _ ?_
      clear hK K
      refine lexL_skip (fun K hK => ⟨by kernel_rfl, ?_⟩)
      go_simp
      refine hK _ ?_
      clear hK K
      refine lexL_skip (fun K hK => ⟨by kernel_rfl, ?_⟩)
      go_simp
      refine hK _ ?_
      clear hK K
      refine lexL_skip (fun K hK => ⟨by kernel_rfl, ?_⟩)
      go_simp
      refine hK _ ?_
      clear hK K
      refine lexL_skip (fun K hK => ⟨by kernel_rfl, ?_⟩)
      go_simp
      refine hK _ ?_
      clear hK K
      refine lexL_skip (fun K hK => ⟨by kernel_rfl, ?_⟩)
      go_simp
      refine hK _ ?_
      clear hK K
      refine lexL_skip (fun K hK => ⟨by kernel_rfl, ?_⟩)
      go_simp
      refine hK _ ?_
      clear hK K
      refine lexL_skip (fun K hK => ⟨by kernel_rfl, ?_⟩)
      go_simp
      refine hK _ ?_
      clear hK K
      refine lexL_skip (fun K hK => ⟨by kernel_rfl, ?_⟩)
      go_simp
      refine hK _ ?_
      clear hK K
      refine lexL_step (fun K hK => ⟨by kernel_rfl, ⟨_, rfl⟩, fun n => ?_, fun v hv => ?_⟩)
      · go_simp
        exact lUpon_one
      subst hv
      go_simp
      refine hK _ ?_
      clear hK K
      refine lexL_step (fun K hK => ⟨by kernel_rfl, ⟨_, rfl⟩, fun n => ?_, fun v hv => ?_⟩)
      · go_simp
        exact lUpon_one
      subst hv
      go_simp
      refine hK _ ?_
      clear hK K
      refine lexL_skip (fun K hK => ⟨by kernel_rfl, ?_⟩)
      go_simp
      refine hK _ ?_
      clear hK K
      refine lexL_skip (fun K hK => ⟨by kernel_rfl, ?_⟩)
      go_simp
      refine hK _ ?_
      clear hK K
      refine lexL_skip (fun K hK => ⟨by kernel_rfl, ?_⟩)
      go_simp
      refine hK _ ?_
      clear hK K
      refine lexL_skip (fun K hK => ⟨by kernel_rfl, ?_⟩)
      go_simp
      refine hK _ ?_
      clear hK K
      refine lexL_skip (fun K hK => ⟨by kernel_rfl, ?_⟩)
      go_simp
      refine hK _ ?_
      clear hK K
      refine lexL_skip (fun K hK => ⟨by kernel_rfl, ?_⟩)
      go_simp
      refine hK _ ?_
      clear hK K
      refine lexL_skip (fun K hK => ⟨by kernel_rfl, ?_⟩)
      go_simp
      refine hK _ ?_
      clear hK K
      refine lexL_skip (fun K hK => ⟨by kernel_rfl, ?_⟩)
      go_simp
      refine hK _ ?_
      clear hK K
      refine lexL_step (fun K hK => ⟨by kernel_rfl, ⟨_, rfl⟩, fun n => ?_, fun v hv => ?_⟩)
      · go_simp
        exact lUpon_one
      subst hv
      go_simp
      refine hK _ ?_
      clear hK K
      refine lexL_end ?_
      intro n9
      have HX := hideR (unhideR HF _ ((unhideR HM).keep (drawn_below W1 n9)) ((unhideR HK).go (drawn_below W1 n9)))
      go_wp2
      go_ret
      exact unhideR HX
    · skip
      refine wp_region_lets [(· = .pointer (some ⟨w.heap.size, 2, none⟩)),
        (· = .int .i64 c.a),
        (· = .pointer (some ⟨g, 0, none⟩)),
        (· = .pointer (some ⟨g, 0, none⟩)),
        (· = .pointer (some ⟨g, 0, none⟩)),
        (· = .pointer (some ⟨g, 0, none⟩)),
        (· = .int .i64 m.A.lo),
        (· = .bool false),
        (· = .bool false),
        (· = .pointer (some ⟨w.heap.size, 2, none⟩)),
        (· = .int .i64 c.a),
        (· = .pointer (some ⟨g, 0, none⟩)),
        (· = .pointer (some ⟨g, 0, none⟩)),
        (· = .pointer (some ⟨g, 0, none⟩)),
        (· = .pointer (some ⟨g, 1, none⟩)),
        (· = .int .i64 m.A.hi),
        (· = .bool false),
        (· = .bool false),
        (· = .bool false),
        (· = .pointer (some ⟨w.heap.size, 3, none⟩)),
        (· = .int .i64 c.b),
        (· = .pointer (some ⟨g, 0, none⟩)),
        (· = .pointer (some ⟨g, 0, none⟩)),
        (· = .pointer (some ⟨g, 4, none⟩)),
        (· = .pointer (some ⟨g, 4, none⟩)),
        (· = .int .i64 m.B.lo),
        (· = .bool true),
        (· = .bool true),
        (· = .bool true),
        (· = undef),
        (· = undef),
        (· = undef),
        (· = undef),
        (· = undef),
        (· = undef),
        (· = undef),
        (· = undef),
        (· = .bool true)] (by kernel_rfl) (by kernel_rfl) ?_
      refine lexL_step (fun K hK => ⟨by kernel_rfl, ⟨_, rfl⟩, fun n => ?_, fun v hv => ?_⟩)
      · go_simp
        exact lUpon_one
      subst hv
      go_simp
      refine hK _ ?_
      clear hK K
      refine lexL_step (fun K hK => ⟨by kernel_rfl, ⟨_, rfl⟩, fun n => ?_, fun v hv => ?_⟩)
      · go_simp
        exact lUpon_one
      subst hv
      go_simp
      refine hK _ ?_
      clear hK K
      refine lexL_step (fun K hK => ⟨by kernel_rfl, ⟨_, rfl⟩, fun n => ?_, fun v hv => ?_⟩)
      · go_simp
        exact lUpon_one
      subst hv
      go_simp
      refine hK _ ?_
      clear hK K
      refine lexL_step (fun K hK => ⟨by kernel_rfl, ⟨_, rfl⟩, fun n => ?_, fun v hv => ?_⟩)
      · go_simp
        exact lUpon_one
      subst hv
      go_simp
      refine hK _ ?_
      clear hK K
      refine lexL_step (fun K hK => ⟨by kernel_rfl, ⟨_, rfl⟩, fun n => ?_, fun v hv => ?_⟩)
      · go_simp
        exact lUpon_one
      subst hv
      go_simp
      refine hK _ ?_
      clear hK K
      refine lexL_step (fun K hK => ⟨by kernel_rfl, ⟨_, rfl⟩, fun n => ?_, fun v hv => ?_⟩)
      · go_simp
        exact lUpon_one
      subst hv
      go_simp
      refine hK _ ?_
      clear hK K
      refine lexL_step (fun K hK => ⟨by kernel_rfl, ⟨_, rfl⟩, fun n => ?_, fun v hv => ?_⟩)
      · go_simp
        exact lUpon_one
      subst hv
      go_simp
      refine hK _ ?_
      clear hK K
      refine lexL_step (fun K hK => ⟨by kernel_rfl, ⟨_, rfl⟩, fun n => ?_, fun v hv => ?_⟩)
      · go_simp
        exact lUpon_one
      subst hv
      go_simp
      refine hK _ ?_
      clear hK K
      refine lexL_step (fun K hK => ⟨by kernel_rfl, ⟨_, rfl⟩, fun n => ?_, fun v hv => ?_⟩)
      · go_simp
        exact lUpon_one
      subst hv
      go_simp
      refine hK _ ?_
      clear hK K
      refine lexL_step (fun K hK => ⟨by kernel_rfl, ⟨_, rfl⟩, fun n => ?_, fun v hv => ?_⟩)
      · go_simp
        exact lUpon_one
      subst hv
      go_simp
      refine hK _ ?_
      clear hK K
      refine lexL_step (fun K hK => ⟨by kernel_rfl, ⟨_, rfl⟩, fun n => ?_, fun v hv => ?_⟩)
      · go_simp
        exact lUpon_one
      subst hv
      go_simp
      refine hK _ ?_
      clear hK K
      refine lexL_step (fun K hK => ⟨by kernel_rfl, ⟨_, rfl⟩, fun n => ?_, fun v hv => ?_⟩)
      · go_simp
        exact lUpon_one
      subst hv
      go_simp
      refine hK _ ?_
      clear hK K
      refine lexL_step (fun K hK => ⟨by kernel_rfl, ⟨_, rfl⟩, fun n => ?_, fun v hv => ?_⟩)
      · go_simp
        exact lUpon_one
      subst hv
      go_simp
      refine hK _ ?_
      clear hK K
      refine lexL_step (fun K hK => ⟨by kernel_rfl, ⟨_, rfl⟩, fun n => ?_, fun v hv => ?_⟩)
      · go_simp
        exact lUpon_one
      subst hv
      go_simp
      refine hK _ ?_
      clear hK K
      refine lexL_step (fun K hK => ⟨by kernel_rfl, ⟨_, rfl⟩, fun n => ?_, fun v hv => ?_⟩)
      · go_simp
        exact lUpon_one
      subst hv
      go_simp
      refine hK _ ?_
      clear hK K
      refine lexL_step (fun K hK => ⟨by kernel_rfl, ⟨_, rfl⟩, fun n => ?_, fun v hv => ?_⟩)
      · go_simp
        exact lUpon_one
      subst hv
      go_simp
      refine hK _ ?_
      clear hK K
      refine lexL_step (fun K hK => ⟨by kernel_rfl, ⟨_, rfl⟩, fun n => ?_, fun v hv => ?_⟩)
      · go_simp
        exact lUpon_one
      subst hv
      go_simp
      refine hK _ ?_
      clear hK K
      refine lexL_step (fun K hK => ⟨by kernel_rfl, ⟨_, rfl⟩, fun n => ?_, fun v hv => ?_⟩)
      · go_simp
        exact lUpon_one
      subst hv
      go_simp
      refine hK _ ?_
      clear hK K
      refine lexL_step (fun K hK => ⟨by kernel_rfl, ⟨_, rfl⟩, fun n => ?_, fun v hv => ?_⟩)
      · go_simp
        exact lUpon_one
      subst hv
      go_simp
      refine hK _ ?_
      clear hK K
      refine lexL_step (fun K hK => ⟨by kernel_rfl, ⟨_, rfl⟩, fun n => ?_, fun v hv => ?_⟩)
      · go_simp
        exact lUpon_one
      subst hv
      go_simp
      refine hK _ ?_
      clear hK K
      refine lexL_step (fun K hK => ⟨by kernel_rfl, ⟨_, rfl⟩, fun n => ?_, fun v hv => ?_⟩)
      · go_simp
        exact lUpon_one
      subst hv
      go_simp
      refine hK _ ?_
      clear hK K
      refine lexL_step (fun K hK => ⟨by kernel_rfl, ⟨_, rfl⟩, fun n => ?_, fun v hv => ?_⟩)
      · go_simp
        exact lUpon_one
      subst hv
      go_simp
      refine hK _ ?_
      clear hK K
      refine lexL_step (fun K hK => ⟨by kernel_rfl, ⟨_, rfl⟩, fun n => ?_, fun v hv => ?_⟩)
      · go_simp
        exact lUpon_one
      subst hv
      go_simp
      refine hK _ ?_
      clear hK K
      refine lexL_step (fun K hK => ⟨by kernel_rfl, ⟨_, rfl⟩, fun n => ?_, fun v hv => ?_⟩)
      · go_simp
        exact lUpon_one
      subst hv
      go_simp
      refine hK _ ?_
      clear hK K
      refine lexL_step (fun K hK => ⟨by kernel_rfl, ⟨_, rfl⟩, fun n => ?_, fun v hv => ?_⟩)
      · go_simp
        exact lUpon_one
      subst hv
      go_simp
      refine hK _ ?_
      clear hK K
      refine lexL_step (fun K hK => ⟨by kernel_rfl, ⟨_, rfl⟩, fun n => ?_, fun v hv => ?_⟩)
      · go_simp
        exact lUpon_one
      subst hv
      go_simp
      refine hK _ ?_
      clear hK K
      refine lexL_step (fun K hK => ⟨by kernel_rfl, ⟨_, rfl⟩, fun n => ?_, fun v hv => ?_⟩)
      · go_simp
        exact lUpon_one
      subst hv
      go_simp
      refine hK _ ?_
      clear hK K
      refine lexL_step (fun K hK => ⟨by kernel_rfl, ⟨_, rfl⟩, fun n => ?_, fun v hv => ?_⟩)
      · go_simp
        exact lUpon_one
      subst hv
      go_simp
      refine hK _ ?_
      clear hK K
      refine lexL_step (fun K hK => ⟨by kernel_rfl, ⟨_, rfl⟩, fun n => ?_, fun v hv => ?_⟩)
      · go_simp
        exact lUpon_one
      subst hv
      go_simp
      refine hK _ ?_
      clear hK K
      refine lexL_skip (fun K hK => ⟨by kernel_rfl, ?_⟩)
      go_simp
      refine hK _ ?_
      clear hK K
      refine lexL_skip (fun K hK => ⟨by kernel_rfl, ?_⟩)
      go_simp
      refine hK _ ?_
      clear hK K
      refine lexL_skip (fun K hK => ⟨by kernel_rfl, ?_⟩)
      go_simp
      refine hK _ ?_
      clear hK K
      refine lexL_skip (fun K hK => ⟨by kernel_rfl, ?_⟩)
      go_simp
      refine hK _ ?_
      clear hK K
      refine lexL_skip (fun K hK => ⟨by kernel_rfl, ?_⟩)
      go_simp
      refine hK _ ?_
      clear hK K
      refine lexL_skip (fun K hK => ⟨by kernel_rfl, ?_⟩)
      go_simp
      refine hK _ ?_
      clear hK K
      refine lexL_skip (fun K hK => ⟨by kernel_rfl, ?_⟩)
      go_simp
      refine hK _ ?_
      clear hK K
      refine lexL_skip (fun K hK => ⟨by kernel_rfl, ?_⟩)
      go_simp
      refine hK _ ?_
      clear hK K
      refine lexL_step (fun K hK => ⟨by kernel_rfl, ⟨_, rfl⟩, fun n => ?_, fun v hv => ?_⟩)
      · go_simp
        exact lUpon_one
      subst hv
      go_simp
      refine hK _ ?_
      clear hK K
      refine lexL_end ?_
      intro n9
      have HX := hideR (unhideR HF _ ((unhideR HM).keep (drawn_below W1 n9)) ((unhideR HK).go (drawn_below W1 n9)))
      go_wp2
      go_ret
      exact unhideR HX
    · skip
      refine wp_region_lets [(· = .pointer (some ⟨w.heap.size, 2, none⟩)),
        (· = .int .i64 c.a),
        (· = .pointer (some ⟨g, 0, none⟩)),
        (· = .pointer (some ⟨g, 0, none⟩)),
        (· = .pointer (some ⟨g, 0, none⟩)),
        (· = .pointer (some ⟨g, 0, none⟩)),
        (· = .int .i64 m.A.lo),
        (· = .bool false),
        (· = .bool false),
        (· = .pointer (some ⟨w.heap.size, 2, none⟩)),
        (· = .int .i64 c.a),
        (· = .pointer (some ⟨g, 0, none⟩)),
        (· = .pointer (some ⟨g, 0, none⟩)),
        (· = .pointer (some ⟨g, 0, none⟩)),
        (· = .pointer (some ⟨g, 1, none⟩)),
        (· = .int .i64 m.A.hi),
        (· = .bool false),
        (· = .bool false),
        (· = .bool false),
        (· = .pointer (some ⟨w.heap.size, 3, none⟩)),
        (· = .int .i64 c.b),
        (· = .pointer (some ⟨g, 0, none⟩)),
        (· = .pointer (some ⟨g, 0, none⟩)),
        (· = .pointer (some ⟨g, 4, none⟩)),
        (· = .pointer (some ⟨g, 4, none⟩)),
        (· = .int .i64 m.B.lo),
        (· = .bool false),
        (· = .bool false),
        (· = .bool false),
        (· = .pointer (some ⟨w.heap.size, 3, none⟩)),
        (· = .int .i64 c.b),
        (· = .pointer (some ⟨g, 0, none⟩)),
        (· = .pointer (some ⟨g, 0, none⟩)),
        (· = .pointer (some ⟨g, 4, none⟩)),
        (· = .pointer (some ⟨g, 5, none⟩)),
        (· = .int .i64 m.B.hi),
        (· = .bool true),
        (· = .bool true)] (by kernel_rfl) (by kernel_rfl) ?_
      refine lexL_step (fun K hK => ⟨by kernel_rfl, ⟨_, rfl⟩, fun n => ?_, fun v hv => ?_⟩)
      · go_simp
        exact lUpon_one
      subst hv
      go_simp
      refine hK _ ?_
      clear hK K
      refine lexL_step (fun K hK => ⟨by kernel_rfl, ⟨_, rfl⟩, fun n => ?_, fun v hv => ?_⟩)
      · go_simp
        exact lUpon_one
      subst hv
      go_simp
      refine hK _ ?_
      clear hK K
      refine lexL_step (fun K hK => ⟨by kernel_rfl, ⟨_, rfl⟩, fun n => ?_, fun v hv => ?_⟩)
      · go_simp
        exact lUpon_one
      subst hv
      go_simp
      refine hK _ ?_
      clear hK K
      refine lexL_step (fun K hK => ⟨by kernel_rfl, ⟨_, rfl⟩, fun n => ?_, fun v hv => ?_⟩)
      · go_simp
        exact lUpon_one
      subst hv
      go_simp
      refine hK _ ?_
      clear hK K
      refine lexL_step (fun K hK => ⟨by kernel_rfl, ⟨_, rfl⟩, fun n => ?_, fun v hv => ?_⟩)
      · go_simp
        exact lUpon_one
      subst hv
      go_simp
      refine hK _ ?_
      clear hK K
      refine lexL_step (fun K hK => ⟨by kernel_rfl, ⟨_, rfl⟩, fun n => ?_, fun v hv => ?_⟩)
      · go_simp
        exact lUpon_one
      subst hv
      go_simp
      refine hK _ ?_
      clear hK K
      refine lexL_step (fun K hK => ⟨by kernel_rfl, ⟨_, rfl⟩, fun n => ?_, fun v hv => ?_⟩)
      · go_simp
        exact lUpon_one
      subst hv
      go_simp
      refine hK _ ?_
      clear hK K
      refine lexL_step (fun K hK => ⟨by kernel_rfl, ⟨_, rfl⟩, fun n => ?_, fun v hv => ?_⟩)
      · go_simp
        exact lUpon_one
      subst hv
      go_simp
      refine hK _ ?_
      clear hK K
      refine lexL_step (fun K hK => ⟨by kernel_rfl, ⟨_, rfl⟩, fun n => ?_, fun v hv => ?_⟩)
      · go_simp
        exact lUpon_one
      subst hv
      go_simp
      refine hK _ ?_
      clear hK K
      refine lexL_step (fun K hK => ⟨by kernel_rfl, ⟨_, rfl⟩, fun n => ?_, fun v hv => ?_⟩)
      · go_simp
        exact lUpon_one
      subst hv
      go_simp
      refine hK _ ?_
      clear hK K
      refine lexL_step (fun K hK => ⟨by kernel_rfl, ⟨_, rfl⟩, fun n => ?_, fun v hv => ?_⟩)
      · go_simp
        exact lUpon_one
      subst hv
      go_simp
      refine hK _ ?_
      clear hK K
      refine lexL_step (fun K hK => ⟨by kernel_rfl, ⟨_, rfl⟩, fun n => ?_, fun v hv => ?_⟩)
      · go_simp
        exact lUpon_one
      subst hv
      go_simp
      refine hK _ ?_
      clear hK K
      refine lexL_step (fun K hK => ⟨by kernel_rfl, ⟨_, rfl⟩, fun n => ?_, fun v hv => ?_⟩)
      · go_simp
        exact lUpon_one
      subst hv
      go_simp
      refine hK _ ?_
      clear hK K
      refine lexL_step (fun K hK => ⟨by kernel_rfl, ⟨_, rfl⟩, fun n => ?_, fun v hv => ?_⟩)
      · go_simp
        exact lUpon_one
      subst hv
      go_simp
      refine hK _ ?_
      clear hK K
      refine lexL_step (fun K hK => ⟨by kernel_rfl, ⟨_, rfl⟩, fun n => ?_, fun v hv => ?_⟩)
      · go_simp
        exact lUpon_one
      subst hv
      go_simp
      refine hK _ ?_
      clear hK K
      refine lexL_step (fun K hK => ⟨by kernel_rfl, ⟨_, rfl⟩, fun n => ?_, fun v hv => ?_⟩)
      · go_simp
        exact lUpon_one
      subst hv
      go_simp
      refine hK _ ?_
      clear hK K
      refine lexL_step (fun K hK => ⟨by kernel_rfl, ⟨_, rfl⟩, fun n => ?_, fun v hv => ?_⟩)
      · go_simp
        exact lUpon_one
      subst hv
      go_simp
      refine hK _ ?_
      clear hK K
      refine lexL_step (fun K hK => ⟨by kernel_rfl, ⟨_, rfl⟩, fun n => ?_, fun v hv => ?_⟩)
      · go_simp
        exact lUpon_one
      subst hv
      go_simp
      refine hK _ ?_
      clear hK K
      refine lexL_step (fun K hK => ⟨by kernel_rfl, ⟨_, rfl⟩, fun n => ?_, fun v hv => ?_⟩)
      · go_simp
        exact lUpon_one
      subst hv
      go_simp
      refine hK _ ?_
      clear hK K
      refine lexL_step (fun K hK => ⟨by kernel_rfl, ⟨_, rfl⟩, fun n => ?_, fun v hv => ?_⟩)
      · go_simp
        exact lUpon_one
      subst hv
      go_simp
      refine hK _ ?_
      clear hK K
      refine lexL_step (fun K hK => ⟨by kernel_rfl, ⟨_, rfl⟩, fun n => ?_, fun v hv => ?_⟩)
      · go_simp
        exact lUpon_one
      subst hv
      go_simp
      refine hK _ ?_
      clear hK K
      refine lexL_step (fun K hK => ⟨by kernel_rfl, ⟨_, rfl⟩, fun n => ?_, fun v hv => ?_⟩)
      · go_simp
        exact lUpon_one
      subst hv
      go_simp
      refine hK _ ?_
      clear hK K
      refine lexL_step (fun K hK => ⟨by kernel_rfl, ⟨_, rfl⟩, fun n => ?_, fun v hv => ?_⟩)
      · go_simp
        exact lUpon_one
      subst hv
      go_simp
      refine hK _ ?_
      clear hK K
      refine lexL_step (fun K hK => ⟨by kernel_rfl, ⟨_, rfl⟩, fun n => ?_, fun v hv => ?_⟩)
      · go_simp
        exact lUpon_one
      subst hv
      go_simp
      refine hK _ ?_
      clear hK K
      refine lexL_step (fun K hK => ⟨by kernel_rfl, ⟨_, rfl⟩, fun n => ?_, fun v hv => ?_⟩)
      · go_simp
        exact lUpon_one
      subst hv
      go_simp
      refine hK _ ?_
      clear hK K
      refine lexL_step (fun K hK => ⟨by kernel_rfl, ⟨_, rfl⟩, fun n => ?_, fun v hv => ?_⟩)
      · go_simp
        exact lUpon_one
      subst hv
      go_simp
      refine hK _ ?_
      clear hK K
      refine lexL_step (fun K hK => ⟨by kernel_rfl, ⟨_, rfl⟩, fun n => ?_, fun v hv => ?_⟩)
      · go_simp
        exact lUpon_one
      subst hv
      go_simp
      refine hK _ ?_
      clear hK K
      refine lexL_step (fun K hK => ⟨by kernel_rfl, ⟨_, rfl⟩, fun n => ?_, fun v hv => ?_⟩)
      · go_simp
        exact lUpon_one
      subst hv
      go_simp
      refine hK _ ?_
      clear hK K
      refine lexL_step (fun K hK => ⟨by kernel_rfl, ⟨_, rfl⟩, fun n => ?_, fun v hv => ?_⟩)
      · go_simp
        exact lUpon_one
      subst hv
      go_simp
      refine hK _ ?_
      clear hK K
      refine lexL_step (fun K hK => ⟨by kernel_rfl, ⟨_, rfl⟩, fun n => ?_, fun v hv => ?_⟩)
      · go_simp
        exact lUpon_one
      subst hv
      go_simp
      refine hK _ ?_
      clear hK K
      refine lexL_step (fun K hK => ⟨by kernel_rfl, ⟨_, rfl⟩, fun n => ?_, fun v hv => ?_⟩)
      · go_simp
        exact lUpon_one
      subst hv
      go_simp
      refine hK _ ?_
      clear hK K
      refine lexL_step (fun K hK => ⟨by kernel_rfl, ⟨_, rfl⟩, fun n => ?_, fun v hv => ?_⟩)
      · go_simp
        exact lUpon_one
      subst hv
      go_simp
      refine hK _ ?_
      clear hK K
      refine lexL_step (fun K hK => ⟨by kernel_rfl, ⟨_, rfl⟩, fun n => ?_, fun v hv => ?_⟩)
      · go_simp
        exact lUpon_one
      subst hv
      go_simp
      refine hK _ ?_
      clear hK K
      refine lexL_step (fun K hK => ⟨by kernel_rfl, ⟨_, rfl⟩, fun n => ?_, fun v hv => ?_⟩)
      · go_simp
        exact lUpon_one
      subst hv
      go_simp
      refine hK _ ?_
      clear hK K
      refine lexL_step (fun K hK => ⟨by kernel_rfl, ⟨_, rfl⟩, fun n => ?_, fun v hv => ?_⟩)
      · go_simp
        exact lUpon_one
      subst hv
      go_simp
      refine hK _ ?_
      clear hK K
      refine lexL_step (fun K hK => ⟨by kernel_rfl, ⟨_, rfl⟩, fun n => ?_, fun v hv => ?_⟩)
      · go_simp
        exact lUpon_one
      subst hv
      go_simp
      refine hK _ ?_
      clear hK K
      refine lexL_step (fun K hK => ⟨by kernel_rfl, ⟨_, rfl⟩, fun n => ?_, fun v hv => ?_⟩)
      · go_simp
        exact lUpon_one
      subst hv
      go_simp
      refine hK _ ?_
      clear hK K
      refine lexL_step (fun K hK => ⟨by kernel_rfl, ⟨_, rfl⟩, fun n => ?_, fun v hv => ?_⟩)
      · go_simp
        exact lUpon_one
      subst hv
      go_simp
      refine hK _ ?_
      clear hK K
      refine lexL_end ?_
      intro n9
      have HX := hideR (unhideR HF _ ((unhideR HM).keep (drawn_below W1 n9)) ((unhideR HK).go (drawn_below W1 n9)))
      go_wp2
      go_ret
      exact unhideR HX
  · have hd := unhideR HD
    rw [if_neg hb] at hd
    clear hb HD
    refine wp_region_lets [(· = .pointer (some ⟨w.heap.size, 2, none⟩)),
      (· = .int .i64 c.a),
      (· = .pointer (some ⟨g, 0, none⟩)),
      (· = .pointer (some ⟨g, 0, none⟩)),
      (· = .pointer (some ⟨g, 0, none⟩)),
      (· = .pointer (some ⟨g, 0, none⟩)),
      (· = .int .i64 m.A.lo),
      (· = .bool false),
      (· = .bool false),
      (· = .pointer (some ⟨w.heap.size, 2, none⟩)),
      (· = .int .i64 c.a),
      (· = .pointer (some ⟨g, 0, none⟩)),
      (· = .pointer (some ⟨g, 0, none⟩)),
      (· = .pointer (some ⟨g, 0, none⟩)),
      (· = .pointer (some ⟨g, 1, none⟩)),
      (· = .int .i64 m.A.hi),
      (· = .bool false),
      (· = .bool false),
      (· = .bool false),
      (· = .pointer (some ⟨w.heap.size, 3, none⟩)),
      (· = .int .i64 c.b),
      (· = .pointer (some ⟨g, 0, none⟩)),
      (· = .pointer (some ⟨g, 0, none⟩)),
      (· = .pointer (some ⟨g, 4, none⟩)),
      (· = .pointer (some ⟨g, 4, none⟩)),
      (· = .int .i64 m.B.lo),
      (· = .bool false),
      (· = .bool false),
      (· = .bool false),
      (· = .pointer (some ⟨w.heap.size, 3, none⟩)),
      (· = .int .i64 c.b),
      (· = .pointer (some ⟨g, 0, none⟩)),
      (· = .pointer (some ⟨g, 0, none⟩)),
      (· = .pointer (some ⟨g, 4, none⟩)),
      (· = .pointer (some ⟨g, 5, none⟩)),
      (· = .int .i64 m.B.hi),
      (· = .bool false),
      (· = .bool false)] (by kernel_rfl) (by kernel_rfl) ?_
    refine lexL_step (fun K hK => ⟨by kernel_rfl, ⟨_, rfl⟩, fun n => ?_, fun v hv => ?_⟩)
    · go_simp
      exact lUpon_one
    subst hv
    go_simp
    refine hK _ ?_
    clear hK K
    refine lexL_step (fun K hK => ⟨by kernel_rfl, ⟨_, rfl⟩, fun n => ?_, fun v hv => ?_⟩)
    · go_simp
      exact lUpon_one
    subst hv
    go_simp
    refine hK _ ?_
    clear hK K
    refine lexL_step (fun K hK => ⟨by kernel_rfl, ⟨_, rfl⟩, fun n => ?_, fun v hv => ?_⟩)
    · go_simp
      exact lUpon_one
    subst hv
    go_simp
    refine hK _ ?_
    clear hK K
    refine lexL_step (fun K hK => ⟨by kernel_rfl, ⟨_, rfl⟩, fun n => ?_, fun v hv => ?_⟩)
    · go_simp
      exact lUpon_one
    subst hv
    go_simp
    refine hK _ ?_
    clear hK K
    refine lexL_step (fun K hK => ⟨by kernel_rfl, ⟨_, rfl⟩, fun n => ?_, fun v hv => ?_⟩)
    · go_simp
      exact lUpon_one
    subst hv
    go_simp
    refine hK _ ?_
    clear hK K
    refine lexL_step (fun K hK => ⟨by kernel_rfl, ⟨_, rfl⟩, fun n => ?_, fun v hv => ?_⟩)
    · go_simp
      exact lUpon_one
    subst hv
    go_simp
    refine hK _ ?_
    clear hK K
    refine lexL_step (fun K hK => ⟨by kernel_rfl, ⟨_, rfl⟩, fun n => ?_, fun v hv => ?_⟩)
    · go_simp
      exact lUpon_one
    subst hv
    go_simp
    refine hK _ ?_
    clear hK K
    refine lexL_step (fun K hK => ⟨by kernel_rfl, ⟨_, rfl⟩, fun n => ?_, fun v hv => ?_⟩)
    · go_simp
      exact lUpon_one
    subst hv
    go_simp
    refine hK _ ?_
    clear hK K
    refine lexL_step (fun K hK => ⟨by kernel_rfl, ⟨_, rfl⟩, fun n => ?_, fun v hv => ?_⟩)
    · go_simp
      exact lUpon_one
    subst hv
    go_simp
    refine hK _ ?_
    clear hK K
    refine lexL_step (fun K hK => ⟨by kernel_rfl, ⟨_, rfl⟩, fun n => ?_, fun v hv => ?_⟩)
    · go_simp
      exact lUpon_one
    subst hv
    go_simp
    refine hK _ ?_
    clear hK K
    refine lexL_step (fun K hK => ⟨by kernel_rfl, ⟨_, rfl⟩, fun n => ?_, fun v hv => ?_⟩)
    · go_simp
      exact lUpon_one
    subst hv
    go_simp
    refine hK _ ?_
    clear hK K
    refine lexL_step (fun K hK => ⟨by kernel_rfl, ⟨_, rfl⟩, fun n => ?_, fun v hv => ?_⟩)
    · go_simp
      exact lUpon_one
    subst hv
    go_simp
    refine hK _ ?_
    clear hK K
    refine lexL_step (fun K hK => ⟨by kernel_rfl, ⟨_, rfl⟩, fun n => ?_, fun v hv => ?_⟩)
    · go_simp
      exact lUpon_one
    subst hv
    go_simp
    refine hK _ ?_
    clear hK K
    refine lexL_step (fun K hK => ⟨by kernel_rfl, ⟨_, rfl⟩, fun n => ?_, fun v hv => ?_⟩)
    · go_simp
      exact lUpon_one
    subst hv
    go_simp
    refine hK _ ?_
    clear hK K
    refine lexL_step (fun K hK => ⟨by kernel_rfl, ⟨_, rfl⟩, fun n => ?_, fun v hv => ?_⟩)
    · go_simp
      exact lUpon_one
    subst hv
    go_simp
    refine hK _ ?_
    clear hK K
    refine lexL_step (fun K hK => ⟨by kernel_rfl, ⟨_, rfl⟩, fun n => ?_, fun v hv => ?_⟩)
    · go_simp
      exact lUpon_one
    subst hv
    go_simp
    refine hK _ ?_
    clear hK K
    refine lexL_step (fun K hK => ⟨by kernel_rfl, ⟨_, rfl⟩, fun n => ?_, fun v hv => ?_⟩)
    · go_simp
      exact lUpon_one
    subst hv
    go_simp
    refine hK _ ?_
    clear hK K
    refine lexL_step (fun K hK => ⟨by kernel_rfl, ⟨_, rfl⟩, fun n => ?_, fun v hv => ?_⟩)
    · go_simp
      exact lUpon_one
    subst hv
    go_simp
    refine hK _ ?_
    clear hK K
    refine lexL_step (fun K hK => ⟨by kernel_rfl, ⟨_, rfl⟩, fun n => ?_, fun v hv => ?_⟩)
    · go_simp
      exact lUpon_one
    subst hv
    go_simp
    refine hK _ ?_
    clear hK K
    refine lexL_step (fun K hK => ⟨by kernel_rfl, ⟨_, rfl⟩, fun n => ?_, fun v hv => ?_⟩)
    · go_simp
      exact lUpon_one
    subst hv
    go_simp
    refine hK _ ?_
    clear hK K
    refine lexL_step (fun K hK => ⟨by kernel_rfl, ⟨_, rfl⟩, fun n => ?_, fun v hv => ?_⟩)
    · go_simp
      exact lUpon_one
    subst hv
    go_simp
    refine hK _ ?_
    clear hK K
    refine lexL_step (fun K hK => ⟨by kernel_rfl, ⟨_, rfl⟩, fun n => ?_, fun v hv => ?_⟩)
    · go_simp
      exact lUpon_one
    subst hv
    go_simp
    refine hK _ ?_
    clear hK K
    refine lexL_step (fun K hK => ⟨by kernel_rfl, ⟨_, rfl⟩, fun n => ?_, fun v hv => ?_⟩)
    · go_simp
      exact lUpon_one
    subst hv
    go_simp
    refine hK _ ?_
    clear hK K
    refine lexL_step (fun K hK => ⟨by kernel_rfl, ⟨_, rfl⟩, fun n => ?_, fun v hv => ?_⟩)
    · go_simp
      exact lUpon_one
    subst hv
    go_simp
    refine hK _ ?_
    clear hK K
    refine lexL_step (fun K hK => ⟨by kernel_rfl, ⟨_, rfl⟩, fun n => ?_, fun v hv => ?_⟩)
    · go_simp
      exact lUpon_one
    subst hv
    go_simp
    refine hK _ ?_
    clear hK K
    refine lexL_step (fun K hK => ⟨by kernel_rfl, ⟨_, rfl⟩, fun n => ?_, fun v hv => ?_⟩)
    · go_simp
      exact lUpon_one
    subst hv
    go_simp
    refine hK _ ?_
    clear hK K
    refine lexL_step (fun K hK => ⟨by kernel_rfl, ⟨_, rfl⟩, fun n => ?_, fun v hv => ?_⟩)
    · go_simp
      exact lUpon_one
    subst hv
    go_simp
    refine hK _ ?_
    clear hK K
    refine lexL_step (fun K hK => ⟨by kernel_rfl, ⟨_, rfl⟩, fun n => ?_, fun v hv => ?_⟩)
    · go_simp
      exact lUpon_one
    subst hv
    go_simp
    refine hK _ ?_
    clear hK K
    refine lexL_step (fun K hK => ⟨by kernel_rfl, ⟨_, rfl⟩, fun n => ?_, fun v hv => ?_⟩)
    · go_simp
      exact lUpon_one
    subst hv
    go_simp
    refine hK _ ?_
    clear hK K
    refine lexL_step (fun K hK => ⟨by kernel_rfl, ⟨_, rfl⟩, fun n => ?_, fun v hv => ?_⟩)
    · go_simp
      exact lUpon_one
    subst hv
    go_simp
    refine hK _ ?_
    clear hK K
    refine lexL_step (fun K hK => ⟨by kernel_rfl, ⟨_, rfl⟩, fun n => ?_, fun v hv => ?_⟩)
    · go_simp
      exact lUpon_one
    subst hv
    go_simp
    refine hK _ ?_
    clear hK K
    refine lexL_step (fun K hK => ⟨by kernel_rfl, ⟨_, rfl⟩, fun n => ?_, fun v hv => ?_⟩)
    · go_simp
      exact lUpon_one
    subst hv
    go_simp
    refine hK _ ?_
    clear hK K
    refine lexL_step (fun K hK => ⟨by kernel_rfl, ⟨_, rfl⟩, fun n => ?_, fun v hv => ?_⟩)
    · go_simp
      exact lUpon_one
    subst hv
    go_simp
    refine hK _ ?_
    clear hK K
    refine lexL_step (fun K hK => ⟨by kernel_rfl, ⟨_, rfl⟩, fun n => ?_, fun v hv => ?_⟩)
    · go_simp
      exact lUpon_one
    subst hv
    go_simp
    refine hK _ ?_
    clear hK K
    refine lexL_step (fun K hK => ⟨by kernel_rfl, ⟨_, rfl⟩, fun n => ?_, fun v hv => ?_⟩)
    · go_simp
      exact lUpon_one
    subst hv
    go_simp
    refine hK _ ?_
    clear hK K
    refine lexL_step (fun K hK => ⟨by kernel_rfl, ⟨_, rfl⟩, fun n => ?_, fun v hv => ?_⟩)
    · go_simp
      exact lUpon_one
    subst hv
    go_simp
    refine hK _ ?_
    clear hK K
    refine lexL_step (fun K hK => ⟨by kernel_rfl, ⟨_, rfl⟩, fun n => ?_, fun v hv => ?_⟩)
    · go_simp
      exact lUpon_one
    subst hv
    go_simp
    refine hK _ ?_
    clear hK K
    refine lexL_step (fun K hK => ⟨by kernel_rfl, ⟨_, rfl⟩, fun n => ?_, fun v hv => ?_⟩)
    · go_simp
      exact lUpon_one
    subst hv
    go_simp
    refine hK _ ?_
    clear hK K
    refine lexL_end ?_
    intro n9
    replace HM := hideR ((unhideR HM).keep (drawn_below W1 n9))
    replace HK := hideR ((unhideR HK).go (drawn_below W1 n9))
    replace HC := hideR (keepB (unhideR HC) (drawn_below W1 n9))
    clear e0 e1 e2 e3 c0 c1 c4 c5
    generalize W1.drewN n9 = W2 at *
    by_cases h3 : m.st = 3
    · rw [if_pos h3] at hd
      have HX : HeldR (DoPost g m c w (.returned (.int .i64 7)) W2) := by
        unfold HeldR DoPost
        rw [hd]
        exact ⟨rfl, unhideR HM, unhideR HK⟩
      have t3 : (m.st == 3) = true := by simp [h3]
      clear hd h3
      go_wp2
      all_goals
        go_ret
        exact unhideR HX
    · rw [if_neg h3] at hd
      obtain ⟨e0, e1, e2, e3⟩ := four_cells (unhideR HC)
      have d10 := (unhideR HM).cell 10 (by decide)
      have c10 : W2.cell? ⟨g, 10, none⟩ = some (.int .i64 m.P) := d10.1
      have f10 := d10.2
      have M1 := (unhideR HM).P c.a
      have d11 := M1.cell 11 (by decide)
      have c11 : (W2.setCell ⟨g, 10, none⟩ (.int .i64 c.a)).cell? ⟨g, 11, none⟩ = some (.int .i64 m.Q) := d11.1
      have f11 := d11.2
      have M2 := M1.Q c.b
      have d12 := M2.cell 12 (by decide)
      have c12 : ((W2.setCell ⟨g, 10, none⟩ (.int .i64 c.a)).setCell ⟨g, 11, none⟩ (.int .i64 c.b)).cell? ⟨g, 12, none⟩ = some (.int .i64 m.st) := d12.1
      have f12 := d12.2
      have hne : w.heap.size ≠ g := by omega
      have E1 := blk_other (i := 10) (x := .int .i64 c.a) (unhideR HC) hne
      obtain ⟨g0, g1, g2, g3⟩ := four_cells E1
      have HX : HeldR (DoPost g m c w (.returned (.int .i64 0)) (((W2.setCell ⟨g, 10, none⟩ (.int .i64 c.a)).setCell ⟨g, 11, none⟩ (.int .i64 c.b)).setCell ⟨g, 12, none⟩ (.int .i64 1))) := by
        unfold HeldR DoPost
        rw [hd]
        exact ⟨rfl, M2.st 1, (((unhideR HK).put 10 _).put 11 _).put 12 _⟩
      have t3 : (m.st == 3) = false := by simp [h3]
      clear hd h3 d10 d11 d12 M1 M2 E1
      go_wp2
      all_goals
        go_ret
        exact unhideR HX
set_option maxRecDepth 100000 in
set_option maxHeartbeats 3200000 in
theorem do_track {g : Nat} {m : Mt} {w : World} (hM : Ref w g m) (c : CmdS) (hF : Fine m) (hk : (c.s.toList == [115, 108, 101, 119]) = false ∧ (c.s.toList == [116, 114, 97, 99, 107]) = true) :
    Calls Tryd.prog 69 #[.pointer (some ⟨g, 0, none⟩), c.val] w (DoPost g m c w) := by
  have hg : g < w.heap.size := ltB hM.blk
  have HW := hideR (below_a w (.cells #[.int .i64 c.num, .string c.s, .int .i64 c.a, .int .i64 c.b] 64))
  have HC := hideR (alloc_last w (.cells #[.int .i64 c.num, .string c.s, .int .i64 c.a, .int .i64 c.b] 64))
  have HM := hideR (hM.keep (below_a w (.cells #[.int .i64 c.num, .string c.s, .int .i64 c.a, .int .i64 c.b] 64)))
  have HK := hideR ((Chg.refl g w).go (below_a w (.cells #[.int .i64 c.num, .string c.s, .int .i64 c.a, .int .i64 c.b] 64)))
  have hf := hF.sa
  have hf2 := hF.sb
  have hla := hF.la
  have hlb := hF.lb
  unfold Lim.shape at hf hf2
  unfold Lim.large large at hla hlb
  have st0 := hF.st0
  have k1 : (c.s.toList == [115, 108, 101, 119]) = false := hk.1
  have k2 : (c.s.toList == [116, 114, 97, 99, 107]) = true := hk.2
  have hkd : c.cmd.kind = 2 := by
    show kindOf c.s.toList = 2
    unfold kindOf
    rw [if_neg (by rw [k1]; exact Bool.noConfusion), if_pos k2]
  have wna : IntKind.i64.wrap (-m.A.fast) = -m.A.fast := iwrap (by omega) (by omega)
  have wnb : IntKind.i64.wrap (-m.B.fast) = -m.B.fast := iwrap (by omega) (by omega)
  have hd : doV m c.cmd = (if quick m.A c.a ∨ quick m.B c.b then (m, 6) else if m.st = 4 ∨ m.st = 3 then (m, 7) else ({ m with P := c.a, Q := c.b, st := 2 }, 0)) := by
    unfold doV
    rw [hkd]
    rfl
  have HD := hideR hd
  have c12 : (w.alloc (.cells #[.int .i64 c.num, .string c.s, .int .i64 c.a, .int .i64 c.b] 64)).cell? ⟨g, 12, none⟩ = some (.int .i64 m.st) := ((unhideR HM).cell 12 (by decide)).1
  obtain ⟨e0, e1, e2, e3⟩ := four_cells (unhideR HC)
  have hcase : (quick m.A c.a ∨ quick m.B c.b) ∧ ((decide (m.A.fast < c.a) = true) ∨ (decide (m.A.fast < c.a) = false ∧ decide (c.a < -m.A.fast) = true) ∨ (decide (m.A.fast < c.a) = false ∧ decide (c.a < -m.A.fast) = false ∧ decide (m.B.fast < c.b) = true) ∨ (decide (m.A.fast < c.a) = false ∧ decide (c.a < -m.A.fast) = false ∧ decide (m.B.fast < c.b) = false ∧ decide (c.b < -m.B.fast) = true)) ∨ ¬ (quick m.A c.a ∨ quick m.B c.b) ∧ decide (m.A.fast < c.a) = false ∧ decide (c.a < -m.A.fast) = false ∧ decide (m.B.fast < c.b) = false ∧ decide (c.b < -m.B.fast) = false := by
    unfold quick
    by_cases q1 : m.A.fast < c.a
    · exact .inl ⟨by omega, .inl (decide_eq_true q1)⟩
    · by_cases q2 : c.a < -m.A.fast
      · exact .inl ⟨by omega, .inr (.inl ⟨decide_eq_false q1, decide_eq_true q2⟩)⟩
      · by_cases q3 : m.B.fast < c.b
        · exact .inl ⟨by omega, .inr (.inr (.inl ⟨decide_eq_false q1, decide_eq_false q2, decide_eq_true q3⟩))⟩
        · by_cases q4 : c.b < -m.B.fast
          · exact .inl ⟨by omega, .inr (.inr (.inr ⟨decide_eq_false q1, decide_eq_false q2, decide_eq_false q3, decide_eq_true q4⟩))⟩
          · exact .inr ⟨by omega, decide_eq_false q1, decide_eq_false q2, decide_eq_false q3, decide_eq_false q4⟩
  clear hd hkd hk hf hf2 hla hlb hF
  unfold CmdS.val
  go_enter Tryd.func69, Tryd.ntmps69
  go_wp2_with fail
  clear e0 e1 e2 e3 c12
  generalize (w.alloc (.cells #[.int .i64 c.num, .string c.s, .int .i64 c.a, .int .i64 c.b] 64)) = W1 at *
  obtain ⟨e0, e1, e2, e3⟩ := four_cells (unhideR HC)
  have c2 : W1.cell? ⟨g, 2, none⟩ = some (.int .i64 m.A.fast) := ((unhideR HM).cell 2 (by decide)).1
  have c6 : W1.cell? ⟨g, 6, none⟩ = some (.int .i64 m.B.fast) := ((unhideR HM).cell 6 (by decide)).1
  rcases hcase with ⟨hb, hc⟩ | ⟨hb, u1, u2, u3, u4⟩
  · have hd := unhideR HD
    rw [if_pos hb] at hd
    have HF : HeldR (∀ u, Ref u g m → Chg g w u → DoPost g m c w (.returned (.int .i64 6)) u) := fun u h1 h2 => by
      unfold DoPost
      rw [hd]
      exact ⟨rfl, h1, h2⟩
    clear hd hb HD
    rcases hc with u1 | ⟨u1, u2⟩ | ⟨u1, u2, u3⟩ | ⟨u1, u2, u3, u4⟩
    · skip
      refine wp_region_lets [(· = .pointer (some ⟨w.heap.size, 2, none⟩)),
        (· = .int .i64 c.a),
        (· = .pointer (some ⟨g, 0, none⟩)),
        (· = .pointer (some ⟨g, 0, none⟩)),
        (· = .pointer (some ⟨g, 0, none⟩)),
        (· = .pointer (some ⟨g, 2, none⟩)),
        (· = .int .i64 m.A.fast),
        (· = .bool true),
        (· = .bool true),
        (· = undef),
        (· = undef),
        (· = undef),
        (· = undef),
        (· = undef),
        (· = undef),
        (· = undef),
        (· = undef),
        (· = undef),
        (· = .bool true),
        (· = .bool true),
        (· = undef),
        (· = undef),
        (· = undef),
        (· = undef),
        (· = undef),
        (· = undef),
        (· = undef),
        (· = undef),
        (· = .bool true),
        (· = .bool true),
        (· = undef),
        (· = undef),
        (· = undef),
        (· = undef),
        (· = undef),
        (· = undef),
        (· = undef),
        (· = undef),
        (· = undef),
        (· = .bool true)] (by kernel_rfl) (by kernel_rfl) ?_
      refine lexL_step (fun K hK => ⟨by kernel_rfl, ⟨_, rfl⟩, fun n => ?_, fun v hv => ?_⟩)
      · go_simp
        exact lUpon_one
      subst hv
      go_simp
      refine hK _ ?_
      clear hK K
      refine lexL_step (fun K hK => ⟨by kernel_rfl, ⟨_, rfl⟩, fun n => ?_, fun v hv => ?_⟩)
      · go_simp
        exact lUpon_one
      subst hv
      go_simp
      refine hK _ ?_
      clear hK K
      refine lexL_step (fun K hK => ⟨by kernel_rfl, ⟨_, rfl⟩, fun n => ?_, fun v hv => ?_⟩)
      · go_simp
        exact lUpon_one
      subst hv
      go_simp
      refine hK _ ?_
      clear hK K
      refine lexL_step (fun K hK => ⟨by kernel_rfl, ⟨_, rfl⟩, fun n => ?_, fun v hv => ?_⟩)
      · go_simp
        exact lUpon_one
      subst hv
      go_simp
      refine hK _ ?_
      clear hK K
      refine lexL_step (fun K hK => ⟨by kernel_rfl, ⟨_, rfl⟩, fun n => ?_, fun v hv => ?_⟩)
      · go_simp
        exact lUpon_one
      subst hv
      go_simp
      refine hK _ ?_
      clear hK K
      refine lexL_step (fun K hK => ⟨by kernel_rfl, ⟨_, rfl⟩, fun n => ?_, fun v hv => ?_⟩)
      · go_simp
        exact lUpon_one
      subst hv
      go_simp
      refine hK _ ?_
      clear hK K
      refine lexL_step (fun K hK => ⟨by kernel_rfl, ⟨_, rfl⟩, fun n => ?_, fun v hv => ?_⟩)
      · go_simp
        exact lUpon_one
      subst hv
      go_simp
      refine hK _ ?_
      clear hK K
      refine lexL_step (fun K hK => ⟨by kernel_rfl, ⟨_, rfl⟩, fun n => ?_, fun v hv => ?_⟩)
      · go_simp
        exact lUpon_one
      subst hv
      go_simp
      refine hK _ ?_
      clear hK K
      refine lexL_step (fun K hK => ⟨by kernel_rfl, ⟨_, rfl⟩, fun n => ?_, fun v hv => ?_⟩)
      · go_simp
        exact lUpon_one
      subst hv
      go_simp
      refine hK _ ?_
      clear hK K
      refine lexL_skip (fun K hK => ⟨by kernel_rfl, ?_⟩)
      go_simp
      refine hK _ ?_
      clear hK K
      refine lexL_skip (fun K hK => ⟨by kernel_rfl, ?_⟩)
      go_simp
      refine hK _ ?_
      clear hK K
      refine lexL_skip (fun K hK => ⟨by kernel_rfl, ?_⟩)
      go_simp
      refine hK _ ?_
      clear hK K
      refine lexL_skip (fun K hK => ⟨by kernel_rfl, ?_⟩)
      go_simp
      refine hK _ ?_
      clear hK K
      refine lexL_skip (fun K hK => ⟨by kernel_rfl, ?_⟩)
      go_simp
      refine hK _ ?_
      clear hK K
      refine lexL_skip (fun K hK => ⟨by kernel_rfl, ?_⟩)
      go_simp
      refine hK _ ?_
      clear hK K
      refine lexL_skip (fun K hK => ⟨by kernel_rfl, ?_⟩)
      go_simp
      refine hK _ ?_
      clear hK K
      refine lexL_skip (fun K hK => ⟨by kernel_rfl, ?_⟩)
      go_simp
      refine hK _ ?_
      clear hK K
      refine lexL_skip (fun K hK => ⟨by kernel_rfl, ?_⟩)
      go_simp
      refine hK _ ?_
      clear hK K
      refine lexL_step (fun K hK => ⟨by kernel_rfl, ⟨_, rfl⟩, fun n => ?_, fun v hv => ?_⟩)
      · go_simp
        exact lUpon_one
      subst hv
      go_simp
      refine hK _ ?_
      clear hK K
      refine lexL_step (fun K hK => ⟨by kernel_rfl, ⟨_, rfl⟩, fun n => ?_, fun v hv => ?_⟩)
      · go_simp
        exact lUpon_one
      subst hv
      go_simp
      refine hK _ ?_
      clear hK K
      refine lexL_skip (fun K hK => ⟨by kernel_rfl, ?_⟩)
      go_simp
      refine hK _ ?_
      clear hK K
      refine lexL_skip (fun K hK => ⟨by kernel_rfl, ?_⟩)
      go_simp
      refine hK _ ?_
      clear hK K
      refine lexL_skip (fun K hK => ⟨by kernel_rfl, ?_⟩)
      go_simp
      refine hK _ ?_
      clear hK K
      refine lexL_skip (fun K hK => ⟨by kernel_rfl, ?_⟩)
      go_simp
      refine hK _ ?_
      clear hK K
      refine lexL_skip (fun K hK => ⟨by kernel_rfl, ?_⟩)
      go_simp
      refine hK _ ?_
      clear hK K
      refine lexL_skip (fun K hK => ⟨by kernel_rfl, ?_⟩)
      go_simp
      refine hK _ ?_
      clear hK K
      refine lexL_skip (fun K hK => ⟨by kernel_rfl, ?_⟩)
      go_simp
      refine hK _ ?_
      clear hK K
      refine lexL_skip (fun K hK => ⟨by kernel_rfl, ?_⟩)
      go_simp
      refine hK _ ?_
      clear hK K
      refine lexL_step (fun K hK => ⟨by kernel_rfl, ⟨_, rfl⟩, fun n => ?_, fun v hv => ?_⟩)
      · go_simp
        exact lUpon_one
      subst hv
      go_simp
      refine hK _ ?_
      clear hK K
      refine lexL_step (fun K hK => ⟨by kernel_rfl, ⟨_, rfl⟩, fun n => ?_, fun v hv => ?_⟩)
      · go_simp
        exact lUpon_one
      subst hv
      go_simp
      refine hK _ ?_
      clear hK K
      refine lexL_skip (fun K hK => ⟨by kernel_rfl, ?_⟩)
      go_simp
      refine hK _ ?_
      clear hK K
      refine lexL_skip (fun K hK => ⟨by kernel_rfl, ?_⟩)
      go_simp
      refine hK _ ?_
      clear hK K
      refine lexL_skip (fun K hK => ⟨by kernel_rfl, ?_⟩)
      go_simp
      refine hK _ ?_
      clear hK K
      refine lexL_skip (fun K hK => ⟨by kernel_rfl, ?_⟩)
      go_simp
      refine hK _ ?_
      clear hK K
      refine lexL_skip (fun K hK => ⟨by kernel_rfl, ?_⟩)
      go_simp
      refine hK _ ?_
      clear hK K
      refine lexL_skip (fun K hK => ⟨by kernel_rfl, ?_⟩)
      go_simp
      refine hK _ ?_
      clear hK K
      refine lexL_skip (fun K hK => ⟨by kernel_rfl, ?_⟩)
      go_simp
      refine hK _ ?_
      clear hK K
      refine lexL_skip (fun K hK => ⟨by kernel_rfl, ?_⟩)
      go_simp
      refine hK _ ?_
      clear hK K
      refine lexL_skip (fun K hK => ⟨by kernel_rfl, ?_⟩)
      go_simp
      refine hK _ ?_
      clear hK K
      refine lexL_step (fun K hK => ⟨by kernel_rfl, ⟨_, rfl⟩, fun n => ?_, fun v hv => ?_⟩)
      · go_simp
        exact lUpon_one
      subst hv
      go_simp
      refine hK _ ?_
      clear hK K
      refine lexL_end ?_
      intro n9
      have HX := hideR (unhideR HF _ ((unhideR HM).keep (drawn_below W1 n9)) ((unhideR HK).go (drawn_below W1 n9)))
      go_wp2
      go_ret
      exact unhideR HX
    · skip
      refine wp_region_lets [(· = .pointer (some ⟨w.heap.size, 2, none⟩)),
        (· = .int .i64 c.a),
        (· = .pointer (some ⟨g, 0, none⟩)),
        (· = .pointer (some ⟨g, 0, none⟩)),
        (· = .pointer (some ⟨g, 0, none⟩)),
        (· = .pointer (some ⟨g, 2, none⟩)),
        (· = .int .i64 m.A.fast),
        (· = .bool false),
        (· = .bool false),
        (· = .pointer (some ⟨w.heap.size, 2, none⟩)),
        (· = .int .i64 c.a),
        (· = .pointer (some ⟨g, 0, none⟩)),
        (· = .pointer (some ⟨g, 0, none⟩)),
        (· = .pointer (some ⟨g, 0, none⟩)),
        (· = .pointer (some ⟨g, 2, none⟩)),
        (· = .int .i64 m.A.fast),
        (· = .int .i64 (-m.A.fast)),
        (· = .bool true),
        (· = .bool true),
        (· = .bool true),
        (· = undef),
        (· = undef),
        (· = undef),
        (· = undef),
        (· = undef),
        (· = undef),
        (· = undef),
        (· = undef),
        (· = .bool true),
        (· = .bool true),
        (· = undef),
        (· = undef),
        (· = undef),
        (· = undef),
        (· = undef),
        (· = undef),
        (· = undef),
        (· = undef),
        (· = undef),
        (· = .bool true)] (by kernel_rfl) (by kernel_rfl) ?_
      refine lexL_step (fun K hK => ⟨by kernel_rfl, ⟨_, rfl⟩, fun n => ?_, fun v hv => ?_⟩)
      · go_simp
        exact lUpon_one
      subst hv
      go_simp
      refine hK _ ?_
      clear hK K
      refine lexL_step (fun K hK => ⟨by kernel_rfl, ⟨_, rfl⟩, fun n => ?_, fun v hv => ?_⟩)
      · go_simp
        exact lUpon_one
      subst hv
      go_simp
      refine hK _ ?_
      clear hK K
      refine lexL_step (fun K hK => ⟨by kernel_rfl, ⟨_, rfl⟩, fun n => ?_, fun v hv => ?_⟩)
      · go_simp
        exact lUpon_one
      subst hv
      go_simp
      refine hK _ ?_
      clear hK K
      refine lexL_step (fun K hK => ⟨by kernel_rfl, ⟨_, rfl⟩, fun n => ?_, fun v hv => ?_⟩)
      · go_simp
        exact lUpon_one
      subst hv
      go_simp
      refine hK _ ?_
      clear hK K
      refine lexL_step (fun K hK => ⟨by kernel_rfl, ⟨_, rfl⟩, fun n => ?_, fun v hv => ?_⟩)
      · go_simp
        exact lUpon_one
      subst hv
      go_simp
      refine hK _ ?_
      clear hK K
      refine lexL_step (fun K hK => ⟨by kernel_rfl, ⟨_, rfl⟩, fun n => ?_, fun v hv => ?_⟩)
      · go_simp
        exact lUpon_one
      subst hv
      go_simp
      refine hK _ ?_
      clear hK K
      refine lexL_step (fun K hK => ⟨by kernel_rfl, ⟨_, rfl⟩, fun n => ?_, fun v hv => ?_⟩)
      · go_simp
        exact lUpon_one
      subst hv
      go_simp
      refine hK _ ?_
      clear hK K
      refine lexL_step (fun K hK => ⟨by kernel_rfl, ⟨_, rfl⟩, fun n => ?_, fun v hv => ?_⟩)
      · go_simp
        exact lUpon_one
      subst hv
      go_simp
      refine hK _ ?_
      clear hK K
      refine lexL_step (fun K hK => ⟨by kernel_rfl, ⟨_, rfl⟩, fun n => ?_, fun v hv => ?_⟩)
      · go_simp
        exact lUpon_one
      subst hv
      go_simp
      refine hK _ ?_
      clear hK K
      refine lexL_step (fun K hK => ⟨by kernel_rfl, ⟨_, rfl⟩, fun n => ?_, fun v hv => ?_⟩)
      · go_simp
        exact lUpon_one
      subst hv
      go_simp
      refine hK _ ?_
      clear hK K
      refine lexL_step (fun K hK => ⟨by kernel_rfl, ⟨_, rfl⟩, fun n => ?_, fun v hv => ?_⟩)
      · go_simp
        exact lUpon_one
      subst hv
      go_simp
      refine hK _ ?_
      clear hK K
      refine lexL_step (fun K hK => ⟨by kernel_rfl, ⟨_, rfl⟩, fun n => ?_, fun v hv => ?_⟩)
      · go_simp
        exact lUpon_one
      subst hv
      go_simp
      refine hK _ ?_
      clear hK K
      refine lexL_step (fun K hK => ⟨by kernel_rfl, ⟨_, rfl⟩, fun n => ?_, fun v hv => ?_⟩)
      · go_simp
        exact lUpon_one
      subst hv
      go_simp
      refine hK _ ?_
      clear hK K
      refine lexL_step (fun K hK => ⟨by kernel_rfl, ⟨_, rfl⟩, fun n => ?_, fun v hv => ?_⟩)
      · go_simp
        exact lUpon_one
      subst hv
      go_simp
      refine hK _ ?_
      clear hK K
      refine lexL_step (fun K hK => ⟨by kernel_rfl, ⟨_, rfl⟩, fun n => ?_, fun v hv => ?_⟩)
      · go_simp
        exact lUpon_one
      subst hv
      go_simp
      refine hK _ ?_
      clear hK K
      refine lexL_step (fun K hK => ⟨by kernel_rfl, ⟨_, rfl⟩, fun n => ?_, fun v hv => ?_⟩)
      · go_simp
        exact lUpon_one
      subst hv
      go_simp
      refine hK _ ?_
      clear hK K
      refine lexL_step (fun K hK => ⟨by kernel_rfl, ⟨_, rfl⟩, fun n => ?_, fun v hv => ?_⟩)
      · go_simp
        exact lUpon_one
      subst hv
      go_simp
      refine hK _ ?_
      clear hK K
      refine lexL_step (fun K hK => ⟨by kernel_rfl, ⟨_, rfl⟩, fun n => ?_, fun v hv => ?_⟩)
      · go_simp
        exact lUpon_one
      subst hv
      go_simp
      refine hK _ ?_
      clear hK K
      refine lexL_step (fun K hK => ⟨by kernel_rfl, ⟨_, rfl⟩, fun n => ?_, fun v hv => ?_⟩)
      · go_simp
        exact lUpon_one
      subst hv
      go_simp
      refine hK _ ?_
      clear hK K
      refine lexL_step (fun K hK => ⟨by kernel_rfl, ⟨_, rfl⟩, fun n => ?_, fun v hv => ?_⟩)
      · go_simp
        exact lUpon_one
      subst hv
      go_simp
      refine hK _ ?_
      clear hK K
      refine lexL_skip (fun K hK => ⟨by kernel_rfl, ?_⟩)
      go_simp
      refine hK _ ?_
      clear hK K
      refine lexL_skip (fun K hK => ⟨by kernel_rfl, ?_⟩)
      go_simp
      refine hK _ ?_
      clear hK K
      refine lexL_skip (fun K hK => ⟨by kernel_rfl, ?_⟩)
      go_simp
      refine hK _ ?_
      clear hK K
      refine lexL_skip (fun K hK => ⟨by kernel_rfl, ?_⟩)
      go_simp
      refine hK _ ?_
      clear hK K
      refine lexL_skip (fun K hK => ⟨by kernel_rfl, ?_⟩)
      go_simp
      refine hK _ ?_
      clear hK K
      refine lexL_skip (fun K hK => ⟨by kernel_rfl, ?_⟩)
      go_simp
      refine hK _ ?_
      clear hK K
      refine lexL_skip (fun K hK => ⟨by kernel_rfl, ?_⟩)
      go_simp
      refine hK _ ?_
      clear hK K
      refine lexL_skip (fun K hK => ⟨by kernel_rfl, ?_⟩)
      go_simp
      refine hK _ ?_
      clear hK K
      refine lexL_step (fun K hK => ⟨by kernel_rfl, ⟨_, rfl⟩, fun n => ?_, fun v hv => ?_⟩)
      · go_simp
        exact lUpon_one
      subst hv
      go_simp
      refine hK _ ?_
      clear hK K
      refine lexL_step (fun K hK => ⟨by kernel_rfl, ⟨_, rfl⟩, fun n => ?_, fun v hv => ?_⟩)
      · go_simp
        exact lUpon_one
      subst hv
      go_simp
      refine hK _ ?_
      clear hK K
      refine lexL_skip (fun K hK => ⟨by kernel_rfl, ?_⟩)
      go_simp
      refine hK _ ?_
      clear hK K
      refine lexL_skip (fun K hK => ⟨by kernel_rfl, ?_⟩)
      go_simp
      refine hK _ ?_
      clear hK K
      refine lexL_skip (fun K hK => ⟨by kernel_rfl, ?_⟩)
      go_simp
      refine hK _ ?_
      clear hK K
      refine lexL_skip (fun K hK => ⟨by kernel_rfl, ?_⟩)
      go_simp
      refine hK _ ?_
      clear hK K
      refine lexL_skip (fun K hK => ⟨by kernel_rfl, ?_⟩)
      go_simp
      refine hK _ ?_
      clear hK K
      refine lexL_skip (fun K hK => ⟨by kernel_rfl, ?_⟩)
      go_simp
      refine hK _ ?_
      clear hK K
      refine lexL_skip (fun K hK => ⟨by kernel_rfl, ?_⟩)
      go_simp
      refine hK _ ?_
      clear hK K
      refine lexL_skip (fun K hK => ⟨by kernel_rfl, ?_⟩)
      go_simp
      refine hK _ ?_
      clear hK K
      refine lexL_skip (fun K hK => ⟨by kernel_rfl, ?_⟩)
      go_simp
      refine hK _ ?_
      clear hK K
      refine lexL_step (fun K hK => ⟨by kernel_rfl, ⟨_, rfl⟩, fun n => ?_, fun v hv => ?_⟩)
      · go_simp
        exact lUpon_one
      subst hv
      go_simp
      refine hK _ ?_
      clear hK K
      refine lexL_end ?_
      intro n9
      have HX := hideR (unhideR HF _ ((unhideR HM).keep (drawn_below W1 n9)) ((unhideR HK).go (drawn_below W1 n9)))
      go_wp2
      go_ret
      exact unhideR HX
    · skip
      refine wp_region_lets [(· = .pointer (some ⟨w.heap.size, 2, none⟩)),
        (· = .int .i64 c.a),
        (· = .pointer (some ⟨g, 0, none⟩)),
        (· = .pointer (some ⟨g, 0, none⟩)),
        (· = .pointer (some ⟨g, 0, none⟩)),
        (· = .pointer (some ⟨g, 2, none⟩)),
        (· = .int .i64 m.A.fast),
        (· = .bool false),
        (· = .bool false),
        (· = .pointer (some ⟨w.heap.size, 2, none⟩)),
        (· = .int .i64 c.a),
        (· = .pointer (some ⟨g, 0, none⟩)),
        (· = .pointer (some ⟨g, 0, none⟩)),
        (· = .pointer (some ⟨g, 0, none⟩)),
        (· = .pointer (some ⟨g, 2, none⟩)),
        (· = .int .i64 m.A.fast),
        (· = .int .i64 (-m.A.fast)),
        (· = .bool false),
        (· = .bool false),
        (· = .bool false),
        (· = .pointer (some ⟨w.heap.size, 3, none⟩)),
        (· = .int .i64 c.b),
        (· = .pointer (some ⟨g, 0, none⟩)),
        (· = .pointer (some ⟨g, 0, none⟩)),
        (· = .pointer (some ⟨g, 4, none⟩)),
        (· = .pointer (some ⟨g, 6, none⟩)),
        (· = .int .i64 m.B.fast),
        (· = .bool true),
        (· = .bool true),
        (· = .bool true),
        (· = undef),
        (· = undef),
        (· = undef),
        (· = undef),
        (· = undef),
        (· = undef),
        (· = undef),
        (· = undef),
        (· = undef),
        (· = .bool true)] (by kernel_rfl) (by kernel_rfl) ?_
      refine lexL_step (fun K hK => ⟨by kernel_rfl, ⟨_, rfl⟩, fun n => ?_, fun v hv => ?_⟩)
      · go_simp
        exact lUpon_one
      subst hv
      go_simp
      refine hK _ ?_
      clear hK K
      refine lexL_step (fun K hK => ⟨by kernel_rfl, ⟨_, rfl⟩, fun n => ?_, fun v hv => ?_⟩)
      · go_simp
        exact lUpon_one
      subst hv
      go_simp
      refine hK _ ?_
      clear hK K
      refine lexL_step (fun K hK => ⟨by kernel_rfl, ⟨_, rfl⟩, fun n => ?_, fun v hv => ?_⟩)
      · go_simp
        exact lUpon_one
      subst hv
      go_simp
      refine hK _ ?_
      clear hK K
      refine lexL_step (fun K hK => ⟨by kernel_rfl, ⟨_, rfl⟩, fun n => ?_, fun v hv => ?_⟩)
      · go_simp
        exact lUpon_one
      subst hv
      go_simp
      refine hK _ ?_
      clear hK K
      refine lexL_step (fun K hK => ⟨by kernel_rfl, ⟨_, rfl⟩, fun n => ?_, fun v hv => ?_⟩)
      · go_simp
        exact lUpon_one
      subst hv
      go_simp
      refine hK _ ?_
      clear hK K
      refine lexL_step (fun K hK => ⟨by kernel_rfl, ⟨_, rfl⟩, fun n => ?_, fun v hv => ?_⟩)
      · go_simp
        exact lUpon_one
      subst hv
      go_simp
      refine hK _ ?_
      clear hK K
      refine lexL_step (fun K hK => ⟨by kernel_rfl, ⟨_, rfl⟩, fun n => ?_, fun v hv => ?_⟩)
      · go_simp
        exact lUpon_one
      subst hv
      go_simp
      refine hK _ ?_
      clear hK K
      refine lexL_step (fun K hK => ⟨by kernel_rfl, ⟨_, rfl⟩, fun n => ?_, fun v hv => ?_⟩)
      · go_simp
        exact lUpon_one
      subst hv
      go_simp
      refine hK _ ?_
      clear hK K
      refine lexL_step (fun K hK => ⟨by kernel_rfl, ⟨_, rfl⟩, fun n => ?_, fun v hv => ?_⟩)
      · go_simp
        exact lUpon_one
      subst hv
      go_simp
      refine hK _ ?_
      clear hK K
      refine lexL_step (fun K hK => ⟨by kernel_rfl, ⟨_, rfl⟩, fun n => ?_, fun v hv => ?_⟩)
      · go_simp
        exact lUpon_one
      subst hv
      go_simp
      refine hK _ ?_
      clear hK K
      refine lexL_step (fun K hK => ⟨by kernel_rfl, ⟨_, rfl⟩, fun n => ?_, fun v hv => ?_⟩)
      · go_simp
        exact lUpon_one
      subst hv
      go_simp
      refine hK _ ?_
      clear hK K
      refine lexL_step (fun K hK => ⟨by kernel_rfl, ⟨_, rfl⟩, fun n => ?_, fun v hv => ?_⟩)
      · go_simp
        exact lUpon_one
      subst hv
      go_simp
      refine hK _ ?_
      clear hK K
      refine lexL_step (fun K hK => ⟨by kernel_rfl, ⟨_, rfl⟩, fun n => ?_, fun v hv => ?_⟩)
      · go_simp
        exact lUpon_one
      subst hv
      go_simp
      refine hK _ ?_
      clear hK K
      refine lexL_step (fun K hK => ⟨by kernel_rfl, ⟨_, rfl⟩, fun n => ?_, fun v hv => ?_⟩)
      · go_simp
        exact lUpon_one
      subst hv
      go_simp
      refine hK _ ?_
      clear hK K
      refine lexL_step (fun K hK => ⟨by kernel_rfl, ⟨_, rfl⟩, fun n => ?_, fun v hv => ?_⟩)
      · go_simp
        exact lUpon_one
      subst hv
      go_simp
      refine hK _ ?_
      clear hK K
      refine lexL_step (fun K hK => ⟨by kernel_rfl, ⟨_, rfl⟩, fun n => ?_, fun v hv => ?_⟩)
      · go_simp
        exact lUpon_one
      subst hv
      go_simp
      refine hK _ ?_
      clear hK K
      refine lexL_step (fun K hK => ⟨by kernel_rfl, ⟨_, rfl⟩, fun n => ?_, fun v hv => ?_⟩)
      · go_simp
        exact lUpon_one
      subst hv
      go_simp
      refine hK _ ?_
      clear hK K
      refine lexL_step (fun K hK => ⟨by kernel_rfl, ⟨_, rfl⟩, fun n => ?_, fun v hv => ?_⟩)
      · go_simp
        exact lUpon_one
      subst hv
      go_simp
      refine hK _ ?_
      clear hK K
      refine lexL_step (fun K hK => ⟨by kernel_rfl, ⟨_, rfl⟩, fun n => ?_, fun v hv => ?_⟩)
      · go_simp
        exact lUpon_one
      subst hv
      go_simp
      refine hK _ ?_
      clear hK K
      refine lexL_step (fun K hK => ⟨by kernel_rfl, ⟨_, rfl⟩, fun n => ?_, fun v hv => ?_⟩)
      · go_simp
        exact lUpon_one
      subst hv
      go_simp
      refine hK _ ?_
      clear hK K
      refine lexL_step (fun K hK => ⟨by kernel_rfl, ⟨_, rfl⟩, fun n => ?_, fun v hv => ?_⟩)
      · go_simp
        exact lUpon_one
      subst hv
      go_simp
      refine hK _ ?_
      clear hK K
      refine lexL_step (fun K hK => ⟨by kernel_rfl, ⟨_, rfl⟩, fun n => ?_, fun v hv => ?_⟩)
      · go_simp
        exact lUpon_one
      subst hv
      go_simp
      refine hK _ ?_
      clear hK K
      refine lexL_step (fun K hK => ⟨by kernel_rfl, ⟨_, rfl⟩, fun n => ?_, fun v hv => ?_⟩)
      · go_simp
        exact lUpon_one
      subst hv
      go_simp
      refine hK _ ?_
      clear hK K
      refine lexL_step (fun K hK => ⟨by kernel_rfl, ⟨_, rfl⟩, fun n => ?_, fun v hv => ?_⟩)
      · go_simp
        exact lUpon_one
      subst hv
      go_simp
      refine hK _ ?_
      clear hK K
      refine lexL_step (fun K hK => ⟨by kernel_rfl, ⟨_, rfl⟩, fun n => ?_, fun v hv => ?_⟩)
      · go_simp
        exact lUpon_one
      subst hv
      go_simp
      refine hK _ ?_
      clear hK K
      refine lexL_step (fun K hK => ⟨by kernel_rfl, ⟨_, rfl⟩, fun n => ?_, fun v hv => ?_⟩)
      · go_simp
        exact lUpon_one
      subst hv
      go_simp
      refine hK _ ?_
      clear hK K
      refine lexL_step (fun K hK => ⟨by kernel_rfl, ⟨_, rfl⟩, fun n => ?_, fun v hv => ?_⟩)
      · go_simp
        exact lUpon_one
      subst hv
      go_simp
      refine hK _ ?_
      clear hK K
      refine lexL_step (fun K hK => ⟨by kernel_rfl, ⟨_, rfl⟩, fun n => ?_, fun v hv => ?_⟩)
      · go_simp
        exact lUpon_one
      subst hv
      go_simp
      refine hK _ ?_
      clear hK K
      refine lexL_step (fun K hK => ⟨by kernel_rfl, ⟨_, rfl⟩, fun n => ?_, fun v hv => ?_⟩)
      · go_simp
        exact lUpon_one
      subst hv
      go_simp
      refine hK _ ?_
      clear hK K
      refine lexL_step (fun K hK => ⟨by kernel_rfl, ⟨_, rfl⟩, fun n => ?_, fun v hv => ?_⟩)
      · go_simp
        exact lUpon_one
      subst hv
      go_simp
      refine hK _ ?_
      clear hK K
      refine lexL_skip (fun K hK => ⟨by kernel_rfl, ?_⟩)
      go_simp
      refine hK _ ?_
      clear hK K
      refine lexL_skip (fun K hK => ⟨by kernel_rfl, ?_⟩)
      go_simp
      refine hK _ ?_
      clear hK K
      refine lexL_skip (fun K hK => ⟨by kernel_rfl, ?_⟩)
      go_simp
      refine hK _ ?_
      clear hK K
      refine lexL_skip (fun K hK => ⟨by kernel_rfl, ?_⟩)
      go_simp
      refine hK _ ?_
      clear hK K
      refine lexL_skip (fun K hK => ⟨by kernel_rfl, ?_⟩)
      go_simp
      refine hK _ ?_
      clear hK K
      refine lexL_skip (fun K hK => ⟨by kernel_rfl, ?_⟩)
      go_simp
      refine hK _ ?_
      clear hK K
      refine lexL_skip (fun K hK => ⟨by kernel_rfl, ?_⟩)
      go_simp
      refine hK _ ?_
      clear hK K
      refine lexL_skip (fun K hK => ⟨by kernel_rfl, ?_⟩)
      go_simp
      refine hK _ ?_
      clear hK K
      refine lexL_skip (fun K hK => ⟨by kernel_rfl, ?_⟩)
      go_simp
      refine hK _ ?_
      clear hK K
      refine lexL_step (fun K hK => ⟨by kernel_rfl, ⟨_, rfl⟩, fun n => ?_, fun v hv => ?_⟩)
      · go_simp
        exact lUpon_one
      subst hv
      go_simp
      refine hK _ ?_
      clear hK K
      refine lexL_end ?_
      intro n9
      have HX := hideR (unhideR HF _ ((unhideR HM).keep (drawn_below W1 n9)) ((unhideR HK).go (drawn_below W1 n9)))
      go_wp2
      go_ret
      exact unhideR HX
    · skip
      refine wp_region_lets [(· = .pointer (some ⟨w.heap.size, 2, none⟩)),
        (· = .int .i64 c.a),
        (· = .pointer (some ⟨g, 0, none⟩)),
        (· = .pointer (some ⟨g, 0, none⟩)),
        (· = .pointer (some ⟨g, 0, none⟩)),
        (· = .pointer (some ⟨g, 2, none⟩)),
        (· = .int .i64 m.A.fast),
        (· = .bool false),
        (· = .bool false),
        (· = .pointer (some ⟨w.heap.size, 2, none⟩)),
        (· = .int .i64 c.a),
        (· = .pointer (some ⟨g, 0, none⟩)),
        (· = .pointer (some ⟨g, 0, none⟩)),
        (· = .pointer (some ⟨g, 0, none⟩)),
        (· = .pointer (some ⟨g, 2, none⟩)),
        (· = .int .i64 m.A.fast),
        (· = .int .i64 (-m.A.fast)),
        (· = .bool false),
        (· = .bool false),
        (· = .bool false),
        (· = .pointer (some ⟨w.heap.size, 3, none⟩)),
        (· = .int .i64 c.b),
        (· = .pointer (some ⟨g, 0, none⟩)),
        (· = .pointer (some ⟨g, 0, none⟩)),
        (· = .pointer (some ⟨g, 4, none⟩)),
        (· = .pointer (some ⟨g, 6, none⟩)),
        (· = .int .i64 m.B.fast),
        (· = .bool false),
        (· = .bool false),
        (· = .bool false),
        (· = .pointer (some ⟨w.heap.size, 3, none⟩)),
        (· = .int .i64 c.b),
        (· = .pointer (some ⟨g, 0, none⟩)),
        (· = .pointer (some ⟨g, 0, none⟩)),
        (· = .pointer (some ⟨g, 4, none⟩)),
        (· = .pointer (some ⟨g, 6, none⟩)),
        (· = .int .i64 m.B.fast),
        (· = .int .i64 (-m.B.fast)),
        (· = .bool true),
        (· = .bool true)] (by kernel_rfl) (by kernel_rfl) ?_
      refine lexL_step (fun K hK => ⟨by kernel_rfl, ⟨_, rfl⟩, fun n => ?_, fun v hv => ?_⟩)
      · go_simp
        exact lUpon_one
      subst hv
      go_simp
      refine hK _ ?_
      clear hK K
      refine lexL_step (fun K hK => ⟨by kernel_rfl, ⟨_, rfl⟩, fun n => ?_, fun v hv => ?_⟩)
      · go_simp
        exact lUpon_one
      subst hv
      go_simp
      refine hK _ ?_
      clear hK K
      refine lexL_step (fun K hK => ⟨by kernel_rfl, ⟨_, rfl⟩, fun n => ?_, fun v hv => ?_⟩)
      · go_simp
        exact lUpon_one
      subst hv
      go_simp
      refine hK _ ?_
      clear hK K
      refine lexL_step (fun K hK => ⟨by kernel_rfl, ⟨_, rfl⟩, fun n => ?_, fun v hv => ?_⟩)
      · go_simp
        exact lUpon_one
      subst hv
      go_simp
      refine hK _ ?_
      clear hK K
      refine lexL_step (fun K hK => ⟨by kernel_rfl, ⟨_, rfl⟩, fun n => ?_, fun v hv => ?_⟩)
      · go_simp
        exact lUpon_one
      subst hv
      go_simp
      refine hK _ ?_
      clear hK K
      refine lexL_step (fun K hK => ⟨by kernel_rfl, ⟨_, rfl⟩, fun n => ?_, fun v hv => ?_⟩)
      · go_simp
        exact lUpon_one
      subst hv
      go_simp
      refine hK _ ?_
      clear hK K
      refine lexL_step (fun K hK => ⟨by kernel_rfl, ⟨_, rfl⟩, fun n => ?_, fun v hv => ?_⟩)
      · go_simp
        exact lUpon_one
      subst hv
      go_simp
      refine hK _ ?_
      clear hK K
      refine lexL_step (fun K hK => ⟨by kernel_rfl, ⟨_, rfl⟩, fun n => ?_, fun v hv => ?_⟩)
      · go_simp
        exact lUpon_one
      subst hv
      go_simp
      refine hK _ ?_
      clear hK K
      refine lexL_step (fun K hK => ⟨by kernel_rfl, ⟨_, rfl⟩, fun n => ?_, fun v hv => ?_⟩)
      · go_simp
        exact lUpon_one
      subst hv
      go_simp
      refine hK _ ?_
      clear hK K
      refine lexL_step (fun K hK => ⟨by kernel_rfl, ⟨_, rfl⟩, fun n => ?_, fun v hv => ?_⟩)
      · go_simp
        exact lUpon_one
      subst hv
      go_simp
      refine hK _ ?_
      clear hK K
      refine lexL_step (fun K hK => ⟨by kernel_rfl, ⟨_, rfl⟩, fun n => ?_, fun v hv => ?_⟩)
      · go_simp
        exact lUpon_one
      subst hv
      go_simp
      refine hK _ ?_
      clear hK K
      refine lexL_step (fun K hK => ⟨by kernel_rfl, ⟨_, rfl⟩, fun n => ?_, fun v hv => ?_⟩)
      · go_simp
        exact lUpon_one
      subst hv
      go_simp
      refine hK _ ?_
      clear hK K
      refine lexL_step (fun K hK => ⟨by kernel_rfl, ⟨_, rfl⟩, fun n => ?_, fun v hv => ?_⟩)
      · go_simp
        exact lUpon_one
      subst hv
      go_simp
      refine hK _ ?_
      clear hK K
      refine lexL_step (fun K hK => ⟨by kernel_rfl, ⟨_, rfl⟩, fun n => ?_, fun v hv => ?_⟩)
      · go_simp
        exact lUpon_one
      subst hv
      go_simp
      refine hK _ ?_
      clear hK K
      refine lexL_step (fun K hK => ⟨by kernel_rfl, ⟨_, rfl⟩, fun n => ?_, fun v hv => ?_⟩)
      · go_simp
        exact lUpon_one
      subst hv
      go_simp
      refine hK _ ?_
      clear hK K
      refine lexL_step (fun K hK => ⟨by kernel_rfl, ⟨_, rfl⟩, fun n => ?_, fun v hv => ?_⟩)
      · go_simp
        exact lUpon_one
      subst hv
      go_simp
      refine hK _ ?_
      clear hK K
      refine lexL_step (fun K hK => ⟨by kernel_rfl, ⟨_, rfl⟩, fun n => ?_, fun v hv => ?_⟩)
      · go_simp
        exact lUpon_one
      subst hv
      go_simp
      refine hK _ ?_
      clear hK K
      refine lexL_step (fun K hK => ⟨by kernel_rfl, ⟨_, rfl⟩, fun n => ?_, fun v hv => ?_⟩)
      · go_simp
        exact lUpon_one
      subst hv
      go_simp
      refine hK _ ?_
      clear hK K
      refine lexL_step (fun K hK => ⟨by kernel_rfl, ⟨_, rfl⟩, fun n => ?_, fun v hv => ?_⟩)
      · go_simp
        exact lUpon_one
      subst hv
      go_simp
      refine hK _ ?_
      clear hK K
      refine lexL_step (fun K hK => ⟨by kernel_rfl, ⟨_, rfl⟩, fun n => ?_, fun v hv => ?_⟩)
      · go_simp
        exact lUpon_one
      subst hv
      go_simp
      refine hK _ ?_
      clear hK K
      refine lexL_step (fun K hK => ⟨by kernel_rfl, ⟨_, rfl⟩, fun n => ?_, fun v hv => ?_⟩)
      · go_simp
        exact lUpon_one
      subst hv
      go_simp
      refine hK _ ?_
      clear hK K
      refine lexL_step (fun K hK => ⟨by kernel_rfl, ⟨_, rfl⟩, fun n => ?_, fun v hv => ?_⟩)
      · go_simp
        exact lUpon_one
      subst hv
      go_simp
      refine hK _ ?_
      clear hK K
      refine lexL_step (fun K hK => ⟨by kernel_rfl, ⟨_, rfl⟩, fun n => ?_, fun v hv => ?_⟩)
      · go_simp
        exact lUpon_one
      subst hv
      go_simp
      refine hK _ ?_
      clear hK K
      refine lexL_step (fun K hK => ⟨by kernel_rfl, ⟨_, rfl⟩, fun n => ?_, fun v hv => ?_⟩)
      · go_simp
        exact lUpon_one
      subst hv
      go_simp
      refine hK _ ?_
      clear hK K
      refine lexL_step (fun K hK => ⟨by kernel_rfl, ⟨_, rfl⟩, fun n => ?_, fun v hv => ?_⟩)
      · go_simp
        exact lUpon_one
      subst hv
      go_simp
      refine hK _ ?_
      clear hK K
      refine lexL_step (fun K hK => ⟨by kernel_rfl, ⟨_, rfl⟩, fun n => ?_, fun v hv => ?_⟩)
      · go_simp
        exact lUpon_one
      subst hv
      go_simp
      refine hK _ ?_
      clear hK K
      refine lexL_step (fun K hK => ⟨by kernel_rfl, ⟨_, rfl⟩, fun n => ?_, fun v hv => ?_⟩)
      · go_simp
        exact lUpon_one
      subst hv
      go_simp
      refine hK _ ?_
      clear hK K
      refine lexL_step (fun K hK => ⟨by kernel_rfl, ⟨_, rfl⟩, fun n => ?_, fun v hv => ?_⟩)
      · go_simp
        exact lUpon_one
      subst hv
      go_simp
      refine hK _ ?_
      clear hK K
      refine lexL_step (fun K hK => ⟨by kernel_rfl, ⟨_, rfl⟩, fun n => ?_, fun v hv => ?_⟩)
      · go_simp
        exact lUpon_one
      subst hv
      go_simp
      refine hK _ ?_
      clear hK K
      refine lexL_step (fun K hK => ⟨by kernel_rfl, ⟨_, rfl⟩, fun n => ?_, fun v hv => ?_⟩)
      · go_simp
        exact lUpon_one
      subst hv
      go_simp
      refine hK _ ?_
      clear hK K
      refine lexL_step (fun K hK => ⟨by kernel_rfl, ⟨_, rfl⟩, fun n => ?_, fun v hv => ?_⟩)
      · go_simp
        exact lUpon_one
      subst hv
      go_simp
      refine hK _ ?_
      clear hK K
      refine lexL_step (fun K hK => ⟨by kernel_rfl, ⟨_, rfl⟩, fun n => ?_, fun v hv => ?_⟩)
      · go_simp
        exact lUpon_one
      subst hv
      go_simp
      refine hK _ ?_
      clear hK K
      refine lexL_step (fun K hK => ⟨by kernel_rfl, ⟨_, rfl⟩, fun n => ?_, fun v hv => ?_⟩)
      · go_simp
        exact lUpon_one
      subst hv
      go_simp
      refine hK _ ?_
      clear hK K
      refine lexL_step (fun K hK => ⟨by kernel_rfl, ⟨_, rfl⟩, fun n => ?_, fun v hv => ?_⟩)
      · go_simp
        exact lUpon_one
      subst hv
      go_simp
      refine hK _ ?_
      clear hK K
      refine lexL_step (fun K hK => ⟨by kernel_rfl, ⟨_, rfl⟩, fun n => ?_, fun v hv => ?_⟩)
      · go_simp
        exact lUpon_one
      subst hv
      go_simp
      refine hK _ ?_
      clear hK K
      refine lexL_step (fun K hK => ⟨by kernel_rfl, ⟨_, rfl⟩, fun n => ?_, fun v hv => ?_⟩)
      · go_simp
        exact lUpon_one
      subst hv
      go_simp
      refine hK _ ?_
      clear hK K
      refine lexL_step (fun K hK => ⟨by kernel_rfl, ⟨_, rfl⟩, fun n => ?_, fun v hv => ?_⟩)
      · go_simp
        exact lUpon_one
      subst hv
      go_simp
      refine hK _ ?_
      clear hK K
      refine lexL_step (fun K hK => ⟨by kernel_rfl, ⟨_, rfl⟩, fun n => ?_, fun v hv => ?_⟩)
      · go_simp
        exact lUpon_one
      subst hv
      go_simp
      refine hK _ ?_
      clear hK K
      refine lexL_step (fun K hK => ⟨by kernel_rfl, ⟨_, rfl⟩, fun n => ?_, fun v hv => ?_⟩)
      · go_simp
        exact lUpon_one
      subst hv
      go_simp
      refine hK _ ?_
      clear hK K
      refine lexL_step (fun K hK => ⟨by kernel_rfl, ⟨_, rfl⟩, fun n => ?_, fun v hv => ?_⟩)
      · go_simp
        exact lUpon_one
      subst hv
      go_simp
      refine hK _ ?_
      clear hK K
      refine lexL_end ?_
      intro n9
      have HX := hideR (unhideR HF _ ((unhideR HM).keep (drawn_below W1 n9)) ((unhideR HK).go (drawn_below W1 n9)))
      go_wp2
      go_ret
      exact unhideR HX
  · have hd := unhideR HD
    rw [if_neg hb] at hd
    clear hb HD
    refine wp_region_lets [(· = .pointer (some ⟨w.heap.size, 2, none⟩)),
      (· = .int .i64 c.a),
      (· = .pointer (some ⟨g, 0, none⟩)),
      (· = .pointer (some ⟨g, 0, none⟩)),
      (· = .pointer (some ⟨g, 0, none⟩)),
      (· = .pointer (some ⟨g, 2, none⟩)),
      (· = .int .i64 m.A.fast),
      (· = .bool false),
      (· = .bool false),
      (· = .pointer (some ⟨w.heap.size, 2, none⟩)),
      (· = .int .i64 c.a),
      (· = .pointer (some ⟨g, 0, none⟩)),
      (· = .pointer (some ⟨g, 0, none⟩)),
      (· = .pointer (some ⟨g, 0, none⟩)),
      (· = .pointer (some ⟨g, 2, none⟩)),
      (· = .int .i64 m.A.fast),
      (· = .int .i64 (-m.A.fast)),
      (· = .bool false),
      (· = .bool false),
      (· = .bool false),
      (· = .pointer (some ⟨w.heap.size, 3, none⟩)),
      (· = .int .i64 c.b),
      (· = .pointer (some ⟨g, 0, none⟩)),
      (· = .pointer (some ⟨g, 0, none⟩)),
      (· = .pointer (some ⟨g, 4, none⟩)),
      (· = .pointer (some ⟨g, 6, none⟩)),
      (· = .int .i64 m.B.fast),
      (· = .bool false),
      (· = .bool false),
      (· = .bool false),
      (· = .pointer (some ⟨w.heap.size, 3, none⟩)),
      (· = .int .i64 c.b),
      (· = .pointer (some ⟨g, 0, none⟩)),
      (· = .pointer (some ⟨g, 0, none⟩)),
      (· = .pointer (some ⟨g, 4, none⟩)),
      (· = .pointer (some ⟨g, 6, none⟩)),
      (· = .int .i64 m.B.fast),
      (· = .int .i64 (-m.B.fast)),
      (· = .bool false),
      (· = .bool false)] (by kernel_rfl) (by kernel_rfl) ?_
    refine lexL_step (fun K hK => ⟨by kernel_rfl, ⟨_, rfl⟩, fun n => ?_, fun v hv => ?_⟩)
    · go_simp
      exact lUpon_one
    subst hv
    go_simp
    refine hK _ ?_
    clear hK K
    refine lexL_step (fun K hK => ⟨by kernel_rfl, ⟨_, rfl⟩, fun n => ?_, fun v hv => ?_⟩)
    · go_simp
      exact lUpon_one
    subst hv
    go_simp
    refine hK _ ?_
    clear hK K
    refine lexL_step (fun K hK => ⟨by kernel_rfl, ⟨_, rfl⟩, fun n => ?_, fun v hv => ?_⟩)
    · go_simp
      exact lUpon_one
    subst hv
    go_simp
    refine hK _ ?_
    clear hK K
    refine lexL_step (fun K hK => ⟨by kernel_rfl, ⟨_, rfl⟩, fun n => ?_, fun v hv => ?_⟩)
    · go_simp
      exact lUpon_one
    subst hv
    go_simp
    refine hK _ ?_
    clear hK K
    refine lexL_step (fun K hK => ⟨by kernel_rfl, ⟨_, rfl⟩, fun n => ?_, fun v hv => ?_⟩)
    · go_simp
      exact lUpon_one
    subst hv
    go_simp
    refine hK _ ?_
    clear hK K
    refine lexL_step (fun K hK => ⟨by kernel_rfl, ⟨_, rfl⟩, fun n => ?_, fun v hv => ?_⟩)
    · go_simp
      exact lUpon_one
    subst hv
    go_simp
    refine hK _ ?_
    clear hK K
    refine lexL_step (fun K hK => ⟨by kernel_rfl, ⟨_, rfl⟩, fun n => ?_, fun v hv => ?_⟩)
    · go_simp
      exact lUpon_one
    subst hv
    go_simp
    refine hK _ ?_
    clear hK K
    refine lexL_step (fun K hK => ⟨by kernel_rfl, ⟨_, rfl⟩, fun n => ?_, fun v hv => ?_⟩)
    · go_simp
      exact lUpon_one
    subst hv
    go_simp
    refine hK _ ?_
    clear hK K
    refine lexL_step (fun K hK => ⟨by kernel_rfl, ⟨_, rfl⟩, fun n => ?_, fun v hv => ?_⟩)
    · go_simp
      exact lUpon_one
    subst hv
    go_simp
    refine hK _ ?_
    clear hK K
    refine lexL_step (fun K hK => ⟨by kernel_rfl, ⟨_, rfl⟩, fun n => ?_, fun v hv => ?_⟩)
    · go_simp
      exact lUpon_one
    subst hv
    go_simp
    refine hK _ ?_
    clear hK K
    refine lexL_step (fun K hK => ⟨by kernel_rfl, ⟨_, rfl⟩, fun n => ?_, fun v hv => ?_⟩)
    · go_simp
      exact lUpon_one
    subst hv
    go_simp
    refine hK _ ?_
    clear hK K
    refine lexL_step (fun K hK => ⟨by kernel_rfl, ⟨_, rfl⟩, fun n => ?_, fun v hv => ?_⟩)
    · go_simp
      exact lUpon_one
    subst hv
    go_simp
    refine hK _ ?_
    clear hK K
    refine lexL_step (fun K hK => ⟨by kernel_rfl, ⟨_, rfl⟩, fun n => ?_, fun v hv => ?_⟩)
    · go_simp
      exact lUpon_one
    subst hv
    go_simp
    refine hK _ ?_
    clear hK K
    refine lexL_step (fun K hK => ⟨by kernel_rfl, ⟨_, rfl⟩, fun n => ?_, fun v hv => ?_⟩)
    · go_simp
      exact lUpon_one
    subst hv
    go_simp
    refine hK _ ?_
    clear hK K
    refine lexL_step (fun K hK => ⟨by kernel_rfl, ⟨_, rfl⟩, fun n => ?_, fun v hv => ?_⟩)
    · go_simp
      exact lUpon_one
    subst hv
    go_simp
    refine hK _ ?_
    clear hK K
    refine lexL_step (fun K hK => ⟨by kernel_rfl, ⟨_, rfl⟩, fun n => ?_, fun v hv => ?_⟩)
    · go_simp
      exact lUpon_one
    subst hv
    go_simp
    refine hK _ ?_
    clear hK K
    refine lexL_step (fun K hK => ⟨by kernel_rfl, ⟨_, rfl⟩, fun n => ?_, fun v hv => ?_⟩)
    · go_simp
      exact lUpon_one
    subst hv
    go_simp
    refine hK _ ?_
    clear hK K
    refine lexL_step (fun K hK => ⟨by kernel_rfl, ⟨_, rfl⟩, fun n => ?_, fun v hv => ?_⟩)
    · go_simp
      exact lUpon_one
    subst hv
    go_simp
    refine hK _ ?_
    clear hK K
    refine lexL_step (fun K hK => ⟨by kernel_rfl, ⟨_, rfl⟩, fun n => ?_, fun v hv => ?_⟩)
    · go_simp
      exact lUpon_one
    subst hv
    go_simp
    refine hK _ ?_
    clear hK K
    refine lexL_step (fun K hK => ⟨by kernel_rfl, ⟨_, rfl⟩, fun n => ?_, fun v hv => ?_⟩)
    · go_simp
      exact lUpon_one
    subst hv
    go_simp
    refine hK _ ?_
    clear hK K
    refine lexL_step (fun K hK => ⟨by kernel_rfl, ⟨_, rfl⟩, fun n => ?_, fun v hv => ?_⟩)
    · go_simp
      exact lUpon_one
    subst hv
    go_simp
    refine hK _ ?_
    clear hK K
    refine lexL_step (fun K hK => ⟨by kernel_rfl, ⟨_, rfl⟩, fun n => ?_, fun v hv => ?_⟩)
    · go_simp
      exact lUpon_one
    subst hv
    go_simp
    refine hK _ ?_
    clear hK K
    refine lexL_step (fun K hK => ⟨by kernel_rfl, ⟨_, rfl⟩, fun n => ?_, fun v hv => ?_⟩)
    · go_simp
      exact lUpon_one
    subst hv
    go_simp
    refine hK _ ?_
    clear hK K
    refine lexL_step (fun K hK => ⟨by kernel_rfl, ⟨_, rfl⟩, fun n => ?_, fun v hv => ?_⟩)
    · go_simp
      exact lUpon_one
    subst hv
    go_simp
    refine hK _ ?_
    clear hK K
    refine lexL_step (fun K hK => ⟨by kernel_rfl, ⟨_, rfl⟩, fun n => ?_, fun v hv => ?_⟩)
    · go_simp
      exact lUpon_one
    subst hv
    go_simp
    refine hK _ ?_
    clear hK K
    refine lexL_step (fun K hK => ⟨by kernel_rfl, ⟨_, rfl⟩, fun n => ?_, fun v hv => ?_⟩)
    · go_simp
      exact lUpon_one
    subst hv
    go_simp
    refine hK _ ?_
    clear hK K
    refine lexL_step (fun K hK => ⟨by kernel_rfl, ⟨_, rfl⟩, fun n => ?_, fun v hv => ?_⟩)
    · go_simp
      exact lUpon_one
    subst hv
    go_simp
    refine hK _ ?_
    clear hK K
    refine lexL_step (fun K hK => ⟨by kernel_rfl, ⟨_, rfl⟩, fun n => ?_, fun v hv => ?_⟩)
    · go_simp
      exact lUpon_one
    subst hv
    go_simp
    refine hK _ ?_
    clear hK K
    refine lexL_step (fun K hK => ⟨by kernel_rfl, ⟨_, rfl⟩, fun n => ?_, fun v hv => ?_⟩)
    · go_simp
      exact lUpon_one
    subst hv
    go_simp
    refine hK _ ?_
    clear hK K
    refine lexL_step (fun K hK => ⟨by kernel_rfl, ⟨_, rfl⟩, fun n => ?_, fun v hv => ?_⟩)
    · go_simp
      exact lUpon_one
    subst hv
    go_simp
    refine hK _ ?_
    clear hK K
    refine lexL_step (fun K hK => ⟨by kernel_rfl, ⟨_, rfl⟩, fun n => ?_, fun v hv => ?_⟩)
    · go_simp
      exact lUpon_one
    subst hv
    go_simp
    refine hK _ ?_
    clear hK K
    refine lexL_step (fun K hK => ⟨by kernel_rfl, ⟨_, rfl⟩, fun n => ?_, fun v hv => ?_⟩)
    · go_simp
      exact lUpon_one
    subst hv
    go_simp
    refine hK _ ?_
    clear hK K
    refine lexL_step (fun K hK => ⟨by kernel_rfl, ⟨_, rfl⟩, fun n => ?_, fun v hv => ?_⟩)
    · go_simp
      exact lUpon_one
    subst hv
    go_simp
    refine hK _ ?_
    clear hK K
    refine lexL_step (fun K hK => ⟨by kernel_rfl, ⟨_, rfl⟩, fun n => ?_, fun v hv => ?_⟩)
    · go_simp
      exact lUpon_one
    subst hv
    go_simp
    refine hK _ ?_
    clear hK K
    refine lexL_step (fun K hK => ⟨by kernel_rfl, ⟨_, rfl⟩, fun n => ?_, fun v hv => ?_⟩)
    · go_simp
      exact lUpon_one
    subst hv
    go_simp
    refine hK _ ?_
    clear hK K
    refine lexL_step (fun K hK => ⟨by kernel_rfl, ⟨_, rfl⟩, fun n => ?_, fun v hv => ?_⟩)
    · go_simp
      exact lUpon_one
    subst hv
    go_simp
    refine hK _ ?_
    clear hK K
    refine lexL_step (fun K hK => ⟨by kernel_rfl, ⟨_, rfl⟩, fun n => ?_, fun v hv => ?_⟩)
    · go_simp
      exact lUpon_one
    subst hv
    go_simp
    refine hK _ ?_
    clear hK K
    refine lexL_step (fun K hK => ⟨by kernel_rfl, ⟨_, rfl⟩, fun n => ?_, fun v hv => ?_⟩)
    · go_simp
      exact lUpon_one
    subst hv
    go_simp
    refine hK _ ?_
    clear hK K
    refine lexL_step (fun K hK => ⟨by kernel_rfl, ⟨_, rfl⟩, fun n => ?_, fun v hv => ?_⟩)
    · go_simp
      exact lUpon_one
    subst hv
    go_simp
    refine hK _ ?_
    clear hK K
    refine lexL_step (fun K hK => ⟨by kernel_rfl, ⟨_, rfl⟩, fun n => ?_, fun v hv => ?_⟩)
    · go_simp
      exact lUpon_one
    subst hv
    go_simp
    refine hK _ ?_
    clear hK K
    refine lexL_end ?_
    intro n9
    replace HM := hideR ((unhideR HM).keep (drawn_below W1 n9))
    replace HK := hideR ((unhideR HK).go (drawn_below W1 n9))
    replace HC := hideR (keepB (unhideR HC) (drawn_below W1 n9))
    clear e0 e1 e2 e3 c2 c6
    generalize W1.drewN n9 = W2 at *
    by_cases h3 : m.st = 4 ∨ m.st = 3
    · rw [if_pos h3] at hd
      have HX : HeldR (DoPost g m c w (.returned (.int .i64 7)) W2) := by
        unfold HeldR DoPost
        rw [hd]
        exact ⟨rfl, unhideR HM, unhideR HK⟩
      have hc4 : (m.st == 4) = true ∨ ((m.st == 4) = false ∧ (m.st == 3) = true) := by
        by_cases q : m.st = 4
        · exact .inl (by simp [q])
        · refine .inr ⟨by simp [q], ?_⟩
          rcases h3 with k | k
          · exact absurd k q
          · simp [k]
      clear hd h3
      rcases hc4 with t4 | ⟨t4, t3⟩
      all_goals
        go_wp2
        all_goals
          go_ret
          exact unhideR HX
    · rw [if_neg h3] at hd
      obtain ⟨e0, e1, e2, e3⟩ := four_cells (unhideR HC)
      have d10 := (unhideR HM).cell 10 (by decide)
      have c10 : W2.cell? ⟨g, 10, none⟩ = some (.int .i64 m.P) := d10.1
      have f10 := d10.2
      have M1 := (unhideR HM).P c.a
      have d11 := M1.cell 11 (by decide)
      have c11 : (W2.setCell ⟨g, 10, none⟩ (.int .i64 c.a)).cell? ⟨g, 11, none⟩ = some (.int .i64 m.Q) := d11.1
      have f11 := d11.2
      have M2 := M1.Q c.b
      have d12 := M2.cell 12 (by decide)
      have c12 : ((W2.setCell ⟨g, 10, none⟩ (.int .i64 c.a)).setCell ⟨g, 11, none⟩ (.int .i64 c.b)).cell? ⟨g, 12, none⟩ = some (.int .i64 m.st) := d12.1
      have f12 := d12.2
      have hne : w.heap.size ≠ g := by omega
      have E1 := blk_other (i := 10) (x := .int .i64 c.a) (unhideR HC) hne
      obtain ⟨g0, g1, g2, g3⟩ := four_cells E1
      have HX : HeldR (DoPost g m c w (.returned (.int .i64 0)) (((W2.setCell ⟨g, 10, none⟩ (.int .i64 c.a)).setCell ⟨g, 11, none⟩ (.int .i64 c.b)).setCell ⟨g, 12, none⟩ (.int .i64 2))) := by
        unfold HeldR DoPost
        rw [hd]
        exact ⟨rfl, M2.st 2, (((unhideR HK).put 10 _).put 11 _).put 12 _⟩
      have t3 : (m.st == 3) = false := by simp; omega
      have t4 : (m.st == 4) = false := by simp; omega
      clear hd h3 d10 d11 d12 M1 M2 E1
      go_wp2
      all_goals
        go_ret
        exact unhideR HX
end Go.Proofs.YteoappoijihomahDoor
