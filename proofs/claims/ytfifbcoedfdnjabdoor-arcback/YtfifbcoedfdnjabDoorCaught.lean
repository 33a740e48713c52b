/-
  What is thrown is caught: the deferred function by its two contracts; caught, ReadDegrees and ReadHours by theirs.
-/
import Derived.Test.YtfifbcoedfdnjabDoorRead3
import Derived.Defers
import Derived.Recover
import Derived.BigRegion
namespace Go.Proofs.YtfifbcoedfdnjabDoor
open Go.RowKit Go.Lib

theorem assert_nil (w : World) : (Instr.typeAssert .nilIface 20 73 true).run Tryd.prog w = .ok (.tuple #[.agg #[.int .i64 0], .bool false]) w := by kernel_rfl
theorem assert_wrong (v : Value) (w : World) : (Instr.typeAssert (.iface 73 v) 20 73 true).run Tryd.prog w = .ok (.tuple #[v, .bool true]) w := by kernel_rfl

theorem frame_is (x y v : Value) : #[x, y] ++ ((Array.replicate 19 undef).setIfInBounds 3 v).setIfInBounds 0 v =
    #[x, y, v, undef, undef, v, undef, undef, undef, undef, undef, undef, undef, undef, undef, undef, undef, undef, undef, undef, undef] := by
  apply Array.ext'
  simp [List.replicate]

set_option maxRecDepth 100000 in
theorem catch_idle (p q : Addr) (w : World) :
    CallsD Tryd.prog 52 #[.pointer (some p), .pointer (some q)] .returning w fun e u' w' => e = .returned (.tuple #[]) ∧ u' = .returning ∧ Below w.heap.size w w' := by
  have ha := assert_nil
  refine callsD_of_wpS Tryd.func52 rfl fun c₀ cs hu => ?_
  apply wpS_seq
  apply wpS_region
  simp [wpOpsS, go_sem, recoverD, hu, Tryd.ntmps52, Exit.thenS]
  refine wpS_of_wp ?_
  rw [frame_is]
  go_wp2
  cases c₀
  simp_all [bodyPostS, results, Tryd.results52]
  exact (Below.refl _ w).alloc (Nat.le_refl _) _

/-- The world behind what was thrown at n: 0 and a fault. -/
structure Faulty (a n : Nat) (ad : Addr) (w w' : World) : Prop where
  res : w'.cell? ⟨a, 0, none⟩ = some (.int .i64 0)
  err : w'.cell? ⟨a + 1, 0, none⟩ = some (.iface 61 (.pointer (some ⟨w.heap.size + 1, 0, none⟩)))
  pos : w'.cell? ⟨w.heap.size + 1, 0, none⟩ = some (.int .i64 n)
  sent : w'.cell? ⟨w.heap.size + 1, 1, none⟩ = some (.iface 151 (.pointer (some ad)))
  old : Below a w w'

theorem late_cell {w : World} {a : Nat} {o' : Obj} {v u : Value} (h : w.cell? ⟨a + 1, 0, none⟩ = some u) (hl : a + 1 < w.heap.size) : ((w.setCell ⟨a, 0, none⟩ v).alloc o').cell? ⟨a + 1, 0, none⟩ = some u := by
  have hb : Below (a + 2) (w.setCell ⟨a, 0, none⟩ v) ((w.setCell ⟨a, 0, none⟩ v).alloc o') := (Below.refl _ _).alloc (by simp [World.setCell]; omega) _
  rw [hb.cell (show a + 1 < a + 2 by omega), World.cell?_setCell_other _ _ _ _ (by simp)]
  exact h
theorem late_frozen {w : World} {a : Nat} {o' : Obj} {v : Value} (h : w.frozen? ⟨a + 1, 0, none⟩ = false) (hl : a + 1 < w.heap.size) : ((w.setCell ⟨a, 0, none⟩ v).alloc o').frozen? ⟨a + 1, 0, none⟩ = false := by
  have hb : Below (a + 2) (w.setCell ⟨a, 0, none⟩ v) ((w.setCell ⟨a, 0, none⟩ v).alloc o') := (Below.refl _ _).alloc (by simp [World.setCell]; omega) _
  rw [hb.frozen (show a + 1 < a + 2 by omega), World.frozen?_setCell]
  exact h

theorem new_cell {w : World} {m i : Nat} {c : Array Value} {t : TypeId} (h : m = w.heap.size) : (w.alloc (.cells c t)).cell? ⟨m, i, none⟩ = c[i]? := by
  rw [World.cell?_alloc_at _ _ _ _ h]
theorem faulty1 {w : World} {a n : Nat} {ad : Addr} {o : Obj} {t : TypeId} {v0 v1 : Value} (h0 : w.cell? ⟨a, 0, none⟩ = some v0) (h1 : w.cell? ⟨a + 1, 0, none⟩ = some v1) (la : a + 1 < w.heap.size) :
    Faulty a n ad w ((((w.alloc o).alloc (.cells #[.int .i64 n, .iface 151 (.pointer (some ad))] t)).setCell ⟨a, 0, none⟩ (.int .i64 0)).setCell ⟨a + 1, 0, none⟩ (.iface 61 (.pointer (some ⟨w.heap.size + 1, 0, none⟩)))).drew := by
  have hX : Below w.heap.size w ((w.alloc o).alloc (.cells #[.int .i64 n, .iface 151 (.pointer (some ad))] t)) := ((Below.refl w.heap.size w).alloc (Nat.le_refl _) o).alloc (by simp) _
  have n0 : ((w.alloc o).alloc (.cells #[.int .i64 n, .iface 151 (.pointer (some ad))] t)).cell? ⟨w.heap.size + 1, 0, none⟩ = some (.int .i64 n) := new_cell (by simp)
  have n1 : ((w.alloc o).alloc (.cells #[.int .i64 n, .iface 151 (.pointer (some ad))] t)).cell? ⟨w.heap.size + 1, 1, none⟩ = some (.iface 151 (.pointer (some ad))) := new_cell (by simp)
  generalize (w.alloc o).alloc (.cells #[.int .i64 n, .iface 151 (.pointer (some ad))] t) = X at hX n0 n1
  have x0 := (hX.cell (show (⟨a, 0, none⟩ : Addr).block < w.heap.size from (by show a < _; omega))).trans h0
  have x1 := (hX.cell (show (⟨a + 1, 0, none⟩ : Addr).block < w.heap.size from la)).trans h1
  refine ⟨?_, ?_, ?_, ?_, (((hX.mono (B' := a) (by omega)).setCell (Nat.le_refl _) _).setCell (by show a ≤ a + 1; omega) _).drew⟩
  · show (World.setCell _ _ _).cell? _ = _
    rw [World.cell?_setCell_other _ _ _ _ (by simp)]
    exact World.cell?_setCell_same _ _ _ x0
  · show (World.setCell _ _ _).cell? _ = _
    refine World.cell?_setCell_same _ _ _ (u := v1) ?_
    rw [World.cell?_setCell_other _ _ _ _ (by simp)]
    exact x1
  · show (World.setCell _ _ _).cell? _ = _
    rw [World.cell?_setCell_other _ _ _ _ (by intro e; injection e with e1; omega), World.cell?_setCell_other _ _ _ _ (by intro e; injection e with e1; omega)]
    exact n0
  · show (World.setCell _ _ _).cell? _ = _
    rw [World.cell?_setCell_other _ _ _ _ (by simp), World.cell?_setCell_other _ _ _ _ (by simp)]
    exact n1
theorem faulty2 {w : World} {a n : Nat} {ad : Addr} {o : Obj} {t : TypeId} {v0 v1 : Value} (h0 : w.cell? ⟨a, 0, none⟩ = some v0) (h1 : w.cell? ⟨a + 1, 0, none⟩ = some v1) (la : a + 1 < w.heap.size) :
    Faulty a n ad w ((((w.alloc o).setCell ⟨a, 0, none⟩ (.int .i64 0)).alloc (.cells #[.int .i64 n, .iface 151 (.pointer (some ad))] t)).setCell ⟨a + 1, 0, none⟩ (.iface 61 (.pointer (some ⟨w.heap.size + 1, 0, none⟩)))).drew := by
  have hX : Below w.heap.size w (w.alloc o) := (Below.refl w.heap.size w).alloc (Nat.le_refl _) o
  have x0 := (hX.cell (show (⟨a, 0, none⟩ : Addr).block < w.heap.size from (by show a < _; omega))).trans h0
  have x1 := (hX.cell (show (⟨a + 1, 0, none⟩ : Addr).block < w.heap.size from la)).trans h1
  have y0 := World.cell?_setCell_same _ _ (.int .i64 0) x0
  have sz : ((w.alloc o).setCell ⟨a, 0, none⟩ (.int .i64 0)).heap.size = w.heap.size + 1 := by simp
  have hY : Below a w ((w.alloc o).setCell ⟨a, 0, none⟩ (.int .i64 0)) := (hX.mono (B' := a) (by omega)).setCell (Nat.le_refl _) _
  have y1 : ((w.alloc o).setCell ⟨a, 0, none⟩ (.int .i64 0)).cell? ⟨a + 1, 0, none⟩ = some v1 := by
    rw [World.cell?_setCell_other _ _ _ _ (by simp)]; exact x1
  generalize (w.alloc o).setCell ⟨a, 0, none⟩ (.int .i64 0) = Y at y0 y1 sz hY
  have z0 : (Y.alloc (.cells #[.int .i64 n, .iface 151 (.pointer (some ad))] t)).cell? ⟨a, 0, none⟩ = some (.int .i64 0) := by
    rw [World.cell?_alloc_lt _ _ _ (show (⟨a, 0, none⟩ : Addr).block < _ by show a < _; omega)]; exact y0
  have z1 : (Y.alloc (.cells #[.int .i64 n, .iface 151 (.pointer (some ad))] t)).cell? ⟨a + 1, 0, none⟩ = some v1 := by
    rw [World.cell?_alloc_lt _ _ _ (show (⟨a + 1, 0, none⟩ : Addr).block < _ by show a + 1 < _; omega)]; exact y1
  have n0 : (Y.alloc (.cells #[.int .i64 n, .iface 151 (.pointer (some ad))] t)).cell? ⟨w.heap.size + 1, 0, none⟩ = some (.int .i64 n) := new_cell sz.symm
  have n1 : (Y.alloc (.cells #[.int .i64 n, .iface 151 (.pointer (some ad))] t)).cell? ⟨w.heap.size + 1, 1, none⟩ = some (.iface 151 (.pointer (some ad))) := new_cell sz.symm
  have hZ := hY.alloc (show a ≤ Y.heap.size by omega) (.cells #[.int .i64 n, .iface 151 (.pointer (some ad))] t)
  refine ⟨?_, ?_, ?_, ?_, (hZ.setCell (by show a ≤ a + 1; omega) _).drew⟩
  · show (World.setCell _ _ _).cell? _ = _
    rw [World.cell?_setCell_other _ _ _ _ (by simp)]
    exact z0
  · exact World.cell?_setCell_same _ _ _ z1
  · show (World.setCell _ _ _).cell? _ = _
    rw [World.cell?_setCell_other _ _ _ _ (by intro e; injection e with e1; omega)]
    exact n0
  · show (World.setCell _ _ _).cell? _ = _
    rw [World.cell?_setCell_other _ _ _ _ (by simp)]
    exact n1

set_option maxRecDepth 100000 in
theorem catch_wrong (a : Nat) (n : Nat) (ad : Addr) (v0 v1 : Value) (older : List PanicEntry) (w : World) (h0 : w.cell? ⟨a, 0, none⟩ = some v0) (h1 : w.cell? ⟨a + 1, 0, none⟩ = some v1) (f0 : w.frozen? ⟨a, 0, none⟩ = false) (f1 : w.frozen? ⟨a + 1, 0, none⟩ = false) (he : w.cell? ⟨1, 0, none⟩ = some (.iface 151 (.pointer (some ad)))) (la : a + 1 < w.heap.size) (lg : 1 < w.heap.size) :
    CallsD Tryd.prog 52 #[.pointer (some ⟨a, 0, none⟩), .pointer (some ⟨a + 1, 0, none⟩)] (.panicking ({ v := thrown n, recovered := false } :: older)) w fun e u' w' =>
      e = .returned (.tuple #[]) ∧ u' = .panicking ({ v := thrown n, recovered := true } :: older) ∧ Faulty a n ad w w' := by
  have ha := assert_wrong
  have al : ∀ (o : Obj) (x i : Nat), x < w.heap.size → (w.alloc o).cell? ⟨x, i, none⟩ = w.cell? ⟨x, i, none⟩ := fun o x i h => ((Below.refl w.heap.size w).alloc (Nat.le_refl _) o).cell h
  have al2 : ∀ (o o' : Obj) (x i : Nat), x < w.heap.size → ((w.alloc o).alloc o').cell? ⟨x, i, none⟩ = w.cell? ⟨x, i, none⟩ := fun o o' x i h => (((Below.refl w.heap.size w).alloc (Nat.le_refl _) o).alloc ((Below.refl w.heap.size w).alloc (Nat.le_refl _) o).size o').cell h
  have fl2 : ∀ (o o' : Obj) (x i : Nat), x < w.heap.size → ((w.alloc o).alloc o').frozen? ⟨x, i, none⟩ = w.frozen? ⟨x, i, none⟩ := fun o o' x i h => (((Below.refl w.heap.size w).alloc (Nat.le_refl _) o).alloc ((Below.refl w.heap.size w).alloc (Nat.le_refl _) o).size o').frozen h
  have fl : ∀ (o : Obj) (x i : Nat), x < w.heap.size → (w.alloc o).frozen? ⟨x, i, none⟩ = w.frozen? ⟨x, i, none⟩ := fun o x i h => ((Below.refl w.heap.size w).alloc (Nat.le_refl _) o).frozen h
  have c1 := fun o => (al o a 0 (by omega)).trans h0
  have c2 := fun o => (al o (a + 1) 0 (by omega)).trans h1
  have c3 := fun o => (al o 1 0 lg).trans he
  have d1 := fun o o' => (al2 o o' a 0 (by omega)).trans h0
  have d2 := fun o o' => (al2 o o' (a + 1) 0 (by omega)).trans h1
  have e1 := fun o => (fl o a 0 (by omega)).trans f0
  have e2 := fun o => (fl o (a + 1) 0 (by omega)).trans f1
  have k1 := fun o o' => (fl2 o o' a 0 (by omega)).trans f0
  have k2 := fun o o' => (fl2 o o' (a + 1) 0 (by omega)).trans f1
  have m2 := fun (o o' : Obj) (v : Value) => late_cell (o' := o') (v := v) (c2 o) (Nat.lt_of_lt_of_le la ((Below.refl w.heap.size w).alloc (Nat.le_refl _) o).size)
  have n2 := fun (o o' : Obj) (v : Value) => late_frozen (o' := o') (v := v) (a := a) (e2 o) (Nat.lt_of_lt_of_le la ((Below.refl w.heap.size w).alloc (Nat.le_refl _) o).size)
  clear al al2 fl fl2
  unfold thrown
  refine callsD_of_wpS Tryd.func52 rfl fun c₀ cs hu => ?_
  apply wpS_seq
  apply wpS_region
  simp [wpOpsS, go_sem, recoverD, hu, Tryd.ntmps52, Exit.thenS]
  refine wpS_of_wp ?_
  rw [frame_is]
  go_wp2
  go_region
  all_goals
    go_wp2
    cases c₀
    simp_all [bodyPostS, results, Tryd.results52]
    first
      | exact faulty1 h0 h1 la
      | exact faulty2 h0 h1 la

theorem rd_new {w : World} {s : ByteArray} {L : List Int} {o o' : Obj} {t : TypeId} (tb : Utf8Tabs 13 14 w) (hr : Runs s L) (hl : L.length ≤ 1000000000) (hw : 15 ≤ w.heap.size) :
    Rd (w.heap.size + 2) L 0 (((w.alloc o).alloc o').alloc (.cells #[.string s, .int .i64 0] t)) ∧ Below w.heap.size w (((w.alloc o).alloc o').alloc (.cells #[.string s, .int .i64 0] t)) := by
  have hb : Below w.heap.size w (((w.alloc o).alloc o').alloc (.cells #[.string s, .int .i64 0] t)) := (((Below.refl w.heap.size w).alloc (Nat.le_refl _) o).alloc (by simp) _).alloc (by simp; omega) _
  have sz : w.heap.size + 2 = ((w.alloc o).alloc o').heap.size := by simp
  refine ⟨⟨⟨s, new_cell sz, hr⟩, new_cell sz, ?_, ?_, tabs_below tb hb hw, by omega, by simp, by simpa using hl⟩, hb⟩
  · rw [sz]; exact World.frozen?_alloc_new _ _ _ _
  · rw [sz]; exact World.frozen?_alloc_new _ _ _ _

theorem in_heap {W : World} {x i : Nat} {v : Value} (hx : W.cell? ⟨x, i, none⟩ = some v) : x < W.heap.size := by
  rcases Nat.lt_or_ge x W.heap.size with l | l
  · exact l
  · simp [World.cell?, Array.getElem?_eq_none l] at hx

set_option maxRecDepth 100000 in
set_option maxHeartbeats 1000000 in
theorem caught_got (f : FuncId) (s : ByteArray) (L M : List Int) (n : Int) (j : Nat) (w : World) (tb : Utf8Tabs 13 14 w) (hr : Runs s L) (hl : L.length ≤ 1000000000) (hw : 15 ≤ w.heap.size)
    (hc : ∀ args w, (callFunc f args).run Tryd.prog w = .ok (.enter f args) w)
    (hf : ∀ (g : Nat) (v : World), Rd g L 0 v → Calls Tryd.prog f #[.pointer (some ⟨g, 0, none⟩)] v (Out g v (.got n M j) (fun n => .int .i64 n))) :
    Calls Tryd.prog 34 #[.string s, .func (.func f) #[] #[]] w fun e w' => e = .returned (.tuple #[.int .i64 n, .nilIface]) ∧ Below w.heap.size w w' := by
  have hmf : ∀ (fn : Fn) (first cap : Array Value) (w : World), (Instr.makeFunc fn first cap).run Tryd.prog w = .ok (.func fn first cap) w := fun _ _ _ _ => rfl
  have HF := hide hf
  clear hf
  have rn := fun o o' t => rd_new (w := w) (o := o) (o' := o') (t := t) tb hr hl hw
  have RN := hide rn
  clear rn
  go_enter_defers Tryd.func34, Tryd.ntmps34
  go_wp2_with fail
  have hn := unhide RN (.cells #[.int .i64 0] 3) (.cells #[.nilIface] 23) 77
  have q0 : (((w.alloc (.cells #[.int .i64 0] 3)).alloc (.cells #[.nilIface] 23)).alloc (.cells #[.string s, .int .i64 0] 77)).cell? ⟨w.heap.size, 0, none⟩ = some (.int .i64 0) := by simp [go_sem]
  have q1 : (((w.alloc (.cells #[.int .i64 0] 3)).alloc (.cells #[.nilIface] 23)).alloc (.cells #[.string s, .int .i64 0] 77)).cell? ⟨w.heap.size + 1, 0, none⟩ = some .nilIface := by simp [go_sem]
  have z0 : (((w.alloc (.cells #[.int .i64 0] 3)).alloc (.cells #[.nilIface] 23)).alloc (.cells #[.string s, .int .i64 0] 77)).frozen? ⟨w.heap.size, 0, none⟩ = false := by simp [go_sem]
  have z1 : (((w.alloc (.cells #[.int .i64 0] 3)).alloc (.cells #[.nilIface] 23)).alloc (.cells #[.string s, .int .i64 0] 77)).frozen? ⟨w.heap.size + 1, 0, none⟩ = false := by simp [go_sem]
  refine (unhide HF _ _ hn.1).mono ?_
  rintro e w1 ⟨rfl, r1, hb1⟩
  have c0 := (hb1.cell (show (⟨w.heap.size, 0, none⟩ : Addr).block < w.heap.size + 2 by show w.heap.size < _; omega)).trans q0
  have c1 := (hb1.cell (show (⟨w.heap.size + 1, 0, none⟩ : Addr).block < w.heap.size + 2 by show w.heap.size + 1 < _; omega)).trans q1
  have f0 := (hb1.frozen (show (⟨w.heap.size, 0, none⟩ : Addr).block < w.heap.size + 2 by show w.heap.size < _; omega)).trans z0
  have f1 := (hb1.frozen (show (⟨w.heap.size + 1, 0, none⟩ : Addr).block < w.heap.size + 2 by show w.heap.size + 1 < _; omega)).trans z1
  have B1 := hide (hn.2.trans (hb1.mono (B' := w.heap.size) (by omega)))
  clear hn q0 q1 z0 z1 hb1 r1
  have l0 := in_heap c0
  have l1 := in_heap c1
  have k0 : ((w1.setCell ⟨w.heap.size, 0, none⟩ (.int .i64 n)).setCell ⟨w.heap.size + 1, 0, none⟩ .nilIface).cell? ⟨w.heap.size, 0, none⟩ = some (.int .i64 n) := by
    rw [World.cell?_setCell_other _ _ _ _ (by simp)]
    exact World.cell?_setCell_same _ _ _ c0
  have k1 : ((w1.setCell ⟨w.heap.size, 0, none⟩ (.int .i64 n)).setCell ⟨w.heap.size + 1, 0, none⟩ .nilIface).cell? ⟨w.heap.size + 1, 0, none⟩ = some .nilIface := by
    refine World.cell?_setCell_same _ _ _ (u := .nilIface) ?_
    rw [World.cell?_setCell_other _ _ _ _ (by simp)]
    exact c1
  have B2 := hide (((unhide B1).setCell (p := ⟨w.heap.size, 0, none⟩) (Nat.le_refl _) (.int .i64 n)).setCell (p := ⟨w.heap.size + 1, 0, none⟩) (by show w.heap.size ≤ w.heap.size + 1; omega) .nilIface)
  have K0 := hide k0
  have K1 := hide k1
  clear k0 k1 B1
  go_wp2
  refine leaves_cons (f := 52) (args := #[.pointer (some ⟨w.heap.size, 0, none⟩), .pointer (some ⟨w.heap.size + 1, 0, none⟩)]) (by simp) (by simp [go_sem]) ?_
  refine (catch_idle ⟨w.heap.size, 0, none⟩ ⟨w.heap.size + 1, 0, none⟩ _).mono ?_
  rintro e u' w'' ⟨rfl, rfl, hb2⟩
  have y0 := (hb2.cell (show (⟨w.heap.size, 0, none⟩ : Addr).block < _ by simpa using l0)).trans (unhide K0)
  have y1 := (hb2.cell (show (⟨w.heap.size + 1, 0, none⟩ : Addr).block < _ by simpa using l1)).trans (unhide K1)
  have b3 := (unhide B2).trans (hb2.mono (by simp; omega))
  simp [Leaves, settle, results, Tryd.results34, go_sem, y0, y1]
  exact b3

set_option maxRecDepth 100000 in
set_option maxHeartbeats 1000000 in
theorem caught_bad (f : FuncId) (s : ByteArray) (L : List Int) (p : Nat) (ad : Addr) (w : World) (tb : Utf8Tabs 13 14 w) (hr : Runs s L) (hl : L.length ≤ 1000000000) (hw : 15 ≤ w.heap.size) (he : w.cell? ⟨1, 0, none⟩ = some (.iface 151 (.pointer (some ad))))
    (hc : ∀ args w, (callFunc f args).run Tryd.prog w = .ok (.enter f args) w)
    (hf : ∀ (g : Nat) (v : World), Rd g L 0 v → Calls Tryd.prog f #[.pointer (some ⟨g, 0, none⟩)] v (Out g v (.bad p) (fun n => .int .i64 n))) :
    Calls Tryd.prog 34 #[.string s, .func (.func f) #[] #[]] w fun e w' => ∃ fb, e = .returned (.tuple #[.int .i64 0, .iface 61 (.pointer (some ⟨fb, 0, none⟩))]) ∧ w'.cell? ⟨fb, 0, none⟩ = some (.int .i64 p) ∧ w'.cell? ⟨fb, 1, none⟩ = some (.iface 151 (.pointer (some ad))) ∧ Below w.heap.size w w' := by
  have hmf : ∀ (fn : Fn) (first cap : Array Value) (w : World), (Instr.makeFunc fn first cap).run Tryd.prog w = .ok (.func fn first cap) w := fun _ _ _ _ => rfl
  have HF := hide hf
  clear hf
  have rn := fun o o' t => rd_new (w := w) (o := o) (o' := o') (t := t) tb hr hl hw
  have RN := hide rn
  clear rn
  go_enter_defers Tryd.func34, Tryd.ntmps34
  go_wp2_with fail
  have hn := unhide RN (.cells #[.int .i64 0] 3) (.cells #[.nilIface] 23) 77
  have q0 : (((w.alloc (.cells #[.int .i64 0] 3)).alloc (.cells #[.nilIface] 23)).alloc (.cells #[.string s, .int .i64 0] 77)).cell? ⟨w.heap.size, 0, none⟩ = some (.int .i64 0) := by simp [go_sem]
  have q1 : (((w.alloc (.cells #[.int .i64 0] 3)).alloc (.cells #[.nilIface] 23)).alloc (.cells #[.string s, .int .i64 0] 77)).cell? ⟨w.heap.size + 1, 0, none⟩ = some .nilIface := by simp [go_sem]
  have z0 : (((w.alloc (.cells #[.int .i64 0] 3)).alloc (.cells #[.nilIface] 23)).alloc (.cells #[.string s, .int .i64 0] 77)).frozen? ⟨w.heap.size, 0, none⟩ = false := by simp [go_sem]
  have z1 : (((w.alloc (.cells #[.int .i64 0] 3)).alloc (.cells #[.nilIface] 23)).alloc (.cells #[.string s, .int .i64 0] 77)).frozen? ⟨w.heap.size + 1, 0, none⟩ = false := by simp [go_sem]
  refine (unhide HF _ _ hn.1).mono ?_
  rintro e w1 ⟨rfl, hb1⟩
  have c0 := (hb1.cell (show (⟨w.heap.size, 0, none⟩ : Addr).block < w.heap.size + 2 by show w.heap.size < _; omega)).trans q0
  have c1 := (hb1.cell (show (⟨w.heap.size + 1, 0, none⟩ : Addr).block < w.heap.size + 2 by show w.heap.size + 1 < _; omega)).trans q1
  have f0 := (hb1.frozen (show (⟨w.heap.size, 0, none⟩ : Addr).block < w.heap.size + 2 by show w.heap.size < _; omega)).trans z0
  have f1 := (hb1.frozen (show (⟨w.heap.size + 1, 0, none⟩ : Addr).block < w.heap.size + 2 by show w.heap.size + 1 < _; omega)).trans z1
  have B1 := hide (hn.2.trans (hb1.mono (B' := w.heap.size) (by omega)))
  clear hn q0 q1 z0 z1 hb1
  have l1 := in_heap c1
  have g0 : w1.cell? ⟨1, 0, none⟩ = some (.iface 151 (.pointer (some ad))) := ((unhide B1).cell (show (⟨1, 0, none⟩ : Addr).block < _ by show 1 < _; omega)).trans he
  have lg := in_heap g0
  go_wp2
  refine leaves_cons (f := 52) (args := #[.pointer (some ⟨w.heap.size, 0, none⟩), .pointer (some ⟨w.heap.size + 1, 0, none⟩)]) (by simp) (by simp [go_sem]) ?_
  refine (catch_wrong w.heap.size p ad _ _ [] _ c0 c1 f0 f1 g0 l1 lg).mono ?_
  rintro e u' w'' ⟨rfl, rfl, hF⟩
  have y0 := hF.res
  have y1 := hF.err
  have b3 := (unhide B1).trans hF.old
  simp [Leaves, settle, results, Tryd.results34, go_sem, y0, y1]
  exact ⟨hF.pos, hF.sent, b3⟩
end Go.Proofs.YtfifbcoedfdnjabDoor
