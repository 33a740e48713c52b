/-
  The program's Moved, by contract.
-/
import Derived.Test.YtngdemhhcablmalDoorShM3
import Derived.Test.YtngdemhhcablmalDoorDF1A
import Derived.Test.YtngdemhhcablmalDoorEr2S
import Derived.Test.YtngdemhhcablmalDoorDT2e
namespace Go.Proofs.YtngdemhhcablmalDoor
open Go Go.RowKit

theorem results_tmp4M {fn : Func} {t u v x : Tmp} (h : fn.results = #[.tmp t, .tmp u, .tmp v, .tmp x]) (tmps : Array Value) (P : Program) (w : World) : (results fn tmps).run P w = .ok (.tuple #[tmps.getD t undef, tmps.getD u undef, tmps.getD v undef, tmps.getD x undef]) w := by
  simp [results, h, go_sem]
/-- 0, or the error of a move. -/
def movE (p q : Pic) (m : Int) : Int := if picE p ≠ 0 then picE p else if picE q ≠ 0 then picE q else if m < 0 ∨ 16 < m then 5 else if 4194304 < p.wide * p.high * (2 * m + 1) * (2 * m + 1) then 2 else 0
def movB (p q : Pic) (m : Int) : Bst := bstY (tgV p.L q.L p.wide.toNat p.high.toNat q.wide.toNat q.high.toNat) m (2 * m.toNat + 1)
def MdPost (a : Nat → Addr) (p q : Pic) (m : Int) (w : World) (e : Ending) (w' : World) : Prop := ∃ er : Value, e = .returned (.tuple #[.int .i64 (if movE p q m = 0 then (movB p q m).x else 0), .int .i64 (if movE p q m = 0 then (movB p q m).y else 0), .int .i64 (if movE p q m = 0 then (movB p q m).s else 0), er]) ∧ ErrIs a (movE p q m) er ∧ Below w.heap.size w w'
theorem md_none {a : Nat → Addr} {p q : Pic} {m : Int} {w w' : World} {er : Value} (h : ErrIs a (movE p q m) er) (h0 : movE p q m ≠ 0) (k : Below w.heap.size w w') : MdPost a p q m w (.returned (.tuple #[.int .i64 0, .int .i64 0, .int .i64 0, er])) w' :=
  ⟨er, by rw [if_neg h0, if_neg h0, if_neg h0], h, k⟩
set_option maxRecDepth 100000 in
set_option maxHeartbeats 3200000 in
theorem moved_ok {a : Nat → Addr} {w : World} {va vb : Value} {p q : Pic} (hS : Sents w a) (hp : PicC w va p) (hq : PicC w vb q) (m : Int) :
    Calls Tryd.prog 4 #[va, vb, .int .i64 m] w (MdPost a p q m w) := by
  have hp' := hp
  have hq' := hq
  have hokp := fun e : picE p = 0 => pic_ok e
  have hokq := fun e : picE q = 0 => pic_ok e
  have HV1 : HeldR (∀ u, Below w.heap.size w u → Calls Tryd.prog 8 #[va] u (ValidPost a p u)) := hideR (fun u k => valid_any (hS.er2.below k (Nat.le_refl _)) ((hp.below k).v))
  have HV2 : HeldR (∀ u, Below w.heap.size w u → Calls Tryd.prog 8 #[vb] u (ValidPost a q u)) := hideR (fun u k => valid_any (hS.er2.below k (Nat.le_refl _)) ((hq.below k).v))
  have HS : HeldR (∀ u, Below w.heap.size w u → Sents u a) := hideR (fun u k => hS.below k (Nat.le_refl _))
  obtain ⟨a1, c1, rfl, _, _⟩ := hp
  obtain ⟨a2, c2, rfl, _, _⟩ := hq
  have HBm : HeldR (picE p = 0 → picE q = 0 → ∀ u (mm : Nat), Below w.heap.size w u → mm ≤ 16 → Calls Tryd.prog 9 #[.agg #[.int .i64 p.wide, .int .i64 p.high, .slice a1 p.L.length c1], .agg #[.int .i64 q.wide, .int .i64 q.high, .slice a2 q.L.length c2], .int .i64 (mm : Nat)] u (BmPost p q p.wide.toNat p.high.toNat q.wide.toNat q.high.toNat mm u)) := hideR (fun e1 e2 u mm k hm => bestMove_any (hp'.below k) (hq'.below k) (hokp e1).n (hokq e2).n hm)
  have hb := below_2 w (.cells #[.int .i64 p.wide, .int .i64 p.high, .slice a1 p.L.length c1] 25) (.cells #[.int .i64 q.wide, .int .i64 q.high, .slice a2 q.L.length c2] 25)
  have hg0 := keepA (o' := .cells #[.int .i64 q.wide, .int .i64 q.high, .slice a2 q.L.length c2] 25) (alloc_last w (.cells #[.int .i64 p.wide, .int .i64 p.high, .slice a1 p.L.length c1] 25))
  have hg1 : ((w.alloc (.cells #[.int .i64 p.wide, .int .i64 p.high, .slice a1 p.L.length c1] 25)).alloc (.cells #[.int .i64 q.wide, .int .i64 q.high, .slice a2 q.L.length c2] 25)).heap[w.heap.size + 1]? = some (.cells #[.int .i64 q.wide, .int .i64 q.high, .slice a2 q.L.length c2] 25) := by
    have := alloc_last (w.alloc (.cells #[.int .i64 p.wide, .int .i64 p.high, .slice a1 p.L.length c1] 25)) (.cells #[.int .i64 q.wide, .int .i64 q.high, .slice a2 q.L.length c2] 25)
    simpa using this
  have hv1 := unhideR HV1 _ hb
  obtain ⟨p0, p1, p2⟩ := pic_three hg0
  have HG0 := hideR hg0
  have HG1 := hideR hg1
  have HB := hideR hb
  clear hS hp' hq' hb hg0 hg1
  by_cases e1 : picE p = 0
  case neg =>
    have hE : movE p q m = picE p := by unfold movE; rw [if_pos e1]
    have HF : HeldR (∀ u er, ErrIs a (picE p) er → Below w.heap.size w u → MdPost a p q m w (.returned (.tuple #[.int .i64 0, .int .i64 0, .int .i64 0, er])) u) := hideR (fun u er h k => md_none (by rw [hE]; exact h) (by rw [hE]; exact e1) k)
    have HE1 := hideR e1
    clear hE e1 hokp hokq HBm
    go_enter Tryd.func4, Tryd.ntmps4
    go_wp2_with fail
    refine hv1.mono ?_
    rintro e w2 ⟨er, rfl, her, k2⟩
    have HR := hideR (unhideR HF w2 er her (below_go (unhideR HB) k2))
    obtain ⟨kk, rfl⟩ := errIs_ne her (unhideR HE1)
    clear hv1 her k2
    go_wp2
    (try simp only [Exit.inBlock, Exit.then])
    refine bodyPost_ret (results_tmp4M rfl _ _ _) rfl ?_
    exact unhideR HR
  case pos =>
  unfold ValidPost at hv1
  rw [e1] at hv1
  by_cases e2 : picE q = 0
  case neg =>
    have hE : movE p q m = picE q := by unfold movE; rw [if_neg (by simpa using e1), if_pos e2]
    have HF : HeldR (∀ u er, ErrIs a (picE q) er → Below w.heap.size w u → MdPost a p q m w (.returned (.tuple #[.int .i64 0, .int .i64 0, .int .i64 0, er])) u) := hideR (fun u er h k => md_none (by rw [hE]; exact h) (by rw [hE]; exact e2) k)
    have HE2 := hideR e2
    clear hE e2 e1 hokp hokq HBm
    go_enter Tryd.func4, Tryd.ntmps4
    go_wp2_with fail
    refine hv1.mono ?_
    rintro e w2 ⟨er, rfl, her, k2⟩
    obtain rfl := errIs_0 her
    have HB2 := hideR (below_go (unhideR HB) k2)
    have hv2 := unhideR HV2 w2 (unhideR HB2)
    obtain ⟨q0, q1, q2⟩ := pic_three (keepB (unhideR HG1) k2)
    obtain ⟨K, hK⟩ : ∃ K, w.heap.size = K := ⟨_, rfl⟩
    rw [hK] at q0 q1 q2 ⊢
    clear hv1 her k2 p0 p1 p2 hK HG0 HG1
    go_wp2_with fail
    refine hv2.mono ?_
    rintro e w3 ⟨er, rfl, her, k3⟩
    have HR := hideR (unhideR HF w3 er her (below_go (unhideR HB2) k3))
    obtain ⟨kk, rfl⟩ := errIs_ne her (unhideR HE2)
    clear hv2 her k3 q0 q1 q2
    go_wp2
    (try simp only [Exit.inBlock, Exit.then])
    refine bodyPost_ret (results_tmp4M rfl _ _ _) rfl ?_
    exact unhideR HR
  case pos =>
  have HBm' := hideR (unhideR HBm e1 e2)
  have HOkp := hideR (hokp e1)
  have hE : movE p q m = if m < 0 ∨ 16 < m then 5 else if 4194304 < p.wide * p.high * (2 * m + 1) * (2 * m + 1) then 2 else 0 := by unfold movE; rw [if_neg (by simpa using e1), if_neg (by simpa using e2)]
  have HF : HeldR (∀ u er, ErrIs a (movE p q m) er → movE p q m ≠ 0 → Below w.heap.size w u → MdPost a p q m w (.returned (.tuple #[.int .i64 0, .int .i64 0, .int .i64 0, er])) u) := hideR (fun u er h h0 k => md_none h h0 k)
  have HFin : HeldR (movE p q m = 0 → ∀ u, Below w.heap.size w u → MdPost a p q m w (.returned (.tuple #[.int .i64 (movB p q m).x, .int .i64 (movB p q m).y, .int .i64 (movB p q m).s, .nilIface])) u) := hideR (fun e0 u k => ⟨.nilIface, by rw [if_pos e0, if_pos e0, if_pos e0], .inl ⟨e0, rfl⟩, k⟩)
  have HV2' : HeldR (∀ u, Below w.heap.size w u → Calls Tryd.prog 8 #[.agg #[.int .i64 q.wide, .int .i64 q.high, .slice a2 q.L.length c2]] u (fun e w' => ∃ er, e = .returned er ∧ ErrIs a 0 er ∧ Below u.heap.size u w')) := hideR (fun u k => by
    have := unhideR HV2 u k
    unfold ValidPost at this
    rw [e2] at this
    exact this)
  clear hokp hokq HBm HV1 HV2 e1 e2
  go_enter Tryd.func4, Tryd.ntmps4
  go_wp2_with fail
  refine hv1.mono ?_
  rintro e w2 ⟨er, rfl, her, k2⟩
  obtain rfl := errIs_0 her
  have HB2 := hideR (below_go (unhideR HB) k2)
  have hv2 := unhideR HV2' w2 (unhideR HB2)
  obtain ⟨q0, q1, q2⟩ := pic_three (keepB (unhideR HG1) k2)
  have HGa := hideR (keepB (unhideR HG0) k2)
  have HGb := hideR (keepB (unhideR HG1) k2)
  obtain ⟨K, hK⟩ : ∃ K, w.heap.size = K := ⟨_, rfl⟩
  rw [hK] at q0 q1 q2 HGa HGb ⊢
  clear hv1 her k2 p0 p1 p2 hK HG0 HG1
  go_wp2_with fail
  refine hv2.mono ?_
  rintro e w3 ⟨er, rfl, her, k3⟩
  obtain rfl := errIs_0 her
  have HB3 := hideR (below_go (unhideR HB2) k3)
  have HGc := hideR (keepB (unhideR HGa) k3)
  have HGd := hideR (keepB (unhideR HGb) k3)
  have x1 := (unhideR HS w3 (unhideR HB3)).g1
  have x4 := (unhideR HS w3 (unhideR HB3)).g4
  clear hv2 her k3 q0 q1 q2 HGa HGb HB2 HV2'
  by_cases m0 : m < 0
  · have t0 : decide (m < 0) = true := decide_eq_true m0
    have HR := hideR (fun u => unhideR HF u (.iface 80 (.pointer (some (a 4)))) (by rw [hE, if_pos (.inl m0)]; exact err_at 4 (by decide)) (by rw [hE, if_pos (.inl m0)]; decide))
    clear HF HFin hE HBm'
    go_wp2
    go_region
    go_wp2
    (try simp only [Exit.inBlock, Exit.then])
    refine bodyPost_ret (results_tmp4M rfl _ _ _) rfl ?_
    exact unhideR HR _ ⟨(unhideR HB3).os, (unhideR HB3).tape, (unhideR HB3).output, (unhideR HB3).size, (unhideR HB3).block⟩
  have t0 : decide (m < 0) = false := decide_eq_false m0
  by_cases m1 : 16 < m
  · have t1 : decide (16 < m) = true := decide_eq_true m1
    have HR := hideR (fun u => unhideR HF u (.iface 80 (.pointer (some (a 4)))) (by rw [hE, if_pos (.inr m1)]; exact err_at 4 (by decide)) (by rw [hE, if_pos (.inr m1)]; decide))
    clear HF HFin hE HBm'
    go_wp2
    go_region
    go_wp2
    (try simp only [Exit.inBlock, Exit.then])
    refine bodyPost_ret (results_tmp4M rfl _ _ _) rfl ?_
    exact unhideR HR _ ⟨(unhideR HB3).os, (unhideR HB3).tape, (unhideR HB3).output, (unhideR HB3).size, (unhideR HB3).block⟩
  have t1 : decide (16 < m) = false := decide_eq_false m1
  rw [if_neg (fun q => q.elim m0 m1)] at hE
  obtain ⟨mm, rfl⟩ : ∃ k : Nat, m = (k : Nat) := ⟨m.toNat, by omega⟩
  obtain ⟨p0, p1, p2⟩ := pic_three (unhideR HGc)
  obtain ⟨q0, q1, q2⟩ := pic_three (unhideR HGd)
  have hw1 := (unhideR HOkp).w1
  have hw2 := (unhideR HOkp).w2
  have hh1 := (unhideR HOkp).h1
  have hh2 := (unhideR HOkp).h2
  obtain ⟨sd, hsd⟩ : ∃ s : Int, 2 * (mm : Int) + 1 = s := ⟨_, rfl⟩
  have wsa : IntKind.i64.wrap (2 * (mm : Int)) = 2 * (mm : Int) := iwrap (by omega) (by omega)
  have wsb : IntKind.i64.wrap (2 * (mm : Int) + 1) = sd := by rw [hsd]; exact iwrap (by omega) (by omega)
  have bd : ∀ {x y X Y : Int}, 0 ≤ x → x ≤ X → 0 ≤ y → y ≤ Y → 0 ≤ x * y ∧ x * y ≤ X * Y := fun h1 h2 h3 h4 => ⟨Int.mul_nonneg h1 h3, Int.mul_le_mul h2 h4 h3 (by omega)⟩
  have n1 := bd (x := p.wide) (y := p.high) (X := 256) (Y := 256) (by omega) hw2 (by omega) hh2
  obtain ⟨z1, hz1⟩ : ∃ z, p.wide * p.high = z := ⟨_, rfl⟩
  rw [hz1] at n1 hE
  have n2 := bd (x := z1) (y := sd) (X := 256 * 256) (Y := 33) n1.1 n1.2 (by omega) (by omega)
  obtain ⟨z2, hz2⟩ : ∃ z, z1 * sd = z := ⟨_, rfl⟩
  rw [hsd, hz2] at hE
  rw [hz2] at n2
  have n3 := bd (x := z2) (y := sd) (X := 256 * 256 * 33) (Y := 33) n2.1 n2.2 (by omega) (by omega)
  obtain ⟨z3, hz3⟩ : ∃ z, z2 * sd = z := ⟨_, rfl⟩
  rw [hz3] at hE n3
  have wz1 : IntKind.i64.wrap (p.wide * p.high) = z1 := by rw [hz1]; exact iwrap (by omega) (by omega)
  have wz2 : IntKind.i64.wrap (z1 * sd) = z2 := by rw [hz2]; exact iwrap (by omega) (by omega)
  have wz3 : IntKind.i64.wrap (z2 * sd) = z3 := by rw [hz3]; exact iwrap (by omega) (by omega)
  clear hz1 hz2 hz3 n1 n2 n3 bd hsd hw1 hw2 hh1 hh2 HOkp
  by_cases m2 : 4194304 < z3
  · have t2 : decide (4194304 < z3) = true := decide_eq_true m2
    have HR := hideR (fun u => unhideR HF u (.iface 80 (.pointer (some (a 1)))) (by rw [hE, if_pos m2]; exact err_at 1 (by decide)) (by rw [hE, if_pos m2]; decide))
    clear HF HFin hE HBm'
    go_wp2
    go_region
    go_wp2
    (try simp only [Exit.inBlock, Exit.then])
    refine bodyPost_ret (results_tmp4M rfl _ _ _) rfl ?_
    exact unhideR HR _ ⟨(unhideR HB3).os, (unhideR HB3).tape, (unhideR HB3).output, (unhideR HB3).size, (unhideR HB3).block⟩
  have t2 : decide (4194304 < z3) = false := decide_eq_false m2
  rw [if_neg m2] at hE
  have HR := hideR (unhideR HFin hE)
  have hbm := unhideR HBm' w3 mm (unhideR HB3) (by omega)
  unfold BmPost at hbm
  rw [show bstY (tgV p.L q.L p.wide.toNat p.high.toNat q.wide.toNat q.high.toNat) ((mm : Nat) : Int) (2 * mm + 1) = movB p q ((mm : Nat) : Int) from rfl] at hbm
  generalize movB p q ((mm : Nat) : Int) = b9 at *
  clear HF HFin hE HBm' x1 x4
  go_wp2_with fail
  refine hbm.mono ?_
  rintro e w4 ⟨rfl, k4⟩
  have HR2 := hideR (unhideR HR w4 (below_go (unhideR HB3) k4))
  clear hbm k4 HR
  go_wp2
  (try simp only [Exit.inBlock, Exit.then])
  refine bodyPost_ret (results_tmp4M rfl _ _ _) rfl ?_
  exact unhideR HR2
end Go.Proofs.YtngdemhhcablmalDoor
