/-
  How far two places are from each other; a turn of a vector: the document's, by contracts.
-/
import Derived.Test.YtfamndjiaebmbaeSky1
import Derived.Test.YtfamndjiaebmbaeLens0
namespace Go.Proofs.Ytfamndjiaebmbae
open Go Go.RowKit

/-- the length of the cross product. -/
def CLen (px py pz qx qy qz l : Nat) : Prop := ∃ c0 c1 c2 t, Ev (crE py qz pz qy) c0 ∧ Ev (crE pz qx px qz) c1 ∧ Ev (crE px qy py qx) c2 ∧ Ev (lenE c0 c1 c2) t ∧ FSq t l
def LSet (px py pz qx qy qz : Nat) (v : Value) : Prop := ∃ l, v = .float .f64 l ∧ CLen px py pz qx qy qz l
theorem lset_some (px py pz qx qy qz : Nat) : ∃ v, LSet px py pz qx qy qz v := by
  obtain ⟨c0, h0⟩ := ev_some (crE py qz pz qy)
  obtain ⟨c1, h1⟩ := ev_some (crE pz qx px qz)
  obtain ⟨c2, h2⟩ := ev_some (crE px qy py qx)
  obtain ⟨_, l, t, _, h3, h4⟩ := qset_some (lenE c0 c1 c2)
  exact ⟨_, l, rfl, c0, c1, c2, t, h0, h1, h2, h3, h4⟩
def ApIs (px py pz qx qy qz : Nat) (n : Int) : Prop := ∃ l d, CLen px py pz qx qy qz l ∧ Ev (dtE px py pz qx qy qz) d ∧ n = angV l d
theorem ap_some (px py pz qx qy qz : Nat) : ∃ n, ApIs px py pz qx qy qz n := by
  obtain ⟨_, l, _, hl⟩ := lset_some px py pz qx qy qz
  obtain ⟨d, hd⟩ := ev_some (dtE px py pz qx qy qz)
  exact ⟨_, l, d, hl, hd, rfl⟩
def ASet (px py pz qx qy qz : Nat) (v : Value) : Prop := ∃ n b, v = .tuple #[.int .i64 n, .bool b] ∧ ApIs px py pz qx qy qz n
theorem aset_some (px py pz qx qy qz : Nat) : ∃ v, ASet px py pz qx qy qz v := by
  obtain ⟨n, h⟩ := ap_some px py pz qx qy qz
  exact ⟨_, n, true, rfl, h⟩
def ISet (px py pz qx qy qz : Nat) (v : Value) : Prop := ∃ n, v = .int .i64 n ∧ ApIs px py pz qx qy qz n
theorem iset_some (px py pz qx qy qz : Nat) : ∃ v, ISet px py pz qx qy qz v := by
  obtain ⟨n, h⟩ := ap_some px py pz qx qy qz
  exact ⟨_, n, rfl, h⟩
def BSet (v : Value) : Prop := ∃ b, v = .bool b
set_option maxRecDepth 100000 in
set_option maxHeartbeats 8000000 in
theorem apartFrom_any (a b c d : Int) (w : World) : Calls Try.prog 19 #[.agg #[.int .i64 a, .int .i64 b], .agg #[.int .i64 c, .int .i64 d]] w fun e w' => ∃ n px py pz qx qy qz, e = .returned (.int .i64 n) ∧ PointIs a b px py pz ∧ PointIs c d qx qy qz ∧ ApIs px py pz qx qy qz n ∧ Below w.heap.size w w' := by
  have hsf := run_store_float Try.prog
  go_enter Try.func19, Try.ntmps19
  go_wp2_with fail
  refine (pointOf_any _ _ _).mono ?_
  rintro e w1 ⟨px, py, pz, rfl, hp, k1⟩
  obtain ⟨_, h1, hBw⟩ := two_blocks k1
  have HP := hideR hp
  have A1 := hideR h1
  have HW := hideR hBw
  clear k1 hp h1 hBw
  obtain ⟨⟨c0, c1⟩, _⟩ := pair_at (unhideR A1)
  have l1 := ltB (unhideR A1)
  go_wp2_with fail
  refine (pointOf_any _ _ _).mono ?_
  rintro e w2 ⟨qx, qy, qz, rfl, hq, k2⟩
  have HQ := hideR hq
  have PB := hideR (keepB (alloc_last w1 _) k2)
  replace HW := hideR (below_go ((unhideR HW).alloc (unhideR HW).size _) k2)
  clear k2 hq A1 c0 c1 l1
  obtain ⟨V, hV⟩ : ∃ V, V = w2.alloc (.cells #[.float .f64 qx, .float .f64 qy, .float .f64 qz] 26) := ⟨_, rfl⟩
  have QB := hideR (show V.heap[w2.heap.size]? = some (.cells #[.float .f64 qx, .float .f64 qy, .float .f64 qz] 26) from hV ▸ alloc_last w2 _)
  replace PB := hideR (show V.heap[_]? = _ from hV ▸ keepA (unhideR PB))
  replace HW := hideR (show Below w.heap.size w V from hV ▸ (unhideR HW).alloc (unhideR HW).size _)
  have HV := hideR hV.symm
  clear hV
  go_wp2_with fail
  rw [unhideR HV]
  clear HV
  refine wp_region_letsB V.heap.size [(· = .agg #[.float .f64 px, .float .f64 py, .float .f64 pz]),
    (· = .agg #[.float .f64 qx, .float .f64 qy, .float .f64 qz]),
    VSet (crE py qz pz qy) (crE pz qx px qz) (crE px qy py qx),
    LSet px py pz qx qy qz,
    (· = .agg #[.float .f64 px, .float .f64 py, .float .f64 pz]),
    (· = .agg #[.float .f64 qx, .float .f64 qy, .float .f64 qz]),
    FSet (dtE px py pz qx qy qz),
    ASet px py pz qx qy qz,
    ASet px py pz qx qy qz,
    ISet px py pz qx qy qz,
    BSet,
    ISet px py pz qx qy qz,
    BSet] (by kernel_rfl) (by kernel_rfl) ?_
  refine lexB_step (fun K hK => ⟨by kernel_rfl, ⟨_, rfl⟩, fun v hv => ?_, fun v hv => ?_⟩)
  · obtain ⟨⟨c0, c1, c2⟩, _⟩ := three_at (keepB (unhideR PB) hv)
    go_simp
    exact lUpon_b hv
  subst hv
  go_simp
  refine hK _ ?_
  clear hK K
  refine lexB_step (fun K hK => ⟨by kernel_rfl, ⟨_, rfl⟩, fun v hv => ?_, fun v hv => ?_⟩)
  · obtain ⟨⟨c0, c1, c2⟩, _⟩ := three_at (keepB (unhideR QB) hv)
    go_simp
    exact lUpon_b hv
  subst hv
  go_simp
  refine hK _ ?_
  clear hK K
  refine lexB_step (fun K hK => ⟨by kernel_rfl, vset_some _ _ _, fun v hv => ?_, fun v hv => ?_⟩)
  · go_simp
    refine (crossOf_any px py pz qx qy qz _).mono ?_
    rintro e w1 ⟨u, rfl, hu, k⟩
    exact ⟨_, rfl, hu, below_on2 hv (Nat.le_refl _) k⟩
  obtain ⟨c0, c1, c2, rfl, e0, e1, e2⟩ := hv
  go_simp
  refine hK _ ?_
  clear hK K
  have E := hideR (And.intro e0 (And.intro e1 e2))
  clear e0 e1 e2
  refine lexB_step (fun K hK => ⟨by kernel_rfl, lset_some _ _ _ _ _ _, fun v hv => ?_, fun v hv => ?_⟩)
  · go_simp
    refine (lengthOf_any c0 c1 c2 _).mono ?_
    rintro e w1 ⟨r, t, rfl, h1, h2, k⟩
    exact ⟨_, rfl, ⟨r, rfl, c0, c1, c2, t, (unhideR E).1, (unhideR E).2.1, (unhideR E).2.2, h1, h2⟩, below_on2 hv (Nat.le_refl _) k⟩
  obtain ⟨l, rfl, hl⟩ := hv
  go_simp
  refine hK _ ?_
  clear hK K
  have HL := hideR hl
  clear hl E
  refine lexB_step (fun K hK => ⟨by kernel_rfl, ⟨_, rfl⟩, fun v hv => ?_, fun v hv => ?_⟩)
  · obtain ⟨⟨c0, c1, c2⟩, _⟩ := three_at (keepB (unhideR PB) hv)
    go_simp
    exact lUpon_b hv
  subst hv
  go_simp
  refine hK _ ?_
  clear hK K
  refine lexB_step (fun K hK => ⟨by kernel_rfl, ⟨_, rfl⟩, fun v hv => ?_, fun v hv => ?_⟩)
  · obtain ⟨⟨c0, c1, c2⟩, _⟩ := three_at (keepB (unhideR QB) hv)
    go_simp
    exact lUpon_b hv
  subst hv
  go_simp
  refine hK _ ?_
  clear hK K
  refine lexB_step (fun K hK => ⟨by kernel_rfl, fset_some _, fun v hv => ?_, fun v hv => ?_⟩)
  · go_simp
    refine (dotOf_any px py pz qx qy qz _).mono ?_
    rintro e w1 ⟨r, rfl, h1, k⟩
    exact ⟨_, rfl, ⟨r, rfl, h1⟩, below_on2 hv (Nat.le_refl _) k⟩
  obtain ⟨dd, rfl, hd⟩ := hv
  go_simp
  refine hK _ ?_
  clear hK K
  have HD := hideR hd
  clear hd
  refine lexB_step (fun K hK => ⟨by kernel_rfl, aset_some _ _ _ _ _ _, fun v hv => ?_, fun v hv => ?_⟩)
  · go_simp
    refine (angleOf_any l dd _).mono ?_
    rintro e w1 ⟨rfl, k⟩
    exact ⟨_, rfl, ⟨_, _, rfl, ⟨l, dd, unhideR HL, unhideR HD, rfl⟩⟩, below_on2 hv (Nat.le_refl _) k⟩
  obtain ⟨n, bb, rfl, ha⟩ := hv
  go_simp
  refine hK _ ?_
  clear hK K
  have HA := hideR ha
  clear ha HL HD
  refine lexB_step (fun K hK => ⟨by kernel_rfl, aset_some _ _ _ _ _ _, fun v hv => ?_, fun v hv => ?_⟩)
  · go_simp
    exact ⟨hv, _, _, rfl, unhideR HA⟩
  obtain ⟨n2, bb2, rfl, ha⟩ := hv
  go_simp
  refine hK _ ?_
  clear hK K
  have HA2 := hideR ha
  clear ha HA
  refine lexB_step (fun K hK => ⟨by kernel_rfl, iset_some _ _ _ _ _ _, fun v hv => ?_, fun v hv => ?_⟩)
  · go_simp
    exact ⟨hv, _, rfl, unhideR HA2⟩
  obtain ⟨n3, rfl, ha⟩ := hv
  go_simp
  refine hK _ ?_
  clear hK K
  have HA3 := hideR ha
  clear ha
  refine lexB_step (fun K hK => ⟨by kernel_rfl, ⟨_, true, rfl⟩, fun v hv => ?_, fun v hv => ?_⟩)
  · go_simp
    exact ⟨hv, _, rfl⟩
  obtain ⟨b3, rfl⟩ := hv
  go_simp
  refine hK _ ?_
  clear hK K
  refine lexB_step (fun K hK => ⟨by kernel_rfl, iset_some _ _ _ _ _ _, fun v hv => ?_, fun v hv => ?_⟩)
  · go_simp
    exact ⟨hv, _, rfl, unhideR HA3⟩
  obtain ⟨n4, rfl, ha⟩ := hv
  go_simp
  refine hK _ ?_
  clear hK K
  have HA4 := hideR ha
  clear ha HA3
  refine lexB_step (fun K hK => ⟨by kernel_rfl, ⟨_, true, rfl⟩, fun v hv => ?_, fun v hv => ?_⟩)
  · go_simp
    exact ⟨hv, _, rfl⟩
  obtain ⟨b4, rfl⟩ := hv
  go_simp
  refine hK _ ?_
  clear hK K
  refine lexL_end ?_
  intro w3 k3
  have HB := hideR (below_go (unhideR HW) k3)
  clear k3
  go_wp2
  go_ret
  exact ⟨n4, px, py, pz, qx, qy, qz, rfl, unhideR HP, unhideR HQ, unhideR HA4, unhideR HB⟩
end Go.Proofs.Ytfamndjiaebmbae
