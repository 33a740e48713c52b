/-
  The program's nearer, by contract.
-/
import Derived.Test.YtdngkmobkbiflagDoorDMv5
import Derived.Test.YtdngkmobkbiflagDoorMvNear
namespace Go.Proofs.YtdngkmobkbiflagDoor
open Go Go.RowKit

/-- the program's word of the nearest so far. -/
def mmV (r : Nr) : Nr := if r.best < 0 then ⟨9223372036854775807, 0, 0, 0⟩ else r
theorem sqC_pos (d : Cl) : 0 ≤ sqC d := by
  have q : ∀ a : Int, 0 ≤ a * a := fun a => by
    rcases Int.le_total 0 a with h | h
    · exact Int.mul_nonneg h h
    · have := Int.mul_nonneg (a := -a) (b := -a) (by omega) (by omega)
      rwa [Int.neg_mul_neg] at this
  have a1 := q d.x
  have a2 := q d.y
  have a3 := q d.z
  unfold sqC
  omega
theorem mm_up {n i k : Nat} {d : Int} {r : Nr} (h0 : 0 ≤ d) (h1 : d < 9223372036854775807) : mmV (nrUp n i k d r) = if d < (mmV r).best then ⟨d, n, i, k⟩ else mmV r := by
  unfold nrUp
  by_cases hb : r.best < 0
  · rw [if_pos (.inl hb)]
    have e : mmV r = ⟨9223372036854775807, 0, 0, 0⟩ := by unfold mmV; rw [if_pos hb]
    rw [e, if_pos h1]
    unfold mmV
    rw [if_neg (by show ¬ d < 0; omega)]
  · have e : mmV r = r := by unfold mmV; rw [if_neg hb]
    rw [e]
    by_cases hd : d < r.best
    · rw [if_pos (.inr hd), if_pos hd]
      unfold mmV
      rw [if_neg (by show ¬ d < 0; omega)]
    · rw [if_neg (by intro k; rcases k with k | k <;> omega), if_neg hd, e]
theorem nrUp_pos {n i k : Nat} {d : Int} {r : Nr} (h0 : 0 ≤ d) : 0 ≤ (nrUp n i k d r).best := by
  unfold nrUp
  split
  · exact h0
  · rename_i h
    have : ¬ r.best < 0 := fun k => h (.inl k)
    omega
theorem nrRow_keep {n i : Nat} {l : List Bd} {r : Nr} (h : 0 ≤ r.best) : ∀ c, 0 ≤ (nrRow n l i c r).best
  | 0 => h
  | _ + 1 => nrUp_pos (sqC_pos _)
theorem nrAll_pos {n : Nat} {l : List Bd} {r : Nr} (h : 2 ≤ l.length) : ∀ c, 0 ≤ (nrAll n l (c + 1) r).best
  | 0 => by
    show 0 ≤ (nrRow n l 0 (l.length - (0 + 1)) r).best
    rw [show l.length - (0 + 1) = (l.length - 2) + 1 by omega]
    exact nrUp_pos (sqC_pos _)
  | c + 1 => nrRow_keep (nrAll_pos h c) _
theorem mm_four {w : World} {b : Nat} {r : Nr} {ty : TypeId} (h : w.heap[b]? = some (.cells #[.int .i64 r.p, .int .i64 r.s, .int .i64 r.t, .int .i64 r.best] ty)) :
    (w.cell? ⟨b, 0, none⟩ = some (.int .i64 r.p) ∧ w.cell? ⟨b, 1, none⟩ = some (.int .i64 r.s) ∧ w.cell? ⟨b, 2, none⟩ = some (.int .i64 r.t) ∧ w.cell? ⟨b, 3, none⟩ = some (.int .i64 r.best)) ∧
    (w.frozen? ⟨b, 0, none⟩ = false ∧ w.frozen? ⟨b, 1, none⟩ = false ∧ w.frozen? ⟨b, 2, none⟩ = false ∧ w.frozen? ⟨b, 3, none⟩ = false) :=
  ⟨⟨(cells_at h 0 (by simp)).1, (cells_at h 1 (by simp)).1, (cells_at h 2 (by simp)).1, (cells_at h 3 (by simp)).1⟩, (cells_at h 0 (by simp)).2, (cells_at h 1 (by simp)).2, (cells_at h 2 (by simp)).2, (cells_at h 3 (by simp)).2⟩
theorem set4 {w : World} {b : Nat} {y0 y1 y2 y3 x0 x1 x2 x3 : Value} {t : TypeId} (h : w.heap[b]? = some (.cells #[y0, y1, y2, y3] t (0, 0))) :
    ((((w.setCell ⟨b, 0, none⟩ x0).setCell ⟨b, 1, none⟩ x1).setCell ⟨b, 2, none⟩ x2).setCell ⟨b, 3, none⟩ x3).heap[b]? = some (.cells #[x0, x1, x2, x3] t (0, 0)) := by
  rw [heap_setCell_same _ _ _ _ _ _ (heap_setCell_same _ _ _ _ _ _ (heap_setCell_same _ _ _ _ _ _ (heap_setCell_same _ _ _ _ _ _ h)))]
  simp
theorem set4_other {w : World} {b c : Nat} {x0 x1 x2 x3 : Value} (h : c ≠ b) : ((((w.setCell ⟨b, 0, none⟩ x0).setCell ⟨b, 1, none⟩ x1).setCell ⟨b, 2, none⟩ x2).setCell ⟨b, 3, none⟩ x3).heap[c]? = w.heap[c]? := by
  rw [heap_setCell_other _ _ _ _ h, heap_setCell_other _ _ _ _ h, heap_setCell_other _ _ _ _ h, heap_setCell_other _ _ _ _ h]
theorem below_four {w v : World} {b B : Nat} (h : Below B w v) (hb : B ≤ b) (x0 x1 x2 x3 : Value) : Below B w ((((v.setCell ⟨b, 0, none⟩ x0).setCell ⟨b, 1, none⟩ x1).setCell ⟨b, 2, none⟩ x2).setCell ⟨b, 3, none⟩ x3) :=
  (((h.setCell hb x0).setCell hb x1).setCell hb x2).setCell hb x3
theorem dist_size {X : List Bd} {i k : Nat} (h : ats X = true) (hi : i < X.length) (hk : k < X.length) : ((X.getD k bd0).at_.sub (X.getD i bd0).at_).In 2097152 := by
  obtain ⟨a1, a2, a3, a4, a5, a6⟩ := ats_all h i hi
  obtain ⟨b1, b2, b3, b4, b5, b6⟩ := ats_all h k hk
  refine ⟨?_, ?_, ?_, ?_, ?_, ?_⟩
  all_goals
    simp only [Cl.sub]
    omega
set_option maxRecDepth 100000 in
set_option maxHeartbeats 3200000 in
theorem nearer_any (r : Nr) (n : Nat) (X : List Bd) (ad : Option Addr) (cap : Nat) (w : World) (hr : BCame w ad X) (hl : X.length ≤ 12) (ha : ats X = true) :
    Calls Tryd.prog 32 #[.agg #[.int .i64 (mmV r).p, .int .i64 (mmV r).s, .int .i64 (mmV r).t, .int .i64 (mmV r).best], .int .i64 (n : Nat), .slice ad X.length cap] w fun e w' => ∃ q : Nr, e = .returned (.agg #[.int .i64 q.p, .int .i64 q.s, .int .i64 q.t, .int .i64 q.best]) ∧ q = mmV (nrAll n X X.length r) ∧ Below w.heap.size w w' := by
  have HR := hideR hr
  have HA := hideR ha
  clear hr ha
  go_enter Tryd.func32, Tryd.ntmps32
  go_wp2
  go_loopw [12] (fun iv wl => ∃ (i : Nat) (q : Nr), i ≤ X.length ∧ iv = .int .i64 (i : Nat) ∧ HeldR (q = mmV (nrAll n X i r)) ∧ HeldR (wl.heap[w.heap.size]? = some (.cells #[.int .i64 q.p, .int .i64 q.s, .int .i64 q.t, .int .i64 q.best] 61)) ∧ HeldR (wl.heap[w.heap.size + 1]? = some (.cells #[.int .i64 0, .int .i64 0, .int .i64 0, .int .i64 0] 61)) ∧ HeldR (Below w.heap.size w wl)) (fun iv _ => X.length + 1 - (intOf iv).toNat)
  case atStart =>
    have k := two_blocks (Below.refl ((w.alloc (.cells #[.int .i64 (mmV r).p, .int .i64 (mmV r).s, .int .i64 (mmV r).t, .int .i64 (mmV r).best] 61)).alloc (.cells #[.int .i64 0, .int .i64 0, .int .i64 0, .int .i64 0] 61)).heap.size ((w.alloc (.cells #[.int .i64 (mmV r).p, .int .i64 (mmV r).s, .int .i64 (mmV r).t, .int .i64 (mmV r).best] 61)).alloc (.cells #[.int .i64 0, .int .i64 0, .int .i64 0, .int .i64 0] 61)))
    exact ⟨0, mmV r, by omega, rfl, hideR rfl, k.1, k.2.1, k.2.2⟩
  case round =>
    obtain ⟨i, q, hi, rfl, HQ, HB, HZ, HW⟩ := hrel
    by_cases hlt : i < X.length
    · go_wp2
      go_loopw [8] (fun kv wl => ∃ (c : Nat) (q : Nr), i + 1 + c ≤ X.length ∧ kv = .int .i64 ((i + 1 + c : Nat) : Int) ∧ HeldR (q = mmV (nrRow n X i c (nrAll n X i r))) ∧ HeldR (wl.heap[w.heap.size]? = some (.cells #[.int .i64 q.p, .int .i64 q.s, .int .i64 q.t, .int .i64 q.best] 61)) ∧ HeldR (wl.heap[w.heap.size + 1]? = some (.cells #[.int .i64 0, .int .i64 0, .int .i64 0, .int .i64 0] 61)) ∧ HeldR (Below w.heap.size w wl)) (fun kv _ => X.length + 1 - (intOf kv).toNat)
      case atStart => exact ⟨0, q, by omega, by go_num, HQ, HB, HZ, HW⟩
      case round =>
        clear HQ HB HZ HW
        obtain ⟨c, q, hc, rfl, HQ, HB, HZ, HW⟩ := hrel
        by_cases hkl : i + 1 + c < X.length
        · obtain ⟨b, off, rfl, hb, hati⟩ := ((unhideR HR).below (unhideR HW)).at_ i hlt
          obtain ⟨b', off', e', _, hatk⟩ := ((unhideR HR).below (unhideR HW)).at_ (i + 1 + c) hkl
          cases e'
          have hds := dist_size (unhideR HA) hlt hkl
          have hsq := fun u => square_any _ u hds
          have hbe := fun u => between_any (X.getD i bd0) (X.getD (i + 1 + c) bd0) u (In.wide (ats_all (unhideR HA) i hlt) (by decide)) (In.wide (ats_all (unhideR HA) _ hkl) (by decide))
          have hdr := sqC_range hds
          have e4 : nrRow n X i (c + 1) (nrAll n X i r) = nrUp n i (i + 1 + c) (sqC ((X.getD (i + 1 + c) bd0).at_.sub (X.getD i bd0).at_)) (nrRow n X i c (nrAll n X i r)) := rfl
          have e5 := mm_up (n := n) (i := i) (k := i + 1 + c) (r := nrRow n X i c (nrAll n X i r)) hdr.1 (by omega)
          rw [← e4, ← unhideR HQ] at e5
          have HE := hideR e5
          have HI := hideR hati
          have HK := hideR hatk
          clear hds e4 e5 hati hatk HQ
          generalize hkk : i + 1 + c = k at *
          have HKK := hideR hkk
          clear hkk
          generalize X.getD i bd0 = Bi at *
          generalize X.getD k bd0 = Bk at *
          generalize Bk.at_.sub Bi.at_ = D at *
          generalize sqC D = d at *
          go_wp2_with fail
          refine wp_region_made 0 #[true, true, true, true, true, true, true, true, true, true, false] [.lets (· = .slice (some ⟨b, off, none⟩) X.length cap),
            .lets (· = .int .i64 (i : Nat)),
            .lets (· = .pointer (some ⟨b, off + i * 7, none⟩)),
            .lets (· = .agg #[.int .i64 Bi.at_.x, .int .i64 Bi.at_.y, .int .i64 Bi.at_.z, .int .i64 Bi.sp.x, .int .i64 Bi.sp.y, .int .i64 Bi.sp.z, .int .i64 Bi.m]),
            .lets (· = .slice (some ⟨b, off, none⟩) X.length cap),
            .lets (· = .int .i64 (k : Nat)),
            .lets (· = .pointer (some ⟨b, off + k * 7, none⟩)),
            .lets (· = .agg #[.int .i64 Bk.at_.x, .int .i64 Bk.at_.y, .int .i64 Bk.at_.z, .int .i64 Bk.sp.x, .int .i64 Bk.sp.y, .int .i64 Bk.sp.z, .int .i64 Bk.m]),
            .lets (· = D.val),
            .lets (· = .int .i64 d)] [] [] (by kernel_rfl) (by kernel_rfl) rfl ?kinds (by kernel_rfl) (by kernel_rfl) (by kernel_rfl) ?_
          case kinds =>
            constructor
            · intro i h
              rcases i with _ | _ | _ | _ | _ | _ | _ | _ | _ | _ | i <;> simp [Kx.isMade] at h
            · intro i h
              rcases i with _ | _ | _ | _ | _ | _ | _ | _ | _ | _ | i <;> simp [Kx.isUse] at h
          refine lexX_step (fun K hK => ⟨by kernel_rfl, ⟨_, rfl⟩, fun v hv => ?_, fun v hv => ?_⟩)
          · go_simp
            exact mUpon_b
          subst hv
          go_simp
          refine hK _ ?_
          clear hK K
          refine lexX_step (fun K hK => ⟨by kernel_rfl, ⟨_, rfl⟩, fun v hv => ?_, fun v hv => ?_⟩)
          · go_simp
            exact mUpon_b
          subst hv
          go_simp
          refine hK _ ?_
          clear hK K
          refine lexX_step (fun K hK => ⟨by kernel_rfl, ⟨_, rfl⟩, fun v hv => ?_, fun v hv => ?_⟩)
          · go_simp
            exact mUpon_b
          subst hv
          go_simp
          refine hK _ ?_
          clear hK K
          refine lexX_step (fun K hK => ⟨by kernel_rfl, ⟨_, rfl⟩, fun v hv => ?_, fun v hv => ?_⟩)
          · obtain ⟨c0, c1, c2, c3, c4, c5, c6⟩ := (unhideR HI).below hv hb
            go_simp
            exact mUpon_b
          subst hv
          go_simp
          refine hK _ ?_
          clear hK K
          refine lexX_step (fun K hK => ⟨by kernel_rfl, ⟨_, rfl⟩, fun v hv => ?_, fun v hv => ?_⟩)
          · go_simp
            exact mUpon_b
          subst hv
          go_simp
          refine hK _ ?_
          clear hK K
          refine lexX_step (fun K hK => ⟨by kernel_rfl, ⟨_, rfl⟩, fun v hv => ?_, fun v hv => ?_⟩)
          · go_simp
            exact mUpon_b
          subst hv
          go_simp
          refine hK _ ?_
          clear hK K
          refine lexX_step (fun K hK => ⟨by kernel_rfl, ⟨_, rfl⟩, fun v hv => ?_, fun v hv => ?_⟩)
          · go_simp
            exact mUpon_b
          subst hv
          go_simp
          refine hK _ ?_
          clear hK K
          refine lexX_step (fun K hK => ⟨by kernel_rfl, ⟨_, rfl⟩, fun v hv => ?_, fun v hv => ?_⟩)
          · obtain ⟨c0, c1, c2, c3, c4, c5, c6⟩ := (unhideR HK).below hv hb
            go_simp
            exact mUpon_b
          subst hv
          go_simp
          refine hK _ ?_
          clear hK K
          refine lexX_step (fun K hK => ⟨by kernel_rfl, ⟨_, rfl⟩, fun v hv => ?_, fun v hv => ?_⟩)
          · go_simp
            refine (hbe _).mono ?_
            rintro e w9 ⟨rfl, k⟩
            exact ⟨_, rfl, rfl, k⟩
          subst hv
          unfold Cl.val
          go_simp
          refine hK _ ?_
          clear hK K
          refine lexX_step (fun K hK => ⟨by kernel_rfl, ⟨_, rfl⟩, fun v hv => ?_, fun v hv => ?_⟩)
          · go_simp
            refine (hsq _).mono ?_
            rintro e w9 ⟨rfl, k⟩
            exact ⟨_, rfl, rfl, k⟩
          subst hv
          go_simp
          refine hK _ ?_
          clear hK K
          refine lexX_end (fun v hv => ?_)
          replace HB := hideR (keepB (unhideR HB) hv.low)
          replace HZ := hideR (keepB (unhideR HZ) hv.low)
          replace HW := hideR (below_go (unhideR HW) hv.low)
          clear hv
          refine wpAny_step (i := 10) (by kernel_rfl) rfl (by kernel_rfl) (fun K hK => ?_)
          unfold Oper.wp
          go_simp
          refine hK _ _ ?_
          clear hK K
          refine wpAny_end (by kernel_rfl) ?_
          generalize v = WW at *
          obtain ⟨⟨c0, c1, c2, c3⟩, f0, f1, f2, f3⟩ := mm_four (unhideR HB)
          by_cases hd : d < q.best
          · have HQ2 : HeldR ((⟨d, n, i, k⟩ : Nr) = mmV (nrRow n X i (c + 1) (nrAll n X i r))) := by
              have := unhideR HE
              rw [if_pos hd] at this
              exact this.symm
            have HB2 : HeldR (((((WW.setCell ⟨w.heap.size, 0, none⟩ (.int .i64 (n : Nat))).setCell ⟨w.heap.size, 1, none⟩ (.int .i64 (i : Nat))).setCell ⟨w.heap.size, 2, none⟩ (.int .i64 (k : Nat))).setCell ⟨w.heap.size, 3, none⟩ (.int .i64 d)).heap[w.heap.size]? = some (.cells #[.int .i64 (n : Nat), .int .i64 (i : Nat), .int .i64 (k : Nat), .int .i64 d] 61)) := set4 (unhideR HB)
            have HZ2 : HeldR (((((WW.setCell ⟨w.heap.size, 0, none⟩ (.int .i64 (n : Nat))).setCell ⟨w.heap.size, 1, none⟩ (.int .i64 (i : Nat))).setCell ⟨w.heap.size, 2, none⟩ (.int .i64 (k : Nat))).setCell ⟨w.heap.size, 3, none⟩ (.int .i64 d)).heap[w.heap.size + 1]? = some (.cells #[.int .i64 0, .int .i64 0, .int .i64 0, .int .i64 0] 61)) := (set4_other (by omega)).trans (unhideR HZ)
            have HW2 : HeldR (Below w.heap.size w ((((WW.setCell ⟨w.heap.size, 0, none⟩ (.int .i64 (n : Nat))).setCell ⟨w.heap.size, 1, none⟩ (.int .i64 (i : Nat))).setCell ⟨w.heap.size, 2, none⟩ (.int .i64 (k : Nat))).setCell ⟨w.heap.size, 3, none⟩ (.int .i64 d))) := below_four (unhideR HW) (Nat.le_refl _) _ _ _ _
            have hdd : decide (d < q.best) = true := decide_eq_true hd
            clear HB HZ HW HE HI HK
            go_wp2
            exact ⟨⟨c + 1, ⟨d, n, i, k⟩, by have := unhideR HKK; omega, by have := unhideR HKK; go_num, HQ2, HB2, HZ2, HW2⟩, by simp [intOf]; omega⟩
          · have HQ2 : HeldR (q = mmV (nrRow n X i (c + 1) (nrAll n X i r))) := by
              have := unhideR HE
              rw [if_neg hd] at this
              exact this.symm
            have hdd : decide (d < q.best) = false := decide_eq_false hd
            clear HE HI HK
            go_wp2
            exact ⟨⟨c + 1, q, by have := unhideR HKK; omega, by have := unhideR HKK; go_num, HQ2, HB, HZ, HW⟩, by simp [intOf]; omega⟩
        · have hcl : c = X.length - (i + 1) := by omega
          have HQ2 : HeldR (q = mmV (nrAll n X (i + 1) r)) := by
            unfold HeldR
            rw [unhideR HQ, hcl]
            rfl
          clear hcl HQ
          go_wp2
          exact ⟨⟨i + 1, q, by omega, by go_num, HQ2, HB, HZ, HW⟩, by simp [intOf]; omega⟩
    · obtain rfl : i = X.length := by omega
      obtain ⟨⟨c0, c1, c2, c3⟩, _⟩ := mm_four (unhideR HB)
      obtain ⟨⟨d0, d1, d2, d3⟩, f0, f1, f2, f3⟩ := mm_four (r := ⟨0, 0, 0, 0⟩) (unhideR HZ)
      go_wp2
      simp [bodyPost, results, Tryd.results32, go_sem, d0, d1, d2, d3]
      exact ⟨q, ⟨rfl, rfl, rfl, rfl⟩, unhideR HQ, below_four (unhideR HW) (Nat.le_succ _) _ _ _ _⟩
end Go.Proofs.YtdngkmobkbiflagDoor
