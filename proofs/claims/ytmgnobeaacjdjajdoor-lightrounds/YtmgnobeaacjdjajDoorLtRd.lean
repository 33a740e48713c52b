/-
  The program's Round, by contract.
-/
import Derived.Test.YtmgnobeaacjdjajDoorLtRw
import Derived.Test.YtmgnobeaacjdjajDoorLtRd1
import Derived.Test.YtmgnobeaacjdjajDoorLtRd2
import Derived.Test.YtmgnobeaacjdjajDoorDF1A
import Derived.Test.YtmgnobeaacjdjajDoorEr2S
import Derived.Test.YtmgnobeaacjdjajDoorDT2e
namespace Go.Proofs.YtmgnobeaacjdjajDoor
open Go Go.RowKit

theorem rd_none {a : Nat → Addr} {p : Pic} {s : Sta} {i o : Int} {w w' : World} {er : Value} (h : ErrIs a (roundE p s i o) er) (h0 : roundE p s i o ≠ 0) (k : Below w.heap.size w w') : RdPost a p s i o w (.returned (.tuple #[.int .i64 0, .int .i64 0, .int .i64 0, er])) w' :=
  ⟨er, by unfold roundV; rw [if_pos h0], h, k⟩
set_option maxRecDepth 100000 in
set_option maxHeartbeats 6400000 in
theorem round_ok (a : Nat → Addr) : RoundOK a := by
  intro w v p s i o hS hv
  have hvd0 := fun u (k : Below w.heap.size w u) => valid_any (hS.er2.below k (Nat.le_refl _)) ((hv.v).below k)
  have HPc : HeldR (∀ u, Below w.heap.size w u → PicC u v p) := hideR (fun u k => hv.below k)
  have hok := fun e : picE p = 0 => pic_ok e
  obtain ⟨ad, cap, rfl, hc, hl, hcc, hcb⟩ := hv
  have hb := below_two' w (.cells #[.int .i64 p.wide, .int .i64 p.high, .slice ad p.L.length cap] 28) (.cells #[.int .i64 s.x, .int .i64 s.y, .int .i64 s.lt] 35)
  have hg0 := keepA (o' := .cells #[.int .i64 s.x, .int .i64 s.y, .int .i64 s.lt] 35) (alloc_last w (.cells #[.int .i64 p.wide, .int .i64 p.high, .slice ad p.L.length cap] 28))
  have hg1 : ((w.alloc (.cells #[.int .i64 p.wide, .int .i64 p.high, .slice ad p.L.length cap] 28)).alloc (.cells #[.int .i64 s.x, .int .i64 s.y, .int .i64 s.lt] 35)).heap[w.heap.size + 1]? = some (.cells #[.int .i64 s.x, .int .i64 s.y, .int .i64 s.lt] 35) := by
    have := alloc_last (w.alloc (.cells #[.int .i64 p.wide, .int .i64 p.high, .slice ad p.L.length cap] 28)) (.cells #[.int .i64 s.x, .int .i64 s.y, .int .i64 s.lt] 35)
    simpa using this
  have hvd := hvd0 _ hb
  obtain ⟨c0, c1, c2⟩ := pic_three hg0
  have HS : HeldR (∀ u, Below w.heap.size w u → Sents u a) := hideR (fun u k => hS.below k (Nat.le_refl _))
  have HG0 := hideR hg0
  have HG1 := hideR hg1
  have HB := hideR hb
  clear hvd0 hS hg0 hg1 hb hc hl hcc hcb
  by_cases e0 : picE p = 0
  case neg =>
    have hE : roundE p s i o = picE p := by unfold roundE; rw [if_pos e0]
    have HF : HeldR (∀ u er, ErrIs a (picE p) er → Below w.heap.size w u → RdPost a p s i o w (.returned (.tuple #[.int .i64 0, .int .i64 0, .int .i64 0, er])) u) := hideR (fun u er h k => rd_none (by rw [hE]; exact h) (by rw [hE]; exact e0) k)
    have HE0 := hideR e0
    clear hE e0 hok
    go_enter Tryd.func10, Tryd.ntmps10
    go_wp2_with fail
    refine hvd.mono ?_
    rintro e w2 ⟨er, rfl, her, k2⟩
    have HR := hideR (unhideR HF w2 er her (below_go (unhideR HB) k2))
    obtain ⟨kk, rfl⟩ := errIs_ne her (unhideR HE0)
    clear hvd her k2
    go_wp2
    (try simp only [Exit.inBlock, Exit.then])
    refine bodyPost_ret (results_tmp4 rfl _ _ _) rfl ?_
    exact unhideR HR
  case pos =>
  have HBad : HeldR (badRd s i o → ∀ u, Below w.heap.size w u → RdPost a p s i o w (.returned (.tuple #[.int .i64 0, .int .i64 0, .int .i64 0, .iface 165 (.pointer (some (a 4)))])) u) := hideR (fun q u k => by
    have hE : roundE p s i o = 5 := by unfold roundE; rw [if_neg (by simpa using e0), if_pos q]
    exact rd_none (by rw [hE]; exact err_at 4 (by decide)) (by rw [hE]; decide) k)
  have HFin : HeldR (¬ badRd s i o → ∀ u, Below w.heap.size w u → RdPost a p s i o w (.returned (.tuple #[.int .i64 (rdL p.L s p.wide.toNat (i * i) (o * o) (p.high.toNat * p.wide.toNat)), .int .i64 (rdG p.L s p.wide.toNat (i * i) (o * o) (p.high.toNat * p.wide.toNat)), .int .i64 (inN s p.wide.toNat (i * i) (p.high.toNat * p.wide.toNat) : Nat), .nilIface])) u) := hideR (fun q u k => by
    have hE : roundE p s i o = 0 := by unfold roundE; rw [if_neg (by simpa using e0), if_neg q]
    exact ⟨.nilIface, by unfold roundV; rw [if_neg (by rw [hE]; decide)], by rw [hE]; exact .inl ⟨rfl, rfl⟩, k⟩)
  have HOk := hideR (hok e0)
  unfold ValidPost at hvd
  rw [e0] at hvd
  clear hok e0
  go_enter Tryd.func10, Tryd.ntmps10
  go_wp2_with fail
  refine hvd.mono ?_
  rintro e w2 ⟨er, rfl, her, k2⟩
  obtain rfl := errIs_0 her
  obtain ⟨K, hK⟩ : ∃ K, w.heap.size = K := ⟨_, rfl⟩
  have HB2 := hideR (below_go (unhideR HB) k2)
  have HG2 := hideR (keepB (unhideR HG0) k2)
  have HG3 := hideR (keepB (unhideR HG1) k2)
  rw [hK] at HG2 HG3 ⊢
  obtain ⟨p0, p1, p2⟩ := pic_three (unhideR HG2)
  obtain ⟨s0, s1, s2⟩ := pic_three (unhideR HG3)
  have x4 := (unhideR HS w2 (unhideR HB2)).g4
  clear hvd her k2 hK HG0 HG1 HB c0 c1 c2
  by_cases b1 : i < 1
  · have t1 : decide (i < 1) = true := decide_eq_true b1
    have HR := hideR (unhideR HBad (.inl b1))
    go_wp2
    go_quiet (fail)
    go_wp2
    (try simp only [Exit.inBlock, Exit.then])
    refine bodyPost_ret (results_tmp4 rfl _ _ _) rfl ?_
    exact unhideR HR _ (drew_below _ _ (unhideR HB2))
  have t1 : decide (i < 1) = false := decide_eq_false b1
  by_cases b2 : o ≤ i
  · have t2 : decide (o ≤ i) = true := decide_eq_true b2
    have HR := hideR (unhideR HBad (.inr (.inl b2)))
    go_wp2
    go_quiet (fail)
    go_wp2
    (try simp only [Exit.inBlock, Exit.then])
    refine bodyPost_ret (results_tmp4 rfl _ _ _) rfl ?_
    exact unhideR HR _ (drew_below _ _ (unhideR HB2))
  have t2 : decide (o ≤ i) = false := decide_eq_false b2
  by_cases b3 : 1048576 < o
  · have t3 : decide (1048576 < o) = true := decide_eq_true b3
    have HR := hideR (unhideR HBad (.inr (.inr (.inl b3))))
    go_wp2
    go_quiet (fail)
    go_wp2
    (try simp only [Exit.inBlock, Exit.then])
    refine bodyPost_ret (results_tmp4 rfl _ _ _) rfl ?_
    exact unhideR HR _ (drew_below _ _ (unhideR HB2))
  have t3 : decide (1048576 < o) = false := decide_eq_false b3
  have hso := starOff_any s w2
  go_wp2_with fail
  refine hso.mono ?_
  rintro e w3 ⟨rfl, k3⟩
  have HB3 := hideR (below_go (unhideR HB2) k3)
  have x4' := (unhideR HS w3 (unhideR HB3)).g4
  obtain ⟨r0, r1, r2⟩ := pic_three (keepB (unhideR HG2) k3)
  obtain ⟨z0, z1, z2⟩ := pic_three (keepB (unhideR HG3) k3)
  clear hso x4 p0 p1 p2 s0 s1 s2 HG2 HG3 HB2 k3
  cases b4 : (farB s.x || farB s.y) with
  | true =>
    have HR := hideR (unhideR HBad (by
      rcases Bool.or_eq_true_iff.1 b4 with q | q
      · exact .inr (.inr (.inr (.inl q)))
      · exact .inr (.inr (.inr (.inr q)))))
    go_wp2
    go_quiet (fail)
    go_wp2
    (try simp only [Exit.inBlock, Exit.then])
    refine bodyPost_ret (results_tmp4 rfl _ _ _) rfl ?_
    exact unhideR HR _ (drew_below _ _ (unhideR HB3))
  | false =>
    obtain ⟨f1, f2⟩ := Bool.or_eq_false_iff.1 b4
    have nb : ¬ badRd s i o := fun q => by
      rcases q with q | q | q | q | q
      · omega
      · omega
      · omega
      · rw [show decide (268435456 < s.x ∨ s.x < -268435456) = farB s.x from rfl, f1] at q; cases q
      · rw [show decide (268435456 < s.y ∨ s.y < -268435456) = farB s.y from rfl, f2] at q; cases q
    have HFin' := hideR (unhideR HFin nb)
    have hpt := parted_any (unhideR HPc w3 (unhideR HB3)) (unhideR HOk) s i o (by omega) (by omega) (by omega) f1 f2
    have HNn : HeldR (p.high.toNat * p.wide.toNat ≤ 65536) := hideR (by
      have := (unhideR HOk).w2
      have := (unhideR HOk).h2
      exact Nat.mul_le_mul (show p.high.toNat ≤ 256 by omega) (show p.wide.toNat ≤ 256 by omega))
    have HEach : HeldR (∀ k, 0 ≤ p.L.getD k 0 ∧ p.L.getD k 0 ≤ 65535) := hideR (fun k => by
      by_cases q : k < p.L.length
      · exact (unhideR HOk).each k q
      · rw [List.getD_eq_getElem?_getD, List.getElem?_eq_none (by omega)]; exact ⟨by decide, by decide⟩)
    unfold PtPost at hpt
    have HGr : HeldR (0 ≤ rdG p.L s p.wide.toNat (i * i) (o * o) (p.high.toNat * p.wide.toNat) ∧ rdG p.L s p.wide.toNat (i * i) (o * o) (p.high.toNat * p.wide.toNat) ≤ 65535) := hideR (rdG_range (unhideR HEach) _ _ _ _ _)
    have HRl : HeldR ((ringL p.L s p.wide.toNat (i * i) (o * o) (p.high.toNat * p.wide.toNat)).length ≤ 65536) := hideR (Nat.le_trans (ring_len _ _ _ _ _ _) (unhideR HNn))
    have HDl : HeldR ((discL p.L s p.wide.toNat (i * i) (p.high.toNat * p.wide.toNat)).length ≤ 65536) := hideR (Nat.le_trans (disc_len_le _ _ _ _ _) (unhideR HNn))
    have HDm : HeldR (∀ x ∈ discL p.L s p.wide.toNat (i * i) (p.high.toNat * p.wide.toNat), 0 ≤ x ∧ x ≤ 65535) := hideR (fun x hx => disc_mem (unhideR HEach) hx)
    have HDs : HeldR (lessG (rdG p.L s p.wide.toNat (i * i) (o * o) (p.high.toNat * p.wide.toNat)) (discL p.L s p.wide.toNat (i * i) (p.high.toNat * p.wide.toNat)) (discL p.L s p.wide.toNat (i * i) (p.high.toNat * p.wide.toNat)).length = rdL p.L s p.wide.toNat (i * i) (o * o) (p.high.toNat * p.wide.toNat)) := hideR (disc_less _ _ _ _ _ _)
    have HDn : HeldR (inN s p.wide.toNat (i * i) (p.high.toNat * p.wide.toNat) = (discL p.L s p.wide.toNat (i * i) (p.high.toNat * p.wide.toNat)).length) := hideR (disc_len _ _ _ _ _).symm
    have HGe : HeldR ((if ringL p.L s p.wide.toNat (i * i) (o * o) (p.high.toNat * p.wide.toNat) = [] then 0 else medV (ringL p.L s p.wide.toNat (i * i) (o * o) (p.high.toNat * p.wide.toNat))) = rdG p.L s p.wide.toNat (i * i) (o * o) (p.high.toNat * p.wide.toNat)) := hideR rfl
    rw [unhideR HDn] at HFin'
    clear nb HFin HBad b4 HNn HEach HDn f1 f2
    generalize rdG p.L s p.wide.toNat (i * i) (o * o) (p.high.toNat * p.wide.toNat) = gr at *
    generalize rdL p.L s p.wide.toNat (i * i) (o * o) (p.high.toNat * p.wide.toNat) = lt at *
    generalize discL p.L s p.wide.toNat (i * i) (p.high.toNat * p.wide.toNat) = D at *
    generalize ringL p.L s p.wide.toNat (i * i) (o * o) (p.high.toNat * p.wide.toNat) = R at *
    go_wp2_with fail
    refine hpt.mono ?_
    rintro e w4 ⟨dv, rv, rfl, hD, hR, hap, k4⟩
    have HB4 := hideR (below_go (unhideR HB3) k4)
    have hlm := lowerMiddle_any hR (unhideR HRl) k4.size
    unfold LmPost at hlm
    rw [unhideR HGe] at hlm
    have HD4 := hideR hD
    have HAp := hideR hap
    have HK4 := hideR k4
    clear hpt hD hR hap k4 x4' r0 r1 r2 z0 z1 z2
    go_wp2_with fail
    refine hlm.mono ?_
    rintro e w5 ⟨rfl, k5, kp⟩
    have hD5 := kp _ _ (unhideR HD4) (unhideR HAp).symm
    have HB5 := hideR ((unhideR HB3).trans (((unhideR HK4).trans k5).mono (unhideR HB3).size))
    obtain ⟨ad5, cap5, rfl, hcm5⟩ := hD5.came
    obtain ⟨nd, hnd⟩ : ∃ nd, D.length = nd := ⟨_, rfl⟩
    have hgr := unhideR HGr
    have hdl := unhideR HDl
    have HLr : HeldR (∀ k, k ≤ nd → -(65535 * (k : Int)) ≤ lessG gr D k ∧ lessG gr D k ≤ 65535 * (k : Int)) := hideR (fun k hk => lessG_range (unhideR HGr) (unhideR HDm) k (by rw [hnd]; exact hk))
    have HCm := hideR hcm5
    have HEl : HeldR (∀ k, k < nd → 0 ≤ D.getD k 0 ∧ D.getD k 0 ≤ 65535) := hideR (fun k hk => unhideR HDm _ (by
      rw [List.getD_eq_getElem?_getD, List.getElem?_eq_getElem (by omega)]
      exact List.getElem_mem _))
    rw [hnd] at hdl HFin' HDs ⊢
    have HNd := hideR hnd
    clear hlm k5 kp hD5 hcm5 hnd HD4 HAp HK4 HB4 HGe HRl HDl HDm HGr
    go_wp2
    go_loop [8, 50] (fun lv iv => ∃ k : Nat, k ≤ nd ∧ iv = .int .i64 (k : Nat) ∧ lv = .int .i64 (lessG gr D k)) (fun _ iv => nd + 1 - (intOf iv).toNat)
    case atStart => exact ⟨0, by omega, rfl, rfl⟩
    case round =>
      obtain ⟨k, hk, rfl, rfl⟩ := hrel
      have hlr := unhideR HLr k hk
      by_cases hlt : k < nd
      · have tk : decide (k < nd) = true := decide_eq_true hlt
        have jk : (k : Int) < (nd : Int) := by omega
        have wk : IntKind.i64.wrap ((k : Int) + 1) = ((k + 1 : Nat) : Int) := by rw [show (k : Int) + 1 = ((k + 1 : Nat) : Int) by omega]; exact iwrap (by omega) (by omega)
        obtain ⟨b1, o1, rfl, _, x1⟩ := (unhideR HCm).at_ k (by rw [unhideR HNd]; exact hlt)
        have hel := unhideR HEl k hlt
        have HNx : HeldR (lessG gr D (k + 1) = lessG gr D k + (D.getD k 0 - gr)) := hideR rfl
        generalize D.getD k 0 = c at *
        generalize lessG gr D k = ls at *
        have we : IntKind.i64.wrap (c - gr) = c - gr := iwrap (by omega) (by omega)
        have wf : IntKind.i64.wrap (ls + (c - gr)) = ls + (c - gr) := iwrap (by omega) (by omega)
        go_wp2
        exact ⟨⟨k + 1, by omega, by first | rfl | go_num, by rw [unhideR HNx]⟩, by simp [intOf]; omega⟩
      · obtain rfl : k = nd := by omega
        have tk : decide (k < k) = false := decide_eq_false hlt
        rw [unhideR HDs]
        have HR := hideR (unhideR HFin' w5 (unhideR HB5))
        clear HFin' HDs
        go_wp2
        (try simp only [Exit.inBlock, Exit.then])
        refine bodyPost_ret (results_tmp4 rfl _ _ _) rfl ?_
        exact unhideR HR
end Go.Proofs.YtmgnobeaacjdjajDoor
