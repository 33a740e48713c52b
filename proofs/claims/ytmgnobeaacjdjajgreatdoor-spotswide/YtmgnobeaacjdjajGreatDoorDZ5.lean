/-
  The program's Wide, by contract.
-/
import Derived.Test.YtmgnobeaacjdjajGreatDoorDZ4
import Derived.Test.YtmgnobeaacjdjajGreatDoorEr2S
import Derived.Test.YtmgnobeaacjdjajGreatDoorCodK4
import Derived.Test.YtmgnobeaacjdjajGreatDoorFarC
namespace Go.Proofs.YtmgnobeaacjdjajGreatDoor
open Go Go.RowKit

theorem has_is (p : Pic) (s : Sta) : hasB p s = true ↔ boxB p s = true ∧ ¬ p.high ≤ s.lo := by
  unfold hasB liesB boxB
  simp only [Bool.and_eq_true, decide_eq_true_eq]
  omega
theorem all_is (p : Pic) (s : Sta) : allV p s = csP (boxP p s (nH s)) := (box_cs p s (nH s)).symm
def WdPost (a : Nat → Addr) (p : Pic) (s : Sta) (part : Int) (w : World) (e : Ending) (w' : World) : Prop := ∃ (r : Int) (er : Value), e = .returned (.tuple #[.int .i64 r, er]) ∧ ErrIs a (reachE p s part) er ∧ (reachE p s part ≠ 0 → r = 0) ∧ (reachE p s part = 0 → IsReach p s part r) ∧ Below w.heap.size w w'
theorem wd_none {a : Nat → Addr} {p : Pic} {s : Sta} {part : Int} {w w' : World} {er : Value} (h : ErrIs a (reachE p s part) er) (h0 : reachE p s part ≠ 0) (k : Below w.heap.size w w') : WdPost a p s part w (.returned (.tuple #[.int .i64 0, er])) w' :=
  ⟨0, er, rfl, h, fun _ => rfl, fun q => absurd q h0, k⟩
theorem reach_of {p : Pic} {s : Sta} {part : Int} {D : List Px} (hp : D.Perm (boxP p s (nH s))) (hs : D.Pairwise (fun a b => a.far ≤ b.far)) (hc : ∀ x ∈ boxP p s (nH s), 0 ≤ x.cnt) {k : Nat} (hk : k < D.length) (h1 : part * csP (boxP p s (nH s)) ≤ 100 * csP (D.take (k + 1))) (h2 : 100 * csP (D.take k) < part * csP (boxP p s (nH s))) : IsReach p s part (D.getD k px0).far := by
  rw [← all_is] at h1 h2
  exact reach_is hp hs (fun x hx => hc x (hp.mem_iff.1 hx)) hk h1 h2
section
variable {p : Pic} {s : Sta} {W H L T R O : Nat}
theorem BoxIn.pos (h : BoxIn p s W H L T R O) : 0 < (boxP p s (nH s)).length := by
  rw [boxP_len]
  have := h.nw
  have := h.nh
  exact Nat.mul_pos (by omega) (by omega)
theorem BoxIn.many (h : BoxIn p s W H L T R O) : (boxP p s (nH s)).length ≤ 70000 := by
  have := h.few (nH s) 0 (Nat.le_refl _) (by omega)
  rw [List.length_append] at this
  omega
theorem BoxIn.cnts (h : BoxIn p s W H L T R O) : ∀ x ∈ boxP p s (nH s), 0 ≤ x.cnt ∧ x.cnt ≤ 65535 := fun x hx => by
  obtain ⟨a, b, _, _, e⟩ := box_mem hx
  rw [e]; exact h.each _
theorem BoxIn.part (h : BoxIn p s W H L T R O) {D : List Px} (hp : D.Perm (boxP p s (nH s))) (k : Nat) : 0 ≤ csP (D.take k) ∧ csP (D.take k) ≤ 4700000000 := by
  have h1 := csP_range (D := D.take k) (fun x hx => h.cnts x (hp.mem_iff.1 (List.mem_of_mem_take hx)))
  have h2 := h.many
  rw [← hp.length_eq] at h2
  have h3 : (D.take k).length ≤ D.length := by rw [List.length_take]; omega
  omega
theorem BoxIn.total (h : BoxIn p s W H L T R O) : 0 ≤ csP (boxP p s (nH s)) ∧ csP (boxP p s (nH s)) ≤ 4700000000 := by
  have h1 := csP_range h.cnts
  have h2 := h.many
  omega
end
set_option maxRecDepth 100000 in
set_option maxHeartbeats 3200000 in
theorem wide_any {a : Nat → Addr} {w : World} {v : Value} {p : Pic} (hS : Sents w a) (hv : PicC w v p) (s : Sta) (part : Int) : Calls Tryz.prog 7 #[v, sxV s, .int .i64 part] w (WdPost a p s part w) := by
  have hvd0 := fun u (k : Below w.heap.size w u) => valid_any (hS.er2.below k (Nat.le_refl _)) ((hv.v).below k)
  have HPc : HeldR (∀ u, Below w.heap.size w u → PicC u v p) := hideR (fun u k => hv.below k)
  have hok := fun e : picE p = 0 => pic_ok e
  obtain ⟨ad, cap, rfl, hc, hl, hcc, hcb⟩ := hv
  have hb := below_two w (.cells #[.int .i64 p.wide, .int .i64 p.high, .slice ad p.L.length cap] 31) (.cells #[.int .i64 s.le, .int .i64 s.tp, .int .i64 s.ri, .int .i64 s.lo, .int .i64 s.px, .int .i64 s.li, .int .i64 s.x, .int .i64 s.y, .int .i64 s.lt] 36)
  have hg0 := keepA (o' := .cells #[.int .i64 s.le, .int .i64 s.tp, .int .i64 s.ri, .int .i64 s.lo, .int .i64 s.px, .int .i64 s.li, .int .i64 s.x, .int .i64 s.y, .int .i64 s.lt] 36) (alloc_last w (.cells #[.int .i64 p.wide, .int .i64 p.high, .slice ad p.L.length cap] 31))
  have hg1 : ((w.alloc (.cells #[.int .i64 p.wide, .int .i64 p.high, .slice ad p.L.length cap] 31)).alloc (.cells #[.int .i64 s.le, .int .i64 s.tp, .int .i64 s.ri, .int .i64 s.lo, .int .i64 s.px, .int .i64 s.li, .int .i64 s.x, .int .i64 s.y, .int .i64 s.lt] 36)).heap[w.heap.size + 1]? = some (.cells #[.int .i64 s.le, .int .i64 s.tp, .int .i64 s.ri, .int .i64 s.lo, .int .i64 s.px, .int .i64 s.li, .int .i64 s.x, .int .i64 s.y, .int .i64 s.lt] 36) := by
    have := alloc_last (w.alloc (.cells #[.int .i64 p.wide, .int .i64 p.high, .slice ad p.L.length cap] 31)) (.cells #[.int .i64 s.le, .int .i64 s.tp, .int .i64 s.ri, .int .i64 s.lo, .int .i64 s.px, .int .i64 s.li, .int .i64 s.x, .int .i64 s.y, .int .i64 s.lt] 36)
    simpa using this
  have hvd := hvd0 _ hb
  obtain ⟨c0, c1, c2⟩ := pic_three hg0
  have HS : HeldR (∀ u, Below w.heap.size w u → Sents u a) := hideR (fun u k => hS.below k (Nat.le_refl _))
  have HG0 := hideR hg0
  have HG1 := hideR hg1
  have HB := hideR hb
  clear hvd0 hS hg0 hg1 hb hc hl hcc hcb
  unfold sxV
  by_cases e0 : picE p = 0
  case neg =>
    have hE : reachE p s part = picE p := by unfold reachE; rw [if_pos e0]
    have HF : HeldR (∀ u er, ErrIs a (picE p) er → Below w.heap.size w u → WdPost a p s part w (.returned (.tuple #[.int .i64 0, er])) u) := hideR (fun u er h k => wd_none (by rw [hE]; exact h) (by rw [hE]; exact e0) k)
    have HE0 := hideR e0
    clear hE e0 hok
    go_enter Tryz.func7, Tryz.ntmps7
    go_wp2_with fail
    refine hvd.mono ?_
    rintro e w2 ⟨er, rfl, her, k2⟩
    have HR := hideR (unhideR HF w2 er her (below_go (unhideR HB) k2))
    obtain ⟨kk, rfl⟩ := errIs_ne her (unhideR HE0)
    clear hvd her k2
    go_wp2
    go_ret2
    exact unhideR HR
  case pos =>
  have HBad : HeldR (badR p s part → ∀ u, Below w.heap.size w u → WdPost a p s part w (.returned (.tuple #[.int .i64 0, .iface 232 (.pointer (some (a 4)))])) u) := hideR (fun q u k => by
    have hE : reachE p s part = 5 := by unfold reachE; rw [if_neg (by simpa using e0), if_pos q]
    exact wd_none (by rw [hE]; exact err_at 4 (by decide)) (by rw [hE]; decide) k)
  have HNone : HeldR (¬ badR p s part → csP (boxP p s (nH s)) = 0 → ∀ u, Below w.heap.size w u → WdPost a p s part w (.returned (.tuple #[.int .i64 0, .iface 232 (.pointer (some (a 8)))])) u) := hideR (fun q z u k => by
    have hE : reachE p s part = 9 := by unfold reachE; rw [if_neg (by simpa using e0), if_neg q, if_pos (by rw [all_is]; exact z)]
    exact wd_none (by rw [hE]; exact err_at 8 (by decide)) (by rw [hE]; decide) k)
  have HFin : HeldR (¬ badR p s part → csP (boxP p s (nH s)) ≠ 0 → ∀ r u, IsReach p s part r → Below w.heap.size w u → WdPost a p s part w (.returned (.tuple #[.int .i64 r, .nilIface])) u) := hideR (fun q z r u hr k => by
    have hE : reachE p s part = 0 := by unfold reachE; rw [if_neg (by simpa using e0), if_neg q, if_neg (by rw [all_is]; exact z)]
    exact ⟨r, .nilIface, rfl, by rw [hE]; exact .inl ⟨rfl, rfl⟩, fun n => absurd hE n, fun _ => hr, k⟩)
  have HOk := hideR (hok e0)
  unfold ValidPost at hvd
  rw [e0] at hvd
  clear hok e0
  go_enter Tryz.func7, Tryz.ntmps7
  go_wp2_with fail
  refine hvd.mono ?_
  rintro e w2 ⟨er, rfl, her, k2⟩
  obtain rfl := errIs_0 her
  obtain ⟨K, hK⟩ : ∃ K, w.heap.size = K := ⟨_, rfl⟩
  have HB2 := hideR (below_go (unhideR HB) k2)
  have HG2 := hideR (keepB (unhideR HG0) k2)
  have HG3 := hideR (keepB (unhideR HG1) k2)
  rw [hK] at HG2 HG3 ⊢
  obtain ⟨p0, p1, p2⟩ := pic_three (unhideR HG2)
  have q9 := nine_at9 (x := s) (unhideR HG3)
  have y0 : w2.cell? ⟨K + 1, 0, none⟩ = some (.int .i64 s.le) := q9.c0
  have y1 : w2.cell? ⟨K + 1, 1, none⟩ = some (.int .i64 s.tp) := q9.c1
  have y2 : w2.cell? ⟨K + 1, 2, none⟩ = some (.int .i64 s.ri) := q9.c2
  have y3 : w2.cell? ⟨K + 1, 3, none⟩ = some (.int .i64 s.lo) := q9.c3
  have y4 : w2.cell? ⟨K + 1, 4, none⟩ = some (.int .i64 s.px) := q9.c4
  have y5 : w2.cell? ⟨K + 1, 5, none⟩ = some (.int .i64 s.li) := q9.c5
  have y6 : w2.cell? ⟨K + 1, 6, none⟩ = some (.int .i64 s.x) := q9.c6
  have y7 : w2.cell? ⟨K + 1, 7, none⟩ = some (.int .i64 s.y) := q9.c7
  have y8 : w2.cell? ⟨K + 1, 8, none⟩ = some (.int .i64 s.lt) := q9.c8
  have x4 := (unhideR HS w2 (unhideR HB2)).g4
  clear hvd her k2 hK q9 HG0 HG1 HB c0 c1 c2
  by_cases b1 : part < 1
  · have t1 : decide (part < 1) = true := decide_eq_true b1
    have HR := hideR (unhideR HBad (.inl b1))
    go_wp2
    go_quiet (fail)
    go_wp2
    go_ret2
    exact unhideR HR _ (drew_below _ _ (unhideR HB2))
  have t1 : decide (part < 1) = false := decide_eq_false b1
  by_cases b2 : 100 < part
  · have t2 : decide (100 < part) = true := decide_eq_true b2
    have HR := hideR (unhideR HBad (.inr (.inl b2)))
    go_wp2
    go_quiet (fail)
    go_wp2
    go_ret2
    exact unhideR HR _ (drew_below _ _ (unhideR HB2))
  have t2 : decide (100 < part) = false := decide_eq_false b2
  have hhb := hasBox_any p s (.slice ad p.L.length cap) w2
  unfold sxV at hhb
  go_wp2_with fail
  refine hhb.mono ?_
  rintro e w3 ⟨rfl, k3⟩
  have HB3 := hideR (below_go (unhideR HB2) k3)
  have x4' := (unhideR HS w3 (unhideR HB3)).g4
  obtain ⟨r0, r1, r2⟩ := pic_three (keepB (unhideR HG2) k3)
  have q9 := nine_at9 (x := s) (keepB (unhideR HG3) k3)
  have z0 : w3.cell? ⟨K + 1, 0, none⟩ = some (.int .i64 s.le) := q9.c0
  have z1 : w3.cell? ⟨K + 1, 1, none⟩ = some (.int .i64 s.tp) := q9.c1
  have z2 : w3.cell? ⟨K + 1, 2, none⟩ = some (.int .i64 s.ri) := q9.c2
  have z3 : w3.cell? ⟨K + 1, 3, none⟩ = some (.int .i64 s.lo) := q9.c3
  have z4 : w3.cell? ⟨K + 1, 4, none⟩ = some (.int .i64 s.px) := q9.c4
  have z5 : w3.cell? ⟨K + 1, 5, none⟩ = some (.int .i64 s.li) := q9.c5
  have z6 : w3.cell? ⟨K + 1, 6, none⟩ = some (.int .i64 s.x) := q9.c6
  have z7 : w3.cell? ⟨K + 1, 7, none⟩ = some (.int .i64 s.y) := q9.c7
  have z8 : w3.cell? ⟨K + 1, 8, none⟩ = some (.int .i64 s.lt) := q9.c8
  have HG3k := hideR (keepB (unhideR HG2) k3)
  have HG4k := hideR (keepB (unhideR HG3) k3)
  clear hhb q9 y0 y1 y2 y3 y4 y5 y6 y7 y8 p0 p1 p2 x4 HG2 HG3 HB2 k3
  have hfa := fun u => starOff_any s u
  cases b3 : hasB p s with
  | false =>
    have HR := hideR (unhideR HBad (by
      refine Decidable.byContradiction (fun q => ?_)
      have nb := not_bad q
      rw [(has_is p s).2 ⟨nb.2.2.1, nb.2.2.2.1⟩] at b3
      cases b3))
    clear hfa
    go_wp2
    go_quiet (fail)
    go_wp2
    go_ret2
    exact unhideR HR _ (drew_below _ _ (unhideR HB3))
  | true =>
    go_wp2_with fail
    refine (hfa _).mono ?_
    rintro e w3' ⟨rfl, k3'⟩
    have HB3' := hideR (below_go (unhideR HB3) k3')
    have x4'' := (unhideR HS w3' (unhideR HB3')).g4
    obtain ⟨r0', r1', r2'⟩ := pic_three (keepB (unhideR HG3k) k3')
    have q9' := nine_at9 (x := s) (keepB (unhideR HG4k) k3')
    have z0' : w3'.cell? ⟨K + 1, 0, none⟩ = some (.int .i64 s.le) := q9'.c0
    have z1' : w3'.cell? ⟨K + 1, 1, none⟩ = some (.int .i64 s.tp) := q9'.c1
    have z2' : w3'.cell? ⟨K + 1, 2, none⟩ = some (.int .i64 s.ri) := q9'.c2
    have z3' : w3'.cell? ⟨K + 1, 3, none⟩ = some (.int .i64 s.lo) := q9'.c3
    have z4' : w3'.cell? ⟨K + 1, 4, none⟩ = some (.int .i64 s.px) := q9'.c4
    have z5' : w3'.cell? ⟨K + 1, 5, none⟩ = some (.int .i64 s.li) := q9'.c5
    have z6' : w3'.cell? ⟨K + 1, 6, none⟩ = some (.int .i64 s.x) := q9'.c6
    have z7' : w3'.cell? ⟨K + 1, 7, none⟩ = some (.int .i64 s.y) := q9'.c7
    have z8' : w3'.cell? ⟨K + 1, 8, none⟩ = some (.int .i64 s.lt) := q9'.c8
    clear hfa k3' q9' z0 z1 z2 z3 z4 z5 z6 z7 z8 r0 r1 r2 x4' HB3 HG3k HG4k
    have HB3 := HB3'
    clear HB3'
    generalize w3' = w3 at *
    cases b4 : (farB s.x || farB s.y) with
    | true =>
      have HR := hideR (unhideR HBad (by
        rcases Bool.or_eq_true_iff.1 b4 with q | q
        · exact .inr (.inr (.inr (.inr (.inl q))))
        · exact .inr (.inr (.inr (.inr (.inr q))))))
      go_wp2
      go_quiet (fail)
      go_wp2
      go_ret2
      exact unhideR HR _ (drew_below _ _ (unhideR HB3))
    | false =>
      obtain ⟨f1, f2⟩ := Bool.or_eq_false_iff.1 b4
      have nb : ¬ badR p s part := fun q => by
        rcases q with q | q | q | q | q | q
        · omega
        · omega
        · rw [((has_is p s).1 b3).1] at q; cases q
        · exact ((has_is p s).1 b3).2 q
        · rw [f1] at q; cases q
        · rw [f2] at q; cases q
      obtain ⟨W', H', L', T', R', O', hI⟩ := box_in_of (unhideR HOk) b3 f1 f2
      have hbx := boxPixels_any (unhideR HPc w3 (unhideR HB3)) hI
      unfold sxV at hbx
      have HI := hideR hI
      have HNone' := hideR (unhideR HNone nb)
      have HFin' := hideR (unhideR HFin nb)
      clear nb HNone HFin HBad
      go_wp2_with fail
      refine hbx.mono ?_
      rintro e w4 ⟨u, rfl, hO, k4⟩
      have HB4 := hideR (below_go (unhideR HB3) k4)
      have tot := (unhideR HI).total
      have x8 := (unhideR HS w4 (unhideR HB4)).g8
      have hsrt := sortPx_any hO (unhideR HI).pos (Nat.le_trans (unhideR HI).many (by omega))
      have HRe : HeldR (∀ (D : List Px) k, D.Perm (boxP p s (nH s)) → D.Pairwise (fun a b => a.far ≤ b.far) → k < D.length → part * csP (boxP p s (nH s)) ≤ 100 * csP (D.take (k + 1)) → 100 * csP (D.take k) < part * csP (boxP p s (nH s)) → IsReach p s part (D.getD k px0).far) := hideR (fun D k h1 h2 h3 h4 h5 => reach_of h1 h2 (fun x hx => ((unhideR HI).cnts x hx).1) h3 h4 h5)
      have HPt : HeldR (∀ (D : List Px) k, D.Perm (boxP p s (nH s)) → 0 ≤ csP (D.take k) ∧ csP (D.take k) ≤ 4700000000) := hideR (fun D k h => (unhideR HI).part h k)
      have HCs : HeldR (∀ (D : List Px), D.Perm (boxP p s (nH s)) → csP D = csP (boxP p s (nH s))) := hideR (fun D h => csP_perm h)
      have hpos := (unhideR HI).pos
      have hmany := (unhideR HI).many
      generalize boxP p s (nH s) = M at *
      obtain ⟨al, hal⟩ : ∃ al, csP M = al := ⟨_, rfl⟩
      rw [hal] at tot HNone' HFin' HRe HCs ⊢
      clear hbx hO k4 hal z0' z1' z2' z3' z4' z5' z6' z7' z8' r0' r1' r2' x4''
      by_cases ez : al = 0
      · have tz : (al == 0) = true := by rw [ez]; rfl
        have HR := hideR (unhideR HNone' ez)
        clear hsrt
        go_wp2
        go_quiet (fail)
        go_wp2
        go_ret2
        exact unhideR HR _ (drew_below _ _ (unhideR HB4))
      · have tz : (al == 0) = false := beq_eq_false_iff_ne.2 ez
        go_wp2_with fail
        refine hsrt.mono ?_
        rintro e w5 ⟨rfl, D, ad5, cp5, rfl, hpm, hso, hcm, k5⟩
        have hlen := hpm.length_eq
        have hcs := unhideR HCs D hpm
        have hp1 : part * al ≤ 100 * al := Int.mul_le_mul_of_nonneg_right (by omega) tot.1
        have hp2 : 0 < part * al := Int.mul_pos (by omega) (by omega)
        have hrc := reach_any (cap := cp5) (hund := part * al) hcm (fun k => unhideR HPt D k hpm) (by omega) (by omega) hp2 (by rw [hcs]; exact hp1)
        rw [hlen] at hrc
        have HB5 := hideR ((unhideR HB4).trans (k5.mono (unhideR HB3).size))
        have HPm := hideR hpm
        have HSo := hideR hso
        obtain ⟨hu, hhu⟩ : ∃ hu, part * al = hu := ⟨_, rfl⟩
        have whu : IntKind.i64.wrap (part * al) = hu := by rw [hhu]; exact iwrap (by omega) (by omega)
        have HHu := hideR hhu
        rw [hhu] at hrc
        clear hsrt hpm hso hcm k5 hcs hp1 hp2 hhu
        go_wp2_with fail
        refine hrc.mono ?_
        rintro e w6 ⟨k, hk, rfl, h1, h2, k6⟩
        have HR := hideR (unhideR HFin' ez _ w6 (unhideR HRe D k (unhideR HPm) (unhideR HSo) hk (by rw [unhideR HHu]; exact h1) (by rw [unhideR HHu]; exact h2)) (below_go (unhideR HB5) k6))
        generalize (D.getD k px0).far = rr at *
        clear hrc h1 h2 k6
        go_wp2
        go_ret2
        exact unhideR HR
end Go.Proofs.YtmgnobeaacjdjajGreatDoor
