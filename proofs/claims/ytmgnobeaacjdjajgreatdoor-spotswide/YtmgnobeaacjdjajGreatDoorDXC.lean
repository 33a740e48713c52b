/-
  The program's Find, by contract. The laws' first look at stars.
-/
import Derived.Test.YtmgnobeaacjdjajGreatDoorDXA
import Derived.Test.YtmgnobeaacjdjajGreatDoorDXB
import Derived.Test.YtmgnobeaacjdjajGreatDoorDTB
import Derived.Test.YtmgnobeaacjdjajGreatDoorDQA
namespace Go.Proofs.YtmgnobeaacjdjajGreatDoor
open Go Go.RowKit Go.Shelf Go.Lib Go.Sort

def fndE (p : Pic) (t o l : Int) : Int := if litE p t o ≠ 0 then litE p t o else if l < 1 then 5 else 0
def FdPost (a : Nat → Addr) (p : Pic) (t o l : Int) (w : World) (e : Ending) (w' : World) : Prop := ∃ (v : Value) (X : List Sta) (er : Value), e = .returned (.tuple #[v, er]) ∧ ErrIs a (fndE p t o l) er ∧ SxSl w' v X ∧ (fndE p t o l ≠ 0 → X = []) ∧ (fndE p t o l = 0 → ∃ lab parts, IsLabels (litV p t.toNat o) p.wide.toNat lab parts ∧ X = (spotsV lab (overV p t.toNat) p.wide.toNat p.high.toNat l parts).map starOf) ∧ Below w.heap.size w w'
theorem fd_none {a : Nat → Addr} {p : Pic} {t o l : Int} {w w' : World} {er : Value} (h : ErrIs a (fndE p t o l) er) (h0 : fndE p t o l ≠ 0) (k : Below w.heap.size w w') : FdPost a p t o l w (.returned (.tuple #[.slice none 0 0, er])) w' :=
  ⟨_, [], er, rfl, h, .nil, fun _ => rfl, fun q => absurd q h0, k⟩
theorem litE_ok {p : Pic} {t o : Int} (h : litE p t o = 0) : PicOk p ∧ 1 ≤ t ∧ t ≤ 256 ∧ 0 ≤ o := by
  unfold litE at h
  by_cases e : groundE p t ≠ 0
  · rw [if_pos e] at h; exact absurd h e
  · rw [if_neg e] at h
    have e0 : groundE p t = 0 := by simpa using e
    unfold groundE at e0
    by_cases q : picE p ≠ 0
    · rw [if_pos q] at e0; exact absurd e0 q
    · rw [if_neg q] at e0
      have ho : 0 ≤ o := by
        refine Decidable.byContradiction (fun z => ?_)
        rw [if_pos (by omega)] at h
        omega
      have ht : ¬ (t < 1 ∨ 256 < t) := fun z => by rw [if_pos z] at e0; omega
      exact ⟨pic_ok (by simpa using q), by omega, by omega, ho⟩
set_option maxRecDepth 100000 in
set_option maxHeartbeats 400000 in
theorem find_any {a : Nat → Addr} {w : World} {v : Value} {p : Pic} (hS : Er2 w a) (hv : PicC w v p) (tile over least : Int) : Calls Tryz.prog 14 #[v, .int .i64 tile, .int .i64 over, .int .i64 least] w (FdPost a p tile over least w) := by
  have hlk0 := fun u (k : Below w.heap.size w u) => look_any (hS.below k (Nat.le_refl _)) (hv.below k) tile over
  obtain ⟨ad, cap, rfl, hc, hl, hcc, hcb⟩ := hv
  have hb := below_al2 w (.cells #[.int .i64 p.wide, .int .i64 p.high, .slice ad p.L.length cap] 31) (.cells #[.int .i64 least] 3)
  have hg0 := keepA (o' := .cells #[.int .i64 least] 3) (alloc_last w (.cells #[.int .i64 p.wide, .int .i64 p.high, .slice ad p.L.length cap] 31))
  have hg1 : ((w.alloc (.cells #[.int .i64 p.wide, .int .i64 p.high, .slice ad p.L.length cap] 31)).alloc (.cells #[.int .i64 least] 3)).heap[w.heap.size + 1]? = some (.cells #[.int .i64 least] 3) := by
    have := alloc_last (w.alloc (.cells #[.int .i64 p.wide, .int .i64 p.high, .slice ad p.L.length cap] 31)) (.cells #[.int .i64 least] 3)
    simpa using this
  obtain ⟨c0, c1, c2⟩ := pic_three hg0
  have hlk := hlk0 _ hb
  have HSb : HeldR (∀ u, Below w.heap.size w u → Er2 u a) := hideR (fun u k => hS.below k (Nat.le_refl _))
  have HG := hideR hg0
  have HL := hideR hg1
  have HB := hideR hb
  clear hlk0 hS hg0 hg1 hb hc
  unfold LkPost at hlk
  by_cases e0 : litE p tile over = 0
  · rw [e0] at hlk
    obtain ⟨hok, ht1, ht2, ho⟩ := litE_ok e0
    have hE : fndE p tile over least = if least < 1 then 5 else 0 := by unfold fndE; rw [if_neg (by simpa using e0)]
    by_cases e1 : least < 1
    · rw [if_pos e1] at hE
      have HF : HeldR (∀ u, Below w.heap.size w u → FdPost a p tile over least w (.returned (.tuple #[.slice none 0 0, .iface 232 (.pointer (some (a 4)))])) u) := hideR (fun u k => fd_none (by rw [hE]; exact err_at 4 (by decide)) (by rw [hE]; decide) k)
      have t1 : decide (least < 1) = true := decide_eq_true e1
      clear hE
      go_enter Tryz.func14, Tryz.ntmps14
      go_wp2_with fail
      refine hlk.mono ?_
      rintro e w2 ⟨X, C, a1, a2, cp1, cp2, er, rfl, her, _, _, _, _, k2⟩
      obtain rfl := errIs_0 her
      have HB2 := hideR (below_go (unhideR HB) k2)
      have x4 := (unhideR HSb w2 (unhideR HB2)).g4
      have xl := one_at (keepB (unhideR HL) k2)
      generalize X.length = xn at *
      generalize C.length = cn at *
      clear hlk her k2
      go_wp2
      go_quiet (fail)
      go_wp2
      go_ret2
      exact unhideR HF _ (drew_below _ _ (unhideR HB2))
    · rw [if_neg e1] at hE
      have t1 : decide (least < 1) = false := decide_eq_false e1
      obtain ⟨t, rfl⟩ : ∃ t : Nat, tile = (t : Nat) := ⟨tile.toNat, by omega⟩
      have w1' := hok.w1
      have w2' := hok.w2
      have h1' := hok.h1
      have h2' := hok.h2
      obtain ⟨W, hW⟩ : ∃ W : Nat, p.wide = (W : Nat) := ⟨p.wide.toNat, by omega⟩
      have hWn : p.wide.toNat = W := by omega
      have hll : (litV p t over).length = p.high.toNat * W := by rw [lit_len, hWn]
      have hlf : (litV p t over).length ≤ 65536 := by
        rw [hll]
        exact Nat.mul_le_mul (show p.high.toNat ≤ 256 by omega) (show W ≤ 256 by omega)
      have hol : (overV p t).length = (litV p t over).length := by rw [over_len, lit_len]
      have HGa : HeldR (∀ lab parts, IsLabels (litV p t over) W lab parts → parts ≤ (litV p t over).length → GaIn W p.high.toNat parts lab (overV p t)) := hideR (fun lab parts h1 h2 => by
        rw [← hWn] at h1 ⊢
        exact ga_in hok (by omega) ho h1 h2)
      have HFin : HeldR (∀ (lab : List Int) (parts : Nat) (m g cp : Nat) (p' q : Nat → Sp) (u v : World), IsLabels (litV p t over) W lab parts → (keepN (fun j => starOf (spK lab (overV p t) W p.high.toNat (j + 1))) least parts).length = m → (∀ a, a < m → p' a = bigP lab (overV p t) W p.high.toNat least parts a) → Row0 9 u g m → Done p' q 0 m → Srt 9 u g m q v → m ≤ cp → Below w.heap.size w v → FdPost a p (t : Nat) over least w (.returned (.tuple #[.slice (some ⟨g, 0, none⟩) m cp, .nilIface])) v) := hideR (fun lab parts m g cp p' q u v h1 h2 h3 h4 h5 h6 h7 h8 => by
        have hr := (row_end h4 h6).1
        have hq := order_spots2 h2 h3 h5
        have hlen : ((List.range m).map (fun a => starOf (q a))).length = m := by simp
        refine ⟨_, (List.range m).map (fun a => starOf (q a)), .nilIface, rfl, by rw [hE]; exact .inl ⟨rfl, rfl⟩, ?_, fun z => absurd hE z, fun _ => ⟨lab, parts, ?_, ?_⟩, h8⟩
        · have := SxSl.row (cap := cp) hr (by rw [hlen]; exact h7)
          rw [hlen] at this
          exact this
        · rw [Int.toNat_natCast, hWn]; exact h1
        · rw [Int.toNat_natCast, hWn, ← hq, List.map_map]; rfl)
      have HW := hideR hW
      have HLL := hideR hll
      have HOL := hideR hol
      have hWb : 1 ≤ W ∧ W ≤ 256 := by omega
      clear hE hW hWn hll hol w1' w2'
      go_enter Tryz.func14, Tryz.ntmps14
      go_wp2_with fail
      refine hlk.mono ?_
      rintro e w2 ⟨X, C, a1, a2, cp1, cp2, er, rfl, her, hXC, _, hX, hC, k2⟩
      obtain rfl := errIs_0 her
      obtain ⟨rfl, rfl⟩ := hXC trivial
      rw [Int.toNat_natCast] at hX hC ⊢
      have HB2 := hideR (below_go (unhideR HB) k2)
      have HG2 := hideR (keepB (unhideR HG) k2)
      have HL2 := hideR (keepB (unhideR HL) k2)
      have xl := one_at (unhideR HL2)
      obtain ⟨y0, y1, y2⟩ := pic_three (unhideR HG2)
      rw [unhideR HW] at y0
      have hnm := numbered_any (cap := cp2) hC (show 1 ≤ W by omega) p.high.toNat (unhideR HLL) hlf
      have HX := hideR hX
      clear hlk her k2 hXC hX hC c0 c1 c2
      go_wp2_with fail
      refine hnm.mono ?_
      rintro e w3 ⟨a3, cp3, lab, parts, rfl, hlab, hpp, hcl, k3⟩
      have hga := unhideR HGa lab parts hlab hpp
      have hx3 := (unhideR HX).below k3
      have hla : lab.length = (litV p t over).length := hlab.len
      have hgt := gathered_any (cp1 := cp1) (cp2 := cp3) rfl sizX hx3 hcl hga
      rw [hla] at hgt
      rw [unhideR HOL]
      have HLab := hideR hlab
      have HB3 := hideR (below_go (unhideR HB2) k3)
      have HG3 := hideR (keepB (unhideR HG2) k3)
      have HL3 := hideR (keepB (unhideR HL2) k3)
      have hpn := hga.pn
      obtain ⟨z0, z1, z2⟩ := pic_three (unhideR HG3)
      rw [unhideR HW] at z0
      have hlt3 : w.heap.size + 1 < w3.heap.size := ltB (unhideR HL3)
      clear hnm hga hx3 hcl k3 hlab
      go_wp2_with fail
      refine hgt.mono ?_
      rintro e w4 ⟨rfl, hG4⟩
      have hL4 := one_at ((hG4.bel.block _ hlt3).trans (unhideR HL3))
      have hdf := delete_any (cap := parts) hG4 (Nat.le_refl _) hlt3 hL4 (by omega)
      have hB4 := below_go (unhideR HB3) hG4.bel
      have HB4 := hideR hB4
      clear hgt hL4 hG4 hB4
      go_wp2_with fail
      refine hdf.mono ?_
      rintro e w5 ⟨m, hh, rfl, hm, hG5, hfr⟩
      obtain ⟨p', hp', hR, hSr⟩ := row_start hG5 (bigP lab (overV p t) W p.high.toNat least parts) (fun a ha => hfr a ha)
      have hmp : m ≤ parts := by
        rw [← hm]
        unfold keepN
        have := List.length_filter_le (fun x => decide (least ≤ (starOf (spK lab (overV p t) W p.high.toNat (x + 1))).px)) (List.range parts)
        rw [List.length_range] at this
        exact this
      have hup : KUp p' 0 m := fun i j h1 h2 h3 => by
        rw [hp' i (by omega), hp' j h3]
        exact big_up lab (overV p t) W p.high.toNat least parts i j h1 h2 (by rw [hm]; exact h3)
      have hst := sortStable_any sizX parts hR hSr (by omega) hup
      have HB5 : HeldR (Below w.heap.size w w5) := hideR (below_go (unhideR HB3) hG5.bel)
      have HE : HeldR (∀ q v, Done p' q 0 m → Srt 9 w5 w3.heap.size m q v → FdPost a p (t : Nat) over least w (.returned (.tuple #[.slice (some ⟨w3.heap.size, 0, none⟩) m parts, .nilIface])) v) := hideR (fun q v d s => unhideR HFin lab parts m _ parts p' q w5 v (unhideR HLab) hm hp' hR d s hmp ((unhideR HB5).trans ((row_end hR s).2.mono (unhideR HB3).size)))
      clear hdf hG5 hfr hSr hup
      go_wp2_with fail
      refine hst.mono ?_
      rintro e w6 ⟨rfl, q, hd, hs6⟩
      have HR6 := hideR (unhideR HE q w6 hd hs6)
      clear hst hd hs6
      go_wp2
      go_ret2
      exact unhideR HR6
  · have hE : fndE p tile over least = litE p tile over := by unfold fndE; rw [if_pos e0]
    have HF : HeldR (∀ u er, ErrIs a (litE p tile over) er → Below w.heap.size w u → FdPost a p tile over least w (.returned (.tuple #[.slice none 0 0, er])) u) := hideR (fun u er h k => fd_none (by rw [hE]; exact h) (by rw [hE]; exact e0) k)
    have HE0 := hideR e0
    clear hE e0
    go_enter Tryz.func14, Tryz.ntmps14
    go_wp2_with fail
    refine hlk.mono ?_
    rintro e w2 ⟨X, C, a1, a2, cp1, cp2, er, rfl, her, _, _, _, _, k2⟩
    have HR := hideR (unhideR HF w2 er her (below_go (unhideR HB) k2))
    obtain ⟨kk, rfl⟩ := errIs_ne her (unhideR HE0)
    generalize X.length = xn at *
    generalize C.length = cn at *
    clear hlk her k2
    go_wp2
    go_ret2
    exact unhideR HR
end Go.Proofs.YtmgnobeaacjdjajGreatDoor
namespace Go.Proofs.YtmgnobeaacjdjajGreatDoor
open Go Go.RowKit

def pic9 : Pic := ⟨3, 1, [0, 9, 0]⟩
theorem tile_first : tileL pic9 3 (0 * 3) (0 * 3) = [0, 9, 0] := by decide +kernel
theorem med_first : medV [0, 9, 0] = 0 := med_one (med_is (by decide)) ⟨by decide, by decide⟩
theorem ground_first : groundV pic9 3 = [0] := by
  have e : groundV pic9 3 = [medV (tileL pic9 3 (0 * 3) (0 * 3))] := rfl
  rw [e, tile_first, med_first]
theorem ov_first : overV pic9 3 = [0, 9, 0] := by
  unfold overV gAt
  rw [ground_first]
  decide +kernel
theorem lit_first : litV pic9 3 2 = [false, true, false] := by
  unfold litV
  rw [ov_first]
  decide +kernel
theorem fnd_first : fndE pic9 3 2 1 = 0 := by decide +kernel
theorem lab_mid : IsLabels [false, true, false] 3 [0, 1, 0] 1 := by
  have lit : ∀ i, litB [false, true, false] i = true → i = 1 := fun i h => by
    have := lit_lt h
    rcases (show i = 0 ∨ i = 1 ∨ i = 2 by simp at this; omega) with rfl | rfl | rfl
    · exact absurd h (by decide)
    · rfl
    · exact absurd h (by decide)
  refine ⟨rfl, fun i h => ?_, fun i h => ?_, fun i h => ?_, fun i j hi hj => ?_, fun i a hi h1 h2 => ?_, .inr ⟨1, by decide, by decide⟩⟩
  · by_cases q : i < 3
    · rcases (show i = 0 ∨ i = 1 ∨ i = 2 by omega) with rfl | rfl | rfl
      · decide
      · exact absurd h (by decide)
      · decide
    · rw [List.getD_eq_getElem?_getD, List.getElem?_eq_none (by simp; omega)]
      rfl
  · rw [lit i h]; decide
  · rw [lit i h]; decide
  · rw [lit i hi, lit j hj]
    exact ⟨fun _ => .one (by decide), fun _ => rfl⟩
  · rw [lit i hi] at h2
    have : a < 1 := h2
    omega
theorem spots_first : (spotsV [0, 1, 0] [0, 9, 0] 3 1 1 1).map starOf = [⟨1, 0, 1, 0, 1, 9, 1536, 512, 9⟩] := by decide +kernel
theorem found_first {lab : List Int} {parts : Nat} (h : IsLabels (litV pic9 3 2) 3 lab parts) : (spotsV lab (overV pic9 3) 3 1 1 parts).map starOf = [⟨1, 0, 1, 0, 1, 9, 1536, 512, 9⟩] := by
  rw [lit_first] at h
  obtain ⟨e1, e2⟩ := labels_one h lab_mid
  rw [e1, e2, ov_first]
  exact spots_first
set_option maxRecDepth 100000 in
set_option maxHeartbeats 1600000 in
theorem spotted_any {a : Nat → Addr} {w : World} (hS : Er2 w a) : Calls Tryz.prog 5 #[] w fun e w' => e = .returned (.bool true) ∧ Below w.heap.size w w' := by
  have hb := below_a w (.cells #[.int .i64 0, .int .i64 9, .int .i64 0] 3)
  obtain ⟨c0, c1, c2⟩ := pic_three (alloc_last w (.cells #[.int .i64 0, .int .i64 9, .int .i64 0] 3))
  have hp : PicC (w.alloc (.cells #[.int .i64 0, .int .i64 9, .int .i64 0] 3)) (.agg #[.int .i64 3, .int .i64 1, .slice (some ⟨w.heap.size, 0, none⟩) 3 3]) pic9 := ⟨_, 3, rfl, ⟨fun k hk => by
    refine ⟨_, _, rfl, ltB (alloc_last w _), ?_⟩
    rw [Nat.zero_add]
    rcases (show k = 0 ∨ k = 1 ∨ k = 2 by simp [pic9] at hk; omega) with rfl | rfl | rfl
    · exact c0
    · exact c1
    · exact c2⟩, by decide, by decide, by decide⟩
  have hf := find_any (hS.below hb (Nat.le_refl _)) hp 3 2 1
  have hf' : Calls Tryz.prog 14 #[.agg #[.int .i64 3, .int .i64 1, .slice (some ⟨w.heap.size, 0, none⟩) 3 3], .int .i64 3, .int .i64 2, .int .i64 1] (w.alloc (.cells #[.int .i64 0, .int .i64 9, .int .i64 0] 3)) fun e w' => ∃ b o cap : Nat, e = .returned (.tuple #[.slice (some ⟨b, o, none⟩) 1 cap, .nilIface]) ∧ w'.cell? ⟨b, o + 5, none⟩ = some (.int .i64 9) ∧ HeldR (Below w.heap.size w w') := hf.mono (by
    rintro e w' ⟨v, X, er, rfl, her, hX, _, hk, k⟩
    rw [fnd_first] at her hk
    obtain rfl := errIs_0 her
    obtain ⟨lab, parts, hl, hXe⟩ := hk rfl
    have hXe' := hXe.trans (found_first hl)
    subst hXe'
    cases hX with
    | row hc _ =>
      obtain ⟨b9, o9, e9, _, hat⟩ := hc.at_ 0 (by simp)
      cases e9
      exact ⟨_, _, _, rfl, by have := hat.c5; simpa using this, hideR (below_go hb k)⟩)
  clear hf hp hb c0 c1 c2 hS
  go_enter Tryz.func5, Tryz.ntmps5
  go_wp2_with fail
  refine hf'.mono ?_
  rintro e w1 ⟨b, o, cap, rfl, x5, HB⟩
  clear hf'
  go_wp2
  go_ret
  exact ⟨rfl, unhideR HB⟩
end Go.Proofs.YtmgnobeaacjdjajGreatDoor
