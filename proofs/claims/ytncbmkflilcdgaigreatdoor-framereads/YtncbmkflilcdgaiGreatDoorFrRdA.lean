/-
  The law FrameReads: its walk. Bytes that came in.
-/
import Derived.Test.YtncbmkflilcdgaiGreatDoorFfPo
import Derived.Test.YtncbmkflilcdgaiGreatDoorDH16
import Derived.Test.YtncbmkflilcdgaiGreatDoorDF9
import Derived.Test.YtncbmkflilcdgaiGreatDoorFfW
import Derived.Test.YtncbmkflilcdgaiGreatDoorFfArg
import Derived.ChangeSlices
import Derived.OpenShut
namespace Go.Proofs.YtncbmkflilcdgaiGreatDoor
open Go Go.RowKit

theorem read_small (l : Bs) : (readV l).2.1.L.length ≤ 65536 ∧ (readV l).2.2.length ≤ 200 := by
  unfold readV
  split
  · exact ⟨by decide, by decide⟩
  · split
    · exact ⟨by decide, by decide⟩
    · rename_i hs
      split
      · exact ⟨by decide, by decide⟩
      · rename_i hb
        split
        · exact ⟨by decide, by decide⟩
        · refine ⟨?_, ?_⟩
          · show ((List.range _).map _).length ≤ _
            rw [List.length_map, List.length_range]
            exact Nat.mul_le_mul (show _ ≤ 256 by omega) (show _ ≤ 256 by omega)
          · show ((cardsOf l (stopV l 107 0)).drop 6).length ≤ 200
            unfold cardsOf
            rw [List.length_drop, List.length_map, List.length_range]
            omega
theorem PicAt.other {w : World} {b cap : Nat} {ad : Option Addr} {p : Pic} {g i : Nat} {x : Value} (h : PicAt w b 0 ad cap p) (hb : b ≠ g) (hg : ∀ a0, ad = some a0 → a0.block ≠ g) : PicAt (w.setCell ⟨g, i, none⟩ x) b 0 ad cap p := by
  have key : ∀ (o : Nat) (v : Value), w.cell? ⟨b, o, none⟩ = some v → (w.setCell ⟨g, i, none⟩ x).cell? ⟨b, o, none⟩ = some v := fun o v hv => by
    rw [World.cell?_setCell_other]
    · exact hv
    · intro q
      injection q with q1
      exact hb q1.symm
  exact ⟨by simpa [World.setCell] using h.low, key _ _ h.c0, key _ _ h.c1, key _ _ h.c2, h.row.other hg⟩
set_option maxRecDepth 100000 in
set_option maxHeartbeats 6400000 in
theorem reads_walk {a : Nat → Addr} {ab ai : Option Addr} {cb ci : Nat} {l : Bs} {P : List Int} (w : World) (hS : SentsF w a) (hB : BAt w ab l) (hc : l.length ≤ cb) (hI : ICame w ai P) (hPn : P.length ≤ 140737488355328) :
    Calls Tryz.prog 4 #[.slice ab l.length cb, .slice ai P.length ci] w fun e w' => e = .returned (.bool true) ∧ Below w.heap.size w w' := by
  have hfr := framed_any (fr_ok a).one w hS.s
  have HS := hideR hS
  have HB := hideR hB
  have HI := hideR hI
  clear hS hB hI
  go_enter Tryz.func4, Tryz.ntmps4
  go_wp2_with fail
  refine hfr.mono ?_
  rintro e w1 ⟨rfl, k1⟩
  have HW := hideR k1
  replace HS := hideR ((unhideR HS).below k1)
  replace HB := hideR ((unhideR HB).below k1)
  replace HI := hideR ((unhideR HI).below k1)
  clear k1 hfr
  by_cases q1 : 20000 < l.length ∧ l.length ≤ 400000
  · have t1 : decide ((20000 : Int) < (l.length : Nat)) = true := decide_eq_true (by omega)
    have t2 : decide ((l.length : Int) ≤ 400000) = true := decide_eq_true (by omega)
    go_wp2
    go_ret
    exact ⟨rfl, unhideR HW⟩
  by_cases q2 : 400010 < l.length
  · have t1 : decide ((20000 : Int) < (l.length : Nat)) = true := decide_eq_true (by omega)
    have t2 : decide ((l.length : Int) ≤ 400000) = false := decide_eq_false (by omega)
    have t3 : decide ((400010 : Int) < (l.length : Nat)) = true := decide_eq_true (by omega)
    go_wp2
    go_ret
    exact ⟨rfl, unhideR HW⟩
  have t3 : decide ((400010 : Int) < (l.length : Nat)) = false := decide_eq_false (by omega)
  by_cases q3 : 60 < P.length
  · have t4 : decide ((60 : Int) < (P.length : Nat)) = true := decide_eq_true (by omega)
    by_cases q4 : 20000 < l.length
    · have t1 : decide ((20000 : Int) < (l.length : Nat)) = true := decide_eq_true (by omega)
      have t2 : decide ((l.length : Int) ≤ 400000) = false := decide_eq_false (by omega)
      go_wp2
      go_ret
      exact ⟨rfl, unhideR HW⟩
    · have t1 : decide ((20000 : Int) < (l.length : Nat)) = false := decide_eq_false (by omega)
      go_wp2
      go_ret
      exact ⟨rfl, unhideR HW⟩
  have t4 : decide ((60 : Int) < (P.length : Nat)) = false := decide_eq_false (by omega)
  have hl4 : l.length ≤ 400010 := by omega
  have hP6 : P.length ≤ 60 := by omega
  have hrd := read_ok a (cb := cb) (unhideR HS) (unhideR HB) hl4 hc
  obtain ⟨E, p, Lc, hrv⟩ : ∃ E p Lc, readV l = (E, p, Lc) := ⟨_, _, _, rfl⟩
  have hsm := read_small l
  rw [hrv] at hsm
  obtain ⟨hp8, hLc⟩ := hsm
  simp only at hp8 hLc
  have HRV := hideR hrv
  unfold ReadPost at hrd
  rw [hrv] at hrd
  clear hrv
  by_cases q4 : 20000 < l.length
  case' pos =>
    have t1 : decide ((20000 : Int) < (l.length : Nat)) = true := decide_eq_true (by omega)
    have t2 : decide ((l.length : Int) ≤ 400000) = false := decide_eq_false (by omega)
    clear q1 q2 q3 q4
  case' neg =>
    have t1 : decide ((20000 : Int) < (l.length : Nat)) = false := decide_eq_false (by omega)
    clear q1 q2 q3 q4
  all_goals
    go_wp2_with fail
    refine hrd.mono ?_
    rintro e w5 ⟨L5, ax, al, cx, cl, er5, rfl, hL5, her5, hT, hC5, k5⟩
    have kA := below_a w5 (.cells #[.int .i64 p.wide, .int .i64 p.high, .slice ax p.L.length cx] 33)
    have HSz := hideR ((unhideR HS).below k5)
    have HWz := hideR (below_go (unhideR HW) k5)
    have KZ := hideR kA
    have HG := hideR (alloc_last w5 (.cells #[.int .i64 p.wide, .int .i64 p.high, .slice ax p.L.length cx] 33))
    replace HB := hideR (((unhideR HB).below k5).below kA)
    replace HS := hideR (((unhideR HS).below k5).below kA)
    replace HI := hideR (((unhideR HI).below k5).below kA)
    replace HW := hideR (below_go (below_go (unhideR HW) k5) kA)
    have HC := hideR (hC5.below kA)
    have HT := hideR (hT.row.below kA)
    have HL5 := hideR hL5
    have hLn : L5.length ≤ 200 := by rw [← List.length_map CrdS.crd, hL5]; exact hLc
    have hpo := pictureOf_any (cb := cb) (unhideR HB) hl4 hc
    unfold PicPost at hpo
    rw [unhideR HRV] at hpo
    have HE5 := hideR her5
    clear hrd hT hC5 k5 kA hL5 her5
    go_wp2_with fail
    generalize w5.alloc (.cells #[.int .i64 p.wide, .int .i64 p.high, .slice ax p.L.length cx] 33) = W6 at *
    refine hpo.mono ?_
    rintro e w7 ⟨g, ay, am, cy, cm, L7, rfl, hpa, hL7, hC7, k7, hg7, ha7⟩
    obtain rfl := crd_inj ((unhideR HL5).trans hL7.symm)
    have hgx := ltB (unhideR HG)
    replace HB := hideR ((unhideR HB).below k7)
    replace HS := hideR ((unhideR HS).below k7)
    replace HI := hideR ((unhideR HI).below k7)
    replace HW := hideR (below_go (unhideR HW) k7)
    replace KZ := hideR (below_go (unhideR KZ) k7)
    replace HC := hideR ((unhideR HC).below k7)
    replace HT := hideR ((unhideR HT).below k7)
    replace HG := hideR (keepB (unhideR HG) k7)
    have HPa := hideR hpa
    have HCa := hideR hC7
    have HNe : HeldR (g ≠ w5.heap.size ∧ ∀ a0, ay = some a0 → a0.block ≠ w5.heap.size) := hideR ⟨by omega, fun a0 q => by have := ha7 a0 q; omega⟩
    have hco := coded_err (unhideR HS).s (unhideR HE5)
    clear hpo hpa hL7 hC7 k7 hg7 ha7 hgx
    go_wp2_with fail
    refine hco.mono ?_
    rintro e w8 ⟨rfl, k8⟩
    replace HB := hideR ((unhideR HB).below k8)
    replace HS := hideR ((unhideR HS).below k8)
    replace HI := hideR ((unhideR HI).below k8)
    replace HW := hideR (below_go (unhideR HW) k8)
    replace KZ := hideR (below_go (unhideR KZ) k8)
    replace HC := hideR ((unhideR HC).below k8)
    replace HT := hideR ((unhideR HT).below k8)
    replace HG := hideR (keepB (unhideR HG) k8)
    replace HPa := hideR ((unhideR HPa).below k8)
    replace HCa := hideR ((unhideR HCa).below k8)
    obtain ⟨y0, y1, y2⟩ := pic_three (unhideR HG)
    have hsp := samePicture_any (cx := cx) (unhideR HT) (unhideR HPa) (by omega)
    clear hco k8
    go_wp2_with fail
    refine hsp.mono ?_
    rintro e w9 ⟨rfl, k9⟩
    replace HB := hideR ((unhideR HB).below k9)
    replace HS := hideR ((unhideR HS).below k9)
    replace HI := hideR ((unhideR HI).below k9)
    replace HW := hideR (below_go (unhideR HW) k9)
    replace KZ := hideR (below_go (unhideR KZ) k9)
    replace HG := hideR (keepB (unhideR HG) k9)
    replace HPa := hideR ((unhideR HPa).below k9)
    replace HCa := hideR ((unhideR HCa).below k9)
    have hsc := sameCards_any (c1 := cl) (c2 := cm) ((unhideR HC).below k9) (unhideR HCa) (by omega)
    clear hsp k9 y0 y1 y2 HC HT
    go_wp2_with fail
    refine hsc.mono ?_
    rintro e wA ⟨rfl, kA⟩
    replace KZ := hideR (below_go (unhideR KZ) kA)
    replace HB := hideR ((unhideR HB).below kA)
    replace HS := hideR ((unhideR HS).below kA)
    replace HI := hideR ((unhideR HI).below kA)
    replace HW := hideR (below_go (unhideR HW) kA)
    replace HG := hideR (keepB (unhideR HG) kA)
    replace HPa := hideR ((unhideR HPa).below kA)
    replace HCa := hideR ((unhideR HCa).below kA)
    have hpt := parts_ok a (cb := cb) (ci := ci) (unhideR HS) (unhideR HB) hl4 hc (unhideR HI) hP6
    unfold ReadPost at hpt
    rw [unhideR HRV] at hpt
    clear hsc kA
    go_wp2_with fail
    refine hpt.mono ?_
    rintro e wB ⟨L9, az, an, cz, cn, er9, rfl, hL9, her9, hT9, hC9, kB⟩
    replace KZ := hideR (below_go (unhideR KZ) kB)
    obtain rfl := crd_inj ((unhideR HL5).trans hL9.symm)
    replace HS := hideR ((unhideR HS).below kB)
    replace HW := hideR (below_go (unhideR HW) kB)
    replace HG := hideR (keepB (unhideR HG) kB)
    replace HPa := hideR ((unhideR HPa).below kB)
    replace HCa := hideR ((unhideR HCa).below kB)
    obtain ⟨f0, f1, f2⟩ := pic_open (unhideR HG)
    obtain ⟨g0, g1, g2⟩ := pic_three (unhideR HG)
    have hne := hT9.ne (unhideR HG) (by decide)
    have hcn := fun k (hk : k < L5.length) => hC9.ne (unhideR HG) hk
    have hcm := fun k (hk : k < L5.length) => (unhideR HCa).ne (unhideR HG) hk
    have HI := hideR (((hT9.row.other (i := 0) (x := .int .i64 p.wide) hne).other (i := 1) (x := .int .i64 p.high) hne).other (i := 2) (x := .slice az p.L.length cz) hne)
    have HC := hideR (((hC9.other (i := 0) (x := .int .i64 p.wide) hcn).other (i := 1) (x := .int .i64 p.high) hcn).other (i := 2) (x := .slice az p.L.length cz) hcn)
    have HCz := hideR ((((unhideR HCa).other (i := 0) (x := .int .i64 p.wide) hcm).other (i := 1) (x := .int .i64 p.high) hcm).other (i := 2) (x := .slice az p.L.length cz) hcm)
    have hnp := unhideR HNe
    have HPz := hideR ((((unhideR HPa).other (i := 0) (x := .int .i64 p.wide) hnp.1 hnp.2).other (i := 1) (x := .int .i64 p.high) hnp.1 hnp.2).other (i := 2) (x := .slice az p.L.length cz) hnp.1 hnp.2)
    have KS := hideR ((((unhideR KZ).setCell (p := ⟨w5.heap.size, 0, none⟩) (Nat.le_refl _) (.int .i64 p.wide)).setCell (p := ⟨w5.heap.size, 1, none⟩) (Nat.le_refl _) (.int .i64 p.high)).setCell (p := ⟨w5.heap.size, 2, none⟩) (Nat.le_refl _) (.slice az p.L.length cz))
    have HG2 := hideR (three_setR (y0 := .int .i64 p.wide) (y1 := .int .i64 p.high) (y2 := .slice az p.L.length cz) (unhideR HG))
    replace HS := hideR ((unhideR HSz).below (unhideR KS))
    replace HW := hideR (below_go (unhideR HWz) (unhideR KS))
    have hco := coded_err (unhideR HS).s her9
    clear hpt hT9 hC9 kB hL9 her9 HG KZ hne hcn hcm hnp HSz HWz KS HPa HCa HNe
    go_wp2_with fail
    clear f0 f1 f2 g0 g1 g2
    generalize ((wB.setCell ⟨w5.heap.size, 0, none⟩ (.int .i64 p.wide)).setCell ⟨w5.heap.size, 1, none⟩ (.int .i64 p.high)).setCell ⟨w5.heap.size, 2, none⟩ (.slice az p.L.length cz) = WC at *
    refine hco.mono ?_
    rintro e wd ⟨rfl, kd⟩
    replace HW := hideR (below_go (unhideR HW) kd)
    replace HG2 := hideR (keepB (unhideR HG2) kd)
    obtain ⟨y0, y1, y2⟩ := pic_three (unhideR HG2)
    have hsp := samePicture_any (cx := cz) ((unhideR HI).below kd) ((unhideR HPz).below kd) (by omega)
    replace HC := hideR ((unhideR HC).below kd)
    replace HCz := hideR ((unhideR HCz).below kd)
    clear hco kd HI HPz HG2
    go_wp2_with fail
    refine hsp.mono ?_
    rintro e we ⟨rfl, ke⟩
    replace HW := hideR (below_go (unhideR HW) ke)
    have hsc := sameCards_any (c1 := cn) (c2 := cm) ((unhideR HC).below ke) ((unhideR HCz).below ke) (by omega)
    clear hsp ke HC HCz y0 y1 y2
    go_wp2_with fail
    refine hsc.mono ?_
    rintro e wf ⟨rfl, kf⟩
    replace HW := hideR (below_go (unhideR HW) kf)
    clear kf hsc
    go_wp2
    go_ret
    exact ⟨rfl, unhideR HW⟩
end Go.Proofs.YtncbmkflilcdgaiGreatDoor
namespace Go.Proofs.YtncbmkflilcdgaiGreatDoor
open Go Go.ChangeShapes Go.WideShapes Go.ChangeAt Go.RowKit

theorem cellsBy : Tryz.prog.cellsOf 5 = 1 := by kernel_rfl
section
variable {H : Type} {enc : TypeId × Value → H} {w : World} {base : Nat} {spare : Nat → Bool} {held : Bool}
set_option maxRecDepth 100000 in
theorem bytes_came {r : Reach} {b0 : Nat} {v : Value} {d : DataW H} {ps : List MemPlace} (hval : Value.okWide Tryz.prog w r b0 27 v) (hd : DataW.Trod enc Tryz.prog w base spare held 27 v d ps) :
    ∃ (ad : Option Addr) (c : Nat) (l : Bs), v = .slice ad l.length c ∧ BAt w ad l ∧ l.length ≤ c := by
  obtain ⟨a0, len, cap, rfl⟩ := okWide_slice Tryz.underlying27 hval
  obtain ⟨fuel, h⟩ := hd
  rcases open_ints Tryz.underlying27 Tryz.underlying5 cellsBy h with ⟨hcs, _⟩ | ⟨a, len', cap', zs, hcs, _, hl, hm, hz, _, hcell, hwz⟩
  · simp [Value.cells] at hcs
    obtain ⟨rfl, rfl, rfl⟩ := hcs
    exact ⟨none, 0, [], rfl, ⟨fun k hk => absurd hk (Nat.not_lt_zero k)⟩, Nat.le_refl _⟩
  · simp [Value.cells] at hcs
    obtain ⟨rfl, rfl, rfl⟩ := hcs
    have hzl : len ≤ zs.length := by rw [hz]; split <;> omega
    have hlen : ((zs.take len).map fun n => UInt8.ofNat n.toNat).length = len := by simp; omega
    refine ⟨some a, cap, (zs.take len).map fun n => UInt8.ofNat n.toNat, by rw [hlen], ⟨fun j hj => ?_⟩, by rw [hlen]; exact hl⟩
    rw [hlen] at hj
    obtain ⟨ab, ao, spot⟩ := a
    have hspot : spot = none := by simpa [Addr.add] using World.cell?_spot (hcell 0 (by omega))
    subst hspot
    have hcj := hcell j (by omega)
    rw [add_pl2] at hcj
    have hb := range_u8 hwz j
    have e : zs.getD j 0 = zs[j]?.getD 0 := List.getD_eq_getElem?_getD
    have e2 : (((zs.take len).map fun n => UInt8.ofNat n.toNat).getD j 0).toNat = ((zs[j]?.getD 0).toNat) := by
      have hjz : j < zs.length := by omega
      simp only [List.getD_eq_getElem?_getD, List.getElem?_map, List.getElem?_take, if_pos hj, List.getElem?_eq_getElem hjz, Option.map_some, Option.getD_some, UInt8.toNat_ofNat'] at hb ⊢
      omega
    refine ⟨ab, ao, rfl, lt_of_cell hcj, ?_⟩
    rw [hcj, e, e2]
    congr 2
    omega
end
end Go.Proofs.YtncbmkflilcdgaiGreatDoor
