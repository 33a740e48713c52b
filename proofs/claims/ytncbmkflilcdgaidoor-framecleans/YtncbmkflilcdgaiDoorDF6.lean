/-
  The program's Clean, by contract.
-/
import Derived.Test.YtncbmkflilcdgaiDoorDF5
namespace Go.Proofs.YtncbmkflilcdgaiDoor
open Go Go.RowKit

set_option maxRecDepth 100000 in
set_option maxHeartbeats 6400000 in
theorem clean_ok (a : Nat → Addr) : CleanOK a := by
  intro w ap ad af cp cd cf p d f full hS hp hd hf lp ld lf
  show Calls _ _ _ _ (CleanP a p d f full w)
  have b1 := below_a w (.cells #[.int .i64 d.wide, .int .i64 d.high, .slice ad d.L.length cd, .int .i64 f.wide, .int .i64 f.high, .slice af f.L.length cf, .int .i64 full] 32)
  have b2 := below_go b1 (below_a _ (.cells #[.int .i64 p.wide, .int .i64 p.high, .slice ap p.L.length cp] 27))
  have b3 := below_go b2 (below_a _ (.cells #[.int .i64 0, .int .i64 0, .slice none 0 0] 27))
  have g1 := alloc_last w (.cells #[.int .i64 d.wide, .int .i64 d.high, .slice ad d.L.length cd, .int .i64 f.wide, .int .i64 f.high, .slice af f.L.length cf, .int .i64 full] 32)
  have g2 := alloc_last (w.alloc (.cells #[.int .i64 d.wide, .int .i64 d.high, .slice ad d.L.length cd, .int .i64 f.wide, .int .i64 f.high, .slice af f.L.length cf, .int .i64 full] 32)) (.cells #[.int .i64 p.wide, .int .i64 p.high, .slice ap p.L.length cp] 27)
  have g3 := alloc_last ((w.alloc (.cells #[.int .i64 d.wide, .int .i64 d.high, .slice ad d.L.length cd, .int .i64 f.wide, .int .i64 f.high, .slice af f.L.length cf, .int .i64 full] 32)).alloc (.cells #[.int .i64 p.wide, .int .i64 p.high, .slice ap p.L.length cp] 27)) (.cells #[.int .i64 0, .int .i64 0, .slice none 0 0] 27)
  replace g1 := keepA (o' := .cells #[.int .i64 0, .int .i64 0, .slice none 0 0] 27) (keepA (o' := .cells #[.int .i64 p.wide, .int .i64 p.high, .slice ap p.L.length cp] 27) g1)
  replace g2 := keepA (o' := .cells #[.int .i64 0, .int .i64 0, .slice none 0 0] 27) g2
  have z1 : (w.alloc (.cells #[.int .i64 d.wide, .int .i64 d.high, .slice ad d.L.length cd, .int .i64 f.wide, .int .i64 f.high, .slice af f.L.length cf, .int .i64 full] 32)).heap.size = w.heap.size + 1 := by simp
  have z2 : ((w.alloc (.cells #[.int .i64 d.wide, .int .i64 d.high, .slice ad d.L.length cd, .int .i64 f.wide, .int .i64 f.high, .slice af f.L.length cf, .int .i64 full] 32)).alloc (.cells #[.int .i64 p.wide, .int .i64 p.high, .slice ap p.L.length cp] 27)).heap.size = w.heap.size + 1 + 1 := by simp
  rw [z1] at g2
  rw [z2] at g3
  clear z1 z2 b1 b2
  have z3 : ((((w.alloc (.cells #[.int .i64 d.wide, .int .i64 d.high, .slice ad d.L.length cd, .int .i64 f.wide, .int .i64 f.high, .slice af f.L.length cf, .int .i64 full] 32)).alloc (.cells #[.int .i64 p.wide, .int .i64 p.high, .slice ap p.L.length cp] 27)).alloc (.cells #[.int .i64 0, .int .i64 0, .slice none 0 0] 27))).heap.size = w.heap.size + 1 + 1 + 1 := by simp
  have s0 := (cell_in g1 0 (by simp)).1
  have s1 := (cell_in g1 1 (by simp)).1
  have s2 := (cell_in g1 2 (by simp)).1
  have s3 := (cell_in g1 3 (by simp)).1
  have s4 := (cell_in g1 4 (by simp)).1
  have s5 := (cell_in g1 5 (by simp)).1
  obtain ⟨p0, p1, p2⟩ := pic_three g2
  have HS := hideR (hS.below b3 (Nat.le_refl _))
  have HP := hideR (hp.below b3)
  have HD := hideR (hd.below b3)
  have HFl := hideR (hf.below b3)
  have HPw := hideR hp
  have HDw := hideR hd
  have HFw := hideR hf
  have HB := hideR b3
  have HG1 := hideR g1
  have HG2 := hideR g2
  have HG3 := hideR g3
  clear g1 g2 g3 b3 hS hp hd hf
  have hE := wt_clean p d f full
  have HE := hideR hE
  clear hE
  go_enter Tryd.func6, Tryd.ntmps6
  go_wp2_with fail
  generalize (((w.alloc (.cells #[.int .i64 d.wide, .int .i64 d.high, .slice ad d.L.length cd, .int .i64 f.wide, .int .i64 f.high, .slice af f.L.length cf, .int .i64 full] 32)).alloc (.cells #[.int .i64 p.wide, .int .i64 p.high, .slice ap p.L.length cp] 27)).alloc (.cells #[.int .i64 0, .int .i64 0, .slice none 0 0] 27)) = W0 at *
  have HZ := hideR z3
  have bs := below_a W0 (.cells #[.int .i64 d.wide, .int .i64 d.high, .slice ad d.L.length cd, .int .i64 f.wide, .int .i64 f.high, .slice af f.L.length cf] 27)
  have hgs := alloc_last W0 (.cells #[.int .i64 d.wide, .int .i64 d.high, .slice ad d.L.length cd, .int .i64 f.wide, .int .i64 f.high, .slice af f.L.length cf] 27)
  rw [z3] at hgs
  replace HS := hideR ((unhideR HS).below bs (Nat.le_refl _))
  replace HP := hideR ((unhideR HP).below bs)
  replace HD := hideR ((unhideR HD).below bs)
  replace HFl := hideR ((unhideR HFl).below bs)
  have htog := together_any (cm := 2) (v := .agg #[.int .i64 p.wide, .int .i64 p.high, .slice ap p.L.length cp]) (p := p) (unhideR HS) ⟨ap, cp, rfl, unhideR HP, by omega⟩ (pair_came hgs (unhideR HD) (unhideR HFl) ld lf) (by simp)
  have HW := hideR bs
  clear hgs bs z3 s0 s1 s2 s3 s4 s5 p0 p1 p2
  refine htog.mono ?_
  rintro e w1 ⟨er, rfl, her, k1⟩
  replace HW := hideR (below_go (unhideR HW) k1)
  replace HS := hideR ((unhideR HS).below k1 (Nat.le_refl _))
  replace HP := hideR ((unhideR HP).below k1)
  replace HD := hideR ((unhideR HD).below k1)
  replace HFl := hideR ((unhideR HFl).below k1)
  replace HB := hideR (below_go (unhideR HB) (unhideR HW))
  replace HG1 := hideR (keepB (unhideR HG1) (unhideR HW))
  replace HG2 := hideR (keepB (unhideR HG2) (unhideR HW))
  replace HG3 := hideR (keepB (unhideR HG3) (unhideR HW))
  clear htog k1 HW HZ
  by_cases e1 : wtE p [d, f] = 0
  case neg =>
    obtain ⟨k, hk, rfl⟩ := err_some her e1
    have HX := hideR her
    have HC : HeldR (cleanE p d f full = wtE p [d, f]) := hideR (by rw [unhideR HE, if_pos e1])
    obtain ⟨q0, q1, q2⟩ := pic_three (unhideR HG3)
    obtain ⟨o0, o1, o2⟩ := pic_open (unhideR HG3)
    clear her HE
    have HX2 := hideR (clean_bad (by rw [unhideR HC]; exact unhideR HX) (by rw [unhideR HC]; exact e1) (three_below (g := w.heap.size + 1 + 1) (y0 := .int .i64 0) (y1 := .int .i64 0) (y2 := .slice none 0 0) (unhideR HB) (by omega)))
    obtain ⟨r0, r1, r2⟩ := pic_three (three_set (y0 := .int .i64 0) (y1 := .int .i64 0) (y2 := .slice none 0 0) (unhideR HG3))
    clear HX HC e1
    go_wp2_with fail
    simp [bodyPost, results, Tryd.results6, go_sem, r0, r1, r2]
    exact unhideR HX2
  case pos =>
    obtain rfl := err_nil her e1
    obtain ⟨kp, kd, kf, i1, i2, i3, i4⟩ := wt_zero e1
    have HKp := hideR kp
    have HKd := hideR kd
    have HKf := hideR kf
    have ln1 := same_len kp kd i1 i2
    have ln2 := same_len kp kf i3 i4
    have HC : HeldR (cleanE p d f full = if full < 1 ∨ 65535 < full ∨ someN f.L = 0 then 5 else 0) := hideR (by rw [unhideR HE, if_neg (fun k => k e1)])
    have hme := mean_any (cap := cf) (unhideR HFl) kf
    have s5 := (cell_in (unhideR HG1) 5 (by simp)).1
    have HI := hideR (And.intro ln1 ln2)
    clear her HE e1 kp kd kf i1 i2 i3 i4 ln1 ln2
    go_wp2_with fail
    refine hme.mono ?_
    rintro e w2 ⟨rfl, hm⟩
    clear hme s5
    have s6 := (cell_in (unhideR HG1) 6 (by simp)).1
    by_cases hbad : full < 1 ∨ 65535 < full ∨ someN f.L = 0
    · have HC5 : HeldR (cleanE p d f full = 5) := hideR (by rw [unhideR HC, if_pos hbad])
      have HX2 := fun (v : World) (k : Below w2.heap.size w2 v) => clean_bad (a := a) (p := p) (d := d) (f := f) (full := full) (w := w) (er := .iface 89 (.pointer (some (a 4)))) (by rw [unhideR HC5]; exact err_at 4 (by decide)) (by rw [unhideR HC5]; decide) (three_below (g := w.heap.size + 1 + 1) (y0 := .int .i64 0) (y1 := .int .i64 0) (y2 := .slice none 0 0) (below_go (unhideR HB) k) (by omega))
      have HX3 := hideR HX2
      have g4 := (unhideR HS).g4
      clear HX2 HC HC5
      have key : ∀ (m : Int) (q : Bool), (q = false ∨ full < 1 ∨ 65535 < full) → True := fun _ _ _ => trivial
      clear key
      rcases hm with ⟨hn, rfl⟩ | ⟨hn, rfl⟩
      · clear hbad
        go_wp2_with fail
        obtain ⟨q0, q1, q2⟩ := pic_three (unhideR HG3)
        obtain ⟨o0, o1, o2⟩ := pic_open (unhideR HG3)
        have HX4 : HeldR (CleanP a p d f full w (.returned (.tuple #[.agg #[.int .i64 0, .int .i64 0, .slice none 0 0], .slice none 0 0, .iface 89 (.pointer (some (a 4)))])) (((w2.setCell ⟨w.heap.size + 1 + 1, 0, none⟩ (.int .i64 0)).setCell ⟨w.heap.size + 1 + 1, 1, none⟩ (.int .i64 0)).setCell ⟨w.heap.size + 1 + 1, 2, none⟩ (.slice none 0 0)).drew) := hideR (unhideR HX3 w2.drew (below_drewN (Below.refl _ w2) 1))
        have h3 : (((w2.setCell ⟨w.heap.size + 1 + 1, 0, none⟩ (.int .i64 0)).setCell ⟨w.heap.size + 1 + 1, 1, none⟩ (.int .i64 0)).setCell ⟨w.heap.size + 1 + 1, 2, none⟩ (.slice none 0 0)).drew.heap[w.heap.size + 1 + 1]? = some (.cells #[.int .i64 0, .int .i64 0, .slice none 0 0] 27) := three_set (unhideR HG3)
        clear HP HD HFl s6 HX3
        go_region
        generalize (((w2.setCell ⟨w.heap.size + 1 + 1, 0, none⟩ (.int .i64 0)).setCell ⟨w.heap.size + 1 + 1, 1, none⟩ (.int .i64 0)).setCell ⟨w.heap.size + 1 + 1, 2, none⟩ (.slice none 0 0)).drew = uf at *
        obtain ⟨r0, r1, r2⟩ := pic_three h3
        go_wp2
        simp [bodyPost, results, Tryd.results6, go_sem, r0, r1, r2]
        exact unhideR HX4
      · by_cases hb1 : full < 1
        · clear hbad
          go_wp2_with fail
          obtain ⟨q0, q1, q2⟩ := pic_three (unhideR HG3)
          obtain ⟨o0, o1, o2⟩ := pic_open (unhideR HG3)
          have HX4 : HeldR (CleanP a p d f full w (.returned (.tuple #[.agg #[.int .i64 0, .int .i64 0, .slice none 0 0], .slice none 0 0, .iface 89 (.pointer (some (a 4)))])) (((w2.setCell ⟨w.heap.size + 1 + 1, 0, none⟩ (.int .i64 0)).setCell ⟨w.heap.size + 1 + 1, 1, none⟩ (.int .i64 0)).setCell ⟨w.heap.size + 1 + 1, 2, none⟩ (.slice none 0 0)).drew) := hideR (unhideR HX3 w2.drew (below_drewN (Below.refl _ w2) 1))
          have h3 : (((w2.setCell ⟨w.heap.size + 1 + 1, 0, none⟩ (.int .i64 0)).setCell ⟨w.heap.size + 1 + 1, 1, none⟩ (.int .i64 0)).setCell ⟨w.heap.size + 1 + 1, 2, none⟩ (.slice none 0 0)).drew.heap[w.heap.size + 1 + 1]? = some (.cells #[.int .i64 0, .int .i64 0, .slice none 0 0] 27) := three_set (unhideR HG3)
          clear HP HD HFl s6 HX3
          go_region
          generalize (((w2.setCell ⟨w.heap.size + 1 + 1, 0, none⟩ (.int .i64 0)).setCell ⟨w.heap.size + 1 + 1, 1, none⟩ (.int .i64 0)).setCell ⟨w.heap.size + 1 + 1, 2, none⟩ (.slice none 0 0)).drew = uf at *
          obtain ⟨r0, r1, r2⟩ := pic_three h3
          go_wp2
          simp [bodyPost, results, Tryd.results6, go_sem, r0, r1, r2]
          exact unhideR HX4
        · have hb2 : 65535 < full := by omega
          clear hbad
          go_wp2_with fail
          obtain ⟨q0, q1, q2⟩ := pic_three (unhideR HG3)
          obtain ⟨o0, o1, o2⟩ := pic_open (unhideR HG3)
          have HX4 : HeldR (CleanP a p d f full w (.returned (.tuple #[.agg #[.int .i64 0, .int .i64 0, .slice none 0 0], .slice none 0 0, .iface 89 (.pointer (some (a 4)))])) (((w2.setCell ⟨w.heap.size + 1 + 1, 0, none⟩ (.int .i64 0)).setCell ⟨w.heap.size + 1 + 1, 1, none⟩ (.int .i64 0)).setCell ⟨w.heap.size + 1 + 1, 2, none⟩ (.slice none 0 0)).drew) := hideR (unhideR HX3 w2.drew (below_drewN (Below.refl _ w2) 1))
          have h3 : (((w2.setCell ⟨w.heap.size + 1 + 1, 0, none⟩ (.int .i64 0)).setCell ⟨w.heap.size + 1 + 1, 1, none⟩ (.int .i64 0)).setCell ⟨w.heap.size + 1 + 1, 2, none⟩ (.slice none 0 0)).drew.heap[w.heap.size + 1 + 1]? = some (.cells #[.int .i64 0, .int .i64 0, .slice none 0 0] 27) := three_set (unhideR HG3)
          clear HP HD HFl s6 HX3
          go_region
          generalize (((w2.setCell ⟨w.heap.size + 1 + 1, 0, none⟩ (.int .i64 0)).setCell ⟨w.heap.size + 1 + 1, 1, none⟩ (.int .i64 0)).setCell ⟨w.heap.size + 1 + 1, 2, none⟩ (.slice none 0 0)).drew = uf at *
          obtain ⟨r0, r1, r2⟩ := pic_three h3
          go_wp2
          simp [bodyPost, results, Tryd.results6, go_sem, r0, r1, r2]
          exact unhideR HX4
    · rcases hm with ⟨hn, rfl⟩ | ⟨hn, rfl⟩
      · exact absurd (.inr (.inr hn)) hbad
      have HC0 : HeldR (cleanE p d f full = 0) := hideR (by rw [unhideR HC, if_neg hbad])
      have hf1 : 1 ≤ full := by omega
      have hf2 : full ≤ 65535 := by omega
      have tf1 : decide (full < 1) = false := by simp; omega
      have tf2 : decide (65535 < full) = false := by simp; omega
      obtain ⟨m0, m1⟩ := mean_in (unhideR HKf) hn
      generalize hM : sumV f.L / (someN f.L : Int) = M at *
      have HM := hideR hM
      clear hM hbad HC hn
      have hem := empty_any p.wide p.high ap p.L.length cp w2 (by omega)
      obtain ⟨p0, p1, p2⟩ := pic_three (unhideR HG2)
      obtain ⟨i0, hi0, hz0, hz1, hz2⟩ := info_parts infoI
      go_wp2_with fail
      refine hem.mono ?_
      rintro e w3 ⟨g, rfl, ho, k3⟩
      have HO := hideR ho
      have HK3 := hideR k3
      clear hem ho k3 p0 p1 p2
      obtain ⟨q0, q1, q2⟩ := pic_three (keepB (unhideR HG3) (unhideR HK3))
      obtain ⟨o0, o1, o2⟩ := pic_open (keepB (unhideR HG3) (unhideR HK3))
      have hg2 := three_set (y0 := .int .i64 p.wide) (y1 := .int .i64 p.high) (y2 := .slice (some ⟨g, 0, none⟩) p.L.length p.L.length) (keepB (unhideR HG3) (unhideR HK3))
      have lo3 := ltB (unhideR HG3)
      have HA : HeldR (ClAt a p d f ap ad af cp cd cf full M w w2.heap.size w3.heap.size g 0 (.slice none 0 0) (((w3.setCell ⟨w.heap.size + 1 + 1, 0, none⟩ (.int .i64 p.wide)).setCell ⟨w.heap.size + 1 + 1, 1, none⟩ (.int .i64 p.high)).setCell ⟨w.heap.size + 1 + 1, 2, none⟩ (.slice (some ⟨g, 0, none⟩) p.L.length p.L.length))) := by
        have hgB : w2.heap.size ≤ g ∧ g < w3.heap.size := by
          rcases (unhideR HO).2 with ⟨h1, _⟩ | ⟨g', _, _, h1, h2, h3, _⟩
          · cases h1
          · injection h1 with h1
            injection h1 with h1
            injection h1 with h1
            subst h1
            exact ⟨h2, (Array.getElem?_eq_some_iff.1 h3).1⟩
        have ne : ∀ (u : World) (b i : Nat) (x : Value), b ≠ w.heap.size + 1 + 1 → (u.setCell ⟨w.heap.size + 1 + 1, i, none⟩ x).heap[b]? = u.heap[b]? := fun u b i x hb => heap_setCell_other u ⟨w.heap.size + 1 + 1, i, none⟩ b x (by simpa using hb)
        refine hideR ⟨three_below (below_go (unhideR HB) (unhideR HK3)) (by omega), ?_, ?_, hg2, three_own (by have q := unhideR HO; unfold OwnZ at q; simpa [cleanK] using q) lo3, ?_, lo3, hgB.1, hgB.2, by simp [World.setCell]⟩
        · rw [ne _ _ _ _ (by omega), ne _ _ _ _ (by omega), ne _ _ _ _ (by omega)]
          exact keepB (unhideR HG1) (unhideR HK3)
        · rw [ne _ _ _ _ (by omega), ne _ _ _ _ (by omega), ne _ _ _ _ (by omega)]
          exact keepB (unhideR HG2) (unhideR HK3)
        · exact World.ownsRow_nil _ _ _ _
      clear hg2 HO HB HG1 HG2 HG3 HS HP HD HFl HK3 s6
      obtain ⟨p0, p1, p2⟩ := pic_three (unhideR HA).g2
      go_wp2
      generalize ((w3.setCell ⟨w.heap.size + 1 + 1, 0, none⟩ (.int .i64 p.wide)).setCell ⟨w.heap.size + 1 + 1, 1, none⟩ (.int .i64 p.high)).setCell ⟨w.heap.size + 1 + 1, 2, none⟩ (.slice (some ⟨g, 0, none⟩) p.L.length p.L.length) = u3 at *
      clear q0 q1 q2 o0 o1 o2 lo3
      go_loopw [5, 49] (fun fv kv wl => ∃ k : Nat, k ≤ p.L.length ∧ kv = .int .i64 (k : Nat) ∧ HeldR (ClAt a p d f ap ad af cp cd cf full M w w2.heap.size w3.heap.size g k fv wl)) (fun _ kv _ => p.L.length + 1 - (intOf kv).toNat)
      case atStart => exact ⟨0, by omega, rfl, HA⟩
      case round =>
        clear HA p0 p1 p2
        obtain ⟨k, hk, rfl, HA⟩ := hrel
        by_cases hlt : k < p.L.length
        · obtain ⟨bp, op, rfl, lbp, x1⟩ := ((unhideR HPw).below (unhideR HA).bel).at_ k hlt
          have HL := unhideR HI
          obtain ⟨bd, od, rfl, lbd, y1⟩ := ((unhideR HDw).below (unhideR HA).bel).at_ k (by omega)
          obtain ⟨bf, of_, rfl, lbf, z1⟩ := ((unhideR HFw).below (unhideR HA).bel).at_ k (by omega)
          obtain ⟨ln1, ln2⟩ := HL
          have kd2 : k < d.L.length := by omega
          have kf2 : k < f.L.length := by omega
          obtain ⟨hx0, hx1⟩ := (unhideR HKp).each k hlt
          obtain ⟨hy0, hy1⟩ := (unhideR HKd).each k (by omega)
          obtain ⟨hz0', hz1'⟩ := (unhideR HKf).each k (by omega)
          clear ln1 ln2
          have HLi : HeldR (evV (if 0 < p.L.getD k 0 - d.L.getD k 0 then p.L.getD k 0 - d.L.getD k 0 else 0) M (f.L.getD k 0) = lightV M (p.L.getD k 0) (d.L.getD k 0) (f.L.getD k 0)) := hideR (ev_light hz0')
          have HHalf := fun u (h : ClAt a p d f (some ⟨bp, op, none⟩) (some ⟨bd, od, none⟩) (some ⟨bf, of_, none⟩) cp cd cf full M w w2.heap.size w3.heap.size g k u5 u) => h.half hlt
          have HSm := fun u (h : ClHalf a p d f (some ⟨bp, op, none⟩) (some ⟨bd, od, none⟩) (some ⟨bf, of_, none⟩) cp cd cf full M w w2.heap.size w3.heap.size g k u5 u) => h.small
          have HBg := fun o fv' u v (h : ClHalf a p d f (some ⟨bp, op, none⟩) (some ⟨bd, od, none⟩) (some ⟨bf, of_, none⟩) cp cd cf full M w w2.heap.size w3.heap.size g k u5 u) => h.big (fv' := fv') (v := v) o
          generalize p.L.getD k 0 = x at *
          generalize d.L.getD k 0 = y at *
          generalize f.L.getD k 0 = z at *
          have HH := hideR HHalf
          have HS2 := hideR HSm
          have HB2 := hideR HBg
          clear HHalf HSm HBg
          have hw1 : IntKind.i64.wrap (x - y) = x - y := wrap_fit (by omega) (by omega)
          obtain ⟨D0, hD⟩ : ∃ D0, (if 0 < x - y then x - y else 0) = D0 := ⟨_, rfl⟩
          have hmx : (if x - y < 0 then (0 : Int) else x - y) = D0 := by rw [← hD]; split <;> split <;> omega
          have hD0 : 0 ≤ D0 ∧ D0 ≤ 65535 := by rw [← hD]; split <;> omega
          rw [hD] at HLi
          have hev := fun v => evened_any (l := D0) (m := M) (f := z) v hD0 ⟨m0, m1⟩ ⟨hz0', hz1'⟩
          rw [unhideR HLi] at hev
          clear hD hD0 HLi
          generalize lightV M x y z = R at *
          go_wp2_with fail
          refine wp_region_made 0 #[true, true, true, true, true, true, true, true, true, true, true, true, true, true, true, true, true, true, true, true, true, false] [.lets (· = .pointer (some ⟨w.heap.size + 1 + 1, 2, none⟩)),
            .lets (· = .slice (some ⟨g, 0, none⟩) p.L.length p.L.length),
            .lets (· = .int .i64 (k : Nat)),
            .lets (· = .int .i64 x),
            .lets (· = .pointer (some ⟨w.heap.size, 0, none⟩)),
            .lets (· = .pointer (some ⟨w.heap.size, 2, none⟩)),
            .lets (· = .slice (some ⟨bd, od, none⟩) d.L.length cd),
            .lets (· = .int .i64 (k : Nat)),
            .lets (· = .pointer (some ⟨bd, od + k, none⟩)),
            .lets (· = .int .i64 y),
            .lets (· = .int .i64 (x - y)),
            .lets (· = .int .i64 D0),
            .lets (· = .int .i64 M),
            .lets (· = .pointer (some ⟨w.heap.size, 3, none⟩)),
            .lets (· = .pointer (some ⟨w.heap.size, 5, none⟩)),
            .lets (· = .slice (some ⟨bf, of_, none⟩) f.L.length cf),
            .lets (· = .int .i64 (k : Nat)),
            .lets (· = .pointer (some ⟨bf, of_ + k, none⟩)),
            .lets (· = .int .i64 z),
            .lets (· = .int .i64 R),
            .lets (· = .pointer (some ⟨g, k, none⟩))] [] [] (by kernel_rfl) (by kernel_rfl) rfl ?kinds (by kernel_rfl) (by kernel_rfl) (by kernel_rfl) ?_
          case kinds =>
            constructor
            · intro i h
              rcases i with _ | _ | _ | _ | _ | _ | _ | _ | _ | _ | _ | _ | _ | _ | _ | _ | _ | _ | _ | _ | _ | i <;> simp [Kx.isMade] at h
            · intro i h
              rcases i with _ | _ | _ | _ | _ | _ | _ | _ | _ | _ | _ | _ | _ | _ | _ | _ | _ | _ | _ | _ | _ | i <;> simp [Kx.isUse] at h
          refine lexX_step (fun K hK => ⟨by kernel_rfl, ⟨_, rfl⟩, fun v hv => ?_, fun v hv => ?_⟩)
          · go_simp
            exact mUpon_b
          subst hv
          go_simp
          refine hK _ ?_
          clear hK K
          refine lexX_step (fun K hK => ⟨by kernel_rfl, ⟨_, rfl⟩, fun v hv => ?_, fun v hv => ?_⟩)
          · have c := (cell_in (((unhideR HA).go hv).g3) 2 (by simp)).1
            go_simp
            exact mUpon_b
          subst hv
          go_simp
          refine hK _ ?_
          clear hK K
          refine lexX_step (fun K hK => ⟨by kernel_rfl, ⟨_, rfl⟩, fun v hv => ?_, fun v hv => ?_⟩)
          · go_simp
            exact mUpon_b
          subst hv
          go_simp
          refine hK _ ?_
          clear hK K
          refine lexX_step (fun K hK => ⟨by kernel_rfl, ⟨_, rfl⟩, fun v hv => ?_, fun v hv => ?_⟩)
          · go_simp
            exact mUpon_b
          subst hv
          go_simp
          refine hK _ ?_
          clear hK K
          refine lexX_step (fun K hK => ⟨by kernel_rfl, ⟨_, rfl⟩, fun v hv => ?_, fun v hv => ?_⟩)
          · go_simp
            exact mUpon_b
          subst hv
          go_simp
          refine hK _ ?_
          clear hK K
          refine lexX_step (fun K hK => ⟨by kernel_rfl, ⟨_, rfl⟩, fun v hv => ?_, fun v hv => ?_⟩)
          · go_simp
            exact mUpon_b
          subst hv
          go_simp
          refine hK _ ?_
          clear hK K
          refine lexX_step (fun K hK => ⟨by kernel_rfl, ⟨_, rfl⟩, fun v hv => ?_, fun v hv => ?_⟩)
          · have c := (cell_in (((unhideR HA).go hv).g1) 2 (by simp)).1
            go_simp
            exact mUpon_b
          subst hv
          go_simp
          refine hK _ ?_
          clear hK K
          refine lexX_step (fun K hK => ⟨by kernel_rfl, ⟨_, rfl⟩, fun v hv => ?_, fun v hv => ?_⟩)
          · go_simp
            exact mUpon_b
          subst hv
          go_simp
          refine hK _ ?_
          clear hK K
          refine lexX_step (fun K hK => ⟨by kernel_rfl, ⟨_, rfl⟩, fun v hv => ?_, fun v hv => ?_⟩)
          · go_simp
            exact mUpon_b
          subst hv
          go_simp
          refine hK _ ?_
          clear hK K
          refine lexX_step (fun K hK => ⟨by kernel_rfl, ⟨_, rfl⟩, fun v hv => ?_, fun v hv => ?_⟩)
          · have c : v.cell? ⟨bd, od + k, none⟩ = some (.int .i64 y) := (hv.cell (p := ⟨bd, od + k, none⟩) lbd).trans y1
            go_simp
            exact mUpon_b
          subst hv
          go_simp
          refine hK _ ?_
          clear hK K
          refine lexX_step (fun K hK => ⟨by kernel_rfl, ⟨_, rfl⟩, fun v hv => ?_, fun v hv => ?_⟩)
          · go_simp
            exact mUpon_b
          subst hv
          go_simp
          refine hK _ ?_
          clear hK K
          refine lexX_step (fun K hK => ⟨by kernel_rfl, ⟨_, rfl⟩, fun v hv => ?_, fun v hv => ?_⟩)
          · go_simp
            exact mUpon_b
          subst hv
          go_simp
          refine hK _ ?_
          clear hK K
          refine lexX_step (fun K hK => ⟨by kernel_rfl, ⟨_, rfl⟩, fun v hv => ?_, fun v hv => ?_⟩)
          · go_simp
            exact mUpon_b
          subst hv
          go_simp
          refine hK _ ?_
          clear hK K
          refine lexX_step (fun K hK => ⟨by kernel_rfl, ⟨_, rfl⟩, fun v hv => ?_, fun v hv => ?_⟩)
          · go_simp
            exact mUpon_b
          subst hv
          go_simp
          refine hK _ ?_
          clear hK K
          refine lexX_step (fun K hK => ⟨by kernel_rfl, ⟨_, rfl⟩, fun v hv => ?_, fun v hv => ?_⟩)
          · go_simp
            exact mUpon_b
          subst hv
          go_simp
          refine hK _ ?_
          clear hK K
          refine lexX_step (fun K hK => ⟨by kernel_rfl, ⟨_, rfl⟩, fun v hv => ?_, fun v hv => ?_⟩)
          · have c := (cell_in (((unhideR HA).go hv).g1) 5 (by simp)).1
            go_simp
            exact mUpon_b
          subst hv
          go_simp
          refine hK _ ?_
          clear hK K
          refine lexX_step (fun K hK => ⟨by kernel_rfl, ⟨_, rfl⟩, fun v hv => ?_, fun v hv => ?_⟩)
          · go_simp
            exact mUpon_b
          subst hv
          go_simp
          refine hK _ ?_
          clear hK K
          refine lexX_step (fun K hK => ⟨by kernel_rfl, ⟨_, rfl⟩, fun v hv => ?_, fun v hv => ?_⟩)
          · go_simp
            exact mUpon_b
          subst hv
          go_simp
          refine hK _ ?_
          clear hK K
          refine lexX_step (fun K hK => ⟨by kernel_rfl, ⟨_, rfl⟩, fun v hv => ?_, fun v hv => ?_⟩)
          · have c : v.cell? ⟨bf, of_ + k, none⟩ = some (.int .i64 z) := (hv.cell (p := ⟨bf, of_ + k, none⟩) lbf).trans z1
            go_simp
            exact mUpon_b
          subst hv
          go_simp
          refine hK _ ?_
          clear hK K
          refine lexX_step (fun K hK => ⟨by kernel_rfl, ⟨_, rfl⟩, fun v hv => ?_, fun v hv => ?_⟩)
          · go_simp
            refine (hev _).mono ?_
            rintro e w9 ⟨rfl, rfl⟩
            exact ⟨_, rfl, rfl, Below.refl _ _⟩
          subst hv
          go_simp
          refine hK _ ?_
          clear hK K
          refine lexX_step (fun K hK => ⟨by kernel_rfl, ⟨_, rfl⟩, fun v hv => ?_, fun v hv => ?_⟩)
          · go_simp
            exact mUpon_b
          subst hv
          go_simp
          refine hK _ ?_
          clear hK K
          refine lexX_end (fun v5 hv => ?_)
          have HA5 := hideR ((unhideR HA).go hv.low)
          have q1 : ∃ x0, v5.cell? ⟨g, k, none⟩ = some x0 := by
            refine ⟨_, (((unhideR HA5).row).cellAt k (by omega)).trans (List.getElem?_eq_getElem ?_)⟩
            rw [((unhideR HA5).row).1]
            omega
          obtain ⟨x0, q1⟩ := q1
          have q2 : v5.frozen? ⟨g, k, none⟩ = false := ((unhideR HA5).row).frozenAt k
          have HF5 := hideR (unhideR HH _ (unhideR HA5))
          clear hv hev HH x1 y1 z1 HA
          refine wpAny_step (i := 21) (by kernel_rfl) rfl (by kernel_rfl) (fun K hK => ?_)
          unfold Oper.wp
          go_simp
          refine hK _ _ ?_
          clear hK K
          refine wpAny_end (by kernel_rfl) ?_
          clear q1 q2 HA5
          generalize v5.setCell ⟨g, k, none⟩ (.int .i64 R) = u5' at *
          have c6 := (cell_in (unhideR HF5).g1 6 (by simp)).1
          by_cases hful : full ≤ x
          · have lsz := (unhideR HF5).sz
            have hfl := fullK_length p full k
            have HOf := hideR (unhideR HF5).full_
            have HB3 := hideR (fun fv' v ho hgr => unhideR HB2 (.cells #[.int .i64 (k : Int)] 3) fv' u5' v (unhideR HF5) hful ho hgr)
            generalize hY : fullK p full k = Y at HOf HB3 hfl
            clear HB2 HS2 hY
            go_wp2_with (first
              | (at_builtin; refine wpList_append_own _ rfl _ _ 25 rfl w3.heap.size 3 i0 (.int .i64 0) 1 8 Tryd.underlying25 hi0 hz0 hz1 hz2 rfl (by decide) _ (Y).length ((Y).map (Value.int .i64)) rfl (own_below2 (unhideR HOf) (below_a _ _)) ⟨u5'.heap.size, 0, none⟩ 1 1 [.int .i64 (k : Int)] rfl rfl ?c1 ?c2 ?c3 ?c4 ?c5 ?_))
            case c1 => exact one_int u5' (k : Int)
            case c2 =>
              intro u hu
              rw [List.mem_singleton.1 hu]
              rfl
            case c3 => unfold maxLen; omega
            case c4 => omega
            case c5 => simp; omega
            intro v6 w6 hown2 hgrow2 _
            have HA6 := hideR (unhideR HB3 _ _ hown2 hgrow2)
            clear hown2 hgrow2 HB3 HOf HF5 c6
            go_wp2
            exact ⟨⟨k + 1, by omega, by go_num, HA6⟩, by simp [intOf]; omega⟩
          · have HA6 := hideR (unhideR HS2 _ (unhideR HF5) (by omega))
            clear HB2 HS2 HF5
            go_wp2
            exact ⟨⟨k + 1, by omega, by go_num, HA6⟩, by simp [intOf]; omega⟩
        · obtain rfl : k = p.L.length := by omega
          obtain ⟨q0, q1, q2⟩ := pic_three (unhideR HA).g3
          obtain ⟨o0, o1, o2⟩ := pic_open (unhideR HA).g3
          have HE2 := hideR (clean_good (unhideR HM) (unhideR HC0) (unhideR HA))
          have h3 := three_set (y0 := .int .i64 p.wide) (y1 := .int .i64 p.high) (y2 := .slice (some ⟨g, 0, none⟩) p.L.length p.L.length) (unhideR HA).g3
          go_wp2_with fail
          generalize ((wr.setCell ⟨w.heap.size + 1 + 1, 0, none⟩ (.int .i64 p.wide)).setCell ⟨w.heap.size + 1 + 1, 1, none⟩ (.int .i64 p.high)).setCell ⟨w.heap.size + 1 + 1, 2, none⟩ (.slice (some ⟨g, 0, none⟩) p.L.length p.L.length) = uf at *
          obtain ⟨r0, r1, r2⟩ := pic_three h3
          simp [bodyPost, results, Tryd.results6, go_sem, r0, r1, r2]
          exact unhideR HE2
end Go.Proofs.YtncbmkflilcdgaiDoor
