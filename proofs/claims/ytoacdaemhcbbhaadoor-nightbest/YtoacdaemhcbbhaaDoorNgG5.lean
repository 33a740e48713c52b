/-
  Of each set of jobs the row that ends first: the program's soonest, by contract.
-/
import Derived.Test.YtoacdaemhcbbhaaDoorNgG3
import Derived.Test.YtoacdaemhcbbhaaDoorNgG4
namespace Go.Proofs.YtoacdaemhcbbhaaDoor
open Go Go.RowKit

def SoPost (l : List Jb) (w : World) (e : Ending) (w' : World) : Prop := (∃ g, e = .returned (.slice (some ⟨g, 0, none⟩) (2 ^ l.length) (2 ^ l.length)) ∧ RwR w' g (2 ^ l.length) (rowV (jo l) tMin) ∧ w.heap.size ≤ g) ∧ Below w.heap.size w w'
set_option maxRecDepth 1000000 in
set_option maxHeartbeats 12800000 in
theorem psoon_any {w : World} {ad : Option Addr} {cap : Nat} {l : List Jb} (hl : JbCame w ad l) (hn : l.length ≤ 6) (hk : ∀ k, k < l.length → (l.getD k jb0).Ok) :
    Calls Tryd.prog 25 #[.slice ad l.length cap] w (SoPost l w) := by
  have HL : HeldR (∀ u, Below w.heap.size w u → JbCame u ad l) := hideR (fun u q => hl.below q)
  have HOk := hideR hk
  have HJ := hideR (jo_ok hn hk)
  have HW : HeldR (∀ q, q < 2 ^ l.length → 0 ≤ (rowV (jo l) tMin q).wo ∧ (rowV (jo l) tMin q).wo ≤ 6597069766656) := hideR (fun q hq => row_wo_bd hn hk hq)
  have HJn : HeldR ((jo l).n = l.length) := hideR rfl
  have HJi : HeldR (∀ i, (jo l).lo i = (l.getD i jb0).lo ∧ (jo l).wo i = (l.getD i jb0).wo ∧ ∀ t, (jo l).so i t = bgV (l.getD i jb0).lo t (leL (l.getD i jb0).lo (l.getD i jb0).ws)) := hideR (fun i => ⟨rfl, rfl, fun t => (bg_so t).symm⟩)
  obtain ⟨w1, hmk, hwn, hb1⟩ := make_wins (w := w) (n := l.length) (by omega) l
  have HP : HeldR (∀ g w', RwR w' g (2 ^ l.length) (rowV (jo l) tMin) → w.heap.size ≤ g → Below w.heap.size w w' → SoPost l w (.returned (.slice (some ⟨g, 0, none⟩) (2 ^ l.length) (2 ^ l.length))) w') := hideR (fun g w' h1 h2 h3 => ⟨⟨g, rfl, h1, h2⟩, h3⟩)
  have hNN : 2 ^ l.length ≤ 64 := pow_six hn
  have hNp : 0 < 2 ^ l.length := Nat.two_pow_pos _
  generalize SoPost l w = POST at *
  generalize jo l = J at *
  obtain ⟨N, hN⟩ : ∃ N, 2 ^ l.length = N := ⟨_, rfl⟩
  obtain ⟨n, hn0⟩ : ∃ n, l.length = n := ⟨_, rfl⟩
  have Hn := hideR hn0
  have HN := hideR hN
  rw [hN] at HW HP hNN hNp
  rw [hn0] at hn hmk hwn HJn HN ⊢
  have HWn := hideR hwn
  have HB1 := hideR hb1
  clear hl hk hwn hb1 hN hn0
  go_enter Tryd.func25, Tryd.ntmps25
  go_wp2_with fail
  clear hmk
  generalize hg0 : w.heap.size = g0 at *
  go_loopw [18] (fun iv wl => ∃ i : Nat, i ≤ n ∧ iv = .int .i64 (i : Nat) ∧ HeldR (WnR wl g0 g0 n l i) ∧ HeldR (Below g0 w wl)) (fun iv _ => n + 1 - (intOf iv).toNat)
  case atStart => exact ⟨0, by omega, rfl, HWn, HB1⟩
  case round =>
    clear HWn HB1
    obtain ⟨i, hi, rfl, HWi, HB⟩ := hrel
    by_cases q : i < n
    case pos =>
      have ti : decide ((i : Int) < (n : Int)) = true := decide_eq_true (by omega)
      have tin : decide (i < n) = true := decide_eq_true q
      have wi : IntKind.i64.wrap ((i : Int) + 1) = (i : Int) + 1 := iwrap (by omega) (by omega)
      have hii : (i : Int) < (n : Int) := by omega
      obtain ⟨bb, off, had, hbb, hJb⟩ := (unhideR HL wr (unhideR HB)).at_ i (by rw [unhideR Hn]; exact q)
      subst had
      obtain ⟨a2, c2, hj1, hs2⟩ := hJb.c1
      have hj0 := hJb.c0
      have hj2 := hJb.c2
      have hj3 := hJb.c3
      have hok := unhideR HOk i (by rw [unhideR Hn]; exact q)
      have HPut : HeldR (∀ (u : World) (ad' : Option Addr) (cap' : Nat), WnR u g0 g0 n l i → SpCame u ad' (leL (l.getD i jb0).lo (l.getD i jb0).ws) → (∀ a0, ad' = some a0 → a0.block ≠ g0 ∧ a0.block < u.heap.size) → WnR (u.setCell ⟨g0, i, none⟩ (.slice ad' (leL (l.getD i jb0).lo (l.getD i jb0).ws).length cap')) g0 g0 n l (i + 1)) := hideR (fun u ad' cap' h1 h2 h3 => h1.put q h2 h3)
      generalize l.getD i jb0 = j at *
      have hba := below_a wr (.cells #[.string j.nm, .slice a2 j.ws.length c2, .int .i64 j.lo, .int .i64 j.wo] 72)
      have z := alloc_last wr (.cells #[.string j.nm, .slice a2 j.ws.length c2, .int .i64 j.lo, .int .i64 j.wo] 72)
      have hlo := plong_any (c2 := c2) (hs2.below hba) hok
      unfold jbV at hlo
      have x0 := (cells_at z 0 (by simp)).1
      have x1 := (cells_at z 1 (by simp)).1
      have x2 := (cells_at z 2 (by simp)).1
      have x3 := (cells_at z 3 (by simp)).1
      have HB2 := hideR ((unhideR HB).trans (hba.mono (by have := (unhideR HB).size; omega)))
      have HW2 := hideR ((unhideR HWi).below hba)
      have hg0s : g0 < wr.heap.size := (unhideR HWi).lt
      clear hJb hs2 hba z HWi HB hok
      go_wp2_with fail
      refine hlo.mono ?_
      rintro e u2 ⟨⟨v2, rfl, hrow⟩, k2⟩
      obtain ⟨ap, cp, ep, hsc⟩ := Spown hrow
      subst ep
      have hne : ∀ a0, ap = some a0 → a0.block ≠ g0 ∧ a0.block < u2.heap.size := fun a0 ha => by
        rw [ha] at hrow
        have := hrow.lt a0.block rfl
        rw [World.size_alloc] at this
        omega
      have hw2 := (unhideR HW2).below k2
      have hfz := hw2.fz i
      obtain ⟨ov, hov⟩ := Option.isSome_iff_exists.1 (hw2.any i q)
      have HW3 := hideR (unhideR HPut u2 ap cp hw2 hsc hne)
      have hB3 := (unhideR HB2).trans (k2.mono (by have := (unhideR HB2).size; omega))
      have HB3 := hideR (hB3.setCell (p := ⟨g0, i, none⟩) (Nat.le_refl _) (.slice ap (leL j.lo j.ws).length cp))
      have hst := run_store Tryd.prog u2 ⟨g0, i, none⟩ (.slice ap (leL j.lo j.ws).length cp) .plain rfl
      clear hlo hrow k2 hsc hne hw2 HW2 HB2 hB3 HPut x0 x1 x2 x3 hj0 hj1 hj2 hj3
      generalize (leL j.lo j.ws).length = ll at *
      go_wp2
      exact ⟨⟨i + 1, by omega, by go_num, HW3, HB3⟩, by simp [intOf]; omega⟩
    obtain rfl : i = n := by omega
    have ti : decide ((i : Int) < (i : Int)) = false := decide_eq_false (by omega)
    have tin : decide (i < i) = false := decide_eq_false (by omega)
    have hsh : (2 : Int) ^ i = (N : Int) := by
      have := unhideR HN
      rw [← this]
      simp
    have hsh2 : wrap64 ((2 : Int) ^ i) = (N : Int) := by rw [hsh]; unfold wrap64; omega
    have hsh3 : IntKind.i64.wrap ((2 : Int) ^ i) = (N : Int) := by rw [hsh]; exact iwrap (by omega) (by omega)
    have hi64 : (i : Int) < 64 := by omega
    obtain ⟨w2, hmk2, hrw, hb2⟩ := make_rows (w := wr) (n := N) (by omega)
    have HRw := hideR (hrw.put hNp ⟨true, 0, 0, tMin, 0⟩)
    have HWn2 := hideR (((unhideR HWi).later (Nat.le_refl _)).below hb2)
    have HB2 := hideR ((unhideR HB).trans (hb2.mono (by have := (unhideR HB).size; omega)))
    have hgs : g0 ≤ wr.heap.size := by have := (unhideR HB).size; omega
    have hgl : g0 < wr.heap.size := (unhideR HWi).lt
    clear HWi HB hb2
    have r0 : w2.cell? ⟨wr.heap.size, 0, none⟩ = some (.bool false) := by have := hrw.cell 0 hNp 0 (by decide); rw [Nat.zero_mul, Nat.zero_add] at this; exact this
    have z0 := hrw.fz 0
    have r1 : w2.cell? ⟨wr.heap.size, 1, none⟩ = some (.int .i64 ((0 : Nat) : Int)) := by have := hrw.cell 0 hNp 1 (by decide); rw [Nat.zero_mul, Nat.zero_add] at this; exact this
    have z1 := hrw.fz 1
    have r2 : w2.cell? ⟨wr.heap.size, 2, none⟩ = some (.int .i64 0) := by have := hrw.cell 0 hNp 2 (by decide); rw [Nat.zero_mul, Nat.zero_add] at this; exact this
    have z2 := hrw.fz 2
    have r3 : w2.cell? ⟨wr.heap.size, 3, none⟩ = some (.int .i64 0) := by have := hrw.cell 0 hNp 3 (by decide); rw [Nat.zero_mul, Nat.zero_add] at this; exact this
    have z3 := hrw.fz 3
    have r4 : w2.cell? ⟨wr.heap.size, 4, none⟩ = some (.int .i64 0) := by have := hrw.cell 0 hNp 4 (by decide); rw [Nat.zero_mul, Nat.zero_add] at this; exact this
    have z4 := hrw.fz 4
    rw [Nat.zero_mul] at HRw
    clear hrw
    go_upto_region 8 with fail
    generalize wr.heap.size = g1 at *
    clear hmk2 hsh hsh2 hsh3
    go_wp2_with fail
    clear r0 r1 r2 r3 r4 z0 z1 z2 z3 z4
    have HB3 : HeldR (Below g0 w (w2.setCells g1 0 (valRw ⟨true, 0, 0, tMin, 0⟩))) := hideR (below_setCellsG hgs _ _ _ (unhideR HB2))
    have HWn3 : HeldR (WnR (w2.setCells g1 0 (valRw ⟨true, 0, 0, tMin, 0⟩)) g0 g1 i l i) := hideR (WnR.wrote (unhideR HWn2) (by omega) _ _)
    have HR3 : HeldR (RwR (w2.setCells g1 0 (valRw ⟨true, 0, 0, tMin, 0⟩)) g1 N (rowsAt J tMin 1 0)) := hideR ((unhideR HRw).congr (fun q hq => by
      unfold updR rowsAt
      by_cases e : q = 0
      · subst e
        rw [if_pos rfl, if_pos (by decide)]
        rfl
      · rw [if_neg e, if_neg (by omega)]
        split <;> rfl))
    change Code.wp _ _ _ _ (w2.setCells g1 0 (valRw ⟨true, 0, 0, tMin, 0⟩))
    generalize w2.setCells g1 0 (valRw ⟨true, 0, 0, tMin, 0⟩) = u3 at *
    clear HRw HWn2 HB2
    go_loopw [7] (fun sv wl => ∃ s : Nat, 1 ≤ s ∧ s ≤ N ∧ sv = .int .i64 (s : Nat) ∧ HeldR (RwR wl g1 N (rowsAt J tMin s 0)) ∧ HeldR (WnR wl g0 g1 i l i) ∧ HeldR (Below g0 w wl)) (fun sv _ => N + 1 - (intOf sv).toNat)
    case atStart => exact ⟨1, by omega, by omega, rfl, HR3, HWn3, HB3⟩
    case round =>
      clear HR3 HWn3 HB3
      obtain ⟨s, hs1, hsN, rfl, HR, HWi, HB⟩ := hrel
      by_cases qs : s < N
      case neg =>
        obtain rfl : s = N := by omega
        have ts : decide ((s : Int) < (s : Int)) = false := decide_eq_false (by omega)
        have tsn : decide (s < s) = false := decide_eq_false (by omega)
        have HQ := hideR (unhideR HP g1 wr ((unhideR HR).congr (fun q hq => by unfold rowsAt; rw [if_pos hq])) hgs (unhideR HB))
        clear HR HWi HB HP HL HOk HJ HW HJi
        go_wp2
        exact unhideR HQ
      have ts : decide ((s : Int) < (N : Int)) = true := decide_eq_true (by omega)
      have tsn : decide (s < N) = true := decide_eq_true qs
      have wsi : IntKind.i64.wrap ((s : Int) + 1) = (s : Int) + 1 := iwrap (by omega) (by omega)
      go_wp2_with fail
      go_loopw [44] (fun kv wl => ∃ k : Nat, k ≤ i ∧ kv = .int .i64 (k : Nat) ∧ HeldR (RwR wl g1 N (rowsAt J tMin s k)) ∧ HeldR (WnR wl g0 g1 i l i) ∧ HeldR (Below g0 w wl)) (fun kv _ => i + 1 - (intOf kv).toNat)
      case atStart => exact ⟨0, by omega, rfl, HR, HWi, HB⟩
      case round =>
        clear HR HWi HB
        obtain ⟨k, hk, rfl, HR, HWi, HB⟩ := hrel
        by_cases qk : k < i
        case neg =>
          obtain rfl : k = i := by omega
          have tk : decide ((k : Int) < (k : Int)) = false := decide_eq_false (by omega)
          have tkn : decide (k < k) = false := decide_eq_false (by omega)
          have HR2 : HeldR (RwR wr g1 N (rowsAt J tMin (s + 1) 0)) := hideR ((unhideR HR).congr (fun q _ => by have := rowsAt_next (J := J) (T := tMin) (s := s) (by omega) q; rw [unhideR HJn] at this; exact this))
          clear HR
          go_wp2
          exact ⟨⟨s + 1, by omega, by omega, by go_num, HR2, HWi, HB⟩, by simp [intOf]; omega⟩
        have tk : decide ((k : Int) < (i : Int)) = true := decide_eq_true (by omega)
        have tkn : decide (k < i) = true := decide_eq_true qk
        have wk : IntKind.i64.wrap ((k : Int) + 1) = (k : Int) + 1 := iwrap (by omega) (by omega)
        have hki : (k : Int) < (i : Int) := by omega
        obtain ⟨bb, off, had, hbb, hJb⟩ := (unhideR HL wr (unhideR HB)).at_ k (by rw [unhideR Hn]; exact qk)
        subst had
        obtain ⟨a2, c2, hj1, hs2⟩ := hJb.c1
        have hj0 := hJb.c0
        have hj2 := hJb.c2
        have hj3 := hJb.c3
        have hok := unhideR HOk k (by rw [unhideR Hn]; exact qk)
        have hws := le_ok hok
        have hso := fun t at_ (h : soF (l.getD k jb0).lo t (l.getD k jb0).ws = some at_) => so_bd hok h
        have hbgs := fun t => bg_so (j := l.getD k jb0) t
        obtain ⟨jl, jw, js⟩ := unhideR HJi k
        obtain ⟨aw, cw, hwc, hwS, _⟩ := (unhideR HWi).has k qk
        have HWc : HeldR (∀ u, Below wr.heap.size wr u → u.cell? ⟨g0, k, none⟩ = some (.slice aw (leL (l.getD k jb0).lo (l.getD k jb0).ws).length cw) ∧ SpCame u aw (leL (l.getD k jb0).lo (l.getD k jb0).ws)) := hideR (fun u hu => ⟨(hu.cell (p := ⟨g0, k, none⟩) (unhideR HWi).lt).trans hwc, hwS.below hu⟩)
        have HStep : HeldR (∀ r, stepR J (rowV J tMin) s k (rowK J (rowV J tMin) s k) = r → ∀ u, RwR u g1 N (rowsAt J tMin s k) → RwR (u.setCells g1 (s * 5) (valRw r)) g1 N (rowsAt J tMin s (k + 1))) := hideR (fun r hr u hu => (hu.put qs r).congr (fun q _ => rowsAt_step r hr q))
        have HSame : HeldR (stepR J (rowV J tMin) s k (rowK J (rowV J tMin) s k) = rowK J (rowV J tMin) s k → ∀ u, RwR u g1 N (rowsAt J tMin s k) → RwR u g1 N (rowsAt J tMin s (k + 1))) := hideR (fun hr u hu => hu.congr (fun q _ => rowsAt_same hr q))
        have HSt : HeldR (stepR J (rowV J tMin) s k (rowK J (rowV J tMin) s k) = if s.testBit k && (rowV J tMin (s - 2 ^ k)).can then match J.so k (rowV J tMin (s - 2 ^ k)).to_ with
          | none => rowK J (rowV J tMin) s k
          | some at_ => if !(rowK J (rowV J tMin) s k).can || decide (at_ + J.lo k < (rowK J (rowV J tMin) s k).to_) then ⟨true, k, at_, at_ + J.lo k, (rowV J tMin (s - 2 ^ k)).wo + J.wo k⟩ else rowK J (rowV J tMin) s k
          else rowK J (rowV J tMin) s k) := hideR rfl
        rw [jl, jw, js] at HSt
        have Hbg := hideR hbgs
        have Hso := hideR hso
        clear hbgs hso jl jw js hwc hwS
        generalize l.getD k jb0 = j at *
        have hokl1 := hok.l1
        have hokl2 := hok.l2
        have hokw1 := hok.w1
        have hokw2 := hok.w2
        have hwo := fun u => pwo_any s k (by omega) (by omega) u
        have hba := below_a wr (.cells #[.string j.nm, .slice a2 j.ws.length c2, .int .i64 j.lo, .int .i64 j.wo] 72)
        have z := alloc_last wr (.cells #[.string j.nm, .slice a2 j.ws.length c2, .int .i64 j.lo, .int .i64 j.wo] 72)
        have HB2 := hideR ((unhideR HB).trans (hba.mono (by have := (unhideR HB).size; omega)))
        have HW2 := hideR ((unhideR HWi).below hba)
        have HR2 := hideR ((unhideR HR).below hba)
        have Hba := hideR hba
        have HZ := hideR z
        -- the row ahead
        obtain ⟨qn, hqn⟩ : ∃ qn, (if s.testBit k then s - 2 ^ k else s) = qn := ⟨_, rfl⟩
        have hqN : qn < N := by rw [← hqn]; split; exact Nat.lt_of_le_of_lt (Nat.sub_le _ _) qs; exact qs
        have hqNi : (qn : Int) < (N : Int) := by omega
        rw [hqn] at hwo
        have HA : HeldR (s.testBit k = true → qn = s - 2 ^ k ∧ qn < s) := hideR (fun h => by
          rw [h, if_pos rfl] at hqn
          have := (bit_sub s (by omega) k (by omega) h).1
          omega)
        have HA0 : HeldR (s.testBit k = false → qn = s) := hideR (fun h => by rw [h, if_neg (by decide)] at hqn; exact hqn.symm)
        obtain ⟨R, hR⟩ : ∃ R, rowsAt J tMin s k qn = R := ⟨_, rfl⟩
        have HRq := hideR hR
        have r0 : (wr.alloc (.cells #[.string j.nm, .slice a2 j.ws.length c2, .int .i64 j.lo, .int .i64 j.wo] 72)).cell? ⟨g1, qn * 5, none⟩ = some (.bool R.can) := by have := (unhideR HR2).cell qn hqN 0 (by decide); rw [hR] at this; exact this
        have r1 : (wr.alloc (.cells #[.string j.nm, .slice a2 j.ws.length c2, .int .i64 j.lo, .int .i64 j.wo] 72)).cell? ⟨g1, qn * 5 + 1, none⟩ = some (.int .i64 ((R.last : Nat) : Int)) := by have := (unhideR HR2).cell qn hqN 1 (by decide); rw [hR] at this; exact this
        have r2 : (wr.alloc (.cells #[.string j.nm, .slice a2 j.ws.length c2, .int .i64 j.lo, .int .i64 j.wo] 72)).cell? ⟨g1, qn * 5 + 2, none⟩ = some (.int .i64 R.fr) := by have := (unhideR HR2).cell qn hqN 2 (by decide); rw [hR] at this; exact this
        have r3 : (wr.alloc (.cells #[.string j.nm, .slice a2 j.ws.length c2, .int .i64 j.lo, .int .i64 j.wo] 72)).cell? ⟨g1, qn * 5 + 3, none⟩ = some (.int .i64 R.to_) := by have := (unhideR HR2).cell qn hqN 3 (by decide); rw [hR] at this; exact this
        have r4 : (wr.alloc (.cells #[.string j.nm, .slice a2 j.ws.length c2, .int .i64 j.lo, .int .i64 j.wo] 72)).cell? ⟨g1, qn * 5 + 4, none⟩ = some (.int .i64 R.wo) := by have := (unhideR HR2).cell qn hqN 4 (by decide); rw [hR] at this; exact this
        clear hba z hqn hR hJb hs2 HR HWi HB
        go_wp2_with fail
        refine (hwo _).mono ?_
        rintro e5 u5 ⟨rfl, rfl⟩
        have hbr := below_a (wr.alloc (.cells #[.string j.nm, .slice a2 j.ws.length c2, .int .i64 j.lo, .int .i64 j.wo] 72)) (.cells #[.bool R.can, .int .i64 (R.last : Nat), .int .i64 R.fr, .int .i64 R.to_, .int .i64 R.wo] 78)
        have HB6 := hideR ((unhideR HB2).trans (hbr.mono (by have := (unhideR HB2).size; omega)))
        have HW6 := hideR ((unhideR HW2).below hbr)
        have HR6 := hideR ((unhideR HR2).below hbr)
        have HZ6 := hideR (keepB (unhideR HZ) hbr)
        have HZ7 := hideR (alloc_last (wr.alloc (.cells #[.string j.nm, .slice a2 j.ws.length c2, .int .i64 j.lo, .int .i64 j.wo] 72)) (.cells #[.bool R.can, .int .i64 (R.last : Nat), .int .i64 R.fr, .int .i64 R.to_, .int .i64 R.wo] 78))
        have Hb6 := hideR (below_go (unhideR Hba) hbr)
        rw [World.size_alloc] at HZ7
        have y0 := (cells_at (unhideR HZ7) 0 (by simp)).1
        clear hbr HB2 HW2 HR2 HZ Hba
        go_wp2_with fail
        refine (hwo _).mono ?_
        rintro e6 u6 ⟨rfl, e6⟩
        rw [← e6] at HB6 HW6 HR6 HZ6 HZ7 Hb6 y0
        clear e6 hwo r0 r1 r2 r3 r4
        have HCont : HeldR (stepR J (rowV J tMin) s k (rowK J (rowV J tMin) s k) = rowK J (rowV J tMin) s k → ∀ u, Below u6.heap.size u6 u → RwR u g1 N (rowsAt J tMin s (k + 1)) ∧ WnR u g0 g1 i l i ∧ Below g0 w u) := hideR (fun h u hu => ⟨unhideR HSame h u ((unhideR HR6).below hu), (unhideR HW6).below hu, (unhideR HB6).trans (hu.mono (by have := (unhideR HB6).size; omega))⟩)
        cases htb : s.testBit k
        case false =>
          have hqs := unhideR HA0 htb
          obtain ⟨c1, c2', c3⟩ := unhideR HCont (by rw [unhideR HSt, htb, Bool.false_and, if_neg (by decide)]) u6 (Below.refl _ _)
          have C1 := hideR c1
          have C2 := hideR c2'
          have C3 := hideR c3
          have tq : ((qn : Int) == (s : Int)) = true := beq_iff_eq.2 (by omega)
          have tqn : (qn == s) = true := beq_iff_eq.2 hqs
          clear HA HA0 HCont HSt HSame HStep HB6 HW6 HR6 HZ6 HZ7 Hb6 hqs c1 c2' c3
          go_wp2
          exact ⟨⟨k + 1, by omega, by go_num, C1, C2, C3⟩, by simp [intOf]; omega⟩
        obtain ⟨hq1, hq2⟩ := unhideR HA htb
        have tq : ((qn : Int) == (s : Int)) = false := beq_eq_false_iff_ne.2 (by omega)
        have tqn : (qn == s) = false := beq_eq_false_iff_ne.2 (by omega)
        have hRv : R = rowV J tMin qn := by
          rw [← unhideR HRq]
          unfold rowsAt
          rw [if_pos hq2]
        rw [← hq1, ← hRv, htb, Bool.true_and] at HSt
        cases hcan : R.can
        case false =>
          obtain ⟨c1, c2', c3⟩ := unhideR HCont (by rw [unhideR HSt, hcan, if_neg (by decide)]) u6 (Below.refl _ _)
          have C1 := hideR c1
          have C2 := hideR c2'
          have C3 := hideR c3
          rw [hcan] at y0
          clear HA HA0 HCont HSt HSame HStep HB6 HW6 HR6 HZ6 HZ7 Hb6 c1 c2' c3 hRv hq1
          go_wp2
          exact ⟨⟨k + 1, by omega, by go_num, C1, C2, C3⟩, by simp [intOf]; omega⟩
        rw [hcan] at HSt y0
        rw [if_pos rfl] at HSt
        have hRw := unhideR HW qn hqN
        rw [← hRv] at hRw
        clear HA HA0 hRv hq1
        go_upto_region 17 with fail
        obtain ⟨Z, hZ⟩ : ∃ Z, wr.heap.size = Z := ⟨_, rfl⟩
        rw [hZ]
        obtain ⟨ll, hll⟩ : ∃ ll, (leL j.lo j.ws).length = ll := ⟨_, rfl⟩
        have HY : HeldR (∀ v, Below u6.heap.size u6 v → v.cell? ⟨g0, k, none⟩ = some (.slice aw ll cw) ∧ v.heap[Z]? = some (.cells #[.string j.nm, .slice a2 j.ws.length c2, .int .i64 j.lo, .int .i64 j.wo] 72) ∧ v.heap[Z + 1]? = some (.cells #[.bool R.can, .int .i64 (R.last : Nat), .int .i64 R.fr, .int .i64 R.to_, .int .i64 R.wo] 78) ∧ SpCame v aw (leL j.lo j.ws)) := hideR (fun v hv => by
          have g := below_go (unhideR Hb6) hv
          obtain ⟨h1, h2⟩ := unhideR HWc v g
          rw [hll] at h1
          rw [← hZ]
          exact ⟨h1, keepB (unhideR HZ6) hv, keepB (unhideR HZ7) hv, h2⟩)
        have hbg := fun v (hv : Below u6.heap.size u6 v) => pbegin_any (cap := cw) (unhideR HY v hv).2.2.2 hws ⟨hokl1, hokl2⟩ R.to_
        unfold BgPost at hbg
        rw [hll] at hbg
        have HSoB : HeldR (∀ at_, bgV j.lo R.to_ (leL j.lo j.ws) = some at_ → -1152921504606846976 ≤ at_ ∧ at_ + j.lo ≤ 1152921504606846976) := hideR (fun at_ h => unhideR Hso R.to_ at_ (by rw [← unhideR Hbg]; exact h))
        generalize bgV j.lo R.to_ (leL j.lo j.ws) = B at *
        clear hll Hso Hbg HWc HZ6 HZ7 Hb6 hj0 hj1 hj2 hj3 y0 hZ
        refine wp_region_made 5 #[true, true, true, true, true, true, true, true, false, false, false, false, false, false] [.lets (· = .slice (some ⟨g0, 0, none⟩) i i),
          .lets (· = .int .i64 (k : Nat)),
          .lets (· = .pointer (some ⟨g0, k, none⟩)),
          .lets (· = .slice aw ll cw),
          .lets (· = .pointer (some ⟨Z, 2, none⟩)),
          .lets (· = .int .i64 j.lo),
          .lets (· = .pointer (some ⟨Z + 1, 3, none⟩)),
          .lets (· = .int .i64 R.to_)] [] [] (by kernel_rfl) (by kernel_rfl) rfl ?kinds (by kernel_rfl) (by kernel_rfl) (by kernel_rfl) ?_
        case kinds =>
          constructor
          · intro i h
            rcases i with _ | _ | _ | _ | _ | _ | _ | _ | i <;> simp [Kx.isMade] at h
          · intro i h
            rcases i with _ | _ | _ | _ | _ | _ | _ | _ | i <;> simp [Kx.isUse] at h
        refine lexX_step (fun K hK => ⟨by kernel_rfl, ⟨_, rfl⟩, fun v hv => ?_, fun v hv => ?_⟩)
        · go_simp
          exact mUpon_b
        subst hv
        go_simp
        refine hK _ ?_
        clear hK K
        refine lexX_step (fun K hK => ⟨by kernel_rfl, ⟨_, rfl⟩, fun v hv => ?_, fun v hv => ?_⟩)
        · go_simp
          exact mUpon_b
        subst hv
        go_simp
        refine hK _ ?_
        clear hK K
        refine lexX_step (fun K hK => ⟨by kernel_rfl, ⟨_, rfl⟩, fun v hv => ?_, fun v hv => ?_⟩)
        · go_simp
          exact mUpon_b
        subst hv
        go_simp
        refine hK _ ?_
        clear hK K
        refine lexX_step (fun K hK => ⟨by kernel_rfl, ⟨_, rfl⟩, fun v hv => ?_, fun v hv => ?_⟩)
        · have y9 := (unhideR HY v hv).1
          go_simp
          exact mUpon_b
        subst hv
        go_simp
        refine hK _ ?_
        clear hK K
        refine lexX_step (fun K hK => ⟨by kernel_rfl, ⟨_, rfl⟩, fun v hv => ?_, fun v hv => ?_⟩)
        · go_simp
          exact mUpon_b
        subst hv
        go_simp
        refine hK _ ?_
        clear hK K
        refine lexX_step (fun K hK => ⟨by kernel_rfl, ⟨_, rfl⟩, fun v hv => ?_, fun v hv => ?_⟩)
        · have y9 := (cells_at (unhideR HY v hv).2.1 2 (by simp)).1
          go_simp
          exact mUpon_b
        subst hv
        go_simp
        refine hK _ ?_
        clear hK K
        refine lexX_step (fun K hK => ⟨by kernel_rfl, ⟨_, rfl⟩, fun v hv => ?_, fun v hv => ?_⟩)
        · go_simp
          exact mUpon_b
        subst hv
        go_simp
        refine hK _ ?_
        clear hK K
        refine lexX_step (fun K hK => ⟨by kernel_rfl, ⟨_, rfl⟩, fun v hv => ?_, fun v hv => ?_⟩)
        · have y9 := (cells_at (unhideR HY v hv).2.2.1 3 (by simp)).1
          go_simp
          exact mUpon_b
        subst hv
        go_simp
        refine hK _ ?_
        clear hK K
        refine lexX_end (fun v5 hv => ?_)
        have HV := hideR hv.low
        have hb5 := hbg v5 hv.low
        clear hv hbg
        refine wpAny_step (i := 8) (by kernel_rfl) rfl (by kernel_rfl) (fun K9 hK => ?_)
        unfold Oper.wp
        go_simp
        refine hb5.mono ?_
        rintro e7 u7 ⟨rfl, k7⟩
        have HV7 := hideR ((unhideR HV).trans (k7.mono (unhideR HV).size))
        clear hb5 k7 HV
        go_simp
        refine hK _ _ ?_
        clear hK K9
        refine wpAny_step (i := 9) (by kernel_rfl) rfl (by kernel_rfl) (fun K hK => ?_)
        unfold Oper.wp
        go_simp
        refine hK _ _ ?_
        clear hK K
        refine wpAny_take (i := 10) (v := .int .i64 (B.getD 0)) rfl (by kernel_rfl) (by kernel_rfl) (by kernel_rfl) (fun _ _ _ h => h) (Or.inl ⟨by rfl, fun u => ?_⟩) ?_
        · go_simp
        go_simp
        refine wpAny_take (i := 11) (v := .bool B.isSome) rfl (by kernel_rfl) (by kernel_rfl) (by kernel_rfl) (fun _ _ _ h => h) (Or.inl ⟨by rfl, fun u => ?_⟩) ?_
        · go_simp
        go_simp
        refine wpAny_step (i := 12) (by kernel_rfl) rfl (by kernel_rfl) (fun K hK => ?_)
        unfold Oper.wp
        go_simp
        refine hK _ _ ?_
        clear hK K
        refine wpAny_step (i := 13) (by kernel_rfl) rfl (by kernel_rfl) (fun K hK => ?_)
        unfold Oper.wp
        go_simp
        refine hK _ _ ?_
        clear hK K
        refine wpAny_end (by kernel_rfl) ?_
        have HY7 : HeldR (∀ v, Below u7.heap.size u7 v → v.heap[Z]? = some (.cells #[.string j.nm, .slice a2 j.ws.length c2, .int .i64 j.lo, .int .i64 j.wo] 72) ∧ v.heap[Z + 1]? = some (.cells #[.bool R.can, .int .i64 (R.last : Nat), .int .i64 R.fr, .int .i64 R.to_, .int .i64 R.wo] 78) ∧ Below u6.heap.size u6 v) := hideR (fun v hv => by
          have g := (unhideR HV7).trans (hv.mono (unhideR HV7).size)
          exact ⟨(unhideR HY v g).2.1, (unhideR HY v g).2.2.1, g⟩)
        clear HY HV7
        cases B with
        | none =>
          have HCn := hideR (unhideR HCont (unhideR HSt))
          clear HCont HSt HStep HSoB HB6 HW6 HR6
          go_upto_region 18 with fail
          refine wp_region_made 0 #[true, true, true, true, true, true, true, true, true, true, true, true, true, true, true, true, true, true, true, true, false] [.lets (· = .bool false),
            .lets (· = .bool false),
            .lets (· = undef),
            .lets (· = undef),
            .lets (· = undef),
            .lets (· = undef),
            .lets (· = undef),
            .lets (· = undef),
            .lets (· = undef),
            .lets (· = undef),
            .lets (· = undef),
            .lets (· = undef),
            .lets (· = undef),
            .lets (· = undef),
            .lets (· = undef),
            .lets (· = undef),
            .lets (· = undef),
            .lets (· = undef),
            .lets (· = undef),
            .lets (· = undef)] [] [] (by kernel_rfl) (by kernel_rfl) rfl ?kinds (by kernel_rfl) (by kernel_rfl) (by kernel_rfl) ?_
          case kinds =>
            constructor
            · intro i h
              rcases i with _ | _ | _ | _ | _ | _ | _ | _ | _ | _ | _ | _ | _ | _ | _ | _ | _ | _ | _ | _ | i <;> simp [Kx.isMade] at h
            · intro i h
              rcases i with _ | _ | _ | _ | _ | _ | _ | _ | _ | _ | _ | _ | _ | _ | _ | _ | _ | _ | _ | _ | i <;> simp [Kx.isUse] at h
          refine lexX_step (fun K hK => ⟨by kernel_rfl, ⟨_, rfl⟩, fun v hv => ?_, fun v hv => ?_⟩)
          · go_simp
            exact mUpon_b
          subst hv
          go_simp
          refine hK _ ?_
          clear hK K
          refine lexX_step (fun K hK => ⟨by kernel_rfl, ⟨_, rfl⟩, fun v hv => ?_, fun v hv => ?_⟩)
          · go_simp
            exact mUpon_b
          subst hv
          go_simp
          refine hK _ ?_
          clear hK K
          refine lexX_skip (fun K hK => ⟨by kernel_rfl, ?_⟩)
          go_simp
          refine hK _ ?_
          clear hK K
          refine lexX_skip (fun K hK => ⟨by kernel_rfl, ?_⟩)
          go_simp
          refine hK _ ?_
          clear hK K
          refine lexX_skip (fun K hK => ⟨by kernel_rfl, ?_⟩)
          go_simp
          refine hK _ ?_
          clear hK K
          refine lexX_skip (fun K hK => ⟨by kernel_rfl, ?_⟩)
          go_simp
          refine hK _ ?_
          clear hK K
          refine lexX_skip (fun K hK => ⟨by kernel_rfl, ?_⟩)
          go_simp
          refine hK _ ?_
          clear hK K
          refine lexX_skip (fun K hK => ⟨by kernel_rfl, ?_⟩)
          go_simp
          refine hK _ ?_
          clear hK K
          refine lexX_skip (fun K hK => ⟨by kernel_rfl, ?_⟩)
          go_simp
          refine hK _ ?_
          clear hK K
          refine lexX_skip (fun K hK => ⟨by kernel_rfl, ?_⟩)
          go_simp
          refine hK _ ?_
          clear hK K
          refine lexX_skip (fun K hK => ⟨by kernel_rfl, ?_⟩)
          go_simp
          refine hK _ ?_
          clear hK K
          refine lexX_skip (fun K hK => ⟨by kernel_rfl, ?_⟩)
          go_simp
          refine hK _ ?_
          clear hK K
          refine lexX_skip (fun K hK => ⟨by kernel_rfl, ?_⟩)
          go_simp
          refine hK _ ?_
          clear hK K
          refine lexX_skip (fun K hK => ⟨by kernel_rfl, ?_⟩)
          go_simp
          refine hK _ ?_
          clear hK K
          refine lexX_skip (fun K hK => ⟨by kernel_rfl, ?_⟩)
          go_simp
          refine hK _ ?_
          clear hK K
          refine lexX_skip (fun K hK => ⟨by kernel_rfl, ?_⟩)
          go_simp
          refine hK _ ?_
          clear hK K
          refine lexX_skip (fun K hK => ⟨by kernel_rfl, ?_⟩)
          go_simp
          refine hK _ ?_
          clear hK K
          refine lexX_skip (fun K hK => ⟨by kernel_rfl, ?_⟩)
          go_simp
          refine hK _ ?_
          clear hK K
          refine lexX_skip (fun K hK => ⟨by kernel_rfl, ?_⟩)
          go_simp
          refine hK _ ?_
          clear hK K
          refine lexX_skip (fun K hK => ⟨by kernel_rfl, ?_⟩)
          go_simp
          refine hK _ ?_
          clear hK K
          refine lexX_end (fun v5 hv => ?_)
          obtain ⟨c1, c2', c3⟩ := unhideR HCn v5 (unhideR HY7 v5 hv.low).2.2
          have C1 := hideR c1
          have C2 := hideR c2'
          have C3 := hideR c3
          clear hv HCn HY7 c1 c2' c3
          refine wpAny_step (i := 20) (by kernel_rfl) rfl (by kernel_rfl) (fun K hK => ?_)
          unfold Oper.wp
          go_simp
          refine hK _ _ ?_
          clear hK K
          refine wpAny_end (by kernel_rfl) ?_
          go_wp2
          exact ⟨⟨k + 1, by omega, by go_num, C1, C2, C3⟩, by simp [intOf]; omega⟩
        | some at_ =>
          have hab := unhideR HSoB at_ rfl
          have waj : IntKind.i64.wrap (at_ + j.lo) = at_ + j.lo := iwrap (by omega) (by omega)
          have www : IntKind.i64.wrap (R.wo + j.wo) = R.wo + j.wo := iwrap (by omega) (by omega)
          have HSt2 : HeldR (stepR J (rowV J tMin) s k (rowK J (rowV J tMin) s k) = if !(rowK J (rowV J tMin) s k).can || decide (at_ + j.lo < (rowK J (rowV J tMin) s k).to_) then ⟨true, k, at_, at_ + j.lo, R.wo + j.wo⟩ else rowK J (rowV J tMin) s k) := hideR (unhideR HSt)
          have HRc : HeldR (rowsAt J tMin s k s = rowK J (rowV J tMin) s k) := hideR (by unfold rowsAt; rw [if_neg (Nat.lt_irrefl _), if_pos rfl])
          clear HSt HSoB
          generalize rowK J (rowV J tMin) s k = C at *
          have hsNi : (s : Int) < (N : Int) := by omega
          have HY8 : HeldR (∀ v, Below u7.heap.size u7 v → v.cell? ⟨g1, s * 5, none⟩ = some (.bool C.can) ∧ v.cell? ⟨g1, s * 5 + 3, none⟩ = some (.int .i64 C.to_)) := hideR (fun v hv => by
            have h := (unhideR HR6).below (unhideR HY7 v hv).2.2
            have e := unhideR HRc
            have h0 := h.cell s qs 0 (by decide)
            have h3 := h.cell s qs 3 (by decide)
            rw [e] at h0 h3
            exact ⟨h0, h3⟩)
          cases hcc : C.can
          case true =>
            obtain ⟨lt, hlt⟩ : ∃ lt, decide (at_ + j.lo < C.to_) = lt := ⟨_, rfl⟩
            rw [hcc, hlt] at HSt2
            rw [hcc] at HY8
            go_upto_region 18 with fail
            refine wp_region_made 0 #[true, true, true, true, true, true, true, true, true, true, true, true, true, true, true, true, true, true, true, true, false] [.lets (· = .bool true),
              .lets (· = .bool true),
              .lets (· = .slice (some ⟨g1, 0, none⟩) N N),
              .lets (· = .int .i64 (s : Nat)),
              .lets (· = .pointer (some ⟨g1, s * 5, none⟩)),
              .lets (· = .pointer (some ⟨g1, s * 5, none⟩)),
              .lets (· = .bool true),
              .lets (· = .bool false),
              .lets (· = .bool false),
              .lets (· = .int .i64 at_),
              .lets (· = .pointer (some ⟨Z, 2, none⟩)),
              .lets (· = .int .i64 j.lo),
              .lets (· = .int .i64 (at_ + j.lo)),
              .lets (· = .slice (some ⟨g1, 0, none⟩) N N),
              .lets (· = .int .i64 (s : Nat)),
              .lets (· = .pointer (some ⟨g1, s * 5, none⟩)),
              .lets (· = .pointer (some ⟨g1, s * 5 + 3, none⟩)),
              .lets (· = .int .i64 C.to_),
              .lets (· = .bool lt),
              .lets (· = .bool lt)] [] [] (by kernel_rfl) (by kernel_rfl) rfl ?kinds (by kernel_rfl) (by kernel_rfl) (by kernel_rfl) ?_
            case kinds =>
              constructor
              · intro i h
                rcases i with _ | _ | _ | _ | _ | _ | _ | _ | _ | _ | _ | _ | _ | _ | _ | _ | _ | _ | _ | _ | i <;> simp [Kx.isMade] at h
              · intro i h
                rcases i with _ | _ | _ | _ | _ | _ | _ | _ | _ | _ | _ | _ | _ | _ | _ | _ | _ | _ | _ | _ | i <;> simp [Kx.isUse] at h
            refine lexX_step (fun K hK => ⟨by kernel_rfl, ⟨_, rfl⟩, fun v hv => ?_, fun v hv => ?_⟩)
            · go_simp
              exact mUpon_b
            subst hv
            go_simp
            refine hK _ ?_
            clear hK K
            refine lexX_step (fun K hK => ⟨by kernel_rfl, ⟨_, rfl⟩, fun v hv => ?_, fun v hv => ?_⟩)
            · go_simp
              exact mUpon_b
            subst hv
            go_simp
            refine hK _ ?_
            clear hK K
            refine lexX_step (fun K hK => ⟨by kernel_rfl, ⟨_, rfl⟩, fun v hv => ?_, fun v hv => ?_⟩)
            · go_simp
              exact mUpon_b
            subst hv
            go_simp
            refine hK _ ?_
            clear hK K
            refine lexX_step (fun K hK => ⟨by kernel_rfl, ⟨_, rfl⟩, fun v hv => ?_, fun v hv => ?_⟩)
            · go_simp
              exact mUpon_b
            subst hv
            go_simp
            refine hK _ ?_
            clear hK K
            refine lexX_step (fun K hK => ⟨by kernel_rfl, ⟨_, rfl⟩, fun v hv => ?_, fun v hv => ?_⟩)
            · go_simp
              exact mUpon_b
            subst hv
            go_simp
            refine hK _ ?_
            clear hK K
            refine lexX_step (fun K hK => ⟨by kernel_rfl, ⟨_, rfl⟩, fun v hv => ?_, fun v hv => ?_⟩)
            · go_simp
              exact mUpon_b
            subst hv
            go_simp
            refine hK _ ?_
            clear hK K
            refine lexX_step (fun K hK => ⟨by kernel_rfl, ⟨_, rfl⟩, fun v hv => ?_, fun v hv => ?_⟩)
            · have y9 := (unhideR HY8 v hv).1
              go_simp
              exact mUpon_b
            subst hv
            go_simp
            refine hK _ ?_
            clear hK K
            refine lexX_step (fun K hK => ⟨by kernel_rfl, ⟨_, rfl⟩, fun v hv => ?_, fun v hv => ?_⟩)
            · go_simp
              exact mUpon_b
            subst hv
            go_simp
            refine hK _ ?_
            clear hK K
            refine lexX_step (fun K hK => ⟨by kernel_rfl, ⟨_, rfl⟩, fun v hv => ?_, fun v hv => ?_⟩)
            · go_simp
              exact mUpon_b
            subst hv
            go_simp
            refine hK _ ?_
            clear hK K
            refine lexX_step (fun K hK => ⟨by kernel_rfl, ⟨_, rfl⟩, fun v hv => ?_, fun v hv => ?_⟩)
            · go_simp
              exact mUpon_b
            subst hv
            go_simp
            refine hK _ ?_
            clear hK K
            refine lexX_step (fun K hK => ⟨by kernel_rfl, ⟨_, rfl⟩, fun v hv => ?_, fun v hv => ?_⟩)
            · go_simp
              exact mUpon_b
            subst hv
            go_simp
            refine hK _ ?_
            clear hK K
            refine lexX_step (fun K hK => ⟨by kernel_rfl, ⟨_, rfl⟩, fun v hv => ?_, fun v hv => ?_⟩)
            · have y9 := (cells_at (unhideR HY7 v hv).1 2 (by simp)).1
              go_simp
              exact mUpon_b
            subst hv
            go_simp
            refine hK _ ?_
            clear hK K
            refine lexX_step (fun K hK => ⟨by kernel_rfl, ⟨_, rfl⟩, fun v hv => ?_, fun v hv => ?_⟩)
            · go_simp
              exact mUpon_b
            subst hv
            go_simp
            refine hK _ ?_
            clear hK K
            refine lexX_step (fun K hK => ⟨by kernel_rfl, ⟨_, rfl⟩, fun v hv => ?_, fun v hv => ?_⟩)
            · go_simp
              exact mUpon_b
            subst hv
            go_simp
            refine hK _ ?_
            clear hK K
            refine lexX_step (fun K hK => ⟨by kernel_rfl, ⟨_, rfl⟩, fun v hv => ?_, fun v hv => ?_⟩)
            · go_simp
              exact mUpon_b
            subst hv
            go_simp
            refine hK _ ?_
            clear hK K
            refine lexX_step (fun K hK => ⟨by kernel_rfl, ⟨_, rfl⟩, fun v hv => ?_, fun v hv => ?_⟩)
            · go_simp
              exact mUpon_b
            subst hv
            go_simp
            refine hK _ ?_
            clear hK K
            refine lexX_step (fun K hK => ⟨by kernel_rfl, ⟨_, rfl⟩, fun v hv => ?_, fun v hv => ?_⟩)
            · go_simp
              exact mUpon_b
            subst hv
            go_simp
            refine hK _ ?_
            clear hK K
            refine lexX_step (fun K hK => ⟨by kernel_rfl, ⟨_, rfl⟩, fun v hv => ?_, fun v hv => ?_⟩)
            · have y9 := (unhideR HY8 v hv).2
              go_simp
              exact mUpon_b
            subst hv
            go_simp
            refine hK _ ?_
            clear hK K
            refine lexX_step (fun K hK => ⟨by kernel_rfl, ⟨_, rfl⟩, fun v hv => ?_, fun v hv => ?_⟩)
            · go_simp
              exact mUpon_b
            subst hv
            go_simp
            refine hK _ ?_
            clear hK K
            refine lexX_step (fun K hK => ⟨by kernel_rfl, ⟨_, rfl⟩, fun v hv => ?_, fun v hv => ?_⟩)
            · go_simp
              exact mUpon_b
            subst hv
            go_simp
            refine hK _ ?_
            clear hK K
            refine lexX_end (fun v5 hv => ?_)
            have HV8 := hideR hv.low
            clear hv
            refine wpAny_step (i := 20) (by kernel_rfl) rfl (by kernel_rfl) (fun K hK => ?_)
            unfold Oper.wp
            go_simp
            refine hK _ _ ?_
            clear hK K
            refine wpAny_end (by kernel_rfl) ?_
            cases lt
            case false =>
              obtain ⟨c1, c2', c3⟩ := unhideR HCont (unhideR HSt2) v5 (unhideR HY7 v5 (unhideR HV8)).2.2
              have C1 := hideR c1
              have C2 := hideR c2'
              have C3 := hideR c3
              clear HCont HSt2 HStep HY7 HY8 HV8 HB6 HW6 HR6 HRc c1 c2' c3
              go_wp2
              exact ⟨⟨k + 1, by omega, by go_num, C1, C2, C3⟩, by simp [intOf]; omega⟩
            have hSt5 := unhideR HStep _ (unhideR HSt2) v5 ((unhideR HR6).below (unhideR HY7 v5 (unhideR HV8)).2.2)
            have hr5 := (unhideR HR6).below (unhideR HY7 v5 (unhideR HV8)).2.2
            have C1 := hideR hSt5
            have C2 := hideR (((unhideR HW6).below (unhideR HY7 v5 (unhideR HV8)).2.2).wrote (by omega) (s * 5) (valRw ⟨true, k, at_, at_ + j.lo, R.wo + j.wo⟩))
            have C3 := hideR (below_setCellsG (g := g1) hgs (valRw ⟨true, k, at_, at_ + j.lo, R.wo + j.wo⟩) (s * 5) v5 ((unhideR HB6).trans ((unhideR HY7 v5 (unhideR HV8)).2.2.mono (by have := (unhideR HB6).size; omega))))
            have e := unhideR HRc
            have w0 : v5.cell? ⟨g1, s * 5, none⟩ = some (.bool C.can) := by have := hr5.cell s qs 0 (by decide); rw [e] at this; exact this
            have z0 := hr5.fz (s * 5)
            have w1 : v5.cell? ⟨g1, s * 5 + 1, none⟩ = some (.int .i64 ((C.last : Nat) : Int)) := by have := hr5.cell s qs 1 (by decide); rw [e] at this; exact this
            have z1 := hr5.fz (s * 5 + 1)
            have w2 : v5.cell? ⟨g1, s * 5 + 2, none⟩ = some (.int .i64 C.fr) := by have := hr5.cell s qs 2 (by decide); rw [e] at this; exact this
            have z2 := hr5.fz (s * 5 + 2)
            have w3 : v5.cell? ⟨g1, s * 5 + 3, none⟩ = some (.int .i64 C.to_) := by have := hr5.cell s qs 3 (by decide); rw [e] at this; exact this
            have z3 := hr5.fz (s * 5 + 3)
            have w4 : v5.cell? ⟨g1, s * 5 + 4, none⟩ = some (.int .i64 C.wo) := by have := hr5.cell s qs 4 (by decide); rw [e] at this; exact this
            have z4 := hr5.fz (s * 5 + 4)
            have b2 := (cells_at (unhideR HY7 v5 (unhideR HV8)).1 2 (by simp)).1
            have b3 := (cells_at (unhideR HY7 v5 (unhideR HV8)).1 3 (by simp)).1
            have b4 := (cells_at (unhideR HY7 v5 (unhideR HV8)).2.1 4 (by simp)).1
            clear hSt5 hr5 e HStep HSt2 HY7 HY8 HV8 HB6 HW6 HR6 HRc
            go_wp2
            exact ⟨⟨k + 1, by omega, by go_num, C1, C2, C3⟩, by simp [intOf]; omega⟩
          rw [hcc] at HSt2 HY8
          go_upto_region 18 with fail
          refine wp_region_made 0 #[true, true, true, true, true, true, true, true, true, true, true, true, true, true, true, true, true, true, true, true, false] [.lets (· = .bool true),
            .lets (· = .bool true),
            .lets (· = .slice (some ⟨g1, 0, none⟩) N N),
            .lets (· = .int .i64 (s : Nat)),
            .lets (· = .pointer (some ⟨g1, s * 5, none⟩)),
            .lets (· = .pointer (some ⟨g1, s * 5, none⟩)),
            .lets (· = .bool false),
            .lets (· = .bool true),
            .lets (· = .bool true),
            .lets (· = undef),
            .lets (· = undef),
            .lets (· = undef),
            .lets (· = undef),
            .lets (· = undef),
            .lets (· = undef),
            .lets (· = undef),
            .lets (· = undef),
            .lets (· = undef),
            .lets (· = undef),
            .lets (· = .bool true)] [] [] (by kernel_rfl) (by kernel_rfl) rfl ?kinds (by kernel_rfl) (by kernel_rfl) (by kernel_rfl) ?_
          case kinds =>
            constructor
            · intro i h
              rcases i with _ | _ | _ | _ | _ | _ | _ | _ | _ | _ | _ | _ | _ | _ | _ | _ | _ | _ | _ | _ | i <;> simp [Kx.isMade] at h
            · intro i h
              rcases i with _ | _ | _ | _ | _ | _ | _ | _ | _ | _ | _ | _ | _ | _ | _ | _ | _ | _ | _ | _ | i <;> simp [Kx.isUse] at h
          refine lexX_step (fun K hK => ⟨by kernel_rfl, ⟨_, rfl⟩, fun v hv => ?_, fun v hv => ?_⟩)
          · go_simp
            exact mUpon_b
          subst hv
          go_simp
          refine hK _ ?_
          clear hK K
          refine lexX_step (fun K hK => ⟨by kernel_rfl, ⟨_, rfl⟩, fun v hv => ?_, fun v hv => ?_⟩)
          · go_simp
            exact mUpon_b
          subst hv
          go_simp
          refine hK _ ?_
          clear hK K
          refine lexX_step (fun K hK => ⟨by kernel_rfl, ⟨_, rfl⟩, fun v hv => ?_, fun v hv => ?_⟩)
          · go_simp
            exact mUpon_b
          subst hv
          go_simp
          refine hK _ ?_
          clear hK K
          refine lexX_step (fun K hK => ⟨by kernel_rfl, ⟨_, rfl⟩, fun v hv => ?_, fun v hv => ?_⟩)
          · go_simp
            exact mUpon_b
          subst hv
          go_simp
          refine hK _ ?_
          clear hK K
          refine lexX_step (fun K hK => ⟨by kernel_rfl, ⟨_, rfl⟩, fun v hv => ?_, fun v hv => ?_⟩)
          · go_simp
            exact mUpon_b
          subst hv
          go_simp
          refine hK _ ?_
          clear hK K
          refine lexX_step (fun K hK => ⟨by kernel_rfl, ⟨_, rfl⟩, fun v hv => ?_, fun v hv => ?_⟩)
          · go_simp
            exact mUpon_b
          subst hv
          go_simp
          refine hK _ ?_
          clear hK K
          refine lexX_step (fun K hK => ⟨by kernel_rfl, ⟨_, rfl⟩, fun v hv => ?_, fun v hv => ?_⟩)
          · have y9 := (unhideR HY8 v hv).1
            go_simp
            exact mUpon_b
          subst hv
          go_simp
          refine hK _ ?_
          clear hK K
          refine lexX_step (fun K hK => ⟨by kernel_rfl, ⟨_, rfl⟩, fun v hv => ?_, fun v hv => ?_⟩)
          · go_simp
            exact mUpon_b
          subst hv
          go_simp
          refine hK _ ?_
          clear hK K
          refine lexX_step (fun K hK => ⟨by kernel_rfl, ⟨_, rfl⟩, fun v hv => ?_, fun v hv => ?_⟩)
          · go_simp
            exact mUpon_b
          subst hv
          go_simp
          refine hK _ ?_
          clear hK K
          refine lexX_skip (fun K hK => ⟨by kernel_rfl, ?_⟩)
          go_simp
          refine hK _ ?_
          clear hK K
          refine lexX_skip (fun K hK => ⟨by kernel_rfl, ?_⟩)
          go_simp
          refine hK _ ?_
          clear hK K
          refine lexX_skip (fun K hK => ⟨by kernel_rfl, ?_⟩)
          go_simp
          refine hK _ ?_
          clear hK K
          refine lexX_skip (fun K hK => ⟨by kernel_rfl, ?_⟩)
          go_simp
          refine hK _ ?_
          clear hK K
          refine lexX_skip (fun K hK => ⟨by kernel_rfl, ?_⟩)
          go_simp
          refine hK _ ?_
          clear hK K
          refine lexX_skip (fun K hK => ⟨by kernel_rfl, ?_⟩)
          go_simp
          refine hK _ ?_
          clear hK K
          refine lexX_skip (fun K hK => ⟨by kernel_rfl, ?_⟩)
          go_simp
          refine hK _ ?_
          clear hK K
          refine lexX_skip (fun K hK => ⟨by kernel_rfl, ?_⟩)
          go_simp
          refine hK _ ?_
          clear hK K
          refine lexX_skip (fun K hK => ⟨by kernel_rfl, ?_⟩)
          go_simp
          refine hK _ ?_
          clear hK K
          refine lexX_skip (fun K hK => ⟨by kernel_rfl, ?_⟩)
          go_simp
          refine hK _ ?_
          clear hK K
          refine lexX_step (fun K hK => ⟨by kernel_rfl, ⟨_, rfl⟩, fun v hv => ?_, fun v hv => ?_⟩)
          · go_simp
            exact mUpon_b
          subst hv
          go_simp
          refine hK _ ?_
          clear hK K
          refine lexX_end (fun v5 hv => ?_)
          have HV8 := hideR hv.low
          clear hv
          refine wpAny_step (i := 20) (by kernel_rfl) rfl (by kernel_rfl) (fun K hK => ?_)
          unfold Oper.wp
          go_simp
          refine hK _ _ ?_
          clear hK K
          refine wpAny_end (by kernel_rfl) ?_
          have hSt5 := unhideR HStep _ (unhideR HSt2) v5 ((unhideR HR6).below (unhideR HY7 v5 (unhideR HV8)).2.2)
          have hr5 := (unhideR HR6).below (unhideR HY7 v5 (unhideR HV8)).2.2
          have C1 := hideR hSt5
          have C2 := hideR (((unhideR HW6).below (unhideR HY7 v5 (unhideR HV8)).2.2).wrote (by omega) (s * 5) (valRw ⟨true, k, at_, at_ + j.lo, R.wo + j.wo⟩))
          have C3 := hideR (below_setCellsG (g := g1) hgs (valRw ⟨true, k, at_, at_ + j.lo, R.wo + j.wo⟩) (s * 5) v5 ((unhideR HB6).trans ((unhideR HY7 v5 (unhideR HV8)).2.2.mono (by have := (unhideR HB6).size; omega))))
          have e := unhideR HRc
          have w0 : v5.cell? ⟨g1, s * 5, none⟩ = some (.bool C.can) := by have := hr5.cell s qs 0 (by decide); rw [e] at this; exact this
          have z0 := hr5.fz (s * 5)
          have w1 : v5.cell? ⟨g1, s * 5 + 1, none⟩ = some (.int .i64 ((C.last : Nat) : Int)) := by have := hr5.cell s qs 1 (by decide); rw [e] at this; exact this
          have z1 := hr5.fz (s * 5 + 1)
          have w2 : v5.cell? ⟨g1, s * 5 + 2, none⟩ = some (.int .i64 C.fr) := by have := hr5.cell s qs 2 (by decide); rw [e] at this; exact this
          have z2 := hr5.fz (s * 5 + 2)
          have w3 : v5.cell? ⟨g1, s * 5 + 3, none⟩ = some (.int .i64 C.to_) := by have := hr5.cell s qs 3 (by decide); rw [e] at this; exact this
          have z3 := hr5.fz (s * 5 + 3)
          have w4 : v5.cell? ⟨g1, s * 5 + 4, none⟩ = some (.int .i64 C.wo) := by have := hr5.cell s qs 4 (by decide); rw [e] at this; exact this
          have z4 := hr5.fz (s * 5 + 4)
          have b2 := (cells_at (unhideR HY7 v5 (unhideR HV8)).1 2 (by simp)).1
          have b3 := (cells_at (unhideR HY7 v5 (unhideR HV8)).1 3 (by simp)).1
          have b4 := (cells_at (unhideR HY7 v5 (unhideR HV8)).2.1 4 (by simp)).1
          clear hSt5 hr5 e HStep HSt2 HY7 HY8 HV8 HB6 HW6 HR6 HRc
          go_wp2
          exact ⟨⟨k + 1, by omega, by go_num, C1, C2, C3⟩, by simp [intOf]; omega⟩
end Go.Proofs.YtoacdaemhcbbhaaDoor
