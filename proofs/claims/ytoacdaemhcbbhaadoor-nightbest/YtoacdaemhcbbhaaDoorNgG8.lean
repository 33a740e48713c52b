/-
  The best plan: the program's Best, by contract.
-/
import Derived.Test.YtoacdaemhcbbhaaDoorNgF4
import Derived.Test.YtoacdaemhcbbhaaDoorNgG5
import Derived.Test.YtoacdaemhcbbhaaDoorNgG7
import Derived.Test.YtoacdaemhcbbhaaDoorLooseM
namespace Go.Proofs.YtoacdaemhcbbhaaDoor
open Go Go.RowKit

theorem joE_ok {l : List Jb} (h : joE l = 0) : l.length ≤ 12 ∧ (∀ i, i < l.length → nmX l i = false) ∧ ∀ k, k < l.length → (l.getD k jb0).Ok := by
  unfold joE at h
  by_cases q1 : 12 < l.length
  · rw [if_pos q1] at h; cases h
  rw [if_neg q1] at h
  by_cases q2 : ∃ i, i < l.length ∧ nmX l i = true
  · rw [if_pos q2] at h; cases h
  rw [if_neg q2] at h
  by_cases q3 : ∃ i, i < l.length ∧ shX (l.getD i jb0) = true
  · rw [if_pos q3] at h; cases h
  exact ⟨by omega, fun i hi => Bool.eq_false_iff.2 (fun z => q2 ⟨i, hi, z⟩), fun k hk => sh_ok (Bool.eq_false_iff.2 (fun z => q3 ⟨k, hk, z⟩))⟩
/-- the best of all rows. -/
structure BestI (l : List Jb) (b : Nat) : Prop where
  lt : b < 2 ^ l.length
  can : (rowV (jo l) tMin b).can = true
  le : ∀ s, s < 2 ^ l.length → (rowV (jo l) tMin s).wo ≤ (rowV (jo l) tMin b).wo
def BeTo (l : List Jb) (e : Ending) (w' : World) : Prop := ∃ (b : Nat) (ad : Option Addr) (cap : Nat), BestI l b ∧ e = .returned (.tuple #[.slice ad (slL l (backL (jo l) tMin 6 b)).length cap, .int .i64 (rowV (jo l) tMin b).wo, .nilIface]) ∧ SlCame w' ad (slL l (backL (jo l) tMin 6 b)).reverse
def BePost (a : Nat → Addr) (l : List Jb) (w : World) (e : Ending) (w' : World) : Prop := ((joE l ≠ 0 ∧ ∃ E, ErrIs a (joE l) E ∧ e = .returned (.tuple #[.slice none 0 0, .int .i64 0, E])) ∨ joE l = 0 ∧ BeTo l e w') ∧ Below w.heap.size w w'
def SlN (n : Nat) (v : Value) : Prop := ∃ ad cap, v = .slice ad n cap
def SlF (n : Nat) (L : List Slt) (v : Value) (w : World) : Prop := ∀ ad cap, v = .slice ad n cap → SlCame w ad L
theorem slF_stb (n : Nat) (L : List Slt) (v : Value) : Stb (SlF n L v) := fun _ _ h k ad cap e => (h ad cap e).below k
set_option maxRecDepth 1000000 in
set_option maxHeartbeats 12800000 in
theorem pbest_any {a : Nat → Addr} {w : World} {ad : Option Addr} {cap : Nat} {l : List Jb} (hS : Sents w a) (hl : JbCame w ad l) (hc : l.length ≤ cap) (hn : l.length ≤ 4000) (hw : ∀ k, k < l.length → (l.getD k jb0).ws.length * 16 ≤ 140737488355328) (h6 : l.length ≤ 6 ∨ 12 < l.length) :
    Calls Tryd.prog 8 #[.slice ad l.length cap] w (BePost a l w) := by
  have hval := pvalid_any (a := a) hS hl hc hn hw
  have HP1 : HeldR (∀ E w', joE l ≠ 0 → ErrIs a (joE l) E → Below w.heap.size w w' → BePost a l w (.returned (.tuple #[.slice none 0 0, .int .i64 0, E])) w') := hideR (fun E w' h1 h2 h3 => ⟨.inl ⟨h1, E, h2, rfl⟩, h3⟩)
  have HP2 : HeldR (∀ b ad cap w', joE l = 0 → BestI l b → SlCame w' ad (slL l (backL (jo l) tMin 6 b)).reverse → Below w.heap.size w w' → BePost a l w (.returned (.tuple #[.slice ad (slL l (backL (jo l) tMin 6 b)).length cap, .int .i64 (rowV (jo l) tMin b).wo, .nilIface])) w') := hideR (fun b ad cap w' h1 h2 h3 h4 => ⟨.inr ⟨h1, b, ad, cap, h2, rfl, h3⟩, h4⟩)
  have HL : HeldR (∀ u, Below w.heap.size w u → JbCame u ad l) := hideR (fun u q => hl.below q)
  generalize BePost a l w = POST at *
  go_enter Tryd.func8, Tryd.ntmps8
  go_wp2_with fail
  refine hval.mono ?_
  rintro e u1 ⟨⟨E, rfl, hE⟩, k1⟩
  clear hval
  rcases hE with ⟨h0, rfl⟩ | ⟨k, hk, hke, rfl⟩
  case inr =>
    have HQ := hideR (unhideR HP1 _ u1 (by omega) (.inr ⟨k, hk, hke, rfl⟩) k1)
    clear HP1 HP2 HL k1 hke hS hl hw
    go_wp2
    simp [bodyPost, results, Tryd.results8, go_sem]
    exact unhideR HQ
  obtain ⟨h12, _, hok⟩ := joE_ok h0
  have hn6 : l.length ≤ 6 := by omega
  have hso := psoon_any (cap := cap) (unhideR HL u1 k1) hn6 hok
  have HOk := hideR hok
  have HE0 := hideR h0
  have HK1 := hideR k1
  clear HP1 hS hl hw h0 k1 hok h6
  go_wp2_with fail
  refine hso.mono ?_
  rintro e u2 ⟨⟨g, rfl, hR, hg⟩, k2⟩
  have HK2 := hideR (below_go (unhideR HK1) k2)
  have HR : HeldR (∀ u, Below u2.heap.size u2 u → RwR u g (2 ^ l.length) (rowV (jo l) tMin)) := hideR (fun u h => hR.below h)
  clear hso HK1 k2 hR
  have hNN : 2 ^ l.length ≤ 64 := pow_six hn6
  have hNp : 0 < 2 ^ l.length := Nat.two_pow_pos _
  have HC0 : HeldR ((rowV (jo l) tMin 0).can = true) := hideR rfl
  have HZ : HeldR (∀ s, s < 2 ^ l.length → 0 ≤ (rowV (jo l) tMin s).wo ∧ (0 < (rowV (jo l) tMin s).wo → (rowV (jo l) tMin s).can = true)) := hideR (fun s hs => by
    refine ⟨(row_wo_bd hn6 (unhideR HOk) hs).1, fun h => ?_⟩
    rcases Nat.eq_zero_or_pos s with rfl | q
    · rfl
    · rcases row_from (J := jo l) (T := tMin) q with ⟨_, h2⟩ | ⟨h2, _⟩
      · rw [h2] at h
        exact absurd h (by decide)
      · exact h2)
  have HSL : HeldR (∀ (u : World) (b : Nat), Below u2.heap.size u2 u → b < 2 ^ l.length → (rowV (jo l) tMin b).can = true → Calls Tryd.prog 26 #[.slice ad l.length cap, .slice (some ⟨g, 0, none⟩) (2 ^ l.length) (2 ^ l.length), .int .i64 (b : Nat)] u (SlPost l b u)) := hideR (fun u b hu hb hbc => pslots_any (unhideR HL u (below_go (unhideR HK2) hu)) hn6 (unhideR HOk) (unhideR HR u hu) hb hbc)
  have HFin : HeldR (∀ b ad cap w', b < 2 ^ l.length → (rowV (jo l) tMin b).can = true → (∀ s, s < 2 ^ l.length → (rowV (jo l) tMin s).wo ≤ (rowV (jo l) tMin b).wo) → SlCame w' ad (slL l (backL (jo l) tMin 6 b)).reverse → Below u2.heap.size u2 w' → POST (.returned (.tuple #[.slice ad (slL l (backL (jo l) tMin 6 b)).length cap, .int .i64 (rowV (jo l) tMin b).wo, .nilIface])) w') := hideR (fun b ad cap w' h1 h2 h3 h4 h5 => unhideR HP2 b ad cap w' (unhideR HE0) ⟨h1, h2, h3⟩ h4 (below_go (unhideR HK2) h5))
  clear HP2 HE0 HK2 HL HOk
  unfold SlPost at HSL
  generalize rowV (jo l) tMin = RV at *
  generalize backL (jo l) tMin 6 = BL at *
  generalize 2 ^ l.length = N at *
  obtain ⟨n, hn0⟩ : ∃ n, l.length = n := ⟨_, rfl⟩
  rw [hn0] at hn6 hc hn HSL ⊢
  clear hn0
  go_wp2_with fail
  go_loopw [7, 19] (fun bv kv wl => ∃ b k : Nat, b < N ∧ k ≤ N ∧ bv = .int .i64 (b : Nat) ∧ kv = .int .i64 (k : Nat) ∧ HeldR ((RV b).can = true) ∧ HeldR (∀ s, s < k → (RV s).wo ≤ (RV b).wo) ∧ HeldR (Below u2.heap.size u2 wl)) (fun _ kv _ => N + 1 - (intOf kv).toNat)
  case atStart => exact ⟨0, 0, by omega, by omega, rfl, rfl, HC0, hideR (fun s hs => absurd hs (Nat.not_lt_zero s)), hideR (Below.refl _ _)⟩
  case round =>
    clear HC0
    obtain ⟨b, k, hb, hk, rfl, rfl, HC, HM, HB⟩ := hrel
    have hbi : (b : Int) < (N : Int) := by omega
    by_cases q : k < N
    case neg =>
      obtain rfl : k = N := by omega
      have ti : decide ((k : Int) < (k : Int)) = false := decide_eq_false (by omega)
      have tin : decide (k < k) = false := decide_eq_false (by omega)
      have HF2 : HeldR (∀ ad cap w', SlCame w' ad (slL l (BL b)).reverse → Below wr.heap.size wr w' → POST (.returned (.tuple #[.slice ad (slL l (BL b)).length cap, .int .i64 (RV b).wo, .nilIface])) w') := hideR (fun ad cap w' h1 h2 => unhideR HFin b ad cap w' hb (unhideR HC) (unhideR HM) h1 (below_go (unhideR HB) h2))
      have HSb : HeldR (∀ v, Below wr.heap.size wr v → Calls Tryd.prog 26 #[.slice ad n cap, .slice (some ⟨g, 0, none⟩) k k, .int .i64 (b : Nat)] v (fun e w' => (∃ ad cap, e = .returned (.slice ad (slL l (BL b)).length cap) ∧ SlCame w' ad (slL l (BL b)).reverse) ∧ Below v.heap.size v w')) := hideR (fun v hv => unhideR HSL v b (below_go (unhideR HB) hv) hb (unhideR HC))
      have HY : HeldR (∀ v, Below wr.heap.size wr v → v.cell? ⟨g, b * 5 + 4, none⟩ = some (.int .i64 (RV b).wo)) := hideR (fun v hv => (unhideR HR v (below_go (unhideR HB) hv)).cell b hb 4 (by decide))
      clear HFin HSL HC HM HB HR HZ
      generalize slL l (BL b) = SL at *
      generalize (RV b).wo = wo at *
      generalize SL.length = nl at *
      go_upto_region 12 with fail
      refine M.wp_region_made 1 #[true, true, true, true, true, true, true, true, true, true, false, false] [.lets (· = .slice ad n cap),
        .lets (· = .slice (some ⟨g, 0, none⟩) k k),
        .lets (· = .int .i64 (b : Nat)),
        .made (SlN nl) (SlF nl SL.reverse),
        .lets (· = .slice (some ⟨g, 0, none⟩) k k),
        .lets (· = .int .i64 (b : Nat)),
        .lets (· = .pointer (some ⟨g, b * 5, none⟩)),
        .lets (· = .pointer (some ⟨g, b * 5 + 4, none⟩)),
        .lets (· = .int .i64 wo),
        .made (SlN nl) (SlF nl SL.reverse)] [3, 9] [3, 9] (by kernel_rfl) (by kernel_rfl) rfl ?kinds (by kernel_rfl) (by kernel_rfl) (by kernel_rfl) ?_
      case kinds =>
        constructor
        · intro i h
          rcases i with _ | _ | _ | _ | _ | _ | _ | _ | _ | _ | i <;> simp [M.Kx.isMade] at h ⊢
        · intro i h
          rcases i with _ | _ | _ | _ | _ | _ | _ | _ | _ | _ | i <;> simp [M.Kx.isUse] at h ⊢
      refine M.lexX_step (fun K hK => ⟨by kernel_rfl, ⟨_, rfl⟩, fun v hv => ?_, fun v hv => ?_⟩)
      · go_simp
        exact mUpon_b
      subst hv
      go_simp
      refine hK _ ?_
      clear hK K
      refine M.lexX_step (fun K hK => ⟨by kernel_rfl, ⟨_, rfl⟩, fun v hv => ?_, fun v hv => ?_⟩)
      · go_simp
        exact mUpon_b
      subst hv
      go_simp
      refine hK _ ?_
      clear hK K
      refine M.lexX_step (fun K hK => ⟨by kernel_rfl, ⟨_, rfl⟩, fun v hv => ?_, fun v hv => ?_⟩)
      · go_simp
        exact mUpon_b
      subst hv
      go_simp
      refine hK _ ?_
      clear hK K
      refine M.lexX_made ⟨by kernel_rfl, ⟨_, none, 0, rfl⟩, slF_stb _ _, fun v hv hγ => ?_, ?_⟩
      · go_simp
        refine (unhideR HSb v hv).mono ?_
        rintro e w9 ⟨⟨ad9, c9, rfl, h9⟩, k9⟩
        exact ⟨_, rfl, ⟨⟨_, _, rfl⟩, fun a' c' e' => by cases e'; exact h9⟩, k9⟩
      rintro _ ⟨ap, cp, rfl⟩ K9 hK
      go_simp
      refine hK _ ?_
      clear hK K9
      refine M.lexX_step (fun K hK => ⟨by kernel_rfl, ⟨_, rfl⟩, fun v hv => ?_, fun v hv => ?_⟩)
      · go_simp
        exact mUpon_b
      subst hv
      go_simp
      refine hK _ ?_
      clear hK K
      refine M.lexX_step (fun K hK => ⟨by kernel_rfl, ⟨_, rfl⟩, fun v hv => ?_, fun v hv => ?_⟩)
      · go_simp
        exact mUpon_b
      subst hv
      go_simp
      refine hK _ ?_
      clear hK K
      refine M.lexX_step (fun K hK => ⟨by kernel_rfl, ⟨_, rfl⟩, fun v hv => ?_, fun v hv => ?_⟩)
      · go_simp
        exact mUpon_b
      subst hv
      go_simp
      refine hK _ ?_
      clear hK K
      refine M.lexX_step (fun K hK => ⟨by kernel_rfl, ⟨_, rfl⟩, fun v hv => ?_, fun v hv => ?_⟩)
      · go_simp
        exact mUpon_b
      subst hv
      go_simp
      refine hK _ ?_
      clear hK K
      refine M.lexX_step (fun K hK => ⟨by kernel_rfl, ⟨_, rfl⟩, fun v hv => ?_, fun v hv => ?_⟩)
      · have y9 := unhideR HY v hv
        go_simp
        exact mUpon_b
      subst hv
      go_simp
      refine hK _ ?_
      clear hK K
      refine M.lexX_made ⟨by kernel_rfl, ⟨_, none, 0, rfl⟩, slF_stb _ _, fun v hv hγ => ?_, ?_⟩
      · have h9 := hγ.2
        go_simp
        exact ⟨Below.refl _ _, ⟨_, _, rfl⟩, h9⟩
      rintro _ ⟨ap2, cp2, rfl⟩ K9 hK
      go_simp
      refine hK _ ?_
      clear hK K9
      refine M.lexX_end (fun v5 hv => ?_)
      have HQ := hideR (unhideR HF2 ap2 cp2 v5 (hv.fact.2 _ _ rfl) hv.low)
      clear hv HF2 HSb HY
      refine wpAny_step (i := 10) (by kernel_rfl) rfl (by kernel_rfl) (fun K hK => ?_)
      unfold Oper.wp
      go_simp
      refine hK _ _ ?_
      clear hK K
      refine wpAny_step (i := 11) (by kernel_rfl) rfl (by kernel_rfl) (fun K hK => ?_)
      unfold Oper.wp
      go_simp
      refine hK _ _ ?_
      clear hK K
      refine wpAny_end (by kernel_rfl) ?_
      go_wp2
      simp [bodyPost, results, Tryd.results8, go_sem]
      exact unhideR HQ
    have ti : decide ((k : Int) < (N : Int)) = true := decide_eq_true (by omega)
    have tin : decide (k < N) = true := decide_eq_true q
    have wi : IntKind.i64.wrap ((k : Int) + 1) = (k : Int) + 1 := iwrap (by omega) (by omega)
    have hki : (k : Int) < (N : Int) := by omega
    have hrc := (unhideR HR wr (unhideR HB)).cell k q
    have HZk := unhideR HZ k q
    have HZb := unhideR HZ b hb
    have HNx : HeldR ((RV b).wo < (RV k).wo → (RV k).can = true ∧ ∀ s, s < k + 1 → (RV s).wo ≤ (RV k).wo) := hideR (fun h => ⟨HZk.2 (by omega), fun s hs => by
      by_cases e : s = k
      · subst e; exact Int.le_refl _
      · have := unhideR HM s (by omega)
        omega⟩)
    have HNo : HeldR (¬ (RV b).wo < (RV k).wo → ∀ s, s < k + 1 → (RV s).wo ≤ (RV b).wo) := hideR (fun h s hs => by
      by_cases e : s = k
      · subst e; omega
      · exact unhideR HM s (by omega))
    have HYb : HeldR (∀ v, Below wr.heap.size wr v → v.cell? ⟨g, b * 5 + 4, none⟩ = some (.int .i64 (RV b).wo)) := hideR (fun v hv => (unhideR HR v (below_go (unhideR HB) hv)).cell b hb 4 (by decide))
    obtain ⟨B, hB⟩ : ∃ B, RV b = B := ⟨_, rfl⟩
    obtain ⟨R, hRk⟩ : ∃ R, RV k = R := ⟨_, rfl⟩
    have HBe := hideR hB
    have HRe := hideR hRk
    rw [hRk] at HNx HNo hrc
    rw [hB] at HNx HNo HYb
    have r0 : wr.cell? ⟨g, k * 5, none⟩ = some (.bool R.can) := hrc 0 (by decide)
    have r1 : wr.cell? ⟨g, k * 5 + 1, none⟩ = some (.int .i64 ((R.last : Nat) : Int)) := hrc 1 (by decide)
    have r2 : wr.cell? ⟨g, k * 5 + 2, none⟩ = some (.int .i64 R.fr) := hrc 2 (by decide)
    have r3 : wr.cell? ⟨g, k * 5 + 3, none⟩ = some (.int .i64 R.to_) := hrc 3 (by decide)
    have r4 : wr.cell? ⟨g, k * 5 + 4, none⟩ = some (.int .i64 R.wo) := hrc 4 (by decide)
    have hba := below_a wr (.cells #[.bool R.can, .int .i64 ((R.last : Nat) : Int), .int .i64 R.fr, .int .i64 R.to_, .int .i64 R.wo] 78)
    have z := alloc_last wr (.cells #[.bool R.can, .int .i64 ((R.last : Nat) : Int), .int .i64 R.fr, .int .i64 R.to_, .int .i64 R.wo] 78)
    have HB2 := hideR ((unhideR HB).trans (hba.mono (unhideR HB).size))
    have HY : HeldR (∀ v, Below (wr.alloc (.cells #[.bool R.can, .int .i64 ((R.last : Nat) : Int), .int .i64 R.fr, .int .i64 R.to_, .int .i64 R.wo] 78)).heap.size (wr.alloc (.cells #[.bool R.can, .int .i64 ((R.last : Nat) : Int), .int .i64 R.fr, .int .i64 R.to_, .int .i64 R.wo] 78)) v → v.heap[wr.heap.size]? = some (.cells #[.bool R.can, .int .i64 ((R.last : Nat) : Int), .int .i64 R.fr, .int .i64 R.to_, .int .i64 R.wo] 78) ∧ v.cell? ⟨g, b * 5 + 4, none⟩ = some (.int .i64 B.wo)) := hideR (fun v hv => ⟨keepB z hv, unhideR HYb v (below_go hba hv)⟩)
    clear hrc HYb hba z HB HZk HZb hB hRk
    go_upto_region 9 with fail
    clear r0 r1 r2 r3 r4
    generalize wr.alloc (.cells #[.bool R.can, .int .i64 ((R.last : Nat) : Int), .int .i64 R.fr, .int .i64 R.to_, .int .i64 R.wo] 78) = u5 at *
    obtain ⟨Z, hZ⟩ : ∃ Z, wr.heap.size = Z := ⟨_, rfl⟩
    rw [hZ] at HY ⊢
    clear hZ
    obtain ⟨cb, hcb⟩ : ∃ cb, decide (B.wo < R.wo) = cb := ⟨_, rfl⟩
    refine wp_region_made 0 #[true, true, true, true, true, true, true, false] [.lets (· = .pointer (some ⟨Z, 4, none⟩)),
      .lets (· = .int .i64 R.wo),
      .lets (· = .slice (some ⟨g, 0, none⟩) N N),
      .lets (· = .int .i64 (b : Nat)),
      .lets (· = .pointer (some ⟨g, b * 5, none⟩)),
      .lets (· = .pointer (some ⟨g, b * 5 + 4, none⟩)),
      .lets (· = .int .i64 B.wo)] [] [] (by kernel_rfl) (by kernel_rfl) rfl ?kinds (by kernel_rfl) (by kernel_rfl) (by kernel_rfl) ?_
    case kinds =>
      constructor
      · intro i h
        rcases i with _ | _ | _ | _ | _ | _ | _ | i <;> simp [Kx.isMade] at h
      · intro i h
        rcases i with _ | _ | _ | _ | _ | _ | _ | i <;> simp [Kx.isUse] at h
    refine lexX_step (fun K hK => ⟨by kernel_rfl, ⟨_, rfl⟩, fun v hv => ?_, fun v hv => ?_⟩)
    · go_simp
      exact mUpon_b
    subst hv
    go_simp
    refine hK _ ?_
    clear hK K
    refine lexX_step (fun K hK => ⟨by kernel_rfl, ⟨_, rfl⟩, fun v hv => ?_, fun v hv => ?_⟩)
    · have y9 := (cells_at (unhideR HY v hv).1 4 (by simp)).1
      go_simp
      exact mUpon_b
    subst hv
    go_simp
    refine hK _ ?_
    clear hK K
    refine lexX_step (fun K hK => ⟨by kernel_rfl, ⟨_, rfl⟩, fun v hv => ?_, fun v hv => ?_⟩)
    · go_simp
      exact mUpon_b
    subst hv
    go_simp
    refine hK _ ?_
    clear hK K
    refine lexX_step (fun K hK => ⟨by kernel_rfl, ⟨_, rfl⟩, fun v hv => ?_, fun v hv => ?_⟩)
    · go_simp
      exact mUpon_b
    subst hv
    go_simp
    refine hK _ ?_
    clear hK K
    refine lexX_step (fun K hK => ⟨by kernel_rfl, ⟨_, rfl⟩, fun v hv => ?_, fun v hv => ?_⟩)
    · go_simp
      exact mUpon_b
    subst hv
    go_simp
    refine hK _ ?_
    clear hK K
    refine lexX_step (fun K hK => ⟨by kernel_rfl, ⟨_, rfl⟩, fun v hv => ?_, fun v hv => ?_⟩)
    · go_simp
      exact mUpon_b
    subst hv
    go_simp
    refine hK _ ?_
    clear hK K
    refine lexX_step (fun K hK => ⟨by kernel_rfl, ⟨_, rfl⟩, fun v hv => ?_, fun v hv => ?_⟩)
    · have y9 := (unhideR HY v hv).2
      go_simp
      exact mUpon_b
    subst hv
    go_simp
    refine hK _ ?_
    clear hK K
    refine lexX_end (fun v5 hv => ?_)
    have HB5 := hideR ((unhideR HB2).trans (hv.low.mono (unhideR HB2).size))
    clear hv HY HB2
    refine wpAny_step (i := 7) (by kernel_rfl) rfl (by kernel_rfl) (fun K hK => ?_)
    unfold Oper.wp
    go_simp
    refine hK _ _ ?_
    clear hK K
    refine wpAny_end (by kernel_rfl) ?_
    cases cb
    case false =>
      have HM2 : HeldR (∀ s, s < k + 1 → (RV s).wo ≤ (RV b).wo) := hideR (by rw [unhideR HBe]; exact unhideR HNo (of_decide_eq_false hcb))
      clear HNo HNx
      go_wp2
      exact ⟨⟨b, k + 1, by omega, by omega, rfl, by go_num, HC, HM2, HB5⟩, by simp [intOf]; omega⟩
    obtain ⟨c1, c2⟩ := unhideR HNx (of_decide_eq_true hcb)
    have HC2 : HeldR ((RV k).can = true) := hideR (by rw [unhideR HRe]; exact c1)
    have HM2 : HeldR (∀ s, s < k + 1 → (RV s).wo ≤ (RV k).wo) := hideR (by rw [unhideR HRe]; exact c2)
    clear HNo HNx c1 c2
    go_wp2
    exact ⟨⟨k, k + 1, by omega, by omega, rfl, by go_num, HC2, HM2, HB5⟩, by simp [intOf]; omega⟩
end Go.Proofs.YtoacdaemhcbbhaaDoor
