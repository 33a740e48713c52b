/-
  The most that is to be had: the document's mostFrom, by contract.
-/
import Derived.Test.YtoacdaemhcbbhaaDoorNgH1
namespace Go.Proofs.YtoacdaemhcbbhaaDoor
open Go Go.RowKit

section
variable {P : Program} {ops : Array Oper}
/-- a region that draws: what holds of the world at each operation is told. -/
theorem lexC_step {C : World → Prop} {Q : Act → Prop} {S : Value → Prop} {Sl : List (Value → Prop)} {o : Oper} {rest : List Oper} {a : Act}
    (h : ∀ K : Act → Prop, (∀ a, wpLexL P ops C Q Sl rest a → K a) →
      wantB ops o a = true ∧ (∃ v, S v) ∧ (∀ v, C v → lUpon P C S ((execOp a.eval o).run P v)) ∧ ∀ v, S v → K (a.put o.dst v)) :
    wpLexL P ops C Q (S :: Sl) (o :: rest) a := by
  obtain ⟨h1, h2, h3, h4⟩ := h _ (fun _ h => h)
  refine ⟨fun _ => ⟨h2, h3⟩, ?_⟩
  intro v hv
  rw [h1] at hv
  exact h4 v hv
theorem wp_region_letsC {id : Nat} {Q : Exit → Act → World → Prop} {a : Act} {w : World} {l : List Oper} (C : World → Prop) (h0 : C (w.drewN 1)) (Sl : List (Value → Prop)) (hm : P.follows .mixedOrders = true) (hB : Region.lexB .any l.toArray = true)
    (h : wpLexL P l.toArray C (fun a' => ∀ v, C v → Q .normal a' v) Sl l a) : (Code.region id l.toArray true).wp P Q a w := by
  simp only [Region.lexB, Bool.and_eq_true] at hB
  refine wp_region_any hm (wpAny_of_lets (C := C) (Ss := fun k => Sl.getD k fun _ => False) (Q := fun a' => ∀ v, C v → Q .normal a' v) (fun _ w' hw' h => h w' hw') _ _ _ _ h0 ?_)
  have := wpAnyL_lex (P := P) (C := C) (Ss := fun k => Sl.getD k fun _ => False) (md := .any) hB.1 l 0 (Array.replicate l.toArray.size false) a (by simp) (by simpa using hB.2)
    (wpLex_of_L Sl l 0 a (fun j _ => by rw [Nat.zero_add]) h)
  simpa using this
theorem lUpon_c {C : World → Prop} {v : World} {u : Value} (h : C v) : lUpon P C (fun v => v = u) (.ok (.value u) v) := ⟨h, rfl⟩
end
/-- how many are not used. -/
def cntU (u : Nat → Bool) : Nat → Nat
  | 0 => 0
  | k + 1 => if u k then cntU u k else cntU u k + 1
theorem cntU_le (u : Nat → Bool) : ∀ k, cntU u k ≤ k
  | 0 => Nat.le_refl _
  | k + 1 => by
    have := cntU_le u k
    show (if u k then cntU u k else cntU u k + 1) ≤ k + 1
    split <;> omega
theorem cntU_zero {u : Nat → Bool} : ∀ {n}, cntU u n = 0 → ∀ i, i < n → u i = true
  | 0, _, i, h => absurd h (Nat.not_lt_zero i)
  | n + 1, h, i, hi => by
    have h : (if u n then cntU u n else cntU u n + 1) = 0 := h
    by_cases q : u n = true
    · rw [if_pos q] at h
      by_cases e : i = n
      · rw [e]; exact q
      · exact cntU_zero h i (by omega)
    · rw [if_neg q] at h
      cases h
theorem cntU_same {u v : Nat → Bool} : ∀ n, (∀ i, i < n → u i = v i) → cntU u n = cntU v n
  | 0, _ => rfl
  | n + 1, h => by
    show (if u n then cntU u n else cntU u n + 1) = if v n then cntU v n else cntU v n + 1
    rw [h n (by omega), cntU_same n (fun i hi => h i (by omega))]
theorem cntU_usd {u : Nat → Bool} {i : Nat} (hu : u i = false) : ∀ n, i < n → cntU (usd u i) n + 1 = cntU u n
  | 0, h => absurd h (Nat.not_lt_zero i)
  | n + 1, h => by
    show (if usd u i n then cntU (usd u i) n else cntU (usd u i) n + 1) + 1 = if u n then cntU u n else cntU u n + 1
    by_cases e : i = n
    · subst e
      have h1 : usd u i i = true := by unfold usd; simp
      rw [if_pos h1, hu, if_neg (by decide), cntU_same i (v := u) (fun j hj => by unfold usd; rw [decide_eq_false (by omega), Bool.or_false])]
    · have ih := cntU_usd hu n (by omega)
      have h1 : usd u i n = u n := by unfold usd; rw [decide_eq_false (by omega), Bool.or_false]
      rw [h1]
      split <;> omega
theorem mostK_all {J : Jo} {g : (Nat → Bool) → Int → Int} {u : Nat → Bool} {t : Int} : ∀ k, (∀ i, i < k → u i = true) → mostK J g u t k = 0
  | 0, _ => rfl
  | k + 1, h => by
    show (if u k then mostK J g u t k else _) = 0
    rw [h k (by omega), if_pos rfl]
    exact mostK_all k (fun i hi => h i (by omega))
theorem mostK_bd {J : Jo} {g : (Nat → Bool) → Int → Int} {u : Nat → Bool} {t A B : Int} (hA : ∀ i, i < J.n → J.wo i ≤ A) (hB : ∀ u t, g u t ≤ B) (h0 : 0 ≤ A + B) : ∀ k, k ≤ J.n → mostK J g u t k ≤ A + B
  | 0, _ => h0
  | k + 1, hk => by
    have ih := mostK_bd (u := u) (t := t) hA hB h0 k (by omega)
    show (if u k then mostK J g u t k else _) ≤ _
    split
    · exact ih
    · split
      · exact ih
      · split
        · have h1 := hA k (by omega)
          rename_i a _ _
          have h2 := hB (usd u k) (a + J.lo k)
          omega
        · exact ih
theorem mostF_bd {J : Jo} {A : Int} (hA : ∀ i, i < J.n → J.wo i ≤ A) (h0 : 0 ≤ A) : ∀ (f : Nat) (u : Nat → Bool) (t : Int), mostF J f u t ≤ (f : Int) * A
  | 0, _, _ => by
    show (0 : Int) ≤ _
    simp
  | f + 1, u, t => by
    have e : ((f + 1 : Nat) : Int) * A = A + (f : Int) * A := by
      rw [Int.natCast_add, Int.add_mul]
      simp
      omega
    rw [e]
    have hf : (0 : Int) ≤ (f : Int) * A := Int.mul_nonneg (by omega) h0
    exact mostK_bd hA (fun u t => mostF_bd hA h0 f u t) (by omega) J.n (Nat.le_refl _)
/-- which jobs are used, in block g. -/
structure UsR (w : World) (g n : Nat) (u : Nat → Bool) : Prop where
  cell : ∀ i, i < n → w.cell? ⟨g, i, none⟩ = some (.bool (u i))
  fz : ∀ o, w.frozen? ⟨g, o, none⟩ = false
  lt : g < w.heap.size
theorem UsR.below {w v : World} {g n : Nat} {u : Nat → Bool} (h : UsR w g n u) (b : Below w.heap.size w v) : UsR v g n u :=
  ⟨fun i hi => (b.cell (p := ⟨g, i, none⟩) h.lt).trans (h.cell i hi), fun o => (b.frozen (p := ⟨g, o, none⟩) h.lt).trans (h.fz o), Nat.lt_of_lt_of_le h.lt b.size⟩
theorem UsR.put {w : World} {g n : Nat} {u u' : Nat → Bool} (h : UsR w g n u) {i : Nat} (hi : i < n) (b : Bool) (h1 : u' i = b) (h2 : ∀ j, j ≠ i → u' j = u j) : UsR (w.setCell ⟨g, i, none⟩ (.bool b)) g n u' := by
  refine ⟨fun k hk => ?_, fun o => by rw [World.frozen?_setCell]; exact h.fz o, by simpa using h.lt⟩
  by_cases e : k = i
  · subst e
    rw [World.cell?_setCell_same _ _ _ (h.cell k hk), h1]
  · rw [World.cell?_setCell_other _ _ _ _ (fun q => e (by injection q with _ q; exact q.symm)), h.cell k hk, h2 k e]
def MfPost (g n : Nat) (u : Nat → Bool) (m : Int) (w : World) (e : Ending) (w' : World) : Prop := e = .returned (.int .i64 m) ∧ UsR w' g n u ∧ Below g w w'
set_option maxRecDepth 100000 in
set_option maxHeartbeats 12800000 in
theorem rmost_step {ad : Option Addr} {cap g : Nat} {l : List Jb} (hn : l.length ≤ 6) (hk : ∀ k, k < l.length → (l.getD k jb0).Ok) (G : (Nat → Bool) → Int → Int) (hG : ∀ u t, 0 ≤ G u t ∧ G u t ≤ 6597069766656) (u : Nat → Bool)
    (IH : ∀ k, k < l.length → u k = false → ∀ (w' : World) (t' : Int), -4611686018427387904 ≤ t' ∧ t' ≤ 4611686018427387904 → UsR w' g l.length (usd u k) → (∀ v, Below g w' v → JbCame v ad l) → Calls Tryd.prog 33 #[.slice ad l.length cap, .slice (some ⟨g, 0, none⟩) l.length l.length, .int .i64 t'] w' (MfPost g l.length (usd u k) (G (usd u k) t') w'))
    {w : World} {t : Int} (ht : -4611686018427387904 ≤ t ∧ t ≤ 4611686018427387904) (hU : UsR w g l.length u) (hl : ∀ v, Below g w v → JbCame v ad l) :
    Calls Tryd.prog 33 #[.slice ad l.length cap, .slice (some ⟨g, 0, none⟩) l.length l.length, .int .i64 t] w (MfPost g l.length u (mostK (jo l) G u t l.length) w) := by
  have HIH := hideR IH
  have HL := hideR hl
  have HOk := hideR hk
  have HU0 := hideR hU
  have HG := hideR hG
  have HStep : HeldR (∀ i, mostK (jo l) G u t (i + 1) = if u i then mostK (jo l) G u t i else match soF (l.getD i jb0).lo t (l.getD i jb0).ws with
    | none => mostK (jo l) G u t i
    | some a => if mostK (jo l) G u t i < (l.getD i jb0).wo + G (usd u i) (a + (l.getD i jb0).lo) then (l.getD i jb0).wo + G (usd u i) (a + (l.getD i jb0).lo) else mostK (jo l) G u t i) := hideR (fun _ => rfl)
  have HM0 : HeldR (mostK (jo l) G u t 0 = 0) := hideR rfl
  have HMb : HeldR (∀ i, 0 ≤ mostK (jo l) G u t i) := hideR (fun i => mostK_nn i)
  have HP : HeldR (∀ m w', mostK (jo l) G u t l.length = m → UsR w' g l.length u → Below g w w' → MfPost g l.length u (mostK (jo l) G u t l.length) w (.returned (.int .i64 m)) w') := hideR (fun m w' h1 h2 h3 => by rw [h1]; exact ⟨rfl, h2, h3⟩)
  generalize MfPost g l.length u (mostK (jo l) G u t l.length) w = POST at *
  generalize mostK (jo l) G u t = MK at *
  obtain ⟨n, hn0⟩ : ∃ n, l.length = n := ⟨_, rfl⟩
  have Hn := hideR hn0
  rw [hn0] at hn HIH HU0 HP ⊢
  clear IH hl hk hU hG hn0
  go_enter Tryd.func33, Tryd.ntmps33
  go_wp2_with fail
  go_loopw [7, 8] (fun bv iv wl => ∃ (i : Nat) (b : Int), i ≤ n ∧ iv = .int .i64 (i : Nat) ∧ bv = .int .i64 b ∧ HeldR (MK i = b) ∧ HeldR (UsR wl g n u) ∧ HeldR (Below g w wl)) (fun _ iv _ => n + 1 - (intOf iv).toNat)
  case atStart => exact ⟨0, 0, by omega, rfl, rfl, HM0, HU0, hideR (Below.refl _ _)⟩
  case round =>
    clear HU0 HM0
    obtain ⟨i, b, hi, rfl, rfl, HM, HU, HB⟩ := hrel
    by_cases q : i < n
    case neg =>
      obtain rfl : i = n := by omega
      have ti : decide ((i : Int) < (i : Int)) = false := decide_eq_false (by omega)
      have tin : decide (i < i) = false := decide_eq_false (by omega)
      have HQ := hideR (unhideR HP b wr (unhideR HM) (unhideR HU) (unhideR HB))
      clear HP HM HU HB HStep HIH HL HOk HMb HG
      go_wp2
      exact unhideR HQ
    have ti : decide ((i : Int) < (n : Int)) = true := decide_eq_true (by omega)
    have tin : decide (i < n) = true := decide_eq_true q
    have wi : IntKind.i64.wrap ((i : Int) + 1) = (i : Int) + 1 := iwrap (by omega) (by omega)
    have hii : (i : Int) < (n : Int) := by omega
    have HS := hideR (unhideR HStep i)
    rw [unhideR HM] at HS
    have c9 := (unhideR HU).cell i q
    have hgl := (unhideR HU).lt
    cases hu : u i
    case true =>
      rw [hu] at c9 HS
      rw [if_pos rfl] at HS
      clear HP HM HStep HIH HL HOk HMb HG
      go_wp2
      exact ⟨⟨i + 1, b, by omega, by go_num, rfl, HS, HU, HB⟩, by simp [intOf]; omega⟩
    rw [hu] at c9 HS
    rw [if_neg (by decide)] at HS
    obtain ⟨bb, off, had, hbb, hJb⟩ := (unhideR HL wr (unhideR HB)).at_ i (by rw [unhideR Hn]; exact q)
    have HJv : HeldR (∀ v, Below g wr v → JbCame v ad l) := hideR (fun v hv => unhideR HL v ((unhideR HB).trans hv))
    have hok := unhideR HOk i (by rw [unhideR Hn]; exact q)
    have HI := hideR (unhideR HIH i q hu)
    have HJw : HeldR (∀ v, Below g wr v → ∃ b' o', ad = some ⟨b', o', none⟩ ∧ JbAt v b' (o' + i * 4) (l.getD i jb0)) := hideR (fun v hv => by
      obtain ⟨b', o', e', _, h'⟩ := (unhideR HJv v hv).at_ i (by rw [unhideR Hn]; exact q)
      exact ⟨b', o', e', h'⟩)
    subst had
    have HJw2 : HeldR (∀ v, Below g wr v → v.cell? ⟨bb, off + i * 4 + 2, none⟩ = some (.int .i64 (l.getD i jb0).lo) ∧ v.cell? ⟨bb, off + i * 4 + 3, none⟩ = some (.int .i64 (l.getD i jb0).wo)) := hideR (fun v hv => by
      obtain ⟨b', o', e', h'⟩ := unhideR HJw v hv
      cases e'
      exact ⟨h'.c2, h'.c3⟩)
    obtain ⟨a2, c2, hj1, hs2⟩ := hJb.c1
    have hj0 := hJb.c0
    have hj2 := hJb.c2
    have hj3 := hJb.c3
    have hmb := unhideR HMb i
    rw [unhideR HM] at hmb
    clear hJb HJw HM HStep HIH HOk HMb HL HP
    generalize l.getD i jb0 = j at *
    have hrs := rsoon_any (c2 := c2) hs2 hok t ht
    unfold jbV at hrs
    unfold RsPost at hrs
    have hl1 := hok.l1
    have hl2 := hok.l2
    have hw1 := hok.w1
    have hw2 := hok.w2
    have hsb : ∀ a, soF j.lo t j.ws = some a → -1152921504606846976 ≤ a ∧ a + j.lo ≤ 1152921504606846976 := fun a ha => so_bd hok ha
    have HSb := hideR hsb
    clear hsb hok hs2
    generalize soF j.lo t j.ws = o at *
    go_wp2_with fail
    refine hrs.mono ?_
    rintro e u2 ⟨rfl, k2⟩
    have HU2 := hideR ((unhideR HU).below k2)
    have HB2 := hideR ((unhideR HB).trans (k2.mono (by omega)))
    have k2g : Below g wr u2 := k2.mono (by omega)
    have HK2 := hideR k2g
    clear hrs k2 k2g hj0 hj1 hj2 hj3 c9 HU HB
    cases o with
    | none =>
      have HS2 : HeldR (MK (i + 1) = b) := hideR (unhideR HS)
      clear HS HI HJv HJw2 HSb HK2
      simp only [Option.getD_none, Option.isSome_none]
      go_wp2
      exact ⟨⟨i + 1, b, by omega, by go_num, rfl, HS2, HU2, HB2⟩, by simp [intOf]; omega⟩
    | some at_ =>
      have hat := unhideR HSb at_ rfl
      have hGb := unhideR HG (usd u i) (at_ + j.lo)
      simp only [Option.getD_some, Option.isSome_some]
      have HS2 : HeldR (MK (i + 1) = if b < j.wo + G (usd u i) (at_ + j.lo) then j.wo + G (usd u i) (at_ + j.lo) else b) := hideR (unhideR HS)
      have wat : IntKind.i64.wrap (at_ + j.lo) = at_ + j.lo := iwrap (by omega) (by omega)
      have c9 := (unhideR HU2).cell i q
      have f9 := (unhideR HU2).fz i
      rw [hu] at c9
      have HU3 : HeldR (UsR (u2.setCell ⟨g, i, none⟩ (.bool true)) g n (usd u i)) := hideR ((unhideR HU2).put q true (by unfold usd; simp) (fun jj hjj => by unfold usd; rw [decide_eq_false hjj, Bool.or_false]))
      have HB3 : HeldR (Below g w (u2.setCell ⟨g, i, none⟩ (.bool true))) := hideR ((unhideR HB2).setCell (p := ⟨g, i, none⟩) (Nat.le_refl _) _)
      have HK3 : HeldR (Below g wr (u2.setCell ⟨g, i, none⟩ (.bool true))) := hideR ((unhideR HK2).setCell (p := ⟨g, i, none⟩) (Nat.le_refl _) _)
      have hst := run_store Tryd.prog u2 ⟨g, i, none⟩ (.bool true) .plain rfl
      have HI2 : HeldR (∀ v, UsR v g n (usd u i) → Below g (u2.setCell ⟨g, i, none⟩ (.bool true)) v → Calls Tryd.prog 33 #[.slice (some ⟨bb, off, none⟩) n cap, .slice (some ⟨g, 0, none⟩) n n, .int .i64 (at_ + j.lo)] v (MfPost g n (usd u i) (G (usd u i) (at_ + j.lo)) v)) := hideR (fun v h1 h2 => unhideR HI v (at_ + j.lo) (by omega) h1 (fun v' h' => unhideR HJv v' ((unhideR HK3).trans (h2.trans h'))))
      have HJ3 : HeldR (∀ v, Below g (u2.setCell ⟨g, i, none⟩ (.bool true)) v → v.cell? ⟨bb, off + i * 4 + 2, none⟩ = some (.int .i64 j.lo) ∧ v.cell? ⟨bb, off + i * 4 + 3, none⟩ = some (.int .i64 j.wo)) := hideR (fun v hv => unhideR HJw2 v ((unhideR HK3).trans hv))
      clear HS HI HJv HJw2 HSb HK2 HU2 HB2 HK3
      generalize G (usd u i) (at_ + j.lo) = mv at *
      have wmv : IntKind.i64.wrap (j.wo + mv) = j.wo + mv := iwrap (by omega) (by omega)
      go_upto_region 9 with fail
      clear c9 f9 hst
      generalize u2.setCell ⟨g, i, none⟩ (.bool true) = u3 at *
      refine wp_region_letsC (fun v => UsR v g n (usd u i) ∧ Below g u3 v) ⟨(unhideR HU3).below (drawn_below u3 1), below_drewN (Below.refl g u3) 1⟩ [(· = .slice (some ⟨bb, off, none⟩) n cap), (· = .int .i64 (i : Nat)), (· = .pointer (some ⟨bb, off + i * 4, none⟩)), (· = .pointer (some ⟨bb, off + i * 4 + 3, none⟩)), (· = .int .i64 j.wo), (· = .slice (some ⟨bb, off, none⟩) n cap), (· = .slice (some ⟨g, 0, none⟩) n n), (· = .int .i64 at_), (· = .slice (some ⟨bb, off, none⟩) n cap), (· = .int .i64 (i : Nat)), (· = .pointer (some ⟨bb, off + i * 4, none⟩)), (· = .pointer (some ⟨bb, off + i * 4 + 2, none⟩)), (· = .int .i64 j.lo), (· = .int .i64 (at_ + j.lo)), (· = .int .i64 mv), (· = .int .i64 (j.wo + mv)), (· = .int .i64 (j.wo + mv))] (by kernel_rfl) (by kernel_rfl) ?_
      refine lexC_step (fun K hK => ⟨by kernel_rfl, ⟨_, rfl⟩, fun v hv => ?_, fun v hv => ?_⟩)
      · go_simp
        exact lUpon_c hv
      subst hv
      go_simp
      refine hK _ ?_
      clear hK K
      refine lexC_step (fun K hK => ⟨by kernel_rfl, ⟨_, rfl⟩, fun v hv => ?_, fun v hv => ?_⟩)
      · go_simp
        exact lUpon_c hv
      subst hv
      go_simp
      refine hK _ ?_
      clear hK K
      refine lexC_step (fun K hK => ⟨by kernel_rfl, ⟨_, rfl⟩, fun v hv => ?_, fun v hv => ?_⟩)
      · go_simp
        exact lUpon_c hv
      subst hv
      go_simp
      refine hK _ ?_
      clear hK K
      refine lexC_step (fun K hK => ⟨by kernel_rfl, ⟨_, rfl⟩, fun v hv => ?_, fun v hv => ?_⟩)
      · go_simp
        exact lUpon_c hv
      subst hv
      go_simp
      refine hK _ ?_
      clear hK K
      refine lexC_step (fun K hK => ⟨by kernel_rfl, ⟨_, rfl⟩, fun v hv => ?_, fun v hv => ?_⟩)
      · have y9 := (unhideR HJ3 v hv.2).2
        go_simp
        exact lUpon_c hv
      subst hv
      go_simp
      refine hK _ ?_
      clear hK K
      refine lexC_step (fun K hK => ⟨by kernel_rfl, ⟨_, rfl⟩, fun v hv => ?_, fun v hv => ?_⟩)
      · go_simp
        exact lUpon_c hv
      subst hv
      go_simp
      refine hK _ ?_
      clear hK K
      refine lexC_step (fun K hK => ⟨by kernel_rfl, ⟨_, rfl⟩, fun v hv => ?_, fun v hv => ?_⟩)
      · go_simp
        exact lUpon_c hv
      subst hv
      go_simp
      refine hK _ ?_
      clear hK K
      refine lexC_step (fun K hK => ⟨by kernel_rfl, ⟨_, rfl⟩, fun v hv => ?_, fun v hv => ?_⟩)
      · go_simp
        exact lUpon_c hv
      subst hv
      go_simp
      refine hK _ ?_
      clear hK K
      refine lexC_step (fun K hK => ⟨by kernel_rfl, ⟨_, rfl⟩, fun v hv => ?_, fun v hv => ?_⟩)
      · go_simp
        exact lUpon_c hv
      subst hv
      go_simp
      refine hK _ ?_
      clear hK K
      refine lexC_step (fun K hK => ⟨by kernel_rfl, ⟨_, rfl⟩, fun v hv => ?_, fun v hv => ?_⟩)
      · go_simp
        exact lUpon_c hv
      subst hv
      go_simp
      refine hK _ ?_
      clear hK K
      refine lexC_step (fun K hK => ⟨by kernel_rfl, ⟨_, rfl⟩, fun v hv => ?_, fun v hv => ?_⟩)
      · go_simp
        exact lUpon_c hv
      subst hv
      go_simp
      refine hK _ ?_
      clear hK K
      refine lexC_step (fun K hK => ⟨by kernel_rfl, ⟨_, rfl⟩, fun v hv => ?_, fun v hv => ?_⟩)
      · go_simp
        exact lUpon_c hv
      subst hv
      go_simp
      refine hK _ ?_
      clear hK K
      refine lexC_step (fun K hK => ⟨by kernel_rfl, ⟨_, rfl⟩, fun v hv => ?_, fun v hv => ?_⟩)
      · have y9 := (unhideR HJ3 v hv.2).1
        go_simp
        exact lUpon_c hv
      subst hv
      go_simp
      refine hK _ ?_
      clear hK K
      refine lexC_step (fun K hK => ⟨by kernel_rfl, ⟨_, rfl⟩, fun v hv => ?_, fun v hv => ?_⟩)
      · go_simp
        exact lUpon_c hv
      subst hv
      go_simp
      refine hK _ ?_
      clear hK K
      refine lexC_step (fun K hK => ⟨by kernel_rfl, ⟨_, rfl⟩, fun v hv => ?_, fun v hv => ?_⟩)
      · go_simp
        refine (unhideR HI2 v hv.1 hv.2).mono ?_
        rintro e w9 ⟨rfl, h1, h2⟩
        exact ⟨_, rfl, rfl, h1, hv.2.trans h2⟩
      subst hv
      go_simp
      refine hK _ ?_
      clear hK K
      refine lexC_step (fun K hK => ⟨by kernel_rfl, ⟨_, rfl⟩, fun v hv => ?_, fun v hv => ?_⟩)
      · go_simp
        exact lUpon_c hv
      subst hv
      go_simp
      refine hK _ ?_
      clear hK K
      refine lexC_step (fun K hK => ⟨by kernel_rfl, ⟨_, rfl⟩, fun v hv => ?_, fun v hv => ?_⟩)
      · go_simp
        exact lUpon_c hv
      subst hv
      go_simp
      refine hK _ ?_
      clear hK K
      refine lexL_end (fun v5 hv => ?_)
      have HU5 := hideR hv.1
      have HB5 := hideR ((unhideR HB3).trans hv.2)
      clear hv HI2 HJ3 HU3 HB3
      have c5 := (unhideR HU5).cell i q
      have f5 := (unhideR HU5).fz i
      have HU6 : HeldR (UsR (v5.setCell ⟨g, i, none⟩ (.bool false)) g n u) := hideR ((unhideR HU5).put q false hu (fun jj hjj => by unfold usd; rw [decide_eq_false hjj, Bool.or_false]))
      have HB6 : HeldR (Below g w (v5.setCell ⟨g, i, none⟩ (.bool false))) := hideR ((unhideR HB5).setCell (p := ⟨g, i, none⟩) (Nat.le_refl _) _)
      have hst := run_store Tryd.prog v5 ⟨g, i, none⟩ (.bool false) .plain rfl
      clear HU5 HB5
      by_cases qb : b < j.wo + mv
      case neg =>
        have tb : decide (b < j.wo + mv) = false := decide_eq_false qb
        rw [if_neg qb] at HS2
        go_wp2
        exact ⟨⟨i + 1, b, by omega, by go_num, rfl, HS2, HU6, HB6⟩, by simp [intOf]; omega⟩
      have tb : decide (b < j.wo + mv) = true := decide_eq_true qb
      rw [if_pos qb] at HS2
      go_wp2
      exact ⟨⟨i + 1, j.wo + mv, by omega, by go_num, rfl, HS2, HU6, HB6⟩, by simp [intOf]; omega⟩
theorem rmost_any {ad : Option Addr} {cap g : Nat} {l : List Jb} (hn : l.length ≤ 6) (hk : ∀ k, k < l.length → (l.getD k jb0).Ok) : ∀ (f : Nat) (u : Nat → Bool), f ≤ 6 → cntU u l.length ≤ f → ∀ {w : World} {t : Int}, -4611686018427387904 ≤ t ∧ t ≤ 4611686018427387904 → UsR w g l.length u → (∀ v, Below g w v → JbCame v ad l) →
    Calls Tryd.prog 33 #[.slice ad l.length cap, .slice (some ⟨g, 0, none⟩) l.length l.length, .int .i64 t] w (MfPost g l.length u (mostF (jo l) f u t) w)
  | 0, u, _, hc, w, t, ht, hU, hl => by
    have h0 : ∀ i, i < l.length → u i = true := cntU_zero (by omega)
    have := rmost_step (cap := cap) hn hk (fun _ _ => 0) (fun _ _ => ⟨Int.le_refl _, by decide⟩) u (fun k hk2 hku => by rw [h0 k hk2] at hku; cases hku) ht hU hl
    rw [mostK_all l.length h0] at this
    exact this
  | f + 1, u, hf, hc, w, t, ht, hU, hl => rmost_step hn hk (mostF (jo l) f) (fun u t => ⟨mostF_nn f u t, by
      have h1 := mostF_bd (J := jo l) (A := 1099511627776) (fun i hi => (hk i hi).w2) (by decide) f u t
      have h2 : (f : Int) * 1099511627776 ≤ 6 * 1099511627776 := Int.mul_le_mul_of_nonneg_right (by omega) (by decide)
      omega⟩) u (fun k hk2 hku w' t' ht' hU' hl' => rmost_any hn hk f (usd u k) (by omega) (by have := cntU_usd hku l.length hk2; omega) ht' hU' hl') ht hU hl
end Go.Proofs.YtoacdaemhcbbhaaDoor
