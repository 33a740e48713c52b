/-
  What is read of a log's bytes: the document's ResultsOf, by contract.
-/
import Derived.Test.YtfonpobdnhifganNgD2
import Derived.Laws.AppendOwnNone
import Derived.Deep.CutRange
import Derived.Deep.QuietTactic
namespace Go.Proofs.Ytfonpobdnhifgan
open Go Go.RowKit

def valRs (s : Res) : List Value := [.int .i64 s.i, .int .i64 s.s, .int .i64 s.l]
def flatRs : List Res → List Value
  | [] => []
  | s :: L => valRs s ++ flatRs L
theorem flatRs_append : ∀ (L M : List Res), flatRs (L ++ M) = flatRs L ++ flatRs M
  | [], _ => rfl
  | q :: L, M => by
    show valRs q ++ flatRs (L ++ M) = (valRs q ++ flatRs L) ++ flatRs M
    rw [flatRs_append L M, List.append_assoc]
theorem flatRs_length : ∀ L : List Res, (flatRs L).length = L.length * 3
  | [] => rfl
  | q :: L => by
    show (valRs q ++ flatRs L).length = _
    rw [List.length_append, flatRs_length L, List.length_cons]
    simp [valRs]
    omega
theorem flatRs_at : ∀ (L : List Res) (j i : Nat), j < L.length → i < 3 → (flatRs L)[j * 3 + i]? = (valRs (L.getD j res0))[i]?
  | [], j, i, h, _ => absurd h (Nat.not_lt_zero j)
  | q :: L, 0, i, _, hi => by
    show (valRs q ++ flatRs L)[0 * 3 + i]? = _
    rw [Nat.zero_mul, Nat.zero_add, List.getElem?_append_left (by simp [valRs]; omega)]
    rfl
  | q :: L, j + 1, i, h, hi => by
    show (valRs q ++ flatRs L)[(j + 1) * 3 + i]? = _
    rw [List.getElem?_append_right (by simp [valRs]; omega)]
    have e : (j + 1) * 3 + i - (valRs q).length = j * 3 + i := by simp [valRs]; omega
    rw [e, flatRs_at L j i (by simpa using h) hi]
    rfl
theorem flatRs_one : ∀ (L : List Res), ∀ u ∈ flatRs L, u.oneCell' = true
  | [], u, h => by cases h
  | q :: L, u, h => by
    rcases List.mem_append.1 h with h | h
    · simp only [valRs, List.mem_cons, List.not_mem_nil, or_false] at h
      rcases h with rfl | rfl | rfl <;> rfl
    · exact flatRs_one L u h
theorem RsAt_of {w : World} {b o : Nat} {s : Res} (h : ∀ i, i < 3 → w.cell? ⟨b, o + i, none⟩ = (valRs s)[i]?) : RsAt w b o s := ⟨h 0 (by decide), h 1 (by decide), h 2 (by decide)⟩
def RsOwn (w : World) (B : Nat) (t : TypeId) (v : Value) (L : List Res) : Prop := w.ownsRow B t 3 v L.length (flatRs L)
theorem RsOwn.came {w : World} {B : Nat} {t : TypeId} {v : Value} {L : List Res} (h : RsOwn w B t v L) : ∃ ad cap, v = .slice ad L.length cap ∧ RsCame w ad L := by
  obtain ⟨_, h⟩ := h
  rcases h with ⟨h1, h2⟩ | ⟨g, cap, cur, rfl, hB, hg, hc, _, hs, ht⟩
  · have e : L = [] := List.length_eq_zero_iff.1 h2
    subst e
    exact ⟨none, 0, h1, ⟨fun k hk => absurd hk (Nat.not_lt_zero k)⟩⟩
  · refine ⟨_, cap, rfl, ⟨fun j hj => ⟨g, 0, rfl, (Array.getElem?_eq_some_iff.1 hg).1, ?_⟩⟩⟩
    refine RsAt_of (fun i hi => ?_)
    rw [← flatRs_at L j i hj hi, ← ht, List.getElem?_take, if_pos (by omega)]
    simp only [World.cell?, hg]
    simp
theorem RsOwn.cells {w : World} {B g cap : Nat} {t : TypeId} {L : List Res} (h : RsOwn w B t (.slice (some ⟨g, 0, none⟩) L.length cap) L) : ∀ j u, (flatRs L)[j]? = some u → w.cell? ((⟨g, 0, none⟩ : Addr).add j) = some u := by
  intro j u hu
  rcases h.2 with ⟨h1, h2⟩ | ⟨g', cap', cur, e, hB, hg, hc, _, hs, ht⟩
  · cases h1
  · simp only [Value.slice.injEq, Option.some.injEq, Addr.mk.injEq] at e
    obtain ⟨⟨rfl, _⟩, _, _⟩ := e
    rw [← ht, List.getElem?_take] at hu
    split at hu
    · rw [add_pl2, Nat.zero_add]
      simp only [World.cell?, hg]
      simpa using hu
    · cases hu
theorem infoR : (Try.prog.info? 30).map (fun i => (i.zero, i.size, i.bytes)) = some (some (.agg #[.int .i64 0, .int .i64 0, .int .i64 0]), 3, 24) := by kernel_rfl
def Sl1R (v : Value) : Prop := ∃ g : Nat, v = .slice (some ⟨g, 0, none⟩) 1 1
def On1R (r : Res) (v : Value) (w : World) : Prop := ∀ g : Nat, v = .slice (some ⟨g, 0, none⟩) 1 1 → w.heap[g]? = some (.cells #[.int .i64 r.i, .int .i64 r.s, .int .i64 r.l] 30)
theorem on1R_stb (r : Res) (v : Value) : Stb (On1R r v) := fun _ _ h k g q => keepB (h g q) k
def SlLg (n : Nat) (v : Value) : Prop := ∃ (ad : Option Addr) (c : Nat), v = .slice ad n c
def OnLg (l : Bs) (v : Value) (w : World) : Prop := ∀ ad c, v = .slice ad l.length c → BAt w ad l
theorem onLg_stb (l : Bs) (v : Value) : Stb (OnLg l v) := fun _ _ h k ad c q => (h ad c q).below k
theorem strB_inj {a b : Bs} : ((strB a).toList == (strB b).toList) = decide (a = b) := by
  have e : ∀ l : Bs, (strB l).toList = l := fun l => by simp [strB, ByteArray.toList_eq]
  rw [e, e, Bool.eq_iff_iff]
  simp
set_option maxRecDepth 100000 in
set_option maxHeartbeats 6400000 in
theorem resultsOf_any {w : World} {ad : Option Addr} {cap : Nat} {b : Bs} (h : BAt w ad b) (hb : b.length ≤ 100000) (hc : b.length ≤ cap) :
    Calls Try.prog 11 #[.slice ad b.length cap] w fun e w' => ∃ v, e = .returned v ∧ RsOwn w' w.heap.size 30 v (resV b) ∧ Below w.heap.size w w' := by
  obtain ⟨i0, hi0, hz0, hz1, hz2⟩ := info_parts infoR
  have HBt : HeldR (∀ u, Below w.heap.size w u → BAt u ad b) := hideR (fun u q => h.below q)
  obtain ⟨N, hN⟩ : ∃ N, b.length = N := ⟨_, rfl⟩
  have HN := hideR hN
  have HR0 : HeldR (resV b = resF b (N + 1) 0 []) := hideR (by rw [← hN]; rfl)
  have HRs : HeldR (∀ f k M, resF b (f + 1) k M = if 28 * (k + 1) ≤ N then (if logV (M ++ [resAt (nxB b k)]) = b.take (28 * (k + 1)) then resF b f (k + 1) (M ++ [resAt (nxB b k)]) else M) else M) := hideR (fun f k M => by rw [← hN]; rfl)
  generalize resV b = RV at *
  rw [hN] at hb hc ⊢
  clear h hN
  go_enter Try.func11, Try.ntmps11
  go_wp2_with fail
  go_loopw [3, 4] (fun ov nv wl => ∃ (k nn : Nat) (M : List Res), nn ≤ N + 28 ∧ HeldR (nn = 28 * (k + 1) ∧ M.length = k ∧ k ≤ N ∧ RV = resF b (N + 1 - k) k M) ∧ nv = .int .i64 (nn : Nat) ∧ HeldR (RsOwn wl w.heap.size 30 ov M) ∧ HeldR (Below w.heap.size w wl)) (fun _ nv _ => N + 29 - (intOf nv).toNat)
  case atStart => exact ⟨0, 28, [], by omega, hideR ⟨rfl, rfl, by omega, unhideR HR0⟩, rfl, hideR (World.ownsRow_nil _ _ _ _), hideR (Below.refl _ _)⟩
  case round =>
    clear HR0
    obtain ⟨k, nn, M, hnn, HI, rfl, HO, HB⟩ := hrel
    obtain ⟨hk1, hk2, hk3, hk4⟩ := unhideR HI
    have hst := unhideR HRs (N - k) k M
    rw [show N - k + 1 = N + 1 - k by omega] at hst
    by_cases q : nn ≤ N
    case neg =>
      have tq : decide ((nn : Int) ≤ (N : Int)) = false := decide_eq_false (by omega)
      have tqn : decide (nn ≤ N) = false := decide_eq_false q
      rw [if_neg (by omega)] at hst
      have Hfin : HeldR (RV = M) := hideR (by rw [hk4, hst])
      clear hst hk1 hk2 hk3 hk4 HI q
      go_wp2
      go_ret
      exact ⟨_, rfl, by rw [unhideR Hfin]; exact unhideR HO, unhideR HB⟩
    case pos =>
      have tq : decide ((nn : Int) ≤ (N : Int)) = true := decide_eq_true (by omega)
      have tqn : decide (nn ≤ N) = true := decide_eq_true q
      rw [if_pos (by omega), ← hk4] at hst
      obtain ⟨p, hp⟩ : ∃ p : Nat, nn = p + 28 := ⟨nn - 28, by omega⟩
      have hpk : p = 28 * k := by omega
      have w1 : IntKind.i64.wrap ((nn : Int) - 28) = (p : Nat) := by rw [show (nn : Int) - 28 = (p : Nat) by omega]; exact iwrap (by omega) (by omega)
      have w2 : IntKind.i64.wrap ((nn : Int) - 4) = ((p + 24 : Nat) : Int) := by rw [show (nn : Int) - 4 = ((p + 24 : Nat) : Int) by omega]; exact iwrap (by omega) (by omega)
      have w3 : IntKind.i64.wrap ((nn : Int) + 28) = (nn : Int) + 28 := iwrap (by omega) (by omega)
      obtain ⟨bb, off, had, hbb, _⟩ := (unhideR HBt wr (unhideR HB)).at_ 0 (by rw [unhideR HN]; omega)
      subst had
      have HX : HeldR (nxB b k = (b.drop p).take 24) := hideR (by unfold nxB; rw [hpk])
      have Hst := hideR hst
      have Hk := hideR (And.intro hk1 hk2)
      have hp1 : (p : Int) + 24 ≤ (cap : Int) := by omega
      have hp2 : p + 24 ≤ cap := by omega
      have hp3 : (p : Int) ≤ (cap : Int) := by omega
      have hp4 : nn ≤ cap := by omega
      have hp5 : p + 24 ≤ N := by omega
      have hM : M.length ≤ 3999 := by omega
      have Hp := hideR hp
      clear hk1 hk2 hk3 hk4 hp hpk hst HI
      go_upto_region 7 with fail
      rw [Nat.add_sub_cancel_left]
      go_cut [6] from 19 to 22 (fun s6 wx => HeldR (RsOwn wx wr.heap.size 30 s6 M) ∧ HeldR (Below wr.heap.size wr wx))
      case' first =>
        have hO := unhideR HO
        rcases hO.2 with ⟨h1, h2⟩ | ⟨g, c1, cur, h1, hgB, hg, _⟩
        · subst h1
          have hM0 : M = [] := List.length_eq_zero_iff.1 h2
          go_wp2
          go_meet
          exact ⟨hideR (by rw [hM0]; exact World.ownsRow_nil _ _ _ _), hideR (Below.refl _ _)⟩
        · subst h1
          go_wp2_with (first
            | (at_builtin; refine wpList_append_own _ rfl _ _ 22 rfl wr.heap.size 30 i0 (.agg #[.int .i64 0, .int .i64 0, .int .i64 0]) 3 24 Try.underlying22 hi0 hz0 hz1 hz2 rfl (by decide) _ 0 [] rfl (World.ownsRow_nil _ _ _ _) ⟨g, 0, none⟩ M.length c1 (flatRs M) rfl (flatRs_length M) ?c1 (flatRs_one M) ?c3 ?c4 (Nat.le_refl _) ?_))
          case c1 => exact RsOwn.cells hO
          case c3 => unfold maxLen; omega
          case c4 => omega
          intro v6 w6 hown hgrow _
          have HO6 : HeldR (RsOwn w6 wr.heap.size 30 v6 M) := hideR hown
          have HB6 : HeldR (Below wr.heap.size wr w6) := hideR ((Below.refl _ _).grown hgrow (Nat.le_refl _) (fun k e => by cases e))
          clear hown hgrow
          go_wp2
          go_meet
          exact ⟨HO6, HB6⟩
      obtain ⟨HO6, HB6⟩ := hcut
      obtain ⟨a6, c6, e6, _⟩ := (unhideR HO6).came
      subst e6
      obtain ⟨cx, hcx⟩ : ∃ cx, cap - p = cx := ⟨_, rfl⟩
      have hcx1 : 24 ≤ cx := by omega
      rw [hcx]
      clear hcx
      have HBw := hideR ((unhideR HB).trans (unhideR HB6 |>.mono (unhideR HB).size))
      have part : ∀ s, s + 8 ≤ 24 → ∀ v, Below wc.heap.size wc v → BAt v (some ⟨bb, off + p + s, none⟩) ((b.drop (p + s)).take 8) ∧ ((b.drop (p + s)).take 8).length = 8 := fun s hs v hv => by
        have hb := unhideR HBt v (below_go (unhideR HBw) hv)
        have h1 := hb.part (p + s) 8
        rw [← Nat.add_assoc] at h1
        exact ⟨h1, by rw [List.length_take, List.length_drop, unhideR HN]; omega⟩
      have HN0 : HeldR (∀ v, Below wc.heap.size wc v → Calls Try.prog 20 #[.slice (some ⟨bb, off + p, none⟩) 8 cx] v fun e w' => e = .returned (.int .i64 (resAt (nxB b k)).i) ∧ w' = v) := hideR (fun v hv => by
        have h1 := part 0 (by omega) v hv
        have h2 := numberOf_any (cap := cx) h1.1 h1.2
        have e : (resAt (nxB b k)).i = i64 (unLe ((b.drop (p + 0)).take 8)) := by
          unfold resAt
          rw [unhideR HX]
          simp only [List.take_take]
          rfl
        rw [e]
        exact h2)
      have HN1 : HeldR (∀ v, Below wc.heap.size wc v → Calls Try.prog 20 #[.slice (some ⟨bb, off + p + 8, none⟩) 8 (cx - 8)] v fun e w' => e = .returned (.int .i64 (resAt (nxB b k)).s) ∧ w' = v) := hideR (fun v hv => by
        have h1 := part 8 (by omega) v hv
        have h2 := numberOf_any (cap := cx - 8) h1.1 h1.2
        have e : (resAt (nxB b k)).s = i64 (unLe ((b.drop (p + 8)).take 8)) := by
          unfold resAt
          rw [unhideR HX]
          simp only [List.drop_take, List.take_take, List.drop_drop]
          rfl
        rw [e]
        exact h2)
      have HN2 : HeldR (∀ v, Below wc.heap.size wc v → Calls Try.prog 20 #[.slice (some ⟨bb, off + p + 16, none⟩) 8 (cx - 16)] v fun e w' => e = .returned (.int .i64 (resAt (nxB b k)).l) ∧ w' = v) := hideR (fun v hv => by
        have h1 := part 16 (by omega) v hv
        have h2 := numberOf_any (cap := cx - 16) h1.1 h1.2
        have e : (resAt (nxB b k)).l = i64 (unLe ((b.drop (p + 16)).take 8)) := by
          unfold resAt
          rw [unhideR HX]
          simp only [List.drop_take, List.take_take, List.drop_drop]
          rfl
        rw [e]
        exact h2)
      have hx8 : (8 : Int) ≤ (cx : Int) := by omega
      have hx16 : (16 : Int) ≤ (cx : Int) := by omega
      have hx0 : ¬ cx = 8 := by omega
      have hx1 : ¬ cx = 16 := by omega
      clear part
      generalize resAt (nxB b k) = r at *
      go_upto_region 8 with fail
      refine wp_region_made 1 #[true, true, true, true, true, true, true, true, true, true, true, true, false, false] [.lets (· = .slice a6 M.length c6),
        .lets (· = .slice (some ⟨bb, off + p, none⟩) 24 cx),
        .lets (· = .slice (some ⟨bb, off + p, none⟩) 8 cx),
        .lets (· = .int .i64 r.i),
        .lets (· = .slice (some ⟨bb, off + p, none⟩) 24 cx),
        .lets (· = .slice (some ⟨bb, off + p + 8, none⟩) 8 (cx - 8)),
        .lets (· = .int .i64 r.s),
        .lets (· = .slice (some ⟨bb, off + p, none⟩) 24 cx),
        .lets (· = .slice (some ⟨bb, off + p + 16, none⟩) 8 (cx - 16)),
        .lets (· = .int .i64 r.l),
        .lets (· = .agg #[.int .i64 r.i, .int .i64 r.s, .int .i64 r.l]),
        .made Sl1R (On1R r)] [11] [] (by kernel_rfl) (by kernel_rfl) rfl ?kinds (by kernel_rfl) (by kernel_rfl) (by kernel_rfl) ?_
      case kinds =>
        constructor
        · intro i h
          rcases i with _ | _ | _ | _ | _ | _ | _ | _ | _ | _ | _ | _ | i <;> simp [Kx.isMade] at h ⊢
        · intro i h
          rcases i with _ | _ | _ | _ | _ | _ | _ | _ | _ | _ | _ | _ | i <;> simp [Kx.isUse] at h
      refine lexX_step (fun K hK => ⟨by kernel_rfl, ⟨_, rfl⟩, fun v hv => ?_, fun v hv => ?_⟩)
      · go_simp
        exact mUpon_b
      subst hv
      go_simp
      refine hK _ ?_
      clear hK K
      refine lexX_step (fun K hK => ⟨by kernel_rfl, ⟨_, rfl⟩, fun v hv => ?_, fun v hv => ?_⟩)
      · go_simp
        exact mUpon_b
      subst hv
      go_simp
      refine hK _ ?_
      clear hK K
      refine lexX_step (fun K hK => ⟨by kernel_rfl, ⟨_, rfl⟩, fun v hv => ?_, fun v hv => ?_⟩)
      · go_simp
        exact mUpon_b
      subst hv
      go_simp
      refine hK _ ?_
      clear hK K
      refine lexX_step (fun K hK => ⟨by kernel_rfl, ⟨_, rfl⟩, fun v hv => ?_, fun v hv => ?_⟩)
      · have hx := (unhideR HN0) v hv
        go_simp
        refine hx.mono ?_
        rintro e w9 ⟨rfl, rfl⟩
        exact ⟨_, rfl, rfl, Below.refl _ _⟩
      subst hv
      go_simp
      refine hK _ ?_
      clear hK K
      refine lexX_step (fun K hK => ⟨by kernel_rfl, ⟨_, rfl⟩, fun v hv => ?_, fun v hv => ?_⟩)
      · go_simp
        exact mUpon_b
      subst hv
      go_simp
      refine hK _ ?_
      clear hK K
      refine lexX_step (fun K hK => ⟨by kernel_rfl, ⟨_, rfl⟩, fun v hv => ?_, fun v hv => ?_⟩)
      · go_simp
        exact mUpon_b
      subst hv
      go_simp
      refine hK _ ?_
      clear hK K
      refine lexX_step (fun K hK => ⟨by kernel_rfl, ⟨_, rfl⟩, fun v hv => ?_, fun v hv => ?_⟩)
      · have hx := (unhideR HN1) v hv
        go_simp
        refine hx.mono ?_
        rintro e w9 ⟨rfl, rfl⟩
        exact ⟨_, rfl, rfl, Below.refl _ _⟩
      subst hv
      go_simp
      refine hK _ ?_
      clear hK K
      refine lexX_step (fun K hK => ⟨by kernel_rfl, ⟨_, rfl⟩, fun v hv => ?_, fun v hv => ?_⟩)
      · go_simp
        exact mUpon_b
      subst hv
      go_simp
      refine hK _ ?_
      clear hK K
      refine lexX_step (fun K hK => ⟨by kernel_rfl, ⟨_, rfl⟩, fun v hv => ?_, fun v hv => ?_⟩)
      · go_simp
        exact mUpon_b
      subst hv
      go_simp
      refine hK _ ?_
      clear hK K
      refine lexX_step (fun K hK => ⟨by kernel_rfl, ⟨_, rfl⟩, fun v hv => ?_, fun v hv => ?_⟩)
      · have hx := (unhideR HN2) v hv
        go_simp
        refine hx.mono ?_
        rintro e w9 ⟨rfl, rfl⟩
        exact ⟨_, rfl, rfl, Below.refl _ _⟩
      subst hv
      go_simp
      refine hK _ ?_
      clear hK K
      refine lexX_step (fun K hK => ⟨by kernel_rfl, ⟨_, rfl⟩, fun v hv => ?_, fun v hv => ?_⟩)
      · go_simp
        exact mUpon_b
      subst hv
      go_simp
      refine hK _ ?_
      clear hK K
      refine lexX_made ⟨by kernel_rfl, ⟨_, 0, rfl⟩, on1R_stb _, fun v hv => ?_, ?_⟩
      · go_simp
        exact ⟨below_a v _, ⟨_, rfl⟩, fun q hq => by cases hq; exact alloc_last v _⟩
      rintro _ ⟨u9, rfl⟩ K9 hK9
      go_simp
      refine hK9 _ ?_
      clear hK9 K9
      refine lexX_end (fun v5 hv => ?_)
      have HO9 := hideR (hv.fact.2 _ rfl)
      have k5 := hv.low
      clear hv
      have hO5 : v5.ownsRow wr.heap.size 30 3 (.slice a6 M.length c6) M.length (flatRs M) := own_below2 (unhideR HO6) k5
      have HB5 := hideR ((unhideR HB6).trans (k5.mono (unhideR HB6).size))
      have hB5 : wr.heap.size ≤ v5.heap.size := (unhideR HB5).size
      refine wpAny_step (i := 12) (by kernel_rfl) rfl (by kernel_rfl) (fun K9 hK9 => ?_)
      refine wp_append_own _ _ _ 22 rfl wr.heap.size 30 i0 (.agg #[.int .i64 0, .int .i64 0, .int .i64 0]) 3 24 Try.underlying22 hi0 hz0 hz1 hz2 rfl (by decide) _ M.length (flatRs M) rfl hO5 ⟨u9, 0, none⟩ 1 1 (valRs r) rfl rfl ?q1 ?q2 ?q3 ?q4 ?q5 ?_
      case q1 =>
        intro j u hu
        rw [add_pl2, Nat.zero_add]
        rcases j with _ | _ | _ | j
        · rw [← hu]; exact (cells_at (unhideR HO9) 0 (by simp)).1
        · rw [← hu]; exact (cells_at (unhideR HO9) 1 (by simp)).1
        · rw [← hu]; exact (cells_at (unhideR HO9) 2 (by simp)).1
        · simp [valRs] at hu
      case q2 =>
        intro u hu
        simp only [valRs, List.mem_cons, List.not_mem_nil, or_false] at hu
        rcases hu with rfl | rfl | rfl <;> rfl
      case q3 => unfold maxLen; omega
      case q4 => omega
      case q5 => exact hB5
      intro v7 w7 hown hgrow _
      have HB7 := hideR ((unhideR HB5).grown hgrow hB5 (fun k e => (hO5.lt k e).1))
      have hO7 : RsOwn w7 wr.heap.size 30 v7 (M ++ [r]) := by
        unfold RsOwn
        rw [flatRs_append, List.length_append]
        show w7.ownsRow wr.heap.size 30 3 v7 (M.length + 1) (flatRs M ++ (valRs r ++ []))
        rw [List.append_nil]
        exact hown
      obtain ⟨a7, c7, e7, hc7⟩ := hO7.came
      rw [List.length_append] at e7
      have e7' : v7 = .slice a7 (M.length + 1) c7 := e7
      subst e7'
      have HO7 := hideR hO7
      have HOo := hideR (own_below2 (unhideR HO) (unhideR HB7))
      have HBw7 := hideR ((unhideR HB).trans ((unhideR HB7).mono (unhideR HB).size))
      have HLo : HeldR (∀ v, Below w7.heap.size w7 v → Calls Try.prog 7 #[.slice a7 (M.length + 1) c7] v (LgPost v.heap.size v (logV (M ++ [r])))) := hideR (fun v hv => by
        have := logOf_any (cap := c7) (hc7.below hv) (by rw [List.length_append]; show M.length + 1 ≤ 4000; omega)
        rw [List.length_append] at this
        exact this)
      have HTk : HeldR (∀ v, Below w7.heap.size w7 v → BAt v (some ⟨bb, off, none⟩) (b.take nn)) := hideR (fun v hv => ((unhideR HBt) v (below_go (unhideR HBw7) hv)).take nn)
      have HTl : HeldR ((b.take nn).length = nn) := hideR (by rw [List.length_take, unhideR HN]; omega)
      have Hst2 : HeldR (RV = if logV (M ++ [r]) = b.take nn then resF b (N - k) (k + 1) (M ++ [r]) else M) := hideR (by
        have := unhideR Hst
        rw [← (unhideR Hk).1] at this
        exact this)
      have hq := strB_inj (a := logV (M ++ [r])) (b := b.take nn)
      clear hown hgrow hO5 HB5 HB6 HO6 hO7 e7 hc7 HO9 k5 Hst HN0 HN1 HN2 HX
      generalize logV (M ++ [r]) = LG at *
      generalize b.take nn = BT at *
      go_simp
      refine hK9 _ _ ?_
      clear hK9 K9
      refine wpAny_step (i := 13) (by kernel_rfl) rfl (by kernel_rfl) (fun K hK => ?_)
      unfold Oper.wp
      go_simp
      refine hK _ _ ?_
      clear hK K
      refine wpAny_end (by kernel_rfl) ?_
      obtain ⟨QB, hQB⟩ : ∃ QB, ((strB LG).toList == (strB BT).toList) = QB := ⟨_, rfl⟩
      rw [hQB] at hq
      have HQ := hideR hq
      clear hq
      go_upto_region 9 with fail
      refine wp_region_made 0 #[true, true, true, true, true, true, true, false] [.lets (· = .slice a7 (M.length + 1) c7),
        .made (SlLg LG.length) (OnLg LG),
        .uses (· = .string (strB LG)),
        .lets (· = .slice (some ⟨bb, off, none⟩) N cap),
        .lets (· = .int .i64 (nn : Nat)),
        .lets (· = .slice (some ⟨bb, off, none⟩) nn cap),
        .lets (· = .string (strB BT))] [1] [2] (by kernel_rfl) (by kernel_rfl) rfl ?kinds (by kernel_rfl) (by kernel_rfl) (by kernel_rfl) ?_
      case kinds =>
        constructor
        · intro i h
          rcases i with _ | _ | _ | _ | _ | _ | _ | i <;> simp [Kx.isMade] at h ⊢
        · intro i h
          rcases i with _ | _ | _ | _ | _ | _ | _ | i <;> simp [Kx.isUse] at h ⊢
      refine lexX_step (fun K hK => ⟨by kernel_rfl, ⟨_, rfl⟩, fun v hv => ?_, fun v hv => ?_⟩)
      · go_simp
        exact mUpon_b
      subst hv
      go_simp
      refine hK _ ?_
      clear hK K
      refine lexX_made ⟨by kernel_rfl, ⟨_, none, 0, rfl⟩, onLg_stb _, fun v hv => ?_, ?_⟩
      · have hx := unhideR HLo v hv
        go_simp
        refine hx.mono ?_
        rintro e w9 ⟨v9, rfl, hb9, k9⟩
        obtain ⟨ad9, cap9, rfl, ha9⟩ := hb9.bytes
        exact ⟨_, rfl, ⟨⟨ad9, cap9, rfl⟩, fun ad c e => by cases e; exact ha9⟩, k9⟩
      rintro _ ⟨ad9, cap9, rfl⟩ K9 hK9
      go_simp
      refine hK9 _ ?_
      clear hK9 K9
      refine lexX_uses (fun K hK => ⟨by kernel_rfl, ⟨_, rfl⟩, fun v hv hγ => ?_, fun v hv => ?_⟩)
      · have hcv := conv_bytes (cap := cap9) (hγ.2 _ _ rfl)
        go_simp
        exact mUpon_b
      subst hv
      go_simp
      refine hK _ ?_
      clear hK K
      refine lexX_step (fun K hK => ⟨by kernel_rfl, ⟨_, rfl⟩, fun v hv => ?_, fun v hv => ?_⟩)
      · go_simp
        exact mUpon_b
      subst hv
      go_simp
      refine hK _ ?_
      clear hK K
      refine lexX_step (fun K hK => ⟨by kernel_rfl, ⟨_, rfl⟩, fun v hv => ?_, fun v hv => ?_⟩)
      · go_simp
        exact mUpon_b
      subst hv
      go_simp
      refine hK _ ?_
      clear hK K
      refine lexX_step (fun K hK => ⟨by kernel_rfl, ⟨_, rfl⟩, fun v hv => ?_, fun v hv => ?_⟩)
      · go_simp
        exact mUpon_b
      subst hv
      go_simp
      refine hK _ ?_
      clear hK K
      refine lexX_step (fun K hK => ⟨by kernel_rfl, ⟨_, rfl⟩, fun v hv => ?_, fun v hv => ?_⟩)
      · have hcv := conv_bytes (cap := cap) (unhideR HTk v hv)
        rw [unhideR HTl] at hcv
        go_simp
        exact mUpon_b
      subst hv
      go_simp
      refine hK _ ?_
      clear hK K
      refine lexX_end (fun v8 hv => ?_)
      have k8 := hv.low
      clear hv
      refine wpAny_step (i := 7) (by kernel_rfl) rfl (by kernel_rfl) (fun K hK => ?_)
      unfold Oper.wp
      go_simp
      refine hK _ _ ?_
      clear hK K
      refine wpAny_end (by kernel_rfl) ?_
      have HO8 := hideR (own_below2 (unhideR HO7) k8)
      have HOo8 := hideR (own_below2 (unhideR HOo) k8)
      have HB8 := hideR (below_go (unhideR HBw7) k8)
      have HOw : HeldR (RsOwn v8 w.heap.size 30 (.slice a7 (M.length + 1) c7) (M ++ [r])) := hideR (by
        have h0 := unhideR HO8
        refine ⟨h0.1, ?_⟩
        rcases h0.2 with h0 | ⟨g, cc, cur, e, hB, rest⟩
        · exact .inl h0
        · exact .inr ⟨g, cc, cur, e, Nat.le_trans (unhideR HB).size hB, rest⟩)
      clear k8 HO8 HO7 HOo HBw7 HLo HTk HTl HB7 HB
      clear hQB
      cases QB with
      | true =>
        have qq : LG = BT := of_decide_eq_true (unhideR HQ).symm
        have Hn : HeldR (RV = resF b (N + 1 - (k + 1)) (k + 1) (M ++ [r])) := hideR (by rw [unhideR Hst2, if_pos qq, show N + 1 - (k + 1) = N - k by omega])
        have hkk := unhideR Hk
        have HIn : HeldR (nn + 28 = 28 * (k + 1 + 1) ∧ (M ++ [r]).length = k + 1 ∧ k + 1 ≤ N ∧ RV = resF b (N + 1 - (k + 1)) (k + 1) (M ++ [r])) := hideR ⟨by omega, by rw [List.length_append]; show M.length + 1 = k + 1; omega, by omega, unhideR Hn⟩
        clear HQ qq Hst2 Hn hkk
        go_wp2
        exact ⟨⟨k + 1, nn + 28, M ++ [r], by omega, HIn, by go_num, HOw, HB8⟩, by simp [intOf]; omega⟩
      | false =>
        have qq : ¬ LG = BT := of_decide_eq_false (unhideR HQ).symm
        have Hn : HeldR (RV = M) := hideR (by rw [unhideR Hst2, if_neg qq])
        clear HQ qq Hst2
        go_wp2
        go_ret
        exact ⟨_, rfl, by rw [unhideR Hn]; exact unhideR HOo8, unhideR HB8⟩
end Go.Proofs.Ytfonpobdnhifgan
