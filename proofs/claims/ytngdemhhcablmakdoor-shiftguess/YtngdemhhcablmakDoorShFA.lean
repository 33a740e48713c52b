/-
  By halves: the document's, by contract. The waves by halves: the document's, by contract.
-/
import Derived.Test.YtngdemhhcablmakDoorShH0
namespace Go.Proofs.YtngdemhhcablmakDoor
open Go Go.RowKit

def Fo (op : BinOp) (a b : Nat) (v : Value) : Prop := ∃ r, v = .float .f64 r ∧ FOp op a b r
def FoB (op : BinOp) (a b c d : Nat) (v : Value) : Prop := ∃ r1 r2, v = .agg #[.float .f64 r1, .float .f64 r2] ∧ FOp op a b r1 ∧ FOp op c d r2
theorem fo_some (op : BinOp) (a b : Nat) : ∃ v, Fo op a b v := by
  obtain ⟨r, hr⟩ := fop_any op a b
  exact ⟨_, r, rfl, hr⟩
theorem foB_some (op : BinOp) (a b c d : Nat) : ∃ v, FoB op a b c d v := by
  obtain ⟨r, hr⟩ := fop_any op a b
  obtain ⟨s, hs⟩ := fop_any op c d
  exact ⟨_, r, s, rfl, hr, hs⟩
theorem set2_off {v : World} {b c i j : Nat} {x y : Value} (h : c ≠ b) : ((v.setCell ⟨b, i, none⟩ x).setCell ⟨b, j, none⟩ y).heap[c]? = v.heap[c]? := by
  rw [Below.heap_setCell _ _ _ _ h, Below.heap_setCell _ _ _ _ h]
def HvPost (L : List (Nat × Nat)) (fr step d : Nat) (back : Bool) (w : World) (e : Ending) (w' : World) : Prop := ∃ (X : List (Nat × Nat)) (ad : Option Addr) (cap : Nat), e = .returned (.slice ad X.length cap) ∧ X.length = 2 ^ d ∧ HvR back d (fun i => L.getD (fr + i * step) (0, 0)) (fun i => X.getD i (0, 0)) ∧ PrCame w' ad X ∧ Below w.heap.size w w'
def HvC (back : Bool) (d : Nat) : Prop := ∀ {w : World} {a1 : Option Addr} {c1 : Nat} {L : List (Nat × Nat)} (step fr : Nat), PrCame w a1 L → L.length = step * 2 ^ d → L.length ≤ 256 → fr < step → Calls Tryd.prog 37 #[.slice a1 L.length c1, .int .i64 (fr : Nat), .int .i64 (step : Nat), .bool back] w (HvPost L fr step d back w)
set_option maxRecDepth 100000 in
set_option maxHeartbeats 6400000 in
theorem halves_one (back : Bool) : HvC back 0 := by
    intro w a1 c1 L step fr hL hs hl hf
    rw [Nat.pow_zero, Nat.mul_one] at hs
    obtain ⟨b1, o1, rfl, _, hat⟩ := hL.at_ fr (by omega)
    have HEnd : HeldR (HvPost L fr step 0 back w (.returned (.slice (some ⟨w.heap.size, 0, none⟩) 1 1)) (w.alloc (.cells #[.float .f64 (L.getD fr (0, 0)).1, .float .f64 (L.getD fr (0, 0)).2] 39))) := hideR ⟨[L.getD fr (0, 0)], _, 1, rfl, rfl, .one (by simp), ⟨fun k hk => by
      have e : k = 0 := by simpa using hk
      subst e
      have hz := alloc_last w (.cells #[.float .f64 (L.getD fr (0, 0)).1, .float .f64 (L.getD fr (0, 0)).2] 39)
      exact ⟨_, 0, rfl, (Array.getElem?_eq_some_iff.1 hz).1, (cells_at hz 0 (by simp)).1, (cells_at hz 1 (by simp)).1⟩⟩, below_a w _⟩
    rw [hs]
    have e1 : (step : Int) / (step : Int) = 1 := Int.ediv_self (by omega)
    have e2 : (step : Int).tdiv (step : Int) = 1 := Int.tdiv_self (by omega)
    have hn0 : (step : Int) ≠ 0 := by omega
    have hn1 : step ≠ 0 := by omega
    have hfi : (fr : Int) < (step : Int) := by omega
    have q0 := hat.c0
    have q1 := hat.c1
    generalize (L.getD fr (0, 0)).1 = re at *
    generalize (L.getD fr (0, 0)).2 = im at *
    clear hat hL hs
    go_enter Tryd.func37, Tryd.ntmps37
    go_wp2
    go_ret
    exact unhideR HEnd
set_option maxRecDepth 100000 in
set_option maxHeartbeats 6400000 in
theorem halves_step (back : Bool) (d : Nat) (ih : HvC back d) : HvC back (d + 1) := by
    intro w a1 c1 L step fr hL hs hl hf
    obtain ⟨h, hh⟩ : ∃ q, 2 ^ d = q := ⟨_, rfl⟩
    have hh0 : 0 < h := by rw [← hh]; exact Nat.two_pow_pos d
    have hp : 2 ^ (d + 1) = h + h := by rw [Nat.pow_succ, hh]; omega
    have hs2 : L.length = 2 * step * 2 ^ d := by rw [hs, Nat.pow_succ, Nat.mul_comm (2 ^ d) 2, ← Nat.mul_assoc, Nat.mul_comm step 2]
    have hst : 2 * step ≤ L.length := by rw [hs2]; exact Nat.le_mul_of_pos_right _ (Nat.two_pow_pos d)
    have hLh : h + h ≤ L.length := by rw [hs, hp]; exact Nat.le_mul_of_pos_left _ (by omega)
    have HL : HeldR (∀ u, Below w.heap.size w u → PrCame u a1 L) := hideR (fun u k => hL.below k)
    have hcE := ih (w := w) (a1 := a1) (c1 := c1) (L := L) (2 * step) fr hL hs2 hl (by omega)
    have HcO : HeldR (∀ u, Below w.heap.size w u → Calls Tryd.prog 37 #[.slice a1 L.length c1, .int .i64 ((fr + step : Nat) : Int), .int .i64 ((2 * step : Nat) : Int), .bool back] u (HvPost L (fr + step) (2 * step) d back u)) := hideR (fun u k => ih (w := u) (2 * step) (fr + step) (hL.below k) hs2 hl (by omega))
    have hsto := fun w a x m => run_store Tryd.prog w a (.float .f64 x) m rfl
    have hdv : L.length / step = h + h := by rw [hs, hp, Nat.mul_comm]; exact Nat.mul_div_cancel _ (by omega)
    obtain ⟨N, hN⟩ : ∃ q, L.length = q := ⟨_, rfl⟩
    obtain ⟨n, hn⟩ : ∃ q, h + h = q := ⟨_, rfl⟩
    have HEnd : HeldR (∀ (E O M : List (Nat × Nat)) (u : World) (B g : Nat), HvR back d (fun i => L.getD (fr + i * (2 * step)) (0, 0)) (fun i => E.getD i (0, 0)) → HvR back d (fun i => L.getD (fr + step + i * (2 * step)) (0, 0)) (fun i => O.getD i (0, 0)) → HvK back d E O M h → PrOwn u B g n M → Below w.heap.size w u → HvPost L fr step (d + 1) back w (.returned (.slice (some ⟨g, 0, none⟩) n n)) u) := hideR (fun E O M u B g h1 h2 h3 h4 h5 => by
      refine ⟨M, _, n, by rw [h4.1], by rw [h4.1, ← hn, hp], ?_, h4.came, h5⟩
      refine HvR.two (E := fun i => E.getD i (0, 0)) (O := fun i => O.getD i (0, 0)) (h1.congr (fun i _ => ?_)) (h2.congr (fun i _ => ?_)) (fun k hk => ?_)
      · show L.getD (fr + 2 * i * step) (0, 0) = L.getD (fr + i * (2 * step)) (0, 0)
        rw [Nat.mul_comm 2 i, Nat.mul_assoc]
      · show L.getD (fr + (2 * i + 1) * step) (0, 0) = L.getD (fr + step + i * (2 * step)) (0, 0)
        rw [Nat.add_mul, Nat.one_mul, Nat.mul_comm 2 i, Nat.mul_assoc, Nat.add_assoc, Nat.add_comm step]
      · exact h3 k (by rw [← hh]; exact hk))
    rw [hN] at hl hcE HcO hst hLh hdv ⊢
    rw [hn] at hdv hLh
    have e1 : (N : Int) / (step : Int) = (n : Nat) := by rw [← hdv]; exact (Int.natCast_ediv N step).symm
    have e2 : (N : Int).tdiv (step : Int) = (n : Nat) := (Int.tdiv_eq_ediv_of_nonneg (Int.natCast_nonneg N)).trans e1
    have e3 : IntKind.i64.wrap ((n : Nat) : Int) = (n : Nat) := by clear e1 e2; exact iwrap (by omega) (by omega)
    have e4 : IntKind.i64.wrap (2 * (step : Int)) = ((2 * step : Nat) : Int) := by clear e1 e2; rw [show 2 * (step : Int) = ((2 * step : Nat) : Int) by omega]; exact iwrap (by omega) (by omega)
    have e5 : IntKind.i64.wrap ((fr : Int) + (step : Int)) = ((fr + step : Nat) : Int) := by clear e1 e2; rw [show (fr : Int) + (step : Int) = ((fr + step : Nat) : Int) by omega]; exact iwrap (by omega) (by omega)
    have hn0 : (step : Int) ≠ 0 := by omega
    have hn0n : step ≠ 0 := by omega
    have hn1 : n ≠ 1 := by omega
    have hn2 : (n : Int) ≠ 1 := by omega
    have tn : decide ((n : Int) = 1) = false := decide_eq_false hn2
    have HH := hideR hh
    have HNe := hideR hn
    have HNN := hideR hN
    have hnl : n ≤ 256 := by omega
    have hhl : h < n := by omega
    clear ih hs hs2 hL hp hdv hN hst hh
    go_enter Tryd.func37, Tryd.ntmps37
    go_wp2_with fail
    refine hcE.mono ?_
    rintro e w1 ⟨E, ae, ce, rfl, lE, rE, cE, bE⟩
    have HRE := hideR rE
    have HCE := hideR cE
    have HBE := hideR bE
    rw [unhideR HH] at lE
    have HLE := hideR lE
    rw [lE]
    have hcO := unhideR HcO w1 bE
    clear hcE rE cE bE lE
    go_wp2_with fail
    refine hcO.mono ?_
    rintro e w2 ⟨O, ao, co, rfl, lO, rO, cO, bO⟩
    have HRO := hideR rO
    have HCE2 : HeldR (∀ u, Below w2.heap.size w2 u → PrCame u ae E) := hideR (fun u k => ((unhideR HCE).below bO).below k)
    have HCO2 : HeldR (∀ u, Below w2.heap.size w2 u → PrCame u ao O) := hideR (fun u k => cO.below k)
    have hb2 : Below w.heap.size w w2 := below_go (unhideR HBE) bO
    have HB2 := hideR hb2
    rw [unhideR HH] at lO
    have HLO := hideR lO
    rw [lO]
    clear HcO hcO rO cO bO lO hb2 HCE HBE
    obtain ⟨w3, hmk, hown, hbel⟩ := make_pairs (w := w2) (n := n) w2.heap.size (Nat.le_refl _) (by omega)
    have HO0 := hideR hown
    have HB0 := hideR hbel
    clear hown hbel
    obtain ⟨g, hg⟩ : ∃ q, w2.heap.size = q := ⟨_, rfl⟩
    have HG := hideR hg
    rw [hg] at hmk HO0
    clear hg
    go_wp2
    clear hmk e1 e2 e4 e5
    go_loopw [13] (fun kv wl => ∃ (k : Nat) (M : List (Nat × Nat)), k ≤ h ∧ kv = .int .i64 (k : Nat) ∧ HeldR (HvK back d E O M k) ∧ HeldR (PrOwn wl g g n M) ∧ HeldR (Below w2.heap.size w2 wl)) (fun kv _ => h + 1 - (intOf kv).toNat)
    case atStart => exact ⟨0, _, by omega, rfl, hideR (fun i hi => absurd hi (Nat.not_lt_zero i)), HO0, HB0⟩
    case round =>
      obtain ⟨k, M, hk, rfl, HV, HO, HB⟩ := hrel
      have d1 : (n : Int) / 2 = (h : Nat) := by have := unhideR HNe; omega
      have d2 : (n : Int).tdiv 2 = (h : Nat) := (Int.tdiv_eq_ediv_of_nonneg (Int.natCast_nonneg n)).trans d1
      have d3 : IntKind.i64.wrap ((h : Nat) : Int) = (h : Nat) := by clear d1 d2; exact iwrap (by omega) (by omega)
      by_cases hlt : k < h
      · have tk : decide (k < h) = true := decide_eq_true hlt
        have tki : decide ((k : Int) < (h : Int)) = true := decide_eq_true (by omega)
        have jk : (k : Int) < (h : Int) := by omega
        have jk2 : (k : Int) < (n : Int) := by omega
        have jk3 : k < n := by omega
        obtain ⟨kh, hkh⟩ : ∃ q, k + h = q := ⟨_, rfl⟩
        have jk4 : kh < n := by have := unhideR HNe; omega
        have jk5 : (kh : Int) < (n : Int) := by omega
        have wk' : IntKind.i64.wrap ((k : Int) + 1) = ((k + 1 : Nat) : Int) := by rw [show (k : Int) + 1 = ((k + 1 : Nat) : Int) by omega]; exact iwrap (by omega) (by omega)
        have wkh : IntKind.i64.wrap ((k : Int) + (h : Int)) = (kh : Nat) := by clear d1 d2; rw [show (k : Int) + (h : Int) = (kh : Nat) by omega]; exact iwrap (by omega) (by omega)
        obtain ⟨bo, oo, rfl, _, _⟩ := (unhideR HCO2 wr (unhideR HB)).at_ k (by rw [unhideR HLO]; exact hlt)
        obtain ⟨be, oe, rfl, _, _⟩ := (unhideR HCE2 wr (unhideR HB)).at_ k (by rw [unhideR HLE]; exact hlt)
        obtain ⟨re, hre⟩ : ∃ q, (O.getD k (0, 0)).1 = q := ⟨_, rfl⟩
        obtain ⟨im, him⟩ : ∃ q, (O.getD k (0, 0)).2 = q := ⟨_, rfl⟩
        obtain ⟨e1, he1⟩ : ∃ q, (E.getD k (0, 0)).1 = q := ⟨_, rfl⟩
        obtain ⟨e2, he2⟩ : ∃ q, (E.getD k (0, 0)).2 = q := ⟨_, rfl⟩
        have hok : O.getD k (0, 0) = (re, im) := by rw [← hre, ← him]
        have hek : E.getD k (0, 0) = (e1, e2) := by rw [← he1, ← he2]
        have HOb : HeldR (∀ v, Below wr.heap.size wr v → PrAt v bo (oo + k * 2) (re, im)) := hideR (fun v hv => by
          obtain ⟨b9, o9, e9, _, x9⟩ := (unhideR HCO2 v (below_go (unhideR HB) hv)).at_ k (by rw [unhideR HLO]; exact hlt)
          cases e9
          rw [hok] at x9
          exact x9)
        have HE0 : HeldR (∀ v, Below w2.heap.size w2 v → PrAt v be (oe + k * 2) (e1, e2)) := hideR (fun v hv => by
          obtain ⟨b9, o9, e9, _, x9⟩ := (unhideR HCE2 v hv).at_ k (by rw [unhideR HLE]; exact hlt)
          cases e9
          rw [hek] at x9
          exact x9)
        obtain ⟨tm, htm⟩ : ∃ q, 1296000000000 * k = q := ⟨_, rfl⟩
        obtain ⟨gg, hgg⟩ : ∃ q, tm / n = q := ⟨_, rfl⟩
        have hgl : gg ≤ tm := by rw [← hgg]; exact Nat.div_le_self _ _
        have HNx : HeldR (∀ t r s, CPr (re, im) (waveV (gg : Nat) back) t → CAd (e1, e2) t r → CSb (e1, e2) t s → HvK back d E O ((M.set k r).set kh s) (k + 1)) := hideR (fun t r s h1 h2 h3 => by
          have hp : 2 ^ (d + 1) = n := by rw [Nat.pow_succ, unhideR HH]; have := unhideR HNe; omega
          have := (unhideR HV).next (r := r) (s := s) (t := t) (by rw [(unhideR HO).1, unhideR HH, unhideR HNe]) (by rw [unhideR HH]; exact hlt) (by rw [hok, hp, htm, hgg]; exact h1) (by rw [hek]; exact h2) (by rw [hek]; exact h3)
          rw [unhideR HH, hkh] at this
          exact this)
        have f4 : IntKind.i64.wrap (1296000000000 * (k : Int)) = (tm : Nat) := by clear d1 d2; rw [show 1296000000000 * (k : Int) = (tm : Nat) by omega]; exact iwrap (by omega) (by omega)
        have f5 : (tm : Int) / (n : Int) = (gg : Nat) := by rw [← hgg]; exact (Int.natCast_ediv tm n).symm
        have f6 : (tm : Int).tdiv (n : Int) = (gg : Nat) := (Int.tdiv_eq_ediv_of_nonneg (Int.natCast_nonneg tm)).trans f5
        have f7 : IntKind.i64.wrap ((gg : Nat) : Int) = (gg : Nat) := by clear f5 f6 d1 d2; exact iwrap (by omega) (by omega)
        have m0 : (n : Int) ≠ 0 := by omega
        have m1 : n ≠ 0 := by omega
        have hwv0 := fun u => wave_any (gg : Nat) back u
        obtain ⟨wv, hwve⟩ : ∃ q, waveV ((gg : Nat) : Int) back = q := ⟨_, rfl⟩
        rw [hwve] at hwv0 HNx
        have hwv := hwv0
        unfold prV at hwv
        have hpr := fun u => product_any (re, im) wv u
        unfold prV at hpr
        have hgw := (unhideR HO).lt.2
        clear hkh hwve hwv0 hre him he1 he2 hok hek htm hgg HV
        go_upto_region 10 with fail
        refine wp_region_made 0 #[true, true, true, true, true, true, true, true, true, true, true, true, false] [.lets (· = .slice (some ⟨bo, oo, none⟩) h co),
          .lets (· = .int .i64 (k : Nat)),
          .lets (· = .pointer (some ⟨bo, oo + k * 2, none⟩)),
          .lets (· = .agg #[.float .f64 re, .float .f64 im]),
          .lets (· = .int .i64 (k : Nat)),
          .lets (· = .int .i64 (tm : Nat)),
          .lets (· = .int .i64 (n : Nat)),
          .lets (· = .int .i64 (gg : Nat)),
          .lets (· = .bool back),
          .lets (· = .agg #[.float .f64 wv.1, .float .f64 wv.2]),
          .lets (PrS (re, im) wv),
          .new (.cells #[.float .f64 0, .float .f64 0] 39)] [] [] (by kernel_rfl) (by kernel_rfl) rfl ?kinds (by kernel_rfl) (by kernel_rfl) (by kernel_rfl) ?_
        case kinds =>
          constructor
          · intro i h
            rcases i with _ | _ | _ | _ | _ | _ | _ | _ | _ | _ | _ | _ | i <;> simp [Kx.isMade] at h
          · intro i h
            rcases i with _ | _ | _ | _ | _ | _ | _ | _ | _ | _ | _ | _ | i <;> simp [Kx.isUse] at h
        refine lexX_step (fun K hK => ⟨by kernel_rfl, ⟨_, rfl⟩, fun v hv => ?_, fun v hv => ?_⟩)
        · go_simp
          exact mUpon_b
        subst hv
        go_simp
        refine hK _ ?_
        clear hK K
        refine lexX_step (fun K hK => ⟨by kernel_rfl, ⟨_, rfl⟩, fun v hv => ?_, fun v hv => ?_⟩)
        · go_simp
          exact mUpon_b
        subst hv
        go_simp
        refine hK _ ?_
        clear hK K
        refine lexX_step (fun K hK => ⟨by kernel_rfl, ⟨_, rfl⟩, fun v hv => ?_, fun v hv => ?_⟩)
        · go_simp
          exact mUpon_b
        subst hv
        go_simp
        refine hK _ ?_
        clear hK K
        refine lexX_step (fun K hK => ⟨by kernel_rfl, ⟨_, rfl⟩, fun v hv => ?_, fun v hv => ?_⟩)
        · have q := ((unhideR HOb) v hv)
          have q0 := q.c0
          have q1 := q.c1
          go_simp
          exact mUpon_b
        subst hv
        go_simp
        refine hK _ ?_
        clear hK K
        refine lexX_step (fun K hK => ⟨by kernel_rfl, ⟨_, rfl⟩, fun v hv => ?_, fun v hv => ?_⟩)
        · go_simp
          exact mUpon_b
        subst hv
        go_simp
        refine hK _ ?_
        clear hK K
        refine lexX_step (fun K hK => ⟨by kernel_rfl, ⟨_, rfl⟩, fun v hv => ?_, fun v hv => ?_⟩)
        · go_simp
          exact mUpon_b
        subst hv
        go_simp
        refine hK _ ?_
        clear hK K
        refine lexX_step (fun K hK => ⟨by kernel_rfl, ⟨_, rfl⟩, fun v hv => ?_, fun v hv => ?_⟩)
        · go_simp
          exact mUpon_b
        subst hv
        go_simp
        refine hK _ ?_
        clear hK K
        refine lexX_step (fun K hK => ⟨by kernel_rfl, ⟨_, rfl⟩, fun v hv => ?_, fun v hv => ?_⟩)
        · go_simp
          exact mUpon_b
        subst hv
        go_simp
        refine hK _ ?_
        clear hK K
        refine lexX_step (fun K hK => ⟨by kernel_rfl, ⟨_, rfl⟩, fun v hv => ?_, fun v hv => ?_⟩)
        · go_simp
          exact mUpon_b
        subst hv
        go_simp
        refine hK _ ?_
        clear hK K
        refine lexX_step (fun K hK => ⟨by kernel_rfl, ⟨_, rfl⟩, fun v hv => ?_, fun v hv => ?_⟩)
        · go_simp
          refine (hwv _).mono ?_
          rintro e w9 ⟨rfl, k⟩
          exact ⟨_, rfl, rfl, k⟩
        subst hv
        go_simp
        refine hK _ ?_
        clear hK K
        refine lexX_step (fun K hK => ⟨by kernel_rfl, prS_some _ _, fun v hv => ?_, fun v hv => ?_⟩)
        · go_simp
          refine (hpr _).mono ?_
          rintro e w9 ⟨r, rfl, h1, k⟩
          exact ⟨_, rfl, ⟨r, rfl, h1⟩, k⟩
        obtain ⟨r, rfl, hr⟩ := hv
        unfold prV
        go_simp
        refine hK _ ?_
        clear hK K
        refine lexX_new ((fin0).some _) (fun g9 fg9 K hK => ⟨by kernel_rfl, fun v => ?_, ?_⟩)
        · go_simp
          first | exact ⟨rfl, rfl⟩ | rfl
        unfold ptr
        go_simp
        refine hK _ ?_
        clear hK K
        refine lexX_end (fun v5 hv => ?_)
        have h0 := hv.held g9 (.cells #[.float .f64 0, .float .f64 0] 39) (by unfold Hd.put; rw [if_pos rfl])
        have hlow := hv.low
        have hge := fg9.ge
        clear hv fg9
        have c0 := (cells_at h0 0 (by simp)).1
        have c1' := (cells_at h0 1 (by simp)).1
        have f0 := (cells_at h0 0 (by simp)).2
        have f1 := (cells_at h0 1 (by simp)).2
        have HP7 : HeldR (((v5.setCell ⟨g9, 0, none⟩ (.float .f64 r.1)).setCell ⟨g9, 1, none⟩ (.float .f64 r.2)).heap[g9]? = some (.cells #[.float .f64 r.1, .float .f64 r.2] 39)) := hideR (set2_at h0)
        have HL7 : HeldR (Below wr.heap.size wr ((v5.setCell ⟨g9, 0, none⟩ (.float .f64 r.1)).setCell ⟨g9, 1, none⟩ (.float .f64 r.2))) := hideR ((hlow.setCell (by show wr.heap.size ≤ g9; omega) _).setCell (by show wr.heap.size ≤ g9; omega) _)
        have HGe := hideR hge
        clear h0 hlow hge
        refine wpAny_step (i := 12) (by kernel_rfl) rfl (by kernel_rfl) (fun K hK => ?_)
        unfold Oper.wp
        go_simp
        refine hK _ _ ?_
        clear hK K
        refine wpAny_end (by kernel_rfl) ?_
        generalize (v5.setCell ⟨g9, 0, none⟩ (.float .f64 r.1)).setCell ⟨g9, 1, none⟩ (.float .f64 r.2) = w7 at *
        clear c0 c1' f0 f1 v5
        have HGn : HeldR (g9 ≠ g) := hideR (by have := unhideR HGe; omega)
        have HO7 := hideR ((unhideR HO).below (unhideR HL7))
        have HB7 := hideR (below_go (unhideR HB) (unhideR HL7))
        have HPx := HP7
        obtain ⟨r1, r2⟩ := r
        clear HP7 HO HB HL7 HGe HOb hpr hwv f4 f5 f6 f7 hgw
        have haf := fun t x y v => run_fadd (P := Tryd.prog) t x y v
        have hsf := fun t x y v => run_fsub (P := Tryd.prog) t x y v
        have HEb : HeldR (∀ v, Below w7.heap.size w7 v → PrAt v be (oe + k * 2) (e1, e2)) := hideR (fun v hv => unhideR HE0 v (below_go (unhideR HB7) hv))
        go_upto_region 11 with fail
        refine wp_region_made 1 #[true, true, true, true, true, true, true, true, true, true, true, true, true, true, true, true, true, true, true, false, false] [.lets (· = .slice (some ⟨g, 0, none⟩) n n),
          .lets (· = .int .i64 (k : Nat)),
          .lets (· = .slice (some ⟨be, oe, none⟩) h ce),
          .lets (· = .int .i64 (k : Nat)),
          .lets (· = .pointer (some ⟨be, oe + k * 2, none⟩)),
          .lets (· = .pointer (some ⟨be, oe + k * 2, none⟩)),
          .lets (· = .float .f64 e1),
          .lets (· = .pointer (some ⟨g9, 0, none⟩)),
          .lets (· = .float .f64 r1),
          .lets (Fo .add e1 r1),
          .lets (· = .slice (some ⟨be, oe, none⟩) h ce),
          .lets (· = .int .i64 (k : Nat)),
          .lets (· = .pointer (some ⟨be, oe + k * 2, none⟩)),
          .lets (· = .pointer (some ⟨be, oe + k * 2 + 1, none⟩)),
          .lets (· = .float .f64 e2),
          .lets (· = .pointer (some ⟨g9, 1, none⟩)),
          .lets (· = .float .f64 r2),
          .lets (Fo .add e2 r2),
          .lets (FoB .add e1 r1 e2 r2)] [] [] (by kernel_rfl) (by kernel_rfl) rfl ?kinds (by kernel_rfl) (by kernel_rfl) (by kernel_rfl) ?_
        case kinds =>
          constructor
          · intro i h
            rcases i with _ | _ | _ | _ | _ | _ | _ | _ | _ | _ | _ | _ | _ | _ | _ | _ | _ | _ | _ | i <;> simp [Kx.isMade] at h
          · intro i h
            rcases i with _ | _ | _ | _ | _ | _ | _ | _ | _ | _ | _ | _ | _ | _ | _ | _ | _ | _ | _ | i <;> simp [Kx.isUse] at h
        refine lexX_step (fun K hK => ⟨by kernel_rfl, ⟨_, rfl⟩, fun v hv => ?_, fun v hv => ?_⟩)
        · go_simp
          exact mUpon_b
        subst hv
        go_simp
        refine hK _ ?_
        clear hK K
        refine lexX_step (fun K hK => ⟨by kernel_rfl, ⟨_, rfl⟩, fun v hv => ?_, fun v hv => ?_⟩)
        · go_simp
          exact mUpon_b
        subst hv
        go_simp
        refine hK _ ?_
        clear hK K
        refine lexX_step (fun K hK => ⟨by kernel_rfl, ⟨_, rfl⟩, fun v hv => ?_, fun v hv => ?_⟩)
        · go_simp
          exact mUpon_b
        subst hv
        go_simp
        refine hK _ ?_
        clear hK K
        refine lexX_step (fun K hK => ⟨by kernel_rfl, ⟨_, rfl⟩, fun v hv => ?_, fun v hv => ?_⟩)
        · go_simp
          exact mUpon_b
        subst hv
        go_simp
        refine hK _ ?_
        clear hK K
        refine lexX_step (fun K hK => ⟨by kernel_rfl, ⟨_, rfl⟩, fun v hv => ?_, fun v hv => ?_⟩)
        · go_simp
          exact mUpon_b
        subst hv
        go_simp
        refine hK _ ?_
        clear hK K
        refine lexX_step (fun K hK => ⟨by kernel_rfl, ⟨_, rfl⟩, fun v hv => ?_, fun v hv => ?_⟩)
        · go_simp
          exact mUpon_b
        subst hv
        go_simp
        refine hK _ ?_
        clear hK K
        refine lexX_step (fun K hK => ⟨by kernel_rfl, ⟨_, rfl⟩, fun v hv => ?_, fun v hv => ?_⟩)
        · have q := ((unhideR HEb) v hv)
          have q0 := q.c0
          have q1 := q.c1
          go_simp
          exact mUpon_b
        subst hv
        go_simp
        refine hK _ ?_
        clear hK K
        refine lexX_step (fun K hK => ⟨by kernel_rfl, ⟨_, rfl⟩, fun v hv => ?_, fun v hv => ?_⟩)
        · go_simp
          exact mUpon_b
        subst hv
        go_simp
        refine hK _ ?_
        clear hK K
        refine lexX_step (fun K hK => ⟨by kernel_rfl, ⟨_, rfl⟩, fun v hv => ?_, fun v hv => ?_⟩)
        · have q := cells_at (keepB (unhideR HPx) hv)
          have q0 := (q 0 (by simp)).1
          have q1 := (q 1 (by simp)).1
          go_simp
          exact mUpon_b
        subst hv
        go_simp
        refine hK _ ?_
        clear hK K
        refine lexX_step (fun K hK => ⟨by kernel_rfl, fo_some _ _ _, fun v hv => ?_, fun v hv => ?_⟩)
        · go_simp
          exact ⟨drawn_below _ _, _, rfl, fnum_is _ _ _ _⟩
        obtain ⟨s1, rfl, h1⟩ := hv
        go_simp
        refine hK _ ?_
        clear hK K
        refine lexX_step (fun K hK => ⟨by kernel_rfl, ⟨_, rfl⟩, fun v hv => ?_, fun v hv => ?_⟩)
        · go_simp
          exact mUpon_b
        subst hv
        go_simp
        refine hK _ ?_
        clear hK K
        refine lexX_step (fun K hK => ⟨by kernel_rfl, ⟨_, rfl⟩, fun v hv => ?_, fun v hv => ?_⟩)
        · go_simp
          exact mUpon_b
        subst hv
        go_simp
        refine hK _ ?_
        clear hK K
        refine lexX_step (fun K hK => ⟨by kernel_rfl, ⟨_, rfl⟩, fun v hv => ?_, fun v hv => ?_⟩)
        · go_simp
          exact mUpon_b
        subst hv
        go_simp
        refine hK _ ?_
        clear hK K
        refine lexX_step (fun K hK => ⟨by kernel_rfl, ⟨_, rfl⟩, fun v hv => ?_, fun v hv => ?_⟩)
        · go_simp
          exact mUpon_b
        subst hv
        go_simp
        refine hK _ ?_
        clear hK K
        refine lexX_step (fun K hK => ⟨by kernel_rfl, ⟨_, rfl⟩, fun v hv => ?_, fun v hv => ?_⟩)
        · have q := ((unhideR HEb) v hv)
          have q0 := q.c0
          have q1 := q.c1
          go_simp
          exact mUpon_b
        subst hv
        go_simp
        refine hK _ ?_
        clear hK K
        refine lexX_step (fun K hK => ⟨by kernel_rfl, ⟨_, rfl⟩, fun v hv => ?_, fun v hv => ?_⟩)
        · go_simp
          exact mUpon_b
        subst hv
        go_simp
        refine hK _ ?_
        clear hK K
        refine lexX_step (fun K hK => ⟨by kernel_rfl, ⟨_, rfl⟩, fun v hv => ?_, fun v hv => ?_⟩)
        · have q := cells_at (keepB (unhideR HPx) hv)
          have q0 := (q 0 (by simp)).1
          have q1 := (q 1 (by simp)).1
          go_simp
          exact mUpon_b
        subst hv
        go_simp
        refine hK _ ?_
        clear hK K
        refine lexX_step (fun K hK => ⟨by kernel_rfl, fo_some _ _ _, fun v hv => ?_, fun v hv => ?_⟩)
        · go_simp
          exact ⟨drawn_below _ _, _, rfl, fnum_is _ _ _ _⟩
        obtain ⟨s2, rfl, h2⟩ := hv
        go_simp
        refine hK _ ?_
        clear hK K
        refine lexX_step (fun K hK => ⟨by kernel_rfl, foB_some _ _ _ _ _, fun v hv => ?_, fun v hv => ?_⟩)
        · go_simp
          exact ⟨Below.refl _ _, _, _, rfl, h1, h2⟩
        obtain ⟨p1, p2, rfl, h3, h4⟩ := hv
        go_simp
        refine hK _ ?_
        clear hK K
        have HCp1 : HeldR (FOp .add e1 r1 p1 ∧ FOp .add e2 r2 p2) := hideR ⟨h3, h4⟩
        clear h1 h2 h3 h4
        refine lexX_end (fun v5 hv => ?_)
        have HK5 := hideR hv.low
        clear hv
        have HO5 := hideR ((unhideR HO7).below (unhideR HK5))
        obtain ⟨⟨z0, hz0⟩, ⟨z1, hz1⟩, y0, y1⟩ := (unhideR HO5).has (k := k) (by omega)
        have HOw8 : HeldR (PrOwn ((v5.setCell ⟨g, k * 2, none⟩ (.float .f64 p1)).setCell ⟨g, k * 2 + 1, none⟩ (.float .f64 p2)) g g n (M.set k (p1, p2))) := hideR ((unhideR HO5).put (k := k) (by omega) (p1, p2))
        have HBw8 : HeldR (Below w2.heap.size w2 ((v5.setCell ⟨g, k * 2, none⟩ (.float .f64 p1)).setCell ⟨g, k * 2 + 1, none⟩ (.float .f64 p2))) := hideR (((below_go (unhideR HB7) (unhideR HK5)).setCell (by rw [unhideR HG]; exact Nat.le_refl _) _).setCell (by rw [unhideR HG]; exact Nat.le_refl _) _)
        have HPw8 : HeldR (((v5.setCell ⟨g, k * 2, none⟩ (.float .f64 p1)).setCell ⟨g, k * 2 + 1, none⟩ (.float .f64 p2)).heap[g9]? = some (.cells #[.float .f64 r1, .float .f64 r2] 39)) := hideR ((set2_off (unhideR HGn)).trans (keepB (unhideR HPx) (unhideR HK5)))
        clear HO5 HEb HPx HO7 HB7
        refine wpAny_step (i := 19) (by kernel_rfl) rfl (by kernel_rfl) (fun K hK => ?_)
        unfold Oper.wp
        go_simp
        refine hK _ _ ?_
        clear hK K
        refine wpAny_step (i := 20) (by kernel_rfl) rfl (by kernel_rfl) (fun K hK => ?_)
        unfold Oper.wp
        go_simp
        refine hK _ _ ?_
        clear hK K
        refine wpAny_end (by kernel_rfl) ?_
        generalize ((v5.setCell ⟨g, k * 2, none⟩ (.float .f64 p1)).setCell ⟨g, k * 2 + 1, none⟩ (.float .f64 p2)) = w8 at *
        clear hz0 hz1 y0 y1 HK5 v5
        have HPx := HPw8
        clear HPw8
        have HEb : HeldR (∀ v, Below w8.heap.size w8 v → PrAt v be (oe + k * 2) (e1, e2)) := hideR (fun v hv => unhideR HE0 v (below_go (unhideR HBw8) hv))
        go_upto_region 12 with fail
        refine wp_region_made 1 #[true, true, true, true, true, true, true, true, true, true, true, true, true, true, true, true, true, true, true, true, true, true, false, false] [.lets (· = .slice (some ⟨g, 0, none⟩) n n),
          .lets (· = .int .i64 (k : Nat)),
          .lets (· = .int .i64 (n : Nat)),
          .lets (· = .int .i64 (h : Nat)),
          .lets (· = .int .i64 (kh : Nat)),
          .lets (· = .slice (some ⟨be, oe, none⟩) h ce),
          .lets (· = .int .i64 (k : Nat)),
          .lets (· = .pointer (some ⟨be, oe + k * 2, none⟩)),
          .lets (· = .pointer (some ⟨be, oe + k * 2, none⟩)),
          .lets (· = .float .f64 e1),
          .lets (· = .pointer (some ⟨g9, 0, none⟩)),
          .lets (· = .float .f64 r1),
          .lets (Fo .sub e1 r1),
          .lets (· = .slice (some ⟨be, oe, none⟩) h ce),
          .lets (· = .int .i64 (k : Nat)),
          .lets (· = .pointer (some ⟨be, oe + k * 2, none⟩)),
          .lets (· = .pointer (some ⟨be, oe + k * 2 + 1, none⟩)),
          .lets (· = .float .f64 e2),
          .lets (· = .pointer (some ⟨g9, 1, none⟩)),
          .lets (· = .float .f64 r2),
          .lets (Fo .sub e2 r2),
          .lets (FoB .sub e1 r1 e2 r2)] [] [] (by kernel_rfl) (by kernel_rfl) rfl ?kinds (by kernel_rfl) (by kernel_rfl) (by kernel_rfl) ?_
        case kinds =>
          constructor
          · intro i h
            rcases i with _ | _ | _ | _ | _ | _ | _ | _ | _ | _ | _ | _ | _ | _ | _ | _ | _ | _ | _ | _ | _ | _ | i <;> simp [Kx.isMade] at h
          · intro i h
            rcases i with _ | _ | _ | _ | _ | _ | _ | _ | _ | _ | _ | _ | _ | _ | _ | _ | _ | _ | _ | _ | _ | _ | i <;> simp [Kx.isUse] at h
        refine lexX_step (fun K hK => ⟨by kernel_rfl, ⟨_, rfl⟩, fun v hv => ?_, fun v hv => ?_⟩)
        · go_simp
          exact mUpon_b
        subst hv
        go_simp
        refine hK _ ?_
        clear hK K
        refine lexX_step (fun K hK => ⟨by kernel_rfl, ⟨_, rfl⟩, fun v hv => ?_, fun v hv => ?_⟩)
        · go_simp
          exact mUpon_b
        subst hv
        go_simp
        refine hK _ ?_
        clear hK K
        refine lexX_step (fun K hK => ⟨by kernel_rfl, ⟨_, rfl⟩, fun v hv => ?_, fun v hv => ?_⟩)
        · go_simp
          exact mUpon_b
        subst hv
        go_simp
        refine hK _ ?_
        clear hK K
        refine lexX_step (fun K hK => ⟨by kernel_rfl, ⟨_, rfl⟩, fun v hv => ?_, fun v hv => ?_⟩)
        · go_simp
          exact mUpon_b
        subst hv
        go_simp
        refine hK _ ?_
        clear hK K
        refine lexX_step (fun K hK => ⟨by kernel_rfl, ⟨_, rfl⟩, fun v hv => ?_, fun v hv => ?_⟩)
        · go_simp
          exact mUpon_b
        subst hv
        go_simp
        refine hK _ ?_
        clear hK K
        refine lexX_step (fun K hK => ⟨by kernel_rfl, ⟨_, rfl⟩, fun v hv => ?_, fun v hv => ?_⟩)
        · go_simp
          exact mUpon_b
        subst hv
        go_simp
        refine hK _ ?_
        clear hK K
        refine lexX_step (fun K hK => ⟨by kernel_rfl, ⟨_, rfl⟩, fun v hv => ?_, fun v hv => ?_⟩)
        · go_simp
          exact mUpon_b
        subst hv
        go_simp
        refine hK _ ?_
        clear hK K
        refine lexX_step (fun K hK => ⟨by kernel_rfl, ⟨_, rfl⟩, fun v hv => ?_, fun v hv => ?_⟩)
        · go_simp
          exact mUpon_b
        subst hv
        go_simp
        refine hK _ ?_
        clear hK K
        refine lexX_step (fun K hK => ⟨by kernel_rfl, ⟨_, rfl⟩, fun v hv => ?_, fun v hv => ?_⟩)
        · go_simp
          exact mUpon_b
        subst hv
        go_simp
        refine hK _ ?_
        clear hK K
        refine lexX_step (fun K hK => ⟨by kernel_rfl, ⟨_, rfl⟩, fun v hv => ?_, fun v hv => ?_⟩)
        · have q := ((unhideR HEb) v hv)
          have q0 := q.c0
          have q1 := q.c1
          go_simp
          exact mUpon_b
        subst hv
        go_simp
        refine hK _ ?_
        clear hK K
        refine lexX_step (fun K hK => ⟨by kernel_rfl, ⟨_, rfl⟩, fun v hv => ?_, fun v hv => ?_⟩)
        · go_simp
          exact mUpon_b
        subst hv
        go_simp
        refine hK _ ?_
        clear hK K
        refine lexX_step (fun K hK => ⟨by kernel_rfl, ⟨_, rfl⟩, fun v hv => ?_, fun v hv => ?_⟩)
        · have q := cells_at (keepB (unhideR HPx) hv)
          have q0 := (q 0 (by simp)).1
          have q1 := (q 1 (by simp)).1
          go_simp
          exact mUpon_b
        subst hv
        go_simp
        refine hK _ ?_
        clear hK K
        refine lexX_step (fun K hK => ⟨by kernel_rfl, fo_some _ _ _, fun v hv => ?_, fun v hv => ?_⟩)
        · go_simp
          exact ⟨drawn_below _ _, _, rfl, fnum_is _ _ _ _⟩
        obtain ⟨s1, rfl, h1⟩ := hv
        go_simp
        refine hK _ ?_
        clear hK K
        refine lexX_step (fun K hK => ⟨by kernel_rfl, ⟨_, rfl⟩, fun v hv => ?_, fun v hv => ?_⟩)
        · go_simp
          exact mUpon_b
        subst hv
        go_simp
        refine hK _ ?_
        clear hK K
        refine lexX_step (fun K hK => ⟨by kernel_rfl, ⟨_, rfl⟩, fun v hv => ?_, fun v hv => ?_⟩)
        · go_simp
          exact mUpon_b
        subst hv
        go_simp
        refine hK _ ?_
        clear hK K
        refine lexX_step (fun K hK => ⟨by kernel_rfl, ⟨_, rfl⟩, fun v hv => ?_, fun v hv => ?_⟩)
        · go_simp
          exact mUpon_b
        subst hv
        go_simp
        refine hK _ ?_
        clear hK K
        refine lexX_step (fun K hK => ⟨by kernel_rfl, ⟨_, rfl⟩, fun v hv => ?_, fun v hv => ?_⟩)
        · go_simp
          exact mUpon_b
        subst hv
        go_simp
        refine hK _ ?_
        clear hK K
        refine lexX_step (fun K hK => ⟨by kernel_rfl, ⟨_, rfl⟩, fun v hv => ?_, fun v hv => ?_⟩)
        · have q := ((unhideR HEb) v hv)
          have q0 := q.c0
          have q1 := q.c1
          go_simp
          exact mUpon_b
        subst hv
        go_simp
        refine hK _ ?_
        clear hK K
        refine lexX_step (fun K hK => ⟨by kernel_rfl, ⟨_, rfl⟩, fun v hv => ?_, fun v hv => ?_⟩)
        · go_simp
          exact mUpon_b
        subst hv
        go_simp
        refine hK _ ?_
        clear hK K
        refine lexX_step (fun K hK => ⟨by kernel_rfl, ⟨_, rfl⟩, fun v hv => ?_, fun v hv => ?_⟩)
        · have q := cells_at (keepB (unhideR HPx) hv)
          have q0 := (q 0 (by simp)).1
          have q1 := (q 1 (by simp)).1
          go_simp
          exact mUpon_b
        subst hv
        go_simp
        refine hK _ ?_
        clear hK K
        refine lexX_step (fun K hK => ⟨by kernel_rfl, fo_some _ _ _, fun v hv => ?_, fun v hv => ?_⟩)
        · go_simp
          exact ⟨drawn_below _ _, _, rfl, fnum_is _ _ _ _⟩
        obtain ⟨s2, rfl, h2⟩ := hv
        go_simp
        refine hK _ ?_
        clear hK K
        refine lexX_step (fun K hK => ⟨by kernel_rfl, foB_some _ _ _ _ _, fun v hv => ?_, fun v hv => ?_⟩)
        · go_simp
          exact ⟨Below.refl _ _, _, _, rfl, h1, h2⟩
        obtain ⟨q1, q2, rfl, h3, h4⟩ := hv
        go_simp
        refine hK _ ?_
        clear hK K
        have HCq1 : HeldR (FOp .sub e1 r1 q1 ∧ FOp .sub e2 r2 q2) := hideR ⟨h3, h4⟩
        clear h1 h2 h3 h4
        refine lexX_end (fun v5 hv => ?_)
        have HK5 := hideR hv.low
        clear hv
        have HO5 := hideR ((unhideR HOw8).below (unhideR HK5))
        obtain ⟨⟨z0, hz0⟩, ⟨z1, hz1⟩, y0, y1⟩ := (unhideR HO5).has (k := kh) (by omega)
        have HOw9 : HeldR (PrOwn ((v5.setCell ⟨g, kh * 2, none⟩ (.float .f64 q1)).setCell ⟨g, kh * 2 + 1, none⟩ (.float .f64 q2)) g g n ((M.set k (p1, p2)).set kh (q1, q2))) := hideR ((unhideR HO5).put (k := kh) (by omega) (q1, q2))
        have HBw9 : HeldR (Below w2.heap.size w2 ((v5.setCell ⟨g, kh * 2, none⟩ (.float .f64 q1)).setCell ⟨g, kh * 2 + 1, none⟩ (.float .f64 q2))) := hideR (((below_go (unhideR HBw8) (unhideR HK5)).setCell (by rw [unhideR HG]; exact Nat.le_refl _) _).setCell (by rw [unhideR HG]; exact Nat.le_refl _) _)
        have HPw9 : HeldR (((v5.setCell ⟨g, kh * 2, none⟩ (.float .f64 q1)).setCell ⟨g, kh * 2 + 1, none⟩ (.float .f64 q2)).heap[g9]? = some (.cells #[.float .f64 r1, .float .f64 r2] 39)) := hideR ((set2_off (unhideR HGn)).trans (keepB (unhideR HPx) (unhideR HK5)))
        clear HO5 HEb HPx HOw8 HBw8
        refine wpAny_step (i := 22) (by kernel_rfl) rfl (by kernel_rfl) (fun K hK => ?_)
        unfold Oper.wp
        go_simp
        refine hK _ _ ?_
        clear hK K
        refine wpAny_step (i := 23) (by kernel_rfl) rfl (by kernel_rfl) (fun K hK => ?_)
        unfold Oper.wp
        go_simp
        refine hK _ _ ?_
        clear hK K
        refine wpAny_end (by kernel_rfl) ?_
        generalize ((v5.setCell ⟨g, kh * 2, none⟩ (.float .f64 q1)).setCell ⟨g, kh * 2 + 1, none⟩ (.float .f64 q2)) = w9 at *
        clear hz0 hz1 y0 y1 HK5 v5
        have HPx := HPw9
        clear HPw9
        have HV' := hideR (unhideR HNx _ (p1, p2) (q1, q2) hr (unhideR HCp1) (unhideR HCq1))
        clear hr HNx HCp1 HCq1 HPx
        go_wp2
        exact ⟨⟨k + 1, _, by omega, by first | rfl | go_num, HV', HOw9, HBw9⟩, by simp [intOf]; omega⟩
      · obtain rfl : k = h := by omega
        have tk : decide (k < k) = false := decide_eq_false hlt
        have HR := hideR (unhideR HEnd E O M wr _ _ (unhideR HRE) (unhideR HRO) (unhideR HV) (unhideR HO) (below_go (unhideR HB2) (unhideR HB)))
        clear HEnd HRE HRO HV HO HB
        go_wp2
        go_ret
        exact unhideR HR
theorem halves_any (back : Bool) (d : Nat) : HvC back d := by
  induction d with
  | zero => exact halves_one back
  | succ d ih => exact halves_step back d ih
end Go.Proofs.YtngdemhhcablmakDoor
namespace Go.Proofs.YtngdemhhcablmakDoor
open Go Go.RowKit

/-- the waves by halves, of 2 to the power of d numbers. -/
def FsEnd (L : List (Nat × Nat)) (d : Nat) (back : Bool) (M : List (Nat × Nat)) : Prop := ∃ X : List (Nat × Nat), X.length = 2 ^ d ∧ HvR back d (fun i => L.getD i (0, 0)) (fun i => X.getD i (0, 0)) ∧ (back = false → M = X) ∧ (back = true → OvK (floatOfInt .f64 ((2 ^ d : Nat) : Int)) X M (2 ^ d))
theorem FsEnd.len {L M : List (Nat × Nat)} {d : Nat} {back : Bool} (h : FsEnd L d back M) : M.length = 2 ^ d := by
  obtain ⟨X, h1, _, h3, h4⟩ := h
  cases back with
  | false => rw [h3 rfl, h1]
  | true => exact (h4 rfl).len
def FsPost (L : List (Nat × Nat)) (d : Nat) (back : Bool) (w : World) (e : Ending) (w' : World) : Prop := ∃ (M : List (Nat × Nat)) (ad : Option Addr) (cap : Nat), e = .returned (.slice ad M.length cap) ∧ FsEnd L d back M ∧ PrCame w' ad M ∧ Below w.heap.size w w'
set_option maxRecDepth 100000 in
set_option maxHeartbeats 400000 in
theorem fastOf_any {w : World} {a1 : Option Addr} {c1 d : Nat} {L : List (Nat × Nat)} (hL : PrCame w a1 L) (hd : L.length = 2 ^ d) (hl : L.length ≤ 256) (back : Bool) : Calls Tryd.prog 17 #[.slice a1 L.length c1, .bool back] w (FsPost L d back w) := by
  have hcH : Calls Tryd.prog 37 #[.slice a1 L.length c1, .int .i64 0, .int .i64 1, .bool back] w (HvPost L 0 1 d back w) := halves_any back d (w := w) (a1 := a1) (c1 := c1) (L := L) 1 0 hL (by rw [Nat.one_mul]; exact hd) hl (by decide)
  have HD : HeldR (2 ^ d ≤ 100000) := hideR (by rw [← hd]; omega)
  have HX : HeldR (∀ X : List (Nat × Nat), HvR back d (fun i => L.getD (0 + i * 1) (0, 0)) (fun i => X.getD i (0, 0)) → HvR back d (fun i => L.getD i (0, 0)) (fun i => X.getD i (0, 0))) := hideR (fun X h => h.congr (fun i _ => by show L.getD i (0, 0) = L.getD (0 + i * 1) (0, 0); rw [Nat.mul_one, Nat.zero_add]))
  generalize hN : L.length = N at hcH hd hl ⊢
  clear hL hN hd
  go_enter Tryd.func17, Tryd.ntmps17
  go_wp2_with fail
  refine hcH.mono ?_
  rintro e w1 ⟨X, ad, cap, rfl, lX, rX, cX, bX⟩
  have hrX := unhideR HX X rX
  clear hcH rX
  cases hbk : back with
  | false =>
    have HR : HeldR (FsPost L d false w (.returned (.slice ad X.length cap)) w1) := hideR ⟨X, ad, cap, rfl, ⟨X, lX, by rw [← hbk]; exact hrX, fun _ => rfl, fun q => by cases q⟩, cX, bX⟩
    generalize X.length = m at *
    clear hrX lX cX bX HX
    subst hbk
    go_wp2
    go_ret
    exact unhideR HR
  | true =>
    have hov := over_any (c1 := cap) cX (by rw [lX]; exact unhideR HD)
    have HR : HeldR (∀ e w', OvPost X w1 e w' → ∃ v, e = .returned v ∧ FsPost L d true w (.returned v) w') := hideR (fun e w' h => by
      obtain ⟨M, v, rfl, g1, g2, g3⟩ := h
      obtain ⟨ad2, cap2, rfl, hc2⟩ := Prown g2
      rw [lX] at g1
      exact ⟨_, rfl, M, ad2, cap2, rfl, ⟨X, lX, by rw [← hbk]; exact hrX, (fun q => by cases q), fun _ => g1⟩, hc2, below_go bX g3⟩)
    generalize X.length = m at *
    clear hrX cX bX HX lX
    subst hbk
    go_wp2_with fail
    refine hov.mono ?_
    intro e w2 h
    obtain ⟨v, rfl, hp⟩ := unhideR HR e w2 h
    have HR2 := hideR hp
    clear hov h hp HR
    go_wp2
    go_ret
    exact unhideR HR2
end Go.Proofs.YtngdemhhcablmakDoor
