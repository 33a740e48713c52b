/-
  The law SkyChains: the slice that it makes; its walk.
-/
import Derived.Test.YtbjpkfmencaafafDoorDAlong2
import Derived.Test.YtbjpkfmencaafafDoorSkLawD
import Derived.Test.YtbjpkfmencaafafDoorDPointD
namespace Go.Proofs.YtbjpkfmencaafafDoor
open Go Go.RowKit

def valS (s : St) : List Value := [.int .i64 s.k, .int .i64 s.d]
def flatS : List St → List Value
  | [] => []
  | s :: L => valS s ++ flatS L
theorem flatS_append : ∀ (L M : List St), flatS (L ++ M) = flatS L ++ flatS M
  | [], _ => rfl
  | q :: L, M => by
    show valS q ++ flatS (L ++ M) = (valS q ++ flatS L) ++ flatS M
    rw [flatS_append L M, List.append_assoc]
theorem flatS_at : ∀ (L : List St) (j : Nat), j < L.length → (flatS L)[j * 2]? = some (.int .i64 (L.getD j st0).k) ∧ (flatS L)[j * 2 + 1]? = some (.int .i64 (L.getD j st0).d)
  | [], _, h => absurd h (by simp)
  | q :: L, 0, _ => ⟨rfl, rfl⟩
  | q :: L, j + 1, h => by
    have hj : j < L.length := by simpa using h
    obtain ⟨h0, h1⟩ := flatS_at L j hj
    have e : ∀ i, (flatS (q :: L))[(j + 1) * 2 + i]? = (flatS L)[j * 2 + i]? := fun i => by
      show (valS q ++ flatS L)[(j + 1) * 2 + i]? = _
      rw [List.getElem?_append_right (by simp [valS]; omega)]
      congr 1
      simp [valS]
      omega
    exact ⟨(e 0).trans h0, (e 1).trans h1⟩
theorem take_s {L : List St} {k : Nat} (h : k < L.length) : L.take (k + 1) = L.take k ++ [L.getD k st0] := by
  rw [List.take_add_one]
  congr 1
  simp [List.getD, List.getElem?_eq_getElem h]
theorem own_rowS {w : World} {B : Nat} {t : TypeId} {v : Value} {L : List St} (h : w.ownsRow B t 2 v L.length (flatS L)) : Steps3 w.heap.size w v L := by
  obtain ⟨_, h⟩ := h
  rcases h with ⟨h1, h2⟩ | ⟨g, cap, cur, rfl, _, hg, hc, _, hs, ht⟩
  · obtain rfl := List.length_eq_zero_iff.1 h2
    rw [h1]
    exact .nil
  · refine .row (Array.getElem?_eq_some_iff.1 hg).1 ?_
    have hcell : ∀ i u, i < L.length * 2 → (flatS L)[i]? = some u → w.cell? ⟨g, i, none⟩ = some u := fun i u hi hu => by
      rw [← ht, List.getElem?_take, if_pos hi] at hu
      simp only [World.cell?, hg]
      simpa using hu
    refine ⟨fun j hj => ?_, fun j hj => ?_⟩
    · rw [Nat.zero_add]; exact hcell _ _ (by omega) (flatS_at L j hj).1
    · rw [Nat.zero_add]; exact hcell _ _ (by omega) (flatS_at L j hj).2
theorem own_below2 {w w' : World} {B n s : Nat} {e : TypeId} {v : Value} {xs : List Value} (h : w.ownsRow B e s v n xs) (hb : Below w.heap.size w w') : w'.ownsRow B e s v n xs := by
  obtain ⟨h1, h2⟩ := h
  refine ⟨h1, ?_⟩
  rcases h2 with h2 | ⟨g, cap, cur, hv, hg, hh, r⟩
  · exact Or.inl h2
  · exact Or.inr ⟨g, cap, cur, hv, hg, by rw [hb.block g (Array.getElem?_eq_some_iff.1 hh).1]; exact hh, r⟩
theorem own_at2 {w : World} {B n s : Nat} {e : TypeId} {v : Value} {xs : List Value} (h : w.ownsRow B e s v n xs) : ∀ g, v.ownBlock = some g → B ≤ g := by
  intro g hg
  rcases h.2 with ⟨h2, _⟩ | ⟨g', cap, cur, hv, hB, hh, _⟩
  · subst h2; cases hg
  · subst hv
    have e : g' = g := by simpa [Value.ownBlock] using hg
    subst e
    exact hB
theorem infoS : (Tryd.prog.info? 30).map (fun i => (i.zero, i.size, i.bytes)) = some (some (.agg #[.int .i64 0, .int .i64 0]), 2, 16) := by kernel_rfl
def OneS (v : Value) : Prop := ∃ b, v = .slice (some ⟨b, 0, none⟩) 1 1
def OneAt (k d : Int) (v : Value) (w : World) : Prop := ∀ b, v = .slice (some ⟨b, 0, none⟩) 1 1 → w.heap[b]? = some (.cells #[.int .i64 k, .int .i64 d] 30)
theorem one_stb (k d : Int) (v : Value) : Stb (OneAt k d v) := fun _ _ h hb b e => keepB (h b e) hb
/-- the steps that came in. -/
structure Came (w : World) (ad : Option Addr) (L : List St) : Prop where
  at_ : ∀ k, k < L.length → ∃ b off, ad = some ⟨b, off, none⟩ ∧ b < w.heap.size ∧ w.cell? ⟨b, off + k * 2, none⟩ = some (.int .i64 (L.getD k st0).k) ∧ w.cell? ⟨b, off + k * 2 + 1, none⟩ = some (.int .i64 (L.getD k st0).d)
theorem Came.below {w v : World} {ad : Option Addr} {L : List St} (h : Came w ad L) (k : Below w.heap.size w v) : Came v ad L := ⟨fun j hj => by
  obtain ⟨b, off, e, hb, h1, h2⟩ := h.at_ j hj
  exact ⟨b, off, e, Nat.lt_of_lt_of_le hb k.size, (k.cell hb).trans h1, (k.cell hb).trans h2⟩⟩
theorem Steps3.up {n₀ : Nat} {w w' : World} {sv : Value} {L : List St} (h : Steps3 n₀ w sv L) (k : Below w.heap.size w w') (hn : n₀ ≤ w.heap.size) : Steps3 w'.heap.size w' sv L := by
  cases h with
  | nil => exact .nil
  | row h1 h2 => exact .row (by have := k.size; omega) (h2.below k (by omega))
/-- what holds from the slice's making on. -/
structure Cur (a : Nat → Addr) (w : World) (v : V3) (mv : Value) (ad : Option Addr) (L : List St) (u : World) : Prop where
  s : Sents u a
  b : Below w.heap.size w u
  vb : VBox u w.heap.size v
  m : Steps3 u.heap.size u mv L
  c : Came u ad L
theorem Cur.go {a : Nat → Addr} {w : World} {v : V3} {mv : Value} {ad : Option Addr} {L : List St} {u u' : World} (h : Cur a w v mv ad L u) (k : Below u.heap.size u u') : Cur a w v mv ad L u' :=
  ⟨h.s.below k (Nat.le_refl _), below_go h.b k, ⟨keepB h.vb.at_ k⟩, h.m.up k (Nat.le_refl _), h.c.below k⟩
theorem VBox.go {w u : World} {b : Nat} {q : V3} (h : VBox w b q) (k : Below w.heap.size w u) : VBox u b q := ⟨keepB h.at_ k⟩
theorem VBox.new (w : World) (q : V3) : VBox (w.alloc (.cells #[.float .f64 q.x, .float .f64 q.y, .float .f64 q.z] 25)) w.heap.size q := ⟨alloc_last w _⟩
theorem below_a (w : World) (o : Obj) : Below w.heap.size w (w.alloc o) := (Below.refl w.heap.size w).alloc (Nat.le_refl _) o
set_option maxRecDepth 100000 in
set_option maxHeartbeats 16000000 in
theorem chains_in {a : Nat → Addr} (ad : Option Addr) (cap : Nat) (L : List St) (v : V3) (w : World) (hS : Sents w a) (hC : Came w ad L) (hl : L.length ≤ 60)
    (hE : ∀ u, Below w.heap.size w u → Calls Tryd.prog 5 #[.slice ad L.length cap] u fun e w' => ∃ r, e = .returned (.int .i64 r) ∧ StepsAre L r ∧ w' = u) :
    Calls Tryd.prog 3 #[.slice ad L.length cap, v.val] w fun e w' => e = .returned (.bool true) ∧ Below w.heap.size w w' := by
  obtain ⟨i0, hi, hz0, hz1, hz2⟩ := info_parts infoS
  have hsf := run_store_float Tryd.prog
  have HS := hideR hS
  have HC := hideR hC
  have HE := hideR hE
  clear hS hC hE
  unfold V3.val
  go_enter Tryd.func3, Tryd.ntmps3
  go_wp2_with fail
  refine (pointed_any _).mono ?_
  rintro e w1 ⟨rfl, k1⟩
  have A0 := hideR (VBox.mk (q := v) (keepB (alloc_last w _) k1))
  have HW := hideR (below_go ((Below.refl w.heap.size w).alloc (Nat.le_refl _) _) k1)
  have ls : w.heap.size + 1 ≤ w1.heap.size := by have := ltB (unhideR A0).at_; omega
  clear k1
  go_wp2
  go_loopw [6, 7] (fun mv kv wl => ∃ k : Nat, k ≤ L.length ∧ kv = .int .i64 (k : Nat) ∧ HeldR (wl.ownsRow (w.heap.size + 1) 30 2 mv k (flatS (L.take k))) ∧ HeldR (Below w.heap.size w wl) ∧ HeldR (VBox wl w.heap.size v)) (fun _ kv _ => L.length - (intOf kv).toNat)
  case atStart => exact ⟨0, by omega, rfl, World.ownsRow_nil _ _ _ _, HW, A0⟩
  case round =>
    clear A0 HW
    obtain ⟨k, hk, rfl, HO, HB, A0⟩ := hrel
    have lw := ltB (unhideR A0).at_
    by_cases hlt : k < L.length
    · obtain ⟨b, off, rfl, hb, _, _⟩ := (unhideR HC).at_ k hlt
      have ht := take_s hlt
      have hrow : ∀ u, Below wr.heap.size wr u → u.cell? ⟨b, off + k * 2, none⟩ = some (.int .i64 (L.getD k st0).k) ∧ u.cell? ⟨b, off + k * 2 + 1, none⟩ = some (.int .i64 (L.getD k st0).d) := fun u hu => by
        obtain ⟨b', off', e, hb', h1, h2⟩ := ((unhideR HC).below (below_go (unhideR HB) hu)).at_ k hlt
        cases e
        exact ⟨h1, h2⟩
      have HRow := hideR hrow
      have HT := hideR ht
      clear hrow ht
      generalize L.getD k st0 = s at *
      go_wp2_with fail
      refine wp_region_made 1 #[true, true, true, true, true, true, true, true, true, true, true, true, true, false, false] [.lets (· = u6),
        .lets (· = .slice (some ⟨b, off, none⟩) L.length cap),
        .lets (· = .int .i64 (k : Nat)),
        .lets (· = .pointer (some ⟨b, off + k * 2, none⟩)),
        .lets (· = .pointer (some ⟨b, off + k * 2, none⟩)),
        .lets (· = .int .i64 s.k),
        .lets (· = .slice (some ⟨b, off, none⟩) L.length cap),
        .lets (· = .int .i64 (k : Nat)),
        .lets (· = .pointer (some ⟨b, off + k * 2, none⟩)),
        .lets (· = .pointer (some ⟨b, off + k * 2 + 1, none⟩)),
        .lets (· = .int .i64 s.d),
        .lets (· = .agg #[.int .i64 s.k, .int .i64 s.d]),
        .made OneS (OneAt s.k s.d)] [12] [] (by kernel_rfl) (by kernel_rfl) rfl ?kinds (by kernel_rfl) (by kernel_rfl) (by kernel_rfl) ?_
      case kinds =>
        constructor
        · intro i h
          rcases i with _ | _ | _ | _ | _ | _ | _ | _ | _ | _ | _ | _ | _ | i <;> simp [Kx.isMade] at h ⊢
        · intro i h
          rcases i with _ | _ | _ | _ | _ | _ | _ | _ | _ | _ | _ | _ | _ | i <;> simp [Kx.isUse] at h ⊢
      refine lexX_step (fun K hK => ⟨by kernel_rfl, ⟨_, rfl⟩, fun v hv => ?_, fun v hv => ?_⟩)
      · go_simp
        exact mUpon_b
      rw [hv]
      clear hv v
      go_simp
      refine hK _ ?_
      clear hK K
      refine lexX_step (fun K hK => ⟨by kernel_rfl, ⟨_, rfl⟩, fun v hv => ?_, fun v hv => ?_⟩)
      · go_simp
        exact mUpon_b
      subst hv
      go_simp
      refine hK _ ?_
      clear hK K
      refine lexX_step (fun K hK => ⟨by kernel_rfl, ⟨_, rfl⟩, fun v hv => ?_, fun v hv => ?_⟩)
      · go_simp
        exact mUpon_b
      subst hv
      go_simp
      refine hK _ ?_
      clear hK K
      refine lexX_step (fun K hK => ⟨by kernel_rfl, ⟨_, rfl⟩, fun v hv => ?_, fun v hv => ?_⟩)
      · go_simp
        exact mUpon_b
      subst hv
      go_simp
      refine hK _ ?_
      clear hK K
      refine lexX_step (fun K hK => ⟨by kernel_rfl, ⟨_, rfl⟩, fun v hv => ?_, fun v hv => ?_⟩)
      · go_simp
        exact mUpon_b
      subst hv
      go_simp
      refine hK _ ?_
      clear hK K
      refine lexX_step (fun K hK => ⟨by kernel_rfl, ⟨_, rfl⟩, fun v hv => ?_, fun v hv => ?_⟩)
      · obtain ⟨c0, c1⟩ := unhideR HRow _ hv
        go_simp
        exact mUpon_b
      subst hv
      go_simp
      refine hK _ ?_
      clear hK K
      refine lexX_step (fun K hK => ⟨by kernel_rfl, ⟨_, rfl⟩, fun v hv => ?_, fun v hv => ?_⟩)
      · go_simp
        exact mUpon_b
      subst hv
      go_simp
      refine hK _ ?_
      clear hK K
      refine lexX_step (fun K hK => ⟨by kernel_rfl, ⟨_, rfl⟩, fun v hv => ?_, fun v hv => ?_⟩)
      · go_simp
        exact mUpon_b
      subst hv
      go_simp
      refine hK _ ?_
      clear hK K
      refine lexX_step (fun K hK => ⟨by kernel_rfl, ⟨_, rfl⟩, fun v hv => ?_, fun v hv => ?_⟩)
      · go_simp
        exact mUpon_b
      subst hv
      go_simp
      refine hK _ ?_
      clear hK K
      refine lexX_step (fun K hK => ⟨by kernel_rfl, ⟨_, rfl⟩, fun v hv => ?_, fun v hv => ?_⟩)
      · go_simp
        exact mUpon_b
      subst hv
      go_simp
      refine hK _ ?_
      clear hK K
      refine lexX_step (fun K hK => ⟨by kernel_rfl, ⟨_, rfl⟩, fun v hv => ?_, fun v hv => ?_⟩)
      · obtain ⟨c0, c1⟩ := unhideR HRow _ hv
        go_simp
        exact mUpon_b
      subst hv
      go_simp
      refine hK _ ?_
      clear hK K
      refine lexX_step (fun K hK => ⟨by kernel_rfl, ⟨_, rfl⟩, fun v hv => ?_, fun v hv => ?_⟩)
      · go_simp
        exact mUpon_b
      subst hv
      go_simp
      refine hK _ ?_
      clear hK K
      refine lexX_made ⟨by kernel_rfl, ⟨_, 0, rfl⟩, one_stb _ _, fun v hv => ?_, ?_⟩
      · go_simp
        refine ⟨(Below.refl _ v).alloc (Nat.le_refl _) _, ⟨_, rfl⟩, fun b' e => ?_⟩
        cases e
        exact alloc_last v _
      rintro _ ⟨nb, rfl⟩ K hK
      go_simp
      refine hK _ ?_
      clear hK K
      refine lexX_end (fun v2 hv => ?_)
      have hn := hv.fact.2 nb rfl
      have hb2 := hv.low
      clear hv
      have HO2 := hideR (own_below2 (unhideR HO) hb2)
      have HB2 := hideR (below_go (unhideR HB) hb2)
      have A2 := hideR (VBox.mk (keepB (unhideR A0).at_ hb2))
      have l2 := hb2.size
      obtain ⟨⟨n0, n1⟩, _⟩ := pair_at hn
      clear hb2 hn HO HB A0
      refine wpAny_step (i := 13) (by kernel_rfl) rfl (by kernel_rfl) (fun K hK => ?_)
      refine wp_append_own _ _ _ 27 rfl (w.heap.size + 1) 30 i0 (.agg #[.int .i64 0, .int .i64 0]) 2 16 Tryd.underlying27 hi hz0 hz1 hz2 rfl (by decide) u6 k (flatS (L.take k)) rfl (unhideR HO2) ⟨nb, 0, none⟩ 1 1 [.int .i64 s.k, .int .i64 s.d] rfl rfl ?q1 ?q2 ?q3 ?q4 ?q5 ?_
      case q1 =>
        intro m u hm
        have hm0 : m < 2 := by
          have h := (List.getElem?_eq_some_iff.1 hm).1
          simpa using h
        rcases (show m = 0 ∨ m = 1 by omega) with rfl | rfl
        all_goals
          simp at hm
          subst hm
          simp [Addr.add]
          first | exact n0 | exact n1
      case q2 =>
        intro u hu
        simp only [List.mem_cons, List.not_mem_nil, or_false] at hu
        rcases hu with rfl | rfl <;> rfl
      case q3 => unfold maxLen; omega
      case q4 => omega
      case q5 => omega
      intro v3 w3 hown2 hgrow2 _
      have B3 := hideR ((unhideR HB2).grown hgrow2 (by omega) (fun g h => by have := own_at2 (unhideR HO2) g h; omega))
      have A3 := hideR (VBox.mk ((hgrow2.block w.heap.size (by omega) (fun e => by have := own_at2 (unhideR HO2) _ e.symm; omega)).trans (unhideR A2).at_))
      have O3 : HeldR (w3.ownsRow (w.heap.size + 1) 30 2 v3 (k + 1) (flatS (L.take (k + 1)))) := by
        rw [unhideR HT, flatS_append]
        exact hown2
      clear hown2 hgrow2 HO2 HT HB2 A2 HRow
      go_simp
      refine hK _ _ ?_
      clear hK K
      refine wpAny_step (i := 14) (by kernel_rfl) rfl (by kernel_rfl) (fun K hK => ?_)
      unfold Oper.wp
      go_simp
      refine hK _ _ ?_
      clear hK K
      refine wpAny_end (by kernel_rfl) ?_
      go_wp2
      exact ⟨⟨k + 1, by omega, by go_num, O3, B3, A3⟩, by simp [intOf]; omega⟩
    · obtain rfl : k = L.length := by omega
      have hO := unhideR HO
      rw [List.take_length] at hO
      have HM := hideR (own_rowS hO)
      have HCu : HeldR (Cur a w v u6 ad L wr) := hideR ⟨(unhideR HS).below (unhideR HB) (Nat.le_refl _), unhideR HB, unhideR A0, unhideR HM, (unhideR HC).below (unhideR HB)⟩
      have hE2 := unhideR HE _ (unhideR HB)
      clear hO HO HM HS HC HE HB A0
      obtain ⟨⟨c0, c1, c2⟩, _⟩ := three_at (unhideR HCu).vb.at_
      go_wp2_with fail
      refine hE2.mono ?_
      rintro e w2 ⟨r, rfl, hr, rfl⟩
      clear hE2
      by_cases hg : ∀ j, j < L.length → (L.getD j st0).good
      case neg =>
        have hbad : ∃ j, j < L.length ∧ ¬ (L.getD j st0).good := by
          apply Classical.byContradiction
          intro hn
          exact hg fun j hj => Classical.byContradiction fun hk => hn ⟨j, hj, hk⟩
        obtain rfl : r = 5 := by
          rcases hr with ⟨_, h⟩ | ⟨h, _⟩
          · exact absurd h hg
          · exact h
        have HN := hideR hg
        clear hr hg hbad
        go_wp2_with fail
        refine (along_steps _ _ _ _ (unhideR HCu).s (unhideR HCu).m (by omega)).mono ?_
        rintro e w3 ⟨hal, k3⟩
        rcases hal with ⟨_, h, _⟩ | ⟨_, rfl⟩
        · exact absurd h (unhideR HN)
        replace HCu := hideR ((unhideR HCu).go k3)
        clear k3 c0 c1 c2
        unfold zeroV shapeErr
        obtain ⟨⟨c0, c1, c2⟩, _⟩ := three_at (unhideR HCu).vb.at_
        have lv := ltB (unhideR HCu).vb.at_
        go_wp2_with fail
        refine (against_steps _ _ _ _ ((unhideR HCu).go (below_a _ _)).s ((unhideR HCu).go (below_a _ _)).m (by omega)).mono ?_
        rintro e w4 ⟨hal, k4⟩
        rcases hal with ⟨_, h, _⟩ | ⟨_, rfl⟩
        · exact absurd h (unhideR HN)
        have XB := hideR ((VBox.new w3 ⟨0, 0, 0⟩).go k4)
        replace HCu := hideR (((unhideR HCu).go (below_a _ _)).go k4)
        clear k4 c0 c1 c2 lv
        unfold zeroV shapeErr
        have hc5 : (((4 : Nat) : Int) + 1 == 5) = true := rfl
        go_wp2_with fail
        refine (coded_sent ((unhideR HCu).go (below_a _ _)).s 4 (by omega) 5).mono ?_
        rintro e w5 ⟨rfl, k5⟩
        rw [hc5]
        have YB := hideR ((VBox.new w4 ⟨0, 0, 0⟩).go k5)
        replace XB := hideR (((unhideR XB).go (below_a _ _)).go k5)
        replace HCu := hideR (((unhideR HCu).go (below_a _ _)).go k5)
        clear k5
        go_wp2_with fail
        refine (coded_sent (unhideR HCu).s 4 (by omega) 5).mono ?_
        rintro e w6 ⟨rfl, k6⟩
        rw [hc5]
        replace XB := hideR ((unhideR XB).go k6)
        replace YB := hideR ((unhideR YB).go k6)
        replace HCu := hideR ((unhideR HCu).go k6)
        clear k6
        obtain ⟨⟨c0, c1, c2⟩, _⟩ := three_at (unhideR XB).at_
        go_wp2_with fail
        refine (sameVec_any _ _ _ _ _ _ _ (.refl _) (.refl _) (.refl _)).mono ?_
        rintro e w7 ⟨rfl, k7⟩
        replace YB := hideR ((unhideR YB).go k7)
        replace HCu := hideR ((unhideR HCu).go k7)
        clear k7 c0 c1 c2
        obtain ⟨⟨c0, c1, c2⟩, _⟩ := three_at (unhideR YB).at_
        go_wp2_with fail
        refine (sameVec_any _ _ _ _ _ _ _ (.refl _) (.refl _) (.refl _)).mono ?_
        rintro e w8 ⟨rfl, k8⟩
        replace HCu := hideR ((unhideR HCu).go k8)
        clear k8 c0 c1 c2
        go_wp2
        go_ret
        exact ⟨rfl, (unhideR HCu).b⟩
      case pos =>
        obtain rfl : r = 0 := by
          rcases hr with ⟨h, _⟩ | ⟨_, j, hj, h⟩
          · exact h
          · exact absurd (hg j hj) h
        have HG := hideR hg
        clear hr hg
        go_wp2_with fail
        refine (along_steps _ _ _ _ (unhideR HCu).s (unhideR HCu).m (by omega)).mono ?_
        rintro e w3 ⟨hal, k3⟩
        rcases hal with ⟨q1, _, hq1, rfl⟩ | ⟨⟨j, hj, h⟩, _⟩
        case inr => exact absurd (unhideR HG j hj) h
        have HQ1 := hideR hq1
        replace HCu := hideR ((unhideR HCu).go k3)
        clear k3 c0 c1 c2 hq1
        unfold V3.val
        obtain ⟨⟨c0, c1, c2⟩, _⟩ := three_at (unhideR HCu).vb.at_
        have lv := ltB (unhideR HCu).vb.at_
        go_wp2_with fail
        refine (against_steps _ _ _ _ ((unhideR HCu).go (below_a _ _)).s ((unhideR HCu).go (below_a _ _)).m (by omega)).mono ?_
        rintro e w4 ⟨hal, k4⟩
        rcases hal with ⟨q2, _, hq2, rfl⟩ | ⟨⟨j, hj, h⟩, _⟩
        case inr => exact absurd (unhideR HG j hj) h
        have HQ2 := hideR hq2
        have XB := hideR ((VBox.new w3 q1).go k4)
        replace HCu := hideR (((unhideR HCu).go (below_a _ _)).go k4)
        clear k4 c0 c1 c2 lv hq2
        unfold V3.val
        obtain ⟨⟨c0, c1, c2⟩, _⟩ := three_at (unhideR HCu).vb.at_
        have lv := ltB (unhideR HCu).vb.at_
        go_wp2_with fail
        obtain ⟨U0, hU0⟩ : ∃ U0, w4.alloc (.cells #[.float .f64 q2.x, .float .f64 q2.y, .float .f64 q2.z] 25) = U0 := ⟨_, rfl⟩
        have YB : HeldR (VBox U0 w4.heap.size q2) := hideR (hU0 ▸ VBox.new w4 q2)
        replace XB := hideR (show VBox U0 w3.heap.size q1 from hU0 ▸ (unhideR XB).go (below_a _ _))
        replace HCu := hideR (show Cur a w v u6 ad L U0 from hU0 ▸ (unhideR HCu).go (below_a _ _))
        have hsz : w4.heap.size + 1 = U0.heap.size := by rw [← hU0]; simp
        rw [hU0, hsz]
        clear hU0 c0 c1 c2 lv
        go_loopw [15] (fun kv wl => ∃ (k : Nat) (p1 p2 : V3), k ≤ L.length ∧ kv = .int .i64 (k : Nat) ∧ HeldR (Al L v k p1) ∧ HeldR (Ag L v k p2) ∧ HeldR (VBox wl U0.heap.size p1) ∧ HeldR (VBox wl (U0.heap.size + 1) p2) ∧ HeldR (Below U0.heap.size U0 wl)) (fun kv _ => L.length + 1 - (intOf kv).toNat)
        case atStart => exact ⟨0, v, v, by omega, rfl, hideR .zero, hideR .zero, hideR ⟨keepA (alloc_last U0 _)⟩, hideR ⟨by have := alloc_last (U0.alloc (.cells #[.float .f64 v.x, .float .f64 v.y, .float .f64 v.z] 25)) (.cells #[.float .f64 v.x, .float .f64 v.y, .float .f64 v.z] 25); simpa using this⟩, hideR (below_al2 U0 _ _)⟩
        case round =>
          obtain ⟨k, p1, p2, hk, rfl, HAl, HAg, PA, PB, HK⟩ := hrel
          by_cases hlt : k < L.length
          · obtain ⟨b, off, rfl, hb, _, _⟩ := (unhideR HCu).c.at_ k hlt
            obtain ⟨j, hj⟩ : ∃ j, j = L.length - 1 - k := ⟨_, rfl⟩
            have hjl : j < L.length := by omega
            have hrow : ∀ (n : Nat), n < L.length → ∀ u, Below U0.heap.size U0 u → u.cell? ⟨b, off + n * 2, none⟩ = some (.int .i64 (L.getD n st0).k) ∧ u.cell? ⟨b, off + n * 2 + 1, none⟩ = some (.int .i64 (L.getD n st0).d) := fun n hn u hu => by
              obtain ⟨b', off', e, hb', h1, h2⟩ := ((unhideR HCu).c.below hu).at_ n hn
              cases e
              exact ⟨h1, h2⟩
            have HR1 := hideR (hrow k hlt)
            have HR2 := hideR (hrow j hjl)
            have HT1 : HeldR (∀ p, Turned (L.getD k st0).k (L.getD k st0).d p1 p → Al L v (k + 1) p) := fun p hp => .succ (unhideR HAl) hlt hp
            have HT2 : HeldR (∀ p, Turned (L.getD j st0).k (-nrm (L.getD j st0).d) p2 p → Ag L v (k + 1) p) := fun p hp => .succ (unhideR HAg) hlt (hj ▸ hp)
            have hji : (L.length : Int) - 1 - (k : Int) = (j : Int) := by omega
            clear hrow HAl HAg hj
            generalize L.getD k st0 = s1 at *
            generalize L.getD j st0 = s2 at *
            have lp := ltB (unhideR PB).at_
            go_wp2_with fail
            refine wp_region_made 0 #[true, true, true, true, true, true, false] [.lets (· = .slice (some ⟨b, off, none⟩) L.length cap),
              .lets (· = .int .i64 (k : Nat)),
              .lets (· = .pointer (some ⟨b, off + k * 2, none⟩)),
              .lets (· = .agg #[.int .i64 s1.k, .int .i64 s1.d]),
              .lets (· = .agg #[.float .f64 p1.x, .float .f64 p1.y, .float .f64 p1.z]),
              .lets (TuS s1.k s1.d p1)] [] [] (by kernel_rfl) (by kernel_rfl) rfl ?kinds2 (by kernel_rfl) (by kernel_rfl) (by kernel_rfl) ?_
            case kinds2 =>
              constructor
              · intro i h
                rcases i with _ | _ | _ | _ | _ | _ | i <;> simp [Kx.isMade] at h
              · intro i h
                rcases i with _ | _ | _ | _ | _ | _ | i <;> simp [Kx.isUse] at h
            refine lexX_step (fun K hK => ⟨by kernel_rfl, ⟨_, rfl⟩, fun v hv => ?_, fun v hv => ?_⟩)
            · go_simp
              exact mUpon_b
            subst hv
            go_simp
            refine hK _ ?_
            clear hK K
            refine lexX_step (fun K hK => ⟨by kernel_rfl, ⟨_, rfl⟩, fun v hv => ?_, fun v hv => ?_⟩)
            · go_simp
              exact mUpon_b
            subst hv
            go_simp
            refine hK _ ?_
            clear hK K
            refine lexX_step (fun K hK => ⟨by kernel_rfl, ⟨_, rfl⟩, fun v hv => ?_, fun v hv => ?_⟩)
            · go_simp
              exact mUpon_b
            subst hv
            go_simp
            refine hK _ ?_
            clear hK K
            refine lexX_step (fun K hK => ⟨by kernel_rfl, ⟨_, rfl⟩, fun v hv => ?_, fun v hv => ?_⟩)
            · obtain ⟨c0, c1⟩ := unhideR HR1 _ (below_go (unhideR HK) hv)
              go_simp
              exact mUpon_b
            subst hv
            go_simp
            refine hK _ ?_
            clear hK K
            refine lexX_step (fun K hK => ⟨by kernel_rfl, ⟨_, rfl⟩, fun v hv => ?_, fun v hv => ?_⟩)
            · obtain ⟨⟨c0, c1, c2⟩, _⟩ := three_at ((unhideR PA).go hv).at_
              go_simp
              exact mUpon_b
            subst hv
            go_simp
            refine hK _ ?_
            clear hK K
            refine lexX_step (fun K hK => ⟨by kernel_rfl, tu_some _ _ _, fun v hv => ?_, fun v hv => ?_⟩)
            · go_simp
              refine (turnBy_any _ _ _ _ _ _).mono ?_
              rintro e w9 ⟨u, rfl, hu, kk⟩
              exact ⟨_, rfl, hu, kk⟩
            obtain ⟨p1', rfl, hp1⟩ := turned_form (p := p1) hv
            go_simp
            refine hK _ ?_
            clear hK K hv
            have HP1 := hideR (unhideR HT1 p1' hp1)
            clear hp1 HT1
            refine lexX_end (fun vv hv => ?_)
            have hbv := hv.low
            clear hv
            have QA := hideR ((unhideR PA).go hbv)
            have QB := hideR ((unhideR PB).go hbv)
            have HKv := hideR (below_go (unhideR HK) hbv)
            clear hbv PA PB HK
            obtain ⟨⟨c0, c1, c2⟩, f0, f1, f2⟩ := three_at (unhideR QA).at_
            unfold V3.val
            refine wpAny_step (i := 6) (by kernel_rfl) rfl (by kernel_rfl) (fun K hK => ?_)
            unfold Oper.wp
            go_simp
            refine hK _ _ ?_
            clear hK K
            refine wpAny_end (by kernel_rfl) ?_
            have RA := hideR ((unhideR QA).set p1')
            have RB : HeldR (VBox (((vv.setCell ⟨U0.heap.size, 0, none⟩ (.float .f64 p1'.x)).setCell ⟨U0.heap.size, 1, none⟩ (.float .f64 p1'.y)).setCell ⟨U0.heap.size, 2, none⟩ (.float .f64 p1'.z)) (U0.heap.size + 1) p2) := hideR ⟨(set3_other (by omega)).trans (unhideR QB).at_⟩
            have RK := hideR (below_three (unhideR HKv) (Nat.le_refl _) (.float .f64 p1'.x) (.float .f64 p1'.y) (.float .f64 p1'.z))
            clear QA QB HKv c0 c1 c2 f0 f1 f2
            generalize ((vv.setCell ⟨U0.heap.size, 0, none⟩ (.float .f64 p1'.x)).setCell ⟨U0.heap.size, 1, none⟩ (.float .f64 p1'.y)).setCell ⟨U0.heap.size, 2, none⟩ (.float .f64 p1'.z) = V1 at *
            obtain ⟨g0, g1⟩ := unhideR HR2 _ (unhideR RK)
            have lq := ltB (unhideR RB).at_
            go_wp2_with fail
            obtain ⟨V2, hV2⟩ : ∃ V2, V1.alloc (.cells #[.int .i64 s2.k, .int .i64 s2.d] 29) = V2 := ⟨_, rfl⟩
            rw [hV2]
            have SB := hideR (show V2.heap[V1.heap.size]? = some (.cells #[.int .i64 s2.k, .int .i64 s2.d] 29) from hV2 ▸ alloc_last V1 _)
            replace RA := hideR (show VBox V2 U0.heap.size p1' from hV2 ▸ (unhideR RA).go (below_a _ _))
            replace RB := hideR (show VBox V2 (U0.heap.size + 1) p2 from hV2 ▸ (unhideR RB).go (below_a _ _))
            replace RK := hideR (show Below U0.heap.size U0 V2 from hV2 ▸ below_go (unhideR RK) (below_a _ _))
            have hnn := nrm_range s2.d
            have hwr : IntKind.i64.wrap (-nrm s2.d) = -nrm s2.d := by rw [IntKind.wrap_i64]; omega
            clear hV2 g0 g1 HR1 HR2
            refine wp_region_made 0 #[true, true, true, true, true, true, true, true, true, false] [.lets (· = .pointer (some ⟨V1.heap.size, 0, none⟩)),
              .lets (· = .int .i64 s2.k),
              .lets (· = .pointer (some ⟨V1.heap.size, 1, none⟩)),
              .lets (· = .int .i64 s2.d),
              .lets (· = .int .i64 (nrm s2.d)),
              .lets (· = .int .i64 (-nrm s2.d)),
              .lets (· = .agg #[.int .i64 s2.k, .int .i64 (-nrm s2.d)]),
              .lets (· = .agg #[.float .f64 p2.x, .float .f64 p2.y, .float .f64 p2.z]),
              .lets (TuS s2.k (-nrm s2.d) p2)] [] [] (by kernel_rfl) (by kernel_rfl) rfl ?kinds3 (by kernel_rfl) (by kernel_rfl) (by kernel_rfl) ?_
            case kinds3 =>
              constructor
              · intro i h
                rcases i with _ | _ | _ | _ | _ | _ | _ | _ | _ | i <;> simp [Kx.isMade] at h
              · intro i h
                rcases i with _ | _ | _ | _ | _ | _ | _ | _ | _ | i <;> simp [Kx.isUse] at h
            refine lexX_step (fun K hK => ⟨by kernel_rfl, ⟨_, rfl⟩, fun v hv => ?_, fun v hv => ?_⟩)
            · go_simp
              exact mUpon_b
            subst hv
            go_simp
            refine hK _ ?_
            clear hK K
            refine lexX_step (fun K hK => ⟨by kernel_rfl, ⟨_, rfl⟩, fun v hv => ?_, fun v hv => ?_⟩)
            · obtain ⟨⟨c0, c1⟩, _⟩ := pair_at (keepB (unhideR SB) hv)
              go_simp
              exact mUpon_b
            subst hv
            go_simp
            refine hK _ ?_
            clear hK K
            refine lexX_step (fun K hK => ⟨by kernel_rfl, ⟨_, rfl⟩, fun v hv => ?_, fun v hv => ?_⟩)
            · go_simp
              exact mUpon_b
            subst hv
            go_simp
            refine hK _ ?_
            clear hK K
            refine lexX_step (fun K hK => ⟨by kernel_rfl, ⟨_, rfl⟩, fun v hv => ?_, fun v hv => ?_⟩)
            · obtain ⟨⟨c0, c1⟩, _⟩ := pair_at (keepB (unhideR SB) hv)
              go_simp
              exact mUpon_b
            subst hv
            go_simp
            refine hK _ ?_
            clear hK K
            refine lexX_step (fun K hK => ⟨by kernel_rfl, ⟨_, rfl⟩, fun v hv => ?_, fun v hv => ?_⟩)
            · go_simp
              refine (normOf_any _ _).mono ?_
              rintro e w9 ⟨rfl, rfl⟩
              exact ⟨_, rfl, rfl, Below.refl _ _⟩
            subst hv
            go_simp
            refine hK _ ?_
            clear hK K
            refine lexX_step (fun K hK => ⟨by kernel_rfl, ⟨_, rfl⟩, fun v hv => ?_, fun v hv => ?_⟩)
            · go_simp
              exact mUpon_b
            subst hv
            go_simp
            refine hK _ ?_
            clear hK K
            refine lexX_step (fun K hK => ⟨by kernel_rfl, ⟨_, rfl⟩, fun v hv => ?_, fun v hv => ?_⟩)
            · go_simp
              exact mUpon_b
            subst hv
            go_simp
            refine hK _ ?_
            clear hK K
            refine lexX_step (fun K hK => ⟨by kernel_rfl, ⟨_, rfl⟩, fun v hv => ?_, fun v hv => ?_⟩)
            · obtain ⟨⟨c0, c1, c2⟩, _⟩ := three_at ((unhideR RB).go hv).at_
              go_simp
              exact mUpon_b
            subst hv
            go_simp
            refine hK _ ?_
            clear hK K
            refine lexX_step (fun K hK => ⟨by kernel_rfl, tu_some _ _ _, fun v hv => ?_, fun v hv => ?_⟩)
            · go_simp
              refine (turnBy_any _ _ _ _ _ _).mono ?_
              rintro e w9 ⟨u, rfl, hu, kk⟩
              exact ⟨_, rfl, hu, kk⟩
            obtain ⟨p2', rfl, hp2⟩ := turned_form (p := p2) hv
            go_simp
            refine hK _ ?_
            clear hK K hv
            have HP2 := hideR (unhideR HT2 p2' hp2)
            clear hp2 HT2
            refine lexX_end (fun vv hv => ?_)
            have hbv := hv.low
            clear hv
            have QA := hideR ((unhideR RA).go hbv)
            have QB := hideR ((unhideR RB).go hbv)
            have HKv := hideR (below_go (unhideR RK) hbv)
            clear hbv RA RB RK SB
            obtain ⟨⟨c0, c1, c2⟩, f0, f1, f2⟩ := three_at (unhideR QB).at_
            unfold V3.val
            refine wpAny_step (i := 9) (by kernel_rfl) rfl (by kernel_rfl) (fun K hK => ?_)
            unfold Oper.wp
            go_simp
            refine hK _ _ ?_
            clear hK K
            refine wpAny_end (by kernel_rfl) ?_
            have SA : HeldR (VBox (((vv.setCell ⟨U0.heap.size + 1, 0, none⟩ (.float .f64 p2'.x)).setCell ⟨U0.heap.size + 1, 1, none⟩ (.float .f64 p2'.y)).setCell ⟨U0.heap.size + 1, 2, none⟩ (.float .f64 p2'.z)) U0.heap.size p1') := hideR ⟨(set3_other (by omega)).trans (unhideR QA).at_⟩
            have SB := hideR ((unhideR QB).set p2')
            have SK := hideR (below_three (unhideR HKv) (show U0.heap.size ≤ U0.heap.size + 1 by omega) (.float .f64 p2'.x) (.float .f64 p2'.y) (.float .f64 p2'.z))
            clear QA QB HKv
            go_wp2
            exact ⟨⟨k + 1, p1', p2', by omega, by go_num, HP1, HP2, SA, SB, SK⟩, by simp [intOf]; omega⟩
          · obtain rfl : k = L.length := by omega
            have S1 := al_same (SameV.refl v) (unhideR HQ1) (unhideR HAl)
            have S2 := ag_same (SameV.refl v) (unhideR HQ2) (unhideR HAg)
            have HS1 := hideR S1
            have HS2 := hideR S2
            replace XB := hideR ((unhideR XB).go (unhideR HK))
            replace YB := hideR ((unhideR YB).go (unhideR HK))
            replace HCu := hideR ((unhideR HCu).go (unhideR HK))
            clear S1 S2 HAl HAg HQ2 HK
            obtain ⟨⟨c0, c1, c2⟩, _⟩ := three_at (unhideR XB).at_
            obtain ⟨⟨d0, d1, d2⟩, _⟩ := three_at (unhideR PA).at_
            go_wp2_with fail
            refine (sameVec_any _ _ _ _ _ _ _ (unhideR HS1).x (unhideR HS1).y (unhideR HS1).z).mono ?_
            rintro e w5 ⟨rfl, k5⟩
            replace XB := hideR ((unhideR XB).go k5)
            replace YB := hideR ((unhideR YB).go k5)
            replace PB := hideR ((unhideR PB).go k5)
            replace HCu := hideR ((unhideR HCu).go k5)
            clear k5 c0 c1 c2 d0 d1 d2 PA HS1
            obtain ⟨⟨c0, c1, c2⟩, _⟩ := three_at (unhideR YB).at_
            obtain ⟨⟨d0, d1, d2⟩, _⟩ := three_at (unhideR PB).at_
            go_wp2_with fail
            refine (sameVec_any _ _ _ _ _ _ _ (unhideR HS2).x (unhideR HS2).y (unhideR HS2).z).mono ?_
            rintro e w6 ⟨rfl, k6⟩
            replace XB := hideR ((unhideR XB).go k6)
            replace HCu := hideR ((unhideR HCu).go k6)
            clear k6 c0 c1 c2 d0 d1 d2 PB YB HS2
            obtain ⟨⟨c0, c1, c2⟩, _⟩ := three_at (unhideR HCu).vb.at_
            go_wp2_with fail
            refine (mildVec_any _ _ _ _).mono ?_
            rintro e w7 ⟨rfl, k7⟩
            replace XB := hideR ((unhideR XB).go k7)
            replace HCu := hideR ((unhideR HCu).go k7)
            clear k7 c0 c1 c2
            cases hmild : (mildB v.x && mildB v.y && mildB v.z)
            case false =>
              go_wp2
              go_ret
              exact ⟨rfl, (unhideR HCu).b⟩
            case true =>
              have HMi := hideR hmild
              clear hmild
              obtain ⟨⟨c0, c1, c2⟩, _⟩ := three_at (unhideR XB).at_
              go_wp2_with fail
              refine (against_steps _ _ _ _ (unhideR HCu).s (unhideR HCu).m (by omega)).mono ?_
              rintro e w8 ⟨hal, k8⟩
              rcases hal with ⟨q3, _, hq3, rfl⟩ | ⟨⟨j, hj, h⟩, _⟩
              case inr => exact absurd (unhideR HG j hj) h
              have HQ3 := hideR hq3
              replace HCu := hideR ((unhideR HCu).go k8)
              clear k8 c0 c1 c2 hq3
              unfold V3.val
              obtain ⟨⟨c0, c1, c2⟩, _⟩ := three_at (unhideR HCu).vb.at_
              have lv := ltB (unhideR HCu).vb.at_
              go_wp2_with fail
              refine (lengthOf_any _ _ _ _).mono ?_
              rintro e w9 ⟨l, t, rfl, ht, hl2, k9⟩
              have ZB := hideR ((VBox.new w8 q3).go k9)
              replace HCu := hideR (((unhideR HCu).go (below_a _ _)).go k9)
              clear k9 c0 c1 c2 lv
              have HW : HeldR (∀ m, FOp .mul 4418031234450456576 l m → (∀ f, FOp .sub q3.x v.x f → wiB f m = true) ∧ (∀ f, FOp .sub q3.y v.y f → wiB f m = true) ∧ ∀ f, FOp .sub q3.z v.z f → wiB f m = true) := fun m hm => by
                have hM := unhideR HMi
                rw [Bool.and_eq_true, Bool.and_eq_true] at hM
                exact chain_within hl hM.1.1 hM.1.2 hM.2 (unhideR HQ1) (unhideR HQ3) ht hl2 hm
              clear ht hl2 HMi HQ1 HQ3 HG XB
              obtain ⟨⟨c0, c1, c2⟩, _⟩ := three_at (unhideR HCu).vb.at_
              obtain ⟨⟨d0, d1, d2⟩, _⟩ := three_at (unhideR ZB).at_
              go_wp2_with fail
              refine upon_float four_mul ?_
              intro m nm hm
              obtain ⟨hx, hy, hz⟩ := unhideR HW m hm
              have HX := hideR hx
              have HY := hideR hy
              have HZ := hideR hz
              clear hm hx hy hz HW
              go_wp2_with fail
              refine upon_float four_sub ?_
              intro f1 n1 hf1
              go_wp2_with fail
              refine (within_any _ _ _ (unhideR HX f1 hf1)).mono ?_
              rintro e w10 ⟨rfl, rfl⟩
              clear HX hf1
              go_wp2_with fail
              refine upon_float four_sub ?_
              intro f2 n2 hf2
              go_wp2_with fail
              refine (within_any _ _ _ (unhideR HY f2 hf2)).mono ?_
              rintro e w10 ⟨rfl, rfl⟩
              clear HY hf2
              go_wp2_with fail
              refine upon_float four_sub ?_
              intro f3 n3 hf3
              go_wp2_with fail
              refine (within_any _ _ _ (unhideR HZ f3 hf3)).mono ?_
              rintro e w10 ⟨rfl, rfl⟩
              clear HZ hf3
              go_wp2
              go_ret
              exact ⟨rfl, below_drewN (unhideR HCu).b _⟩
end Go.Proofs.YtbjpkfmencaafafDoor
