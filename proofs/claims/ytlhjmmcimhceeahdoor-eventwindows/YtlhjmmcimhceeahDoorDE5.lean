/-
  The program's rises and sets of a whole track, by contract.
-/
import Derived.Test.YtlhjmmcimhceeahDoorDE4
namespace Go.Proofs.YtlhjmmcimhceeahDoor
open Go Go.RowKit

theorem infoEv : (Tryd.prog.info? 56).map (fun i => (i.zero, i.size, i.bytes)) = some (some Evzv, 3, 24) := by kernel_rfl
theorem own_base {w : World} {A B n s : Nat} {e : TypeId} {v : Value} {xs : List Value} (h : w.ownsRow B e s v n xs) (hb : A ≤ B) : w.ownsRow A e s v n xs := by
  rcases h with ⟨h1, h | ⟨g, cap, cur, h2, h3, h4⟩⟩
  · exact ⟨h1, .inl h⟩
  · exact ⟨h1, .inr ⟨g, cap, cur, h2, Nat.le_trans hb h3, h4⟩⟩
set_option maxRecDepth 100000 in
set_option maxHeartbeats 1600000 in
theorem crossings_any {w : World} {v : Value} {t : Tr} (lev : Int) (h : TrV w v t) (hO : TrOk t) :
    Calls Tryd.prog 23 #[v, .int .i64 lev] w fun e w' => ∃ u, e = .returned u ∧ w'.ownsRow w.heap.size 56 3 u (crosses t lev (t.L.length - 1)).length (flatEv (crosses t lev (t.L.length - 1))) ∧ Below w.heap.size w w' := by
  obtain ⟨i0, hi0, hz0, hz1, hz2⟩ := info_parts infoEv
  have HV := hideR h
  obtain ⟨ad, cap, rfl, hi⟩ := h
  obtain ⟨b1, o1, rfl, _, _⟩ := hi.at_ 0 (by have := hO.n1; omega)
  have n1 := hO.n1
  have n2 := hO.n2
  have HO := hideR hO
  clear hO
  go_enter Tryd.func23, Tryd.ntmps23
  go_wp2
  have HB := hideR (keepA (o' := .cells #[.int .i64 lev] 3) (alloc_last w (.cells #[.int .i64 t.fr, .int .i64 t.st, .slice (some ⟨b1, o1, none⟩) t.L.length cap] 32)))
  have HL := hideR (alloc_two' w (.cells #[.int .i64 t.fr, .int .i64 t.st, .slice (some ⟨b1, o1, none⟩) t.L.length cap] 32) (.cells #[.int .i64 lev] 3))
  have HW := hideR (below_al2 w (.cells #[.int .i64 t.fr, .int .i64 t.st, .slice (some ⟨b1, o1, none⟩) t.L.length cap] 32) (.cells #[.int .i64 lev] 3))
  have hs1 : ((w.alloc (.cells #[.int .i64 t.fr, .int .i64 t.st, .slice (some ⟨b1, o1, none⟩) t.L.length cap] 32)).alloc (.cells #[.int .i64 lev] 3)).heap.size = w.heap.size + 2 := by simp
  generalize (w.alloc (.cells #[.int .i64 t.fr, .int .i64 t.st, .slice (some ⟨b1, o1, none⟩) t.L.length cap] 32)).alloc (.cells #[.int .i64 lev] 3) = W1 at *
  have HI := hideR (hi.below (unhideR HW))
  have HV1 := hideR ((unhideR HV).below (unhideR HW))
  clear hi HV
  go_loopw [6, 13] (fun ov iv wl => ∃ i : Nat, i ≤ t.L.length - 1 ∧ iv = .int .i64 (i : Nat) ∧ HeldR (wl.ownsRow W1.heap.size 56 3 ov (crosses t lev i).length (flatEv (crosses t lev i))) ∧ HeldR (Below W1.heap.size W1 wl)) (fun _ iv _ => t.L.length + 1 - (intOf iv).toNat)
  case atStart => exact ⟨0, by omega, rfl, World.ownsRow_nil _ _ _ _, hideR (Below.refl _ _)⟩
  case round =>
    obtain ⟨i, hi', rfl, HR, HK⟩ := hrel
    by_cases hlt : i < t.L.length - 1
    · have hn : i + 1 < t.L.length := by omega
      have hcl := crosses_length t lev i
      have HN : HeldR (crosses t lev (i + 1) = crosses t lev i ++ crossV t lev i) := rfl
      have HA : HeldR (∀ u, Below W1.heap.size W1 u → Calls Tryd.prog 40 #[.int .i64 (i : Nat), .pointer (some ⟨w.heap.size, 0, none⟩), .pointer (some ⟨w.heap.size + 1, 0, none⟩)] u fun e w' => e = .returned (.bool (decide (lev < t.h i))) ∧ Below u.heap.size u w') :=
        fun u k => above_any (keepB (unhideR HB) k) (keepB (unhideR HL) k) ((unhideR HI).below k) (by omega)
      have HA1 : HeldR (∀ u, Below W1.heap.size W1 u → Calls Tryd.prog 40 #[.int .i64 ((i : Int) + 1), .pointer (some ⟨w.heap.size, 0, none⟩), .pointer (some ⟨w.heap.size + 1, 0, none⟩)] u fun e w' => e = .returned (.bool (decide (lev < t.h (i + 1)))) ∧ Below u.heap.size u w') :=
        fun u k => above_any (keepB (unhideR HB) k) (keepB (unhideR HL) k) ((unhideR HI).below k) hn
      have HRi : HeldR (t.h i ≤ lev → lev < t.h (i + 1) → ∀ u, Below W1.heap.size W1 u → Calls Tryd.prog 41 #[.agg #[.int .i64 t.fr, .int .i64 t.st, .slice (some ⟨b1, o1, none⟩) t.L.length cap], .int .i64 (i : Nat), .int .i64 lev] u fun e w' => ∃ x : Evt, e = .returned (.agg #[.int .i64 x.k, .int .i64 x.at_, .int .i64 x.ix]) ∧ HeldR (crossV t lev i = [x]) ∧ Below u.heap.size u w') :=
        fun a1 a2 u k => (rise_any ((unhideR HV1).below k) (unhideR HO) hn a1 a2).mono fun e w' ⟨q1, q2⟩ => ⟨_, q1, cross_rise a1 a2, q2⟩
      have HSe : HeldR (lev < t.h i → t.h (i + 1) ≤ lev → ∀ u, Below W1.heap.size W1 u → Calls Tryd.prog 42 #[.agg #[.int .i64 t.fr, .int .i64 t.st, .slice (some ⟨b1, o1, none⟩) t.L.length cap], .int .i64 (i : Nat), .int .i64 lev] u fun e w' => ∃ x : Evt, e = .returned (.agg #[.int .i64 x.k, .int .i64 x.at_, .int .i64 x.ix]) ∧ HeldR (crossV t lev i = [x]) ∧ Below u.heap.size u w') :=
        fun a1 a2 u k => (set_any ((unhideR HV1).below k) (unhideR HO) hn a1 a2).mono fun e w' ⟨q1, q2⟩ => ⟨_, q1, cross_set a1 a2, q2⟩
      have HNo : HeldR ((lev < t.h i ↔ lev < t.h (i + 1)) → crossV t lev i = []) := fun e => cross_nil e
      have wi : IntKind.i64.wrap ((i : Int) + 1) = (i : Int) + 1 := iwrap (by omega) (by omega)
      have wn : IntKind.i64.wrap ((t.L.length : Int) - 1) = (t.L.length : Int) - 1 := iwrap (by omega) (by omega)
      have ib : (i : Int) < (t.L.length : Int) - 1 := by omega
      generalize crossV t lev i = D at *
      generalize t.h i = p at *
      generalize t.h (i + 1) = q at *
      by_cases a2 : lev < q
      · have b2 : decide (lev < q) = true := decide_eq_true a2
        rw [b2] at HA1
        by_cases a1 : lev < p
        · have b1' : decide (lev < p) = true := decide_eq_true a1
          rw [b1'] at HA
          have hC1 : crosses t lev (i + 1) = crosses t lev i := by rw [unhideR HN, unhideR HNo ⟨fun _ => a2, fun _ => a1⟩, List.append_nil]
          have HC1 := hideR hC1
          clear hC1
          have hab := unhideR HA1 _ (unhideR HK)
          go_wp2_with fail
          refine hab.mono ?_
          rintro e w5 ⟨rfl, kk⟩
          replace HR := hideR (own_below2 (unhideR HR) kk)
          replace HK := hideR (below_go (unhideR HK) kk)
          clear kk hab
          have hab := unhideR HA _ (unhideR HK)
          go_wp2_with fail
          refine hab.mono ?_
          rintro e w6 ⟨rfl, kk⟩
          replace HR := hideR (own_below2 (unhideR HR) kk)
          replace HK := hideR (below_go (unhideR HK) kk)
          clear kk hab
          have hab := unhideR HA _ (unhideR HK)
          go_wp2_with fail
          refine hab.mono ?_
          rintro e w7 ⟨rfl, kk⟩
          replace HR := hideR (own_below2 (unhideR HR) kk)
          replace HK := hideR (below_go (unhideR HK) kk)
          clear kk hab
          have hab := unhideR HA1 _ (unhideR HK)
          go_wp2_with fail
          refine hab.mono ?_
          rintro e w8 ⟨rfl, kk⟩
          replace HR := hideR (own_below2 (unhideR HR) kk)
          replace HK := hideR (below_go (unhideR HK) kk)
          clear kk hab
          go_wp2
          exact ⟨⟨i + 1, by omega, by go_num, by rw [unhideR HC1]; exact HR, HK⟩, by simp [intOf]; omega⟩
        · have b1' : decide (lev < p) = false := decide_eq_false a1
          rw [b1'] at HA
          have hab := unhideR HA1 _ (unhideR HK)
          go_wp2_with fail
          refine hab.mono ?_
          rintro e w4 ⟨rfl, kk⟩
          replace HR := hideR (own_below2 (unhideR HR) kk)
          replace HK := hideR (below_go (unhideR HK) kk)
          clear kk hab
          have hab := unhideR HA _ (unhideR HK)
          go_wp2_with fail
          refine hab.mono ?_
          rintro e w5 ⟨rfl, kk⟩
          replace HR := hideR (own_below2 (unhideR HR) kk)
          replace HK := hideR (below_go (unhideR HK) kk)
          clear kk hab
          have hev := unhideR HRi (by omega) a2 _ (unhideR HK)
          obtain ⟨⟨c0, c1, c2⟩, _⟩ := three_cells (keepB (unhideR HB) (unhideR HK))
          have cl := one_at (keepB (unhideR HL) (unhideR HK))
          go_wp2_with fail
          refine hev.mono ?_
          rintro e w6 ⟨x, rfl, hx, kk⟩
          replace HR := hideR (own_below2 (unhideR HR) kk)
          replace HK := hideR (below_go (unhideR HK) kk)
          have hC1 : crosses t lev (i + 1) = crosses t lev i ++ [x] := by rw [unhideR HN, unhideR hx]
          have HC1 := hideR hC1
          clear kk hev c0 c1 c2 cl HN HA HA1 HRi HSe HNo hC1 hx
          have lk := (unhideR HK).size
          go_wp2_with (first
            | (at_builtin; refine wpList_append_own _ rfl _ _ 52 rfl W1.heap.size 56 i0 Evzv 3 24 Tryd.underlying52 hi0 hz0 hz1 hz2 rfl (by decide) _ (crosses t lev i).length (flatEv (crosses t lev i)) rfl (own_below2 (unhideR HR) (below_a _ _)) ⟨w6.heap.size, 0, none⟩ 1 1 (valEv x) rfl rfl ?c1 ?c2 ?c3 ?c4 ?c5 ?_))
          case c1 => exact three_new (alloc_last w6 _)
          case c2 =>
            intro u hu
            exact flatEv_one [x] u (by simpa [flatEv] using hu)
          case c3 => unfold maxLen; omega
          case c4 => omega
          case c5 => simp; omega
          intro v3 w3 hown2 hgrow2 _
          have B3 := hideR ((below_go (unhideR HK) (below_a w6 _)).grown hgrow2 (by simp; omega) (fun g h => own_at2 (unhideR HR) g h))
          have O3 : HeldR (w3.ownsRow W1.heap.size 56 3 v3 (crosses t lev (i + 1)).length (flatEv (crosses t lev (i + 1)))) := by
            unfold HeldR
            rw [unhideR HC1, flatEv_append, List.length_append]
            rw [hs1, show flatEv [x] = valEv x from List.append_nil _]
            exact hown2
          clear hown2 hgrow2 HC1 HR HK
          go_wp2
          exact ⟨⟨i + 1, by omega, by go_num, O3, B3⟩, by simp [intOf]; omega⟩
      · have b2 : decide (lev < q) = false := decide_eq_false a2
        rw [b2] at HA1
        by_cases a1 : lev < p
        · have b1' : decide (lev < p) = true := decide_eq_true a1
          rw [b1'] at HA
          have hab := unhideR HA1 _ (unhideR HK)
          go_wp2_with fail
          refine hab.mono ?_
          rintro e w4 ⟨rfl, kk⟩
          replace HR := hideR (own_below2 (unhideR HR) kk)
          replace HK := hideR (below_go (unhideR HK) kk)
          clear kk hab
          have hab := unhideR HA _ (unhideR HK)
          go_wp2_with fail
          refine hab.mono ?_
          rintro e w5 ⟨rfl, kk⟩
          replace HR := hideR (own_below2 (unhideR HR) kk)
          replace HK := hideR (below_go (unhideR HK) kk)
          clear kk hab
          have hab := unhideR HA1 _ (unhideR HK)
          go_wp2_with fail
          refine hab.mono ?_
          rintro e w5 ⟨rfl, kk⟩
          replace HR := hideR (own_below2 (unhideR HR) kk)
          replace HK := hideR (below_go (unhideR HK) kk)
          clear kk hab
          have hev := unhideR HSe a1 (by omega) _ (unhideR HK)
          obtain ⟨⟨c0, c1, c2⟩, _⟩ := three_cells (keepB (unhideR HB) (unhideR HK))
          have cl := one_at (keepB (unhideR HL) (unhideR HK))
          go_wp2_with fail
          refine hev.mono ?_
          rintro e w6 ⟨x, rfl, hx, kk⟩
          replace HR := hideR (own_below2 (unhideR HR) kk)
          replace HK := hideR (below_go (unhideR HK) kk)
          have hC1 : crosses t lev (i + 1) = crosses t lev i ++ [x] := by rw [unhideR HN, unhideR hx]
          have HC1 := hideR hC1
          clear kk hev c0 c1 c2 cl HN HA HA1 HRi HSe HNo hC1 hx
          have lk := (unhideR HK).size
          go_wp2_with (first
            | (at_builtin; refine wpList_append_own _ rfl _ _ 52 rfl W1.heap.size 56 i0 Evzv 3 24 Tryd.underlying52 hi0 hz0 hz1 hz2 rfl (by decide) _ (crosses t lev i).length (flatEv (crosses t lev i)) rfl (own_below2 (unhideR HR) (below_a _ _)) ⟨w6.heap.size, 0, none⟩ 1 1 (valEv x) rfl rfl ?c1 ?c2 ?c3 ?c4 ?c5 ?_))
          case c1 => exact three_new (alloc_last w6 _)
          case c2 =>
            intro u hu
            exact flatEv_one [x] u (by simpa [flatEv] using hu)
          case c3 => unfold maxLen; omega
          case c4 => omega
          case c5 => simp; omega
          intro v3 w3 hown2 hgrow2 _
          have B3 := hideR ((below_go (unhideR HK) (below_a w6 _)).grown hgrow2 (by simp; omega) (fun g h => own_at2 (unhideR HR) g h))
          have O3 : HeldR (w3.ownsRow W1.heap.size 56 3 v3 (crosses t lev (i + 1)).length (flatEv (crosses t lev (i + 1)))) := by
            unfold HeldR
            rw [unhideR HC1, flatEv_append, List.length_append]
            rw [hs1, show flatEv [x] = valEv x from List.append_nil _]
            exact hown2
          clear hown2 hgrow2 HC1 HR HK
          go_wp2
          exact ⟨⟨i + 1, by omega, by go_num, O3, B3⟩, by simp [intOf]; omega⟩
        · have b1' : decide (lev < p) = false := decide_eq_false a1
          rw [b1'] at HA
          have hC1 : crosses t lev (i + 1) = crosses t lev i := by rw [unhideR HN, unhideR HNo ⟨fun k => absurd k a1, fun k => absurd k a2⟩, List.append_nil]
          have HC1 := hideR hC1
          clear hC1
          have hab := unhideR HA1 _ (unhideR HK)
          go_wp2_with fail
          refine hab.mono ?_
          rintro e w5 ⟨rfl, kk⟩
          replace HR := hideR (own_below2 (unhideR HR) kk)
          replace HK := hideR (below_go (unhideR HK) kk)
          clear kk hab
          have hab := unhideR HA _ (unhideR HK)
          go_wp2_with fail
          refine hab.mono ?_
          rintro e w6 ⟨rfl, kk⟩
          replace HR := hideR (own_below2 (unhideR HR) kk)
          replace HK := hideR (below_go (unhideR HK) kk)
          clear kk hab
          go_wp2
          exact ⟨⟨i + 1, by omega, by go_num, by rw [unhideR HC1]; exact HR, HK⟩, by simp [intOf]; omega⟩
    · obtain rfl : i = t.L.length - 1 := by omega
      have ib : ¬ (((t.L.length - 1 : Nat) : Int) < (t.L.length : Int) - 1) := by omega
      have HE := hideR (own_base (unhideR HR) (show w.heap.size ≤ W1.heap.size by omega))
      have HF := hideR (below_go (unhideR HW) (unhideR HK))
      have wn : IntKind.i64.wrap ((t.L.length : Int) - 1) = (t.L.length : Int) - 1 := iwrap (by omega) (by omega)
      go_wp2
      go_ret
      exact ⟨_, rfl, unhideR HE, unhideR HF⟩
end Go.Proofs.YtlhjmmcimhceeahDoor
