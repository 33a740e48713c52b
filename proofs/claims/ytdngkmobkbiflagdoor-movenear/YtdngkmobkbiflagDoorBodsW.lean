/-
  The law's own: bodies handed on, bodies compared, few of them: by contracts.
-/
import Derived.Test.YtdngkmobkbiflagDoorRunW
namespace Go.Proofs.YtdngkmobkbiflagDoor
open Go Go.RowKit

theorem infoPB : (Tryd.prog.info? 40).map (fun i => (i.zero, i.size, i.bytes)) = some (some bz, 7, 56) := by kernel_rfl
theorem own_below2 {w w' : World} {B n s : Nat} {e : TypeId} {v : Value} {xs : List Value} (h : w.ownsRow B e s v n xs) (hb : Below w.heap.size w w') : w'.ownsRow B e s v n xs := by
  obtain ⟨h1, h2⟩ := h
  refine ⟨h1, ?_⟩
  rcases h2 with h2 | ⟨g, cap, cur, hv, hg, hh, r⟩
  · exact Or.inl h2
  · exact Or.inr ⟨g, cap, cur, hv, hg, by rw [hb.block g (Array.getElem?_eq_some_iff.1 hh).1]; exact hh, r⟩
theorem own_at2 {w : World} {B n s : Nat} {e : TypeId} {v : Value} {xs : List Value} (h : w.ownsRow B e s v n xs) : ∀ g, v.ownBlock = some g → B ≤ g := by
  intro g hg
  rcases h.2 with ⟨h2, _⟩ | ⟨g', cap, cur, hv, hB, hh, _⟩
  · subst h2; cases hg
  · subst hv
    have e : g' = g := by simpa [Value.ownBlock] using hg
    subst e
    exact hB
def OneS (v : Value) : Prop := ∃ b, v = .slice (some ⟨b, 0, none⟩) 1 1
def OneAt (s : Bd) (v : Value) (w : World) : Prop := ∀ b, v = .slice (some ⟨b, 0, none⟩) 1 1 → w.heap[b]? = some (.cells #[.int .i64 s.at_.x, .int .i64 s.at_.y, .int .i64 s.at_.z, .int .i64 s.sp.x, .int .i64 s.sp.y, .int .i64 s.sp.z, .int .i64 s.m] 40)
theorem one_stb (s : Bd) (v : Value) : Stb (OneAt s v) := fun _ _ h hb b e => keepB (h b e) hb
theorem BSl.cut {w : World} {v : Value} {L : List Bd} (h : BSl w v L) : ∃ ad cap, v = .slice ad L.length cap ∧ BCame w ad L := by
  cases h with
  | nil => exact ⟨none, 0, rfl, ⟨fun k hk => absurd hk (Nat.not_lt_zero k)⟩⟩
  | row h => exact ⟨_, _, rfl, h⟩
set_option maxRecDepth 100000 in
set_option maxHeartbeats 1600000 in
theorem bodies_any {v : Value} {L : List Bd} {w : World} (h : BSl w v L) (hl : L.length ≤ 14) :
    Calls Tryd.prog 10 #[v] w fun e w' => ∃ u, e = .returned u ∧ BOwn w' w.heap.size u L ∧ Below w.heap.size w w' := by
  obtain ⟨i0, hi, hz0, hz1, hz2⟩ := info_parts infoPB
  obtain ⟨ad, cap, rfl, hc⟩ := h.cut
  have HC := hideR hc
  clear hc h
  go_enter Tryd.func10, Tryd.ntmps10
  go_wp2
  go_loopw [3, 4] (fun mv kv wl => ∃ k : Nat, k ≤ L.length ∧ kv = .int .i64 (k : Nat) ∧ HeldR (wl.ownsRow w.heap.size 40 7 mv k (flatB (L.take k))) ∧ HeldR (Below w.heap.size w wl)) (fun _ kv _ => L.length + 1 - (intOf kv).toNat)
  case atStart => exact ⟨0, by omega, rfl, World.ownsRow_nil _ _ _ _, hideR (Below.refl _ _)⟩
  case round =>
    obtain ⟨k, hk, rfl, HO, HW⟩ := hrel
    by_cases hlt : k < L.length
    · obtain ⟨b, off, rfl, hb, hat⟩ := (unhideR HC).at_ k hlt
      have HK := hideR hat
      have HT := hideR (take_at hlt)
      clear hat
      generalize L.getD k bd0 = s at *
      go_wp2_with fail
      refine wp_region_made 1 #[true, true, true, true, true, true, true, true, true, true, true, true, true, true, true, true, true, true, false, false] [.lets (· = u3),
        .lets (· = .slice (some ⟨b, off, none⟩) L.length cap),
        .lets (· = .int .i64 (k : Nat)),
        .lets (· = .pointer (some ⟨b, off + k * 7, none⟩)),
        .lets (· = .pointer (some ⟨b, off + k * 7, none⟩)),
        .lets (· = .agg #[.int .i64 s.at_.x, .int .i64 s.at_.y, .int .i64 s.at_.z]),
        .lets (· = .slice (some ⟨b, off, none⟩) L.length cap),
        .lets (· = .int .i64 (k : Nat)),
        .lets (· = .pointer (some ⟨b, off + k * 7, none⟩)),
        .lets (· = .pointer (some ⟨b, off + k * 7 + 3, none⟩)),
        .lets (· = .agg #[.int .i64 s.sp.x, .int .i64 s.sp.y, .int .i64 s.sp.z]),
        .lets (· = .slice (some ⟨b, off, none⟩) L.length cap),
        .lets (· = .int .i64 (k : Nat)),
        .lets (· = .pointer (some ⟨b, off + k * 7, none⟩)),
        .lets (· = .pointer (some ⟨b, off + k * 7 + 6, none⟩)),
        .lets (· = .int .i64 s.m),
        .lets (· = .agg #[.int .i64 s.at_.x, .int .i64 s.at_.y, .int .i64 s.at_.z, .int .i64 s.sp.x, .int .i64 s.sp.y, .int .i64 s.sp.z, .int .i64 s.m]),
        .made OneS (OneAt s)] [17] [] (by kernel_rfl) (by kernel_rfl) rfl ?kinds (by kernel_rfl) (by kernel_rfl) (by kernel_rfl) ?_
      case kinds =>
        constructor
        · intro i h
          rcases i with _ | _ | _ | _ | _ | _ | _ | _ | _ | _ | _ | _ | _ | _ | _ | _ | _ | _ | i <;> simp [Kx.isMade] at h ⊢
        · intro i h
          rcases i with _ | _ | _ | _ | _ | _ | _ | _ | _ | _ | _ | _ | _ | _ | _ | _ | _ | _ | i <;> simp [Kx.isUse] at h
      refine lexX_step (fun K hK => ⟨by kernel_rfl, ⟨_, rfl⟩, fun v hv => ?_, fun v hv => ?_⟩)
      · go_simp
        exact mUpon_b
      rw [hv]
      clear hv v
      go_simp
      refine hK _ ?_
      clear hK K
      refine lexX_step (fun K hK => ⟨by kernel_rfl, ⟨_, rfl⟩, fun v hv => ?_, fun v hv => ?_⟩)
      · go_simp
        exact mUpon_b
      subst hv
      go_simp
      refine hK _ ?_
      clear hK K
      refine lexX_step (fun K hK => ⟨by kernel_rfl, ⟨_, rfl⟩, fun v hv => ?_, fun v hv => ?_⟩)
      · go_simp
        exact mUpon_b
      subst hv
      go_simp
      refine hK _ ?_
      clear hK K
      refine lexX_step (fun K hK => ⟨by kernel_rfl, ⟨_, rfl⟩, fun v hv => ?_, fun v hv => ?_⟩)
      · go_simp
        exact mUpon_b
      subst hv
      go_simp
      refine hK _ ?_
      clear hK K
      refine lexX_step (fun K hK => ⟨by kernel_rfl, ⟨_, rfl⟩, fun v hv => ?_, fun v hv => ?_⟩)
      · go_simp
        exact mUpon_b
      subst hv
      go_simp
      refine hK _ ?_
      clear hK K
      refine lexX_step (fun K hK => ⟨by kernel_rfl, ⟨_, rfl⟩, fun v hv => ?_, fun v hv => ?_⟩)
      · obtain ⟨c0, c1, c2, c3, c4, c5, c6⟩ := (unhideR HK).below (below_go (unhideR HW) hv) hb
        go_simp
        exact mUpon_b
      subst hv
      go_simp
      refine hK _ ?_
      clear hK K
      refine lexX_step (fun K hK => ⟨by kernel_rfl, ⟨_, rfl⟩, fun v hv => ?_, fun v hv => ?_⟩)
      · go_simp
        exact mUpon_b
      subst hv
      go_simp
      refine hK _ ?_
      clear hK K
      refine lexX_step (fun K hK => ⟨by kernel_rfl, ⟨_, rfl⟩, fun v hv => ?_, fun v hv => ?_⟩)
      · go_simp
        exact mUpon_b
      subst hv
      go_simp
      refine hK _ ?_
      clear hK K
      refine lexX_step (fun K hK => ⟨by kernel_rfl, ⟨_, rfl⟩, fun v hv => ?_, fun v hv => ?_⟩)
      · go_simp
        exact mUpon_b
      subst hv
      go_simp
      refine hK _ ?_
      clear hK K
      refine lexX_step (fun K hK => ⟨by kernel_rfl, ⟨_, rfl⟩, fun v hv => ?_, fun v hv => ?_⟩)
      · go_simp
        exact mUpon_b
      subst hv
      go_simp
      refine hK _ ?_
      clear hK K
      refine lexX_step (fun K hK => ⟨by kernel_rfl, ⟨_, rfl⟩, fun v hv => ?_, fun v hv => ?_⟩)
      · obtain ⟨c0, c1, c2, c3, c4, c5, c6⟩ := (unhideR HK).below (below_go (unhideR HW) hv) hb
        go_simp
        exact mUpon_b
      subst hv
      go_simp
      refine hK _ ?_
      clear hK K
      refine lexX_step (fun K hK => ⟨by kernel_rfl, ⟨_, rfl⟩, fun v hv => ?_, fun v hv => ?_⟩)
      · go_simp
        exact mUpon_b
      subst hv
      go_simp
      refine hK _ ?_
      clear hK K
      refine lexX_step (fun K hK => ⟨by kernel_rfl, ⟨_, rfl⟩, fun v hv => ?_, fun v hv => ?_⟩)
      · go_simp
        exact mUpon_b
      subst hv
      go_simp
      refine hK _ ?_
      clear hK K
      refine lexX_step (fun K hK => ⟨by kernel_rfl, ⟨_, rfl⟩, fun v hv => ?_, fun v hv => ?_⟩)
      · go_simp
        exact mUpon_b
      subst hv
      go_simp
      refine hK _ ?_
      clear hK K
      refine lexX_step (fun K hK => ⟨by kernel_rfl, ⟨_, rfl⟩, fun v hv => ?_, fun v hv => ?_⟩)
      · go_simp
        exact mUpon_b
      subst hv
      go_simp
      refine hK _ ?_
      clear hK K
      refine lexX_step (fun K hK => ⟨by kernel_rfl, ⟨_, rfl⟩, fun v hv => ?_, fun v hv => ?_⟩)
      · obtain ⟨c0, c1, c2, c3, c4, c5, c6⟩ := (unhideR HK).below (below_go (unhideR HW) hv) hb
        go_simp
        exact mUpon_b
      subst hv
      go_simp
      refine hK _ ?_
      clear hK K
      refine lexX_step (fun K hK => ⟨by kernel_rfl, ⟨_, rfl⟩, fun v hv => ?_, fun v hv => ?_⟩)
      · go_simp
        exact mUpon_b
      subst hv
      go_simp
      refine hK _ ?_
      clear hK K
      refine lexX_made ⟨by kernel_rfl, ⟨_, 0, rfl⟩, one_stb _, fun v hv => ?_, ?_⟩
      · go_simp
        refine ⟨(Below.refl _ v).alloc (Nat.le_refl _) _, ⟨_, rfl⟩, fun b' e => ?_⟩
        cases e
        exact alloc_last v _
      rintro _ ⟨nb, rfl⟩ K hK
      go_simp
      refine hK _ ?_
      clear hK K
      refine lexX_end (fun v2 hv => ?_)
      have hn := hv.fact.2 nb rfl
      have hb2 := hv.low
      clear hv
      have HO2 := hideR (own_below2 (unhideR HO) hb2)
      have HB2 := hideR (below_go (unhideR HW) hb2)
      have l2 := hb2.size
      have l3 := (unhideR HW).size
      have HNB := hideR hn
      clear hb2 hn HO HW
      refine wpAny_step (i := 18) (by kernel_rfl) rfl (by kernel_rfl) (fun K hK => ?_)
      refine wp_append_own _ _ _ 25 rfl w.heap.size 40 i0 bz 7 56 Tryd.underlying25 hi hz0 hz1 hz2 rfl (by decide) u3 k (flatB (L.take k)) rfl (unhideR HO2) ⟨nb, 0, none⟩ 1 1 (valB s) rfl rfl ?q1 ?q2 ?q3 ?q4 ?q5 ?_
      case q1 =>
        intro m u hm
        have hm0 : m < 7 := by
          have h := (List.getElem?_eq_some_iff.1 hm).1
          simpa [valB] using h
        rw [add_pl, Nat.zero_add, (cells_at (unhideR HNB) m (by simp; omega)).1]
        rcases (show m = 0 ∨ m = 1 ∨ m = 2 ∨ m = 3 ∨ m = 4 ∨ m = 5 ∨ m = 6 by omega) with rfl | rfl | rfl | rfl | rfl | rfl | rfl
        all_goals
          simp [valB] at hm
          subst hm
          rfl
      case q2 =>
        intro u hu
        exact flatB_one [s] u (by simpa [flatB] using hu)
      case q3 => unfold maxLen; omega
      case q4 => omega
      case q5 => omega
      intro v3 w3 hown2 hgrow2 _
      have B3 := hideR ((unhideR HB2).grown hgrow2 (by omega) (fun g h => by have := own_at2 (unhideR HO2) g h; omega))
      have O3 : HeldR (w3.ownsRow w.heap.size 40 7 v3 (k + 1) (flatB (L.take (k + 1)))) := by
        unfold HeldR
        rw [unhideR HT, flatB_append]
        simpa [flatB] using hown2
      clear hown2 hgrow2 HO2 HT HB2 HK HNB
      go_simp
      refine hK _ _ ?_
      clear hK K
      refine wpAny_step (i := 19) (by kernel_rfl) rfl (by kernel_rfl) (fun K hK => ?_)
      unfold Oper.wp
      go_simp
      refine hK _ _ ?_
      clear hK K
      refine wpAny_end (by kernel_rfl) ?_
      go_wp2
      exact ⟨⟨k + 1, by omega, by go_num, O3, B3⟩, by simp [intOf]; omega⟩
    · obtain rfl : k = L.length := by omega
      have hO := unhideR HO
      rw [List.take_length] at hO
      have HM := hideR (own_rowB hO)
      clear hO HO
      go_wp2
      go_ret
      exact ⟨_, rfl, unhideR HM, unhideR HW⟩
set_option maxRecDepth 100000 in
set_option maxHeartbeats 1600000 in
theorem same_any {v u : Value} {L : List Bd} {w : World} (h : BSl w v L) (h2 : BSl w u L) (hl : L.length ≤ 14) :
    Calls Tryd.prog 15 #[v, u] w fun e w' => e = .returned (.bool true) ∧ Below w.heap.size w w' := by
  obtain ⟨ad, cap, rfl, hc⟩ := h.cut
  obtain ⟨ad2, cap2, rfl, hc2⟩ := h2.cut
  have HC := hideR hc
  have HC2 := hideR hc2
  clear hc hc2 h h2
  go_enter Tryd.func15, Tryd.ntmps15
  go_wp2
  go_loopw [5] (fun kv wl => ∃ k : Nat, k ≤ L.length ∧ kv = .int .i64 (k : Nat) ∧ ∃ n, wl = w.drewN n) (fun kv _ => L.length + 1 - (intOf kv).toNat)
  case atStart => exact ⟨0, by omega, rfl, 0, rfl⟩
  case round =>
    obtain ⟨k, hk, rfl, n, rfl⟩ := hrel
    by_cases hlt : k < L.length
    · obtain ⟨b, off, rfl, hb, c0, c1, c2, c3, c4, c5, c6⟩ := (unhideR HC).at_ k hlt
      obtain ⟨b2, off2, rfl, hb2, d0, d1, d2, d3, d4, d5, d6⟩ := (unhideR HC2).at_ k hlt
      generalize L.getD k bd0 = s at *
      go_wp2
      go_quiet (fail)
      go_wp2
      exact ⟨⟨k + 1, by omega, by go_num, _, rfl⟩, by simp [intOf]; omega⟩
    · obtain rfl : k = L.length := by omega
      go_wp2
      go_ret
      exact ⟨rfl, below_drewN (Below.refl _ _) _⟩
end Go.Proofs.YtdngkmobkbiflagDoor
