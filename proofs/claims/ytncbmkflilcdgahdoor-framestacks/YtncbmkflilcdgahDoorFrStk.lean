/-
  The document's pictures one upon the other, by contract.
-/
import Derived.Test.YtncbmkflilcdgahDoorFrMed
import Derived.Test.YtncbmkflilcdgahDoorFrStk0
namespace Go.Proofs.YtncbmkflilcdgahDoor
open Go Go.RowKit

def StkPost (Ls : List Pic) (w : World) (e : Ending) (w' : World) : Prop := ∃ (X : List Int) (ad : Option Addr) (cap : Nat), e = .returned (.tuple #[.slice ad X.length cap, .int .i64 (stackE Ls)]) ∧ (stackE Ls = 0 → X = stackV Ls) ∧ (stackE Ls ≠ 0 → X = []) ∧ ICame w' ad X ∧ Below w.heap.size w w'
theorem stk_none {Ls : List Pic} {w w' : World} {E : Int} (h : stackE Ls = E) (h0 : E ≠ 0) (k : Below w.heap.size w w') : StkPost Ls w (.returned (.tuple #[.slice none 0 0, .int .i64 E])) w' :=
  ⟨[], none, 0, by rw [h]; rfl, fun q => absurd (h.symm.trans q) h0, fun _ => rfl, ⟨fun k hk => absurd hk (Nat.not_lt_zero k)⟩, k⟩
set_option maxRecDepth 100000 in
set_option maxHeartbeats 6400000 in
theorem stackOf_any {w : World} {cap : Nat} {ad : Option Addr} {Ls : List Pic} (hr : PCame w ad Ls) (hl : Ls.length * 40 ≤ 140737488355328) :
    Calls Tryd.prog 45 #[.slice ad Ls.length cap] w (StkPost Ls w) := by
  obtain ⟨i0, hi0, hz0, hz1, hz2⟩ := info_parts infoI
  have HR := hideR hr
  by_cases q1 : 64 < Ls.length
  · have HF := hideR (stk_none (w := w) (w' := w) (show stackE Ls = 2 by unfold stackE; rw [if_pos q1]) (by decide) (Below.refl _ _))
    clear hr
    go_enter Tryd.func45, Tryd.ntmps45
    go_wp2
    go_ret2
    exact unhideR HF
  by_cases q2 : Ls.length = 0
  · have HF := hideR (stk_none (w := w) (w' := w) (show stackE Ls = 5 by unfold stackE; rw [if_neg q1, if_pos q2]) (by decide) (Below.refl _ _))
    clear hr
    rw [q2]
    go_enter Tryd.func45, Tryd.ntmps45
    go_wp2
    go_ret2
    exact unhideR HF
  have n1 : 1 ≤ Ls.length := by omega
  have n2 : Ls.length ≤ 64 := by omega
  have HE1 : HeldR (∀ i, i < Ls.length → (∀ j, j < i → picE (Ls.getD j pic0) = 0) → picE (Ls.getD i pic0) ≠ 0 → stackE Ls = picE (Ls.getD i pic0)) := fun i hi h hn => by
    unfold stackE
    rw [if_neg q1, if_neg q2, firstE_at h hi hn, if_pos hn]
  have HE2 : HeldR ((∀ j, j < Ls.length → picE (Ls.getD j pic0) = 0) → ∀ i, i < Ls.length → ¬ ((Ls.getD i pic0).wide = (Ls.getD 0 pic0).wide ∧ (Ls.getD i pic0).high = (Ls.getD 0 pic0).high) → stackE Ls = 5) := fun h i hi hn => by
    unfold stackE
    rw [if_neg q1, if_neg q2, if_neg (fun k => k (firstE_zero h)), if_pos]
    cases e : (Ls.all fun p => decide (p.wide = (Ls.getD 0 pic0).wide) && decide (p.high = (Ls.getD 0 pic0).high)) with
    | false => rfl
    | true => exact absurd (size_at.1 e i hi) hn
  have HE3 : HeldR ((∀ j, j < Ls.length → picE (Ls.getD j pic0) = 0) → (∀ i, i < Ls.length → ((Ls.getD i pic0).wide = (Ls.getD 0 pic0).wide ∧ (Ls.getD i pic0).high = (Ls.getD 0 pic0).high)) → stackE Ls = 0) := fun h hs => by
    unfold stackE
    rw [if_neg q1, if_neg q2, if_neg (fun k => k (firstE_zero h)), if_neg]
    rw [size_at.2 hs]
    exact Bool.noConfusion
  have t64 : decide (64 < (Ls.length : Int)) = false := decide_eq_false (by omega)
  have t64' : decide (64 < Ls.length) = false := decide_eq_false (by omega)
  have tz : ((Ls.length : Int) == 0) = false := by rw [beq_eq_false_iff_ne]; omega
  clear hr q1 q2
  go_enter Tryd.func45, Tryd.ntmps45
  go_wp2
  go_loopw [4] (fun iv wl => ∃ i : Nat, i ≤ Ls.length ∧ iv = .int .i64 (i : Nat) ∧ HeldR (∀ j, j < i → picE (Ls.getD j pic0) = 0) ∧ HeldR (Below w.heap.size w wl)) (fun iv _ => Ls.length + 1 - (intOf iv).toNat)
  case atStart => exact ⟨0, by omega, rfl, hideR (fun j hj => absurd hj (Nat.not_lt_zero j)), hideR (Below.refl _ _)⟩
  case round =>
    obtain ⟨i, hi, rfl, HM, HW⟩ := hrel
    by_cases hlt : i < Ls.length
    · obtain ⟨b, off, adk, capk, rfl, hp, hpl⟩ := ((unhideR HR).below (unhideR HW)).at_ i hlt
      have hpe := pictureError_any hp hpl
      have HE1i := hideR (unhideR HE1 i hlt (unhideR HM))
      have HMi : HeldR (picE (Ls.getD i pic0) = 0 → ∀ j, j < i + 1 → picE (Ls.getD j pic0) = 0) := fun q j hj => by
        rcases (show j < i ∨ j = i by omega) with z | rfl
        · exact unhideR HM j z
        · exact q
      have hrg := picE_range (Ls.getD i pic0)
      generalize picE (Ls.getD i pic0) = E at hpe HE1i HMi hrg
      clear HM hp
      go_wp2_with fail
      refine hpe.mono ?_
      rintro e w1 ⟨rfl, k1⟩
      replace HW := hideR (below_go (unhideR HW) k1)
      clear k1 hpe
      by_cases hE : E = 0
      · have HM2 := hideR (unhideR HMi hE)
        subst hE
        clear hrg HE1i HMi
        go_wp2
        exact ⟨⟨i + 1, by omega, by go_num, HM2, HW⟩, by simp [intOf]; omega⟩
      · have HF := hideR (stk_none (unhideR HE1i hE) hE (unhideR HW))
        have hp0 : 0 < E := by omega
        clear hrg HE1i HMi
        go_wp2
        go_ret2
        exact unhideR HF
    · obtain rfl : i = Ls.length := by omega
      have HOk : HeldR (∀ j, j < Ls.length → PicOk (Ls.getD j pic0)) := fun j hj => pic_ok (unhideR HM j hj)
      replace HE2 := hideR (unhideR HE2 (unhideR HM))
      replace HE3 := hideR (unhideR HE3 (unhideR HM))
      clear HE1 HM
      go_wp2
      go_loopw [6] (fun iv wl => ∃ i : Nat, i ≤ Ls.length ∧ iv = .int .i64 (i : Nat) ∧ HeldR (∀ j, j < i → (Ls.getD j pic0).wide = (Ls.getD 0 pic0).wide ∧ (Ls.getD j pic0).high = (Ls.getD 0 pic0).high) ∧ HeldR (Below w.heap.size w wl)) (fun iv _ => Ls.length + 1 - (intOf iv).toNat)
      case atStart => exact ⟨0, by omega, rfl, hideR (fun j hj => absurd hj (Nat.not_lt_zero j)), HW⟩
      case round =>
        clear HW
        obtain ⟨i, hi, rfl, HM, HW⟩ := hrel
        by_cases hlt : i < Ls.length
        · obtain ⟨b, off, adk, capk, rfl, hp, _⟩ := ((unhideR HR).below (unhideR HW)).at_ i hlt
          have hlz : 0 < Ls.length := by omega
          obtain ⟨b', off', ad0, cap0, e', hp0, _⟩ := ((unhideR HR).below (unhideR HW)).at_ 0 (by omega)
          cases e'
          have HE2i := hideR (unhideR HE2 i hlt)
          have HMi : HeldR (((Ls.getD i pic0).wide = (Ls.getD 0 pic0).wide ∧ (Ls.getD i pic0).high = (Ls.getD 0 pic0).high) → ∀ j, j < i + 1 → (Ls.getD j pic0).wide = (Ls.getD 0 pic0).wide ∧ (Ls.getD j pic0).high = (Ls.getD 0 pic0).high) := fun q j hj => by
            rcases (show j < i ∨ j = i by omega) with z | rfl
            · exact unhideR HM j z
            · exact q
          obtain ⟨_, c0, c1, _, _⟩ := hp
          obtain ⟨_, d0, d1, _, _⟩ := hp0
          rw [Nat.zero_mul, Nat.add_zero] at d0 d1
          generalize hs : Ls.getD i pic0 = s at c0 c1 HE2i HMi
          generalize hs0 : Ls.getD 0 pic0 = p0 at d0 d1 HE2i
          clear hs
          by_cases y1 : s.wide = p0.wide
          · have t1 : (s.wide != p0.wide) = false := by simp [y1]
            by_cases y2 : s.high = p0.high
            · have t2 : (s.high != p0.high) = false := by simp [y2]
              have HM2 := hideR (unhideR HMi (by rw [hs0]; exact ⟨y1, y2⟩))
              rw [hs0] at HM2
              clear HMi HE2i HM hs0 y1 y2
              go_wp2_with fail
              refine wp_region_lets [(· = .slice (some ⟨b, off, none⟩) Ls.length cap),
                (· = .int .i64 (i : Nat)),
                (· = .pointer (some ⟨b, off + i * 3, none⟩)),
                (· = .pointer (some ⟨b, off + i * 3, none⟩)),
                (· = .int .i64 s.wide),
                (· = .slice (some ⟨b, off, none⟩) Ls.length cap),
                (· = .pointer (some ⟨b, off, none⟩)),
                (· = .pointer (some ⟨b, off, none⟩)),
                (· = .int .i64 p0.wide),
                (· = .bool false),
                (· = .bool false),
                (· = .slice (some ⟨b, off, none⟩) Ls.length cap),
                (· = .int .i64 (i : Nat)),
                (· = .pointer (some ⟨b, off + i * 3, none⟩)),
                (· = .pointer (some ⟨b, off + i * 3 + 1, none⟩)),
                (· = .int .i64 s.high),
                (· = .slice (some ⟨b, off, none⟩) Ls.length cap),
                (· = .pointer (some ⟨b, off, none⟩)),
                (· = .pointer (some ⟨b, off + 1, none⟩)),
                (· = .int .i64 p0.high),
                (· = .bool false),
                (· = .bool false)] (by kernel_rfl) (by kernel_rfl) ?_
              refine lexL_step (fun K hK => ⟨by kernel_rfl, ⟨_, rfl⟩, fun n => ?_, fun v hv => ?_⟩)
              · go_simp
                exact lUpon_one
              subst hv
              go_simp
              refine hK _ ?_
              clear hK K
              refine lexL_step (fun K hK => ⟨by kernel_rfl, ⟨_, rfl⟩, fun n => ?_, fun v hv => ?_⟩)
              · go_simp
                exact lUpon_one
              subst hv
              go_simp
              refine hK _ ?_
              clear hK K
              refine lexL_step (fun K hK => ⟨by kernel_rfl, ⟨_, rfl⟩, fun n => ?_, fun v hv => ?_⟩)
              · go_simp
                exact lUpon_one
              subst hv
              go_simp
              refine hK _ ?_
              clear hK K
              refine lexL_step (fun K hK => ⟨by kernel_rfl, ⟨_, rfl⟩, fun n => ?_, fun v hv => ?_⟩)
              · go_simp
                exact lUpon_one
              subst hv
              go_simp
              refine hK _ ?_
              clear hK K
              refine lexL_step (fun K hK => ⟨by kernel_rfl, ⟨_, rfl⟩, fun n => ?_, fun v hv => ?_⟩)
              · go_simp
                exact lUpon_one
              subst hv
              go_simp
              refine hK _ ?_
              clear hK K
              refine lexL_step (fun K hK => ⟨by kernel_rfl, ⟨_, rfl⟩, fun n => ?_, fun v hv => ?_⟩)
              · go_simp
                exact lUpon_one
              subst hv
              go_simp
              refine hK _ ?_
              clear hK K
              refine lexL_step (fun K hK => ⟨by kernel_rfl, ⟨_, rfl⟩, fun n => ?_, fun v hv => ?_⟩)
              · go_simp
                exact lUpon_one
              subst hv
              go_simp
              refine hK _ ?_
              clear hK K
              refine lexL_step (fun K hK => ⟨by kernel_rfl, ⟨_, rfl⟩, fun n => ?_, fun v hv => ?_⟩)
              · go_simp
                exact lUpon_one
              subst hv
              go_simp
              refine hK _ ?_
              clear hK K
              refine lexL_step (fun K hK => ⟨by kernel_rfl, ⟨_, rfl⟩, fun n => ?_, fun v hv => ?_⟩)
              · go_simp
                exact lUpon_one
              subst hv
              go_simp
              refine hK _ ?_
              clear hK K
              refine lexL_step (fun K hK => ⟨by kernel_rfl, ⟨_, rfl⟩, fun n => ?_, fun v hv => ?_⟩)
              · go_simp
                exact lUpon_one
              subst hv
              go_simp
              refine hK _ ?_
              clear hK K
              refine lexL_step (fun K hK => ⟨by kernel_rfl, ⟨_, rfl⟩, fun n => ?_, fun v hv => ?_⟩)
              · go_simp
                exact lUpon_one
              subst hv
              go_simp
              refine hK _ ?_
              clear hK K
              refine lexL_step (fun K hK => ⟨by kernel_rfl, ⟨_, rfl⟩, fun n => ?_, fun v hv => ?_⟩)
              · go_simp
                exact lUpon_one
              subst hv
              go_simp
              refine hK _ ?_
              clear hK K
              refine lexL_step (fun K hK => ⟨by kernel_rfl, ⟨_, rfl⟩, fun n => ?_, fun v hv => ?_⟩)
              · go_simp
                exact lUpon_one
              subst hv
              go_simp
              refine hK _ ?_
              clear hK K
              refine lexL_step (fun K hK => ⟨by kernel_rfl, ⟨_, rfl⟩, fun n => ?_, fun v hv => ?_⟩)
              · go_simp
                exact lUpon_one
              subst hv
              go_simp
              refine hK _ ?_
              clear hK K
              refine lexL_step (fun K hK => ⟨by kernel_rfl, ⟨_, rfl⟩, fun n => ?_, fun v hv => ?_⟩)
              · go_simp
                exact lUpon_one
              subst hv
              go_simp
              refine hK _ ?_
              clear hK K
              refine lexL_step (fun K hK => ⟨by kernel_rfl, ⟨_, rfl⟩, fun n => ?_, fun v hv => ?_⟩)
              · go_simp
                exact lUpon_one
              subst hv
              go_simp
              refine hK _ ?_
              clear hK K
              refine lexL_step (fun K hK => ⟨by kernel_rfl, ⟨_, rfl⟩, fun n => ?_, fun v hv => ?_⟩)
              · go_simp
                exact lUpon_one
              subst hv
              go_simp
              refine hK _ ?_
              clear hK K
              refine lexL_step (fun K hK => ⟨by kernel_rfl, ⟨_, rfl⟩, fun n => ?_, fun v hv => ?_⟩)
              · go_simp
                exact lUpon_one
              subst hv
              go_simp
              refine hK _ ?_
              clear hK K
              refine lexL_step (fun K hK => ⟨by kernel_rfl, ⟨_, rfl⟩, fun n => ?_, fun v hv => ?_⟩)
              · go_simp
                exact lUpon_one
              subst hv
              go_simp
              refine hK _ ?_
              clear hK K
              refine lexL_step (fun K hK => ⟨by kernel_rfl, ⟨_, rfl⟩, fun n => ?_, fun v hv => ?_⟩)
              · go_simp
                exact lUpon_one
              subst hv
              go_simp
              refine hK _ ?_
              clear hK K
              refine lexL_step (fun K hK => ⟨by kernel_rfl, ⟨_, rfl⟩, fun n => ?_, fun v hv => ?_⟩)
              · go_simp
                exact lUpon_one
              subst hv
              go_simp
              refine hK _ ?_
              clear hK K
              refine lexL_step (fun K hK => ⟨by kernel_rfl, ⟨_, rfl⟩, fun n => ?_, fun v hv => ?_⟩)
              · go_simp
                exact lUpon_one
              subst hv
              go_simp
              refine hK _ ?_
              clear hK K
              refine lexL_end ?_
              intro n9
              have hb := drawn_below wr n9
              replace HW := hideR (below_go (unhideR HW) hb)
              clear hb c0 c1 d0 d1
              go_wp2
              exact ⟨⟨i + 1, by omega, by go_num, HM2, HW⟩, by simp [intOf]; omega⟩
            · have t2 : (s.high != p0.high) = true := by simp [y2]
              have e5 := unhideR HE2i (fun k => y2 k.2)
              clear HMi HE2i HM hs0 y1 y2
              go_wp2_with fail
              refine wp_region_lets [(· = .slice (some ⟨b, off, none⟩) Ls.length cap),
                (· = .int .i64 (i : Nat)),
                (· = .pointer (some ⟨b, off + i * 3, none⟩)),
                (· = .pointer (some ⟨b, off + i * 3, none⟩)),
                (· = .int .i64 s.wide),
                (· = .slice (some ⟨b, off, none⟩) Ls.length cap),
                (· = .pointer (some ⟨b, off, none⟩)),
                (· = .pointer (some ⟨b, off, none⟩)),
                (· = .int .i64 p0.wide),
                (· = .bool false),
                (· = .bool false),
                (· = .slice (some ⟨b, off, none⟩) Ls.length cap),
                (· = .int .i64 (i : Nat)),
                (· = .pointer (some ⟨b, off + i * 3, none⟩)),
                (· = .pointer (some ⟨b, off + i * 3 + 1, none⟩)),
                (· = .int .i64 s.high),
                (· = .slice (some ⟨b, off, none⟩) Ls.length cap),
                (· = .pointer (some ⟨b, off, none⟩)),
                (· = .pointer (some ⟨b, off + 1, none⟩)),
                (· = .int .i64 p0.high),
                (· = .bool true),
                (· = .bool true)] (by kernel_rfl) (by kernel_rfl) ?_
              refine lexL_step (fun K hK => ⟨by kernel_rfl, ⟨_, rfl⟩, fun n => ?_, fun v hv => ?_⟩)
              · go_simp
                exact lUpon_one
              subst hv
              go_simp
              refine hK _ ?_
              clear hK K
              refine lexL_step (fun K hK => ⟨by kernel_rfl, ⟨_, rfl⟩, fun n => ?_, fun v hv => ?_⟩)
              · go_simp
                exact lUpon_one
              subst hv
              go_simp
              refine hK _ ?_
              clear hK K
              refine lexL_step (fun K hK => ⟨by kernel_rfl, ⟨_, rfl⟩, fun n => ?_, fun v hv => ?_⟩)
              · go_simp
                exact lUpon_one
              subst hv
              go_simp
              refine hK _ ?_
              clear hK K
              refine lexL_step (fun K hK => ⟨by kernel_rfl, ⟨_, rfl⟩, fun n => ?_, fun v hv => ?_⟩)
              · go_simp
                exact lUpon_one
              subst hv
              go_simp
              refine hK _ ?_
              clear hK K
              refine lexL_step (fun K hK => ⟨by kernel_rfl, ⟨_, rfl⟩, fun n => ?_, fun v hv => ?_⟩)
              · go_simp
                exact lUpon_one
              subst hv
              go_simp
              refine hK _ ?_
              clear hK K
              refine lexL_step (fun K hK => ⟨by kernel_rfl, ⟨_, rfl⟩, fun n => ?_, fun v hv => ?_⟩)
              · go_simp
                exact lUpon_one
              subst hv
              go_simp
              refine hK _ ?_
              clear hK K
              refine lexL_step (fun K hK => ⟨by kernel_rfl, ⟨_, rfl⟩, fun n => ?_, fun v hv => ?_⟩)
              · go_simp
                exact lUpon_one
              subst hv
              go_simp
              refine hK _ ?_
              clear hK K
              refine lexL_step (fun K hK => ⟨by kernel_rfl, ⟨_, rfl⟩, fun n => ?_, fun v hv => ?_⟩)
              · go_simp
                exact lUpon_one
              subst hv
              go_simp
              refine hK _ ?_
              clear hK K
              refine lexL_step (fun K hK => ⟨by kernel_rfl, ⟨_, rfl⟩, fun n => ?_, fun v hv => ?_⟩)
              · go_simp
                exact lUpon_one
              subst hv
              go_simp
              refine hK _ ?_
              clear hK K
              refine lexL_step (fun K hK => ⟨by kernel_rfl, ⟨_, rfl⟩, fun n => ?_, fun v hv => ?_⟩)
              · go_simp
                exact lUpon_one
              subst hv
              go_simp
              refine hK _ ?_
              clear hK K
              refine lexL_step (fun K hK => ⟨by kernel_rfl, ⟨_, rfl⟩, fun n => ?_, fun v hv => ?_⟩)
              · go_simp
                exact lUpon_one
              subst hv
              go_simp
              refine hK _ ?_
              clear hK K
              refine lexL_step (fun K hK => ⟨by kernel_rfl, ⟨_, rfl⟩, fun n => ?_, fun v hv => ?_⟩)
              · go_simp
                exact lUpon_one
              subst hv
              go_simp
              refine hK _ ?_
              clear hK K
              refine lexL_step (fun K hK => ⟨by kernel_rfl, ⟨_, rfl⟩, fun n => ?_, fun v hv => ?_⟩)
              · go_simp
                exact lUpon_one
              subst hv
              go_simp
              refine hK _ ?_
              clear hK K
              refine lexL_step (fun K hK => ⟨by kernel_rfl, ⟨_, rfl⟩, fun n => ?_, fun v hv => ?_⟩)
              · go_simp
                exact lUpon_one
              subst hv
              go_simp
              refine hK _ ?_
              clear hK K
              refine lexL_step (fun K hK => ⟨by kernel_rfl, ⟨_, rfl⟩, fun n => ?_, fun v hv => ?_⟩)
              · go_simp
                exact lUpon_one
              subst hv
              go_simp
              refine hK _ ?_
              clear hK K
              refine lexL_step (fun K hK => ⟨by kernel_rfl, ⟨_, rfl⟩, fun n => ?_, fun v hv => ?_⟩)
              · go_simp
                exact lUpon_one
              subst hv
              go_simp
              refine hK _ ?_
              clear hK K
              refine lexL_step (fun K hK => ⟨by kernel_rfl, ⟨_, rfl⟩, fun n => ?_, fun v hv => ?_⟩)
              · go_simp
                exact lUpon_one
              subst hv
              go_simp
              refine hK _ ?_
              clear hK K
              refine lexL_step (fun K hK => ⟨by kernel_rfl, ⟨_, rfl⟩, fun n => ?_, fun v hv => ?_⟩)
              · go_simp
                exact lUpon_one
              subst hv
              go_simp
              refine hK _ ?_
              clear hK K
              refine lexL_step (fun K hK => ⟨by kernel_rfl, ⟨_, rfl⟩, fun n => ?_, fun v hv => ?_⟩)
              · go_simp
                exact lUpon_one
              subst hv
              go_simp
              refine hK _ ?_
              clear hK K
              refine lexL_step (fun K hK => ⟨by kernel_rfl, ⟨_, rfl⟩, fun n => ?_, fun v hv => ?_⟩)
              · go_simp
                exact lUpon_one
              subst hv
              go_simp
              refine hK _ ?_
              clear hK K
              refine lexL_step (fun K hK => ⟨by kernel_rfl, ⟨_, rfl⟩, fun n => ?_, fun v hv => ?_⟩)
              · go_simp
                exact lUpon_one
              subst hv
              go_simp
              refine hK _ ?_
              clear hK K
              refine lexL_step (fun K hK => ⟨by kernel_rfl, ⟨_, rfl⟩, fun n => ?_, fun v hv => ?_⟩)
              · go_simp
                exact lUpon_one
              subst hv
              go_simp
              refine hK _ ?_
              clear hK K
              refine lexL_end ?_
              intro n9
              have hb := drawn_below wr n9
              have HF := hideR (stk_none e5 (by decide) (below_go (unhideR HW) hb))
              clear hb c0 c1 d0 d1
              go_wp2
              go_ret2
              exact unhideR HF
          · have t1 : (s.wide != p0.wide) = true := by simp [y1]
            have e5 := unhideR HE2i (fun k => y1 k.1)
            clear HMi HE2i HM hs0 y1
            go_wp2_with fail
            refine wp_region_lets [(· = .slice (some ⟨b, off, none⟩) Ls.length cap),
              (· = .int .i64 (i : Nat)),
              (· = .pointer (some ⟨b, off + i * 3, none⟩)),
              (· = .pointer (some ⟨b, off + i * 3, none⟩)),
              (· = .int .i64 s.wide),
              (· = .slice (some ⟨b, off, none⟩) Ls.length cap),
              (· = .pointer (some ⟨b, off, none⟩)),
              (· = .pointer (some ⟨b, off, none⟩)),
              (· = .int .i64 p0.wide),
              (· = .bool true),
              (· = .bool true),
              (· = undef),
              (· = undef),
              (· = undef),
              (· = undef),
              (· = undef),
              (· = undef),
              (· = undef),
              (· = undef),
              (· = undef),
              (· = undef),
              (· = .bool true)] (by kernel_rfl) (by kernel_rfl) ?_
            refine lexL_step (fun K hK => ⟨by kernel_rfl, ⟨_, rfl⟩, fun n => ?_, fun v hv => ?_⟩)
            · go_simp
              exact lUpon_one
            subst hv
            go_simp
            refine hK _ ?_
            clear hK K
            refine lexL_step (fun K hK => ⟨by kernel_rfl, ⟨_, rfl⟩, fun n => ?_, fun v hv => ?_⟩)
            · go_simp
              exact lUpon_one
            subst hv
            go_simp
            refine hK _ ?_
            clear hK K
            refine lexL_step (fun K hK => ⟨by kernel_rfl, ⟨_, rfl⟩, fun n => ?_, fun v hv => ?_⟩)
            · go_simp
              exact lUpon_one
            subst hv
            go_simp
            refine hK _ ?_
            clear hK K
            refine lexL_step (fun K hK => ⟨by kernel_rfl, ⟨_, rfl⟩, fun n => ?_, fun v hv => ?_⟩)
            · go_simp
              exact lUpon_one
            subst hv
            go_simp
            refine hK _ ?_
            clear hK K
            refine lexL_step (fun K hK => ⟨by kernel_rfl, ⟨_, rfl⟩, fun n => ?_, fun v hv => ?_⟩)
            · go_simp
              exact lUpon_one
            subst hv
            go_simp
            refine hK _ ?_
            clear hK K
            refine lexL_step (fun K hK => ⟨by kernel_rfl, ⟨_, rfl⟩, fun n => ?_, fun v hv => ?_⟩)
            · go_simp
              exact lUpon_one
            subst hv
            go_simp
            refine hK _ ?_
            clear hK K
            refine lexL_step (fun K hK => ⟨by kernel_rfl, ⟨_, rfl⟩, fun n => ?_, fun v hv => ?_⟩)
            · go_simp
              exact lUpon_one
            subst hv
            go_simp
            refine hK _ ?_
            clear hK K
            refine lexL_step (fun K hK => ⟨by kernel_rfl, ⟨_, rfl⟩, fun n => ?_, fun v hv => ?_⟩)
            · go_simp
              exact lUpon_one
            subst hv
            go_simp
            refine hK _ ?_
            clear hK K
            refine lexL_step (fun K hK => ⟨by kernel_rfl, ⟨_, rfl⟩, fun n => ?_, fun v hv => ?_⟩)
            · go_simp
              exact lUpon_one
            subst hv
            go_simp
            refine hK _ ?_
            clear hK K
            refine lexL_step (fun K hK => ⟨by kernel_rfl, ⟨_, rfl⟩, fun n => ?_, fun v hv => ?_⟩)
            · go_simp
              exact lUpon_one
            subst hv
            go_simp
            refine hK _ ?_
            clear hK K
            refine lexL_step (fun K hK => ⟨by kernel_rfl, ⟨_, rfl⟩, fun n => ?_, fun v hv => ?_⟩)
            · go_simp
              exact lUpon_one
            subst hv
            go_simp
            refine hK _ ?_
            clear hK K
            refine lexL_skip (fun K hK => ⟨by kernel_rfl, ?_⟩)
            go_simp
            refine hK _ ?_
            clear hK K
            refine lexL_skip (fun K hK => ⟨by kernel_rfl, ?_⟩)
            go_simp
            refine hK _ ?_
            clear hK K
            refine lexL_skip (fun K hK => ⟨by kernel_rfl, ?_⟩)
            go_simp
            refine hK _ ?_
            clear hK K
            refine lexL_skip (fun K hK => ⟨by kernel_rfl, ?_⟩)
            go_simp
            refine hK _ ?_
            clear hK K
            refine lexL_skip (fun K hK => ⟨by kernel_rfl, ?_⟩)
            go_simp
            refine hK _ ?_
            clear hK K
            refine lexL_skip (fun K hK => ⟨by kernel_rfl, ?_⟩)
            go_simp
            refine hK _ ?_
            clear hK K
            refine lexL_skip (fun K hK => ⟨by kernel_rfl, ?_⟩)
            go_simp
            refine hK _ ?_
            clear hK K
            refine lexL_skip (fun K hK => ⟨by kernel_rfl, ?_⟩)
            go_simp
            refine hK _ ?_
            clear hK K
            refine lexL_skip (fun K hK => ⟨by kernel_rfl, ?_⟩)
            go_simp
            refine hK _ ?_
            clear hK K
            refine lexL_skip (fun K hK => ⟨by kernel_rfl, ?_⟩)
            go_simp
            refine hK _ ?_
            clear hK K
            refine lexL_step (fun K hK => ⟨by kernel_rfl, ⟨_, rfl⟩, fun n => ?_, fun v hv => ?_⟩)
            · go_simp
              exact lUpon_one
            subst hv
            go_simp
            refine hK _ ?_
            clear hK K
            refine lexL_end ?_
            intro n9
            have hb := drawn_below wr n9
            have HF := hideR (stk_none e5 (by decide) (below_go (unhideR HW) hb))
            clear hb c0 c1 d0 d1
            go_wp2
            go_ret2
            exact unhideR HF
        · obtain rfl : i = Ls.length := by omega
          have e0 := unhideR HE3 (unhideR HM)
          have HE := hideR e0
          have HLen : HeldR (∀ j, j < Ls.length → (Ls.getD j pic0).L.length = (Ls.getD 0 pic0).L.length) := fun j hj => by
            have a := (unhideR HOk j hj).len
            have c := (unhideR HOk 0 (by omega)).len
            obtain ⟨s1, s2⟩ := unhideR HM j hj
            rw [s1, s2] at a
            omega
          have hfew := (unhideR HOk 0 (by omega)).few
          clear HM HE2 HE3 e0
          obtain ⟨N, hN⟩ : ∃ N, N = (Ls.getD 0 pic0).L.length := ⟨_, rfl⟩
          rw [← hN] at hfew
          have HN := hideR hN
          replace HLen : HeldR (∀ j, j < Ls.length → (Ls.getD j pic0).L.length = N) := fun j hj => (unhideR HLen j hj).trans hN.symm
          clear hN
          go_wp2
          go_loopw [7, 8] (fun ov kv wl => ∃ k : Nat, k ≤ N ∧ kv = .int .i64 (k : Nat) ∧ HeldR (wl.ownsRow w.heap.size 3 1 ov (stkK Ls k).length ((stkK Ls k).map (Value.int .i64))) ∧ HeldR (Below w.heap.size w wl)) (fun _ kv _ => N + 1 - (intOf kv).toNat)
          case atStart => exact ⟨0, by omega, rfl, World.ownsRow_nil _ _ _ _, HW⟩
          case round =>
            clear HW
            obtain ⟨k, hk, rfl, HO, HW⟩ := hrel
            obtain ⟨b, off, ad0, cap0, rfl, hp0, _⟩ := ((unhideR HR).below (unhideR HW)).at_ 0 (by omega)
            obtain ⟨_, _, _, d2, _⟩ := hp0
            rw [Nat.zero_mul, Nat.add_zero, ← unhideR HN] at d2
            by_cases hkl : k < N
            · go_wp2_with fail
              clear d2
              obtain ⟨W0, rfl⟩ : ∃ W0, W0 = wr := ⟨_, rfl⟩
              go_loopw [9, 10] (fun av iv wl => ∃ i : Nat, i ≤ Ls.length ∧ iv = .int .i64 (i : Nat) ∧ HeldR (wl.ownsRow W0.heap.size 3 1 av (colV (Ls.take i) k).length ((colV (Ls.take i) k).map (Value.int .i64))) ∧ HeldR (Below W0.heap.size W0 wl)) (fun _ iv _ => Ls.length + 1 - (intOf iv).toNat)
              case atStart => exact ⟨0, by omega, rfl, World.ownsRow_nil _ _ _ _, hideR (Below.refl _ _)⟩
              case round =>
                obtain ⟨i, hi, rfl, HA, HK⟩ := hrel
                by_cases hil : i < Ls.length
                · obtain ⟨b', off', adk, capk, e', hp, _⟩ := (((unhideR HR).below (unhideR HW)).below (unhideR HK)).at_ i hil
                  cases e'
                  obtain ⟨_, _, _, c2, hrow⟩ := hp
                  have hkk : k < (Ls.getD i pic0).L.length := by rw [unhideR HLen i hil]; exact hkl
                  obtain ⟨bc, oc, rfl, hbc, cc⟩ := hrow.at_ k hkk
                  rw [unhideR HLen i hil] at c2
                  have HC := hideR (col_next (Ls := Ls) (k := k) hil)
                  have hlen : (colV (Ls.take i) k).length ≤ 64 := by rw [col_length]; simp; omega
                  generalize (Ls.getD i pic0).L.getD k 0 = x at cc HC
                  generalize colV (Ls.take i) k = A at HA HC hlen
                  clear hrow hkk
                  have lsz := (unhideR HK).size
                  go_wp2_with (first
                    | (at_builtin; refine wpList_append_own _ rfl _ _ 23 rfl W0.heap.size 3 i0 (.int .i64 0) 1 8 Tryd.underlying23 hi0 hz0 hz1 hz2 rfl (by decide) _ (A).length ((A).map (Value.int .i64)) rfl (own_below2 (unhideR HA) (below_a _ _)) ⟨wr.heap.size, 0, none⟩ 1 1 [.int .i64 x] rfl rfl ?c1 ?c2 ?c3 ?c4 ?c5 ?_))
                  case c1 => exact one_int wr x
                  case c2 =>
                    intro u hu
                    rw [List.mem_singleton.1 hu]
                    rfl
                  case c3 => unfold maxLen; omega
                  case c4 => omega
                  case c5 => simp; omega
                  intro v3 w3 hown2 hgrow2 _
                  have B3 := hideR ((below_go (unhideR HK) (below_a wr _)).grown hgrow2 (by have := (unhideR HK).size; simp; omega) (fun g h => own_at2 (unhideR HA) g h))
                  have O3 : HeldR (w3.ownsRow W0.heap.size 3 1 v3 (A ++ [x]).length ((A ++ [x]).map (Value.int .i64))) := by
                    unfold HeldR
                    rw [List.map_append, List.length_append]
                    exact hown2
                  clear hown2 hgrow2 lsz
                  go_wp2
                  exact ⟨⟨i + 1, by omega, by go_num, by rw [unhideR HC]; exact O3, B3⟩, by simp [intOf]; omega⟩
                · obtain rfl : i = Ls.length := by omega
                  rw [List.take_length] at HA
                  obtain ⟨ada, capa, eA, hIa, _⟩ := own_ints (unhideR HA)
                  have hmd := medianOf_any (cap := capa) hIa (by rw [col_length]; omega) (by rw [col_length]; omega)
                  have HX := hideR (stkK_next Ls k)
                  have hsl : (stkK Ls k).length ≤ 65536 := by rw [stkK_length]; omega
                  generalize medV (colV Ls k) = M at hmd HX
                  generalize stkK Ls k = X at HX hsl HO
                  subst eA
                  clear HA hIa
                  go_wp2_with fail
                  refine hmd.mono ?_
                  rintro e w5 ⟨rfl, k5⟩
                  have kk := below_go (unhideR HK) k5
                  have HO5 := hideR (own_below2 (unhideR HO) kk)
                  have HW5 := hideR (below_go (unhideR HW) kk)
                  clear kk k5 hmd HK
                  have lsz := (unhideR HW5).size
                  go_wp2_with (first
                    | (at_builtin; refine wpList_append_own _ rfl _ _ 23 rfl w.heap.size 3 i0 (.int .i64 0) 1 8 Tryd.underlying23 hi0 hz0 hz1 hz2 rfl (by decide) _ (X).length ((X).map (Value.int .i64)) rfl (own_below2 (unhideR HO5) (below_a _ _)) ⟨w5.heap.size, 0, none⟩ 1 1 [.int .i64 M] rfl rfl ?c1 ?c2 ?c3 ?c4 ?c5 ?_))
                  case c1 => exact one_int w5 M
                  case c2 =>
                    intro u hu
                    rw [List.mem_singleton.1 hu]
                    rfl
                  case c3 => unfold maxLen; omega
                  case c4 => omega
                  case c5 => simp; omega
                  intro v4 w6 hown2 hgrow2 _
                  have B4 := hideR ((below_go (unhideR HW5) (below_a w5 _)).grown hgrow2 (by have := (unhideR HW5).size; simp; omega) (fun g h => own_at2 (unhideR HO5) g h))
                  have O4 : HeldR (w6.ownsRow w.heap.size 3 1 v4 (X ++ [M]).length ((X ++ [M]).map (Value.int .i64))) := by
                    unfold HeldR
                    rw [List.map_append, List.length_append]
                    exact hown2
                  clear hown2 hgrow2 lsz
                  go_wp2
                  exact ⟨⟨k + 1, by omega, by go_num, by rw [unhideR HX]; exact O4, B4⟩, by simp [intOf]; omega⟩
            · obtain rfl : k = N := by omega
              obtain ⟨adx, capx, eX, hIx, _⟩ := own_ints (unhideR HO)
              have e0 := unhideR HE
              have HF : HeldR (StkPost Ls w (.returned (.tuple #[.slice adx (stkK Ls k).length capx, .int .i64 0])) wr) := ⟨stkK Ls k, adx, capx, by rw [e0], fun _ => by rw [unhideR HN]; exact stk_all Ls, fun q => absurd e0 q, hIx, unhideR HW⟩
              clear hIx e0
              generalize stkK Ls k = X at eX HF
              subst eX
              go_wp2
              go_ret2
              exact unhideR HF
end Go.Proofs.YtncbmkflilcdgahDoor
