/-
  What the laws of plates ask of numbers: too great, by contract. What the laws of an atlas ask: cells copied, names held against each other, few entries.
-/
import Derived.Test.YtfonpobdnhifgamGreatDoorKitA
import Derived.Deep.QuietTactic
import Derived.Test.YtfonpobdnhifgamGreatDoorAtIA
namespace Go.Proofs.YtfonpobdnhifgamGreatDoor
open Go Go.RowKit

def hugeB (n : Int) : Bool := decide (1152921504606846976 < n ∨ n < -1152921504606846976)
set_option maxRecDepth 100000 in
theorem huge_any (n : Int) (w : World) : Calls Tryz.prog 8 #[.int .i64 n] w fun e w' => e = .returned (.bool (hugeB n)) ∧ w' = w := by
  obtain ⟨R, hR⟩ : ∃ R, hugeB n = R := ⟨_, rfl⟩
  rw [hR]
  unfold hugeB at hR
  have HR := hideR hR
  clear hR
  go_enter Tryz.func8, Tryz.ntmps8
  go_wp2
  all_goals go_ret
  all_goals
    refine ⟨congrArg (fun b => Ending.returned (.bool b)) ?_, rfl⟩
    rw [← unhideR HR, Bool.eq_iff_iff]
    simp
    try omega
end Go.Proofs.YtfonpobdnhifgamGreatDoor
namespace Go.Proofs.YtfonpobdnhifgamGreatDoor
open Go Go.RowKit

theorem set4_blL {B : Nat} {w u : World} (h : Below B w u) {k : Nat} (hk : B ≤ k) (x y z t : Value) : Below B w ((((u.setCell ⟨k, 0, none⟩ x).setCell ⟨k, 1, none⟩ y).setCell ⟨k, 2, none⟩ z).setCell ⟨k, 3, none⟩ t) := (((h.setCell hk x).setCell hk y).setCell hk z).setCell hk t
set_option maxRecDepth 100000 in
set_option maxHeartbeats 3200000 in
theorem sameNames_any {w : World} {c1 c2 : Nat} {a1 a2 : Option Addr} {L : List ByteArray} (h1 : SCm w a1 L) (h2 : SCm w a2 L) (hl : L.length ≤ 4000) :
    Calls Tryz.prog 13 #[.slice a1 L.length c1, .slice a2 L.length c2] w fun e w' => e = .returned (.bool true) ∧ Below w.heap.size w w' := by
  have H1 := hideR h1
  have H2 := hideR h2
  clear h1 h2
  have t0 : ((L.length : Int) != (L.length : Int)) = false := by simp
  go_enter Tryz.func13, Tryz.ntmps13
  go_wp2
  go_loopw [5] (fun iv wl => ∃ i : Nat, i ≤ L.length ∧ iv = .int .i64 (i : Nat) ∧ HeldR (Below w.heap.size w wl)) (fun iv _ => L.length + 1 - (intOf iv).toNat)
  case atStart => exact ⟨0, by omega, rfl, hideR (Below.refl _ _)⟩
  case round =>
    obtain ⟨i, hi, rfl, HK⟩ := hrel
    by_cases hil : i < L.length
    · have ti : decide ((i : Int) < (L.length : Nat)) = true := decide_eq_true (by omega)
      have tin : decide (i < L.length) = true := decide_eq_true hil
      have wi : IntKind.i64.wrap ((i : Int) + 1) = (i : Int) + 1 := iwrap (by omega) (by omega)
      obtain ⟨b1, o1, rfl, _, x1⟩ := ((unhideR H1).below (unhideR HK)).at_ i hil
      obtain ⟨b2, o2, rfl, _, y1⟩ := ((unhideR H2).below (unhideR HK)).at_ i hil
      generalize L.getD i ByteArray.empty = C at *
      have HM : i < L.length := hil
      go_wp2_with fail
      refine wp_region_lets [(· = .slice (some ⟨b1, o1, none⟩) L.length c1),
        (· = .int .i64 (i : Nat)),
        (· = .pointer (some ⟨b1, o1 + i, none⟩)),
        (· = .string C),
        (· = .slice (some ⟨b2, o2, none⟩) L.length c2),
        (· = .int .i64 (i : Nat)),
        (· = .pointer (some ⟨b2, o2 + i, none⟩)),
        (· = .string C),
        (· = .bool false)] (by kernel_rfl) (by kernel_rfl) ?_
      refine lexL_step (fun K hK => ⟨by kernel_rfl, ⟨_, rfl⟩, fun n => ?_, fun v hv => ?_⟩)
      · go_simp
        exact lUpon_one
      subst hv
      go_simp
      refine hK _ ?_
      clear hK K
      refine lexL_step (fun K hK => ⟨by kernel_rfl, ⟨_, rfl⟩, fun n => ?_, fun v hv => ?_⟩)
      · go_simp
        exact lUpon_one
      subst hv
      go_simp
      refine hK _ ?_
      clear hK K
      refine lexL_step (fun K hK => ⟨by kernel_rfl, ⟨_, rfl⟩, fun n => ?_, fun v hv => ?_⟩)
      · go_simp
        exact lUpon_one
      subst hv
      go_simp
      refine hK _ ?_
      clear hK K
      refine lexL_step (fun K hK => ⟨by kernel_rfl, ⟨_, rfl⟩, fun n => ?_, fun v hv => ?_⟩)
      · have q9 : (wr.drewN n).cell? ⟨b1, o1 + i, none⟩ = some (.string C) := x1
        go_simp
        exact lUpon_one
      subst hv
      go_simp
      refine hK _ ?_
      clear hK K
      refine lexL_step (fun K hK => ⟨by kernel_rfl, ⟨_, rfl⟩, fun n => ?_, fun v hv => ?_⟩)
      · go_simp
        exact lUpon_one
      subst hv
      go_simp
      refine hK _ ?_
      clear hK K
      refine lexL_step (fun K hK => ⟨by kernel_rfl, ⟨_, rfl⟩, fun n => ?_, fun v hv => ?_⟩)
      · go_simp
        exact lUpon_one
      subst hv
      go_simp
      refine hK _ ?_
      clear hK K
      refine lexL_step (fun K hK => ⟨by kernel_rfl, ⟨_, rfl⟩, fun n => ?_, fun v hv => ?_⟩)
      · go_simp
        exact lUpon_one
      subst hv
      go_simp
      refine hK _ ?_
      clear hK K
      refine lexL_step (fun K hK => ⟨by kernel_rfl, ⟨_, rfl⟩, fun n => ?_, fun v hv => ?_⟩)
      · have q9 : (wr.drewN n).cell? ⟨b2, o2 + i, none⟩ = some (.string C) := y1
        go_simp
        exact lUpon_one
      subst hv
      go_simp
      refine hK _ ?_
      clear hK K
      refine lexL_step (fun K hK => ⟨by kernel_rfl, ⟨_, rfl⟩, fun n => ?_, fun v hv => ?_⟩)
      · go_simp
        exact lUpon_one
      subst hv
      go_simp
      refine hK _ ?_
      clear hK K
      refine lexL_end ?_
      intro n9
      have HK2 := hideR (below_go (unhideR HK) (drawn_below wr n9))
      clear x1 y1 HK
      generalize wr.drewN n9 = v at *
      go_wp2
      exact ⟨⟨i + 1, by omega, by go_num, HK2⟩, by simp [intOf]; omega⟩
    · obtain rfl : i = L.length := by omega
      have ti : decide ((L.length : Int) < (L.length : Nat)) = false := decide_eq_false (by omega)
      go_wp2
      go_ret
      exact ⟨rfl, unhideR HK⟩
def fewE (e : En) : Bool := !(hugeB e.d.x || (hugeB e.d.y || (hugeB e.d.z || decide (100 < e.nm.size))))
def fewB (L : List En) : Bool := decide (∀ k, k < L.length → fewE (L.getD k en0) = true) && decide (L.length ≤ 200)
set_option maxRecDepth 100000 in
set_option maxHeartbeats 3200000 in
theorem fewEntries_any {w : World} {ad : Option Addr} {cap : Nat} {L : List En} (hL : EnCame w ad L) (hl : L.length ≤ 140737488355328) (hs : ∀ k, k < L.length → (L.getD k en0).nm.size ≤ 140737488355328) :
    Calls Tryz.prog 7 #[.slice ad L.length cap] w fun e w' => e = .returned (.bool (fewB L)) ∧ w' = w := by
  have hh := fun n u => huge_any n u
  have HL := hideR hL
  have HS := hideR hs
  obtain ⟨R, hR⟩ : ∃ R, fewB L = R := ⟨_, rfl⟩
  have HR := hideR hR
  rw [hR]
  obtain ⟨n, hn⟩ : ∃ n, L.length = n := ⟨_, rfl⟩
  have Hn := hideR hn
  rw [hn] at hl ⊢
  clear hL hR hs hn
  go_enter Tryz.func7, Tryz.ntmps7
  go_wp2
  go_loopw [3] (fun iv wl => ∃ i : Nat, i ≤ n ∧ iv = .int .i64 (i : Nat) ∧ HeldR (∀ k, k < i → fewE (L.getD k en0) = true) ∧ wl = w) (fun iv _ => n + 1 - (intOf iv).toNat)
  case atStart => exact ⟨0, by omega, rfl, hideR (fun k hk => absurd hk (Nat.not_lt_zero k)), rfl⟩
  case round =>
    obtain ⟨i, hi, rfl, HF, rfl⟩ := hrel
    by_cases hil : i < n
    · have ti : decide ((i : Int) < (n : Nat)) = true := decide_eq_true (by omega)
      have tin : decide (i < n) = true := decide_eq_true hil
      have wi : IntKind.i64.wrap ((i : Int) + 1) = (i : Int) + 1 := iwrap (by omega) (by omega)
      have hii : (i : Int) < (n : Int) := by omega
      obtain ⟨b, off, had, hb, hE⟩ := (unhideR HL).at_ i (by rw [unhideR Hn]; exact hil)
      subst had
      have hsi := unhideR HS i (by rw [unhideR Hn]; exact hil)
      have HNo : HeldR (fewE (L.getD i en0) = false → R = false) := hideR (fun q => by
        rw [← unhideR HR]
        unfold fewB
        rw [decide_eq_false (fun h => by have := h i (by rw [unhideR Hn]; exact hil); rw [q] at this; cases this), Bool.false_and])
      have HYes : HeldR (fewE (L.getD i en0) = true → ∀ k, k < i + 1 → fewE (L.getD k en0) = true) := hideR (fun q k hk => by
        by_cases e : k = i
        · rw [e]; exact q
        · exact unhideR HF k (by omega))
      have HFe : HeldR (fewE (L.getD i en0) = !(hugeB (L.getD i en0).d.x || (hugeB (L.getD i en0).d.y || (hugeB (L.getD i en0).d.z || decide (100 < (L.getD i en0).nm.size))))) := hideR rfl
      obtain ⟨c0, c1, c2, c3, _⟩ := hE
      have hx := hh (L.getD i en0).d.x
      have hy := hh (L.getD i en0).d.y
      have hz := hh (L.getD i en0).d.z
      generalize fewE (L.getD i en0) = FE at *
      generalize hugeB (L.getD i en0).d.x = X at *
      generalize hugeB (L.getD i en0).d.y = Y at *
      generalize hugeB (L.getD i en0).d.z = Z at *
      generalize (L.getD i en0).d.x = dx at *
      generalize (L.getD i en0).d.y = dy at *
      generalize (L.getD i en0).d.z = dz at *
      generalize (L.getD i en0).nm = nm at *
      clear hh HF
      go_wp2_with fail
      refine (hx _).mono ?_
      rintro e v ⟨rfl, rfl⟩
      go_wp2_with fail
      refine (hy _).mono ?_
      rintro e v ⟨rfl, rfl⟩
      go_wp2_with fail
      refine (hz _).mono ?_
      rintro e v ⟨rfl, rfl⟩
      clear hx hy hz c1 c2 c3
      cases X with
      | true =>
        have e : R = false := unhideR HNo (unhideR HFe)
        subst e
        go_wp2
        go_ret
        exact ⟨rfl, rfl⟩
      | false =>
        cases Y with
        | true =>
          have e : R = false := unhideR HNo (unhideR HFe)
          subst e
          go_wp2
          go_ret
          exact ⟨rfl, rfl⟩
        | false =>
          cases Z with
          | true =>
            have e : R = false := unhideR HNo (unhideR HFe)
            subst e
            go_wp2
            go_ret
            exact ⟨rfl, rfl⟩
          | false =>
            by_cases q : 100 < nm.size
            · have e : R = false := unhideR HNo (by rw [unhideR HFe]; simp [q])
              subst e
              have tq : decide ((100 : Int) < (nm.size : Int)) = true := decide_eq_true (by omega)
              go_wp2
              go_ret
              exact ⟨rfl, rfl⟩
            · have e := unhideR HYes (by rw [unhideR HFe]; simp [q])
              have He := hideR e
              have tq : decide ((100 : Int) < (nm.size : Int)) = false := decide_eq_false (by omega)
              clear e HYes HNo HFe HL HS
              go_wp2
              exact ⟨⟨i + 1, by omega, by go_num, He, by first | exact trivial | rfl⟩, by simp [intOf]; omega⟩
    · obtain rfl : i = n := by omega
      have ti : decide ((i : Int) < (i : Nat)) = false := decide_eq_false (by omega)
      have e : R = decide (i ≤ 200) := by
        rw [← unhideR HR]
        unfold fewB
        rw [unhideR Hn, decide_eq_true (unhideR HF), Bool.true_and]
      subst e
      clear HF HL HS HR
      go_wp2
      go_ret
      refine ⟨congrArg (fun b => Ending.returned (.bool b)) ?_, rfl⟩
      rw [decide_eq_decide]
      omega
theorem few_is {L : List En} (h : fewB L = true) : (∀ k, k < L.length → hugeB (L.getD k en0).d.x = false ∧ hugeB (L.getD k en0).d.y = false ∧ hugeB (L.getD k en0).d.z = false ∧ (L.getD k en0).nm.size ≤ 100) ∧ L.length ≤ 200 := by
  unfold fewB at h
  rw [Bool.and_eq_true] at h
  refine ⟨fun k hk => ?_, of_decide_eq_true h.2⟩
  have := of_decide_eq_true h.1 k hk
  unfold fewE at this
  simp at this
  exact ⟨this.1, this.2.1, this.2.2.1, this.2.2.2⟩
end Go.Proofs.YtfonpobdnhifgamGreatDoor
