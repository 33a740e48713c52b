/-
  Instruments: rows that are cloned; the program's copied, Still, Hours, Fixed, Roof, by contract.
-/
import Derived.Test.YtoacdaemhcbbhaaDoorNgK1
import Derived.Test.YtoacdaemhcbbhaaDoorEvIc
import Derived.Lib.SliceRun
namespace Go.Proofs.YtoacdaemhcbbhaaDoor
open Go Go.RowKit

theorem add_block (a : Addr) (j : Nat) : (a.add j).block = a.block := by
  first
  | (unfold Addr.add; split <;> rfl)
  | simp [Addr.add]
def CiPost (L : List Int) (w : World) (e : Ending) (w' : World) : Prop := (∃ ad cap, e = .returned (.slice ad L.length cap) ∧ w'.ownsRow w.heap.size 3 1 (.slice ad L.length cap) L.length (L.map (Value.int .i64))) ∧ Below w.heap.size w w'
set_option maxRecDepth 100000 in
set_option maxHeartbeats 3200000 in
theorem pcloneI_any {w : World} {ad : Option Addr} {cap : Nat} {L : List Int} (h : ICame w ad L) (hnil : ad = none → cap = 0) (hL : L.length ≤ 4000) :
    Calls Tryd.prog 76 #[.slice ad L.length cap] w (CiPost L w) := by
  obtain ⟨i0, hi0, hz0, hz1, hz2⟩ := info_parts infoI
  have hni := fun (u : World) (a : Option Addr) (n c : Nat) => Lib.run_eql_slice_nil (P := Tryd.prog) u 52 3 a n c 0 0 Tryd.underlying52
  have HP : HeldR (∀ v' w', w'.ownsRow w.heap.size 3 1 v' L.length (L.map (Value.int .i64)) → Below w.heap.size w w' → CiPost L w (.returned v') w') := hideR (fun v' w' h1 h2 => by
    obtain ⟨ad, cap, rfl⟩ := ownsRow_slice h1
    exact ⟨⟨ad, cap, rfl, h1⟩, h2⟩)
  generalize CiPost L w = POST at *
  cases ad with
  | none =>
    have e3 : L = [] := by
      cases L with
      | nil => rfl
      | cons x L => obtain ⟨_, _, e, _⟩ := h.at_ 0 (by simp); cases e
    subst e3
    have e4 := hnil rfl
    subst e4
    have HQ := hideR (unhideR HP (.slice none 0 0) w (World.ownsRow_nil _ _ _ _) (Below.refl _ _))
    clear h HP hnil
    go_enter Tryd.func76, Tryd.ntmps76
    go_wp2
    exact unhideR HQ
  | some a0 =>
    have HC := hideR (int_cells h)
    have hgl : L.length ≠ 0 → a0.block < w.heap.size := fun hn => by
      obtain ⟨b, off, e, hb, _⟩ := h.at_ 0 (by omega)
      cases e
      exact hb
    have HB := hideR (below_a w (.cells #[] 3))
    have z0 := alloc_last w (.cells #[] 3)
    have hE : (w.alloc (.cells #[] 3)).ownsRow w.heap.size 3 1 (.slice (some ⟨w.heap.size, 0, none⟩) 0 0) 0 [] := ⟨rfl, .inr ⟨_, 0, #[], rfl, Nat.le_refl _, z0, Nat.le_refl _, Nat.zero_le _, rfl, rfl⟩⟩
    obtain ⟨n, hn⟩ : ∃ n, L.length = n := ⟨_, rfl⟩
    have HCl : HeldR ((L.map (Value.int .i64)).length = n * 1) := hideR (by rw [List.length_map, hn, Nat.mul_one])
    have HO : HeldR (∀ u ∈ L.map (Value.int .i64), u.oneCell' = true) := hideR (fun u hu => by
      obtain ⟨x, _, rfl⟩ := List.mem_map.1 hu
      rfl)
    rw [hn] at hL HP hgl ⊢
    clear h hnil
    generalize L.map (Value.int .i64) = XS at *
    go_enter Tryd.func76, Tryd.ntmps76
    go_wp2_with (first
        | (at_builtin; refine wpList_append_own _ rfl _ _ 52 rfl w.heap.size 3 i0 (.int .i64 0) 1 8 Tryd.underlying52 hi0 hz0 hz1 hz2 rfl (by decide) _ 0 [] rfl hE a0 n cap XS rfl (unhideR HCl) ?c1 (unhideR HO) ?c3 ?c4 ?c5 ?_))
    case c1 =>
      intro j u hu
      have h1 := unhideR HC j u hu
      have hne : n ≠ 0 := fun e => by
        have := (List.getElem?_eq_some_iff.1 hu).1
        rw [unhideR HCl] at this
        omega
      exact ((unhideR HB).cell (p := a0.add j) (by rw [add_block]; exact hgl hne)).trans h1
    case c3 => unfold maxLen; omega
    case c4 => omega
    case c5 => simp
    intro v' w1 hown hgrow _
    have HQ := hideR (unhideR HP v' w1 (by simpa using hown) ((unhideR HB).grown hgrow (by simp) (fun k e => by
      injection e with e
      have e : w.heap.size = k := e
      omega)))
    clear hown hgrow HP HB HC HCl hE
    go_wp2
    exact unhideR HQ
def CsPost (L : List Spn) (w : World) (e : Ending) (w' : World) : Prop := (∃ ad cap, e = .returned (.slice ad L.length cap) ∧ w'.ownsRow w.heap.size 69 2 (.slice ad L.length cap) L.length (flatSp L)) ∧ Below w.heap.size w w'
set_option maxRecDepth 100000 in
set_option maxHeartbeats 3200000 in
theorem pcloneS_any {w : World} {ad : Option Addr} {cap : Nat} {L : List Spn} (h : SpCame w ad L) (hnil : ad = none → cap = 0) (hL : L.length ≤ 4000) :
    Calls Tryd.prog 59 #[.slice ad L.length cap] w (CsPost L w) := by
  obtain ⟨i0, hi0, hz0, hz1, hz2⟩ := info_parts infoSpP
  have hni := fun (u : World) (a : Option Addr) (n c : Nat) => Lib.run_eql_slice_nil (P := Tryd.prog) u 70 69 a n c 0 0 Tryd.underlying70
  have HP : HeldR (∀ v' w', w'.ownsRow w.heap.size 69 2 v' L.length (flatSp L) → Below w.heap.size w w' → CsPost L w (.returned v') w') := hideR (fun v' w' h1 h2 => by
    obtain ⟨ad, cap, rfl⟩ := ownsRow_slice h1
    exact ⟨⟨ad, cap, rfl, h1⟩, h2⟩)
  generalize CsPost L w = POST at *
  cases ad with
  | none =>
    have e3 : L = [] := by
      cases L with
      | nil => rfl
      | cons x L => obtain ⟨_, _, e, _⟩ := h.at_ 0 (by simp); cases e
    subst e3
    have e4 := hnil rfl
    subst e4
    have HQ := hideR (unhideR HP (.slice none 0 0) w (World.ownsRow_nil _ _ _ _) (Below.refl _ _))
    clear h HP hnil
    go_enter Tryd.func59, Tryd.ntmps59
    go_wp2
    exact unhideR HQ
  | some a0 =>
    have HC := hideR (Spcame_cells h)
    have hgl : L.length ≠ 0 → a0.block < w.heap.size := fun hn => by
      obtain ⟨b, off, e, hb, _⟩ := h.at_ 0 (by omega)
      cases e
      exact hb
    have HB := hideR (below_a w (.cells #[] 69))
    have z0 := alloc_last w (.cells #[] 69)
    have hE : (w.alloc (.cells #[] 69)).ownsRow w.heap.size 69 2 (.slice (some ⟨w.heap.size, 0, none⟩) 0 0) 0 [] := ⟨rfl, .inr ⟨_, 0, #[], rfl, Nat.le_refl _, z0, Nat.le_refl _, Nat.zero_le _, rfl, rfl⟩⟩
    obtain ⟨n, hn⟩ : ∃ n, L.length = n := ⟨_, rfl⟩
    have HCl : HeldR ((flatSp L).length = n * 2) := hideR (by rw [flatSp_length, hn])
    have HO : HeldR (∀ u ∈ flatSp L, u.oneCell' = true) := hideR (flatSp_one L)
    rw [hn] at hL HP hgl ⊢
    clear h hnil
    generalize flatSp L = XS at *
    go_enter Tryd.func59, Tryd.ntmps59
    go_wp2_with (first
        | (at_builtin; refine wpList_append_own _ rfl _ _ 70 rfl w.heap.size 69 i0 (.agg #[.int .i64 0, .int .i64 0]) 2 16 Tryd.underlying70 hi0 hz0 hz1 hz2 rfl (by decide) _ 0 [] rfl hE a0 n cap XS rfl (unhideR HCl) ?c1 (unhideR HO) ?c3 ?c4 ?c5 ?_))
    case c1 =>
      intro j u hu
      have h1 := unhideR HC j u hu
      have hne : n ≠ 0 := fun e => by
        have := (List.getElem?_eq_some_iff.1 hu).1
        rw [unhideR HCl] at this
        omega
      exact ((unhideR HB).cell (p := a0.add j) (by rw [add_block]; exact hgl hne)).trans h1
    case c3 => unfold maxLen; omega
    case c4 => omega
    case c5 => simp
    intro v' w1 hown hgrow _
    have HQ := hideR (unhideR HP v' w1 (by simpa using hown) ((unhideR HB).grown hgrow (by simp) (fun k e => by
      injection e with e
      have e : w.heap.size = k := e
      omega)))
    clear hown hgrow HP HB HC HCl hE
    go_wp2
    exact unhideR HQ
end Go.Proofs.YtoacdaemhcbbhaaDoor
