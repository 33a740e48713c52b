/-
  The program's Valid, and how it looks through counts.
-/
import Derived.Test.YtngdemhhcablmalDoorFrA
import Derived.Test.YtngdemhhcablmalDoorKitA
import Derived.Deep.CutRange
namespace Go.Proofs.YtngdemhhcablmalDoor
open Go Go.RowKit

theorem isNo_any (x : Int) (w : World) : Calls Tryd.prog 12 #[.int .i64 x] w fun e w' => e = .returned (.bool (!countB x)) ∧ w' = w := by
  by_cases h0 : x < 0
  · have hc : countB x = false := by unfold countB; simp; omega
    rw [hc]
    go_enter Tryd.func12, Tryd.ntmps12
    go_wp2
    go_ret
    exact ⟨rfl, rfl⟩
  · by_cases h1 : 65535 < x
    · have hc : countB x = false := by unfold countB; simp; omega
      rw [hc]
      go_enter Tryd.func12, Tryd.ntmps12
      go_wp2
      go_ret
      exact ⟨rfl, rfl⟩
    · have hc : countB x = true := by unfold countB; simp; omega
      rw [hc]
      go_enter Tryd.func12, Tryd.ntmps12
      go_wp2
      go_ret
      exact ⟨rfl, rfl⟩
def IdxPost (L : List Int) (w : World) (e : Ending) (w' : World) : Prop := ∃ i : Int, e = .returned (.int .i64 i) ∧ w' = w ∧ (L.all countB = true → i = -1) ∧ (L.all countB = false → 0 ≤ i)
set_option maxRecDepth 100000 in
set_option maxHeartbeats 1600000 in
theorem indexNo_any {w : World} {ad : Option Addr} {cap : Nat} {L : List Int} (hr : ICame w ad L) (hl : L.length ≤ 9223372036854775806) :
    Calls Tryd.prog 16 #[.slice ad L.length cap, .func (.func 12) #[] #[]] w (IdxPost L w) := by
  have HR := hideR hr
  clear hr
  go_enter Tryd.func16, Tryd.ntmps16
  go_wp2
  go_loop [8] (fun kv => ∃ k : Nat, k ≤ L.length ∧ kv = .int .i64 (k : Nat) ∧ HeldR (∀ j, j < k → countB (L.getD j 0) = true)) (fun kv => L.length + 1 - (intOf kv).toNat)
  case atStart => exact ⟨0, by omega, rfl, fun j hj => absurd hj (Nat.not_lt_zero j)⟩
  case round =>
    obtain ⟨k, hk, rfl, HK⟩ := hrel
    by_cases hlt : k < L.length
    · obtain ⟨b1, o1, rfl, _, x1⟩ := (unhideR HR).at_ k hlt
      generalize hx : L.getD k 0 = x at x1
      have HX := hideR hx
      clear hx
      have hn := isNo_any x w
      generalize hcx : countB x = c at hn
      have HC := hideR hcx
      clear hcx
      go_wp2_with fail
      refine hn.mono ?_
      rintro e u ⟨rfl, rfl⟩
      clear hn
      cases c
      · go_wp2
        go_ret
        refine ⟨_, rfl, rfl, fun q => ?_, fun _ => by omega⟩
        have := all_at q hlt
        rw [unhideR HX, unhideR HC] at this
        cases this
      · go_wp2
        refine ⟨⟨k + 1, by omega, by go_num, ?_⟩, by simp [intOf]; omega⟩
        intro j hj
        by_cases e : j = k
        · rw [e, unhideR HX]; exact unhideR HC
        · exact (unhideR HK) j (by omega)
    · obtain rfl : k = L.length := by omega
      go_wp2
      go_ret
      refine ⟨_, rfl, rfl, fun _ => rfl, fun q => ?_⟩
      rw [all_of (unhideR HK)] at q
      cases q
set_option maxRecDepth 100000 in
theorem containsNo_any {w : World} {ad : Option Addr} {cap : Nat} {L : List Int} (hr : ICame w ad L) (hl : L.length ≤ 9223372036854775806) :
    Calls Tryd.prog 11 #[.slice ad L.length cap, .func (.func 12) #[] #[]] w fun e w' => e = .returned (.bool (!L.all countB)) ∧ w' = w := by
  have h := indexNo_any (cap := cap) hr hl
  generalize hq : L.all countB = q
  go_enter Tryd.func11, Tryd.ntmps11
  go_wp2_with fail
  refine h.mono ?_
  rintro e u ⟨i, rfl, rfl, h1, h2⟩
  cases q
  · have := h2 hq
    clear h h1 h2 hq hr
    go_wp2
    go_ret
    exact ⟨rfl, rfl⟩
  · have := h1 hq
    subst this
    clear h h1 h2 hq hr
    go_wp2
    go_ret
    exact ⟨rfl, rfl⟩
def ValidPost (a : Nat → Addr) (p : Pic) (w : World) (e : Ending) (w' : World) : Prop := ∃ er, e = .returned er ∧ ErrIs a (picE p) er ∧ Below w.heap.size w w'
set_option maxRecDepth 100000 in
set_option maxHeartbeats 1600000 in
theorem valid_any {a : Nat → Addr} {w : World} {v : Value} {p : Pic} (hS : Er2 w a) (hv : PicV w v p) : Calls Tryd.prog 8 #[v] w (ValidPost a p w) := by
  obtain ⟨ad, cap, rfl, hc, hl⟩ := hv
  obtain ⟨W, H, L⟩ := p
  simp only at hc hl ⊢
  have hb := below_a w (.cells #[.int .i64 W, .int .i64 H, .slice ad L.length cap] 25)
  have hg := pic_three (alloc_last w (.cells #[.int .i64 W, .int .i64 H, .slice ad L.length cap] 25))
  obtain ⟨c0, c1, c2⟩ := hg
  have hS2 := hS.below hb (Nat.le_refl _)
  have s1 := hS2.g1
  have s4 := hS2.g4
  have hn := containsNo_any (cap := cap) (hc.below hb) (by omega)
  have HB := hideR hb
  clear hb hc hS hS2
  by_cases h1 : 256 < W
  · have HE : HeldR (picE ⟨W, H, L⟩ = 2) := hideR (by unfold picE; rw [if_pos (.inl h1)])
    go_enter Tryd.func8, Tryd.ntmps8
    go_wp2
    go_ret
    exact ⟨_, rfl, by rw [unhideR HE]; exact err_at 1 (by decide), unhideR HB⟩
  · by_cases h2 : 256 < H
    · have HE : HeldR (picE ⟨W, H, L⟩ = 2) := hideR (by unfold picE; rw [if_pos (.inr h2)])
      go_enter Tryd.func8, Tryd.ntmps8
      go_wp2
      go_ret
      exact ⟨_, rfl, by rw [unhideR HE]; exact err_at 1 (by decide), unhideR HB⟩
    · by_cases h3 : W < 1
      · have HE : HeldR (picE ⟨W, H, L⟩ = 5) := hideR (by unfold picE; rw [if_neg (by show ¬ (256 < W ∨ 256 < H); omega), if_pos (.inl h3)])
        go_enter Tryd.func8, Tryd.ntmps8
        go_wp2
        go_ret
        exact ⟨_, rfl, by rw [unhideR HE]; exact err_at 4 (by decide), unhideR HB⟩
      · by_cases h4 : H < 1
        · have HE : HeldR (picE ⟨W, H, L⟩ = 5) := hideR (by unfold picE; rw [if_neg (by show ¬ (256 < W ∨ 256 < H); omega), if_pos (.inr (.inl h4))])
          go_enter Tryd.func8, Tryd.ntmps8
          go_wp2
          go_ret
          exact ⟨_, rfl, by rw [unhideR HE]; exact err_at 4 (by decide), unhideR HB⟩
        · have m1 : 0 ≤ W * H := Int.mul_nonneg (by omega) (by omega)
          have m2 : W * H ≤ 65536 := Int.mul_le_mul (a := W) (b := H) (c := 256) (d := 256) (by omega) (by omega) (by omega) (by omega)
          generalize hM : W * H = M at m1 m2
          have iw : IntKind.i64.wrap (W * H) = M := by rw [hM]; unfold IntKind.wrap; simp [IntKind.signed, IntKind.bits]; omega
          have HM := hideR hM
          clear hM
          by_cases h5 : (L.length : Int) = M
          · have t5 : ((L.length : Int) != M) = false := by simp [h5]
            generalize hq : L.all countB = q at hn
            have HE : HeldR (picE ⟨W, H, L⟩ = if q = false then 5 else 0) := by
              refine hideR ?_
              unfold picE
              rw [if_neg (by show ¬ (256 < W ∨ 256 < H); omega), if_neg (by show ¬ (W < 1 ∨ H < 1 ∨ (L.length : Int) ≠ W * H); rw [unhideR HM]; omega)]
              show (if L.all countB = false then (5 : Int) else 0) = _
              rw [hq]
            clear h5 hq
            go_enter Tryd.func8, Tryd.ntmps8
            go_wp2_with fail
            refine hn.mono ?_
            rintro e u ⟨rfl, rfl⟩
            clear hn
            cases q
            · go_wp2
              go_ret
              exact ⟨_, rfl, by rw [unhideR HE]; exact err_at 4 (by decide), unhideR HB⟩
            · go_wp2
              go_ret
              exact ⟨_, rfl, by rw [unhideR HE]; exact .inl ⟨rfl, rfl⟩, unhideR HB⟩
          · have t5 : ((L.length : Int) != M) = true := by simp [h5]
            have HE : HeldR (picE ⟨W, H, L⟩ = 5) := by
              refine hideR ?_
              unfold picE
              rw [if_neg (by show ¬ (256 < W ∨ 256 < H); omega), if_pos (.inr (.inr (by show (L.length : Int) ≠ W * H; rw [unhideR HM]; exact h5)))]
            clear h5 hn
            go_enter Tryd.func8, Tryd.ntmps8
            go_wp2
            go_ret
            exact ⟨_, rfl, by rw [unhideR HE]; exact err_at 4 (by decide), unhideR HB⟩
end Go.Proofs.YtngdemhhcablmalDoor
