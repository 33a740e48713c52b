/-
  What is in the way; the pictures of an instrument: the program's, by contract.
-/
import Derived.Test.YtoacdaemhcbbhaaDoorNsI
namespace Go.Proofs.YtoacdaemhcbbhaaDoor
open Go Go.RowKit

def opP (L : List Spn) (x : Int) (k : Nat) : Bool := decide ((L.getD k sp0).f ≤ x) && decide (x < (L.getD k sp0).t)
def opV (L : List Spn) (x : Int) : Bool := anyN (opP L x) L.length
set_option maxRecDepth 100000 in
set_option maxHeartbeats 1600000 in
theorem popen1_any {W : World} {ga : Nat} {x : Int} (ha : W.heap[ga]? = some (.cells #[.int .i64 x] 3)) (s : Spn) :
    Calls Tryd.prog 110 #[.agg #[.int .i64 s.f, .int .i64 s.t], .pointer (some ⟨ga, 0, none⟩)] W fun e w' => e = .returned (.bool (decide (s.f ≤ x) && decide (x < s.t))) ∧ Below W.heap.size W w' := by
  have z := alloc_last W (.cells #[.int .i64 s.f, .int .i64 s.t] 69)
  have HB := hideR (below_a W (.cells #[.int .i64 s.f, .int .i64 s.t] 69))
  have x0 := (cells_at z 0 (by simp)).1
  have x1 := (cells_at z 1 (by simp)).1
  have y0 := (cells_at (keepA (o' := .cells #[.int .i64 s.f, .int .i64 s.t] 69) ha) 0 (by simp)).1
  obtain ⟨q1, h1⟩ : ∃ q, decide (s.f ≤ x) = q := ⟨_, rfl⟩
  obtain ⟨q2, h2⟩ : ∃ q, decide (x < s.t) = q := ⟨_, rfl⟩
  rw [h1, h2]
  clear z ha
  go_enter Tryd.func110, Tryd.ntmps110
  cases q1
  · go_wp2
    go_ret
    exact ⟨rfl, unhideR HB⟩
  · cases q2
    · go_wp2
      go_ret
      exact ⟨rfl, unhideR HB⟩
    · go_wp2
      go_ret
      exact ⟨rfl, unhideR HB⟩
set_option maxRecDepth 100000 in
set_option maxHeartbeats 1600000 in
theorem popen_any {w : World} {ad : Option Addr} {c : Nat} {L : List Spn} (hs : SpCame w ad L) (hL : L.length ≤ 4000) (x : Int) :
    Calls Tryd.prog 109 #[.agg #[.slice ad L.length c], .int .i64 x] w fun e w' => e = .returned (.bool (opV L x)) ∧ Below w.heap.size w w' := by
  obtain ⟨z1, z2, hb⟩ := two_allocN w (.cells #[.slice ad L.length c] 133) (.cells #[.int .i64 x] 3)
  have hc := pconS_any (cap := c) (hs.below hb) hL (fn := 110) (caps := #[.pointer (some ⟨w.heap.size + 1, 0, none⟩)]) (P := opP L x) (enters_of Tryd.func110 (by kernel_rfl) rfl)
    (fun k _ u hu => popen1_any (keepB z2 hu) (L.getD k sp0))
  have HB := hideR hb
  have x0 := (cells_at z1 0 (by simp)).1
  unfold opV
  generalize anyN (opP L x) L.length = A at *
  generalize L.length = n at *
  clear z1 z2 hb hs
  go_enter Tryd.func109, Tryd.ntmps109
  go_wp2_with fail
  refine hc.mono ?_
  rintro e u ⟨rfl, k⟩
  have HK := hideR (below_go (unhideR HB) k)
  clear hc k
  go_wp2
  go_ret
  exact ⟨rfl, unhideR HK⟩
set_option maxRecDepth 100000 in
set_option maxHeartbeats 1600000 in
theorem pup_any (w : World) (al : Int) :
    Calls Tryd.prog 103 #[.agg #[.int .i64 al]] w fun e w' => e = .returned (.bool (decide (0 < al))) ∧ Below w.heap.size w w' := by
  have HB := hideR (below_a w (.cells #[.int .i64 al] 93))
  have x0 := (cells_at (alloc_last w (.cells #[.int .i64 al] 93)) 0 (by simp)).1
  obtain ⟨q, hq⟩ : ∃ q, decide (0 < al) = q := ⟨_, rfl⟩
  rw [hq]
  go_enter Tryd.func103, Tryd.ntmps103
  go_wp2
  go_ret
  exact ⟨rfl, unhideR HB⟩
/-- what is in the way. -/
def wayV (t : Tl) (x : Int) : Bool := (decide (t.kd = 2) && !opV t.op x) || ((decide (t.kd = 3) && !decide (0 < t.al)) || (decide (t.kd = 4) && (!opV t.op x || !decide (0 < t.al))))
set_option maxRecDepth 1000000 in
set_option maxHeartbeats 3200000 in
theorem pway_any {w : World} {B : Nat} {t : Tl} {v : Value} (h : InsR w B t v) (hL : t.op.length ≤ 4000) (hk : 1 ≤ t.kd ∧ t.kd ≤ 4) (x : Int) :
    Calls Tryd.prog 43 #[v, .int .i64 x] w fun e w' => e = .returned (.bool (wayV t x)) ∧ Below w.heap.size w w' := by
  have HB0 := hideR (Below.refl w.heap.size w)
  have hup := fun u => pup_any u t.al
  rcases h with ⟨h1, ad, cap, rfl, _⟩ | ⟨h1, ad, cap, rfl, ho⟩ | ⟨h1, rfl⟩ | ⟨h1, ad, cap, rfl, ho⟩ | ⟨h1, rfl⟩
  · have e : wayV t x = false := by unfold wayV; rw [h1]; rfl
    rw [e]
    clear e
    have a0 := asStillDome
    have a1 := asStillPtr
    generalize valP t.wd t.hi ad t.cs.length cap = V
    go_enter Tryd.func43, Tryd.ntmps43
    go_wp2
    go_ret
    exact ⟨rfl, unhideR HB0⟩
  · obtain ⟨ad', cap', e', hs⟩ := Spown ho
    cases e'
    have ho2 := popen_any (c := cap) hs hL x
    have e : wayV t x = !opV t.op x := by unfold wayV; rw [h1]; simp
    rw [e]
    generalize opV t.op x = ov at *
    generalize t.op.length = n at *
    clear ho hs e
    have a0 := asHoursDome
    have a1 := asHoursPtr
    have m0 := methHoO
    go_enter Tryd.func43, Tryd.ntmps43
    go_wp2_with fail
    refine ho2.mono ?_
    rintro e u ⟨rfl, k⟩
    have HK := hideR k
    clear ho2 k
    cases ov
    · go_wp2
      go_ret
      exact ⟨rfl, unhideR HK⟩
    · go_wp2
      go_ret
      exact ⟨rfl, unhideR HK⟩
  · have e : wayV t x = !decide (0 < t.al) := by unfold wayV; rw [h1]; simp
    rw [e]
    generalize decide (0 < t.al) = ub at *
    generalize t.al = al at *
    clear e
    have a0 := asFixedDome
    have a1 := asFixedPtr
    have m0 := methFiU
    go_enter Tryd.func43, Tryd.ntmps43
    go_wp2_with fail
    refine (hup _).mono ?_
    rintro e u ⟨rfl, k⟩
    have HK := hideR k
    clear hup k
    cases ub
    · go_wp2
      go_ret
      exact ⟨rfl, unhideR HK⟩
    · go_wp2
      go_ret
      exact ⟨rfl, unhideR HK⟩
  · obtain ⟨ad', cap', e', hs⟩ := Spown ho
    cases e'
    have ho2 := popen_any (c := cap) hs hL x
    have e : wayV t x = (!opV t.op x || !decide (0 < t.al)) := by unfold wayV; rw [h1]; simp
    rw [e]
    generalize opV t.op x = ov at *
    generalize t.op.length = n at *
    generalize decide (0 < t.al) = ub at *
    generalize t.al = al at *
    clear ho hs e
    have a0 := asRoofDome
    have a1 := asRoofPtr
    have m0 := methRoO
    have m1 := methRoU
    go_enter Tryd.func43, Tryd.ntmps43
    go_wp2_with fail
    refine ho2.mono ?_
    rintro e u ⟨rfl, k⟩
    have HK := hideR k
    clear ho2 k
    cases ov
    · go_wp2
      go_ret
      exact ⟨rfl, unhideR HK⟩
    · go_wp2_with fail
      refine (hup _).mono ?_
      rintro e u2 ⟨rfl, k⟩
      have HK2 := hideR (below_go (unhideR HK) k)
      clear hup k
      cases ub
      · go_wp2
        go_ret
        exact ⟨rfl, unhideR HK2⟩
      · go_wp2
        go_ret
        exact ⟨rfl, unhideR HK2⟩
  · omega
end Go.Proofs.YtoacdaemhcbbhaaDoor
