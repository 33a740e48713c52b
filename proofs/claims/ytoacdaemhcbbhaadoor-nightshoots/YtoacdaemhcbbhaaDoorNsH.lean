/-
  One fitting more among those of a house: the library's Insert, whole; the program's placeOf, isMadeHere.
-/
import Derived.Test.YtoacdaemhcbbhaaDoorNsG
import Derived.Stop.Asserts
namespace Go.Proofs.YtoacdaemhcbbhaaDoor
open Go Go.RowKit

set_option maxRecDepth 100000 in
set_option maxHeartbeats 3200000 in
theorem pinsE_any {w : World} {B vb : Nat} {v : Value} {X : List Fg} {f : Fg} (h : w.ownsRow B 104 2 v X.length (flatFg X)) (hX : X.length ≤ 4000) (hBw : B ≤ w.heap.size) (hvb : w.heap[vb]? = some (.cells #[.string f.t.nm, .iface f.ty f.pv] 104)) :
    Calls Tryd.prog 40 #[v, .int .i64 (X.length : Nat), .slice (some ⟨vb, 0, none⟩) 1 1] w (InPost B v X X.length f w) := by
  obtain ⟨i0, hi0, hz0, hz1, hz2⟩ := info_parts infoFg
  have HP : HeldR (∀ v' w', w'.ownsRow B 104 2 v' (X.length + 1) (flatFg X ++ valFg f) → w.grownBy w' v.ownBlock → InPost B v X X.length f w (.returned v') w') := hideR (fun v' w' h1 h2 => by
    refine ⟨⟨v', rfl, ?_⟩, h2⟩
    have e : flatFg (insF X X.length f) = flatFg X ++ valFg f := by
      rw [insF_flat, List.take_length, List.drop_length]
      show flatFg X ++ (valFg f ++ []) = _
      rw [List.append_nil]
    rw [e]
    exact h1)
  generalize InPost B v X X.length f w = POST at *
  have hfc : ∀ j u, (valFg f)[j]? = some u → w.cell? ((⟨vb, 0, none⟩ : Addr).add j) = some u := fun j u hu => by
    rw [add_pl2, Nat.zero_add]
    simp only [World.cell?, hvb]
    rcases j with _ | _ | j
    · exact hu
    · exact hu
    · simp [valFg] at hu
  have hfo : ∀ u ∈ valFg f, u.oneCell' = true := flatFg_one [f]
  have hXl : (valFg f).length = 1 * 2 := rfl
  rcases h.2 with ⟨h1, h2⟩ | ⟨g, cap, cur, e, _⟩
  · subst h1
    have e3 : X = [] := List.length_eq_zero_iff.1 h2
    subst e3
    have h' : w.ownsRow B 104 2 (.slice none 0 0) 0 [] := h
    have HF := hideR hfc
    clear h hfc
    generalize valFg f = XS at *
    go_enter Tryd.func40, Tryd.ntmps40
    go_wp2_with (first
        | (at_builtin; refine wpList_append_own _ rfl _ _ 94 rfl B 104 i0 (.agg #[.string ByteArray.empty, .nilIface]) 2 32 Tryd.underlying94 hi0 hz0 hz1 hz2 rfl (by decide) _ 0 [] rfl h' ⟨vb, 0, none⟩ 1 1 XS rfl ?c0 (unhideR HF) hfo ?c3 ?c4 hBw ?_))
    case c0 => exact hXl
    case c3 => unfold maxLen; omega
    case c4 => omega
    intro v' w1 hown hgrow _
    have HQ := hideR (unhideR HP v' w1 hown hgrow)
    clear hown hgrow HP HF
    go_wp2
    exact unhideR HQ
  · subst e
    have HF := hideR hfc
    have HH := hideR h
    obtain ⟨n, hn⟩ : ∃ n, X.length = n := ⟨_, rfl⟩
    rw [hn] at hX HP HH ⊢
    clear h hfc
    generalize flatFg X = FX at *
    generalize valFg f = XS at *
    have hk1 : (n : Int) ≤ (n : Int) := Int.le_refl _
    have hkn : ((n : Int) == (n : Int)) = true := beq_self_eq_true _
    by_cases qc : cap = n
    · replace qc := qc.symm
      subst qc
      go_enter Tryd.func40, Tryd.ntmps40
      go_wp2_with (first
          | (at_builtin; refine wpList_append_own _ rfl _ _ 94 rfl B 104 i0 (.agg #[.string ByteArray.empty, .nilIface]) 2 32 Tryd.underlying94 hi0 hz0 hz1 hz2 rfl (by decide) _ n FX rfl (unhideR HH) ⟨vb, 0, none⟩ 1 1 XS rfl ?c0 (unhideR HF) hfo ?c3 ?c4 hBw ?_))
      case c0 => exact hXl
      case c3 => unfold maxLen; omega
      case c4 => omega
      intro v' w1 hown hgrow _
      have HQ := hideR (unhideR HP v' w1 hown hgrow)
      clear hown hgrow HP HF HH
      go_wp2
      exact unhideR HQ
    · have qc2 : ¬ (cap = n) := qc
      go_enter Tryd.func40, Tryd.ntmps40
      go_wp2_with (first
          | (at_builtin; refine wpList_append_own _ rfl _ _ 94 rfl B 104 i0 (.agg #[.string ByteArray.empty, .nilIface]) 2 32 Tryd.underlying94 hi0 hz0 hz1 hz2 rfl (by decide) _ n FX rfl (unhideR HH) ⟨vb, 0, none⟩ 1 1 XS rfl ?c0 (unhideR HF) hfo ?c3 ?c4 hBw ?_))
      case c0 => exact hXl
      case c3 => unfold maxLen; omega
      case c4 => omega
      intro v' w1 hown hgrow _
      have HQ := hideR (unhideR HP v' w1 hown hgrow)
      clear hown hgrow HP HF HH
      go_wp2
      exact unhideR HQ
theorem pins_any {w : World} {B vb k : Nat} {v : Value} {X : List Fg} {f : Fg} (h : w.ownsRow B 104 2 v X.length (flatFg X)) (hX : X.length ≤ 4000) (hBw : B ≤ w.heap.size) (hvb : w.heap[vb]? = some (.cells #[.string f.t.nm, .iface f.ty f.pv] 104)) (hne : v.ownBlock ≠ some vb) (hk : k ≤ X.length) :
    Calls Tryd.prog 40 #[v, .int .i64 (k : Nat), .slice (some ⟨vb, 0, none⟩) 1 1] w (InPost B v X k f w) := by
  by_cases e : k = X.length
  · subst e
    exact pinsE_any h hX hBw hvb
  · rcases h.2 with ⟨_, h2⟩ | ⟨g, cap, cur, rfl, hB, hg, hc, hm, hs, ht⟩
    · omega
    · by_cases q : X.length + 1 ≤ cap
      · exact pinsS_any rfl (by omega) q hm hB hg hs ht hvb (fun z => hne (by rw [z]; rfl)) hX
      · exact pinsG_any rfl (by omega) hc (by omega) hBw hg ht hvb hX
set_option maxRecDepth 100000 in
set_option maxHeartbeats 3200000 in
theorem pplace_any {w : World} {hb : Nat} {ad : Option Addr} {cap : Nat} {X : List Fg} (hh : w.heap[hb]? = some (.cells #[.slice ad X.length cap] 96)) (hl : FgCame w ad X) (hO : Ord X) (hX : X.length ≤ 4000) (x : ByteArray) :
    Calls Tryd.prog 38 #[.pointer (some ⟨hb, 0, none⟩), .string x] w (PlPost X x w) := by
  have c0 := (cells_at hh 0 (by simp)).1
  have hc := pbsF_any (cap := cap) hl hO hX x
  unfold PlPost at hc
  have HP : HeldR (∀ (k : Nat) w', IsPl X x k → Below w.heap.size w w' → PlPost X x w (.returned (.tuple #[.int .i64 (k : Nat), .bool (atP X x k)])) w') := hideR (fun k w' h1 h2 => ⟨⟨k, rfl, h1⟩, h2⟩)
  generalize PlPost X x w = POST at *
  generalize atP X x = AP at *
  generalize X.length = n at *
  clear hh hl hO
  go_enter Tryd.func38, Tryd.ntmps38
  go_wp2_with fail
  refine hc.mono ?_
  rintro e u ⟨⟨k, rfl, hp⟩, kk⟩
  have HQ := hideR (unhideR HP k u hp kk)
  clear hc HP hp kk c0
  go_wp2
  try simp [go_sem]
  exact unhideR HQ
theorem asStillStill (v : Value) (w : World) : (Instr.typeAssert (.iface 130 v) 47 130 true).run Tryd.prog w = .ok (.tuple #[v, .bool true]) w := by kernel_rfl
theorem asStillHours (v : Value) (w : World) : (Instr.typeAssert (.iface 130 v) 47 133 true).run Tryd.prog w = .ok (.tuple #[.agg #[.slice none 0 0], .bool false]) w := by kernel_rfl
theorem asStillFixed (v : Value) (w : World) : (Instr.typeAssert (.iface 130 v) 47 93 true).run Tryd.prog w = .ok (.tuple #[.agg #[.int .i64 0], .bool false]) w := by kernel_rfl
theorem asStillRoof (v : Value) (w : World) : (Instr.typeAssert (.iface 130 v) 47 135 true).run Tryd.prog w = .ok (.tuple #[.agg #[.slice none 0 0, .int .i64 0], .bool false]) w := by kernel_rfl
theorem asHoursStill (v : Value) (w : World) : (Instr.typeAssert (.iface 133 v) 47 130 true).run Tryd.prog w = .ok (.tuple #[.agg #[.int .i64 0, .int .i64 0, .slice none 0 0], .bool false]) w := by kernel_rfl
theorem asHoursHours (v : Value) (w : World) : (Instr.typeAssert (.iface 133 v) 47 133 true).run Tryd.prog w = .ok (.tuple #[v, .bool true]) w := by kernel_rfl
theorem asHoursFixed (v : Value) (w : World) : (Instr.typeAssert (.iface 133 v) 47 93 true).run Tryd.prog w = .ok (.tuple #[.agg #[.int .i64 0], .bool false]) w := by kernel_rfl
theorem asHoursRoof (v : Value) (w : World) : (Instr.typeAssert (.iface 133 v) 47 135 true).run Tryd.prog w = .ok (.tuple #[.agg #[.slice none 0 0, .int .i64 0], .bool false]) w := by kernel_rfl
theorem asFixedStill (v : Value) (w : World) : (Instr.typeAssert (.iface 93 v) 47 130 true).run Tryd.prog w = .ok (.tuple #[.agg #[.int .i64 0, .int .i64 0, .slice none 0 0], .bool false]) w := by kernel_rfl
theorem asFixedHours (v : Value) (w : World) : (Instr.typeAssert (.iface 93 v) 47 133 true).run Tryd.prog w = .ok (.tuple #[.agg #[.slice none 0 0], .bool false]) w := by kernel_rfl
theorem asFixedFixed (v : Value) (w : World) : (Instr.typeAssert (.iface 93 v) 47 93 true).run Tryd.prog w = .ok (.tuple #[v, .bool true]) w := by kernel_rfl
theorem asFixedRoof (v : Value) (w : World) : (Instr.typeAssert (.iface 93 v) 47 135 true).run Tryd.prog w = .ok (.tuple #[.agg #[.slice none 0 0, .int .i64 0], .bool false]) w := by kernel_rfl
theorem asRoofStill (v : Value) (w : World) : (Instr.typeAssert (.iface 135 v) 47 130 true).run Tryd.prog w = .ok (.tuple #[.agg #[.int .i64 0, .int .i64 0, .slice none 0 0], .bool false]) w := by kernel_rfl
theorem asRoofHours (v : Value) (w : World) : (Instr.typeAssert (.iface 135 v) 47 133 true).run Tryd.prog w = .ok (.tuple #[.agg #[.slice none 0 0], .bool false]) w := by kernel_rfl
theorem asRoofFixed (v : Value) (w : World) : (Instr.typeAssert (.iface 135 v) 47 93 true).run Tryd.prog w = .ok (.tuple #[.agg #[.int .i64 0], .bool false]) w := by kernel_rfl
theorem asRoofRoof (v : Value) (w : World) : (Instr.typeAssert (.iface 135 v) 47 135 true).run Tryd.prog w = .ok (.tuple #[v, .bool true]) w := by kernel_rfl
theorem asNilStill (w : World) : (Instr.typeAssert .nilIface 47 130 true).run Tryd.prog w = .ok (.tuple #[.agg #[.int .i64 0, .int .i64 0, .slice none 0 0], .bool false]) w := by kernel_rfl
theorem asNilHours (w : World) : (Instr.typeAssert .nilIface 47 133 true).run Tryd.prog w = .ok (.tuple #[.agg #[.slice none 0 0], .bool false]) w := by kernel_rfl
theorem asNilFixed (w : World) : (Instr.typeAssert .nilIface 47 93 true).run Tryd.prog w = .ok (.tuple #[.agg #[.int .i64 0], .bool false]) w := by kernel_rfl
theorem asNilRoof (w : World) : (Instr.typeAssert .nilIface 47 135 true).run Tryd.prog w = .ok (.tuple #[.agg #[.slice none 0 0, .int .i64 0], .bool false]) w := by kernel_rfl
theorem asStillDome (v : Value) (w : World) : (Instr.typeAssert (.iface 130 v) 47 143 true).run Tryd.prog w = .ok (.tuple #[.nilIface, .bool false]) w := run_typeAssert_lacksB Tryd.underlying143 (by kernel_rfl) (by kernel_rfl) v 47 w
theorem asHoursDome (v : Value) (w : World) : (Instr.typeAssert (.iface 133 v) 47 143 true).run Tryd.prog w = .ok (.tuple #[.iface 133 v, .bool true]) w := run_typeAssert_hasB Tryd.underlying143 (by kernel_rfl) v 47 w
theorem asFixedDome (v : Value) (w : World) : (Instr.typeAssert (.iface 93 v) 47 143 true).run Tryd.prog w = .ok (.tuple #[.nilIface, .bool false]) w := run_typeAssert_lacksB Tryd.underlying143 (by kernel_rfl) (by kernel_rfl) v 47 w
theorem asRoofDome (v : Value) (w : World) : (Instr.typeAssert (.iface 135 v) 47 143 true).run Tryd.prog w = .ok (.tuple #[.iface 135 v, .bool true]) w := run_typeAssert_hasB Tryd.underlying143 (by kernel_rfl) v 47 w
theorem asStillPtr (v : Value) (w : World) : (Instr.typeAssert (.iface 130 v) 47 146 true).run Tryd.prog w = .ok (.tuple #[.nilIface, .bool false]) w := run_typeAssert_lacksB Tryd.underlying146 (by kernel_rfl) (by kernel_rfl) v 47 w
theorem asHoursPtr (v : Value) (w : World) : (Instr.typeAssert (.iface 133 v) 47 146 true).run Tryd.prog w = .ok (.tuple #[.nilIface, .bool false]) w := run_typeAssert_lacksB Tryd.underlying146 (by kernel_rfl) (by kernel_rfl) v 47 w
theorem asFixedPtr (v : Value) (w : World) : (Instr.typeAssert (.iface 93 v) 47 146 true).run Tryd.prog w = .ok (.tuple #[.iface 93 v, .bool true]) w := run_typeAssert_hasB Tryd.underlying146 (by kernel_rfl) v 47 w
theorem asRoofPtr (v : Value) (w : World) : (Instr.typeAssert (.iface 135 v) 47 146 true).run Tryd.prog w = .ok (.tuple #[.iface 135 v, .bool true]) w := run_typeAssert_hasB Tryd.underlying146 (by kernel_rfl) v 47 w
theorem asStillCam (v : Value) (w : World) : (Instr.typeAssert (.iface 130 v) 47 149 true).run Tryd.prog w = .ok (.tuple #[.iface 130 v, .bool true]) w := run_typeAssert_hasB Tryd.underlying149 (by kernel_rfl) v 47 w
theorem asHoursCam (v : Value) (w : World) : (Instr.typeAssert (.iface 133 v) 47 149 true).run Tryd.prog w = .ok (.tuple #[.nilIface, .bool false]) w := run_typeAssert_lacksB Tryd.underlying149 (by kernel_rfl) (by kernel_rfl) v 47 w
theorem asFixedCam (v : Value) (w : World) : (Instr.typeAssert (.iface 93 v) 47 149 true).run Tryd.prog w = .ok (.tuple #[.nilIface, .bool false]) w := run_typeAssert_lacksB Tryd.underlying149 (by kernel_rfl) (by kernel_rfl) v 47 w
theorem asRoofCam (v : Value) (w : World) : (Instr.typeAssert (.iface 135 v) 47 149 true).run Tryd.prog w = .ok (.tuple #[.nilIface, .bool false]) w := run_typeAssert_lacksB Tryd.underlying149 (by kernel_rfl) (by kernel_rfl) v 47 w
set_option maxRecDepth 100000 in
set_option maxHeartbeats 3200000 in
theorem pmade_any {w : World} {B : Nat} {t : Tl} {v : Value} (h : InsR w B t v) (u : World) :
    Calls Tryd.prog 39 #[v] u fun e w' => e = .returned (.bool (decide (1 ≤ t.kd ∧ t.kd ≤ 4))) ∧ w' = u := by
  rcases h with ⟨h1, ad, cap, rfl, _⟩ | ⟨h1, ad, cap, rfl, _⟩ | ⟨h1, rfl⟩ | ⟨h1, ad, cap, rfl, _⟩ | ⟨h1, rfl⟩
  · rw [h1, decide_eq_true (by omega)]
    have a0 := asStillStill
    have a1 := asStillHours
    have a2 := asStillFixed
    have a3 := asStillRoof
    go_enter Tryd.func39, Tryd.ntmps39
    go_wp2
    go_ret
    exact ⟨rfl, rfl⟩
  · rw [h1, decide_eq_true (by omega)]
    have a0 := asHoursStill
    have a1 := asHoursHours
    have a2 := asHoursFixed
    have a3 := asHoursRoof
    go_enter Tryd.func39, Tryd.ntmps39
    go_wp2
    go_ret
    exact ⟨rfl, rfl⟩
  · rw [h1, decide_eq_true (by omega)]
    have a0 := asFixedStill
    have a1 := asFixedHours
    have a2 := asFixedFixed
    have a3 := asFixedRoof
    go_enter Tryd.func39, Tryd.ntmps39
    go_wp2
    go_ret
    exact ⟨rfl, rfl⟩
  · rw [h1, decide_eq_true (by omega)]
    have a0 := asRoofStill
    have a1 := asRoofHours
    have a2 := asRoofFixed
    have a3 := asRoofRoof
    go_enter Tryd.func39, Tryd.ntmps39
    go_wp2
    go_ret
    exact ⟨rfl, rfl⟩
  · rw [decide_eq_false (by omega)]
    have a0 := asNilStill
    have a1 := asNilHours
    have a2 := asNilFixed
    have a3 := asNilRoof
    go_enter Tryd.func39, Tryd.ntmps39
    go_wp2
    go_ret
    exact ⟨rfl, rfl⟩
end Go.Proofs.YtoacdaemhcbbhaaDoor
