/-
  The law of waves of a row: its walk, given what the program's Waves must answer.
-/
import Derived.Test.YtngdemhhcablmakDoorShNA
import Derived.Test.YtngdemhhcablmakDoorShSp
import Derived.Test.YtngdemhhcablmakDoorCodK5
import Derived.Test.YtngdemhhcablmakDoorEr2S
namespace Go.Proofs.YtngdemhhcablmakDoor
open Go Go.RowKit

def lenE (n : Nat) : Int := if 256 < (n : Int) then 2 else if (n : Int) < 1 then 5 else 0
def WaPost (a : Nat → Addr) (L : List (Nat × Nat)) (back : Bool) (w : World) (e : Ending) (w' : World) : Prop := ∃ (X : List (Nat × Nat)) (ad : Option Addr) (cap : Nat) (er : Value), e = .returned (.tuple #[.slice ad X.length cap, er]) ∧ ErrIs a (lenE L.length) er ∧ (lenE L.length ≠ 0 → X = []) ∧ (lenE L.length = 0 → X.length = L.length ∧ ∀ k, k < L.length → WvEnd L k L.length back (X.getD k (0, 0))) ∧ CxCame w' ad X ∧ Below w.heap.size w w'
/-- WHAT THE PROGRAM'S Waves MUST ANSWER. -/
def WavesOK (a : Nat → Addr) : Prop := ∀ {w : World} {a1 : Option Addr} {c1 : Nat} {L : List (Nat × Nat)} (back : Bool), Er2 w a → CxCame w a1 L → L.length ≤ 9223372036854775807 → Calls Tryd.prog 9 #[.slice a1 L.length c1, .bool back] w (WaPost a L back w)
theorem sv0' : sinV 0 = 0 := by decide +kernel
theorem cv0' : cosV 0 = 4607182418800017408 := by decide +kernel
theorem fop_is' {op : BinOp} {x y r v : Nat} (h : FOp op x y r) (e : floatBits op .f64 x y = some v) : r = v := by
  unfold FOp at h
  rw [e] at h
  exact h
set_option maxRecDepth 100000 in
/-- the first look: 3 and 4. -/
theorem wv_seven {r : Nat × Nat} (h : WvEnd [(4613937818241073152, 0), (4616189618054758400, 0)] 0 2 false r) : r.1 = 4619567317775286272 := by
  obtain ⟨x, h1, h2, _⟩ := h
  rw [h2 rfl]
  cases h1 with
  | next g hp hy =>
    cases g with
    | next g hp' hy' =>
      cases g
      have e0 : gAt 0 0 2 = 0 := by decide
      have e1 : gAt (0 + 1) 0 2 = 0 := by decide
      rw [e0] at hp'
      rw [e1] at hp
      obtain ⟨ac, bd, ad, bc, a1, a2, a3, a4, a5, a6⟩ := hp
      obtain ⟨ac', bd', ad', bc', b1, b2, b3, b4, b5, b6⟩ := hp'
      simp only [waveV, cv0', sv0', List.getD_cons_zero, List.getD_cons_succ, Bool.false_eq_true, if_false] at a1 a2 b1 b2
      obtain rfl := fop_is' a1 (v := 4616189618054758400) (by decide +kernel)
      obtain rfl := fop_is' a2 (v := 9223372036854775808) (by decide +kernel)
      obtain rfl := fop_is' b1 (v := 4613937818241073152) (by decide +kernel)
      obtain rfl := fop_is' b2 (v := 9223372036854775808) (by decide +kernel)
      have c1 := fop_is' a5 (v := 4616189618054758400) (by decide +kernel)
      have c2 := fop_is' b5 (v := 4613937818241073152) (by decide +kernel)
      have c3 := hy'.1
      have c4 := hy.1
      rw [c2] at c3
      rw [c1] at c4
      have c5 := fop_is' c3 (v := 4613937818241073152) (by decide +kernel)
      rw [c5] at c4
      exact fop_is' c4 (by decide +kernel)
theorem lenE_two : lenE 2 = 0 := by decide
theorem two_cx {w : World} {g p q : Nat} (h : w.heap[g]? = some (.cells #[.complex .f64 p 0, .complex .f64 q 0] 41)) : CxCame w (some ⟨g, 0, none⟩) [(p, 0), (q, 0)] := ⟨fun k hk => by
  refine ⟨g, 0, rfl, ltB h, ?_⟩
  rw [Nat.zero_add]
  rcases (show k = 0 ∨ k = 1 by simp at hk; omega) with rfl | rfl
  · exact (cells_at h 0 (by simp)).1
  · exact (cells_at h 1 (by simp)).1⟩
def WdPost' (w : World) (e : Ending) (w' : World) : Prop := e = .returned (.bool true) ∧ Below w.heap.size w w'
set_option maxRecDepth 100000 in
theorem waved_any {a : Nat → Addr} (hW : WavesOK a) {w : World} (hS : Er2 w a) : Calls Tryd.prog 8 #[] w (WdPost' w) := by
  have hb := below_a w (.cells #[.complex .f64 4613937818241073152 0, .complex .f64 4616189618054758400 0] 41)
  have hg := alloc_last w (.cells #[.complex .f64 4613937818241073152 0, .complex .f64 4616189618054758400 0] 41)
  have hf : Calls Tryd.prog 9 #[.slice (some ⟨w.heap.size, 0, none⟩) 2 2, .bool false] (w.alloc (.cells #[.complex .f64 4613937818241073152 0, .complex .f64 4616189618054758400 0] 41)) fun e w' => ∃ b o cap i1, e = .returned (.tuple #[.slice (some ⟨b, o, none⟩) 2 cap, .nilIface]) ∧ w'.cell? ⟨b, o, none⟩ = some (.complex .f64 4619567317775286272 i1) ∧ HeldR (Below w.heap.size w w') := by
    refine (hW (c1 := 2) (L := [(4613937818241073152, 0), (4616189618054758400, 0)]) false (hS.below hb (Nat.le_refl _)) (two_cx hg) (by decide)).mono ?_
    rintro e w' ⟨X, ad, cap, er, rfl, her, _, h1, hc, k⟩
    obtain ⟨h2, h3⟩ := h1 lenE_two
    have h4 : X.length = 2 := h2
    obtain ⟨b, o, rfl, _, x0⟩ := hc.at_ 0 (by omega)
    have h5 := wv_seven (h3 0 (by decide))
    rw [h5] at x0
    have hE : lenE [(4613937818241073152, 0), (4616189618054758400, 0)].length = 0 := lenE_two
    rw [hE] at her
    rcases her with ⟨_, rfl⟩ | ⟨k9, _, q, _⟩
    · exact ⟨b, o, cap, _, by rw [h4], x0, hideR (below_go hb k)⟩
    · omega
  have ho : (FloatKind.f64.format.order 4619567317775286272 4619567317775286272 == some .eq) = true := by decide +kernel
  clear hb hg hS
  go_enter Tryd.func8, Tryd.ntmps8
  go_wp2_with fail
  refine hf.mono ?_
  rintro e w1 ⟨b, o, cap, i1, rfl, x0, HB⟩
  clear hf
  go_wp2
  go_ret
  exact ⟨rfl, unhideR HB⟩
def c2W (n : Nat) : Bool := decide ((40 < n ∧ n ≤ 256) ∨ 300 < n)
set_option maxRecDepth 100000 in
set_option maxHeartbeats 6400000 in
theorem waves_walk {a : Nat → Addr} (hW : WavesOK a) {w : World} {a1 : Option Addr} {c1 : Nat} {L : List (Nat × Nat)} (hS : Sents w a) (hL : PrCame w a1 L) (l1 : L.length ≤ 9223372036854775807) (back : Bool) :
    Calls Tryd.prog 3 #[.slice a1 L.length c1, .bool back] w (WdPost' w) := by
  have HS : HeldR (∀ u, Below w.heap.size w u → Sents u a) := hideR (fun u k => hS.below k (Nat.le_refl _))
  have HL : HeldR (∀ u, Below w.heap.size w u → PrCame u a1 L) := hideR (fun u k => hL.below k)
  have HWv : HeldR (∀ (u : World) (ad : Option Addr) (cap : Nat), Below w.heap.size w u → CxCame u ad L → Calls Tryd.prog 9 #[.slice ad L.length cap, .bool back] u (WaPost a L back u)) := hideR (fun _ _ _ k h => hW back (unhideR HS _ k).er2 h l1)
  have HNu : HeldR (L.length ≤ 300 → ∀ u, Below w.heap.size w u → Calls Tryd.prog 10 #[.slice a1 L.length c1] u (NuPost L u)) := hideR (fun q u k => numbers_any (unhideR HL u k) (by omega))
  have HWo : HeldR (0 < L.length → L.length ≤ 256 → ∀ u, Below w.heap.size w u → Calls Tryd.prog 14 #[.slice a1 L.length c1, .bool back] u (WoPost L back u)) := hideR (fun q1 q2 u k => wavesOf_any (unhideR HL u k) q1 q2 back)
  have h1 := waved_any hW hS.er2
  obtain ⟨n, hn⟩ : ∃ n, L.length = n := ⟨_, rfl⟩
  rw [hn] at l1 HWv HNu HWo ⊢
  have HN := hideR hn
  clear hS hL hn hW
  go_enter Tryd.func3, Tryd.ntmps3
  go_wp2_with fail
  refine h1.mono ?_
  rintro e w1 ⟨rfl, k1⟩
  have HB1 := hideR k1
  clear h1 k1
  go_upto_region 2 with fail
  go_cut [26] from 10 to 26 (fun s26 wx => s26 = .bool (c2W n) ∧ wx = w1)
  case' first =>
    go_wp2
    all_goals
      go_meet
      refine ⟨congrArg Value.bool ?_, rfl⟩
      unfold c2W
      rw [Bool.eq_iff_iff]
      simp only [decide_eq_true_eq, true_iff]
      first | omega | (constructor <;> intro q <;> first | omega | (simp at q ⊢; omega) | (exfalso; omega))
  obtain ⟨rfl, rfl⟩ := hcut
  cases C2 : c2W n with
  | true =>
    clear HWv HNu HWo
    go_wp2
    go_ret
    exact ⟨rfl, unhideR HB1⟩
  | false =>
  have hfew := of_decide_eq_false C2
  clear C2
  have h2 := unhideR HNu (by omega) wc (unhideR HB1)
  go_wp2_with fail
  refine h2.mono ?_
  rintro e w2 ⟨ad2, cap2, rfl, hc2, k2⟩
  rw [unhideR HN]
  have HB2 := hideR (below_go (unhideR HB1) k2)
  have h3 := unhideR HWv _ _ cap2 (unhideR HB2) hc2
  clear h2 k2 hc2
  go_wp2_with fail
  refine h3.mono ?_
  rintro e w3 ⟨X, ad3, cap3, er, rfl, her, hX0, hX1, hc3, k3⟩
  have HB3 := hideR (below_go (unhideR HB2) k3)
  have HX0 := hideR hX0
  have HX1 := hideR hX1
  have HE := hideR her
  have HC3 : HeldR (∀ u, Below w3.heap.size w3 u → CxCame u ad3 X) := hideR (fun u k => hc3.below k)
  rw [unhideR HN] at HX0 HX1 HE
  obtain ⟨nX, hnX⟩ : ∃ m, X.length = m := ⟨_, rfl⟩
  rw [hnX]
  have HnX := hideR hnX
  have h4 := lengthError_any (n : Int) w3
  clear h3 her hX0 hX1 hc3 k3 hnX
  rw [show (if 256 < (n : Int) then (2 : Int) else if (n : Int) < 1 then 5 else 0) = lenE n from rfl] at h4
  obtain ⟨E, hE⟩ : ∃ E, lenE n = E := ⟨_, rfl⟩
  rw [hE] at h4 HX0 HX1 HE
  have HEe := hideR hE
  clear hE
  go_wp2_with fail
  refine h4.mono ?_
  rintro e w3' ⟨rfl, rfl⟩
  clear h4
  by_cases e0 : E = 0
  case neg =>
    have hpos : 0 < E := by
      have := unhideR HEe
      unfold lenE at this
      split at this
      · omega
      · split at this <;> omega
    have tE : decide (0 < E) = true := decide_eq_true hpos
    obtain rfl := unhideR HX0 e0
    obtain rfl : 0 = nX := unhideR HnX
    have h5 := coded_err (unhideR HS _ (unhideR HB3)) (unhideR HE)
    clear HX0 HX1 HE
    go_wp2_with fail
    refine h5.mono ?_
    rintro e w5 ⟨rfl, k5⟩
    have HB5 := hideR (below_go (unhideR HB3) k5)
    clear h5 k5
    go_wp2
    go_ret
    exact ⟨rfl, unhideR HB5⟩
  case pos =>
  subst e0
  obtain ⟨hlX, hXk⟩ := unhideR HX1 rfl
  obtain rfl : nX = n := by rw [← unhideR HnX]; exact hlX
  have hrange : 0 < nX ∧ nX ≤ 256 := by
    have := unhideR HEe
    unfold lenE at this
    split at this
    · omega
    · split at this <;> omega
  obtain rfl : er = .nilIface := by
    rcases unhideR HE with ⟨_, q⟩ | ⟨k9, _, q, _⟩
    · exact q
    · omega
  have HXk : HeldR (∀ k, k < nX → WvEnd L k nX back (X.getD k (0, 0))) := hideR (fun k hk => hXk k hk)
  have h6 := unhideR HWo hrange.1 hrange.2 w3' (unhideR HB3)
  clear hXk HX0 HX1 HE HEe
  go_wp2_with fail
  refine h6.mono ?_
  rintro e w6 ⟨M, ad6, cap6, rfl, hM, hMk, hc6, k6⟩
  have hMl : M.length = nX := hM.trans (unhideR HN)
  have HB6 := hideR (below_go (unhideR HB3) k6)
  have h7 := samePairs_any (c1 := cap3) (c2 := cap6) (unhideR HC3 w6 k6) hc6 (unhideR HnX) hMl (by omega) (fun k hk => (unhideR HXk k hk).same (fun _ => CSame.refl _) (by have := hMk k (by rw [unhideR HN]; exact hk); rw [unhideR HN] at this; exact this))
  rw [hMl]
  clear h6 hM hMk hc6 k6 hlX hMl
  go_wp2_with fail
  refine h7.mono ?_
  rintro e w7 ⟨rfl, k7⟩
  have HB7 := hideR (below_go (unhideR HB6) k7)
  clear h7 k7
  go_wp2
  go_ret
  exact ⟨rfl, unhideR HB7⟩
end Go.Proofs.YtngdemhhcablmakDoor
