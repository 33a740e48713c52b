/-
  The law of shifts: its walk, given what the program's Cross, Best and Proved must answer.
-/
import Derived.Test.YtngdemhhcablmakDoorShCr
import Derived.Test.YtngdemhhcablmakDoorCodK5
import Derived.Test.YtngdemhhcablmakDoorDT2e
import Derived.Test.YtngdemhhcablmakDoorLooseA
import Derived.Deep.QuietTactic
namespace Go.Proofs.YtngdemhhcablmakDoor
open Go Go.RowKit

/-- the best shift of rows that are right. -/
def shB (A B : List Int) : Nat := bestI (crossL A B) A.length
def shS (A B : List Int) : Int := (crossL A B).getD (shB A B) 0
def prB (A B : List Int) (s : Int) : Bool := decide (0 ≤ s ∧ s < (A.length : Int) ∧ (crossL A B).getD s.toNat 0 = shS A B)
def CrPost (a : Nat → Addr) (A B : List Int) (w : World) (e : Ending) (w' : World) : Prop := ∃ (X : List Int) (ad : Option Addr) (cap : Nat) (er : Value), e = .returned (.tuple #[.slice ad X.length cap, er]) ∧ ErrIs a (rowsE A B) er ∧ (rowsE A B ≠ 0 → X = []) ∧ (rowsE A B = 0 → X = crossL A B) ∧ ICame w' ad X ∧ Below w.heap.size w w'
def ShPost (a : Nat → Addr) (A B : List Int) (w : World) (e : Ending) (w' : World) : Prop := ∃ er : Value, e = .returned (.tuple #[.int .i64 (if rowsE A B = 0 then (shB A B : Nat) else (0 : Int)), .int .i64 (if rowsE A B = 0 then shS A B else 0), er]) ∧ ErrIs a (rowsE A B) er ∧ Below w.heap.size w w'
def PvdPost (a : Nat → Addr) (A B : List Int) (s : Int) (w : World) (e : Ending) (w' : World) : Prop := ∃ er : Value, e = .returned (.tuple #[.bool (decide (rowsE A B = 0) && prB A B s), er]) ∧ ErrIs a (rowsE A B) er ∧ Below w.heap.size w w'
/-- WHAT THE PROGRAM'S Cross, Best, Proved MUST ANSWER. -/
def CrossOK (a : Nat → Addr) : Prop := ∀ {w : World} {a1 a2 : Option Addr} {c1 c2 : Nat} {A B : List Int}, Sents w a → ICame w a1 A → ICame w a2 B → A.length ≤ 9223372036854775807 → B.length ≤ 9223372036854775807 → Calls Tryd.prog 21 #[.slice a1 A.length c1, .slice a2 B.length c2] w (CrPost a A B w)
def ShBestOK (a : Nat → Addr) : Prop := ∀ {w : World} {a1 a2 : Option Addr} {c1 c2 : Nat} {A B : List Int}, Sents w a → ICame w a1 A → ICame w a2 B → A.length ≤ 9223372036854775807 → B.length ≤ 9223372036854775807 → Calls Tryd.prog 20 #[.slice a1 A.length c1, .slice a2 B.length c2] w (ShPost a A B w)
def ProvedOK (a : Nat → Addr) : Prop := ∀ {w : World} {a1 a2 : Option Addr} {c1 c2 : Nat} {A B : List Int} (s : Int), Sents w a → ICame w a1 A → ICame w a2 B → A.length ≤ 9223372036854775807 → B.length ≤ 9223372036854775807 → Calls Tryd.prog 22 #[.slice a1 A.length c1, .slice a2 B.length c2, .int .i64 s] w (PvdPost a A B s w)
theorem first_rows : rowsE [0, 1, 0] [0, 0, 1] = 0 ∧ shB [0, 1, 0] [0, 0, 1] = 1 ∧ shS [0, 1, 0] [0, 0, 1] = 1 := by decide +kernel
def c4C (nA nB : Nat) : Bool := decide ((60 < nA ∧ nA ≤ 256) ∨ (60 < nB ∧ nB ≤ 256) ∨ 300 < nA ∨ 300 < nB)
theorem three_came {w : World} {g : Nat} {x y z : Int} (h : w.heap[g]? = some (.cells #[.int .i64 x, .int .i64 y, .int .i64 z] 3)) : ICame w (some ⟨g, 0, none⟩) [x, y, z] := ⟨fun k hk => by
  refine ⟨g, 0, rfl, ltB h, ?_⟩
  rw [Nat.zero_add]
  rcases (show k = 0 ∨ k = 1 ∨ k = 2 by simp at hk; omega) with rfl | rfl | rfl
  · exact (cells_at h 0 (by simp)).1
  · exact (cells_at h 1 (by simp)).1
  · exact (cells_at h 2 (by simp)).1⟩
def SwPost (w : World) (e : Ending) (w' : World) : Prop := e = .returned (.bool true) ∧ Below w.heap.size w w'
set_option maxRecDepth 100000 in
set_option maxHeartbeats 6400000 in
theorem cross_walk {a : Nat → Addr} (hC : CrossOK a) (hBt : ShBestOK a) (hP : ProvedOK a) {w : World} {a1 a2 : Option Addr} {c1 c2 : Nat} {A B : List Int} (hS : Sents w a) (hA : ICame w a1 A) (hB : ICame w a2 B) (l1 : A.length ≤ 9223372036854775807) (l2 : B.length ≤ 9223372036854775807) (s : Int) :
    Calls Tryd.prog 6 #[.slice a1 A.length c1, .slice a2 B.length c2, .int .i64 s] w (SwPost w) := by
  have HS : HeldR (∀ u, Below w.heap.size w u → Sents u a) := hideR (fun u k => hS.below k (Nat.le_refl _))
  have HA : HeldR (∀ u, Below w.heap.size w u → ICame u a1 A) := hideR (fun u k => hA.below k)
  have HB : HeldR (∀ u, Below w.heap.size w u → ICame u a2 B) := hideR (fun u k => hB.below k)
  have hb0 := below_a w (.cells #[.int .i64 0, .int .i64 1, .int .i64 0] 3)
  have hb1 := below_go hb0 (below_a (w.alloc (.cells #[.int .i64 0, .int .i64 1, .int .i64 0] 3)) (.cells #[.int .i64 0, .int .i64 0, .int .i64 1] 3))
  have hg0 := keepA (o' := .cells #[.int .i64 0, .int .i64 0, .int .i64 1] 3) (alloc_last w (.cells #[.int .i64 0, .int .i64 1, .int .i64 0] 3))
  have hg1 : ((w.alloc (.cells #[.int .i64 0, .int .i64 1, .int .i64 0] 3)).alloc (.cells #[.int .i64 0, .int .i64 0, .int .i64 1] 3)).heap[w.heap.size + 1]? = some (.cells #[.int .i64 0, .int .i64 0, .int .i64 1] 3) := by
    have := alloc_last (w.alloc (.cells #[.int .i64 0, .int .i64 1, .int .i64 0] 3)) (.cells #[.int .i64 0, .int .i64 0, .int .i64 1] 3)
    simpa using this
  have hf : Calls Tryd.prog 20 #[.slice (some ⟨w.heap.size, 0, none⟩) 3 3, .slice (some ⟨w.heap.size + 1, 0, none⟩) 3 3] ((w.alloc (.cells #[.int .i64 0, .int .i64 1, .int .i64 0] 3)).alloc (.cells #[.int .i64 0, .int .i64 0, .int .i64 1] 3)) fun e w' => e = .returned (.tuple #[.int .i64 1, .int .i64 1, .nilIface]) ∧ HeldR (Below w.heap.size w w') := by
    refine (hBt (c1 := 3) (c2 := 3) (A := [0, 1, 0]) (B := [0, 0, 1]) (unhideR HS _ hb1) (three_came hg0) (three_came hg1) (by decide) (by decide)).mono ?_
    rintro e w' ⟨er, rfl, her, k⟩
    obtain ⟨f1, f2, f3⟩ := first_rows
    rw [f1] at her ⊢
    rw [f2, f3]
    rcases her with ⟨_, rfl⟩ | ⟨k9, _, q, _⟩
    · exact ⟨rfl, hideR (below_go hb1 k)⟩
    · omega
  have HCr : HeldR (∀ u, Below w.heap.size w u → Calls Tryd.prog 21 #[.slice a1 A.length c1, .slice a2 B.length c2] u (CrPost a A B u)) := hideR (fun u k => hC (unhideR HS u k) (unhideR HA u k) (unhideR HB u k) l1 l2)
  have HBt : HeldR (∀ u, Below w.heap.size w u → Calls Tryd.prog 20 #[.slice a1 A.length c1, .slice a2 B.length c2] u (ShPost a A B u)) := hideR (fun u k => hBt (unhideR HS u k) (unhideR HA u k) (unhideR HB u k) l1 l2)
  have HPv : HeldR (∀ u, Below w.heap.size w u → Calls Tryd.prog 22 #[.slice a1 A.length c1, .slice a2 B.length c2, .int .i64 s] u (PvdPost a A B s u)) := hideR (fun u k => hP s (unhideR HS u k) (unhideR HA u k) (unhideR HB u k) l1 l2)
  have HRe : HeldR (∀ u, Below w.heap.size w u → Calls Tryd.prog 23 #[.slice a1 A.length c1, .slice a2 B.length c2] u (RePost A B u)) := hideR (fun u k => rowsError_any (unhideR HA u k) (unhideR HB u k) l1 l2)
  obtain ⟨nA, hnA⟩ : ∃ n, A.length = n := ⟨_, rfl⟩
  obtain ⟨nB, hnB⟩ : ∃ n, B.length = n := ⟨_, rfl⟩
  rw [hnA] at l1 HCr HBt HPv HRe ⊢
  rw [hnB] at l2 HCr HBt HPv HRe ⊢
  have HnA := hideR hnA
  have HnB := hideR hnB
  clear hS hA hB hb0 hb1 hg0 hg1 hnA hnB
  go_enter Tryd.func6, Tryd.ntmps6
  go_wp2_with fail
  refine hf.mono ?_
  rintro e w1 ⟨rfl, HB1⟩
  clear hf
  go_upto_region 4 with fail
  go_cut [62] from 35 to 62 (fun s62 wx => s62 = .bool (c4C nA nB) ∧ wx = w1)
  case' first =>
    go_wp2
    all_goals
      go_meet
      refine ⟨congrArg Value.bool ?_, rfl⟩
      unfold c4C
      rw [Bool.eq_iff_iff]
      simp only [decide_eq_true_eq, true_iff]
      first | omega | (constructor <;> intro q <;> first | omega | (simp at q ⊢; omega) | (exfalso; omega) | trace_state)
  obtain ⟨rfl, rfl⟩ := hcut
  cases C4 : c4C nA nB with
  | true =>
    clear HCr HBt HPv HRe
    go_wp2
    go_ret
    exact ⟨rfl, unhideR HB1⟩
  | false =>
  have hfew := of_decide_eq_false C4
  clear C4
  have h1 := unhideR HCr wc (unhideR HB1)
  go_wp2_with fail
  refine h1.mono ?_
  rintro e w2 ⟨X, ad, cap, er1, rfl, her1, hX0, hX1, hXc, k2⟩
  have HB2 := hideR (below_go (unhideR HB1) k2)
  have HE1 := hideR her1
  have HXc : HeldR (∀ u, Below w2.heap.size w2 u → ICame u ad X) := hideR (fun u k => hXc.below k)
  have HX0 := hideR hX0
  have HX1 := hideR hX1
  obtain ⟨nX, hnX⟩ : ∃ n, X.length = n := ⟨_, rfl⟩
  rw [hnX]
  have HnX := hideR hnX
  have h2 := unhideR HBt w2 (unhideR HB2)
  clear h1 her1 hX0 hX1 hXc k2 hnX
  go_wp2_with fail
  refine h2.mono ?_
  rintro e w3 ⟨er2, rfl, her2, k3⟩
  have HB3 := hideR (below_go (unhideR HB2) k3)
  have HK3 := hideR k3
  have HE2 := hideR her2
  have h3 := unhideR HPv w3 (unhideR HB3)
  obtain ⟨vn, hvn⟩ : ∃ v, (if rowsE A B = 0 then ((shB A B : Nat) : Int) else 0) = v := ⟨_, rfl⟩
  obtain ⟨vs, hvs⟩ : ∃ v, (if rowsE A B = 0 then shS A B else 0) = v := ⟨_, rfl⟩
  rw [hvn, hvs]
  have HVn := hideR hvn
  have HVs := hideR hvs
  clear h2 her2 k3 hvn hvs
  go_wp2_with fail
  refine h3.mono ?_
  rintro e w4 ⟨er3, rfl, her3, k4⟩
  have HB4 := hideR (below_go (unhideR HB3) k4)
  have HK4 := hideR (below_go (unhideR HK3) k4)
  have HE3 := hideR her3
  have h4 := unhideR HRe w4 (unhideR HB4)
  obtain ⟨vp, hvp⟩ : ∃ v, (decide (rowsE A B = 0) && prB A B s) = v := ⟨_, rfl⟩
  rw [hvp]
  have HVp := hideR hvp
  clear h3 her3 k4 hvp HB3 HK3
  unfold RePost at h4
  obtain ⟨E, hE⟩ : ∃ E, rowsE A B = E := ⟨_, rfl⟩
  rw [hE] at h4 HE1 HE2 HE3 HX0 HX1 HVn HVs HVp
  have HE := hideR hE
  clear hE
  go_wp2_with fail
  refine h4.mono ?_
  rintro e w4' ⟨rfl, rfl⟩
  have h5 := coded_err (unhideR HS _ (unhideR HB4)) (unhideR HE1)
  clear h4
  go_wp2_with fail
  refine h5.mono ?_
  rintro e w5 ⟨rfl, k5⟩
  have HB5 := hideR (below_go (unhideR HB4) k5)
  have HK5 := hideR (below_go (unhideR HK4) k5)
  have h6 := coded_err (unhideR HS _ (unhideR HB5)) (unhideR HE2)
  clear h5 k5 HB4 HK4
  go_wp2_with fail
  refine h6.mono ?_
  rintro e w6 ⟨rfl, k6⟩
  have HB6 := hideR (below_go (unhideR HB5) k6)
  have HK6 := hideR (below_go (unhideR HK5) k6)
  have h7 := coded_err (unhideR HS _ (unhideR HB6)) (unhideR HE3)
  clear h6 k6 HB5 HK5
  go_wp2_with fail
  refine h7.mono ?_
  rintro e w7 ⟨rfl, k7⟩
  have HB7 := hideR (below_go (unhideR HB6) k7)
  have HK7 := hideR (below_go (unhideR HK6) k7)
  clear h7 k7 HB6 HK6 HE1 HE2 HE3
  by_cases e0 : E = 0
  case neg =>
    have hpos : 0 < E := by
      have := unhideR HE
      unfold rowsE at this
      split at this
      · omega
      · split at this
        · omega
        · split at this <;> omega
    have tE : decide (0 < E) = true := decide_eq_true hpos
    obtain rfl := unhideR HX0 e0
    obtain rfl : 0 = nX := unhideR HnX
    obtain rfl : 0 = vn := by rw [← unhideR HVn, if_neg e0]
    obtain rfl : 0 = vs := by rw [← unhideR HVs, if_neg e0]
    obtain rfl : false = vp := by rw [← unhideR HVp, decide_eq_false e0]; rfl
    clear HX0 HX1 HVn HVs HVp
    go_wp2
    go_ret
    exact ⟨rfl, unhideR HB7⟩
  case pos =>
  subst e0
  obtain rfl := unhideR HX1 rfl
  have hn1 : nX = nA := by rw [← unhideR HnX, crossL_len]; exact unhideR HnA
  subst hn1
  obtain rfl : ((shB A B : Nat) : Int) = vn := by rw [← unhideR HVn, if_pos rfl]
  obtain rfl : shS A B = vs := by rw [← unhideR HVs, if_pos rfl]
  obtain rfl : prB A B s = vp := by rw [← unhideR HVp]; simp
  obtain ⟨n, hO⟩ := rows_ok (unhideR HE)
  obtain rfl : nX = n := by rw [← unhideR HnA, hO.la]
  have hB2 : nB = nX := by rw [← unhideR HnB, hO.lb]
  subst hB2
  have hposn := hO.pos
  have hfewn := hO.few
  have HO := hideR hO
  have HL : HeldR (∀ u, Below w7.heap.size w7 u → ICame u ad (crossL A B)) := hideR (fun u k => unhideR HXc u (below_go (unhideR HK7) k))
  have HCa : HeldR (∀ u k, Below w7.heap.size w7 u → k < nB → Calls Tryd.prog 24 #[.slice a1 nB c1, .slice a2 nB c2, .int .i64 (k : Nat)] u (CaPost A B k u)) := hideR (fun u k hb hk => crossAt_any (unhideR HA u (below_go (unhideR HB7) hb)) (unhideR HB u (below_go (unhideR HB7) hb)) (unhideR HO) k hk)
  have HAt : HeldR (∀ k, k < nB → (crossL A B).getD k 0 = crossV A B k) := hideR (fun k hk => crossL_at (by rw [(unhideR HO).la]; exact hk))
  have HLn : HeldR ((crossL A B).length = nB) := hideR (by rw [crossL_len]; exact (unhideR HO).la)
  have HBi : HeldR (shB A B = bestI (crossL A B) nB) := hideR (by unfold shB; rw [(unhideR HO).la])
  have HSi : HeldR (shS A B = (crossL A B).getD (bestI (crossL A B) nB) 0) := hideR (by unfold shS; rw [unhideR HBi])
  have HPi : HeldR (prB A B s = decide (0 ≤ s ∧ s < (nB : Int) ∧ (crossL A B).getD s.toNat 0 = (crossL A B).getD (bestI (crossL A B) nB) 0)) := hideR (by unfold prB; rw [(unhideR HO).la, unhideR HSi])
  have HBl : HeldR (∀ k, k ≤ nB → bestI (crossL A B) k < nB) := hideR (fun k hk => bestI_lt _ hposn k hk)
  generalize shB A B = sb at *
  generalize shS A B = ss at *
  generalize prB A B s = pv at *
  have HNx : HeldR (∀ k, bestI (crossL A B) (k + 1) = if (crossL A B).getD (bestI (crossL A B) k) 0 < (crossL A B).getD k 0 then k else bestI (crossL A B) k) := hideR (fun k => rfl)
  have HB0 : HeldR (bestI (crossL A B) 0 = 0) := hideR rfl
  generalize crossL A B = M at *
  clear HX0 HX1 HVn HVs HVp HCr HBt HPv HRe HXc HnX HnA HnB HA HB HE
  have tnn : ((nB : Int) != (nB : Int)) = false := by simp
  have tnn' : (nB != nB) = false := by simp
  go_wp2
  go_loopw [19, 20] (fun bv iv wl => ∃ k : Nat, k ≤ nB ∧ iv = .int .i64 (k : Nat) ∧ bv = .int .i64 ((bestI M k : Nat) : Int) ∧ HeldR (Below w7.heap.size w7 wl)) (fun _ iv _ => nB + 1 - (intOf iv).toNat)
  case atStart => exact ⟨0, by omega, rfl, rfl, hideR (Below.refl _ _)⟩
  case round =>
    obtain ⟨k, hk, rfl, rfl, HW⟩ := hrel
    by_cases hlt : k < nB
    · have tk : decide (k < nB) = true := decide_eq_true hlt
      have jk : (k : Int) < (nB : Int) := by omega
      have wk : IntKind.i64.wrap ((k : Int) + 1) = ((k + 1 : Nat) : Int) := by rw [show (k : Int) + 1 = ((k + 1 : Nat) : Int) by omega]; exact iwrap (by omega) (by omega)
      obtain ⟨bl, ol, rfl, _, x1⟩ := (unhideR HL wr (unhideR HW)).at_ k (by rw [unhideR HLn]; exact hlt)
      have hca : ∀ q, Calls Tryd.prog 24 #[.slice a1 nB c1, .slice a2 nB c2, .int .i64 (k : Nat)] (wr.drewN q) fun e w' => e = .returned (.int .i64 (M.getD k 0)) ∧ ∃ n, w' = (wr.drewN q).drewN n := fun q => by
        have := unhideR HCa (wr.drewN q) k (drew_below _ _ (unhideR HW)) hlt
        rw [unhideR HAt k hlt]
        exact this
      have hbl := unhideR HBl k hk
      have HXj : HeldR (∀ q j, j < nB → (wr.drewN q).cell? ⟨bl, ol + j, none⟩ = some (.int .i64 (M.getD j 0))) := hideR (fun q j hj => by
        obtain ⟨b9, o9, e9, _, x9⟩ := (unhideR HL wr (unhideR HW)).at_ j (by rw [unhideR HLn]; exact hj)
        cases e9
        exact x9)
      have HNk := hideR (unhideR HNx k)
      obtain ⟨bk, hbk⟩ : ∃ b, bestI M k = b := ⟨_, rfl⟩
      rw [hbk] at hbl HNk ⊢
      have jb : (bk : Int) < (nB : Int) := by omega
      have y1 := fun q => unhideR HXj q k hlt
      have y2 := fun q => unhideR HXj q bk hbl
      obtain ⟨ck, hck⟩ : ∃ c, M.getD k 0 = c := ⟨_, rfl⟩
      obtain ⟨cb, hcb⟩ : ∃ c, M.getD bk 0 = c := ⟨_, rfl⟩
      rw [hck] at x1 hca y1 HNk
      rw [hcb] at y2 HNk
      clear hck hcb hbk
      go_wp2
      go_quiet (first | (go_at_call 24; exact Calls.quiet_of (hca _)))
      have z1 := y1 nq
      have z2 := y2 nq
      have HW2 := hideR (drew_below wr nq (unhideR HW))
      clear y1 y2 x1 hca HXj
      generalize wr.drewN nq = wq at *
      clear nq
      by_cases hq : cb < ck
      · have tq : decide (cb < ck) = true := decide_eq_true hq
        rw [if_pos hq] at HNk
        go_wp2
        go_quiet (fail)
        have HW3 := hideR (drew_below wq nq (unhideR HW2))
        go_wp2
        exact ⟨⟨k + 1, by omega, by first | rfl | go_num, by rw [unhideR HNk], HW3⟩, by simp [intOf]; omega⟩
      · have tq : decide (cb < ck) = false := decide_eq_false hq
        rw [if_neg hq] at HNk
        go_wp2
        go_quiet (fail)
        have HW3 := hideR (drew_below wq nq (unhideR HW2))
        go_wp2
        exact ⟨⟨k + 1, by omega, by first | rfl | go_num, by rw [unhideR HNk], HW3⟩, by simp [intOf]; omega⟩
    · obtain rfl : k = nB := by omega
      have tk : decide (k < k) = false := decide_eq_false hlt
      have hbl := unhideR HBl k (Nat.le_refl _)
      obtain ⟨bl, ol, rfl, _, x0⟩ := (unhideR HL wr (unhideR HW)).at_ 0 (by rw [unhideR HLn]; exact hposn)
      have HXj : HeldR (∀ u, Below w7.heap.size w7 u → ∀ j, j < k → u.cell? ⟨bl, ol + j, none⟩ = some (.int .i64 (M.getD j 0))) := hideR (fun u hu j hj => by
        obtain ⟨b9, o9, e9, _, x9⟩ := (unhideR HL u hu).at_ j (by rw [unhideR HLn]; exact hj)
        cases e9
        exact x9)
      obtain ⟨bk, hbk⟩ : ∃ b, bestI M k = b := ⟨_, rfl⟩
      have hsb : sb = bk := (unhideR HBi).trans hbk
      have hss : ss = M.getD bk 0 := by rw [unhideR HSi, hbk]
      have hpi := unhideR HPi
      rw [hbk] at hbl hpi ⊢
      subst hsb
      subst hss
      have jb : (sb : Int) < (k : Int) := by omega
      have y2 := unhideR HXj wr (unhideR HW) sb hbl
      clear x0 hbk HCa HAt HBi HSi HPi HBl HNx HB0 HL HLn
      by_cases s0 : 0 ≤ s
      · have u0 : decide (0 ≤ s) = true := decide_eq_true s0
        by_cases s1 : s < (k : Int)
        · have u1 : decide (s < (k : Int)) = true := decide_eq_true s1
          obtain ⟨m, rfl⟩ : ∃ m : Nat, s = (m : Nat) := ⟨s.toNat, by omega⟩
          have hm : m < k := by omega
          have u1n : decide (m < k) = true := decide_eq_true hm
          have y1 := unhideR HXj wr (unhideR HW) m hm
          rw [Int.toNat_natCast] at hpi
          have HX1 : HeldR (∀ q, (wr.drewN q).cell? ⟨bl, ol + m, none⟩ = some (.int .i64 (M.getD m 0))) := hideR (fun q => y1)
          have HX2 : HeldR (∀ q, (wr.drewN q).cell? ⟨bl, ol + sb, none⟩ = some (.int .i64 (M.getD sb 0))) := hideR (fun q => y2)
          generalize M.getD m 0 = cm at *
          generalize M.getD sb 0 = cb at *
          have hpv : pv = (cm == cb) := by
            rw [hpi, Bool.eq_iff_iff]
            simp
            omega
          subst hpv
          clear hpi HXj y1 y2
          go_upto_region 25 with fail
          refine wp_region_lets [(· = .int .i64 (m : Nat)),
            (· = .bool true),
            (· = .bool true),
            (· = .int .i64 (m : Nat)),
            (· = .slice (some ⟨bl, ol, none⟩) k cap),
            (· = .int .i64 (k : Nat)),
            (· = .bool true),
            (· = .bool true),
            (· = .bool true),
            (· = .slice (some ⟨bl, ol, none⟩) k cap),
            (· = .int .i64 (m : Nat)),
            (· = .pointer (some ⟨bl, ol + m, none⟩)),
            (· = .int .i64 cm),
            (· = .slice (some ⟨bl, ol, none⟩) k cap),
            (· = .int .i64 (sb : Nat)),
            (· = .pointer (some ⟨bl, ol + sb, none⟩)),
            (· = .int .i64 cb),
            (· = .bool (cm == cb)),
            (· = .bool (cm == cb)),
            (· = .bool (cm == cb))] (by kernel_rfl) (by kernel_rfl) ?_
          refine lexL_step (fun K hK => ⟨by kernel_rfl, ⟨_, rfl⟩, fun n => ?_, fun v hv => ?_⟩)
          · go_simp
            exact lUpon_one
          subst hv
          go_simp
          refine hK _ ?_
          clear hK K
          refine lexL_step (fun K hK => ⟨by kernel_rfl, ⟨_, rfl⟩, fun n => ?_, fun v hv => ?_⟩)
          · go_simp
            exact lUpon_one
          subst hv
          go_simp
          refine hK _ ?_
          clear hK K
          refine lexL_step (fun K hK => ⟨by kernel_rfl, ⟨_, rfl⟩, fun n => ?_, fun v hv => ?_⟩)
          · go_simp
            exact lUpon_one
          subst hv
          go_simp
          refine hK _ ?_
          clear hK K
          refine lexL_step (fun K hK => ⟨by kernel_rfl, ⟨_, rfl⟩, fun n => ?_, fun v hv => ?_⟩)
          · go_simp
            exact lUpon_one
          subst hv
          go_simp
          refine hK _ ?_
          clear hK K
          refine lexL_step (fun K hK => ⟨by kernel_rfl, ⟨_, rfl⟩, fun n => ?_, fun v hv => ?_⟩)
          · go_simp
            exact lUpon_one
          subst hv
          go_simp
          refine hK _ ?_
          clear hK K
          refine lexL_step (fun K hK => ⟨by kernel_rfl, ⟨_, rfl⟩, fun n => ?_, fun v hv => ?_⟩)
          · go_simp
            exact lUpon_one
          subst hv
          go_simp
          refine hK _ ?_
          clear hK K
          refine lexL_step (fun K hK => ⟨by kernel_rfl, ⟨_, rfl⟩, fun n => ?_, fun v hv => ?_⟩)
          · go_simp
            exact lUpon_one
          subst hv
          go_simp
          refine hK _ ?_
          clear hK K
          refine lexL_step (fun K hK => ⟨by kernel_rfl, ⟨_, rfl⟩, fun n => ?_, fun v hv => ?_⟩)
          · go_simp
            exact lUpon_one
          subst hv
          go_simp
          refine hK _ ?_
          clear hK K
          refine lexL_step (fun K hK => ⟨by kernel_rfl, ⟨_, rfl⟩, fun n => ?_, fun v hv => ?_⟩)
          · go_simp
            exact lUpon_one
          subst hv
          go_simp
          refine hK _ ?_
          clear hK K
          refine lexL_step (fun K hK => ⟨by kernel_rfl, ⟨_, rfl⟩, fun n => ?_, fun v hv => ?_⟩)
          · go_simp
            exact lUpon_one
          subst hv
          go_simp
          refine hK _ ?_
          clear hK K
          refine lexL_step (fun K hK => ⟨by kernel_rfl, ⟨_, rfl⟩, fun n => ?_, fun v hv => ?_⟩)
          · go_simp
            exact lUpon_one
          subst hv
          go_simp
          refine hK _ ?_
          clear hK K
          refine lexL_step (fun K hK => ⟨by kernel_rfl, ⟨_, rfl⟩, fun n => ?_, fun v hv => ?_⟩)
          · go_simp
            exact lUpon_one
          subst hv
          go_simp
          refine hK _ ?_
          clear hK K
          refine lexL_step (fun K hK => ⟨by kernel_rfl, ⟨_, rfl⟩, fun n => ?_, fun v hv => ?_⟩)
          · have z1 := unhideR HX1 n
            have z2 := unhideR HX2 n
            go_simp
            exact lUpon_one
          subst hv
          go_simp
          refine hK _ ?_
          clear hK K
          refine lexL_step (fun K hK => ⟨by kernel_rfl, ⟨_, rfl⟩, fun n => ?_, fun v hv => ?_⟩)
          · go_simp
            exact lUpon_one
          subst hv
          go_simp
          refine hK _ ?_
          clear hK K
          refine lexL_step (fun K hK => ⟨by kernel_rfl, ⟨_, rfl⟩, fun n => ?_, fun v hv => ?_⟩)
          · go_simp
            exact lUpon_one
          subst hv
          go_simp
          refine hK _ ?_
          clear hK K
          refine lexL_step (fun K hK => ⟨by kernel_rfl, ⟨_, rfl⟩, fun n => ?_, fun v hv => ?_⟩)
          · go_simp
            exact lUpon_one
          subst hv
          go_simp
          refine hK _ ?_
          clear hK K
          refine lexL_step (fun K hK => ⟨by kernel_rfl, ⟨_, rfl⟩, fun n => ?_, fun v hv => ?_⟩)
          · have z1 := unhideR HX1 n
            have z2 := unhideR HX2 n
            go_simp
            exact lUpon_one
          subst hv
          go_simp
          refine hK _ ?_
          clear hK K
          refine lexL_step (fun K hK => ⟨by kernel_rfl, ⟨_, rfl⟩, fun n => ?_, fun v hv => ?_⟩)
          · go_simp
            exact lUpon_one
          subst hv
          go_simp
          refine hK _ ?_
          clear hK K
          refine lexL_step (fun K hK => ⟨by kernel_rfl, ⟨_, rfl⟩, fun n => ?_, fun v hv => ?_⟩)
          · go_simp
            exact lUpon_one
          subst hv
          go_simp
          refine hK _ ?_
          clear hK K
          refine lexL_step (fun K hK => ⟨by kernel_rfl, ⟨_, rfl⟩, fun n => ?_, fun v hv => ?_⟩)
          · go_simp
            exact lUpon_one
          subst hv
          go_simp
          refine hK _ ?_
          clear hK K
          refine lexL_end ?_
          intro nq
          have y3 := unhideR HX2 nq
          have HW3 := hideR (below_go (unhideR HB7) (drew_below wr nq (unhideR HW)))
          generalize wr.drewN nq = wq at *
          go_wp2
          go_ret
          exact ⟨rfl, unhideR HW3⟩
        · have u1 : decide (s < (k : Int)) = false := decide_eq_false s1
          obtain rfl : pv = false := by rw [hpi]; exact decide_eq_false (fun q => s1 q.2.1)
          have HX2 : HeldR (∀ q, (wr.drewN q).cell? ⟨bl, ol + sb, none⟩ = some (.int .i64 (M.getD sb 0))) := hideR (fun q => y2)
          generalize M.getD sb 0 = cb at *
          clear hpi HXj y2
          go_upto_region 25 with fail
          refine wp_region_lets [(· = .int .i64 s),
            (· = .bool true),
            (· = .bool true),
            (· = .int .i64 s),
            (· = .slice (some ⟨bl, ol, none⟩) k cap),
            (· = .int .i64 (k : Nat)),
            (· = .bool false),
            (· = .bool false),
            (· = .bool false),
            (· = undef),
            (· = undef),
            (· = undef),
            (· = undef),
            (· = undef),
            (· = undef),
            (· = undef),
            (· = undef),
            (· = undef),
            (· = .bool false),
            (· = .bool false)] (by kernel_rfl) (by kernel_rfl) ?_
          refine lexL_step (fun K hK => ⟨by kernel_rfl, ⟨_, rfl⟩, fun n => ?_, fun v hv => ?_⟩)
          · go_simp
            exact lUpon_one
          subst hv
          go_simp
          refine hK _ ?_
          clear hK K
          refine lexL_step (fun K hK => ⟨by kernel_rfl, ⟨_, rfl⟩, fun n => ?_, fun v hv => ?_⟩)
          · go_simp
            exact lUpon_one
          subst hv
          go_simp
          refine hK _ ?_
          clear hK K
          refine lexL_step (fun K hK => ⟨by kernel_rfl, ⟨_, rfl⟩, fun n => ?_, fun v hv => ?_⟩)
          · go_simp
            exact lUpon_one
          subst hv
          go_simp
          refine hK _ ?_
          clear hK K
          refine lexL_step (fun K hK => ⟨by kernel_rfl, ⟨_, rfl⟩, fun n => ?_, fun v hv => ?_⟩)
          · go_simp
            exact lUpon_one
          subst hv
          go_simp
          refine hK _ ?_
          clear hK K
          refine lexL_step (fun K hK => ⟨by kernel_rfl, ⟨_, rfl⟩, fun n => ?_, fun v hv => ?_⟩)
          · go_simp
            exact lUpon_one
          subst hv
          go_simp
          refine hK _ ?_
          clear hK K
          refine lexL_step (fun K hK => ⟨by kernel_rfl, ⟨_, rfl⟩, fun n => ?_, fun v hv => ?_⟩)
          · go_simp
            exact lUpon_one
          subst hv
          go_simp
          refine hK _ ?_
          clear hK K
          refine lexL_step (fun K hK => ⟨by kernel_rfl, ⟨_, rfl⟩, fun n => ?_, fun v hv => ?_⟩)
          · go_simp
            exact lUpon_one
          subst hv
          go_simp
          refine hK _ ?_
          clear hK K
          refine lexL_step (fun K hK => ⟨by kernel_rfl, ⟨_, rfl⟩, fun n => ?_, fun v hv => ?_⟩)
          · go_simp
            exact lUpon_one
          subst hv
          go_simp
          refine hK _ ?_
          clear hK K
          refine lexL_step (fun K hK => ⟨by kernel_rfl, ⟨_, rfl⟩, fun n => ?_, fun v hv => ?_⟩)
          · go_simp
            exact lUpon_one
          subst hv
          go_simp
          refine hK _ ?_
          clear hK K
          refine lexL_skip (fun K hK => ⟨by kernel_rfl, ?_⟩)
          go_simp
          refine hK _ ?_
          clear hK K
          refine lexL_skip (fun K hK => ⟨by kernel_rfl, ?_⟩)
          go_simp
          refine hK _ ?_
          clear hK K
          refine lexL_skip (fun K hK => ⟨by kernel_rfl, ?_⟩)
          go_simp
          refine hK _ ?_
          clear hK K
          refine lexL_skip (fun K hK => ⟨by kernel_rfl, ?_⟩)
          go_simp
          refine hK _ ?_
          clear hK K
          refine lexL_skip (fun K hK => ⟨by kernel_rfl, ?_⟩)
          go_simp
          refine hK _ ?_
          clear hK K
          refine lexL_skip (fun K hK => ⟨by kernel_rfl, ?_⟩)
          go_simp
          refine hK _ ?_
          clear hK K
          refine lexL_skip (fun K hK => ⟨by kernel_rfl, ?_⟩)
          go_simp
          refine hK _ ?_
          clear hK K
          refine lexL_skip (fun K hK => ⟨by kernel_rfl, ?_⟩)
          go_simp
          refine hK _ ?_
          clear hK K
          refine lexL_skip (fun K hK => ⟨by kernel_rfl, ?_⟩)
          go_simp
          refine hK _ ?_
          clear hK K
          refine lexL_step (fun K hK => ⟨by kernel_rfl, ⟨_, rfl⟩, fun n => ?_, fun v hv => ?_⟩)
          · go_simp
            exact lUpon_one
          subst hv
          go_simp
          refine hK _ ?_
          clear hK K
          refine lexL_step (fun K hK => ⟨by kernel_rfl, ⟨_, rfl⟩, fun n => ?_, fun v hv => ?_⟩)
          · go_simp
            exact lUpon_one
          subst hv
          go_simp
          refine hK _ ?_
          clear hK K
          refine lexL_end ?_
          intro nq
          have y3 := unhideR HX2 nq
          have HW3 := hideR (below_go (unhideR HB7) (drew_below wr nq (unhideR HW)))
          generalize wr.drewN nq = wq at *
          go_wp2
          go_ret
          exact ⟨rfl, unhideR HW3⟩
      · have u0 : decide (0 ≤ s) = false := decide_eq_false s0
        obtain rfl : pv = false := by rw [hpi]; exact decide_eq_false (fun q => s0 q.1)
        have HX2 : HeldR (∀ q, (wr.drewN q).cell? ⟨bl, ol + sb, none⟩ = some (.int .i64 (M.getD sb 0))) := hideR (fun q => y2)
        generalize M.getD sb 0 = cb at *
        clear hpi HXj y2
        go_upto_region 25 with fail
        refine wp_region_lets [(· = .int .i64 s),
          (· = .bool false),
          (· = .bool false),
          (· = undef),
          (· = undef),
          (· = undef),
          (· = undef),
          (· = .bool false),
          (· = .bool false),
          (· = undef),
          (· = undef),
          (· = undef),
          (· = undef),
          (· = undef),
          (· = undef),
          (· = undef),
          (· = undef),
          (· = undef),
          (· = .bool false),
          (· = .bool false)] (by kernel_rfl) (by kernel_rfl) ?_
        refine lexL_step (fun K hK => ⟨by kernel_rfl, ⟨_, rfl⟩, fun n => ?_, fun v hv => ?_⟩)
        · go_simp
          exact lUpon_one
        subst hv
        go_simp
        refine hK _ ?_
        clear hK K
        refine lexL_step (fun K hK => ⟨by kernel_rfl, ⟨_, rfl⟩, fun n => ?_, fun v hv => ?_⟩)
        · go_simp
          exact lUpon_one
        subst hv
        go_simp
        refine hK _ ?_
        clear hK K
        refine lexL_step (fun K hK => ⟨by kernel_rfl, ⟨_, rfl⟩, fun n => ?_, fun v hv => ?_⟩)
        · go_simp
          exact lUpon_one
        subst hv
        go_simp
        refine hK _ ?_
        clear hK K
        refine lexL_skip (fun K hK => ⟨by kernel_rfl, ?_⟩)
        go_simp
        refine hK _ ?_
        clear hK K
        refine lexL_skip (fun K hK => ⟨by kernel_rfl, ?_⟩)
        go_simp
        refine hK _ ?_
        clear hK K
        refine lexL_skip (fun K hK => ⟨by kernel_rfl, ?_⟩)
        go_simp
        refine hK _ ?_
        clear hK K
        refine lexL_skip (fun K hK => ⟨by kernel_rfl, ?_⟩)
        go_simp
        refine hK _ ?_
        clear hK K
        refine lexL_step (fun K hK => ⟨by kernel_rfl, ⟨_, rfl⟩, fun n => ?_, fun v hv => ?_⟩)
        · go_simp
          exact lUpon_one
        subst hv
        go_simp
        refine hK _ ?_
        clear hK K
        refine lexL_step (fun K hK => ⟨by kernel_rfl, ⟨_, rfl⟩, fun n => ?_, fun v hv => ?_⟩)
        · go_simp
          exact lUpon_one
        subst hv
        go_simp
        refine hK _ ?_
        clear hK K
        refine lexL_skip (fun K hK => ⟨by kernel_rfl, ?_⟩)
        go_simp
        refine hK _ ?_
        clear hK K
        refine lexL_skip (fun K hK => ⟨by kernel_rfl, ?_⟩)
        go_simp
        refine hK _ ?_
        clear hK K
        refine lexL_skip (fun K hK => ⟨by kernel_rfl, ?_⟩)
        go_simp
        refine hK _ ?_
        clear hK K
        refine lexL_skip (fun K hK => ⟨by kernel_rfl, ?_⟩)
        go_simp
        refine hK _ ?_
        clear hK K
        refine lexL_skip (fun K hK => ⟨by kernel_rfl, ?_⟩)
        go_simp
        refine hK _ ?_
        clear hK K
        refine lexL_skip (fun K hK => ⟨by kernel_rfl, ?_⟩)
        go_simp
        refine hK _ ?_
        clear hK K
        refine lexL_skip (fun K hK => ⟨by kernel_rfl, ?_⟩)
        go_simp
        refine hK _ ?_
        clear hK K
        refine lexL_skip (fun K hK => ⟨by kernel_rfl, ?_⟩)
        go_simp
        refine hK _ ?_
        clear hK K
        refine lexL_skip (fun K hK => ⟨by kernel_rfl, ?_⟩)
        go_simp
        refine hK _ ?_
        clear hK K
        refine lexL_step (fun K hK => ⟨by kernel_rfl, ⟨_, rfl⟩, fun n => ?_, fun v hv => ?_⟩)
        · go_simp
          exact lUpon_one
        subst hv
        go_simp
        refine hK _ ?_
        clear hK K
        refine lexL_step (fun K hK => ⟨by kernel_rfl, ⟨_, rfl⟩, fun n => ?_, fun v hv => ?_⟩)
        · go_simp
          exact lUpon_one
        subst hv
        go_simp
        refine hK _ ?_
        clear hK K
        refine lexL_end ?_
        intro nq
        have y3 := unhideR HX2 nq
        have HW3 := hideR (below_go (unhideR HB7) (drew_below wr nq (unhideR HW)))
        generalize wr.drewN nq = wq at *
        go_wp2
        go_ret
        exact ⟨rfl, unhideR HW3⟩
end Go.Proofs.YtngdemhhcablmakDoor
