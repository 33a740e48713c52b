/-
  The law of waves: its walk.
-/
import Derived.Test.YtmgnobeaacjdjajDoorLtPl0
import Derived.Test.YtmgnobeaacjdjajDoorLooseA
import Derived.Deep.CutRange
namespace Go.Proofs.YtmgnobeaacjdjajDoor
open Go Go.RowKit

theorem lt_cell {w : World} {b o : Nat} {u : Value} (h : w.cell? ⟨b, o, none⟩ = some u) : b < w.heap.size := by
  rcases Nat.lt_or_ge b w.heap.size with k | k
  · exact k
  · simp [World.cell?, Array.getElem?_eq_none k] at h
def LpPost (w : World) (e : Ending) (w' : World) : Prop := e = .returned (.bool true) ∧ Below w.heap.size w w'
def c4B (nT nL : Nat) (many : Int) : Bool := decide ((60 < nT ∧ nT ≤ 4000) ∨ (60 < nL ∧ nL ≤ 4000) ∨ (40 < many ∧ many ≤ 4000))
def c17B (nT : Nat) (many : Int) (b a : Bool) : Bool := decide (4000 < nT ∨ many < 1 ∨ 4000 < many) || b || a
def c19B (nT nL : Nat) : Bool := decide (nT ≠ nL ∨ nT = 0)
theorem powE_is {T : List Int} {nT nL : Nat} {step fr many : Int} (h : T.length = nT) : powE T nL step fr many = if c19B nT nL = true then 5 else if c17B nT many (largeB step || badT T nT) (largeB fr) = true then 2 else 0 := by
  subst h
  unfold powE c19B c17B
  by_cases q : T.length ≠ nL ∨ T.length = 0
  · rw [if_pos q, if_pos (decide_eq_true q)]
  · have h5 : ¬ (decide (T.length ≠ nL ∨ T.length = 0) = true) := by rw [decide_eq_false q]; decide
    rw [if_neg q, if_neg h5]
    have e : (decide (4000 < T.length ∨ many < 1 ∨ 4000 < many) || (largeB step || badT T T.length) || largeB fr) = true ↔ powBad T step fr many := by
      unfold powBad
      generalize (largeB step || badT T T.length) = b
      generalize largeB fr = c
      simp only [Bool.or_eq_true, decide_eq_true_eq]
      cases b <;> cases c <;> simp
    by_cases r : powBad T step fr many
    · rw [if_pos r, if_pos (e.2 r)]
    · rw [if_neg r, if_neg (fun z => r (e.1 z))]
def c6B (nT nL : Nat) : Bool := decide (4005 < nT ∨ 4005 < nL)
set_option maxRecDepth 100000 in
set_option maxHeartbeats 6400000 in
theorem powers_walk {a : Nat → Addr} (hOK : PowerOK a) (hBe : BestOK) {w : World} {a1 a2 : Option Addr} {c1 c2 : Nat} {T : List Int} {L : List Nat} (hS : Sents w a) (hT : ICame w a1 T) (hL : FCame w a2 L) (hT9 : T.length ≤ 9223372036854775807) (hL9 : L.length ≤ 9223372036854775807) (step fr many : Int) :
    Calls Tryd.prog 5 #[.slice a1 T.length c1, .slice a2 L.length c2, .int .i64 step, .int .i64 fr, .int .i64 many] w (LpPost w) := by
  have HS : HeldR (∀ u, Below w.heap.size w u → Sents u a) := hideR (fun u k => hS.below k (Nat.le_refl _))
  have HT : HeldR (∀ u, Below w.heap.size w u → ICame u a1 T) := hideR (fun u k => hT.below k)
  have HL : HeldR (∀ u, Below w.heap.size w u → FCame u a2 L) := hideR (fun u k => hL.below k)
  have HOK : HeldR (∀ u, Below w.heap.size w u → Calls Tryd.prog 13 #[.slice a1 T.length c1, .slice a2 L.length c2, .int .i64 step, .int .i64 fr, .int .i64 many] u (PwPost a T L step fr many u)) := hideR (fun u k => hOK step fr many (hS.below k (Nat.le_refl _)) (hT.below k) (hL.below k) hT9 hL9)
  have HBe : HeldR BestOK := hideR hBe
  have hb1 := below_go (below_a w (.cells #[.int .i64 0] 3)) (below_a (w.alloc (.cells #[.int .i64 0] 3)) (.cells #[.float .f64 4613937818241073152] 48))
  have hg0 := keepA (o' := .cells #[.float .f64 4613937818241073152] 48) (alloc_last w (.cells #[.int .i64 0] 3))
  have hg1 : ((w.alloc (.cells #[.int .i64 0] 3)).alloc (.cells #[.float .f64 4613937818241073152] 48)).heap[w.heap.size + 1]? = some (.cells #[.float .f64 4613937818241073152] 48) := by
    have := alloc_last (w.alloc (.cells #[.int .i64 0] 3)) (.cells #[.float .f64 4613937818241073152] 48)
    simpa using this
  have hf := hOK (w := (w.alloc (.cells #[.int .i64 0] 3)).alloc (.cells #[.float .f64 4613937818241073152] 48)) (a1 := some ⟨w.heap.size, 0, none⟩) (a2 := some ⟨w.heap.size + 1, 0, none⟩) (c1 := 1) (c2 := 1) (T := [0]) (L := [4613937818241073152]) 0 0 1 (hS.below hb1 (Nat.le_refl _)) ⟨fun k hk => by
    obtain rfl : k = 0 := by simp at hk; omega
    exact ⟨_, _, rfl, ltB hg0, (cells_at hg0 0 (by simp)).1⟩⟩ ⟨fun k hk => by
    obtain rfl : k = 0 := by simp at hk; omega
    exact ⟨_, _, rfl, ltB hg1, (cells_at hg1 0 (by simp)).1⟩⟩ (by decide) (by decide)
  have hf' : Calls Tryd.prog 13 #[.slice (some ⟨w.heap.size, 0, none⟩) 1 1, .slice (some ⟨w.heap.size + 1, 0, none⟩) 1 1, .int .i64 0, .int .i64 0, .int .i64 1] ((w.alloc (.cells #[.int .i64 0] 3)).alloc (.cells #[.float .f64 4613937818241073152] 48)) fun e w' => ∃ b o cap : Nat, e = .returned (.tuple #[.slice (some ⟨b, o, none⟩) 1 cap, .nilIface]) ∧ w'.cell? ⟨b, o, none⟩ = some (.float .f64 4621256167635550208) ∧ HeldR (Below w.heap.size w w') := hf.mono (by
    rintro e w' ⟨X, ad, cap, er, rfl, her, _, hx, hc, k⟩
    rw [show powE [0] ([4613937818241073152] : List Nat).length 0 0 1 = 0 from powE_first] at her hx
    obtain ⟨hxl, hxk⟩ := hx rfl
    have hx1 : X.length = 1 := hxl
    have hp := hxk 0 (by decide)
    have hp9 := pw_nine (r := X.getD 0 0) hp
    obtain ⟨b, o, rfl, _, hcell⟩ := hc.at_ 0 (by omega)
    rw [hp9] at hcell
    rcases her with ⟨_, rfl⟩ | ⟨k9, _, q, _⟩
    · exact ⟨b, o, cap, by rw [hx1], hcell, hideR (below_go hb1 k)⟩
    · omega)
  have t9 : (FloatKind.f64.format.order 4621256167635550208 4621256167635550208 != some .eq) = false := by decide +kernel
  obtain ⟨nT, hnT⟩ : ∃ nT, T.length = nT := ⟨_, rfl⟩
  obtain ⟨nL, hnL⟩ : ∃ nL, L.length = nL := ⟨_, rfl⟩
  have HNT := hideR hnT
  have HNL := hideR hnL
  rw [hnT, hnL] at HOK ⊢
  clear hS hT hL hOK hBe hb1 hg0 hg1 hf hT9 hL9 hnT hnL
  go_enter Tryd.func5, Tryd.ntmps5
  go_wp2_with fail
  refine hf'.mono ?_
  rintro e w1 ⟨b0, o0, cp0, rfl, x0, HB1⟩
  clear hf'
  go_upto_region 4 with fail
  clear x0 t9
  go_cut [67] from 42 to 67 (fun s67 wx => s67 = .bool (c4B nT nL many) ∧ wx = w1)
  case' first =>
    go_wp2
    all_goals
      go_meet
      refine ⟨congrArg Value.bool ?_, rfl⟩
      unfold c4B
      rw [Bool.eq_iff_iff]
      simp only [Bool.or_eq_true, decide_eq_true_eq, Bool.false_eq_true, true_iff, false_iff]
      omega
  obtain ⟨rfl, rfl⟩ := hcut
  cases C4 : c4B nT nL many with
  | true =>
    go_wp2
    go_ret
    exact ⟨rfl, unhideR HB1⟩
  | false =>
  go_upto_region 6 with fail
  go_cut [75] from 68 to 75 (fun s75 wx => s75 = .bool (c6B nT nL) ∧ wx = wc)
  case' first =>
    go_wp2
    all_goals
      go_meet
      refine ⟨congrArg Value.bool ?_, rfl⟩
      unfold c6B
      rw [Bool.eq_iff_iff]
      simp only [Bool.or_eq_true, decide_eq_true_eq, true_iff]
      omega
  obtain ⟨rfl, rfl⟩ := hcut
  cases C6 : c6B nT nL with
  | true =>
    go_wp2
    go_ret
    exact ⟨rfl, unhideR HB1⟩
  | false =>
    have hpw := unhideR HOK wc (unhideR HB1)
    clear HOK
    go_wp2_with fail
    refine hpw.mono ?_
    rintro e w2 ⟨X, ax, cx, er, rfl, her, hX0, hX1, hXc, k2⟩
    have HB2 := hideR (below_go (unhideR HB1) k2)
    have HXc := hideR hXc
    have HEr := hideR her
    have HX0 := hideR hX0
    have HX1 := hideR hX1
    obtain ⟨nX, hnX⟩ : ∃ nX, X.length = nX := ⟨_, rfl⟩
    have HNX := hideR hnX
    rw [hnX]
    have hl1 := large_any step w2
    have hl2 := large_any fr w2
    clear hpw her hX0 hX1 hXc k2 hnX HB1
    go_wp2_with fail
    refine hl1.mono ?_
    rintro e w2 ⟨rfl, rfl⟩
    go_wp2_with fail
    refine hl2.mono ?_
    rintro e w2 ⟨rfl, rfl⟩
    clear hl1 hl2
    obtain ⟨sB, hsB⟩ : ∃ sB, largeB step = sB := ⟨_, rfl⟩
    obtain ⟨aB, haB⟩ : ∃ aB, largeB fr = aB := ⟨_, rfl⟩
    have HsB := hideR hsB
    have HaB := hideR haB
    rw [hsB, haB]
    clear hsB haB
    go_wp2
    go_loopw [14, 16] (fun bv iv wl => ∃ k : Nat, k ≤ nT ∧ iv = .int .i64 (k : Nat) ∧ bv = .bool (sB || badT T k) ∧ wl = w2) (fun _ iv _ => nT + 1 - (intOf iv).toNat)
    case atStart => exact ⟨0, by omega, rfl, by simp [badT], rfl⟩
    case round =>
      obtain ⟨k, hk, rfl, rfl, rfl⟩ := hrel
      by_cases hlt : k < nT
      · have tk : decide (k < nT) = true := decide_eq_true hlt
        have jk : (k : Int) < (nT : Int) := by omega
        have hn4 : nT ≤ 4005 := by
          have := C6
          unfold c6B at this
          rw [decide_eq_false_iff_not] at this
          omega
        have wk : IntKind.i64.wrap ((k : Int) + 1) = ((k + 1 : Nat) : Int) := by rw [show (k : Int) + 1 = ((k + 1 : Nat) : Int) by omega]; exact iwrap (by omega) (by omega)
        obtain ⟨b1, o1, rfl, _, x1⟩ := (unhideR HT wr (unhideR HB2)).at_ k (by rw [unhideR HNT]; exact hlt)
        have hla := large_any (T.getD k 0) wr
        have HNb : HeldR ((sB || badT T k || largeB (T.getD k 0)) = (sB || badT T (k + 1))) := hideR (by
          show _ = (sB || (badT T k || largeB (T.getD k 0)))
          rw [Bool.or_assoc])
        generalize T.getD k 0 = tt at *
        obtain ⟨lB, hlB⟩ : ∃ lB, largeB tt = lB := ⟨_, rfl⟩
        rw [hlB] at hla HNb
        generalize (sB || badT T k) = pB at *
        clear hlB hn4
        go_wp2_with fail
        refine hla.mono ?_
        rintro e w9 ⟨rfl, rfl⟩
        cases pB with
        | true =>
          clear hla
          go_wp2
          exact ⟨⟨k + 1, by omega, rfl, congrArg Value.bool (by have := unhideR HNb; simpa using this), by first | rfl | trivial⟩, by simp [intOf]; omega⟩
        | false =>
          clear hla
          go_wp2
          exact ⟨⟨k + 1, by omega, rfl, congrArg Value.bool (by have := unhideR HNb; simpa using this), by first | rfl | trivial⟩, by simp [intOf]; omega⟩
      · obtain rfl : nT = k := by omega
        have tk : decide (nT < nT) = false := decide_eq_false hlt
        have hEq := powE_is (nL := nL) (step := step) (fr := fr) (many := many) (unhideR HNT)
        rw [unhideR HsB, unhideR HaB] at hEq
        rw [← unhideR HNL] at hEq
        have HBd : HeldR ((sB || badT T nT) = false → sB = false ∧ badT T T.length = false) := hideR (fun q => by
          rw [unhideR HNT]
          rw [Bool.or_eq_false_iff] at q
          exact q)
        generalize (sB || badT T nT) = bB at *
        rw [unhideR HNL] at hEq
        have HEq := hideR hEq
        clear hEq
        go_upto_region 17 with fail
        go_cut [120] from 104 to 120 (fun s120 wx => s120 = .bool (c17B nT many bB aB) ∧ wx = wr)
        case' first =>
          cases bB <;> cases aB
          all_goals
            go_wp2
          all_goals
            go_meet
            refine ⟨congrArg Value.bool ?_, rfl⟩
            unfold c17B
            rw [Bool.eq_iff_iff]
            simp only [Bool.or_eq_true, decide_eq_true_eq, Bool.false_eq_true, or_false, true_iff, Bool.true_or, Bool.or_true]
            try omega
        obtain ⟨rfl, rfl⟩ := hcut
        cases C17 : c17B nT many bB aB with
        | true =>
          go_upto_region 19 with fail
          go_cut [130] from 121 to 130 (fun s130 wx => s130 = .bool (c19B nT nL) ∧ wx = wc)
          case' first =>
            obtain ⟨qB, hq⟩ : ∃ q, ((nT : Int) != (nL : Int)) = q := ⟨_, rfl⟩
            obtain ⟨zB, hz⟩ : ∃ z, ((nT : Int) == 0) = z := ⟨_, rfl⟩
            have HQ := hideR hq
            have HZ := hideR hz
            cases qB <;> cases zB
            all_goals
              go_wp2
            all_goals
              go_meet
              refine ⟨congrArg Value.bool ?_, rfl⟩
              have q1 := unhideR HQ
              have z1 := unhideR HZ
              unfold c19B
              rw [Bool.eq_iff_iff]
              simp at q1 z1 ⊢
              try omega
          obtain ⟨rfl, rfl⟩ := hcut
          cases C19 : c19B nT nL with
          | true =>
            have hE : powE T L.length step fr many = 5 := by rw [unhideR HNL, unhideR HEq, C19]; rfl
            have her := unhideR HEr
            rw [hE] at her
            obtain rfl := unhideR HX0 (by rw [hE]; decide)
            obtain rfl : 0 = nX := unhideR HNX
            have hcd := coded_err (unhideR HS _ (unhideR HB2)) her
            clear her HEr HX0 HX1 hE
            go_wp2_with fail
            refine hcd.mono ?_
            rintro e w6 ⟨rfl, k6⟩
            have HB6 := hideR (below_go (unhideR HB2) k6)
            clear hcd k6
            go_wp2
            go_ret
            exact ⟨rfl, unhideR HB6⟩
          | false =>
            have hE : powE T L.length step fr many = 2 := by rw [unhideR HNL, unhideR HEq, C19, C17]; rfl
            have her := unhideR HEr
            rw [hE] at her
            obtain rfl := unhideR HX0 (by rw [hE]; decide)
            obtain rfl : 0 = nX := unhideR HNX
            have hcd := coded_err (unhideR HS _ (unhideR HB2)) her
            clear her HEr HX0 HX1 hE
            go_wp2_with fail
            refine hcd.mono ?_
            rintro e w6 ⟨rfl, k6⟩
            have HB6 := hideR (below_go (unhideR HB2) k6)
            clear hcd k6
            go_wp2
            go_ret
            exact ⟨rfl, unhideR HB6⟩
        | false =>
          go_upto_region 19 with fail
          go_cut [130] from 121 to 130 (fun s130 wx => s130 = .bool (c19B nT nL) ∧ wx = wc)
          case' first =>
            obtain ⟨qB, hq⟩ : ∃ q, ((nT : Int) != (nL : Int)) = q := ⟨_, rfl⟩
            obtain ⟨zB, hz⟩ : ∃ z, ((nT : Int) == 0) = z := ⟨_, rfl⟩
            have HQ := hideR hq
            have HZ := hideR hz
            cases qB <;> cases zB
            all_goals
              go_wp2
            all_goals
              go_meet
              refine ⟨congrArg Value.bool ?_, rfl⟩
              have q1 := unhideR HQ
              have z1 := unhideR HZ
              unfold c19B
              rw [Bool.eq_iff_iff]
              simp at q1 z1 ⊢
              try omega
          obtain ⟨rfl, rfl⟩ := hcut
          cases C19 : c19B nT nL with
          | true =>
            have hE : powE T L.length step fr many = 5 := by rw [unhideR HNL, unhideR HEq, C19]; rfl
            have her := unhideR HEr
            rw [hE] at her
            obtain rfl := unhideR HX0 (by rw [hE]; decide)
            obtain rfl : 0 = nX := unhideR HNX
            have hcd := coded_err (unhideR HS _ (unhideR HB2)) her
            clear her HEr HX0 HX1 hE
            go_wp2_with fail
            refine hcd.mono ?_
            rintro e w6 ⟨rfl, k6⟩
            have HB6 := hideR (below_go (unhideR HB2) k6)
            clear hcd k6
            go_wp2
            go_ret
            exact ⟨rfl, unhideR HB6⟩
          | false =>
            have hE : powE T L.length step fr many = 0 := by rw [unhideR HNL, unhideR HEq, C19, C17]; rfl
            have g19 : ¬ (nT ≠ nL ∨ nT = 0) := of_decide_eq_false C19
            have g17 : ¬ (4000 < nT ∨ many < 1 ∨ 4000 < many) ∧ bB = false ∧ aB = false := by
              unfold c17B at C17
              rw [Bool.or_eq_false_iff, Bool.or_eq_false_iff] at C17
              exact ⟨of_decide_eq_false C17.1.1, C17.1.2, C17.2⟩
            obtain ⟨g171, rfl, rfl⟩ := g17
            have g4 : ¬ ((60 < nT ∧ nT ≤ 4000) ∨ (60 < nL ∧ nL ≤ 4000) ∨ (40 < many ∧ many ≤ 4000)) := of_decide_eq_false C4
            obtain rfl : nT = nL := by omega
            have HNLT := HNL
            obtain ⟨m, rfl⟩ : ∃ m : Nat, many = (m : Nat) := ⟨many.toNat, by omega⟩
            have hm : m ≤ 40 := by omega
            have hn60 : nT ≤ 60 := by omega
            obtain ⟨rfl, hbt⟩ := unhideR HBd rfl
            have hst := of_decide_eq_false (unhideR HsB)
            have hfr := of_decide_eq_false (unhideR HaB)
            have HTi := hideR (times_in hbt)
            obtain ⟨hxl, hxk⟩ := unhideR HX1 hE
            rw [Int.toNat_natCast] at hxl hxk
            obtain rfl : m = nX := by rw [← hxl]; exact unhideR HNX
            have her := unhideR HEr
            rw [hE] at her
            obtain rfl : er = .nilIface := by
              rcases her with ⟨_, h⟩ | ⟨k9, _, q, _⟩
              · exact h
              · omega
            have HXk := hideR hxk
            have HXl := hideR hxl
            rw [unhideR HNT] at HXk
            have t0 : ((m : Int) != (m : Int)) = false := by simp
            clear her hE hxk hxl HEr HX0 HX1 HsB HaB HEq HBd hbt g19 g171 g4 C4 C6 C17 C19 HNX HNL
            go_wp2
            go_loopw [18, 19] (fun bv kv wl => ∃ k : Nat, k ≤ m ∧ kv = .int .i64 (k : Nat) ∧ bv = .int .i64 (bestF X k) ∧ HeldR (Below wc.heap.size wc wl)) (fun _ kv _ => m + 1 - (intOf kv).toNat)
            case atStart => exact ⟨0, by omega, rfl, rfl, hideR (Below.refl _ _)⟩
            case round =>
              obtain ⟨k, hk, rfl, rfl, HW⟩ := hrel
              have HB3 := hideR (below_go (unhideR HB2) (unhideR HW))
              by_cases hlt : k < m
              · have tk : decide (k < m) = true := decide_eq_true hlt
                have jk : (k : Int) < (m : Int) := by omega
                have wk : IntKind.i64.wrap ((k : Int) + 1) = ((k + 1 : Nat) : Int) := by rw [show (k : Int) + 1 = ((k + 1 : Nat) : Int) by omega]; exact iwrap (by omega) (by omega)
                obtain ⟨bx, ox, rfl, hbx, x1⟩ := ((unhideR HXc).below (unhideR HW)).at_ k (by rw [unhideR HXl]; exact hlt)
                have hpk := unhideR HXk k hlt
                have hks : -43980465111040 ≤ (k : Int) * step ∧ (k : Int) * step ≤ 43980465111040 := by
                  have h1 := Int.mul_le_mul_of_nonneg_left (show step ≤ 1099511627776 by omega) (Int.natCast_nonneg k)
                  have h2 := Int.mul_le_mul_of_nonneg_left (show -1099511627776 ≤ step by omega) (Int.natCast_nonneg k)
                  omega
                obtain ⟨ks, hkse⟩ : ∃ ks, (k : Int) * step = ks := ⟨_, rfl⟩
                rw [hkse] at hks hpk
                obtain ⟨wv, hwv⟩ : ∃ wv, fr + ks = wv := ⟨_, rfl⟩
                rw [hwv] at hpk
                have wks : IntKind.i64.wrap ((k : Int) * step) = ks := by rw [hkse]; exact iwrap (by omega) (by omega)
                have wwv : IntKind.i64.wrap (fr + ks) = wv := by rw [hwv]; exact iwrap (by omega) (by omega)
                have HPo : HeldR (∀ u, Below wr.heap.size wr u → Calls Tryd.prog 16 #[.slice a1 nT c1, .slice a2 nT c2, .int .i64 wv] u (PoPost T L wv nT u)) := hideR (fun u q => powerAt_any (unhideR HT u (below_go (unhideR HB3) q)) (unhideR HL u (below_go (unhideR HB3) q)) (unhideR HNT) (unhideR HNLT) (by omega) (unhideR HTi) wv)
                have HNb : HeldR (bestF X (k + 1) = if eqF (X.getD k 0) && (decide (bestF X k < 0) || gtF (X.getD k 0) (X.getD (bestF X k).toNat 0)) then (k : Int) else bestF X k) := hideR rfl
                have hbr := bestF_range X k
                have HXw : HeldR (∀ u, Below wr.heap.size wr u → ∀ j, j < m → u.cell? ⟨bx, ox + j, none⟩ = some (.float .f64 (X.getD j 0))) := hideR (fun u q j hj => by
                  obtain ⟨b9, o9, e9, _, x9⟩ := (((unhideR HXc).below (unhideR HW)).below q).at_ j (by rw [unhideR HXl]; exact hj)
                  injection e9 with e9
                  injection e9 with e1 e2
                  subst e1
                  subst e2
                  exact x9)
                obtain ⟨xk, hxk⟩ : ∃ xk, X.getD k 0 = xk := ⟨_, rfl⟩
                rw [hxk] at x1 hpk HNb
                obtain ⟨bb, hbb⟩ : ∃ bb, bestF X k = bb := ⟨_, rfl⟩
                rw [hbb] at HNb hbr ⊢
                have HXK := hideR hxk
                clear hkse hwv hks hbx hbb hxk
                go_wp2_with fail
                refine wp_region_made 0 #[true, true, true, true, true, true, true, true, true, true, true, true, true, false] [.lets (· = .slice (some ⟨bx, ox, none⟩) m cx),
                  .lets (· = .int .i64 (k : Nat)),
                  .lets (· = .pointer (some ⟨bx, ox + k, none⟩)),
                  .lets (· = .float .f64 xk),
                  .lets (· = .slice a1 nT c1),
                  .lets (· = .slice a2 nT c2),
                  .lets (· = .int .i64 fr),
                  .lets (· = .int .i64 (k : Nat)),
                  .lets (· = .int .i64 step),
                  .lets (· = .int .i64 ks),
                  .lets (· = .int .i64 wv),
                  .lets (fun v => ∃ r, v = .float .f64 r ∧ PwEnd T L wv nT r),
                  .lets (· = .bool true)] [] [] (by kernel_rfl) (by kernel_rfl) rfl ?kinds (by kernel_rfl) (by kernel_rfl) (by kernel_rfl) ?_
                case kinds =>
                  constructor
                  · intro i h
                    rcases i with _ | _ | _ | _ | _ | _ | _ | _ | _ | _ | _ | _ | _ | i <;> simp [Kx.isMade] at h
                  · intro i h
                    rcases i with _ | _ | _ | _ | _ | _ | _ | _ | _ | _ | _ | _ | _ | i <;> simp [Kx.isUse] at h
                refine lexX_step (fun K hK => ⟨by kernel_rfl, ⟨_, rfl⟩, fun v hv => ?_, fun v hv => ?_⟩)
                · go_simp
                  exact mUpon_b
                subst hv
                go_simp
                refine hK _ ?_
                clear hK K
                refine lexX_step (fun K hK => ⟨by kernel_rfl, ⟨_, rfl⟩, fun v hv => ?_, fun v hv => ?_⟩)
                · go_simp
                  exact mUpon_b
                subst hv
                go_simp
                refine hK _ ?_
                clear hK K
                refine lexX_step (fun K hK => ⟨by kernel_rfl, ⟨_, rfl⟩, fun v hv => ?_, fun v hv => ?_⟩)
                · go_simp
                  exact mUpon_b
                subst hv
                go_simp
                refine hK _ ?_
                clear hK K
                refine lexX_step (fun K hK => ⟨by kernel_rfl, ⟨_, rfl⟩, fun v hv => ?_, fun v hv => ?_⟩)
                · have cc := (hv.cell (p := ⟨bx, ox + k, none⟩) (lt_cell x1)).trans x1
                  go_simp
                  exact mUpon_b
                subst hv
                go_simp
                refine hK _ ?_
                clear hK K
                refine lexX_step (fun K hK => ⟨by kernel_rfl, ⟨_, rfl⟩, fun v hv => ?_, fun v hv => ?_⟩)
                · go_simp
                  exact mUpon_b
                subst hv
                go_simp
                refine hK _ ?_
                clear hK K
                refine lexX_step (fun K hK => ⟨by kernel_rfl, ⟨_, rfl⟩, fun v hv => ?_, fun v hv => ?_⟩)
                · go_simp
                  exact mUpon_b
                subst hv
                go_simp
                refine hK _ ?_
                clear hK K
                refine lexX_step (fun K hK => ⟨by kernel_rfl, ⟨_, rfl⟩, fun v hv => ?_, fun v hv => ?_⟩)
                · go_simp
                  exact mUpon_b
                subst hv
                go_simp
                refine hK _ ?_
                clear hK K
                refine lexX_step (fun K hK => ⟨by kernel_rfl, ⟨_, rfl⟩, fun v hv => ?_, fun v hv => ?_⟩)
                · go_simp
                  exact mUpon_b
                subst hv
                go_simp
                refine hK _ ?_
                clear hK K
                refine lexX_step (fun K hK => ⟨by kernel_rfl, ⟨_, rfl⟩, fun v hv => ?_, fun v hv => ?_⟩)
                · go_simp
                  exact mUpon_b
                subst hv
                go_simp
                refine hK _ ?_
                clear hK K
                refine lexX_step (fun K hK => ⟨by kernel_rfl, ⟨_, rfl⟩, fun v hv => ?_, fun v hv => ?_⟩)
                · go_simp
                  exact mUpon_b
                subst hv
                go_simp
                refine hK _ ?_
                clear hK K
                refine lexX_step (fun K hK => ⟨by kernel_rfl, ⟨_, rfl⟩, fun v hv => ?_, fun v hv => ?_⟩)
                · go_simp
                  exact mUpon_b
                subst hv
                go_simp
                refine hK _ ?_
                clear hK K
                refine lexX_step (fun K hK => ⟨by kernel_rfl, ⟨_, xk, rfl, hpk⟩, fun v hv => ?_, fun v hv => ?_⟩)
                · go_simp
                  refine (unhideR HPo v hv).mono ?_
                  rintro e w9 ⟨r, rfl, hr, k9⟩
                  exact ⟨_, rfl, ⟨r, rfl, hr⟩, k9⟩
                obtain ⟨r, rfl, hr⟩ := hv
                go_simp
                refine hK _ ?_
                clear hK K
                have hsb := fun v => sameBits_any xk r v
                rw [same_iff.2 (hpk.same hr)] at hsb
                refine lexX_step (fun K hK => ⟨by kernel_rfl, ⟨_, rfl⟩, fun v hv => ?_, fun v hv => ?_⟩)
                · go_simp
                  refine (hsb v).mono ?_
                  rintro e w9 ⟨rfl, rfl⟩
                  exact ⟨_, rfl, rfl, Below.refl _ _⟩
                subst hv
                go_simp
                refine hK _ ?_
                clear hK K
                refine lexX_end (fun v5 hv => ?_)
                have K5 := hv.low
                clear hv hsb hr
                refine wpAny_step (i := 13) (by kernel_rfl) rfl (by kernel_rfl) (fun K hK => ?_)
                unfold Oper.wp
                go_simp
                refine hK _ _ ?_
                clear hK K
                refine wpAny_end (by kernel_rfl) ?_
                have HW5 := hideR (below_go (unhideR HW) K5)
                have y1 := unhideR HXw v5 K5 k hlt
                rw [unhideR HXK] at y1
                clear hpk HPo x1 HW
                cases te : eqF xk with
                | false =>
                  rw [te] at HNb
                  have HNn : HeldR (bestF X (k + 1) = bb) := hideR (by rw [unhideR HNb]; rfl)
                  have te' : (FloatKind.f64.format.order xk xk == some .eq) = false := te
                  clear HNb te HXw K5
                  go_wp2_with fail
                  refine wp_region_lets [(· = .slice (some ⟨bx, ox, none⟩) m cx),
                    (· = .int .i64 (k : Nat)),
                    (· = .pointer (some ⟨bx, ox + k, none⟩)),
                    (· = .float .f64 xk),
                    (· = .slice (some ⟨bx, ox, none⟩) m cx),
                    (· = .int .i64 (k : Nat)),
                    (· = .pointer (some ⟨bx, ox + k, none⟩)),
                    (· = .float .f64 xk),
                    (· = .bool false),
                    (· = .bool false),
                    (· = undef),
                    (· = undef),
                    (· = undef),
                    (· = undef),
                    (· = undef),
                    (· = undef),
                    (· = undef),
                    (· = undef),
                    (· = undef),
                    (· = undef),
                    (· = undef),
                    (· = undef),
                    (· = undef),
                    (· = .bool false)] (by kernel_rfl) (by kernel_rfl) ?_
                  refine lexL_step (fun K hK => ⟨by kernel_rfl, ⟨_, rfl⟩, fun n => ?_, fun v hv => ?_⟩)
                  · go_simp
                    exact lUpon_one
                  subst hv
                  go_simp
                  refine hK _ ?_
                  clear hK K
                  refine lexL_step (fun K hK => ⟨by kernel_rfl, ⟨_, rfl⟩, fun n => ?_, fun v hv => ?_⟩)
                  · go_simp
                    exact lUpon_one
                  subst hv
                  go_simp
                  refine hK _ ?_
                  clear hK K
                  refine lexL_step (fun K hK => ⟨by kernel_rfl, ⟨_, rfl⟩, fun n => ?_, fun v hv => ?_⟩)
                  · go_simp
                    exact lUpon_one
                  subst hv
                  go_simp
                  refine hK _ ?_
                  clear hK K
                  refine lexL_step (fun K hK => ⟨by kernel_rfl, ⟨_, rfl⟩, fun n => ?_, fun v hv => ?_⟩)
                  · go_simp
                    exact lUpon_one
                  subst hv
                  go_simp
                  refine hK _ ?_
                  clear hK K
                  refine lexL_step (fun K hK => ⟨by kernel_rfl, ⟨_, rfl⟩, fun n => ?_, fun v hv => ?_⟩)
                  · go_simp
                    exact lUpon_one
                  subst hv
                  go_simp
                  refine hK _ ?_
                  clear hK K
                  refine lexL_step (fun K hK => ⟨by kernel_rfl, ⟨_, rfl⟩, fun n => ?_, fun v hv => ?_⟩)
                  · go_simp
                    exact lUpon_one
                  subst hv
                  go_simp
                  refine hK _ ?_
                  clear hK K
                  refine lexL_step (fun K hK => ⟨by kernel_rfl, ⟨_, rfl⟩, fun n => ?_, fun v hv => ?_⟩)
                  · go_simp
                    exact lUpon_one
                  subst hv
                  go_simp
                  refine hK _ ?_
                  clear hK K
                  refine lexL_step (fun K hK => ⟨by kernel_rfl, ⟨_, rfl⟩, fun n => ?_, fun v hv => ?_⟩)
                  · go_simp
                    exact lUpon_one
                  subst hv
                  go_simp
                  refine hK _ ?_
                  clear hK K
                  refine lexL_step (fun K hK => ⟨by kernel_rfl, ⟨_, rfl⟩, fun n => ?_, fun v hv => ?_⟩)
                  · go_simp
                    exact lUpon_one
                  subst hv
                  go_simp
                  refine hK _ ?_
                  clear hK K
                  refine lexL_step (fun K hK => ⟨by kernel_rfl, ⟨_, rfl⟩, fun n => ?_, fun v hv => ?_⟩)
                  · go_simp
                    exact lUpon_one
                  subst hv
                  go_simp
                  refine hK _ ?_
                  clear hK K
                  refine lexL_skip (fun K hK => ⟨by kernel_rfl, ?_⟩)
                  go_simp
                  refine hK _ ?_
                  clear hK K
                  refine lexL_skip (fun K hK => ⟨by kernel_rfl, ?_⟩)
                  go_simp
                  refine hK _ ?_
                  clear hK K
                  refine lexL_skip (fun K hK => ⟨by kernel_rfl, ?_⟩)
                  go_simp
                  refine hK _ ?_
                  clear hK K
                  refine lexL_skip (fun K hK => ⟨by kernel_rfl, ?_⟩)
                  go_simp
                  refine hK _ ?_
                  clear hK K
                  refine lexL_skip (fun K hK => ⟨by kernel_rfl, ?_⟩)
                  go_simp
                  refine hK _ ?_
                  clear hK K
                  refine lexL_skip (fun K hK => ⟨by kernel_rfl, ?_⟩)
                  go_simp
                  refine hK _ ?_
                  clear hK K
                  refine lexL_skip (fun K hK => ⟨by kernel_rfl, ?_⟩)
                  go_simp
                  refine hK _ ?_
                  clear hK K
                  refine lexL_skip (fun K hK => ⟨by kernel_rfl, ?_⟩)
                  go_simp
                  refine hK _ ?_
                  clear hK K
                  refine lexL_skip (fun K hK => ⟨by kernel_rfl, ?_⟩)
                  go_simp
                  refine hK _ ?_
                  clear hK K
                  refine lexL_skip (fun K hK => ⟨by kernel_rfl, ?_⟩)
                  go_simp
                  refine hK _ ?_
                  clear hK K
                  refine lexL_skip (fun K hK => ⟨by kernel_rfl, ?_⟩)
                  go_simp
                  refine hK _ ?_
                  clear hK K
                  refine lexL_skip (fun K hK => ⟨by kernel_rfl, ?_⟩)
                  go_simp
                  refine hK _ ?_
                  clear hK K
                  refine lexL_skip (fun K hK => ⟨by kernel_rfl, ?_⟩)
                  go_simp
                  refine hK _ ?_
                  clear hK K
                  refine lexL_step (fun K hK => ⟨by kernel_rfl, ⟨_, rfl⟩, fun n => ?_, fun v hv => ?_⟩)
                  · go_simp
                    exact lUpon_one
                  subst hv
                  go_simp
                  refine hK _ ?_
                  clear hK K
                  refine lexL_end ?_
                  intro n9
                  have HW6 := hideR (below_go (unhideR HW5) (drawn_below v5 n9))
                  clear HW5 y1
                  generalize v5.drewN n9 = v6 at *
                  go_wp2
                  exact ⟨⟨k + 1, by omega, rfl, by rw [unhideR HNn], HW6⟩, by simp [intOf]; omega⟩
                | true =>
                  rw [te] at HNb
                  have te' : (FloatKind.f64.format.order xk xk == some .eq) = true := te
                  by_cases hb0 : bb < 0
                  · have tb : decide (bb < 0) = true := decide_eq_true hb0
                    rw [tb] at HNb
                    have HNn : HeldR (bestF X (k + 1) = (k : Int)) := hideR (by rw [unhideR HNb]; rfl)
                    clear HNb te HXw K5 hb0 hbr
                    go_wp2_with fail
                    refine wp_region_lets [(· = .slice (some ⟨bx, ox, none⟩) m cx),
                      (· = .int .i64 (k : Nat)),
                      (· = .pointer (some ⟨bx, ox + k, none⟩)),
                      (· = .float .f64 xk),
                      (· = .slice (some ⟨bx, ox, none⟩) m cx),
                      (· = .int .i64 (k : Nat)),
                      (· = .pointer (some ⟨bx, ox + k, none⟩)),
                      (· = .float .f64 xk),
                      (· = .bool true),
                      (· = .bool true),
                      (· = .int .i64 bb),
                      (· = .bool true),
                      (· = .bool true),
                      (· = undef),
                      (· = undef),
                      (· = undef),
                      (· = undef),
                      (· = undef),
                      (· = undef),
                      (· = undef),
                      (· = undef),
                      (· = undef),
                      (· = .bool true),
                      (· = .bool true)] (by kernel_rfl) (by kernel_rfl) ?_
                    refine lexL_step (fun K hK => ⟨by kernel_rfl, ⟨_, rfl⟩, fun n => ?_, fun v hv => ?_⟩)
                    · go_simp
                      exact lUpon_one
                    subst hv
                    go_simp
                    refine hK _ ?_
                    clear hK K
                    refine lexL_step (fun K hK => ⟨by kernel_rfl, ⟨_, rfl⟩, fun n => ?_, fun v hv => ?_⟩)
                    · go_simp
                      exact lUpon_one
                    subst hv
                    go_simp
                    refine hK _ ?_
                    clear hK K
                    refine lexL_step (fun K hK => ⟨by kernel_rfl, ⟨_, rfl⟩, fun n => ?_, fun v hv => ?_⟩)
                    · go_simp
                      exact lUpon_one
                    subst hv
                    go_simp
                    refine hK _ ?_
                    clear hK K
                    refine lexL_step (fun K hK => ⟨by kernel_rfl, ⟨_, rfl⟩, fun n => ?_, fun v hv => ?_⟩)
                    · go_simp
                      exact lUpon_one
                    subst hv
                    go_simp
                    refine hK _ ?_
                    clear hK K
                    refine lexL_step (fun K hK => ⟨by kernel_rfl, ⟨_, rfl⟩, fun n => ?_, fun v hv => ?_⟩)
                    · go_simp
                      exact lUpon_one
                    subst hv
                    go_simp
                    refine hK _ ?_
                    clear hK K
                    refine lexL_step (fun K hK => ⟨by kernel_rfl, ⟨_, rfl⟩, fun n => ?_, fun v hv => ?_⟩)
                    · go_simp
                      exact lUpon_one
                    subst hv
                    go_simp
                    refine hK _ ?_
                    clear hK K
                    refine lexL_step (fun K hK => ⟨by kernel_rfl, ⟨_, rfl⟩, fun n => ?_, fun v hv => ?_⟩)
                    · go_simp
                      exact lUpon_one
                    subst hv
                    go_simp
                    refine hK _ ?_
                    clear hK K
                    refine lexL_step (fun K hK => ⟨by kernel_rfl, ⟨_, rfl⟩, fun n => ?_, fun v hv => ?_⟩)
                    · go_simp
                      exact lUpon_one
                    subst hv
                    go_simp
                    refine hK _ ?_
                    clear hK K
                    refine lexL_step (fun K hK => ⟨by kernel_rfl, ⟨_, rfl⟩, fun n => ?_, fun v hv => ?_⟩)
                    · go_simp
                      exact lUpon_one
                    subst hv
                    go_simp
                    refine hK _ ?_
                    clear hK K
                    refine lexL_step (fun K hK => ⟨by kernel_rfl, ⟨_, rfl⟩, fun n => ?_, fun v hv => ?_⟩)
                    · go_simp
                      exact lUpon_one
                    subst hv
                    go_simp
                    refine hK _ ?_
                    clear hK K
                    refine lexL_step (fun K hK => ⟨by kernel_rfl, ⟨_, rfl⟩, fun n => ?_, fun v hv => ?_⟩)
                    · go_simp
                      exact lUpon_one
                    subst hv
                    go_simp
                    refine hK _ ?_
                    clear hK K
                    refine lexL_step (fun K hK => ⟨by kernel_rfl, ⟨_, rfl⟩, fun n => ?_, fun v hv => ?_⟩)
                    · go_simp
                      exact lUpon_one
                    subst hv
                    go_simp
                    refine hK _ ?_
                    clear hK K
                    refine lexL_step (fun K hK => ⟨by kernel_rfl, ⟨_, rfl⟩, fun n => ?_, fun v hv => ?_⟩)
                    · go_simp
                      exact lUpon_one
                    subst hv
                    go_simp
                    refine hK _ ?_
                    clear hK K
                    refine lexL_skip (fun K hK => ⟨by kernel_rfl, ?_⟩)
                    go_simp
                    refine hK _ ?_
                    clear hK K
                    refine lexL_skip (fun K hK => ⟨by kernel_rfl, ?_⟩)
                    go_simp
                    refine hK _ ?_
                    clear hK K
                    refine lexL_skip (fun K hK => ⟨by kernel_rfl, ?_⟩)
                    go_simp
                    refine hK _ ?_
                    clear hK K
                    refine lexL_skip (fun K hK => ⟨by kernel_rfl, ?_⟩)
                    go_simp
                    refine hK _ ?_
                    clear hK K
                    refine lexL_skip (fun K hK => ⟨by kernel_rfl, ?_⟩)
                    go_simp
                    refine hK _ ?_
                    clear hK K
                    refine lexL_skip (fun K hK => ⟨by kernel_rfl, ?_⟩)
                    go_simp
                    refine hK _ ?_
                    clear hK K
                    refine lexL_skip (fun K hK => ⟨by kernel_rfl, ?_⟩)
                    go_simp
                    refine hK _ ?_
                    clear hK K
                    refine lexL_skip (fun K hK => ⟨by kernel_rfl, ?_⟩)
                    go_simp
                    refine hK _ ?_
                    clear hK K
                    refine lexL_skip (fun K hK => ⟨by kernel_rfl, ?_⟩)
                    go_simp
                    refine hK _ ?_
                    clear hK K
                    refine lexL_step (fun K hK => ⟨by kernel_rfl, ⟨_, rfl⟩, fun n => ?_, fun v hv => ?_⟩)
                    · go_simp
                      exact lUpon_one
                    subst hv
                    go_simp
                    refine hK _ ?_
                    clear hK K
                    refine lexL_step (fun K hK => ⟨by kernel_rfl, ⟨_, rfl⟩, fun n => ?_, fun v hv => ?_⟩)
                    · go_simp
                      exact lUpon_one
                    subst hv
                    go_simp
                    refine hK _ ?_
                    clear hK K
                    refine lexL_end ?_
                    intro n9
                    have HW6 := hideR (below_go (unhideR HW5) (drawn_below v5 n9))
                    clear HW5 y1
                    generalize v5.drewN n9 = v6 at *
                    go_wp2
                    exact ⟨⟨k + 1, by omega, rfl, by rw [unhideR HNn], HW6⟩, by simp [intOf]; omega⟩
                  · have tb : decide (bb < 0) = false := decide_eq_false hb0
                    rw [tb] at HNb
                    obtain ⟨j, rfl⟩ : ∃ j : Nat, bb = (j : Nat) := ⟨bb.toNat, by omega⟩
                    rw [Int.toNat_natCast] at HNb
                    have hj : j < m := by omega
                    have jj : (j : Int) < (m : Int) := by omega
                    have y2 := unhideR HXw v5 K5 j hj
                    generalize X.getD j 0 = xj at *
                    cases tg : gtF xk xj with
                    | true =>
                      rw [tg] at HNb
                      have HNn : HeldR (bestF X (k + 1) = (k : Int)) := hideR (by rw [unhideR HNb]; rfl)
                      have tg' : (FloatKind.f64.format.order xk xj == some .gt) = true := tg
                      clear HNb te tg HXw K5 hb0 hbr
                      go_wp2_with fail
                      refine wp_region_lets [(· = .slice (some ⟨bx, ox, none⟩) m cx),
                        (· = .int .i64 (k : Nat)),
                        (· = .pointer (some ⟨bx, ox + k, none⟩)),
                        (· = .float .f64 xk),
                        (· = .slice (some ⟨bx, ox, none⟩) m cx),
                        (· = .int .i64 (k : Nat)),
                        (· = .pointer (some ⟨bx, ox + k, none⟩)),
                        (· = .float .f64 xk),
                        (· = .bool true),
                        (· = .bool true),
                        (· = .int .i64 (j : Nat)),
                        (· = .bool false),
                        (· = .bool false),
                        (· = .slice (some ⟨bx, ox, none⟩) m cx),
                        (· = .int .i64 (k : Nat)),
                        (· = .pointer (some ⟨bx, ox + k, none⟩)),
                        (· = .float .f64 xk),
                        (· = .slice (some ⟨bx, ox, none⟩) m cx),
                        (· = .int .i64 (j : Nat)),
                        (· = .pointer (some ⟨bx, ox + j, none⟩)),
                        (· = .float .f64 xj),
                        (· = .bool true),
                        (· = .bool true),
                        (· = .bool true)] (by kernel_rfl) (by kernel_rfl) ?_
                      refine lexL_step (fun K hK => ⟨by kernel_rfl, ⟨_, rfl⟩, fun n => ?_, fun v hv => ?_⟩)
                      · go_simp
                        exact lUpon_one
                      subst hv
                      go_simp
                      refine hK _ ?_
                      clear hK K
                      refine lexL_step (fun K hK => ⟨by kernel_rfl, ⟨_, rfl⟩, fun n => ?_, fun v hv => ?_⟩)
                      · go_simp
                        exact lUpon_one
                      subst hv
                      go_simp
                      refine hK _ ?_
                      clear hK K
                      refine lexL_step (fun K hK => ⟨by kernel_rfl, ⟨_, rfl⟩, fun n => ?_, fun v hv => ?_⟩)
                      · go_simp
                        exact lUpon_one
                      subst hv
                      go_simp
                      refine hK _ ?_
                      clear hK K
                      refine lexL_step (fun K hK => ⟨by kernel_rfl, ⟨_, rfl⟩, fun n => ?_, fun v hv => ?_⟩)
                      · go_simp
                        exact lUpon_one
                      subst hv
                      go_simp
                      refine hK _ ?_
                      clear hK K
                      refine lexL_step (fun K hK => ⟨by kernel_rfl, ⟨_, rfl⟩, fun n => ?_, fun v hv => ?_⟩)
                      · go_simp
                        exact lUpon_one
                      subst hv
                      go_simp
                      refine hK _ ?_
                      clear hK K
                      refine lexL_step (fun K hK => ⟨by kernel_rfl, ⟨_, rfl⟩, fun n => ?_, fun v hv => ?_⟩)
                      · go_simp
                        exact lUpon_one
                      subst hv
                      go_simp
                      refine hK _ ?_
                      clear hK K
                      refine lexL_step (fun K hK => ⟨by kernel_rfl, ⟨_, rfl⟩, fun n => ?_, fun v hv => ?_⟩)
                      · go_simp
                        exact lUpon_one
                      subst hv
                      go_simp
                      refine hK _ ?_
                      clear hK K
                      refine lexL_step (fun K hK => ⟨by kernel_rfl, ⟨_, rfl⟩, fun n => ?_, fun v hv => ?_⟩)
                      · go_simp
                        exact lUpon_one
                      subst hv
                      go_simp
                      refine hK _ ?_
                      clear hK K
                      refine lexL_step (fun K hK => ⟨by kernel_rfl, ⟨_, rfl⟩, fun n => ?_, fun v hv => ?_⟩)
                      · go_simp
                        exact lUpon_one
                      subst hv
                      go_simp
                      refine hK _ ?_
                      clear hK K
                      refine lexL_step (fun K hK => ⟨by kernel_rfl, ⟨_, rfl⟩, fun n => ?_, fun v hv => ?_⟩)
                      · go_simp
                        exact lUpon_one
                      subst hv
                      go_simp
                      refine hK _ ?_
                      clear hK K
                      refine lexL_step (fun K hK => ⟨by kernel_rfl, ⟨_, rfl⟩, fun n => ?_, fun v hv => ?_⟩)
                      · go_simp
                        exact lUpon_one
                      subst hv
                      go_simp
                      refine hK _ ?_
                      clear hK K
                      refine lexL_step (fun K hK => ⟨by kernel_rfl, ⟨_, rfl⟩, fun n => ?_, fun v hv => ?_⟩)
                      · go_simp
                        exact lUpon_one
                      subst hv
                      go_simp
                      refine hK _ ?_
                      clear hK K
                      refine lexL_step (fun K hK => ⟨by kernel_rfl, ⟨_, rfl⟩, fun n => ?_, fun v hv => ?_⟩)
                      · go_simp
                        exact lUpon_one
                      subst hv
                      go_simp
                      refine hK _ ?_
                      clear hK K
                      refine lexL_step (fun K hK => ⟨by kernel_rfl, ⟨_, rfl⟩, fun n => ?_, fun v hv => ?_⟩)
                      · go_simp
                        exact lUpon_one
                      subst hv
                      go_simp
                      refine hK _ ?_
                      clear hK K
                      refine lexL_step (fun K hK => ⟨by kernel_rfl, ⟨_, rfl⟩, fun n => ?_, fun v hv => ?_⟩)
                      · go_simp
                        exact lUpon_one
                      subst hv
                      go_simp
                      refine hK _ ?_
                      clear hK K
                      refine lexL_step (fun K hK => ⟨by kernel_rfl, ⟨_, rfl⟩, fun n => ?_, fun v hv => ?_⟩)
                      · go_simp
                        exact lUpon_one
                      subst hv
                      go_simp
                      refine hK _ ?_
                      clear hK K
                      refine lexL_step (fun K hK => ⟨by kernel_rfl, ⟨_, rfl⟩, fun n => ?_, fun v hv => ?_⟩)
                      · go_simp
                        exact lUpon_one
                      subst hv
                      go_simp
                      refine hK _ ?_
                      clear hK K
                      refine lexL_step (fun K hK => ⟨by kernel_rfl, ⟨_, rfl⟩, fun n => ?_, fun v hv => ?_⟩)
                      · go_simp
                        exact lUpon_one
                      subst hv
                      go_simp
                      refine hK _ ?_
                      clear hK K
                      refine lexL_step (fun K hK => ⟨by kernel_rfl, ⟨_, rfl⟩, fun n => ?_, fun v hv => ?_⟩)
                      · go_simp
                        exact lUpon_one
                      subst hv
                      go_simp
                      refine hK _ ?_
                      clear hK K
                      refine lexL_step (fun K hK => ⟨by kernel_rfl, ⟨_, rfl⟩, fun n => ?_, fun v hv => ?_⟩)
                      · go_simp
                        exact lUpon_one
                      subst hv
                      go_simp
                      refine hK _ ?_
                      clear hK K
                      refine lexL_step (fun K hK => ⟨by kernel_rfl, ⟨_, rfl⟩, fun n => ?_, fun v hv => ?_⟩)
                      · go_simp
                        exact lUpon_one
                      subst hv
                      go_simp
                      refine hK _ ?_
                      clear hK K
                      refine lexL_step (fun K hK => ⟨by kernel_rfl, ⟨_, rfl⟩, fun n => ?_, fun v hv => ?_⟩)
                      · go_simp
                        exact lUpon_one
                      subst hv
                      go_simp
                      refine hK _ ?_
                      clear hK K
                      refine lexL_step (fun K hK => ⟨by kernel_rfl, ⟨_, rfl⟩, fun n => ?_, fun v hv => ?_⟩)
                      · go_simp
                        exact lUpon_one
                      subst hv
                      go_simp
                      refine hK _ ?_
                      clear hK K
                      refine lexL_step (fun K hK => ⟨by kernel_rfl, ⟨_, rfl⟩, fun n => ?_, fun v hv => ?_⟩)
                      · go_simp
                        exact lUpon_one
                      subst hv
                      go_simp
                      refine hK _ ?_
                      clear hK K
                      refine lexL_end ?_
                      intro n9
                      have HW6 := hideR (below_go (unhideR HW5) (drawn_below v5 n9))
                      clear HW5 y1 y2
                      generalize v5.drewN n9 = v6 at *
                      go_wp2
                      exact ⟨⟨k + 1, by omega, rfl, by rw [unhideR HNn], HW6⟩, by simp [intOf]; omega⟩
                    | false =>
                      rw [tg] at HNb
                      have HNn : HeldR (bestF X (k + 1) = (j : Int)) := hideR (by rw [unhideR HNb]; rfl)
                      have tg' : (FloatKind.f64.format.order xk xj == some .gt) = false := tg
                      clear HNb te tg HXw K5 hb0 hbr
                      go_wp2_with fail
                      refine wp_region_lets [(· = .slice (some ⟨bx, ox, none⟩) m cx),
                        (· = .int .i64 (k : Nat)),
                        (· = .pointer (some ⟨bx, ox + k, none⟩)),
                        (· = .float .f64 xk),
                        (· = .slice (some ⟨bx, ox, none⟩) m cx),
                        (· = .int .i64 (k : Nat)),
                        (· = .pointer (some ⟨bx, ox + k, none⟩)),
                        (· = .float .f64 xk),
                        (· = .bool true),
                        (· = .bool true),
                        (· = .int .i64 (j : Nat)),
                        (· = .bool false),
                        (· = .bool false),
                        (· = .slice (some ⟨bx, ox, none⟩) m cx),
                        (· = .int .i64 (k : Nat)),
                        (· = .pointer (some ⟨bx, ox + k, none⟩)),
                        (· = .float .f64 xk),
                        (· = .slice (some ⟨bx, ox, none⟩) m cx),
                        (· = .int .i64 (j : Nat)),
                        (· = .pointer (some ⟨bx, ox + j, none⟩)),
                        (· = .float .f64 xj),
                        (· = .bool false),
                        (· = .bool false),
                        (· = .bool false)] (by kernel_rfl) (by kernel_rfl) ?_
                      refine lexL_step (fun K hK => ⟨by kernel_rfl, ⟨_, rfl⟩, fun n => ?_, fun v hv => ?_⟩)
                      · go_simp
                        exact lUpon_one
                      subst hv
                      go_simp
                      refine hK _ ?_
                      clear hK K
                      refine lexL_step (fun K hK => ⟨by kernel_rfl, ⟨_, rfl⟩, fun n => ?_, fun v hv => ?_⟩)
                      · go_simp
                        exact lUpon_one
                      subst hv
                      go_simp
                      refine hK _ ?_
                      clear hK K
                      refine lexL_step (fun K hK => ⟨by kernel_rfl, ⟨_, rfl⟩, fun n => ?_, fun v hv => ?_⟩)
                      · go_simp
                        exact lUpon_one
                      subst hv
                      go_simp
                      refine hK _ ?_
                      clear hK K
                      refine lexL_step (fun K hK => ⟨by kernel_rfl, ⟨_, rfl⟩, fun n => ?_, fun v hv => ?_⟩)
                      · go_simp
                        exact lUpon_one
                      subst hv
                      go_simp
                      refine hK _ ?_
                      clear hK K
                      refine lexL_step (fun K hK => ⟨by kernel_rfl, ⟨_, rfl⟩, fun n => ?_, fun v hv => ?_⟩)
                      · go_simp
                        exact lUpon_one
                      subst hv
                      go_simp
                      refine hK _ ?_
                      clear hK K
                      refine lexL_step (fun K hK => ⟨by kernel_rfl, ⟨_, rfl⟩, fun n => ?_, fun v hv => ?_⟩)
                      · go_simp
                        exact lUpon_one
                      subst hv
                      go_simp
                      refine hK _ ?_
                      clear hK K
                      refine lexL_step (fun K hK => ⟨by kernel_rfl, ⟨_, rfl⟩, fun n => ?_, fun v hv => ?_⟩)
                      · go_simp
                        exact lUpon_one
                      subst hv
                      go_simp
                      refine hK _ ?_
                      clear hK K
                      refine lexL_step (fun K hK => ⟨by kernel_rfl, ⟨_, rfl⟩, fun n => ?_, fun v hv => ?_⟩)
                      · go_simp
                        exact lUpon_one
                      subst hv
                      go_simp
                      refine hK _ ?_
                      clear hK K
                      refine lexL_step (fun K hK => ⟨by kernel_rfl, ⟨_, rfl⟩, fun n => ?_, fun v hv => ?_⟩)
                      · go_simp
                        exact lUpon_one
                      subst hv
                      go_simp
                      refine hK _ ?_
                      clear hK K
                      refine lexL_step (fun K hK => ⟨by kernel_rfl, ⟨_, rfl⟩, fun n => ?_, fun v hv => ?_⟩)
                      · go_simp
                        exact lUpon_one
                      subst hv
                      go_simp
                      refine hK _ ?_
                      clear hK K
                      refine lexL_step (fun K hK => ⟨by kernel_rfl, ⟨_, rfl⟩, fun n => ?_, fun v hv => ?_⟩)
                      · go_simp
                        exact lUpon_one
                      subst hv
                      go_simp
                      refine hK _ ?_
                      clear hK K
                      refine lexL_step (fun K hK => ⟨by kernel_rfl, ⟨_, rfl⟩, fun n => ?_, fun v hv => ?_⟩)
                      · go_simp
                        exact lUpon_one
                      subst hv
                      go_simp
                      refine hK _ ?_
                      clear hK K
                      refine lexL_step (fun K hK => ⟨by kernel_rfl, ⟨_, rfl⟩, fun n => ?_, fun v hv => ?_⟩)
                      · go_simp
                        exact lUpon_one
                      subst hv
                      go_simp
                      refine hK _ ?_
                      clear hK K
                      refine lexL_step (fun K hK => ⟨by kernel_rfl, ⟨_, rfl⟩, fun n => ?_, fun v hv => ?_⟩)
                      · go_simp
                        exact lUpon_one
                      subst hv
                      go_simp
                      refine hK _ ?_
                      clear hK K
                      refine lexL_step (fun K hK => ⟨by kernel_rfl, ⟨_, rfl⟩, fun n => ?_, fun v hv => ?_⟩)
                      · go_simp
                        exact lUpon_one
                      subst hv
                      go_simp
                      refine hK _ ?_
                      clear hK K
                      refine lexL_step (fun K hK => ⟨by kernel_rfl, ⟨_, rfl⟩, fun n => ?_, fun v hv => ?_⟩)
                      · go_simp
                        exact lUpon_one
                      subst hv
                      go_simp
                      refine hK _ ?_
                      clear hK K
                      refine lexL_step (fun K hK => ⟨by kernel_rfl, ⟨_, rfl⟩, fun n => ?_, fun v hv => ?_⟩)
                      · go_simp
                        exact lUpon_one
                      subst hv
                      go_simp
                      refine hK _ ?_
                      clear hK K
                      refine lexL_step (fun K hK => ⟨by kernel_rfl, ⟨_, rfl⟩, fun n => ?_, fun v hv => ?_⟩)
                      · go_simp
                        exact lUpon_one
                      subst hv
                      go_simp
                      refine hK _ ?_
                      clear hK K
                      refine lexL_step (fun K hK => ⟨by kernel_rfl, ⟨_, rfl⟩, fun n => ?_, fun v hv => ?_⟩)
                      · go_simp
                        exact lUpon_one
                      subst hv
                      go_simp
                      refine hK _ ?_
                      clear hK K
                      refine lexL_step (fun K hK => ⟨by kernel_rfl, ⟨_, rfl⟩, fun n => ?_, fun v hv => ?_⟩)
                      · go_simp
                        exact lUpon_one
                      subst hv
                      go_simp
                      refine hK _ ?_
                      clear hK K
                      refine lexL_step (fun K hK => ⟨by kernel_rfl, ⟨_, rfl⟩, fun n => ?_, fun v hv => ?_⟩)
                      · go_simp
                        exact lUpon_one
                      subst hv
                      go_simp
                      refine hK _ ?_
                      clear hK K
                      refine lexL_step (fun K hK => ⟨by kernel_rfl, ⟨_, rfl⟩, fun n => ?_, fun v hv => ?_⟩)
                      · go_simp
                        exact lUpon_one
                      subst hv
                      go_simp
                      refine hK _ ?_
                      clear hK K
                      refine lexL_step (fun K hK => ⟨by kernel_rfl, ⟨_, rfl⟩, fun n => ?_, fun v hv => ?_⟩)
                      · go_simp
                        exact lUpon_one
                      subst hv
                      go_simp
                      refine hK _ ?_
                      clear hK K
                      refine lexL_step (fun K hK => ⟨by kernel_rfl, ⟨_, rfl⟩, fun n => ?_, fun v hv => ?_⟩)
                      · go_simp
                        exact lUpon_one
                      subst hv
                      go_simp
                      refine hK _ ?_
                      clear hK K
                      refine lexL_end ?_
                      intro n9
                      have HW6 := hideR (below_go (unhideR HW5) (drawn_below v5 n9))
                      clear HW5 y1 y2
                      generalize v5.drewN n9 = v6 at *
                      go_wp2
                      exact ⟨⟨k + 1, by omega, rfl, by rw [unhideR HNn], HW6⟩, by simp [intOf]; omega⟩
              · obtain rfl : m = k := by omega
                have tk : decide (m < m) = false := decide_eq_false hlt
                have hbe := unhideR HBe wr ax cx X ((unhideR HXc).below (unhideR HW)) (by rw [unhideR HXl]; omega)
                have hbr := bestF_range X m
                rw [unhideR HXl] at hbe
                obtain ⟨bb, hbb⟩ : ∃ bb, bestF X m = bb := ⟨_, rfl⟩
                rw [hbb] at hbe hbr ⊢
                clear hbb
                by_cases hb0 : bb < 0
                · have tb : decide (bb < 0) = true := decide_eq_true hb0
                  rw [if_pos hb0, decide_eq_false (show ¬ 0 ≤ bb by omega)] at hbe
                  go_wp2_with fail
                  refine hbe.mono ?_
                  rintro e w6 ⟨rfl, k6⟩
                  have HB6 := hideR (below_go (unhideR HB3) k6)
                  clear hbe k6
                  go_wp2
                  go_ret
                  exact ⟨rfl, unhideR HB6⟩
                · have tb : decide (bb < 0) = false := decide_eq_false hb0
                  rw [if_neg hb0, decide_eq_true (show 0 ≤ bb by omega)] at hbe
                  have ub : (bb == bb) = true := by simp
                  go_wp2_with fail
                  refine hbe.mono ?_
                  rintro e w6 ⟨rfl, k6⟩
                  have HB6 := hideR (below_go (unhideR HB3) k6)
                  clear hbe k6
                  go_wp2
                  go_ret
                  exact ⟨rfl, unhideR HB6⟩
end Go.Proofs.YtmgnobeaacjdjajDoor
