/-
  The law of waves: what the program's Power and Best must answer; its first look.
-/
import Derived.Test.YtmgnobeaacjdjajDoorLtPo
import Derived.Test.YtmgnobeaacjdjajDoorCodK4
namespace Go.Proofs.YtmgnobeaacjdjajDoor
open Go Go.RowKit

def largeB (n : Int) : Bool := decide (1099511627776 < n ∨ n < -1099511627776)
set_option maxRecDepth 100000 in
theorem large_any (n : Int) (w : World) : Calls Tryd.prog 14 #[.int .i64 n] w fun e w' => e = .returned (.bool (largeB n)) ∧ w' = w := by
  by_cases h1 : 1099511627776 < n
  · have t1 : decide (1099511627776 < n) = true := decide_eq_true h1
    have e : largeB n = true := decide_eq_true (.inl h1)
    rw [e]
    go_enter Tryd.func14, Tryd.ntmps14
    go_wp2
    go_ret
    exact ⟨rfl, rfl⟩
  · have t1 : decide (1099511627776 < n) = false := decide_eq_false h1
    by_cases h2 : n < -1099511627776
    · have t2 : decide (n < -1099511627776) = true := decide_eq_true h2
      have e : largeB n = true := decide_eq_true (.inr h2)
      rw [e]
      go_enter Tryd.func14, Tryd.ntmps14
      go_wp2
      go_ret
      exact ⟨rfl, rfl⟩
    · have t2 : decide (n < -1099511627776) = false := decide_eq_false h2
      have e : largeB n = false := decide_eq_false (by omega)
      rw [e]
      go_enter Tryd.func14, Tryd.ntmps14
      go_wp2
      go_ret
      exact ⟨rfl, rfl⟩
/-- is one of the first k too large? -/
def badT (T : List Int) : Nat → Bool
  | 0 => false
  | k + 1 => badT T k || largeB (T.getD k 0)
theorem badT_no {T : List Int} : ∀ {n : Nat}, badT T n = false → ∀ k, k < n → largeB (T.getD k 0) = false
  | 0, _, k, hk => absurd hk (Nat.not_lt_zero k)
  | n + 1, h, k, hk => by
    unfold badT at h
    rw [Bool.or_eq_false_iff] at h
    by_cases e : k = n
    · rw [e]; exact h.2
    · exact badT_no h.1 k (by omega)
theorem times_in {T : List Int} (h : badT T T.length = false) (k : Nat) : -1099511627776 ≤ T.getD k 0 ∧ T.getD k 0 ≤ 1099511627776 := by
  by_cases q : k < T.length
  · have := of_decide_eq_false (badT_no h k q)
    omega
  · rw [List.getD_eq_getElem?_getD, List.getElem?_eq_none (by omega)]
    exact ⟨by decide, by decide⟩
def powBad (T : List Int) (step fr many : Int) : Prop := 4000 < T.length ∨ many < 1 ∨ 4000 < many ∨ (largeB step || badT T T.length) = true ∨ largeB fr = true
instance (T : List Int) (step fr many : Int) : Decidable (powBad T step fr many) := by unfold powBad; exact inferInstance
def powE (T : List Int) (nL : Nat) (step fr many : Int) : Int := if T.length ≠ nL ∨ T.length = 0 then 5 else if powBad T step fr many then 2 else 0
def PwPost (a : Nat → Addr) (T : List Int) (L : List Nat) (step fr many : Int) (w : World) (e : Ending) (w' : World) : Prop := ∃ (X : List Nat) (ad : Option Addr) (cap : Nat) (er : Value), e = .returned (.tuple #[.slice ad X.length cap, er]) ∧ ErrIs a (powE T L.length step fr many) er ∧ (powE T L.length step fr many ≠ 0 → X = []) ∧ (powE T L.length step fr many = 0 → X.length = many.toNat ∧ ∀ k, k < many.toNat → PwEnd T L (fr + (k : Int) * step) T.length (X.getD k 0)) ∧ FCame w' ad X ∧ Below w.heap.size w w'
/-- WHAT THE PROGRAM'S Power MUST ANSWER. -/
def PowerOK (a : Nat → Addr) : Prop := ∀ {w : World} {a1 a2 : Option Addr} {c1 c2 : Nat} {T : List Int} {L : List Nat} (step fr many : Int), Sents w a → ICame w a1 T → FCame w a2 L → T.length ≤ 9223372036854775807 → L.length ≤ 9223372036854775807 → Calls Tryd.prog 13 #[.slice a1 T.length c1, .slice a2 L.length c2, .int .i64 step, .int .i64 fr, .int .i64 many] w (PwPost a T L step fr many w)
/-- the first of the greatest: its place, or -1. -/
def gtF (x y : Nat) : Bool := FloatKind.f64.format.order x y == some .gt
def eqF (x : Nat) : Bool := FloatKind.f64.format.order x x == some .eq
def bestF (X : List Nat) : Nat → Int
  | 0 => -1
  | k + 1 => if eqF (X.getD k 0) && (decide (bestF X k < 0) || gtF (X.getD k 0) (X.getD (bestF X k).toNat 0)) then (k : Int) else bestF X k
theorem bestF_range (X : List Nat) : ∀ n, -1 ≤ bestF X n ∧ bestF X n < n
  | 0 => ⟨by show (-1 : Int) ≤ -1; decide, by show (-1 : Int) < 0; decide⟩
  | n + 1 => by
    have := bestF_range X n
    unfold bestF
    split <;> omega
/-- WHAT THE PROGRAM'S Best MUST ANSWER. -/
def BestOK : Prop := ∀ (w : World) (ad : Option Addr) (cap : Nat) (X : List Nat), FCame w ad X → X.length ≤ 4000 → Calls Tryd.prog 17 #[.slice ad X.length cap] w fun e w' => e = .returned (.tuple #[.int .i64 (if bestF X X.length < 0 then 0 else bestF X X.length), .bool (decide (0 ≤ bestF X X.length))]) ∧ Below w.heap.size w w'
theorem sv0 : sinV 0 = 0 := by decide +kernel
theorem cv0 : cosV 0 = 4607182418800017408 := by decide +kernel
theorem fop_is {op : BinOp} {x y r v : Nat} (h : FOp op x y r) (e : floatBits op .f64 x y = some v) : r = v := by
  unfold FOp at h
  rw [e] at h
  exact h
/-- the first look's power. -/
theorem pw_nine {r : Nat} (h : PwEnd [0] [4613937818241073152] 0 1 r) : r = 4621256167635550208 := by
  obtain ⟨re, im, p, q, h1, h2, h3, h4⟩ := h
  cases h1 with
  | next g hx hy hr hm =>
    cases g
    have e0 : nrm (0 * ([0] : List Int).getD 0 0) = 0 := by decide
    rw [e0, cv0] at hx
    rw [e0, sv0] at hy
    obtain rfl := fop_is hx (v := 4613937818241073152) (by decide +kernel)
    obtain rfl := fop_is hy (v := 0) (by decide +kernel)
    obtain rfl := fop_is hr (v := 4613937818241073152) (by decide +kernel)
    obtain rfl := fop_is hm (v := 0) (by decide +kernel)
    obtain rfl := fop_is h2 (v := 4621256167635550208) (by decide +kernel)
    obtain rfl := fop_is h3 (v := 0) (by decide +kernel)
    exact fop_is h4 (by decide +kernel)
theorem powE_first : powE [0] 1 0 0 1 = 0 := by decide +kernel
end Go.Proofs.YtmgnobeaacjdjajDoor
