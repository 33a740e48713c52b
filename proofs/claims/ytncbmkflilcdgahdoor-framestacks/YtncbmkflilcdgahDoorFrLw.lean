/-
  The law of stacks: what it calls, and what the program's Stack must answer.
-/
import Derived.Test.YtncbmkflilcdgahDoorFrLw0
import Derived.Test.YtncbmkflilcdgahDoorFrStk
namespace Go.Proofs.YtncbmkflilcdgahDoor
open Go Go.RowKit

def SmPost (Ls : List Pic) (w : World) (e : Ending) (w' : World) : Prop := ∃ q : Bool, e = .returned (.bool q) ∧ (q = true → Ls.length ≤ 70) ∧ w' = w
set_option maxRecDepth 100000 in
set_option maxHeartbeats 1600000 in
theorem smallAll_any {w : World} {cap : Nat} {ad : Option Addr} {Ls : List Pic} (hr : PCame w ad Ls) (hl : Ls.length * 40 ≤ 140737488355328) :
    Calls Tryd.prog 43 #[.slice ad Ls.length cap] w (SmPost Ls w) := by
  have HR := hideR hr
  clear hr
  go_enter Tryd.func43, Tryd.ntmps43
  go_wp2
  go_loop [3, 4] (fun nv kv => ∃ (k : Nat) (N : Int), k ≤ Ls.length ∧ kv = .int .i64 (k : Nat) ∧ nv = .int .i64 N) (fun _ kv => Ls.length + 1 - (intOf kv).toNat)
  case atStart => exact ⟨0, 0, by omega, rfl, rfl⟩
  case round =>
    obtain ⟨k, N, hk, rfl, rfl⟩ := hrel
    by_cases hlt : k < Ls.length
    · obtain ⟨b, off, adk, capk, rfl, hp, _⟩ := (unhideR HR).at_ k hlt
      have c2 := hp.c2
      generalize Ls.getD k pic0 = s at c2
      generalize s.L.length = M at c2
      clear hp
      go_wp2
      exact ⟨⟨k + 1, _, by omega, by go_num, rfl⟩, by simp [intOf]; omega⟩
    · obtain rfl : k = Ls.length := by omega
      by_cases h7 : Ls.length ≤ 70
      · go_wp2
        go_ret
        exact ⟨_, rfl, fun _ => h7, rfl⟩
      · go_wp2
        go_ret
        exact ⟨false, rfl, (fun e => Bool.noConfusion e), rfl⟩
def StackOK (a : Nat → Addr) : Prop := ∀ {w : World} {cap : Nat} {ad : Option Addr} {Ls : List Pic}, Sents w a → PCame w ad Ls → Ls.length * 40 ≤ 140737488355328 → Ls.length ≤ 70 → Ls.length ≤ cap →
  Calls Tryd.prog 44 #[.slice ad Ls.length cap] w fun e w' => ∃ (X : List Int) (adx : Option Addr) (capx : Nat) (er : Value) (Wd Hg : Int), e = .returned (.tuple #[.agg #[.int .i64 Wd, .int .i64 Hg, .slice adx X.length capx], er]) ∧ ErrIs a (stackE Ls) er ∧
    (stackE Ls = 0 → X = stackV Ls ∧ Wd = (Ls.getD 0 pic0).wide ∧ Hg = (Ls.getD 0 pic0).high) ∧ (stackE Ls ≠ 0 → X = []) ∧ ICame w' adx X ∧ Below w.heap.size w w'
end Go.Proofs.YtncbmkflilcdgahDoor
