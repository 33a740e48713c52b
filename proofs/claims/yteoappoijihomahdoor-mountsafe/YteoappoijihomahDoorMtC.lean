/-
  What a program's mount must do, as contracts; the law's first look.
-/
import Derived.Test.YteoappoijihomahDoorMtOp
import Derived.Test.YteoappoijihomahDoorMtTk
import Derived.Test.YteoappoijihomahDoorCodK
namespace Go.Proofs.YteoappoijihomahDoor
open Go Go.RowKit

/-- a program's mount: one block, whatever lies in it; S: what is known of the variables. -/
structure MtProg (S : World → Prop) (a : Nat → Addr) (Rep : World → Nat → Mt → Prop) : Prop where
  skeep : ∀ {w v : World}, S w → Below w.heap.size w v → S v
  low : ∀ {w : World} {g : Nat} {m : Mt}, Rep w g m → g < w.heap.size
  keep : ∀ {w v : World} {g b : Nat} {m : Mt}, Rep w g m → Chg b w v → g ≠ b → Rep v g m
  new : ∀ (x y : Lim) (pat : Int) (w : World), S w → Calls Tryd.prog 25 #[x.val, y.val, .int .i64 pat] w fun e w' => Below w.heap.size w w' ∧
    ((newE x y pat = 0 ∧ ∃ g, e = .returned (.tuple #[.pointer (some ⟨g, 0, none⟩), .nilIface]) ∧ w.heap.size ≤ g ∧ Rep w' g (newV x y pat)) ∨ (newE x y pat ≠ 0 ∧ ∃ er, ErrIs a (newE x y pat) er ∧ e = .returned (.tuple #[.pointer none, er])))
  tick : ∀ {w : World} {g : Nat} {m : Mt}, Rep w g m → Fine m → m.quiet ≤ 1000000 → S w → Calls Tryd.prog 28 #[.pointer (some ⟨g, 0, none⟩)] w fun e w' => e = .returned (.tuple #[.int .i64 (tickV m).X, .int .i64 (tickV m).Y]) ∧ Rep w' g (tickV m) ∧ Chg g w w'
  take : ∀ {w : World} {g : Nat} {m : Mt} (c : CmdS), Rep w g m → Fine m → S w → Calls Tryd.prog 30 #[.pointer (some ⟨g, 0, none⟩), c.val] w fun e w' => ∃ er, ErrIs a (takeV m c.cmd).2 er ∧
    e = .returned (.agg #[.int .i64 c.num, er, .int .i64 (takeV m c.cmd).1.X, .int .i64 (takeV m c.cmd).1.Y, .int .i64 (takeV m c.cmd).1.st]) ∧ Rep w' g (takeV m c.cmd).1 ∧ Chg g w w'
  at_ : ∀ {w : World} {g : Nat} {m : Mt}, Rep w g m → Calls Tryd.prog 33 #[.pointer (some ⟨g, 0, none⟩)] w fun e w' => e = .returned (.tuple #[.int .i64 m.X, .int .i64 m.Y]) ∧ Below w.heap.size w w'
  state : ∀ {w : World} {g : Nat} {m : Mt}, Rep w g m → Calls Tryd.prog 34 #[.pointer (some ⟨g, 0, none⟩)] w fun e w' => e = .returned (.int .i64 m.st) ∧ Below w.heap.size w w'
theorem MtProg.go {S : World → Prop} {a : Nat → Addr} {Rep : World → Nat → Mt → Prop} (h : MtProg S a Rep) {w v : World} {g : Nat} {m : Mt} (hR : Rep w g m) (k : Below w.heap.size w v) : Rep v g m :=
  h.keep (b := w.heap.size) hR (Chg.of k) (Nat.ne_of_lt (h.low hR))
/-- what is written in a block that was made since. -/
theorem Chg.into {g B : Nat} {w v u : World} (h : Below B w v) (k : Chg g v u) (hB : B ≤ g) (hw : w.heap.size = B) : Below B w u :=
  Chg.below h k hB (by have := h.size; omega)
def mt0 : Lim := ⟨0, 9, 1, 0⟩
set_option maxHeartbeats 800000 in
theorem mounted_any {S : World → Prop} {a : Nat → Addr} {Rep : World → Nat → Mt → Prop} (hP : MtProg S a Rep) (w : World) (hS : S w) : Calls Tryd.prog 24 #[] w fun e w' => e = .returned (.bool true) ∧ Below w.heap.size w w' := by
  have hn := hP.new mt0 mt0 5 w hS
  go_enter Tryd.func24, Tryd.ntmps24
  go_wp2_with fail
  refine hn.mono ?_
  rintro e w1 ⟨k1, ⟨_, g, rfl, hg, hR⟩ | ⟨he, _⟩⟩
  · have HK := hideR k1
    have hs := hP.state hR
    clear k1 hn hS
    go_wp2_with fail
    refine hs.mono ?_
    rintro e w2 ⟨rfl, k2⟩
    replace HK := hideR (below_go (unhideR HK) k2)
    clear k2 hs
    have t : ((newV mt0 mt0 5).st == 4) = true := rfl
    go_wp2
    go_ret
    exact ⟨rfl, unhideR HK⟩
  · exact absurd (by decide) he
end Go.Proofs.YteoappoijihomahDoor
