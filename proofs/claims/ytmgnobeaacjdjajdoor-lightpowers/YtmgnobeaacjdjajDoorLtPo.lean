/-
  The document's power of a wave, by contract.
-/
import Derived.Test.YtmgnobeaacjdjajDoorLtPw
import Derived.Test.YtmgnobeaacjdjajDoorLtAn
import Derived.Test.YtmgnobeaacjdjajDoorFlK
import Derived.Test.YtmgnobeaacjdjajDoorBits0
namespace Go.Proofs.YtmgnobeaacjdjajDoor
open Go Go.RowKit

def PoPost (T : List Int) (L : List Nat) (wv : Int) (n : Nat) (w : World) (e : Ending) (w' : World) : Prop := ∃ r, e = .returned (.float .f64 r) ∧ PwEnd T L wv n r ∧ Below w.heap.size w w'
set_option maxRecDepth 100000 in
set_option maxHeartbeats 3200000 in
theorem powerAt_any {w : World} {a1 a2 : Option Addr} {c1 c2 n : Nat} {T : List Int} {L : List Nat} (hT : ICame w a1 T) (hL : FCame w a2 L) (l1 : T.length = n) (l2 : L.length = n) (hn : n ≤ 100000) (ht : ∀ k, -1099511627776 ≤ T.getD k 0 ∧ T.getD k 0 ≤ 1099511627776) (wv : Int) :
    Calls Tryd.prog 16 #[.slice a1 n c1, .slice a2 n c2, .int .i64 wv] w (PoPost T L wv n w) := by
  have HT : HeldR (∀ u, Below w.heap.size w u → ICame u a1 T) := hideR (fun u k => hT.below k)
  have HL : HeldR (∀ u, Below w.heap.size w u → FCame u a2 L) := hideR (fun u k => hL.below k)
  have H1 := hideR l1
  have H2 := hideR l2
  have HTb := hideR ht
  have hneg : ∀ x v, (Op.unary UnOp.neg (.float .f64 x)).run Tryd.prog v = .ok (.float .f64 (ngB x)) v := fun _ _ => rfl
  clear hT hL l1 l2 ht
  go_enter Tryd.func16, Tryd.ntmps16
  go_wp2
  go_loopw [7, 8, 9] (fun rv mv iv wl => ∃ (k re im : Nat), k ≤ n ∧ iv = .int .i64 (k : Nat) ∧ rv = .float .f64 re ∧ mv = .float .f64 im ∧ HeldR (PwR T L wv k re im) ∧ HeldR (Below w.heap.size w wl)) (fun _ _ iv _ => n + 1 - (intOf iv).toNat)
  case atStart => exact ⟨0, 0, 0, by omega, rfl, rfl, rfl, hideR .zero, hideR (Below.refl _ _)⟩
  case round =>
    obtain ⟨k, re, im, hk, rfl, rfl, rfl, HP, HB⟩ := hrel
    by_cases hlt : k < n
    · have tk : decide (k < n) = true := decide_eq_true hlt
      have jk : (k : Int) < (n : Int) := by omega
      have wk : IntKind.i64.wrap ((k : Int) + 1) = ((k + 1 : Nat) : Int) := by rw [show (k : Int) + 1 = ((k + 1 : Nat) : Int) by omega]; exact iwrap (by omega) (by omega)
      obtain ⟨b1, o1, rfl, _, x1⟩ := (unhideR HT wr (unhideR HB)).at_ k (by rw [unhideR H1]; exact hlt)
      have htk := unhideR HTb k
      have HNx : HeldR (∀ {x y re' im' : Nat}, FOp .mul (L.getD k 0) (cosV (nrm (wv * T.getD k 0))) x → FOp .mul (L.getD k 0) (sinV (nrm (wv * T.getD k 0))) y → FOp .add re x re' → FOp .add im (ngB y) im' → PwR T L wv (k + 1) re' im') := hideR (fun h1 h2 h3 h4 => .next (unhideR HP) h1 h2 h3 h4)
      have hat := angleTimes_any wv (T.getD k 0) htk.1 htk.2 wr
      obtain ⟨an, han⟩ : ∃ an, nrm (wv * T.getD k 0) = an := ⟨_, rfl⟩
      rw [han] at hat HNx
      generalize T.getD k 0 = tt at *
      have hsc := sinCos_is an wr
      generalize sinV an = sv at *
      generalize cosV an = cv at *
      clear han htk
      go_wp2_with fail
      refine hat.mono ?_
      rintro e u9 ⟨rfl, rfl⟩
      go_wp2_with fail
      refine hsc.mono ?_
      rintro e w3 ⟨rfl, k3⟩
      have HB3 := hideR (below_go (unhideR HB) k3)
      obtain ⟨b2, o2, rfl, hb2, x2⟩ := (unhideR HL w3 (unhideR HB3)).at_ k (by rw [unhideR H2]; exact hlt)
      have hdr : ∀ m, (w3.drewN m).cell? ⟨b2, o2 + k, none⟩ = some (.float .f64 (L.getD k 0)) := fun m => x2
      generalize L.getD k 0 = lv at *
      clear hat hsc k3 HB x1 HP
      go_wp2_with fail
      refine upon_flt fl_mul ?_
      intro x n1 hx
      have x3 := hdr n1
      go_wp2_with fail
      refine upon_flt fl_mul ?_
      intro y n2 hy
      go_wp2_with fail
      refine upon_flt fl_add ?_
      intro re' n3 hr
      go_wp2_with fail
      refine upon_flt fl_add ?_
      intro im' n4 hm
      have HP' := hideR (unhideR HNx hx hy hr hm)
      clear hx hy hr hm x2 x3 hdr HNx
      have HB4 := hideR (below_go (below_go (unhideR HB3) (drawn_below w3 (n1 + n2 + n3))) (drawn_below _ n4))
      generalize (w3.drewN (n1 + n2 + n3)).drewN n4 = w4 at *
      clear HB3
      go_wp2
      exact ⟨⟨k + 1, re', im', by omega, rfl, rfl, rfl, HP', HB4⟩, by simp [intOf]; omega⟩
    · obtain rfl : k = n := by omega
      have tk : decide (k < k) = false := decide_eq_false hlt
      go_wp2_with fail
      refine upon_flt fl_mul ?_
      intro p n1 hp
      have HB4 := hideR (below_go (unhideR HB) (drawn_below wr n1))
      generalize wr.drewN n1 = w4 at *
      have hpl := plus_any p im im w4
      have HEn : HeldR (∀ q r u, FOp .mul im im q → FOp .add p q r → Below w.heap.size w u → PoPost T L wv k w (.returned (.float .f64 r)) u) := hideR (fun q r u h1 h2 h3 => ⟨r, rfl, ⟨re, im, p, q, unhideR HP, hp, h1, h2⟩, h3⟩)
      clear hp HP
      go_wp2_with fail
      refine hpl.mono ?_
      rintro e w5 ⟨r, rfl, ⟨q, h1, h2⟩, m, rfl⟩
      have HF := hideR (unhideR HEn q r (w4.drewN m) h1 h2 (below_go (unhideR HB4) (drawn_below w4 m)))
      clear hpl h1 h2 HEn
      go_wp2
      go_ret
      exact unhideR HF
end Go.Proofs.YtmgnobeaacjdjajDoor
