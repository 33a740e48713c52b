/-
  The document's sum, by its contract.
-/
import Derived.Test.YtmgnobeaacjdjacRSum4
import Derived.Test.YtmgnobeaacjdjacDSum2
namespace Go.Proofs.Ytmgnobeaacjdjac
open Go Go.RowKit

theorem Limbs.drawn {w : World} {e g : Nat} {v : Nat → Int} (s : Limbs w e g v) (n : Nat) : Limbs (w.drewN n) e g v := ⟨⟨s.row.cell, s.row.free, s.row.lt⟩, s.head, s.ne⟩
theorem below_of {d : Nat → Nat} {N i t : Nat} (h : ∀ j, d j < 4294967296) (e : 32 * i = t) (hN : dv 32 d i = N) : Below2 N t := ⟨by rw [← e, ← hN]; exact dv32_lt h i⟩
theorem rrounded_any (e g : Nat) (d : Nat → Nat) (w : World) (N R : Nat) (hs : Limbs w e g fun j => (d j : Int)) (hd : ∀ j, d j < 4294967296) (hN : Lvl d N) (hR : R = rnd N) :
    Calls Try.prog 27 #[.pointer (some ⟨e, 0, none⟩)] w fun ev w' => ev = .returned (.float .f64 R) ∧ Dr w w' :=
  rrounded_of e w N R (fun k => N / 2 ^ k % 2) (fun _ => rfl) (below_of hd (by decide) hN.is) hR fun v hv k hk => by
    obtain ⟨n, rfl⟩ := hv
    exact rbit_any e g d _ k _ (hs.drawn n) hd hk (by rw [hN.is])
end Go.Proofs.Ytmgnobeaacjdjac
