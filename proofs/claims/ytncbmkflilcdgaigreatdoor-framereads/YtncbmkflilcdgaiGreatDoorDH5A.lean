/-
  The program's reading: a count out of its number of 16 bits. Two bytes as a number of 16 bits (80 s: 65536 cases by the kernel). The program's reading: cards behind the first ones; what a side may be. The program's reading: how its memory stands beside how far the file has come.
-/
import Derived.Test.YtncbmkflilcdgaiGreatDoorFfPicA
import Derived.Test.YtncbmkflilcdgaiGreatDoorFdPA
namespace Go.Proofs.YtncbmkflilcdgaiGreatDoor
open Go Go.RowKit

/-- sixteen bits, with their sign. -/
def sg16 (m : Nat) : Int := if m < 32768 then (m : Int) else (m : Int) - 65536
theorem counted_any (m : Nat) (hm : m < 65536) (w : World) : Calls Tryz.prog 67 #[.int .i16 (sg16 m)] w fun e w' => e = .returned (.int .i64 (((m + 32768) % 65536 : Nat) : Nat)) ∧ w' = w := by
  unfold sg16
  by_cases h : m < 32768
  · rw [if_pos h]
    have h1 : IntKind.i16.wrap ((m : Int) + -32768) = (m : Int) - 32768 := by unfold IntKind.wrap; simp [IntKind.signed, IntKind.bits]; omega
    have h2 : IntKind.u16.wrap ((m : Int) - 32768) = (((m + 32768) % 65536 : Nat) : Int) := by unfold IntKind.wrap; simp [IntKind.signed, IntKind.bits]; omega
    have hr : (m + 32768) % 65536 < 65536 := Nat.mod_lt _ (by decide)
    generalize (m + 32768) % 65536 = r at *
    go_enter Tryz.func67, Tryz.ntmps67
    go_wp2
    go_ret
    exact ⟨rfl, rfl⟩
  · rw [if_neg h]
    have h1 : IntKind.i16.wrap ((m : Int) - 65536 + -32768) = (m : Int) - 32768 := by unfold IntKind.wrap; simp [IntKind.signed, IntKind.bits]; omega
    have h2 : IntKind.u16.wrap ((m : Int) - 32768) = (((m + 32768) % 65536 : Nat) : Int) := by unfold IntKind.wrap; simp [IntKind.signed, IntKind.bits]; omega
    have hr : (m + 32768) % 65536 < 65536 := Nat.mod_lt _ (by decide)
    generalize (m + 32768) % 65536 = r at *
    go_enter Tryz.func67, Tryz.ntmps67
    go_wp2
    go_ret
    exact ⟨rfl, rfl⟩
end Go.Proofs.YtncbmkflilcdgaiGreatDoor
namespace Go.Proofs.YtncbmkflilcdgaiGreatDoor
open Go Go.RowKit

theorem shl16 (x : Nat) (h : x < 256) : IntKind.i16.wrap ((x : Int) * 256) = sg16 (x * 256) := by
  unfold sg16 IntKind.wrap
  simp [IntKind.signed, IntKind.bits]
  split <;> omega
set_option maxRecDepth 100000 in
theorem or16 : ∀ x y : Fin 256, bits .or .i16 (sg16 (x * 256)) (y : Nat) = sg16 (x * 256 + y) := by decide +kernel
theorem or16_any (x y : UInt8) : bits .or .i16 (sg16 (x.toNat * 256)) (y.toNat : Nat) = sg16 (x.toNat * 256 + y.toNat) := or16 ⟨x.toNat, x.toNat_lt⟩ ⟨y.toNat, y.toNat_lt⟩
end Go.Proofs.YtncbmkflilcdgaiGreatDoor
namespace Go.Proofs.YtncbmkflilcdgaiGreatDoor
open Go Go.RowKit

theorem drop_came {w : World} {b off : Nat} {L : List CrdS} (h : CCame w (some ⟨b, off, none⟩) L) (m : Nat) : CCame w (some ⟨b, off + m * 2, none⟩) (L.drop m) := ⟨fun k hk => by
  rw [List.length_drop] at hk
  obtain ⟨b', off', e, hb, h1, h2, h3⟩ := h.at_ (m + k) (by omega)
  injection e with e
  injection e with e1 e2
  subst e1
  subst e2
  have eg : (L.drop m).getD k crdS0 = L.getD (m + k) crdS0 := by simp only [List.getD, List.getElem?_drop]
  rw [eg]
  refine ⟨b, off + m * 2, rfl, hb, ?_, ?_, h3⟩
  · rw [show off + m * 2 + k * 2 = off + (m + k) * 2 by omega]; exact h1
  · rw [show off + m * 2 + k * 2 + 1 = off + (m + k) * 2 + 1 by omega]; exact h2⟩
/-- what side answers of a value. -/
def SdV (s : ByteArray) (v : Value) : Prop := ∃ r : Nat, v = .int .i64 (r : Nat) ∧ r ≤ 256 ∧ ∀ n : Nat, 1 ≤ n → n ≤ 256 → s.data.toList = dec3 n → r = n
theorem dec_inj {m n : Nat} (hm : m ≤ 256) (hn : n ≤ 256) (h : dec3 m = dec3 n) : m = n := by
  have a := (dec_num ⟨m, by omega⟩).1
  have b := (dec_num ⟨n, by omega⟩).1
  simp only at a b
  rw [← a, h, b]
theorem sdV_some (s : ByteArray) : ∃ v, SdV s v := by
  by_cases h : ∃ n : Nat, 1 ≤ n ∧ n ≤ 256 ∧ s.data.toList = dec3 n
  · obtain ⟨n, _, h2, h3⟩ := h
    exact ⟨_, n, rfl, h2, fun m _ k2 k3 => dec_inj h2 k2 (h3.symm.trans k3)⟩
  · exact ⟨_, 0, rfl, by omega, fun m k1 k2 k3 => absurd ⟨m, k1, k2, k3⟩ h⟩
end Go.Proofs.YtncbmkflilcdgaiGreatDoor
namespace Go.Proofs.YtncbmkflilcdgaiGreatDoor
open Go Go.RowKit

theorem own_other {w : World} {B n s g i : Nat} {e : TypeId} {v x : Value} {xs : List Value} (h : w.ownsRow B e s v n xs) (hg : some g ≠ v.ownBlock) : (w.setCell ⟨g, i, none⟩ x).ownsRow B e s v n xs := by
  obtain ⟨a1, a2⟩ := h
  refine ⟨a1, ?_⟩
  rcases a2 with a2 | ⟨k, cap, cur, hv, hB, hh, r⟩
  · exact Or.inl a2
  · refine Or.inr ⟨k, cap, cur, hv, hB, ?_, r⟩
    rw [heap_setCell_other w ⟨g, i, none⟩ k x (fun q => hg ?_)]
    · exact hh
    · subst hv
      simp only [Value.ownBlock]
      exact congrArg some q.symm
theorem own_apart {w w' : World} {B1 B2 n1 n2 s1 s2 : Nat} {T1 T2 : TypeId} {v1 v2 : Value} {x1 x2 : List Value} (h1 : w.ownsRow B1 T1 s1 v1 n1 x1) (h2 : w.ownsRow B2 T2 s2 v2 n2 x2) (hT : T1 ≠ T2) (hg : w.grownBy w' v1.ownBlock) : w'.ownsRow B2 T2 s2 v2 n2 x2 := by
  obtain ⟨a1, a2⟩ := h2
  refine ⟨a1, ?_⟩
  rcases a2 with a2 | ⟨g, cap, cur, hv, hB, hh, r⟩
  · exact Or.inl a2
  · refine Or.inr ⟨g, cap, cur, hv, hB, ?_, r⟩
    rw [hg.block g (Array.getElem?_eq_some_iff.1 hh).1 (fun e => ?_)]
    · exact hh
    · rcases h1.2 with ⟨b1, _⟩ | ⟨g', cap', cur', hv', _, hh', _⟩
      · subst b1
        cases e
      · subst hv'
        have e2 : g' = g := by simpa [Value.ownBlock] using e.symm
        subst e2
        rw [hh] at hh'
        cases hh'
        exact hT rfl
/-- the counts' row. -/
def NOwn (w : World) (B : Nat) (v : Value) (C : List Int) : Prop := w.ownsRow B 3 1 v C.length (C.map (Value.int .i64))
theorem NOwn.slice {w : World} {B : Nat} {v : Value} {C : List Int} (h : NOwn w B v C) : ∃ ad cap, v = .slice ad C.length cap := by
  rcases h.2 with ⟨h1, h2⟩ | ⟨g, cap, cur, e, _⟩
  · exact ⟨none, 0, by rw [h1, h2]⟩
  · exact ⟨_, cap, e⟩
/-- the reading in memory. -/
structure RdIs (w : World) (B g : Nat) (b : Bs) (co : Nat) (s : St) (LS : List CrdS) (cv pv : Value) : Prop where
  rd : Rd w g b (rdT co cv s.headed s.W s.H pv s.next)
  hB : B ≤ g
  cards : COwn w B cv LS
  crd : LS.map CrdS.crd = s.cards
  cnt : NOwn w B pv s.C
theorem RdIs.below {w v : World} {B g co : Nat} {b : Bs} {s : St} {LS : List CrdS} {cv pv : Value} (h : RdIs w B g b co s LS cv pv) (k : Below w.heap.size w v) : RdIs v B g b co s LS cv pv := ⟨h.rd.below k, h.hB, h.cards.below k, h.crd, own_below2 h.cnt k⟩
def RdAt (w : World) (B g : Nat) (b : Bs) (co : Nat) (s : St) : Prop := ∃ LS cv pv, RdIs w B g b co s LS cv pv
theorem RdAt.below {w v : World} {B g co : Nat} {b : Bs} {s : St} (h : RdAt w B g b co s) (k : Below w.heap.size w v) : RdAt v B g b co s := by
  obtain ⟨LS, cv, pv, h⟩ := h
  exact ⟨LS, cv, pv, h.below k⟩
section
variable {w : World} {B g co : Nat} {b : Bs} {s : St} {LS : List CrdS} {cv pv : Value}
theorem RdIs.neC (h : RdIs w B g b co s LS cv pv) : some g ≠ cv.ownBlock := h.rd.ne h.cards (by decide)
theorem RdIs.neN (h : RdIs w B g b co s LS cv pv) : some g ≠ pv.ownBlock := h.rd.ne h.cnt (by decide)
/-- the reading's own number of bytes is written. -/
theorem RdIs.setCome (h : RdIs w B g b co s LS cv pv) (n : Nat) : RdIs (w.setCell ⟨g, 2880, none⟩ (.int .i64 (n : Nat))) B g b n s LS cv pv :=
  ⟨h.rd.set 0 (.int .i64 (n : Nat)), h.hB, own_other h.cards h.neC, h.crd, own_other h.cnt h.neN⟩
theorem RdIs.setNext (h : RdIs w B g b co s LS cv pv) (n : Nat) : RdIs (w.setCell ⟨g, 2886, none⟩ (.int .i64 (n : Nat))) B g b co { s with next := n } LS cv pv :=
  ⟨h.rd.set 6 (.int .i64 (n : Nat)), h.hB, own_other h.cards h.neC, h.crd, own_other h.cnt h.neN⟩
theorem RdIs.low {u : World} {i : Nat} {x : Value} (h : RdIs w B g b co s LS cv pv) (k : Below B u w) : Below B u (w.setCell ⟨g, i, none⟩ x) := k.setCell (by simpa using h.hB) _
end
end Go.Proofs.YtncbmkflilcdgaiGreatDoor
