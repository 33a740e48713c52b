/-
  Rows of points that came in.
-/
import Derived.Test.YtkdmeclbnnjdgalDoorPlPt
import Derived.OwnWalk
import Derived.Laws.Entries
import Derived.Deep.CutRange
import Derived.Deep.QuietTactic
namespace Go.Proofs.YtkdmeclbnnjdgalDoor
open Go Go.RowKit

def pt0 : Pt := ⟨0, 0, 0⟩
structure PtAt (w : World) (b o : Nat) (s : Pt) : Prop where
  c0 : w.cell? ⟨b, o, none⟩ = some (.int .i64 s.x)
  c1 : w.cell? ⟨b, o + 1, none⟩ = some (.int .i64 s.y)
  c2 : w.cell? ⟨b, o + 2, none⟩ = some (.int .i64 s.z)
theorem PtAt.below {w v : World} {b o B : Nat} {s : Pt} (h : PtAt w b o s) (k : Below B w v) (hb : b < B) : PtAt v b o s :=
  ⟨(k.cell hb).trans h.c0, (k.cell hb).trans h.c1, (k.cell hb).trans h.c2⟩
structure PtCame (w : World) (ad : Option Addr) (L : List Pt) : Prop where
  at_ : ∀ k, k < L.length → ∃ b off, ad = some ⟨b, off, none⟩ ∧ b < w.heap.size ∧ PtAt w b (off + k * 3) (L.getD k pt0)
theorem PtCame.below {w v : World} {ad : Option Addr} {L : List Pt} (h : PtCame w ad L) (k : Below w.heap.size w v) : PtCame v ad L := ⟨fun j hj => by
  obtain ⟨b, off, e, hb, h1⟩ := h.at_ j hj
  exact ⟨b, off, e, Nat.lt_of_lt_of_le hb k.size, h1.below k hb⟩⟩
theorem PtCame.nil (w : World) (ad : Option Addr) : PtCame w ad [] := ⟨fun k hk => absurd hk (Nat.not_lt_zero k)⟩
/-- three points lie one behind the other. -/
structure Pt3 (w : World) (b off : Nat) (p0 p1 p2 : Pt) : Prop where
  a0 : PtAt w b off p0
  a1 : PtAt w b (off + 3) p1
  a2 : PtAt w b (off + 6) p2
  lt : b < w.heap.size
theorem Pt3.below {w v : World} {b o : Nat} {p0 p1 p2 : Pt} (h : Pt3 w b o p0 p1 p2) (k : Below w.heap.size w v) : Pt3 v b o p0 p1 p2 := ⟨h.a0.below k h.lt, h.a1.below k h.lt, h.a2.below k h.lt, Nat.lt_of_lt_of_le h.lt k.size⟩
theorem PtCame.three {w : World} {ad : Option Addr} {L : List Pt} (h : PtCame w ad L) (h3 : 3 ≤ L.length) : ∃ b off, ad = some ⟨b, off, none⟩ ∧ Pt3 w b off (L.getD 0 pt0) (L.getD 1 pt0) (L.getD 2 pt0) := by
  obtain ⟨b, off, e, hb, h1⟩ := h.at_ 0 (by omega)
  obtain ⟨b2, off2, e2, hb2, h2⟩ := h.at_ 1 (by omega)
  obtain ⟨b3, off3, e3, hb3, h4⟩ := h.at_ 2 (by omega)
  subst e
  cases e2
  cases e3
  exact ⟨b, off, rfl, by rw [Nat.zero_mul, Nat.add_zero] at h1; exact h1, h2, h4, hb⟩
end Go.Proofs.YtkdmeclbnnjdgalDoor
