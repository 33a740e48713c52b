/-
  Rows of bytes that grow, bytes that came in. Nothing of the program's text.
-/
import Derived.Test.YtfonpobdnhifganNgP
import Derived.Test.YtfonpobdnhifganKitA
import Derived.Lib.AppendStr
import Derived.Laws.BytesArg
namespace Go.Proofs.Ytfonpobdnhifgan
open Go Go.RowKit

def strB (l : List UInt8) : ByteArray := ⟨l.toArray⟩
def byV (c : UInt8) : Value := .int .u8 c.toNat
def byCells (b : Bs) : List Value := b.map byV
def BOwn (w : World) (B : Nat) (v : Value) (b : Bs) : Prop := w.ownsRow B 5 1 v b.length (byCells b)
theorem BOwn.below {w w' : World} {B : Nat} {v : Value} {b : Bs} (h : BOwn w B v b) (k : Below w.heap.size w w') : BOwn w' B v b := own_below2 h k
theorem BOwn.slice {w : World} {B : Nat} {v : Value} {b : Bs} (h : BOwn w B v b) : ∃ ad cap, v = .slice ad b.length cap := by
  rcases h.2 with ⟨h1, h2⟩ | ⟨g, cap, cur, e, _⟩
  · exact ⟨none, 0, by rw [h1, h2]⟩
  · exact ⟨_, cap, e⟩
theorem infoB : (Try.prog.info? 5).map (fun i => (i.zero, i.size, i.bytes)) = some (some (.int .u8 0), 1, 1) := by kernel_rfl
theorem one_byte (w : World) (x : UInt8) : ∀ k u, ([byV x] : List Value)[k]? = some u → (w.alloc (.cells #[.int .u8 x.toNat] 5)).cell? ((⟨w.heap.size, 0, none⟩ : Addr).add k) = some u := by
  intro k u hu
  cases k with
  | zero =>
    cases hu
    rw [add_pl2]
    exact one_at (alloc_last w _)
  | succ k => simp at hu
def RowPost (B : Nat) (w : World) (b : Bs) (e : Ending) (w' : World) : Prop := ∃ v', e = .returned v' ∧ BOwn w' B v' b ∧ Below B w w'
/-- bytes in memory. -/
structure BAt (w : World) (ad : Option Addr) (l : Bs) : Prop where
  at_ : ∀ k, k < l.length → ∃ b off, ad = some ⟨b, off, none⟩ ∧ b < w.heap.size ∧ w.cell? ⟨b, off + k, none⟩ = some (.int .u8 ((l.getD k 0).toNat : Nat))
theorem BAt.below {w v : World} {ad : Option Addr} {l : Bs} (h : BAt w ad l) (k : Below w.heap.size w v) : BAt v ad l := ⟨fun j hj => by
  obtain ⟨b, off, e, hb, h1⟩ := h.at_ j hj
  exact ⟨b, off, e, Nat.lt_of_lt_of_le hb k.size, (k.cell (p := ⟨b, off + j, none⟩) hb).trans h1⟩⟩
theorem BOwn.bytes {w : World} {B : Nat} {v : Value} {l : Bs} (h : BOwn w B v l) : ∃ ad cap, v = .slice ad l.length cap ∧ BAt w ad l := by
  rcases h.2 with ⟨h1, h2⟩ | ⟨g, cap, cur, e, hB, hg, hc, _, hs, ht⟩
  · have e : l = [] := List.length_eq_zero_iff.1 h2
    subst e
    exact ⟨none, 0, h1, ⟨fun k hk => absurd hk (Nat.not_lt_zero k)⟩⟩
  · subst e
    refine ⟨_, cap, rfl, ⟨fun k hk => ⟨g, 0, rfl, (Array.getElem?_eq_some_iff.1 hg).1, ?_⟩⟩⟩
    have q : (byCells l)[k]? = some (.int .u8 ((l.getD k 0).toNat : Nat)) := by
      unfold byCells
      rw [List.getElem?_map, List.getElem?_eq_getElem hk, List.getD_eq_getElem?_getD, List.getElem?_eq_getElem hk]
      rfl
    rw [← ht, List.getElem?_take, if_pos (by omega)] at q
    rw [Nat.zero_add]
    simp only [World.cell?, hg]
    simpa using q
theorem conv_bytes {w : World} {ad : Option Addr} {l : Bs} {cap : Nat} (h : BAt w ad l) : (convert 23 9 (.slice ad l.length cap)).run Try.prog w = .ok (.string (strB l)) w := by
  cases l with
  | nil =>
    cases ad with
    | none => exact run_convert_bytes_nil w 23 5 Try.underlying23 Try.underlying5 0 cap 9 Try.underlying9
    | some a0 => exact run_convert_bytes_back w 23 9 5 a0 cap [] Try.underlying23 Try.underlying5 Try.underlying9 (fun j hj => absurd hj (Nat.not_lt_zero j))
  | cons x r =>
    obtain ⟨b, off, e, _, _⟩ := h.at_ 0 (Nat.succ_pos _)
    subst e
    refine run_convert_bytes_back w 23 9 5 ⟨b, off, none⟩ cap (x :: r) Try.underlying23 Try.underlying5 Try.underlying9 (fun j hj => ?_)
    obtain ⟨b', off', e', _, hc⟩ := h.at_ j hj
    cases e'
    rw [add_pl2, hc, List.getD_eq_getElem?_getD, List.getElem?_eq_getElem hj]
    rfl
theorem BAt.take {w : World} {ad : Option Addr} {l : Bs} (h : BAt w ad l) (n : Nat) : BAt w ad (l.take n) := ⟨fun k hk => by
  have hk2 : k < l.length ∧ k < n := by rw [List.length_take] at hk; omega
  obtain ⟨b, off, e, hb, hc⟩ := h.at_ k hk2.1
  refine ⟨b, off, e, hb, ?_⟩
  rw [hc, List.getD_eq_getElem?_getD, List.getD_eq_getElem?_getD, List.getElem?_take, if_pos hk2.2]⟩
theorem BAt.part {w : World} {b off : Nat} {l : Bs} (h : BAt w (some ⟨b, off, none⟩) l) (s n : Nat) : BAt w (some ⟨b, off + s, none⟩) ((l.drop s).take n) := ⟨fun k hk => by
  have hk2 : s + k < l.length ∧ k < n := by rw [List.length_take, List.length_drop] at hk; omega
  obtain ⟨b', off', e, hb, hc⟩ := h.at_ (s + k) hk2.1
  cases e
  refine ⟨b, off + s, rfl, hb, ?_⟩
  rw [Nat.add_assoc, hc, List.getD_eq_getElem?_getD, List.getD_eq_getElem?_getD, List.getElem?_take, if_pos hk2.2, List.getElem?_drop]⟩
end Go.Proofs.Ytfonpobdnhifgan
