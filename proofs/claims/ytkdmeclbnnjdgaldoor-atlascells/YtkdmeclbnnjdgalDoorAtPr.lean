/-
  What the program's atlas must do.
-/
import Derived.Test.YtkdmeclbnnjdgalDoorAtAy
import Derived.Test.YtkdmeclbnnjdgalDoorAtCn0
import Derived.Test.YtkdmeclbnnjdgalDoorAtCe
import Derived.Test.YtkdmeclbnnjdgalDoorAtLw0
import Derived.Test.YtkdmeclbnnjdgalDoorCodK5
namespace Go.Proofs.YtkdmeclbnnjdgalDoor
open Go Go.RowKit

/-- of the blocks O alone something is changed. -/
structure Oth (O : Nat → Prop) (w w' : World) : Prop where
  os : w'.os = w.os
  tape : w'.tape = w.tape
  output : w'.output = w.output
  size : w.heap.size ≤ w'.heap.size
  block : ∀ k, k < w.heap.size → ¬ O k → w'.heap[k]? = w.heap[k]?
theorem Oth.heap {O : Nat → Prop} {w w' : World} (h : Oth O w w') {b : Nat} {o : Obj} (hb : w.heap[b]? = some o) (hO : ¬ O b) : w'.heap[b]? = some o := (h.block b (ltB hb) hO).trans hb
theorem Oth.cell {O : Nat → Prop} {w w' : World} (h : Oth O w w') {p : Addr} (hb : p.block < w.heap.size) (hO : ¬ O p.block) : w'.cell? p = w.cell? p := World.cell?_of_block (h.block p.block hb hO)
theorem Oth.below {O : Nat → Prop} {w0 w w' : World} {B : Nat} (h : Oth O w w') (hB : ∀ k, O k → B ≤ k) (k : Below B w0 w) (hs : B ≤ w0.heap.size) : Below B w0 w' :=
  ⟨h.os.trans k.os, h.tape.trans k.tape, h.output.trans k.output, Nat.le_trans k.size h.size, fun j hj => (h.block j (Nat.lt_of_lt_of_le hj (Nat.le_trans hs k.size)) (fun q => absurd (hB j q) (by omega))).trans (k.block j hj)⟩
/-- names as they are told. -/
def NmIs (w : World) (v : Value) (N : List ByteArray) : Prop := ∃ ad cap, v = .slice ad N.length cap ∧ SCm w ad N
/-- how an atlas of the program lies in memory: at a pointer's block, with a level, entries in the order as they came, in some blocks; how many were looked at. -/
abbrev RepT := World → Nat → Int → List En → (Nat → Prop) → Int → Prop
def vaB (s : Sq) : Bool := decide (0 ≤ s.f ∧ s.f < 6 ∧ 0 ≤ s.l ∧ s.l ≤ 12 ∧ 0 ≤ s.c ∧ s.c < 2 ^ s.l.toNat ∧ 0 ≤ s.r ∧ s.r < 2 ^ s.l.toNat)
def upB (s : Sq) : Bool := vaB s && decide (0 < s.l)
def upV (s : Sq) : Sq := if upB s then ⟨s.f, s.l - 1, s.c / 2, s.r / 2⟩ else ⟨0, 0, 0, 0⟩
def lvB (l : Int) : Bool := decide (0 ≤ l ∧ l ≤ 12)
def NewPost (a : Nat → Addr) (Rep : RepT) (w : World) (l : Int) (e : Ending) (w' : World) : Prop :=
  if lvB l then ∃ p O, e = .returned (.tuple #[.pointer (some ⟨p, 0, none⟩), .nilIface]) ∧ Rep w' p l [] O 0 ∧ (∀ k, O k → w.heap.size ≤ k) else e = .returned (.tuple #[.pointer none, .iface 207 (.pointer (some (a 1)))])
structure EnProg (a : Nat → Addr) (Rep : RepT) : Prop where
  low : ∀ {w p lv L O sn}, Rep w p lv L O sn → ∀ k, O k → k < w.heap.size
  keep : ∀ {w w' p lv L O sn}, Rep w p lv L O sn → (∀ k, O k → w'.heap[k]? = w.heap[k]?) → Rep w' p lv L O sn
  typ : ∀ {w p lv L O sn}, Rep w p lv L O sn → ∀ k, O k → ∀ cs f, w.heap[k]? ≠ some (.cells cs 92 f)
  new : ∀ {w : World}, Sents w a → ∀ l : Int, Calls Tryd.prog 51 #[.int .i64 l] w fun e w' => NewPost a Rep w l e w' ∧ Below w.heap.size w w'
  add : ∀ {w p lv L O sn}, Rep w p lv L O sn → Sents w a → L.length ≤ 200 → ∀ e : En, e.nm.size ≤ 100 → Calls Tryd.prog 52 #[.pointer (some ⟨p, 0, none⟩), e.val] w fun r w' => ∃ E O', r = .returned E ∧ ErrIs a (adE e L) E ∧ Rep w' p lv (if adE e L = 0 then L ++ [e] else L) O' sn ∧ (∀ k, O' k → O k ∨ w.heap.size ≤ k) ∧ Oth O w w'
  size : ∀ {w p lv L O sn}, Rep w p lv L O sn → L.length ≤ 200 → Calls Tryd.prog 54 #[.pointer (some ⟨p, 0, none⟩)] w fun r w' => r = .returned (.int .i64 L.length) ∧ Below w.heap.size w w'
theorem EnProg.below {a : Nat → Addr} {Rep : RepT} (h : EnProg a Rep) {w w' : World} {p : Nat} {lv : Int} {L : List En} {O : Nat → Prop} {sn : Int} (r : Rep w p lv L O sn) (k : Below w.heap.size w w') : Rep w' p lv L O sn := h.keep r (fun j hj => k.block j (h.low r j hj))
/-- the document's atlas beside the program's, whose blocks are O. -/
structure EDoc (w0 w : World) (g : Nat) (lv : Int) (L : List En) (O : Nat → Prop) (ad : Option Addr) (cap : Nat) : Prop where
  doc : AtB w g lv ad cap L
  own : w.ownsRow w0.heap.size 92 5 (.slice ad L.length cap) L.length (flatEn L)
  apg : ¬ O g
  apr : ∀ a0, ad = some a0 → ¬ O a0.block
  new : ∀ k, O k → w0.heap.size ≤ k
  gnw : w0.heap.size ≤ g
  bel : Below w0.heap.size w0 w
  dir : ∀ k, k < L.length → dirB (L.getD k en0).d = true
theorem EDoc.below {w0 w w' : World} {g : Nat} {lv : Int} {L : List En} {O : Nat → Prop} {ad : Option Addr} {cap : Nat} (h : EDoc w0 w g lv L O ad cap) (k : Below w.heap.size w w') : EDoc w0 w' g lv L O ad cap :=
  ⟨h.doc.below k, own_belowC h.own k, h.apg, h.apr, h.new, h.gnw, below_go h.bel k, h.dir⟩
/-- the program's atlas alone was written. -/
theorem EDoc.wrote {w0 w w' : World} {g : Nat} {lv : Int} {L : List En} {O O' : Nat → Prop} {ad : Option Addr} {cap : Nat} (h : EDoc w0 w g lv L O ad cap) (ho : ∀ k, O' k → O k ∨ w.heap.size ≤ k) (k : Oth O w w') : EDoc w0 w' g lv L O' ad cap := by
  have hs := h.bel.size
  have hg := ltB h.doc.b
  have har : ∀ a0, ad = some a0 → a0.block < w.heap.size := by
    intro a0 ha
    rcases h.own.2 with ⟨h1, h2⟩ | ⟨q, c1, cur, e, hB, hq, _⟩
    · simp only [Value.slice.injEq] at h1
      rw [h1.1] at ha
      cases ha
    · simp only [Value.slice.injEq] at e
      rw [e.1] at ha
      injection ha with ha
      rw [← ha]
      exact ltB hq
  have hrw : w'.ownsRow w0.heap.size 92 5 (.slice ad L.length cap) L.length (flatEn L) := by
    refine ⟨h.own.1, ?_⟩
    rcases h.own.2 with q | ⟨q, c1, cur, e, hB, hq, r2⟩
    · exact .inl q
    · refine .inr ⟨q, c1, cur, e, hB, k.heap hq ?_, r2⟩
      simp only [Value.slice.injEq] at e
      exact h.apr _ e.1
  refine ⟨⟨k.heap h.doc.b h.apg, ?_⟩, hrw, fun q => ?_, fun a0 ha q => ?_, fun j q => ?_, h.gnw, k.below h.new h.bel (Nat.le_refl _), h.dir⟩
  · refine ⟨fun j hj => ?_⟩
    obtain ⟨b, off, e, hb, hE⟩ := h.doc.e.at_ j hj
    have hn := h.apr _ e
    have c := fun i => k.cell (p := ⟨b, i, none⟩) hb hn
    exact ⟨b, off, e, Nat.lt_of_lt_of_le hb k.size, ⟨(c _).trans hE.c0, (c _).trans hE.c1, (c _).trans hE.c2, (c _).trans hE.c3, (c _).trans hE.c4⟩⟩
  · rcases ho g q with q | q
    · exact h.apg q
    · omega
  · rcases ho a0.block q with q | q
    · exact h.apr a0 ha q
    · have := har a0 ha
      omega
  · rcases ho j q with q | q
    · exact h.new j q
    · omega
/-- both atlases side by side, behind the same entries. -/
structure EInv (Rep : RepT) (w0 w : World) (p g : Nat) (lv : Int) (L : List En) (O : Nat → Prop) (ad : Option Addr) (cap : Nat) (sn : Int) : Prop where
  rep : Rep w p lv L O sn
  d : EDoc w0 w g lv L O ad cap
theorem EInv.below {a : Nat → Addr} {Rep : RepT} (hP : EnProg a Rep) {w0 w w' : World} {p g : Nat} {lv : Int} {L : List En} {O : Nat → Prop} {ad : Option Addr} {cap : Nat} {sn : Int} (h : EInv Rep w0 w p g lv L O ad cap sn) (k : Below w.heap.size w w') : EInv Rep w0 w' p g lv L O ad cap sn :=
  ⟨hP.below h.rep k, h.d.below k⟩
/-- the document's atlas got an entry more. -/
theorem EDoc.more {a : Nat → Addr} {Rep : RepT} (hP : EnProg a Rep) {w0 w w' : World} {p g : Nat} {lv : Int} {L M : List En} {O : Nat → Prop} {ad : Option Addr} {cap : Nat} {sn : Int} (h : EDoc w0 w g lv L O ad cap) (r : Rep w p lv M O sn) (k : AdPost w g lv ad w0.heap.size M w') (hd : ∀ j, j < M.length → dirB (M.getD j en0).d = true) : ∃ ad' cap', EInv Rep w0 w' p g lv M O ad' cap' sn := by
  obtain ⟨ad', cap', hb, ho⟩ := k.row
  have hs := h.bel.size
  have hlo := hP.low r
  have hk : ∀ j, j < w.heap.size → O j → w'.heap[j]? = w.heap[j]? := fun j hj q => k.block j hj (fun e => h.apg (e ▸ q)) (fun a0 ha e => h.apr a0 ha (e ▸ q))
  refine ⟨ad', cap', hP.keep r (fun j q => hk j (hlo j q) q), ⟨⟨hb, ?_⟩, ho, h.apg, fun a0 ha q => ?_, h.new, h.gnw, ⟨k.os.trans h.bel.os, k.tape.trans h.bel.tape, k.output.trans h.bel.output, Nat.le_trans h.bel.size k.size, fun j hj => ?_⟩, hd⟩⟩
  · obtain ⟨ad2, cap2, e, he⟩ := Enown ho
    simp only [Value.slice.injEq] at e
    rw [e.1]
    exact he
  · rcases ho.2 with ⟨h1, h2⟩ | ⟨q2, c1, cur, e, hB, hq, _⟩
    · simp only [Value.slice.injEq] at h1
      rw [h1.1] at ha
      cases ha
    · simp only [Value.slice.injEq] at e
      rw [e.1] at ha
      injection ha with ha
      subst ha
      rw [hk _ (hlo _ q) q] at hq
      exact hP.typ r _ q _ _ hq
  · rw [k.block j (Nat.lt_of_lt_of_le hj hs) (fun e => by have := h.gnw; omega) (fun a0 ha e => ?_)]
    · exact h.bel.block j hj
    · rcases h.own.2 with ⟨h1, h2⟩ | ⟨q2, c1, cur, e3, hB, hq, _⟩
      · simp only [Value.slice.injEq] at h1
        rw [h1.1] at ha
        cases ha
      · simp only [Value.slice.injEq] at e3
        rw [e3.1] at ha
        injection ha with ha
        rw [← ha] at e
        simp only at e
        omega
end Go.Proofs.YtkdmeclbnnjdgalDoor
