/-
  The program's Read.
-/
import Derived.Test.YtncbmkflilcdgaiGreatDoorDH15
namespace Go.Proofs.YtncbmkflilcdgaiGreatDoor
open Go Go.RowKit

theorem ITyped.other {w : World} {ad : Option Addr} {L : List Int} {g i : Nat} {x : Value} (h : ITyped w ad L) (hg : ∀ a0, ad = some a0 → a0.block ≠ g) : ITyped (w.setCell ⟨g, i, none⟩ x) ad L := by
  refine ⟨⟨fun k hk => ?_⟩, fun a0 e => ?_⟩
  · obtain ⟨b, off, e, hb, h1⟩ := h.row.at_ k hk
    have hn := hg _ e
    refine ⟨b, off, e, by simpa [World.setCell] using hb, ?_⟩
    rw [World.cell?_setCell_other]
    · exact h1
    · intro q
      injection q with q1
      exact hn q1.symm
  · obtain ⟨cs, fr, h1⟩ := h.ty a0 e
    refine ⟨cs, fr, ?_⟩
    rw [heap_setCell_other w ⟨g, i, none⟩ a0.block x (by simpa using hg a0 e)]
    exact h1
set_option maxRecDepth 100000 in
set_option maxHeartbeats 3200000 in
theorem read_ok (a : Nat → Addr) : ReadOK a := by
  intro w ab cb l hS hB hl hcb
  show Calls _ _ _ _ (ReadPost a l w)
  have hb := below_a w (.cells #[.int .i64 0, .int .i64 0, .slice none 0 0] 33)
  have HPic := hideR (alloc_last w (.cells #[.int .i64 0, .int .i64 0, .slice none 0 0] 33))
  have HL := hideR hb
  have hpt := parts_ok a (ai := none) (ci := 0) (P := []) (hS.below hb) (hB.below hb) hl hcb ⟨fun k hk => absurd hk (Nat.not_lt_zero k)⟩ (by decide)
  rw [show ([] : List Int).length = 0 from rfl] at hpt
  clear hS hB hb
  go_enter Tryz.func10, Tryz.ntmps10
  go_wp2_with fail
  refine hpt.mono ?_
  rintro e w1 ⟨L, ax, al, cx, cl, er, rfl, hL, her, hI, hC, k1⟩
  replace HPic := hideR (keepB (unhideR HPic) k1)
  replace HL := hideR (below_go (unhideR HL) k1)
  obtain ⟨y0, y1, y2⟩ := pic_three (unhideR HPic)
  obtain ⟨o0, o1, o2⟩ := pic_open (unhideR HPic)
  have HE : HeldR (ErrIs a (readV l).1 er ∧ L.map CrdS.crd = (readV l).2.2 ∧ ITyped w1 ax (readV l).2.1.L ∧ CCame w1 al L) := hideR ⟨her, hL, hI, hC⟩
  have HR : HeldR (readV l = readV l) := hideR rfl
  clear hpt k1 hL her hI hC
  obtain ⟨p, hp⟩ : ∃ p, (readV l).2.1 = p := ⟨_, rfl⟩
  rw [hp] at HE ⊢
  have HX : HeldR (ReadPost a l w (.returned (.tuple #[.agg #[.int .i64 p.wide, .int .i64 p.high, .slice ax p.L.length cx], .slice al L.length cl, er])) (((w1.setCell ⟨w.heap.size, 0, none⟩ (.int .i64 p.wide)).setCell ⟨w.heap.size, 1, none⟩ (.int .i64 p.high)).setCell ⟨w.heap.size, 2, none⟩ (.slice ax p.L.length cx))) := by
    obtain ⟨h1, h2, h3, h4⟩ := unhideR HE
    have n1 := h3.ne (unhideR HPic) (by decide)
    have n2 : ∀ k, k < L.length → ∀ b off, al = some ⟨b, off, none⟩ → b ≠ w.heap.size := fun k hk => h4.ne (unhideR HPic) hk
    refine hideR ⟨L, ax, al, cx, cl, er, by rw [hp], h2, h1, ?_, ?_, ?_⟩
    · rw [hp]; exact ((h3.other n1).other n1).other n1
    · exact ((h4.other n2).other n2).other n2
    · exact (((unhideR HL).setCell (by simp) _).setCell (by simp) _).setCell (by simp) _
  have h3 := three_setR (y0 := .int .i64 p.wide) (y1 := .int .i64 p.high) (y2 := .slice ax p.L.length cx) (unhideR HPic)
  clear HE HR hp
  go_wp2_with fail
  generalize ((w1.setCell ⟨w.heap.size, 0, none⟩ (.int .i64 p.wide)).setCell ⟨w.heap.size, 1, none⟩ (.int .i64 p.high)).setCell ⟨w.heap.size, 2, none⟩ (.slice ax p.L.length cx) = uf at *
  obtain ⟨r0, r1, r2⟩ := pic_three h3
  simp [bodyPost, results, Tryz.results10, go_sem, r0, r1, r2]
  exact unhideR HX
end Go.Proofs.YtncbmkflilcdgaiGreatDoor
