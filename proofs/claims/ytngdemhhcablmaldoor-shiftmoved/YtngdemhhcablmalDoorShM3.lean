/-
  The best move: the program's, by contract.
-/
import Derived.Test.YtngdemhhcablmalDoorShM2
namespace Go.Proofs.YtngdemhhcablmalDoor
open Go Go.RowKit

def BmPost (p q : Pic) (W H V U m : Nat) (w : World) (e : Ending) (w' : World) : Prop := e = .returned (.tuple #[.int .i64 (bstY (tgV p.L q.L W H V U) (m : Nat) (2 * m + 1)).x, .int .i64 (bstY (tgV p.L q.L W H V U) (m : Nat) (2 * m + 1)).y, .int .i64 (bstY (tgV p.L q.L W H V U) (m : Nat) (2 * m + 1)).s]) ∧ Below w.heap.size w w'
set_option maxRecDepth 100000 in
set_option maxHeartbeats 3200000 in
theorem bestMove_any {w : World} {W H V U m : Nat} {va vb : Value} {p q : Pic} (hp : PicC w va p) (hq : PicC w vb q) (hP : PicN p W H) (hQ : PicN q V U) (hm : m ≤ 16) :
    Calls Tryd.prog 9 #[va, vb, .int .i64 (m : Nat)] w (BmPost p q W H V U m w) := by
  have hp' := hp
  have hq' := hq
  obtain ⟨a1, c1, rfl, pr0, _⟩ := hp
  obtain ⟨a2, c2, rfl, qr0, _⟩ := hq
  have hb := below_2 w (.cells #[.int .i64 p.wide, .int .i64 p.high, .slice a1 p.L.length c1] 25) (.cells #[.int .i64 q.wide, .int .i64 q.high, .slice a2 q.L.length c2] 25)
  have HTg : HeldR (∀ u, Below w.heap.size w u → ∀ dx dy : Int, -16 ≤ dx → dx ≤ 16 → -16 ≤ dy → dy ≤ 16 → Calls Tryd.prog 13 #[.agg #[.int .i64 p.wide, .int .i64 p.high, .slice a1 p.L.length c1], .agg #[.int .i64 q.wide, .int .i64 q.high, .slice a2 q.L.length c2], .int .i64 dx, .int .i64 dy] u (TpPost p q W H V U dx dy u)) := hideR (fun u k dx dy h1 h2 h3 h4 => together_any (hp'.below k) (hq'.below k) hP hQ dx dy h1 h2 h3 h4)
  have hg0 := keepA (o' := .cells #[.int .i64 q.wide, .int .i64 q.high, .slice a2 q.L.length c2] 25) (alloc_last w (.cells #[.int .i64 p.wide, .int .i64 p.high, .slice a1 p.L.length c1] 25))
  have hg1 : ((w.alloc (.cells #[.int .i64 p.wide, .int .i64 p.high, .slice a1 p.L.length c1] 25)).alloc (.cells #[.int .i64 q.wide, .int .i64 q.high, .slice a2 q.L.length c2] 25)).heap[w.heap.size + 1]? = some (.cells #[.int .i64 q.wide, .int .i64 q.high, .slice a2 q.L.length c2] 25) := by
    have := alloc_last (w.alloc (.cells #[.int .i64 p.wide, .int .i64 p.high, .slice a1 p.L.length c1] 25)) (.cells #[.int .i64 q.wide, .int .i64 q.high, .slice a2 q.L.length c2] 25)
    simpa using this
  have HE : HeldR (∀ u, Below w.heap.size w u → BmPost p q W H V U m w (.returned (.tuple #[.int .i64 (bstY (tgV p.L q.L W H V U) (m : Nat) (2 * m + 1)).x, .int .i64 (bstY (tgV p.L q.L W H V U) (m : Nat) (2 * m + 1)).y, .int .i64 (bstY (tgV p.L q.L W H V U) (m : Nat) (2 * m + 1)).s])) u) := hideR (fun u k => ⟨rfl, k⟩)
  unfold TpPost at HTg
  generalize tgV p.L q.L W H V U = f at *
  have HG0 := hideR hg0
  have HG1 := hideR hg1
  have HB := hideR hb
  have wnm : IntKind.i64.wrap (-(m : Int)) = -(m : Int) := iwrap (by omega) (by omega)
  clear pr0 qr0 hb hg0 hg1 hp' hq' hP hQ
  go_enter Tryd.func9, Tryd.ntmps9
  go_upto_region 1 with fail
  obtain ⟨K, hK⟩ : ∃ K, w.heap.size = K := ⟨_, rfl⟩
  rw [hK] at HG0 HG1 ⊢
  clear hK
  generalize (w.alloc (.cells #[.int .i64 p.wide, .int .i64 p.high, .slice a1 p.L.length c1] 25)).alloc (.cells #[.int .i64 q.wide, .int .i64 q.high, .slice a2 q.L.length c2] 25) = W1 at *
  go_wp2
  go_loopw [6, 7, 8, 9] (fun xv yv sv iv wl => ∃ (i : Nat), i ≤ 2 * m + 1 ∧ iv = .int .i64 (-(m : Int) + (i : Nat)) ∧ xv = .int .i64 (bstY f (m : Nat) i).x ∧ yv = .int .i64 (bstY f (m : Nat) i).y ∧ sv = .int .i64 (bstY f (m : Nat) i).s ∧ HeldR (Below W1.heap.size W1 wl)) (fun _ _ _ iv _ => (40 - intOf iv).toNat)
  case atStart => exact ⟨0, by omega, by simp, rfl, rfl, rfl, hideR (Below.refl _ _)⟩
  case round =>
    obtain ⟨i, hi, rfl, rfl, rfl, rfl, HBw⟩ := hrel
    by_cases hli : i < 2 * m + 1
    · have ti : decide (-(m : Int) + (i : Int) ≤ (m : Int)) = true := decide_eq_true (by omega)
      have wi : IntKind.i64.wrap (-(m : Int) + (i : Int) + 1) = -(m : Int) + ((i + 1 : Nat) : Int) := by rw [show -(m : Int) + (i : Int) + 1 = -(m : Int) + ((i + 1 : Nat) : Int) by omega]; exact iwrap (by omega) (by omega)
      have HYn : HeldR (bstY f (m : Nat) (i + 1) = bstX f (m : Nat) (-(m : Int) + (i : Nat)) (bstY f (m : Nat) i) (2 * m + 1)) := hideR (by
        show bstX f (m : Nat) (-(m : Int) + (i : Nat)) (bstY f (m : Nat) i) (2 * ((m : Nat) : Int) + 1).toNat = _
        rw [show (2 * ((m : Nat) : Int) + 1).toNat = 2 * m + 1 by omega])
      generalize bstY f (m : Nat) i = b0 at *
      go_wp2
      go_loopw [6, 7, 8, 10] (fun xv yv sv iv wl => ∃ (j : Nat), j ≤ 2 * m + 1 ∧ iv = .int .i64 (-(m : Int) + (j : Nat)) ∧ xv = .int .i64 (bstX f (m : Nat) (-(m : Int) + (i : Nat)) b0 j).x ∧ yv = .int .i64 (bstX f (m : Nat) (-(m : Int) + (i : Nat)) b0 j).y ∧ sv = .int .i64 (bstX f (m : Nat) (-(m : Int) + (i : Nat)) b0 j).s ∧ HeldR (Below W1.heap.size W1 wl)) (fun _ _ _ iv _ => (40 - intOf iv).toNat)
      case atStart => exact ⟨0, by omega, by simp, rfl, rfl, rfl, HBw⟩
      case round =>
        clear HBw
        obtain ⟨j, hj, rfl, rfl, rfl, rfl, HBw⟩ := hrel
        by_cases hlj : j < 2 * m + 1
        · have tj : decide (-(m : Int) + (j : Int) ≤ (m : Int)) = true := decide_eq_true (by omega)
          have wj : IntKind.i64.wrap (-(m : Int) + (j : Int) + 1) = -(m : Int) + ((j + 1 : Nat) : Int) := by rw [show -(m : Int) + (j : Int) + 1 = -(m : Int) + ((j + 1 : Nat) : Int) by omega]; exact iwrap (by omega) (by omega)
          have HXn : HeldR (bstX f (m : Nat) (-(m : Int) + (i : Nat)) b0 (j + 1) = bstP (bstX f (m : Nat) (-(m : Int) + (i : Nat)) b0 j) (-(m : Int) + (j : Nat)) (-(m : Int) + (i : Nat)) (f (-(m : Int) + (j : Nat)) (-(m : Int) + (i : Nat)))) := hideR rfl
          generalize bstX f (m : Nat) (-(m : Int) + (i : Nat)) b0 j = b1 at *
          have htg := unhideR HTg wr (below_go (unhideR HB) (unhideR HBw)) (-(m : Int) + (j : Nat)) (-(m : Int) + (i : Nat)) (by omega) (by omega) (by omega) (by omega)
          obtain ⟨p0, p1, p2⟩ := pic_three (keepB (unhideR HG0) (unhideR HBw))
          obtain ⟨q0, q1, q2⟩ := pic_three (keepB (unhideR HG1) (unhideR HBw))
          generalize f (-(m : Int) + (j : Nat)) (-(m : Int) + (i : Nat)) = s9 at *
          go_wp2_with fail
          refine htg.mono ?_
          rintro e w3 ⟨rfl, k3⟩
          have HB3 := hideR (below_go (unhideR HBw) k3)
          clear htg k3 p0 p1 p2 q0 q1 q2 HBw
          by_cases hs : b1.s < s9
          · have ts : decide (b1.s < s9) = true := decide_eq_true hs
            unfold bstP at HXn
            rw [if_pos hs] at HXn
            go_wp2
            exact ⟨⟨j + 1, by omega, by first | rfl | go_num | (congr 1; omega), by rw [unhideR HXn], by rw [unhideR HXn], by rw [unhideR HXn], HB3⟩, by simp [intOf]; omega⟩
          · have ts : decide (b1.s < s9) = false := decide_eq_false hs
            unfold bstP at HXn
            rw [if_neg hs] at HXn
            go_wp2
            exact ⟨⟨j + 1, by omega, by first | rfl | go_num | (congr 1; omega), by rw [unhideR HXn], by rw [unhideR HXn], by rw [unhideR HXn], HB3⟩, by simp [intOf]; omega⟩
        · obtain rfl : j = 2 * m + 1 := by omega
          have tj : decide (-(m : Int) + ((2 * m + 1 : Nat) : Int) ≤ (m : Int)) = false := decide_eq_false (by omega)
          obtain ⟨mm, hmm⟩ : ∃ k, 2 * m + 1 = k := ⟨_, rfl⟩
          rw [hmm] at HYn tj ⊢
          go_wp2
          exact ⟨⟨i + 1, by omega, by first | rfl | go_num | (congr 1; omega), by rw [unhideR HYn], by rw [unhideR HYn], by rw [unhideR HYn], HBw⟩, by simp [intOf]; omega⟩
    · obtain rfl : i = 2 * m + 1 := by omega
      have ti : decide (-(m : Int) + ((2 * m + 1 : Nat) : Int) ≤ (m : Int)) = false := decide_eq_false (by omega)
      have HR := hideR (unhideR HE wr (below_go (unhideR HB) (unhideR HBw)))
      clear HE HTg
      generalize bstY f (m : Nat) (2 * m + 1) = b0 at *
      obtain ⟨mm, hmm⟩ : ∃ k, 2 * m + 1 = k := ⟨_, rfl⟩
      rw [hmm] at ti ⊢
      go_wp2
      go_ret3
      exact unhideR HR
end Go.Proofs.YtngdemhhcablmalDoor
