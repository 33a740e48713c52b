/-
  The document's files: rows of bytes that grow; padded, cardRow, blocks, by contract.
-/
import Derived.Test.YtncbmkflilcdgaiGreatDoorIcK
import Derived.Test.YtncbmkflilcdgaiGreatDoorFfP
import Derived.Lib.AppendStr
namespace Go.Proofs.YtncbmkflilcdgaiGreatDoor
open Go Go.RowKit

def byV (c : UInt8) : Value := .int .u8 c.toNat
def byCells (b : Bs) : List Value := b.map byV
def BOwn (w : World) (B : Nat) (v : Value) (b : Bs) : Prop := w.ownsRow B 5 1 v b.length (byCells b)
def lenS : Value → Nat
  | .slice _ n _ => n
  | _ => 0
theorem BOwn.below {w w' : World} {B : Nat} {v : Value} {b : Bs} (h : BOwn w B v b) (k : Below w.heap.size w w') : BOwn w' B v b := own_below2 h k
theorem BOwn.slice {w : World} {B : Nat} {v : Value} {b : Bs} (h : BOwn w B v b) : ∃ ad cap, v = .slice ad b.length cap := by
  rcases h.2 with ⟨h1, h2⟩ | ⟨g, cap, cur, e, _⟩
  · exact ⟨none, 0, by rw [h1, h2]⟩
  · exact ⟨_, cap, e⟩
theorem infoB : (Tryz.prog.info? 5).map (fun i => (i.zero, i.size, i.bytes)) = some (some (.int .u8 0), 1, 1) := by kernel_rfl
theorem one_byte (w : World) (x : UInt8) : ∀ k u, ([byV x] : List Value)[k]? = some u → (w.alloc (.cells #[.int .u8 x.toNat] 5)).cell? ((⟨w.heap.size, 0, none⟩ : Addr).add k) = some u := by
  intro k u hu
  cases k with
  | zero =>
    cases hu
    rw [add_pl2]
    exact one_at (alloc_last w _)
  | succ k => simp at hu
theorem two_bytes (w : World) (x y : UInt8) : ∀ k u, ([byV x, byV y] : List Value)[k]? = some u → (w.alloc (.cells #[.int .u8 x.toNat, .int .u8 y.toNat] 5)).cell? ((⟨w.heap.size, 0, none⟩ : Addr).add k) = some u := by
  intro k u hu
  rcases k with _ | _ | k
  · cases hu
    rw [add_pl2]
    exact (cells_at (alloc_last w _) 0 (by simp)).1
  · cases hu
    rw [add_pl2]
    exact (cells_at (alloc_last w _) 1 (by simp)).1
  · simp at hu
theorem pad_step {x : UInt8} {b : Bs} {k : Nat} : b ++ List.replicate (k + 1) x = (b ++ List.replicate k x) ++ [x] := by
  rw [List.replicate_succ', List.append_assoc]
def RowPost (B : Nat) (w : World) (b : Bs) (e : Ending) (w' : World) : Prop := ∃ v', e = .returned v' ∧ BOwn w' B v' b ∧ Below B w w'
set_option maxRecDepth 100000 in
set_option maxHeartbeats 1600000 in
theorem padded_any {B : Nat} {w : World} {v : Value} {b : Bs} (N : Nat) (x : UInt8) (hB : B ≤ w.heap.size) (h : BOwn w B v b) (hN : N ≤ 1000000) :
    Calls Tryz.prog 24 #[v, .int .i64 (N : Nat), .int .u8 x.toNat] w (RowPost B w (padV N x b)) := by
  obtain ⟨i0, hi0, hz0, hz1, hz2⟩ := info_parts infoB
  have HP : HeldR (∀ (k : Nat) v' w', k = N - b.length → BOwn w' B v' (b ++ List.replicate k x) → Below B w w' → RowPost B w (padV N x b) (.returned v') w') := by
    intro k v' w' hk h1 h2
    subst hk
    exact ⟨v', rfl, h1, h2⟩
  have H0 := hideR h
  clear h
  go_enter Tryz.func24, Tryz.ntmps24
  go_wp2
  go_loopw [0] (fun bv wl => ∃ k : Nat, k ≤ N - b.length ∧ HeldR (BOwn wl B bv (b ++ List.replicate k x)) ∧ HeldR (Below B w wl)) (fun bv _ => N + 1 - lenS bv)
  case atStart => exact ⟨0, Nat.zero_le _, by rw [List.replicate_zero, List.append_nil]; exact H0, hideR (Below.refl _ _)⟩
  case round =>
    obtain ⟨k, hk, HO, HW⟩ := hrel
    obtain ⟨ad, cap, e⟩ := (unhideR HO).slice
    subst e
    have hl : (b ++ List.replicate k x).length = b.length + k := by rw [List.length_append, List.length_replicate]
    have HO' : HeldR (wr.ownsRow B 5 1 (.slice ad (b.length + k) cap) (b.length + k) (byCells (b ++ List.replicate k x))) := by
      have := unhideR HO
      unfold BOwn at this
      rw [hl] at this
      exact this
    have lsz := (unhideR HW).size
    have hBr : B ≤ wr.heap.size := Nat.le_trans hB lsz
    by_cases hlt : b.length + k < N
    · have HS := hideR (pad_step (x := x) (b := b) (k := k))
      have t1 : decide (((b.length + k : Nat) : Int) < (N : Int)) = true := decide_eq_true (by omega)
      rw [hl] at HO ⊢
      have HL := hideR hl
      clear hl HO
      generalize b ++ List.replicate k x = A at *
      generalize b.length = n at *
      go_wp2_with (first
        | (at_builtin; refine wpList_append_own _ rfl _ _ 27 rfl B 5 i0 (.int .u8 0) 1 1 Tryz.underlying27 hi0 hz0 hz1 hz2 rfl (by decide) _ (n + k) (byCells A) rfl (own_below2 (unhideR HO') (below_a _ _)) ⟨wr.heap.size, 0, none⟩ 1 1 [byV x] rfl rfl ?c1 ?c2 ?c3 ?c4 ?c5 ?_))
      case c1 => exact one_byte wr x
      case c2 =>
        intro u hu
        rw [List.mem_singleton.1 hu]
        rfl
      case c3 => unfold maxLen; omega
      case c4 => omega
      case c5 => simp; omega
      intro v3 w3 hown2 hgrow2 _
      have B3 := hideR (((unhideR HW).alloc hBr _).grown hgrow2 (by simp; omega) (fun g h => own_at2 (unhideR HO') g h))
      have O3 : HeldR (BOwn w3 B v3 (A ++ [x])) := by
        unfold HeldR BOwn byCells
        rw [List.map_append, List.length_append, unhideR HL]
        exact hown2
      have HM : HeldR (lenS v3 = n + k + 1) := by
        obtain ⟨ad', cap', e⟩ := (unhideR O3).slice
        rw [e]
        show (A ++ [x]).length = _
        rw [List.length_append, unhideR HL]
        rfl
      clear hown2 hgrow2 lsz
      go_wp2
      exact ⟨⟨k + 1, by omega, by rw [unhideR HS]; exact O3, B3⟩, by rw [unhideR HM]; show _ < N + 1 - (n + k); omega⟩
    · have t1 : decide (((b.length + k : Nat) : Int) < (N : Int)) = false := decide_eq_false (by omega)
      have HF := hideR (unhideR HP k _ wr (by omega) (unhideR HO) (unhideR HW))
      rw [hl] at HF ⊢
      clear hl HO HO' HP H0
      go_wp2
      go_ret
      exact unhideR HF
theorem blocks_any (n : Nat) (w : World) (h : n ≤ 1000000) : Calls Tryz.prog 25 #[.int .i64 (n : Nat)] w fun e w' => e = .returned (.int .i64 (blocksV n : Nat)) ∧ w' = w := by
  have h1 : IntKind.i64.wrap ((n : Int) + 2879) = (n : Int) + 2879 := iwrap (by omega) (by omega)
  have h2 : IntKind.i64.wrap (((n : Int) + 2879) / 2880) = ((n : Int) + 2879) / 2880 := iwrap (by omega) (by omega)
  have h3 : IntKind.i64.wrap (((n : Int) + 2879) / 2880 * 2880) = ((n : Int) + 2879) / 2880 * 2880 := iwrap (by omega) (by omega)
  have h4 : ((n : Int) + 2879).tdiv 2880 = ((n : Int) + 2879) / 2880 := Int.tdiv_eq_ediv_of_nonneg (by omega)
  rw [show ((blocksV n : Nat) : Int) = ((n : Int) + 2879) / 2880 * 2880 by unfold blocksV; omega]
  go_enter Tryz.func25, Tryz.ntmps25
  go_wp2
  go_ret
  exact ⟨rfl, rfl⟩
/-- a card's row, behind what is there. -/
theorem row_pad {b n v : Bs} (hn : n.length ≤ 8) (hv : v.length ≤ 70) : padV (b.length + 80) 32 (padV (b.length + 8) 32 (b ++ n) ++ [61, 32] ++ v) = b ++ rowV n v := by
  unfold padV rowV blanks
  simp only [List.length_append, List.length_replicate, List.length_cons, List.length_nil, List.append_assoc]
  rw [show b.length + 8 - (b.length + n.length) = 8 - n.length by omega, show b.length + 80 - (b.length + (n.length + (8 - n.length + (0 + 1 + 1 + v.length)))) = 70 - v.length by omega]
theorem str_by (s : ByteArray) : Go.Lib.strCells s = byCells s.data.toList := rfl
set_option maxRecDepth 100000 in
set_option maxHeartbeats 1600000 in
theorem cardRow_any {B : Nat} {w : World} {v : Value} {b : Bs} (n s : ByteArray) (hB : B ≤ w.heap.size) (h : BOwn w B v b) (hb : b.length ≤ 500000) (hn : n.size ≤ 8) (hs : s.size ≤ 70) :
    Calls Tryz.prog 22 #[v, .string n, .string s] w (RowPost B w (b ++ rowV n.data.toList s.data.toList)) := by
  obtain ⟨i0, hi0, hz0, hz1, hz2⟩ := info_parts infoB
  have ln : n.data.toList.length = n.size := Array.length_toList
  have ls : s.data.toList.length = s.size := Array.length_toList
  rw [← row_pad (b := b) (n := n.data.toList) (v := s.data.toList) (by omega) (by omega)]
  obtain ⟨ad, cap, e⟩ := h.slice
  subst e
  have H0 := hideR h
  have HLn := hideR ln
  have HLs := hideR ls
  have hw8 : IntKind.i64.wrap ((b.length : Int) + 8) = (b.length : Int) + 8 := iwrap (by omega) (by omega)
  have hw80 : IntKind.i64.wrap ((b.length : Int) + 80) = (b.length : Int) + 80 := iwrap (by omega) (by omega)
  clear h ln ls
  go_enter Tryz.func22, Tryz.ntmps22
  go_wp2_with (first
    | (at_builtin; refine Go.Lib.wpList_append_own_string _ rfl _ _ 27 9 rfl B 5 i0 Tryz.underlying27 Tryz.underlying9 hi0 hz0 hz1 hz2 _ b.length (byCells b) rfl (unhideR H0) n rfl ?c3 ?c4 hB ?_))
  case c3 => unfold maxLen; omega
  case c4 => omega
  intro v1 w1 hown1 hgrow1 _
  have B1 := hideR ((Below.refl B w).grown hgrow1 hB (fun g h => own_at2 (unhideR H0) g h))
  have O1 : HeldR (BOwn w1 B v1 (b ++ n.data.toList)) := by
    unfold HeldR BOwn
    rw [List.length_append, unhideR HLn]
    unfold byCells
    rw [List.map_append]
    exact hown1
  clear hown1 hgrow1 H0
  have hB1 : B ≤ w1.heap.size := Nat.le_trans hB (unhideR B1).size
  have hp := padded_any (b.length + 8) 32 hB1 (unhideR O1) (by omega)
  rw [show (((b.length + 8 : Nat) : Nat) : Int) = (b.length : Int) + 8 by omega] at hp
  go_wp2_with fail
  refine hp.mono ?_
  rintro e w2 ⟨v2, rfl, hO2, hB2⟩
  have O2 := hideR hO2
  have B2 := hideR ((unhideR B1).trans hB2)
  have hl2 : (padV (b.length + 8) 32 (b ++ n.data.toList)).length = b.length + 8 := by
    unfold padV
    rw [List.length_append, List.length_append, List.length_replicate, unhideR HLn]
    omega
  clear hp hO2 hB2 O1 B1 hB1
  have hBb : B ≤ w2.heap.size := Nat.le_trans hB (unhideR B2).size
  have H2 : HeldR (w2.ownsRow B 5 1 v2 (b.length + 8) (byCells (padV (b.length + 8) 32 (b ++ n.data.toList)))) := by
    have := unhideR O2
    unfold BOwn at this
    rw [hl2] at this
    exact this
  have HL2 := hideR hl2
  clear hl2 O2
  generalize padV (b.length + 8) 32 (b ++ n.data.toList) = A2 at *
  go_wp2_with (first
    | (at_builtin; refine wpList_append_own _ rfl _ _ 27 rfl B 5 i0 (.int .u8 0) 1 1 Tryz.underlying27 hi0 hz0 hz1 hz2 rfl (by decide) _ (b.length + 8) (byCells A2) rfl (own_below2 (unhideR H2) (below_a _ _)) ⟨w2.heap.size, 0, none⟩ 2 2 [byV 61, byV 32] rfl rfl ?d1 ?d2 ?d3 ?d4 ?d5 ?_))
  case d1 => exact two_bytes w2 61 32
  case d2 =>
    intro u hu
    simp only [List.mem_cons, List.not_mem_nil, or_false] at hu
    rcases hu with rfl | rfl <;> rfl
  case d3 => unfold maxLen; omega
  case d4 => omega
  case d5 => simp; omega
  intro v3 w3 hown3 hgrow3 _
  have B3 := hideR (((unhideR B2).alloc hBb _).grown hgrow3 (by simp; omega) (fun g h => own_at2 (unhideR H2) g h))
  have H3 : HeldR (w3.ownsRow B 5 1 v3 (b.length + 8 + 2) (byCells (A2 ++ [61, 32]))) := by
    unfold HeldR byCells
    rw [List.map_append]
    exact hown3
  clear hown3 hgrow3 H2 B2 hBb
  have hBc : B ≤ w3.heap.size := Nat.le_trans hB (unhideR B3).size
  go_wp2_with (first
    | (at_builtin; refine Go.Lib.wpList_append_own_string _ rfl _ _ 27 9 rfl B 5 i0 Tryz.underlying27 Tryz.underlying9 hi0 hz0 hz1 hz2 _ (b.length + 8 + 2) (byCells (A2 ++ [61, 32])) rfl (unhideR H3) s rfl ?e3 ?e4 hBc ?_))
  case e3 => unfold maxLen; omega
  case e4 => omega
  intro v4 w4 hown4 hgrow4 _
  have B4 := hideR ((unhideR B3).grown hgrow4 hBc (fun g h => own_at2 (unhideR H3) g h))
  have O4 : HeldR (BOwn w4 B v4 (A2 ++ [61, 32] ++ s.data.toList)) := by
    unfold HeldR BOwn
    rw [List.length_append, List.length_append, unhideR HL2, unhideR HLs]
    unfold byCells at hown4 ⊢
    rw [List.map_append (l₁ := A2 ++ [61, 32])]
    exact hown4
  clear hown4 hgrow4 H3 B3
  have hBd : B ≤ w4.heap.size := Nat.le_trans hB (unhideR B4).size
  have hp := padded_any (b.length + 80) 32 hBd (unhideR O4) (by omega)
  rw [show (((b.length + 80 : Nat) : Nat) : Int) = (b.length : Int) + 80 by omega] at hp
  clear O4
  go_wp2_with fail
  refine hp.mono ?_
  rintro e w5 ⟨v5, rfl, hO5, hB5⟩
  have HF : HeldR (RowPost B w (padV (b.length + 80) 32 (A2 ++ [61, 32] ++ s.data.toList)) (.returned v5) w5) := ⟨v5, rfl, hO5, (unhideR B4).trans hB5⟩
  clear hp hO5 hB5
  go_wp2
  go_ret
  exact unhideR HF
end Go.Proofs.YtncbmkflilcdgaiGreatDoor
