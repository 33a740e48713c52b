/-
  The document's files: a card's text without the blanks at its end, by contract. The document's files: what is read of bytes: a row of cards that grows, parts of a row of bytes. The program's reading: its block.
-/
import Derived.Test.YtncbmkflilcdgaiGreatDoorFfW
import Derived.Test.YtncbmkflilcdgaiGreatDoorDH2
import Derived.Laws.OwnMore
namespace Go.Proofs.YtncbmkflilcdgaiGreatDoor
open Go Go.RowKit

theorem trim_less {l : Bs} {n : Nat} (hn : n < l.length) (h : l.getD n 0 = 32) : trimV (l.take (n + 1)) = trimV (l.take n) := by
  have e : l.take (n + 1) = l.take n ++ [32] := by
    rw [List.take_add_one, List.getElem?_eq_getElem hn]
    rw [List.getD_eq_getElem?_getD, List.getElem?_eq_getElem hn] at h
    rw [show l[n] = 32 from h]
    rfl
  rw [e]
  unfold trimV
  rw [List.reverse_append]
  rfl
theorem trim_stop {l : Bs} {n : Nat} (hn : n < l.length) (h : l.getD n 0 ≠ 32) : trimV (l.take (n + 1)) = l.take (n + 1) := by
  have := trim_blanks (v := l.take (n + 1)) (by
    rw [List.getLast?_eq_getElem?, List.length_take, Nat.min_eq_left (by omega), Nat.add_sub_cancel, List.getElem?_take, if_pos (by omega), List.getElem?_eq_getElem hn]
    rw [List.getD_eq_getElem?_getD, List.getElem?_eq_getElem hn] at h
    intro q
    exact h (Option.some.inj q)) 0
  rw [show blanks 0 = [] from rfl, List.append_nil] at this
  exact this
theorem BAt.take {w : World} {ad : Option Addr} {l : Bs} (h : BAt w ad l) (n : Nat) : BAt w ad (l.take n) := ⟨fun k hk => by
  have hk2 : k < l.length ∧ k < n := by rw [List.length_take] at hk; omega
  obtain ⟨b, off, e, hb, hc⟩ := h.at_ k hk2.1
  refine ⟨b, off, e, hb, ?_⟩
  rw [hc, List.getD_eq_getElem?_getD, List.getD_eq_getElem?_getD, List.getElem?_take, if_pos hk2.2]⟩
def TrimPost (l : Bs) (w : World) (e : Ending) (w' : World) : Prop := e = .returned (.string (strB (trimV l))) ∧ w' = w
set_option maxRecDepth 100000 in
set_option maxHeartbeats 1600000 in
theorem trimmed_any {w : World} {bb off cap : Nat} {l : Bs} (h : BAt w (some ⟨bb, off, none⟩) l) (hl : l.length ≤ 1000000) (hc : l.length ≤ cap) :
    Calls Tryz.prog 30 #[.slice (some ⟨bb, off, none⟩) l.length cap] w (TrimPost l w) := by
  have H := hideR h
  clear h
  go_enter Tryz.func30, Tryz.ntmps30
  go_wp2
  go_loop [3] (fun nv => ∃ n : Nat, n ≤ l.length ∧ nv = .int .i64 (n : Nat) ∧ HeldR (trimV (l.take n) = trimV l)) (fun nv => (intOf nv).toNat)
  case atStart => exact ⟨l.length, Nat.le_refl _, rfl, by unfold HeldR; rw [List.take_length]⟩
  case round =>
    obtain ⟨n, hn, rfl, HT⟩ := hrel
    have HE : HeldR (trimV (l.take n) = l.take n → TrimPost l w (.returned (.string (strB (l.take n)))) w) := by
      intro q
      refine ⟨?_, rfl⟩
      rw [← unhideR HT, q]
    have hcv := conv_bytes (cap := cap) ((unhideR H).take n)
    rw [List.length_take, Nat.min_eq_left hn] at hcv
    by_cases h0 : 0 < n
    · obtain ⟨m, hm⟩ : ∃ m, n = m + 1 := ⟨n - 1, by omega⟩
      have t0 : decide ((0 : Int) < (n : Nat)) = true := decide_eq_true (by omega)
      have wm : IntKind.i64.wrap ((n : Int) - 1) = (m : Int) := by rw [iwrap (by omega) (by omega)]; omega
      have hml : m < l.length := by omega
      obtain ⟨b', off', e', hb', cc⟩ := (unhideR H).at_ m hml
      cases e'
      by_cases hx : l.getD m 0 = 32
      · have HG : HeldR (trimV (l.take m) = trimV l) := by
          unfold HeldR
          rw [← unhideR HT, hm, trim_less hml hx]
        rw [hx] at cc
        have HM := hideR hm
        clear hx hm HE hcv
        go_wp2
        exact ⟨⟨m, by omega, rfl, HG⟩, by have := unhideR HM; simp [intOf]; omega⟩
      · have HF := hideR (unhideR HE (by rw [hm]; exact trim_stop hml hx))
        have tx : (((l.getD m 0).toNat : Int) == 32) = false := by
          refine beq_eq_false_iff_ne.2 (fun q => hx (UInt8.toNat_inj.1 ?_))
          have e : (l.getD m 0).toNat = 32 := by omega
          exact e
        generalize l.getD m 0 = c at *
        have HM := hideR hm
        clear hx hm HE HT
        go_wp2
        go_ret
        exact unhideR HF
    · obtain rfl : n = 0 := by omega
      have HF := hideR (unhideR HE rfl)
      clear HE HT
      go_wp2
      go_ret
      exact unhideR HF
end Go.Proofs.YtncbmkflilcdgaiGreatDoor
namespace Go.Proofs.YtncbmkflilcdgaiGreatDoor
open Go Go.RowKit

def crdCells : List CrdS → List Value
  | [] => []
  | c :: r => .string c.name :: .string c.value :: crdCells r
theorem crdCells_append (A B : List CrdS) : crdCells (A ++ B) = crdCells A ++ crdCells B := by
  induction A with
  | nil => rfl
  | cons c A ih => simp only [List.cons_append, crdCells, ih]
theorem crdCells_length (A : List CrdS) : (crdCells A).length = A.length * 2 := by
  induction A with
  | nil => rfl
  | cons c A ih => unfold crdCells; simp only [List.length_cons]; rw [ih]; omega
theorem crdCells_at : ∀ (A : List CrdS) (k : Nat), k < A.length → (crdCells A)[k * 2]? = some (.string (A.getD k crdS0).name) ∧ (crdCells A)[k * 2 + 1]? = some (.string (A.getD k crdS0).value) := by
  intro A
  induction A with
  | nil => intro k hk; cases hk
  | cons c A ih =>
    intro k hk
    cases k with
    | zero => exact ⟨rfl, rfl⟩
    | succ k =>
      obtain ⟨h1, h2⟩ := ih k (by simpa using hk)
      unfold crdCells
      rw [show (k + 1) * 2 = k * 2 + 1 + 1 by omega]
      simp only [List.getElem?_cons_succ]
      refine ⟨?_, ?_⟩
      · rw [h1]; rfl
      · rw [h2]; rfl
def COwn (w : World) (B : Nat) (v : Value) (L : List CrdS) : Prop := w.ownsRow B 57 2 v L.length (crdCells L)
theorem infoC : (Tryz.prog.info? 57).map (fun i => (i.zero, i.size, i.bytes)) = some (some (.agg #[.string ByteArray.empty, .string ByteArray.empty]), 2, 32) := by kernel_rfl
theorem COwn.below {w w' : World} {B : Nat} {v : Value} {L : List CrdS} (h : COwn w B v L) (k : Below w.heap.size w w') : COwn w' B v L := own_below2 h k
theorem COwn.slice {w : World} {B : Nat} {v : Value} {L : List CrdS} (h : COwn w B v L) : ∃ ad cap, v = .slice ad L.length cap := by
  rcases h.2 with ⟨h1, h2⟩ | ⟨g, cap, cur, e, _⟩
  · exact ⟨none, 0, by rw [h1, h2]⟩
  · exact ⟨_, cap, e⟩
/-- cards of a row that grew, all of them short. -/
theorem COwn.came {w : World} {B : Nat} {v : Value} {L : List CrdS} (h : COwn w B v L) (hs : ∀ c ∈ L, c.name.size ≤ 140737488355328 ∧ c.value.size ≤ 140737488355328) : ∃ ad cap, v = .slice ad L.length cap ∧ CCame w ad L := by
  rcases h.2 with ⟨h1, h2⟩ | ⟨g, cap, cur, e, hB, hg, hc, _, hz, ht⟩
  · have e : L = [] := List.length_eq_zero_iff.1 h2
    subst e
    exact ⟨none, 0, h1, ⟨fun k hk => absurd hk (Nat.not_lt_zero k)⟩⟩
  · subst e
    refine ⟨_, cap, rfl, ⟨fun k hk => ⟨g, 0, rfl, (Array.getElem?_eq_some_iff.1 hg).1, ?_, ?_, ?_⟩⟩⟩
    · have q := (crdCells_at L k hk).1
      rw [← ht, List.getElem?_take, if_pos (by omega)] at q
      rw [Nat.zero_add]
      simp only [World.cell?, hg]
      simpa using q
    · have q := (crdCells_at L k hk).2
      rw [← ht, List.getElem?_take, if_pos (by omega)] at q
      rw [Nat.zero_add]
      simp only [World.cell?, hg]
      simpa using q
    · refine hs _ ?_
      rw [List.getD_eq_getElem?_getD, List.getElem?_eq_getElem hk]
      exact List.getElem_mem hk
theorem BAt.part {w : World} {b off : Nat} {l : Bs} (h : BAt w (some ⟨b, off, none⟩) l) (s n : Nat) : BAt w (some ⟨b, off + s, none⟩) ((l.drop s).take n) := ⟨fun k hk => by
  have hk2 : s + k < l.length ∧ k < n := by rw [List.length_take, List.length_drop] at hk; omega
  obtain ⟨b', off', e, hb, hc⟩ := h.at_ (s + k) hk2.1
  cases e
  refine ⟨b, off + s, rfl, hb, ?_⟩
  rw [Nat.add_assoc, hc, List.getD_eq_getElem?_getD, List.getD_eq_getElem?_getD, List.getElem?_take, if_pos hk2.2, List.getElem?_drop]⟩
theorem part_len {l : Bs} {s n : Nat} (h : s + n ≤ l.length) : ((l.drop s).take n).length = n := by
  rw [List.length_take, List.length_drop]
  omega
/-- as many as may be: none of the first is the end. -/
theorem stop_all {b : Bs} : ∀ f k, (∀ j, k ≤ j → j < k + f → endB b j = false) → stopV b f k = k + f := by
  intro f
  induction f with
  | zero => intro k _; rfl
  | succ f ih =>
    intro k h
    unfold stopV
    rw [if_neg (by rw [h k (Nat.le_refl _) (by omega)]; decide), ih (k + 1) (fun j a c => h j (by omega) (by omega))]
    omega
theorem cards_next {l : Bs} (k : Nat) : cardsOf l (k + 1) = cardsOf l k ++ [cardAt l k] := by
  unfold cardsOf
  rw [List.range_succ, List.map_append]
  rfl
theorem trim_len (l : Bs) : (trimV l).length ≤ l.length := by
  unfold trimV
  rw [List.length_reverse]
  have := (List.dropWhile_sublist (p := (· == (32 : UInt8))) (l := l.reverse)).length_le
  rw [List.length_reverse] at this
  exact this
end Go.Proofs.YtncbmkflilcdgaiGreatDoor
namespace Go.Proofs.YtncbmkflilcdgaiGreatDoor
open Go Go.RowKit

def rdT (co : Nat) (cv : Value) (hd : Bool) (W H : Nat) (pv : Value) (nx : Nat) : List Value := [.int .i64 (co : Nat), cv, .bool hd, .int .i64 (W : Nat), .int .i64 (H : Nat), pv, .int .i64 (nx : Nat)]
/-- the reading's block: 2880 bytes, then what else it knows. -/
structure Rd (w : World) (g : Nat) (b : Bs) (t : List Value) : Prop where
  len : b.length = 2880
  blk : w.heap[g]? = some (.cells (byCells b ++ t).toArray 65)
theorem Rd.below {w v : World} {g : Nat} {b : Bs} {t : List Value} (h : Rd w g b t) (k : Below w.heap.size w v) : Rd v g b t := ⟨h.len, keepB h.blk k⟩
theorem by_len (b : Bs) : (byCells b).length = b.length := by unfold byCells; rw [List.length_map]
theorem Rd.frozen {w : World} {g : Nat} {b : Bs} {t : List Value} (h : Rd w g b t) (k : Nat) : w.frozen? ⟨g, k, none⟩ = false := by simp [World.frozen?, h.blk]
theorem Rd.byte {w : World} {g : Nat} {b : Bs} {t : List Value} (h : Rd w g b t) {k : Nat} (hk : k < 2880) : w.cell? ⟨g, k, none⟩ = some (byV (b.getD k 0)) := by
  have hl := h.len
  have e : (byCells b ++ t)[k]? = some (byV (b.getD k 0)) := by
    rw [List.getElem?_append_left (by rw [by_len]; omega)]
    unfold byCells
    rw [List.getElem?_map, List.getElem?_eq_getElem (by omega), List.getD_eq_getElem?_getD, List.getElem?_eq_getElem (by omega)]
    rfl
  simp only [World.cell?, h.blk]
  simpa using e
theorem Rd.tail {w : World} {g : Nat} {b : Bs} {t : List Value} (h : Rd w g b t) (i : Nat) (x : Value) (hi : t[i]? = some x) : w.cell? ⟨g, 2880 + i, none⟩ = some x := by
  have hl := h.len
  have e : (byCells b ++ t)[2880 + i]? = some x := by
    rw [List.getElem?_append_right (by rw [by_len]; omega), by_len, hl, Nat.add_sub_cancel_left]
    exact hi
  simp only [World.cell?, h.blk]
  simpa using e
theorem Rd.set {w : World} {g : Nat} {b : Bs} {t : List Value} (h : Rd w g b t) (i : Nat) (x : Value) : Rd (w.setCell ⟨g, 2880 + i, none⟩ x) g b (t.set i x) := by
  refine ⟨h.len, ?_⟩
  rw [heap_setCell_same w g (2880 + i) _ _ x h.blk]
  congr 2
  apply Array.ext'
  rw [Array.toList_setIfInBounds]
  simp only
  rw [List.set_append_right _ _ (by rw [by_len, h.len]; omega), by_len, h.len, Nat.add_sub_cancel_left]
theorem Rd.other {w : World} {g k i : Nat} {b : Bs} {t : List Value} {x : Value} (h : Rd w g b t) (hk : g ≠ k) : Rd (w.setCell ⟨k, i, none⟩ x) g b t := ⟨h.len, (heap_setCell_other w ⟨k, i, none⟩ g x (by simpa using hk)).trans h.blk⟩
theorem Rd.grown {w w' : World} {g : Nat} {b : Bs} {t : List Value} {row : Option Nat} (h : Rd w g b t) (hg : w.grownBy w' row) (hr : some g ≠ row) : Rd w' g b t := ⟨h.len, (hg.block g (ltB h.blk) hr).trans h.blk⟩
/-- a row of another type is another block. -/
theorem Rd.ne {w : World} {g B n s : Nat} {b : Bs} {t xs : List Value} {v : Value} {e : TypeId} (h : Rd w g b t) (ho : w.ownsRow B e s v n xs) (he : e ≠ 65) : some g ≠ v.ownBlock := by
  intro q
  rcases ho.2 with ⟨h1, _⟩ | ⟨g', c, cur, h1, _, h3, _⟩
  · subst h1; cases q
  · subst h1
    have eg : g = g' := by simpa [Value.ownBlock] using q
    subst eg
    rw [h.blk] at h3
    injection h3 with h3
    injection h3 with _ h4
    exact he h4.symm
end Go.Proofs.YtncbmkflilcdgaiGreatDoor
