/-
  Files: what was written is read. Nothing of the program.
-/
import Derived.Test.YtncbmkflilcdgaiGreatDoorFfP
namespace Go.Proofs.YtncbmkflilcdgaiGreatDoor

theorem getD_left {l r : Bs} {i : Nat} {d : UInt8} (h : i < l.length) : (l ++ r).getD i d = l.getD i d := by simp [List.getD, List.getElem?_append_left h]
theorem getD_right {l r : Bs} {i : Nat} {d : UInt8} (h : l.length ≤ i) : (l ++ r).getD i d = r.getD (i - l.length) d := by simp [List.getD, List.getElem?_append_right h]
theorem stop_at {b : Bs} {n : Nat} : ∀ f k, (∀ j, k ≤ j → j < n → endB b j = false) → endB b n = true → k ≤ n → n ≤ k + f → stopV b f k = n := by
  intro f
  induction f with
  | zero => intro k _ _ h3 h4; unfold stopV; omega
  | succ f ih =>
    intro k h1 h2 h3 h4
    unfold stopV
    by_cases e : k = n
    · subst e
      rw [if_pos h2]
    · rw [if_neg (by rw [h1 k (Nat.le_refl _) (by omega)]; decide)]
      exact ih (k + 1) (fun j a c => h1 j (by omega) c) h2 (by omega) (by omega)
theorem data_length (p : Pic) (k : Nat) : (dataV p k).length = 2 * k := by
  unfold dataV
  induction k with
  | zero => rfl
  | succ k ih => rw [List.range_succ, List.map_append, List.flatten_append, List.length_append, ih]; simp; omega
theorem data_succ (p : Pic) (k : Nat) : dataV p (k + 1) = dataV p k ++ [hi8 (pixAt p k), lo8 (pixAt p k)] := by
  unfold dataV
  rw [List.range_succ, List.map_append, List.flatten_append]
  simp
theorem data_at (p : Pic) : ∀ k j, j < k → (dataV p k).getD (2 * j) 0 = hi8 (pixAt p j) ∧ (dataV p k).getD (2 * j + 1) 0 = lo8 (pixAt p j) := by
  intro k
  induction k with
  | zero => intro j hj; omega
  | succ k ih =>
    intro j hj
    have l := data_length p k
    rw [data_succ]
    by_cases e : j < k
    · have := ih j e
      rw [getD_left (by omega), getD_left (by omega)]
      exact this
    · obtain rfl : j = k := by omega
      rw [getD_right (by omega), getD_right (by omega), l, show 2 * j - 2 * j = 0 by omega, show 2 * j + 1 - 2 * j = 1 by omega]
      exact ⟨rfl, rfl⟩
theorem bytes_back {n : Nat} (h : n ≤ 65535) : ((hi8 n).toNat * 256 + (lo8 n).toNat + 32768) % 65536 = n := by
  unfold hi8 lo8
  have a : (n + 32768) % 65536 / 256 < 256 := by omega
  have c : (n + 32768) % 65536 % 256 < 256 := by omega
  rw [UInt8.toNat_ofNat', UInt8.toNat_ofNat', Nat.mod_eq_of_lt (show _ < 2 ^ 8 from a), Nat.mod_eq_of_lt (show _ < 2 ^ 8 from c)]
  omega
theorem turn_row {H W i : Nat} (hW : 0 < W) (hi : i < W * H) : (H - 1 - i / W) * W + i % W < W * H ∧ (H - 1 - ((H - 1 - i / W) * W + i % W) / W) * W + ((H - 1 - i / W) * W + i % W) % W = i := by
  have h1 : i / W < H := Nat.div_lt_of_lt_mul hi
  have h2 : i % W < W := Nat.mod_lt _ hW
  have d : ((H - 1 - i / W) * W + i % W) / W = H - 1 - i / W := by
    rw [Nat.mul_comm, Nat.mul_add_div hW, Nat.div_eq_of_lt h2, Nat.add_zero]
  have m : ((H - 1 - i / W) * W + i % W) % W = i % W := by
    rw [Nat.mul_comm, Nat.mul_add_mod, Nat.mod_eq_of_lt h2]
  rw [d, m]
  have hdm := Nat.div_add_mod i W
  clear d m
  generalize i / W = q at *
  generalize i % W = t at *
  constructor
  · have : (H - 1 - q + 1) * W ≤ H * W := Nat.mul_le_mul_right _ (by omega)
    rw [Nat.add_mul, Nat.one_mul] at this
    rw [Nat.mul_comm W H]
    omega
  · rw [show H - 1 - (H - 1 - q) = q by omega, Nat.mul_comm]
    exact hdm
/-- how long the head is. -/
theorem head_length {p : Pic} {L : List Crd} (h : PicOk p) (hL : CardsOk L) : (headV p L).length = 80 * (6 + L.length) + 3 := by
  unfold headV
  rw [List.length_append, rows_length (fun c hc => ?_), List.length_append]
  · show 80 * (6 + L.length) + 3 = _
    rfl
  · rcases List.mem_append.1 hc with hc | hc
    · exact (six_ok h c hc).1
    · exact (hL.each c hc).1
theorem blocks_le (n : Nat) : n ≤ blocksV n := by unfold blocksV; omega
theorem full_length {p : Pic} {L : List Crd} (h : PicOk p) (hL : CardsOk L) : (fullHead p L).length = blocksV (80 * (6 + L.length) + 80) := by
  unfold fullHead padV
  rw [List.length_append, List.length_replicate, head_length h hL]
  unfold blocksV
  omega
theorem pad_length {n : Nat} {x : UInt8} {b : Bs} (h : b.length ≤ n) : (padV n x b).length = n := by
  unfold padV
  rw [List.length_append, List.length_replicate]
  omega
theorem pix_len {p : Pic} (h : PicOk p) : p.L.length = p.wide.toNat * p.high.toNat := by
  have a := h.len
  have e1 : ((p.wide.toNat : Nat) : Int) = p.wide := Int.toNat_of_nonneg (by have := h.w1; omega)
  have e2 : ((p.high.toNat : Nat) : Int) = p.high := Int.toNat_of_nonneg (by have := h.h1; omega)
  have : ((p.L.length : Nat) : Int) = ((p.wide.toNat * p.high.toNat : Nat) : Int) := by rw [Int.natCast_mul, e1, e2, a]
  exact_mod_cast this
theorem read_file {p : Pic} {L : List Crd} (he : fileE p L = 0) : readV (fileV p L) = (0, p, L) := by
  have hE : picE p = 0 ∧ cardsE L = 0 := by
    unfold fileE at he
    split at he
    · rename_i q; exact ⟨q, he⟩
    · rename_i q; exact absurd he q
  have h := pic_ok hE.1
  have hL := cards_ok hE.2
  have hall : ∀ c ∈ six p ++ L, CrdOk c ∧ c.name ≠ [69, 78, 68] := by
    intro c hc
    rcases List.mem_append.1 hc with hc | hc
    · exact six_ok h c hc
    · exact hL.each c hc
  have hn : (six p ++ L).length = 6 + L.length := by rw [List.length_append]; rfl
  -- the bytes: rows, then END and blanks, then the counts and noughts
  obtain ⟨r, hr⟩ : ∃ r, fileV p L = rowsV (six p ++ L) ++ ([69, 78, 68] ++ blanks 5 ++ r) := by
    have hb : blocksV (headV p L).length - (headV p L).length = 5 + (blocksV (headV p L).length - (headV p L).length - 5) := by
      rw [head_length h hL]
      unfold blocksV
      omega
    refine ⟨List.replicate (blocksV (headV p L).length - (headV p L).length - 5) 32 ++ (dataV p p.L.length ++ List.replicate (blocksV (bodyV p L).length - (bodyV p L).length) 0), ?_⟩
    have e1 : fileV p L = bodyV p L ++ List.replicate (blocksV (bodyV p L).length - (bodyV p L).length) 0 := rfl
    have e2 : bodyV p L = (headV p L ++ List.replicate (blocksV (headV p L).length - (headV p L).length) 32) ++ dataV p p.L.length := rfl
    rw [e1]
    generalize List.replicate (blocksV (bodyV p L).length - (bodyV p L).length) (0 : UInt8) = Z
    rw [e2, hb, ← List.replicate_append_replicate]
    unfold headV blanks
    simp only [List.append_assoc]
    rw [Nat.add_sub_cancel_left]
  have hlen : (fileV p L).length = blocksV (blocksV (80 * (6 + L.length) + 80) + 2 * p.L.length) := by
    unfold fileV
    rw [pad_length (blocks_le _)]
    unfold bodyV
    rw [List.length_append, full_length h hL, data_length]
  have hfew := h.few
  have h100 := hL.few
  have hbig : ¬ 400000 < (fileV p L).length := by
    rw [hlen]
    unfold blocksV
    omega
  have hge : blocksV (80 * (6 + L.length) + 80) + 2 * p.L.length ≤ (fileV p L).length := by
    rw [hlen]
    exact blocks_le _
  have hcard : ∀ k, k < 6 + L.length → cardAt (fileV p L) k = (six p ++ L).getD k crd0 := by
    intro k hk
    rw [hr]
    exact card_read (fun c hc => (hall c hc).1) _ (by omega)
  have hend : endB (fileV p L) (6 + L.length) = true := by
    unfold endB
    rw [Bool.or_eq_true]
    refine .inr ?_
    have hd : (fileV p L).drop (80 * (6 + L.length)) = [69, 78, 68] ++ blanks 5 ++ r := by
      rw [hr]
      have l := rows_length (fun c hc => (hall c hc).1)
      rw [hn] at l
      rw [← l, List.drop_left]
    show (trimV (((fileV p L).drop (80 * (6 + L.length))).take 8) == [69, 78, 68]) = true
    rw [hd, List.take_append_of_le_length (by decide), List.take_of_length_le (by decide)]
    decide
  have hnot : ∀ j, 0 ≤ j → j < 6 + L.length → endB (fileV p L) j = false := by
    intro j _ hj
    unfold endB
    rw [Bool.or_eq_false_iff]
    constructor
    · refine decide_eq_false ?_
      have := blocks_le (80 * (6 + L.length) + 80)
      omega
    · rw [hcard j hj]
      have hm : (six p ++ L).getD j crd0 ∈ six p ++ L := by
        rw [show (six p ++ L).getD j crd0 = (six p ++ L)[j]'(by omega) by simp [List.getD, List.getElem?_eq_getElem (show j < (six p ++ L).length by omega)]]
        exact List.getElem_mem _
      exact beq_eq_false_iff_ne.2 (hall _ hm).2
  have hstop : stopV (fileV p L) 107 0 = 6 + L.length := stop_at 107 0 hnot hend (by omega) (by omega)
  have w257 : p.wide.toNat < 257 := by have := h.w2; have := h.w1; omega
  have h257 : p.high.toNat < 257 := by have := h.h2; have := h.h1; omega
  have hW : numV (cardAt (fileV p L) 3).value 0 = p.wide.toNat := by
    rw [hcard 3 (by omega)]
    exact (dec_num ⟨p.wide.toNat, w257⟩).1
  have hH : numV (cardAt (fileV p L) 4).value 0 = p.high.toNat := by
    rw [hcard 4 (by omega)]
    exact (dec_num ⟨p.high.toNat, h257⟩).1
  have hpl := pix_len h
  have e1 : ((p.wide.toNat : Nat) : Int) = p.wide := Int.toNat_of_nonneg (by have := h.w1; omega)
  have e2 : ((p.high.toNat : Nat) : Int) = p.high := Int.toNat_of_nonneg (by have := h.h1; omega)
  have hWpos : 0 < p.wide.toNat := by have := h.w1; omega
  have hpix : ∀ j, j < p.L.length → pixOf (fileV p L) (blocksV (80 * (6 + L.length) + 80)) j = p.L.getD ((p.high.toNat - 1 - j / p.wide.toNat) * p.wide.toNat + j % p.wide.toNat) 0 := by
    intro j hj
    have hb : ∀ i, i < 2 * p.L.length → (fileV p L).getD (blocksV (80 * (6 + L.length) + 80) + i) 0 = (dataV p p.L.length).getD i 0 := by
      intro i hi
      have l := full_length h hL
      have ld := data_length p p.L.length
      unfold fileV padV
      rw [getD_left (by unfold bodyV; rw [List.length_append]; omega)]
      unfold bodyV
      rw [getD_right (by omega), l, Nat.add_sub_cancel_left]
    obtain ⟨d1, d2⟩ := data_at p p.L.length j hj
    have b1 := hb (2 * j) (by omega)
    have b2 := hb (2 * j + 1) (by omega)
    unfold pixOf
    rw [← Nat.add_assoc] at b2
    rw [b1, b2, d1, d2]
    have hidx := (turn_row (H := p.high.toNat) (W := p.wide.toNat) (i := j) hWpos (by omega)).1
    have hv := h.each _ (show (p.high.toNat - 1 - j / p.wide.toNat) * p.wide.toNat + j % p.wide.toNat < p.L.length by omega)
    have hn2 : pixAt p j ≤ 65535 := by unfold pixAt; omega
    rw [bytes_back hn2]
    unfold pixAt
    exact Int.toNat_of_nonneg hv.1
  have hpic : picOf (fileV p L) (blocksV (80 * (6 + L.length) + 80)) p.wide.toNat p.high.toNat = p := by
    unfold picOf
    rw [e1, e2]
    have : (List.range (p.wide.toNat * p.high.toNat)).map (fun i => pixOf (fileV p L) (blocksV (80 * (6 + L.length) + 80)) ((p.high.toNat - 1 - i / p.wide.toNat) * p.wide.toNat + i % p.wide.toNat)) = p.L := by
      refine List.ext_getElem (by simp [hpl]) (fun i h1 h2 => ?_)
      rw [List.getElem_map, List.getElem_range]
      have hi : i < p.wide.toNat * p.high.toNat := by omega
      obtain ⟨t1, t2⟩ := turn_row (H := p.high.toNat) (W := p.wide.toNat) hWpos hi
      rw [hpix _ (by omega), t2]
      simp [List.getD, List.getElem?_eq_getElem h2]
    rw [this]
  have hcards : (cardsOf (fileV p L) (6 + L.length)).drop 6 = L := by
    have : cardsOf (fileV p L) (6 + L.length) = six p ++ L := by
      unfold cardsOf
      refine List.ext_getElem (by simp [hn]) (fun i h1 h2 => ?_)
      rw [List.getElem_map, List.getElem_range, hcard i (by omega)]
      simp [List.getD, List.getElem?_eq_getElem h2]
    rw [this]
    exact List.drop_left' rfl
  unfold readV
  rw [if_neg hbig, hstop, if_neg (by omega), hW, hH, if_neg (by rw [Nat.mul_assoc, ← hpl]; omega), hpic, hcards, if_neg (fun k => k.elim (fun k => k he) (fun k => k rfl))]
end Go.Proofs.YtncbmkflilcdgaiGreatDoor
