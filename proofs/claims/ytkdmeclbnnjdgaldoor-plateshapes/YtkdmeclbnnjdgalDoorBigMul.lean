/-
  meridianref1.BigMul by its contract.
-/
import Derived.Test.YtkdmeclbnnjdgalDoorTrim
namespace Go.Proofs.YtkdmeclbnnjdgalDoor
open Go.RowKit

/-- The state of the inner round: out, what is carried. -/
structure MulIn (A B O : List Int) (i k : Nat) (c : Int) : Prop where
  len : O.length = A.length + B.length
  digs : Digs O
  c0 : 0 ≤ c
  c1 : c < 1000000
  rest : ∀ j, i + B.length ≤ j → O.getD j 0 = 0
  sum : val O + c * pw (i + k) = val (A.take i) * val B + A.getD i 0 * pw i * val (B.take k)
structure MulOut (A B O : List Int) (i : Nat) : Prop where
  len : O.length = A.length + B.length
  digs : Digs O
  rest : ∀ j, i + B.length ≤ j → O.getD j 0 = 0
  sum : val O = val (A.take i) * val B

theorem MulOut.start (A B : List Int) : MulOut A B (List.replicate (A.length + B.length) 0) 0 where
  len := by simp
  digs := fun d hd => by rw [List.mem_replicate] at hd; omega
  rest := fun j _ => by
    rw [List.getD_eq_getElem?_getD, List.getElem?_replicate]; split <;> rfl
  sum := by
    have : val (List.replicate (A.length + B.length) 0) = 0 := val_noughts _ (fun i => by rw [List.getD_eq_getElem?_getD, List.getElem?_replicate]; split <;> rfl)
    simp [this, val]
theorem MulOut.enter {A B O : List Int} {i : Nat} (h : MulOut A B O i) : MulIn A B O i 0 0 := ⟨h.len, h.digs, by omega, by omega, h.rest, by simp [h.sum, val]⟩
theorem MulIn.bound {A B O : List Int} {i k : Nat} {c : Int} (h : MulIn A B O i k c) (hA : Digs A) (hB : Digs B) :
    0 ≤ c + O.getD (i + k) 0 + A.getD i 0 * B.getD k 0 ∧ c + O.getD (i + k) 0 + A.getD i 0 * B.getD k 0 < 1000000000000 ∧ 0 ≤ A.getD i 0 * B.getD k 0 ∧ A.getD i 0 * B.getD k 0 ≤ 999998000001 := by
  have a := digs_getD hA i
  have b := digs_getD hB k
  have o := digs_getD h.digs (i + k)
  have p := h.c0
  have q := h.c1
  have m1 : 0 ≤ A.getD i 0 * B.getD k 0 := Int.mul_nonneg a.1 b.1
  have m2 : A.getD i 0 * B.getD k 0 ≤ 999999 * 999999 := Int.mul_le_mul (by omega) (by omega) b.1 (by omega)
  omega
theorem MulIn.step {A B O : List Int} {i k : Nat} {c : Int} (h : MulIn A B O i k c) (hA : Digs A) (hB : Digs B) (hi : i < A.length) (hk : k < B.length) (t : Int) (ht : t = c + O.getD (i + k) 0 + A.getD i 0 * B.getD k 0) :
    MulIn A B (O.set (i + k) (t % 1000000)) i (k + 1) (t / 1000000) := by
  have bd := h.bound hA hB
  rw [← ht] at bd
  have hl : i + k < O.length := by rw [h.len]; omega
  refine ⟨by simp [h.len], digs_set h.digs _ _ (by omega), by omega, by omega, fun j hj => ?_, ?_⟩
  · rw [set_getD _ _ _ _ hl, if_neg (by omega)]; exact h.rest j hj
  · rw [val_set _ _ _ hl, val_take_succ B k hk]
    exact mul_step (val O) c (pw (i + k)) (O.getD (i + k) 0) (A.getD i 0) (B.getD k 0) (t % 1000000) (t / 1000000) t _ _ (pw i) (pw k) (pw_add i k) h.sum ht (by omega)
theorem MulIn.leave {A B O : List Int} {i : Nat} {c : Int} (h : MulIn A B O i B.length c) (hi : i < A.length) : MulOut A B (O.set (i + B.length) c) (i + 1) := by
  have hl : i + B.length < O.length := by rw [h.len]; omega
  refine ⟨by simp [h.len], digs_set h.digs _ _ ⟨h.c0, h.c1⟩, fun j hj => ?_, ?_⟩
  · rw [set_getD _ _ _ _ hl, if_neg (by omega)]; exact h.rest j (by omega)
  · rw [val_set _ _ _ hl, h.rest _ (Nat.le_refl _), val_take_succ A i hi, Int.sub_zero, h.sum, List.take_length, Int.add_mul]
theorem MulOut.done {A B O : List Int} (h : MulOut A B O A.length) : val O = val A * val B := by rw [h.sum, List.take_length]

theorem trimmed_n (base g cap n : Nat) (L : List Int) (w : World) (hn : L.length = n) (hlen : n ≤ 1000000)
    (hown : w.ownsRow base 3 1 (.slice (some ⟨g, 0, none⟩) n cap) n (L.map (Value.int .i64))) :
    Calls Tryd.prog 93 #[.slice (some ⟨g, 0, none⟩) n cap] w fun e w' => ∃ m : Nat, m ≤ L.length ∧ e = .returned (.slice (some ⟨g, 0, none⟩) m cap) ∧ (∀ i, m ≤ i → L.getD i 0 = 0) ∧ (m = 0 ∨ L.getD (m - 1) 0 ≠ 0) ∧ w' = w := by
  subst hn
  exact trimmed_any base g cap L w hlen hown

set_option maxHeartbeats 1000000 in
theorem bigMul_any (ga ca gb cb : Nat) (A B : List Int) (w : World) (hlA : A.length ≤ 1000) (hlB : B.length ≤ 1000) (hdA : Digs A) (hdB : Digs B)
    (cA : ∀ i, i < A.length → w.cell? ⟨ga, i, none⟩ = some (.int .i64 (A.getD i 0))) (cB : ∀ i, i < B.length → w.cell? ⟨gb, i, none⟩ = some (.int .i64 (B.getD i 0)))
    (zA : ga < w.heap.size) (zB : gb < w.heap.size) :
    Calls Tryd.prog 68 #[.slice (some ⟨ga, 0, none⟩) A.length ca, .slice (some ⟨gb, 0, none⟩) B.length cb] w fun e w' => ∃ v : Value, e = .returned v ∧ ∃ (g cap : Nat) (L : List Int), v = .slice (some ⟨g, 0, none⟩) L.length cap ∧ w'.ownsRow w.heap.size 3 1 v L.length (L.map (Value.int .i64)) ∧ Digs L ∧ Top L ∧ val L = val A * val B ∧ L.length ≤ 2000 ∧ Below w.heap.size w w' := by
  obtain ⟨i0, hi, hz0, hz1, hz2⟩ := info_parts info3
  have HA := hide cA
  have HB := hide cB
  have hdA' := hide hdA
  have hdB' := hide hdB
  clear cA cB hdA hdB
  go_enter Tryd.func68, Tryd.ntmps68
  go_wp2_with (first
    | (at_make; refine wpList_make_full _ rfl (.tmp 13) (.tmp 13) 128 rfl w.heap.size 3 i0 (.int .i64 0) 1 Tryd.underlying128 hi hz0 hz1 .i64 .i64 _ _ (A.length + B.length) rfl rfl (by go_num) (by go_num) (by rw [hz2]; omega) (by unfold maxLen; omega) (Nat.le_refl _) ?_))
  intro w1 hown hgrow
  have hl : (List.replicate (A.length + B.length) (0 : Int)).length = A.length + B.length := by simp
  have hown1 : w1.ownsRow w.heap.size 3 1 (.slice (some ⟨w.heap.size, 0, none⟩) (A.length + B.length) (A.length + B.length)) (A.length + B.length) ((List.replicate (A.length + B.length) (0 : Int)).map (Value.int .i64)) := by
    have e : (madeCells #[Value.int .i64 0] (A.length + B.length)).toList = (List.replicate (A.length + B.length) (0 : Int)).map (Value.int .i64) := by
      rw [List.map_replicate]; exact toList_madeCells_one _ _
    rw [← e]; exact hown
  have hb1 : Below w.heap.size w w1 := (Below.refl _ _).grown hgrow (Nat.le_refl _) (fun k e => by cases e)
  have hO := MulOut.start A B
  generalize List.replicate (A.length + B.length) (0 : Int) = O0 at hown1 hO
  clear hown hgrow hl
  go_wp2
  go_loopw [6, 7, 8] (fun x _ _ wr => ∃ (i : Nat) (O : List Int), i ≤ A.length ∧ x = .int .i64 i ∧ MulOut A B O i ∧ wr.ownsRow w.heap.size 3 1 (.slice (some ⟨w.heap.size, 0, none⟩) (A.length + B.length) (A.length + B.length)) (A.length + B.length) (O.map (Value.int .i64)) ∧ Below w.heap.size w wr)
    (fun x _ _ _ => A.length - (intOf x).toNat)
  case atStart => exact ⟨0, O0, Nat.zero_le _, rfl, hO, hown1, hb1⟩
  case round =>
    obtain ⟨i, O, hiA, rfl, hM, hown, hb⟩ := hrel
    by_cases hlt : i < A.length
    · have hin := hM.enter
      clear hM hown1 hO hb1
      go_wp2
      go_loopw [7, 8] (fun c k wr' => ∃ (kk : Nat) (cc : Int) (O : List Int), kk ≤ B.length ∧ k = .int .i64 kk ∧ c = .int .i64 cc ∧ MulIn A B O i kk cc ∧ wr'.ownsRow w.heap.size 3 1 (.slice (some ⟨w.heap.size, 0, none⟩) (A.length + B.length) (A.length + B.length)) (A.length + B.length) (O.map (Value.int .i64)) ∧ Below w.heap.size w wr')
        (fun _ k _ => B.length - (intOf k).toNat)
      case atStart => exact ⟨0, 0, O, Nat.zero_le _, rfl, rfl, hin, hown, hb⟩
      case round =>
        obtain ⟨k, c, O', hkB, rfl, rfl, hI, hown', hb'⟩ := hrel
        by_cases hk : k < B.length
        · have hcA : wr.cell? ⟨ga, i, none⟩ = some (.int .i64 (A.getD i 0)) := by rw [hb'.cell zA]; exact unhide HA i hlt
          have hcB : wr.cell? ⟨gb, k, none⟩ = some (.int .i64 (B.getD k 0)) := by rw [hb'.cell zB]; exact unhide HB k hk
          have hlO : O'.length = A.length + B.length := hI.len
          have hown2 : wr.ownsRow w.heap.size 3 1 (.slice (some ⟨w.heap.size, 0, none⟩) O'.length (A.length + B.length)) O'.length (O'.map (Value.int .i64)) := by rw [hlO]; exact hown'
          have hcO := own_cell hown2 (i + k) (by omega)
          have hfO := hown'.frozenAt (i + k)
          have bd := hI.bound (unhide hdA') (unhide hdB')
          have ba := digs_getD (unhide hdA') i
          have bb := digs_getD (unhide hdB') k
          have bo := digs_getD hI.digs (i + k)
          have c0 := hI.c0
          have c1 := hI.c1
          have ST := hide (fun t ht => hI.step (unhide hdA') (unhide hdB') hlt hk t ht)
          have HO := hide hown'
          generalize A.getD i 0 = a at hcA bd ba ST
          generalize B.getD k 0 = b at hcB bd bb ST
          generalize O'.getD (i + k) 0 = o at hcO bd bo ST
          obtain ⟨bd1, bd2, bd3, bd4⟩ := bd
          obtain ⟨ba1, ba2⟩ := ba
          obtain ⟨bb1, bb2⟩ := bb
          obtain ⟨bo1, bo2⟩ := bo
          clear hI hown' hown2 hlO
          go_wp2
          go_quiet (fail)
          go_wp2
          have hst := World.ownsRow.stored (w := wr.drewN nq) (unhide HO) (i + k) (.int .i64 ((c + o + a * b) % 1000000))
          rw [← List.map_set] at hst
          exact ⟨⟨k + 1, _, O'.set (i + k) ((c + o + a * b) % 1000000), by omega, by go_num, rfl, unhide ST _ rfl, hst.1, (below_drewN hb' nq).setCell (Nat.le_refl _) _⟩, by simp [intOf]; omega⟩
        · obtain rfl : k = B.length := by omega
          have hlO : O'.length = A.length + B.length := hI.len
          have hown2 : wr.ownsRow w.heap.size 3 1 (.slice (some ⟨w.heap.size, 0, none⟩) O'.length (A.length + B.length)) O'.length (O'.map (Value.int .i64)) := by rw [hlO]; exact hown'
          have hcO := own_cell hown2 (i + B.length) (by omega)
          have hfO := hown'.frozenAt (i + B.length)
          have c0 := hI.c0
          have c1 := hI.c1
          have LV := hide (hI.leave hlt)
          have HO := hide hown'
          clear hI hown' hown2 hlO
          go_wp2
          have hst := World.ownsRow.stored (unhide HO) (i + B.length) (.int .i64 c)
          rw [← List.map_set] at hst
          exact ⟨⟨i + 1, O'.set (i + B.length) c, by omega, by go_num, unhide LV, hst.1, hb'.setCell (Nat.le_refl _) _⟩, by simp [intOf]; omega⟩
    · obtain rfl : i = A.length := by omega
      have hlO : O.length = A.length + B.length := hM.len
      go_wp2_with (go_at_call 93; refine (trimmed_n w.heap.size w.heap.size (A.length + B.length) (A.length + B.length) O _ hlO (by omega) hown).mono ?_; rintro e w' ⟨m, hm, rfl, hz, ht, rfl⟩)
      go_ret
      refine ⟨_, rfl, w.heap.size, A.length + B.length, O.take m, ?_, ?_, digs_take hM.digs m, top_take hm ht, ?_, ?_, hb⟩
      · simp [hm]
      · have h2 := own_take (L := O) (cap := A.length + B.length) (by rw [hlO]; exact hown) m hm
        have el : (O.take m).length = m := by simp [hm]
        rw [el] at h2 ⊢
        exact h2
      · rw [val_trim O m hz, hM.done]
      · simp; omega
end Go.Proofs.YtkdmeclbnnjdgalDoor
