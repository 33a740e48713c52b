/-
  The program's files: filled, withCard.
-/
import Derived.Test.YtncbmkflilcdgaiGreatDoorDG3
namespace Go.Proofs.YtncbmkflilcdgaiGreatDoor
open Go Go.RowKit

/-- what is no row of bytes stays. -/
def Tkeep (w w' : World) : Prop := ∀ (k : Nat) (o : Obj), w.heap[k]? = some o → (∀ cs fr, o ≠ .cells cs 5 fr) → w'.heap[k]? = some o
theorem tk_refl (w : World) : Tkeep w w := fun _ _ h _ => h
theorem Tkeep.trans {u v w : World} (h : Tkeep u v) (k : Tkeep v w) : Tkeep u w := fun i o h1 h2 => k i o (h i o h1 h2) h2
theorem tk_below {w w' : World} (h : Below w.heap.size w w') : Tkeep w w' := fun _ _ h1 _ => keepB h1 h
theorem tk_grown {w w' : World} {B n : Nat} {v : Value} {xs : List Value} (ho : w.ownsRow B 5 1 v n xs) (hg : w.grownBy w' v.ownBlock) : Tkeep w w' := fun k o h1 h2 => by
  rw [hg.block k (ltB h1) (fun q => ?_)]
  · exact h1
  · rcases ho.2 with ⟨h3, _⟩ | ⟨g, cap, cur, h3, _, h4, _⟩
    · subst h3; cases q
    · subst h3
      have e : k = g := by simpa [Value.ownBlock] using q
      subst e
      rw [h1] at h4
      injection h4 with h4
      exact h2 _ _ h4
def RowPostT (B : Nat) (w : World) (b : Bs) (e : Ending) (w' : World) : Prop := ∃ v', e = .returned v' ∧ BOwn w' B v' b ∧ Below B w w' ∧ Tkeep w w'
theorem card_no {c1 c2 : Value} : ∀ cs fr, (.cells #[c1, c2] 57 : Obj) ≠ .cells cs 5 fr := fun cs fr q => by
  injection q with _ q2
  revert q2
  decide
def fillN (n u : Nat) : Nat := (u - n % u) % u
theorem fill_no {n u k : Nat} (hu : 0 < u) (hk : k < fillN n u) : (n + k) % u ≠ 0 := by
  unfold fillN at hk
  have hr := Nat.mod_lt n hu
  rw [← Nat.mod_add_mod]
  by_cases h0 : n % u = 0
  · rw [h0, Nat.sub_zero, Nat.mod_self] at hk
    omega
  · rw [Nat.mod_eq_of_lt (by omega)] at hk
    rw [Nat.mod_eq_of_lt (by omega)]
    omega
theorem fill_end {n u : Nat} (hu : 0 < u) : (n + fillN n u) % u = 0 := by
  unfold fillN
  have hr := Nat.mod_lt n hu
  rw [← Nat.mod_add_mod]
  by_cases h0 : n % u = 0
  · rw [h0, Nat.sub_zero, Nat.mod_self, Nat.zero_add, Nat.zero_mod]
  · rw [Nat.mod_eq_of_lt (show u - n % u < u by omega), show n % u + (u - n % u) = u by omega, Nat.mod_self]
theorem fill_lt {n u : Nat} (hu : 0 < u) : fillN n u < u := Nat.mod_lt _ hu
def fillV (u : Nat) (x : UInt8) (b : Bs) : Bs := b ++ List.replicate (fillN b.length u) x
set_option maxRecDepth 100000 in
set_option maxHeartbeats 1600000 in
theorem filled_any {B : Nat} {w : World} {v : Value} {b : Bs} (u : Nat) (x : UInt8) (hB : B ≤ w.heap.size) (h : BOwn w B v b) (hu : 0 < u) (hu2 : u ≤ 10000) (hb : b.length ≤ 1000000) :
    Calls Tryz.prog 40 #[v, .int .i64 (u : Nat), .int .u8 x.toNat] w (RowPostT B w (fillV u x b)) := by
  obtain ⟨i0, hi0, hz0, hz1, hz2⟩ := info_parts infoB
  have HNo := hideR (fun k => fill_no (n := b.length) (k := k) hu)
  have HEn := hideR (fill_end (n := b.length) hu)
  have hfl := fill_lt (n := b.length) hu
  have HP : HeldR (∀ v' w', BOwn w' B v' (b ++ List.replicate (fillN b.length u) x) → Below B w w' → Tkeep w w' → RowPostT B w (fillV u x b) (.returned v') w') := hideR (fun v' w' h1 h2 h3 => ⟨v', rfl, h1, h2, h3⟩)
  have H0 := hideR h
  clear h
  have hun : (u : Int) ≠ 0 := by omega
  generalize fillN b.length u = F at *
  go_enter Tryz.func40, Tryz.ntmps40
  go_wp2
  go_loopw [0] (fun bv wl => ∃ k : Nat, k ≤ F ∧ HeldR (BOwn wl B bv (b ++ List.replicate k x)) ∧ HeldR (Below B w wl) ∧ HeldR (Tkeep w wl)) (fun bv _ => b.length + F + 1 - lenS bv)
  case atStart => exact ⟨0, Nat.zero_le _, by rw [List.replicate_zero, List.append_nil]; exact H0, hideR (Below.refl _ _), hideR (tk_refl _)⟩
  case round =>
    obtain ⟨k, hk, HO, HW, HT⟩ := hrel
    obtain ⟨ad, cap, e⟩ := (unhideR HO).slice
    subst e
    have hl : (b ++ List.replicate k x).length = b.length + k := by rw [List.length_append, List.length_replicate]
    have HO' : HeldR (wr.ownsRow B 5 1 (.slice ad (b.length + k) cap) (b.length + k) (byCells (b ++ List.replicate k x))) := by
      have := unhideR HO
      unfold BOwn at this
      rw [hl] at this
      exact this
    have lsz := (unhideR HW).size
    have hBr : B ≤ wr.heap.size := Nat.le_trans hB lsz
    have htm : ((b.length : Int) + (k : Int)) % (u : Int) = (((b.length + k) % u : Nat) : Int) := by
      have := Int.natCast_emod (b.length + k) u
      rw [Int.natCast_add] at this
      exact this.symm
    have hmu : (b.length + k) % u < u := Nat.mod_lt _ hu
    by_cases hlt : k < F
    · have hnz := unhideR HNo k hlt
      have HS := hideR (pad_step (x := x) (b := b) (k := k))
      rw [hl] at HO ⊢
      have HL := hideR hl
      generalize (b.length + k) % u = R at *
      have t1 : ((R : Int) != 0) = true := by simp [hnz]
      clear hl HO hnz
      generalize b ++ List.replicate k x = A at *
      generalize b.length = n at *
      go_wp2_with (first
        | (at_builtin; refine wpList_append_own _ rfl _ _ 27 rfl B 5 i0 (.int .u8 0) 1 1 Tryz.underlying27 hi0 hz0 hz1 hz2 rfl (by decide) _ (n + k) (byCells A) rfl (own_below2 (unhideR HO') (below_a _ _)) ⟨wr.heap.size, 0, none⟩ 1 1 [byV x] rfl rfl ?c1 ?c2 ?c3 ?c4 ?c5 ?_))
      case c1 => exact one_byte wr x
      case c2 =>
        intro u hu
        rw [List.mem_singleton.1 hu]
        rfl
      case c3 => unfold maxLen; omega
      case c4 => omega
      case c5 => simp; omega
      intro v3 w3 hown2 hgrow2 _
      have B3 := hideR (((unhideR HW).alloc hBr _).grown hgrow2 (by simp; omega) (fun g h => own_at2 (unhideR HO') g h))
      have T3 := hideR ((unhideR HT).trans ((tk_below (below_a wr _)).trans (tk_grown (own_below2 (unhideR HO') (below_a wr _)) hgrow2)))
      have O3 : HeldR (BOwn w3 B v3 (A ++ [x])) := by
        unfold HeldR BOwn byCells
        rw [List.map_append, List.length_append, unhideR HL]
        exact hown2
      have HM : HeldR (lenS v3 = n + k + 1) := by
        obtain ⟨ad', cap', e⟩ := (unhideR O3).slice
        rw [e]
        show (A ++ [x]).length = _
        rw [List.length_append, unhideR HL]
        rfl
      clear hown2 hgrow2 lsz
      go_wp2
      exact ⟨⟨k + 1, by omega, by rw [unhideR HS]; exact O3, B3, T3⟩, by rw [unhideR HM]; show _ < n + F + 1 - (n + k); omega⟩
    · obtain rfl : k = F := by omega
      have hz := unhideR HEn
      have HF := hideR (unhideR HP _ wr (unhideR HO) (unhideR HW) (unhideR HT))
      rw [hl] at HF ⊢
      rw [hz] at htm
      clear hl HO HO' HP H0 hz
      go_wp2
      go_ret
      exact unhideR HF
theorem fill_name {b n : Bs} (hb : b.length % 80 = 0) (h1 : 1 ≤ n.length) (h8 : n.length ≤ 8) : fillV 8 32 (b ++ n) = b ++ (n ++ blanks (8 - n.length)) := by
  unfold fillV fillN blanks
  rw [List.length_append, List.append_assoc, show (8 - (b.length + n.length) % 8) % 8 = 8 - n.length by omega]
theorem fill_card {b r : Bs} (hb : b.length % 80 = 0) (h1 : 10 ≤ r.length) (h8 : r.length ≤ 80) : fillV 80 32 (b ++ r) = b ++ (r ++ blanks (80 - r.length)) := by
  unfold fillV fillN blanks
  rw [List.length_append, List.append_assoc, show (80 - (b.length + r.length) % 80) % 80 = 80 - r.length by omega]
theorem row_fill {b n v : Bs} (hb : b.length % 80 = 0) (h1 : 1 ≤ n.length) (hn : n.length ≤ 8) (hv : v.length ≤ 70) : fillV 80 32 (fillV 8 32 (b ++ n) ++ [61, 32] ++ v) = b ++ rowV n v := by
  rw [fill_name hb h1 hn]
  have e : b ++ (n ++ blanks (8 - n.length)) ++ [61, 32] ++ v = b ++ (n ++ blanks (8 - n.length) ++ [61, 32] ++ v) := by simp only [List.append_assoc]
  have l : (n ++ blanks (8 - n.length) ++ [61, 32] ++ v).length = 10 + v.length := by
    unfold blanks
    simp only [List.length_append, List.length_replicate, List.length_cons, List.length_nil]
    omega
  rw [e, fill_card hb (by omega) (by omega), l, show 80 - (10 + v.length) = 70 - v.length by omega]
  rfl
set_option maxRecDepth 100000 in
set_option maxHeartbeats 1600000 in
theorem withCard_any {B : Nat} {w : World} {v : Value} {b : Bs} (n s : ByteArray) (hB : B ≤ w.heap.size) (h : BOwn w B v b) (hb : b.length ≤ 500000) (hb8 : b.length % 80 = 0) (hn1 : 1 ≤ n.size) (hn : n.size ≤ 8) (hs : s.size ≤ 70) :
    Calls Tryz.prog 42 #[v, .agg #[.string n, .string s]] w (RowPostT B w (b ++ rowV n.data.toList s.data.toList)) := by
  obtain ⟨i0, hi0, hz0, hz1, hz2⟩ := info_parts infoB
  have ln : n.data.toList.length = n.size := Array.length_toList
  have ls : s.data.toList.length = s.size := Array.length_toList
  rw [← row_fill (b := b) (n := n.data.toList) (v := s.data.toList) hb8 (by omega) (by omega) (by omega)]
  obtain ⟨ad, cap, e⟩ := h.slice
  subst e
  have hbl := below_a w (.cells #[.string n, .string s] 57)
  have HG := hideR (alloc_last w (.cells #[.string n, .string s] 57))
  have H0 := hideR (h.below hbl)
  have B0 := hideR (hbl.mono hB)
  have T0 := hideR (tk_below hbl)
  have hB0 : B ≤ (w.alloc (.cells #[.string n, .string s] 57)).heap.size := Nat.le_trans hB hbl.size
  have y0 : (w.alloc (.cells #[.string n, .string s] 57)).cell? ⟨w.heap.size, 0, none⟩ = some (.string n) := (cells_at (unhideR HG) 0 (by simp)).1
  have HLn := hideR ln
  have HLs := hideR ls
  have lf8 := fill_lt (n := (b ++ n.data.toList).length) (u := 8) (by decide)
  have l8 : (fillV 8 32 (b ++ n.data.toList)).length ≤ b.length + 16 := by
    unfold fillV
    simp only [List.length_append, List.length_replicate, ln] at lf8 ⊢
    omega
  have lbn : (b ++ n.data.toList).length ≤ 1000000 := by rw [List.length_append, ln]; omega
  clear h ln ls hbl lf8
  go_enter Tryz.func42, Tryz.ntmps42
  go_wp2_with (first
    | (at_builtin; refine Go.Lib.wpList_append_own_string _ rfl _ _ 27 9 rfl B 5 i0 Tryz.underlying27 Tryz.underlying9 hi0 hz0 hz1 hz2 _ b.length (byCells b) rfl (unhideR H0) n rfl ?c3 ?c4 hB0 ?_))
  case c3 => unfold maxLen; omega
  case c4 => omega
  intro v1 w1 hown1 hgrow1 _
  have T1 := hideR ((unhideR T0).trans (tk_grown (unhideR H0) hgrow1))
  have HG1 := hideR (tk_grown (unhideR H0) hgrow1 _ _ (unhideR HG) card_no)
  have B1 := hideR ((unhideR B0).grown hgrow1 hB0 (fun g h => own_at2 (unhideR H0) g h))
  have O1 : HeldR (BOwn w1 B v1 (b ++ n.data.toList)) := by
    unfold HeldR BOwn
    rw [List.length_append, unhideR HLn]
    unfold byCells
    rw [List.map_append]
    exact hown1
  clear hown1 hgrow1 H0 B0 T0 HG y0 hB0
  have hB1 : B ≤ w1.heap.size := Nat.le_trans hB (unhideR B1).size
  have hp := filled_any 8 32 hB1 (unhideR O1) (by decide) (by decide) lbn
  rw [show (((8 : Nat) : Nat) : Int) = 8 from rfl] at hp
  go_wp2_with fail
  refine hp.mono ?_
  rintro e w2 ⟨v2, rfl, hO2, hB2, hT2⟩
  have O2 := hideR hO2
  have B2 := hideR ((unhideR B1).trans hB2)
  have T2 := hideR ((unhideR T1).trans hT2)
  have HG2 := hideR (hT2 _ _ (unhideR HG1) card_no)
  clear hp hO2 hB2 hT2 O1 B1 T1 HG1 hB1 lbn
  have hBb : B ≤ w2.heap.size := Nat.le_trans hB (unhideR B2).size
  obtain ⟨N2, hN2⟩ : ∃ N2, (fillV 8 32 (b ++ n.data.toList)).length = N2 := ⟨_, rfl⟩
  rw [hN2] at l8
  have H2 : HeldR (w2.ownsRow B 5 1 v2 N2 (byCells (fillV 8 32 (b ++ n.data.toList)))) := by
    have := unhideR O2
    unfold BOwn at this
    rw [hN2] at this
    exact this
  have HN2 := hideR hN2
  clear hN2 O2
  generalize fillV 8 32 (b ++ n.data.toList) = A2 at *
  go_wp2_with (first
    | (at_builtin; refine Go.Lib.wpList_append_own_string _ rfl _ _ 27 9 rfl B 5 i0 Tryz.underlying27 Tryz.underlying9 hi0 hz0 hz1 hz2 _ N2 (byCells A2) rfl (unhideR H2) ⟨#[61, 32]⟩ rfl ?d3 ?d4 hBb ?_))
  case d3 => show N2 + 2 ≤ maxLen; unfold maxLen; omega
  case d4 => show N2 + 2 ≤ _; omega
  intro v3 w3 hown3 hgrow3 _
  have B3 := hideR ((unhideR B2).grown hgrow3 hBb (fun g h => own_at2 (unhideR H2) g h))
  have T3 := hideR ((unhideR T2).trans (tk_grown (unhideR H2) hgrow3))
  have HG3 := tk_grown (unhideR H2) hgrow3 _ _ (unhideR HG2) card_no
  have H3 : HeldR (w3.ownsRow B 5 1 v3 (N2 + 2) (byCells (A2 ++ [61, 32]))) := by
    unfold HeldR byCells
    rw [List.map_append]
    exact hown3
  have y1 : w3.cell? ⟨w.heap.size, 1, none⟩ = some (.string s) := (cells_at HG3 1 (by simp)).1
  clear hown3 hgrow3 H2 B2 hBb T2 HG2 HG3
  have hBc : B ≤ w3.heap.size := Nat.le_trans hB (unhideR B3).size
  go_wp2_with (first
    | (at_builtin; refine Go.Lib.wpList_append_own_string _ rfl _ _ 27 9 rfl B 5 i0 Tryz.underlying27 Tryz.underlying9 hi0 hz0 hz1 hz2 _ (N2 + 2) (byCells (A2 ++ [61, 32])) rfl (unhideR H3) s rfl ?e3 ?e4 hBc ?_))
  case e3 => unfold maxLen; omega
  case e4 => omega
  intro v4 w4 hown4 hgrow4 _
  have B4 := hideR ((unhideR B3).grown hgrow4 hBc (fun g h => own_at2 (unhideR H3) g h))
  have T4 := hideR ((unhideR T3).trans (tk_grown (unhideR H3) hgrow4))
  have O4 : HeldR (BOwn w4 B v4 (A2 ++ [61, 32] ++ s.data.toList)) := by
    unfold HeldR BOwn
    rw [List.length_append, List.length_append, unhideR HN2, unhideR HLs]
    unfold byCells at hown4 ⊢
    rw [List.map_append (l₁ := A2 ++ [61, 32])]
    exact hown4
  have l4 : (A2 ++ [61, 32] ++ s.data.toList).length ≤ 1000000 := by
    rw [List.length_append, List.length_append, unhideR HN2, unhideR HLs]
    show N2 + 2 + _ ≤ _
    omega
  clear hown4 hgrow4 H3 B3 T3 y1
  have hBd : B ≤ w4.heap.size := Nat.le_trans hB (unhideR B4).size
  have hp := filled_any 80 32 hBd (unhideR O4) (by decide) (by decide) l4
  rw [show (((80 : Nat) : Nat) : Int) = 80 from rfl] at hp
  clear O4 l4
  go_wp2_with fail
  refine hp.mono ?_
  rintro e w5 ⟨v5, rfl, hO5, hB5, hT5⟩
  have HF : HeldR (RowPostT B w (fillV 80 32 (A2 ++ [61, 32] ++ s.data.toList)) (.returned v5) w5) := hideR ⟨v5, rfl, hO5, (unhideR B4).trans hB5, (unhideR T4).trans hT5⟩
  clear hp hO5 hB5 hT5
  go_wp2
  go_ret
  exact unhideR HF
end Go.Proofs.YtncbmkflilcdgaiGreatDoor
