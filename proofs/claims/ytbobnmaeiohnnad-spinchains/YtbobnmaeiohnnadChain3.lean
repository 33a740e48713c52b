/-
  The law SpinChains: its walk out of the contracts.
-/
import Derived.Test.YtbobnmaeiohnnadChain2
namespace Go.Proofs.Ytbobnmaeiohnnad
open Go Go.RowKit

def vals (q : Q4) : List Value := [.float .f64 q.a, .float .f64 q.b, .float .f64 q.c, .float .f64 q.d]
def flatQ : List Q4 → List Value
  | [] => []
  | q :: L => vals q ++ flatQ L
theorem flat_append : ∀ (L M : List Q4), flatQ (L ++ M) = flatQ L ++ flatQ M
  | [], _ => rfl
  | q :: L, M => by
    show vals q ++ flatQ (L ++ M) = (vals q ++ flatQ L) ++ flatQ M
    rw [flat_append L M, List.append_assoc]
theorem flat_at : ∀ (L : List Q4) (j : Nat), j < L.length → (flatQ L)[j * 4]? = some (.float .f64 (L.getD j oneQ).a) ∧ (flatQ L)[j * 4 + 1]? = some (.float .f64 (L.getD j oneQ).b) ∧ (flatQ L)[j * 4 + 2]? = some (.float .f64 (L.getD j oneQ).c) ∧ (flatQ L)[j * 4 + 3]? = some (.float .f64 (L.getD j oneQ).d)
  | [], _, h => absurd h (by simp)
  | q :: L, 0, _ => ⟨rfl, rfl, rfl, rfl⟩
  | q :: L, j + 1, h => by
    have hj : j < L.length := by simpa using h
    obtain ⟨h0, h1, h2, h3⟩ := flat_at L j hj
    have e : ∀ i, (flatQ (q :: L))[(j + 1) * 4 + i]? = (flatQ L)[j * 4 + i]? := fun i => by
      show (vals q ++ flatQ L)[(j + 1) * 4 + i]? = _
      rw [List.getElem?_append_right (by simp [vals]; omega)]
      congr 1
      simp [vals]
      omega
    refine ⟨(e 0).trans h0, (e 1).trans h1, (e 2).trans h2, (e 3).trans h3⟩
theorem take_q {L : List Q4} {k : Nat} (h : k < L.length) : L.take (k + 1) = L.take k ++ [L.getD k oneQ] := by
  rw [List.take_add_one]
  congr 1
  simp [List.getD, List.getElem?_eq_getElem h]
theorem own_row {w : World} {B : Nat} {t : TypeId} {v : Value} {L : List Q4} (h : w.ownsRow B t 4 v L.length (flatQ L)) : (v = .slice none 0 0 ∧ L = []) ∨ ∃ g cap, v = .slice (some ⟨g, 0, none⟩) L.length cap ∧ g < w.heap.size ∧ QRow w g 0 L := by
  obtain ⟨_, h⟩ := h
  rcases h with ⟨h1, h2⟩ | ⟨g, cap, cur, rfl, _, hg, hc, _, hs, ht⟩
  · exact .inl ⟨h1, List.length_eq_zero_iff.1 h2⟩
  · refine .inr ⟨g, cap, rfl, (Array.getElem?_eq_some_iff.1 hg).1, ?_⟩
    have hcell : ∀ i u, i < L.length * 4 → (flatQ L)[i]? = some u → w.cell? ⟨g, i, none⟩ = some u := fun i u hi hu => by
      rw [← ht, List.getElem?_take, if_pos hi] at hu
      simp only [World.cell?, hg]
      simpa using hu
    refine ⟨fun j hj => ?_, fun j hj => ?_, fun j hj => ?_, fun j hj => ?_⟩
    · rw [Nat.zero_add]; exact hcell _ _ (by omega) (flat_at L j hj).1
    · rw [Nat.zero_add]; exact hcell _ _ (by omega) (flat_at L j hj).2.1
    · rw [Nat.zero_add]; exact hcell _ _ (by omega) (flat_at L j hj).2.2.1
    · rw [Nat.zero_add]; exact hcell _ _ (by omega) (flat_at L j hj).2.2.2
theorem own_below4 {w w' : World} {B n s : Nat} {e : TypeId} {v : Value} {xs : List Value} (h : w.ownsRow B e s v n xs) (hb : Below w.heap.size w w') : w'.ownsRow B e s v n xs := by
  obtain ⟨h1, h2⟩ := h
  refine ⟨h1, ?_⟩
  rcases h2 with h2 | ⟨g, cap, cur, hv, hg, hh, r⟩
  · exact Or.inl h2
  · exact Or.inr ⟨g, cap, cur, hv, hg, by rw [hb.block g (Array.getElem?_eq_some_iff.1 hh).1]; exact hh, r⟩
theorem own_at4 {w : World} {B n s : Nat} {e : TypeId} {v : Value} {xs : List Value} (h : w.ownsRow B e s v n xs) : ∀ g, v.ownBlock = some g → B ≤ g := by
  intro g hg
  rcases h.2 with ⟨h2, _⟩ | ⟨g', cap, cur, hv, hB, hh, _⟩
  · subst h2; cases hg
  · subst hv
    have e : g' = g := by simpa [Value.ownBlock] using hg
    subst e
    exact hB
theorem infoQ : (Try.prog.info? 33).map (fun i => (i.zero, i.size, i.bytes)) = some (some (.agg #[.float .f64 0, .float .f64 0, .float .f64 0, .float .f64 0]), 4, 32) := by kernel_rfl
theorem chain_form {L : List Q4} {e : Ending} (h : ChainIs L e) : ∃ q t, e = retQ q t := by
  obtain ⟨q, _, t, h1, _⟩ := chain_same h h
  exact ⟨q, t, h1⟩
theorem chain_same2 {L : List Q4} {p q : Q4} {s t : Bool} (h : ChainIs L (retQ p s)) (k : ChainIs L (retQ q t)) : s = t ∧ SameQ p q := by
  obtain ⟨_, _, _, h1, h2, h3⟩ := chain_same h k
  obtain ⟨rfl, rfl⟩ := val_inj h1
  obtain ⟨rfl, rfl⟩ := val_inj h2
  exact ⟨rfl, h3⟩
set_option maxHeartbeats 8000000 in
theorem chains_out (a : Option Addr) (n cap : Nat) (w : World) (h : 200 < n) (hn : n ≤ 9223372036854775807) :
    Calls Try.prog 7 #[.slice a n cap] w fun e w' => e = .returned (.bool true) ∧ Below w.heap.size w w' := by
  go_enter Try.func7, Try.ntmps7
  go_wp2_with fail
  refine (turns_any _).mono ?_
  rintro e w1 ⟨rfl, b1⟩
  go_wp2
  go_ret
  exact ⟨rfl, b1⟩
set_option maxHeartbeats 8000000 in
theorem chains_in (b off cap : Nat) (L : List Q4) (w : World) (hr : QRow w b off L) (hb : b < w.heap.size) (hl : L.length ≤ 200) :
    Calls Try.prog 7 #[.slice (some ⟨b, off, none⟩) L.length cap] w fun e w' => e = .returned (.bool true) ∧ Below w.heap.size w w' := by
  obtain ⟨i0, hi, hz0, hz1, hz2⟩ := info_parts infoQ
  have hsf := run_store_float Try.prog
  go_enter Try.func7, Try.ntmps7
  go_wp2_with fail
  refine (turns_any _).mono ?_
  rintro e w1 ⟨rfl, b1⟩
  have HW := hideR b1
  clear b1
  go_wp2
  go_loopw [4, 5] (fun mv kv wl => ∃ k : Nat, k ≤ L.length ∧ kv = .int .i64 (k : Nat) ∧ HeldR (wl.ownsRow w.heap.size 33 4 mv k (flatQ (L.take k))) ∧ HeldR (Below w.heap.size w wl)) (fun _ kv _ => L.length - (intOf kv).toNat)
  case atStart => exact ⟨0, by omega, rfl, World.ownsRow_nil _ _ _ _, HW⟩
  case round =>
    obtain ⟨k, hk, rfl, HO, HB⟩ := hrel
    have hsz := (unhideR HB).size
    by_cases hlt : k < L.length
    · have hq := hr.below (unhideR HB) hb
      have c0 := hq.ca k hlt
      have c1 := hq.cb k hlt
      have c2 := hq.cc k hlt
      have c3 := hq.cd k hlt
      have ht := take_q hlt
      obtain ⟨x, hx⟩ : ∃ x, x = L.getD k oneQ := ⟨_, rfl⟩
      rw [← hx] at c0 c1 c2 c3 ht
      have HT := hideR ht
      clear hx hq ht
      go_wp2_with fail
      refine (q_any _ _ _ _ _).mono ?_
      rintro e w2 ⟨rfl, k2⟩
      have HO2 := hideR (own_below4 (unhideR HO) k2)
      have HB2 := hideR (below_go (unhideR HB) k2)
      have hsz2 := (unhideR HB2).size
      clear k2 HO c0 c1 c2 c3
      go_wp2_with (first
        | (at_builtin; refine wpList_append_own _ rfl _ _ 61 rfl w.heap.size 33 i0 (.agg #[.float .f64 0, .float .f64 0, .float .f64 0, .float .f64 0]) 4 32 Try.underlying61 hi hz0 hz1 hz2 rfl (by decide) _ _ _ rfl ((unhideR HO2).alloc _) ⟨w2.heap.size, 0, none⟩ 1 1 [.float .f64 x.a, .float .f64 x.b, .float .f64 x.c, .float .f64 x.d] rfl rfl ?q1 ?q2 ?q3 ?q4 ?q5 ?_))
      case q1 =>
        intro m u hm
        have hm0 : m < 4 := by
          have h := (List.getElem?_eq_some_iff.1 hm).1
          simpa using h
        rcases (show m = 0 ∨ m = 1 ∨ m = 2 ∨ m = 3 by omega) with rfl | rfl | rfl | rfl
        all_goals
          simp at hm
          subst hm
          simp [go_sem, Addr.add]
      case q2 =>
        intro u hu
        simp only [List.mem_cons, List.not_mem_nil, or_false] at hu
        rcases hu with rfl | rfl | rfl | rfl <;> rfl
      case q3 => unfold maxLen; omega
      case q4 => omega
      case q5 => simp; omega
      intro v2 w3 hown2 hgrow2 _
      have B3 := hideR (((unhideR HB2).alloc hsz2 (.cells #[.float .f64 x.a, .float .f64 x.b, .float .f64 x.c, .float .f64 x.d] 33)).grown hgrow2 (by simp; omega) (fun g h => own_at4 (unhideR HO2) g h))
      have O3 : HeldR (w3.ownsRow w.heap.size 33 4 v2 (k + 1) (flatQ (L.take (k + 1)))) := by
        rw [unhideR HT, flat_append]
        exact hown2
      clear hown2 hgrow2 HO2 HT
      go_wp2
      exact ⟨⟨k + 1, by omega, by go_num, O3, B3⟩, by simp [intOf]; omega⟩
    · obtain rfl : k = L.length := by omega
      have hO := unhideR HO
      rw [List.take_length] at hO
      have hch : Calls Try.prog 35 #[u4] wr fun e w' => ChainIs L e ∧ Below wr.heap.size wr w' := by
        rcases own_row hO with ⟨h1, h2⟩ | ⟨g, cap2, h1, hg, hrow⟩
        · rw [h1, h2]
          exact chain_nil wr
        · rw [h1]
          exact chain_any g 0 cap2 L wr hrow hg hl
      have HCH := hideR hch
      clear hO hch HO
      go_wp2_with fail
      refine (unhideR HCH).mono ?_
      rintro e w2 ⟨hc, k2⟩
      obtain ⟨⟨s0, s1, s2, s3⟩, tb, rfl⟩ := chain_form hc
      rw [retQ_is]
      have HC := hideR hc
      have HB2 := hideR (below_go (unhideR HB) k2)
      clear hc k2 HCH
      have hco := fun v (hv : Below w.heap.size w v) => chainOf_any b off cap L v (hr.below hv hb) (Nat.lt_of_lt_of_le hb hv.size) hl
      have HCO := hideR hco
      clear hco
      go_wp2_with fail
      refine (unhideR HCO _ ((unhideR HB2).alloc (unhideR HB2).size _)).mono ?_
      rintro e w3 ⟨hc, k3⟩
      obtain ⟨⟨r0, r1, r2, r3⟩, tb2, rfl⟩ := chain_form hc
      obtain ⟨rfl, j0, j1, j2, j3⟩ := chain_same2 (unhideR HC) hc
      rw [retQ_is]
      have J := hideR (And.intro j0 (And.intro j1 (And.intro j2 j3)))
      have U := hideR (keepB (alloc_last w2 _) k3)
      have HB3 := hideR (below_go ((unhideR HB2).alloc (unhideR HB2).size _) k3)
      clear hc k3 j0 j1 j2 j3 HC HCO
      obtain ⟨⟨c0, c1, c2, c3⟩, _⟩ := four_at (unhideR U)
      have l0 := ltB (unhideR U)
      go_wp2_with fail
      refine (sameQ_any _ _ _ _ _ _ _ _ _ (unhideR J).1 (unhideR J).2.1 (unhideR J).2.2.1 (unhideR J).2.2.2).mono ?_
      rintro e w4 ⟨rfl, k4⟩
      have HB4 := hideR (below_go ((unhideR HB3).alloc (unhideR HB3).size _) k4)
      clear k4
      go_wp2
      go_ret
      exact ⟨rfl, unhideR HB4⟩
end Go.Proofs.Ytbobnmaeiohnnad
