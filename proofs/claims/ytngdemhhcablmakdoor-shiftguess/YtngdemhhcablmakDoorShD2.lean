/-
  The program's Cross, by contract.
-/
import Derived.Test.YtngdemhhcablmakDoorShDA
import Derived.Test.YtngdemhhcablmakDoorShIo
namespace Go.Proofs.YtngdemhhcablmakDoor
open Go Go.RowKit

/-- sums under way: those of the shifts before s, k products of s, then noughts. -/
structure CrK (A B : List Int) (n : Nat) (X : List Int) (s k : Nat) : Prop where
  len : X.length = n
  done : ∀ i, i < s → X.getD i 0 = crossK A B n i n
  now : X.getD s 0 = crossK A B n s k
  rest : ∀ i, s < i → X.getD i 0 = 0
theorem CrK.start (A B : List Int) (n : Nat) : CrK A B n (List.replicate n 0) 0 0 := by
  have h0 : ∀ i, (List.replicate n (0 : Int)).getD i 0 = 0 := fun i => by
    rw [List.getD_eq_getElem?_getD, List.getElem?_replicate]
    split <;> rfl
  exact ⟨List.length_replicate, fun i hi => absurd hi (Nat.not_lt_zero i), h0 0, fun i _ => h0 i⟩
theorem CrK.next {A B X : List Int} {n s k : Nat} (h : CrK A B n X s k) (hs : s < n) : CrK A B n (X.set s (X.getD s 0 + A.getD k 0 * B.getD ((k + s) % n) 0)) s (k + 1) := by
  refine ⟨by rw [List.length_set]; exact h.len, fun i hi => ?_, ?_, fun i hi => ?_⟩
  · rw [List.getD_eq_getElem?_getD, List.getElem?_set_ne (by omega), ← List.getD_eq_getElem?_getD]
    exact h.done i hi
  · rw [List.getD_eq_getElem?_getD, List.getElem?_set_self (by rw [h.len]; exact hs), h.now]
    rfl
  · rw [List.getD_eq_getElem?_getD, List.getElem?_set_ne (by omega), ← List.getD_eq_getElem?_getD]
    exact h.rest i hi
theorem CrK.on {A B X : List Int} {n s : Nat} (h : CrK A B n X s n) : CrK A B n X (s + 1) 0 := by
  refine ⟨h.len, fun i hi => ?_, h.rest (s + 1) (by omega), fun i hi => h.rest i (by omega)⟩
  by_cases e : i = s
  · rw [e]; exact h.now
  · exact h.done i (by omega)
theorem CrK.fin {A B X : List Int} {n k : Nat} (h : CrK A B n X n k) (hn : A.length = n) : X = crossL A B := by
  refine List.ext_getElem? (fun i => ?_)
  by_cases hi : i < n
  · have h1 := h.done i hi
    have h2 := crossL_at (a := A) (b := B) (s := i) (by rw [hn]; exact hi)
    rw [List.getD_eq_getElem?_getD, List.getElem?_eq_getElem (by rw [h.len]; exact hi)] at h1
    rw [List.getD_eq_getElem?_getD, List.getElem?_eq_getElem (by rw [crossL_len, hn]; exact hi)] at h2
    rw [List.getElem?_eq_getElem (by rw [h.len]; exact hi), List.getElem?_eq_getElem (by rw [crossL_len, hn]; exact hi)]
    simp only [Option.getD_some] at h1 h2
    rw [h1, h2]
    unfold crossV
    rw [hn]
  · rw [List.getElem?_eq_none (by rw [h.len]; omega), List.getElem?_eq_none (by rw [crossL_len, hn]; omega)]
theorem drew1_below (w : World) : Below w.heap.size w w.drew := ⟨rfl, rfl, rfl, Nat.le_refl _, fun _ _ => rfl⟩
theorem drew1_go {w v : World} {B : Nat} (h : Below B w v) : Below B w v.drew := ⟨h.os, h.tape, h.output, h.size, h.block⟩
theorem cr_none {a : Nat → Addr} {A B : List Int} {w w' : World} {er : Value} (h : ErrIs a (rowsE A B) er) (h0 : rowsE A B ≠ 0) (k : Below w.heap.size w w') : CrPost a A B w (.returned (.tuple #[.slice none 0 0, er])) w' :=
  ⟨[], none, 0, er, rfl, h, fun _ => rfl, fun q => absurd q h0, ⟨fun k hk => absurd hk (Nat.not_lt_zero k)⟩, k⟩
set_option maxRecDepth 100000 in
set_option maxHeartbeats 3200000 in
theorem cross_ok (a : Nat → Addr) : CrossOK a := by
  intro w a1 a2 c1 c2 A B hS hA hB l1 l2
  have hwr := wrongRows_any (c1 := c1) (c2 := c2) hS hA hB l1 l2
  by_cases e0 : rowsE A B = 0
  case neg =>
    have HF : HeldR (∀ er, ErrIs a (rowsE A B) er → CrPost a A B w (.returned (.tuple #[.slice none 0 0, er])) w) := hideR (fun er h => cr_none h e0 (Below.refl _ _))
    have HE := hideR e0
    obtain ⟨nA, hnA⟩ : ∃ n, A.length = n := ⟨_, rfl⟩
    obtain ⟨nB, hnB⟩ : ∃ n, B.length = n := ⟨_, rfl⟩
    rw [hnA] at hwr l1 ⊢
    rw [hnB] at hwr l2 ⊢
    clear hS hA hB e0 hnA hnB
    go_enter Tryd.func21, Tryd.ntmps21
    go_wp2_with fail
    refine hwr.mono ?_
    rintro e u ⟨er, rfl, her, rfl⟩
    have HR := hideR (unhideR HF er her)
    obtain ⟨kk, rfl⟩ := errIs_ne her (unhideR HE)
    clear hwr her
    go_wp2
    go_ret2
    exact unhideR HR
  case pos =>
  obtain ⟨n, hO⟩ := rows_ok e0
  have HFin : HeldR (∀ (X : List Int) g u, X = crossL A B → ICame u (some ⟨g, 0, none⟩) X → Below w.heap.size w u → CrPost a A B w (.returned (.tuple #[.slice (some ⟨g, 0, none⟩) n n, .nilIface])) u) := hideR (fun X g u hX hc k => by
    refine ⟨X, some ⟨g, 0, none⟩, n, .nilIface, ?_, .inl ⟨e0, rfl⟩, fun q => absurd e0 q, fun _ => hX, hc, k⟩
    rw [hX, crossL_len, hO.la])
  unfold WrPost at hwr
  rw [e0] at hwr
  have HA : HeldR (∀ u, Below w.heap.size w u → ICame u a1 A) := hideR (fun u k => hA.below k)
  have HB : HeldR (∀ u, Below w.heap.size w u → ICame u a2 B) := hideR (fun u k => hB.below k)
  have HO := hideR hO
  have hfew := hO.few
  have hpos := hO.pos
  rw [hO.la, hO.lb] at hwr ⊢
  obtain ⟨wm, hmk, hown, hbw⟩ := make_zeroJ (w := w) (n := n) w.heap.size (Nat.le_refl _) (by omega)
  have HX : HeldR (∃ X, CrK A B n X 0 0 ∧ JOwn wm w.heap.size (.slice (some ⟨w.heap.size, 0, none⟩) n n) X) := hideR ⟨_, CrK.start A B n, hown⟩
  have HBm := hideR hbw
  have hn0 : (n : Int) ≠ 0 := by omega
  have hn0n : n ≠ 0 := by omega
  clear hS hA hB l1 l2 e0 hO hown hbw
  go_enter Tryd.func21, Tryd.ntmps21
  go_wp2_with fail
  refine hwr.mono ?_
  rintro e u ⟨er, rfl, her, rfl⟩
  obtain rfl := errIs_0 her
  clear hwr her
  go_wp2
  obtain ⟨g, hg⟩ : ∃ g, u.heap.size = g := ⟨_, rfl⟩
  have HG := hideR hg
  rw [hg] at HX ⊢
  clear hg hmk
  go_loopw [24] (fun iv wl => ∃ (s : Nat) (X : List Int), s ≤ n ∧ iv = .int .i64 (s : Nat) ∧ HeldR (CrK A B n X s 0) ∧ HeldR (JOwn wl g (.slice (some ⟨g, 0, none⟩) n n) X) ∧ HeldR (Below u.heap.size u wl)) (fun iv _ => n + 1 - (intOf iv).toNat)
  case atStart =>
    obtain ⟨X, h1, h2⟩ := unhideR HX
    exact ⟨0, X, by omega, rfl, hideR h1, hideR h2, HBm⟩
  case round =>
    obtain ⟨s, X, hs, rfl, HK, HW, HBw⟩ := hrel
    by_cases hlt : s < n
    · have tk : decide (s < n) = true := decide_eq_true hlt
      have tki : decide ((s : Int) < (n : Int)) = true := decide_eq_true (by omega)
      have js : (s : Int) < (n : Int) := by omega
      have wk : IntKind.i64.wrap ((s : Int) + 1) = ((s + 1 : Nat) : Int) := by rw [show (s : Int) + 1 = ((s + 1 : Nat) : Int) by omega]; exact iwrap (by omega) (by omega)
      go_wp2
      go_loopw [29] (fun iv wl => ∃ (k : Nat) (X : List Int), k ≤ n ∧ iv = .int .i64 (k : Nat) ∧ HeldR (CrK A B n X s k) ∧ HeldR (JOwn wl g (.slice (some ⟨g, 0, none⟩) n n) X) ∧ HeldR (Below u.heap.size u wl)) (fun iv _ => n + 1 - (intOf iv).toNat)
      case atStart => exact ⟨0, X, by omega, rfl, HK, HW, HBw⟩
      case round =>
        clear HK HW HBw X
        obtain ⟨k, X, hk, rfl, HK, HW, HBw⟩ := hrel
        by_cases hlk : k < n
        · have tk' : decide (k < n) = true := decide_eq_true hlk
          have tki' : decide ((k : Int) < (n : Int)) = true := decide_eq_true (by omega)
          have jk : (k : Int) < (n : Int) := by omega
          have wk' : IntKind.i64.wrap ((k : Int) + 1) = ((k + 1 : Nat) : Int) := by rw [show (k : Int) + 1 = ((k + 1 : Nat) : Int) by omega]; exact iwrap (by omega) (by omega)
          obtain ⟨b1, o1, rfl, _, x1⟩ := (unhideR HA wr (unhideR HBw)).at_ k (by rw [(unhideR HO).la]; exact hlk)
          obtain ⟨j, hj⟩ : ∃ j, (k + s) % n = j := ⟨_, rfl⟩
          have hjn : j < n := by rw [← hj]; exact Nat.mod_lt _ hpos
          obtain ⟨b2, o2, rfl, _, x2⟩ := (unhideR HB wr (unhideR HBw)).at_ j (by rw [(unhideR HO).lb]; exact hjn)
          obtain ⟨x3, f3⟩ := (unhideR HW).has (unhideR HK).len (k := s) hlt
          have jj : (j : Int) < (n : Int) := by omega
          have ws : IntKind.i64.wrap ((k : Int) + (s : Int)) = ((k + s : Nat) : Int) := by rw [show (k : Int) + (s : Int) = ((k + s : Nat) : Int) by omega]; exact iwrap (by omega) (by omega)
          obtain ⟨ks, hks⟩ : ∃ ks, k + s = ks := ⟨_, rfl⟩
          have hnow := (unhideR HK).now
          have hr := crossK_range (unhideR HO).each n s k
          rw [← hnow] at hr
          have hmul := mul_20 ⟨((unhideR HO).each k).1, ((unhideR HO).each k).2.1⟩ ⟨((unhideR HO).each j).2.2.1, ((unhideR HO).each j).2.2.2⟩
          have HK' := hideR ((unhideR HK).next hlt)
          have HW' : HeldR (∀ x, JOwn (wr.setCell ⟨g, s, none⟩ (.int .i64 x)) g (.slice (some ⟨g, 0, none⟩) n n) (X.set s x)) := hideR (fun x => (unhideR HW).put (unhideR HK).len s x)
          have HB' : HeldR (∀ x, Below u.heap.size u (wr.setCell ⟨g, s, none⟩ (.int .i64 x))) := hideR (fun x => (unhideR HBw).setCell (by rw [unhideR HG]; exact Nat.le_refl _) _)
          rw [hj] at HK'
          rw [hks] at hj ws
          have hm1 : (ks : Int) % (n : Int) = (j : Nat) := by rw [← hj]; exact (Int.natCast_emod ks n).symm
          have hm2 : (ks : Int).tmod (n : Int) = (j : Nat) := (Int.tmod_eq_emod_of_nonneg (Int.natCast_nonneg ks)).trans hm1
          generalize A.getD k 0 = x at *
          generalize B.getD j 0 = y at *
          generalize X.getD s 0 = cs at *
          obtain ⟨p, hp⟩ : ∃ p, x * y = p := ⟨_, rfl⟩
          rw [hp] at hmul HK'
          have wp : IntKind.i64.wrap (x * y) = p := by rw [hp]; clear hm1 hm2 hp; exact iwrap (by omega) (by omega)
          have wc : IntKind.i64.wrap (cs + p) = cs + p := by clear hm1 hm2 hp; exact iwrap (by omega) (by omega)
          clear hj hks hp hr hmul hnow HK HW HBw
          go_wp2
          go_region
          go_wp2
          exact ⟨⟨k + 1, _, by omega, by first | rfl | go_num, HK', hideR ((unhideR HW' _).below (drew1_below _)), hideR (drew1_go (unhideR HB' _))⟩, by clear hm1 hm2; simp [intOf]; omega⟩
        · obtain rfl : k = n := by omega
          have tk' : decide (k < k) = false := decide_eq_false hlk
          have tki' : decide ((k : Int) < (k : Int)) = false := decide_eq_false (by omega)
          have HK' := hideR (unhideR HK).on
          clear HK
          go_wp2
          exact ⟨⟨s + 1, X, by omega, by first | rfl | go_num, HK', HW, HBw⟩, by simp [intOf]; omega⟩
    · obtain rfl : s = n := by omega
      have tk : decide (s < s) = false := decide_eq_false hlt
      have tki : decide ((s : Int) < (s : Int)) = false := decide_eq_false (by omega)
      have HR := hideR (unhideR HFin X g wr ((unhideR HK).fin (unhideR HO).la) (unhideR HW).row (unhideR HBw))
      clear HFin HK HW HBw HA HB
      go_wp2
      go_ret2
      exact unhideR HR
end Go.Proofs.YtngdemhhcablmakDoor
