/-
  The program's Parts.
-/
import Derived.Test.YtncbmkflilcdgaiGreatDoorDH13A
import Derived.Test.YtncbmkflilcdgaiGreatDoorDH4
import Derived.ScopeJumps
import Derived.WalkMore
namespace Go.Proofs.YtncbmkflilcdgaiGreatDoor
open Go Go.RowKit

set_option maxRecDepth 1000000 in
theorem zero_rd : Tryz.zeroCells65 = (byCells (List.replicate 2880 0) ++ rdT 0 (.slice none 0 0) false 0 0 (.slice none 0 0) 0).toArray := by kernel_rfl
theorem new_rd {w : World} {cs : Array Value} (h : cs = (byCells (List.replicate 2880 0) ++ rdT 0 (.slice none 0 0) false 0 0 (.slice none 0 0) 0).toArray) : TkIn w.heap.size w.heap.size [] (w.alloc (.cells cs 65)) :=
  ⟨st0, List.replicate 2880 0, 0, cm0, [], .slice none 0 0, .slice none 0 0, ⟨⟨by rw [List.length_replicate], by rw [h]; exact alloc_last w _⟩, Nat.le_refl _, World.ownsRow_nil _ _ _ _, rfl, World.ownsRow_nil _ _ _ _⟩⟩
theorem drop_bytes2 {w : World} {ad : Option Addr} {l : Bs} {cap : Nat} (n : Nat) (h : BAt w ad l) (hc : l.length ≤ cap) : BAt w (if cap = n then ad else ad.map (·.add n)) (l.drop n) := ⟨fun k hk => by
  rw [List.length_drop] at hk
  obtain ⟨b', o', e', hb, hcl⟩ := h.at_ (n + k) (by omega)
  subst e'
  rw [if_neg (by omega)]
  refine ⟨b', o' + n, by rw [Option.map_some, add_pl2], hb, ?_⟩
  rw [Nat.add_assoc, hcl]
  simp only [List.getD, List.getElem?_drop]⟩
theorem take_bytes {w : World} {ad : Option Addr} {l : Bs} (n : Nat) (h : BAt w ad l) : BAt w ad (l.take n) := ⟨fun k hk => by
  rw [List.length_take] at hk
  obtain ⟨b', o', e', hb, hcl⟩ := h.at_ k (by omega)
  refine ⟨b', o', e', hb, ?_⟩
  rw [hcl, getD_take (by omega)]⟩
theorem read_bad {a : Nat → Addr} {l : Bs} {w u : World} {k : Nat} (h : readV l = (((k + 1 : Nat) : Int), pic0, []) ∧ k < 10) (hb : Below w.heap.size w u) : ReadPost a l w (.returned (.tuple #[.agg #[.int .i64 0, .int .i64 0, .slice none 0 0], .slice none 0 0, .iface 180 (.pointer (some (a k)))])) u := by
  obtain ⟨h, hk⟩ := h
  refine ⟨[], none, none, 0, 0, .iface 180 (.pointer (some (a k))), ?_, ?_, ?_, ⟨⟨fun j hj => ?_⟩, fun _ q => (by cases q)⟩, ⟨fun j hj => absurd hj (Nat.not_lt_zero j)⟩, hb⟩
  · rw [h]; rfl
  · rw [h]; rfl
  · rw [h]; exact err_at k hk
  · rw [h] at hj; exact absurd hj (Nat.not_lt_zero j)
theorem cell_lt {w : World} {b o : Nat} {v : Value} (h : w.cell? ⟨b, o, none⟩ = some v) : b < w.heap.size := by
  refine Decidable.byContradiction (fun q => ?_)
  simp only [World.cell?, Array.getElem?_eq_none (Nat.le_of_not_lt q)] at h
  cases h
theorem low_ne {w : World} {B n s g : Nat} {e : TypeId} {v : Value} {xs : List Value} (h : w.ownsRow B e s v n xs) (hg : g < B) : some g ≠ v.ownBlock := fun q => by
  have := own_at2 h g q.symm
  omega
theorem three_setR {w : World} {g : Nat} {x0 x1 x2 y0 y1 y2 : Value} {ty : TypeId} (h : w.heap[g]? = some (.cells #[x0, x1, x2] ty)) : (((w.setCell ⟨g, 0, none⟩ y0).setCell ⟨g, 1, none⟩ y1).setCell ⟨g, 2, none⟩ y2).heap[g]? = some (.cells #[y0, y1, y2] ty) := by
  have h1 := heap_setCell_same w g 0 _ _ y0 h
  have h2 := heap_setCell_same _ g 1 _ _ y1 h1
  have h3 := heap_setCell_same _ g 2 _ _ y2 h2
  exact h3
def PtJ (w : World) (l : Bs) (a' : Act) (w' : World) : Prop := HeldR (readV l = (8, pic0, [])) ∧ HeldR (Below w.heap.size w w') ∧ HeldR (w'.heap[w.heap.size]? = some (.cells #[.int .i64 0, .int .i64 0, .slice none 0 0] 33)) ∧ ∃ (u0 u1 u2 u3 u5 u6 u7 u8 u9 u10 u11 u12 u13 u14 u15 u16 u17 u18 u19 u20 u21 u22 u23 u24 u25 u26 u27 u28 u29 u30 u31 u32 u33 u34 u35 u36 u37 u38 u39 u40 u41 u42 u43 u44 u45 u46 u47 u48 u49 u50 u51 : Value), a' = { tmps := #[u0, u1, u2, u3, .pointer (some ⟨w.heap.size, 0, none⟩), u5, u6, u7, u8, u9, u10, u11, u12, u13, u14, u15, u16, u17, u18, u19, u20, u21, u22, u23, u24, u25, u26, u27, u28, u29, u30, u31, u32, u33, u34, u35, u36, u37, u38, u39, u40, u41, u42, u43, u44, u45, u46, u47, u48, u49, u50, u51], defers := [] }
theorem own_typed {w : World} {B : Nat} {v : Value} {C : List Int} (h : NOwn w B v C) : ∃ ad cap, v = .slice ad C.length cap ∧ ITyped w ad C := by
  obtain ⟨ad, cap, e, hc, _⟩ := own_ints h
  refine ⟨ad, cap, e, hc, fun a0 ha => ?_⟩
  subst ha
  subst e
  rcases h.2 with ⟨h1, _⟩ | ⟨g, c, cur, h1, _, hh, _⟩
  · cases h1
  · injection h1 with h1
    injection h1 with h1
    subst h1
    exact ⟨_, _, hh⟩
set_option maxRecDepth 100000 in
set_option maxHeartbeats 12800000 in
theorem parts_ok (a : Nat → Addr) : PartsOK a := by
  intro w ab ai cb ci l P hS hB hl hcb hI hPn
  show Calls _ _ _ _ (ReadPost a l w)
  have hb1 := below_a w (.cells #[.int .i64 0, .int .i64 0, .slice none 0 0] 33)
  have hb2 := below_go hb1 (below_a (w.alloc (.cells #[.int .i64 0, .int .i64 0, .slice none 0 0] 33)) (.cells Tryz.zeroCells65 65))
  have HL := hideR hb2
  have HPic : HeldR (((w.alloc (.cells #[.int .i64 0, .int .i64 0, .slice none 0 0] 33)).alloc (.cells Tryz.zeroCells65 65)).heap[w.heap.size]? = some (.cells #[.int .i64 0, .int .i64 0, .slice none 0 0] 33)) := hideR (keepA (alloc_last w (.cells #[.int .i64 0, .int .i64 0, .slice none 0 0] 33)))
  have HIn := hideR (new_rd (w := w.alloc (.cells #[.int .i64 0, .int .i64 0, .slice none 0 0] 33)) zero_rd)
  have hsz : (w.alloc (.cells #[.int .i64 0, .int .i64 0, .slice none 0 0] 33)).heap.size = w.heap.size + 1 := by simp
  rw [hsz] at HIn
  have HS := hideR hS
  have HB := hideR hB
  have HI := hideR hI
  clear hS hB hI hb1 hb2
  go_enter Tryz.func13, Tryz.ntmps13
  go_wp2_with fail
  refine wp_scope_jumps 0 (PtJ w l) (fun _ _ => 0) rfl ?_ ?_
  · by_cases hbig : 400000 < l.length
    · have tb : decide ((400000 : Int) < (l.length : Nat)) = true := decide_eq_true (by omega)
      have HV : HeldR (readV l = ((((1 : Nat) + 1 : Nat) : Int), pic0, []) ∧ 1 < 10) := hideR ⟨by unfold readV; rw [if_pos hbig]; rfl, by decide⟩
      go_wp2_with fail
      have hS9 := (unhideR HS).below (unhideR HL)
      have g9 := hS9.s.g1
      have HX : HeldR (ReadPost a l w (.returned (.tuple #[.agg #[.int .i64 0, .int .i64 0, .slice none 0 0], .slice none 0 0, .iface 180 (.pointer (some (a 1)))])) (((w.alloc (.cells #[.int .i64 0, .int .i64 0, .slice none 0 0] 33)).alloc (.cells Tryz.zeroCells65 65)).drew)) := hideR (read_bad (unhideR HV) (below_drewN (unhideR HL) 1))
      have h3 : (((w.alloc (.cells #[.int .i64 0, .int .i64 0, .slice none 0 0] 33)).alloc (.cells Tryz.zeroCells65 65)).drew).heap[w.heap.size]? = some (.cells #[.int .i64 0, .int .i64 0, .slice none 0 0] 33) := unhideR HPic
      obtain ⟨q0, q1, q2⟩ := pic_three (unhideR HPic)
      obtain ⟨o0, o1, o2⟩ := pic_open (unhideR HPic)
      clear hS9
      go_region
      generalize ((w.alloc (.cells #[.int .i64 0, .int .i64 0, .slice none 0 0] 33)).alloc (.cells Tryz.zeroCells65 65)).drew = uf at *
      obtain ⟨r0, r1, r2⟩ := pic_three h3
      go_wp2
      try simp only [Exit.jump]
      simp [bodyPost, results, Tryz.results13, go_sem, r0, r1, r2]
      exact unhideR HX
    · have tb : decide ((400000 : Int) < (l.length : Nat)) = false := decide_eq_false (by omega)
      have hl4 : l.length ≤ 400000 := by omega
      have HSz : HeldR (w.heap.size + 1 ≤ ((w.alloc (.cells #[.int .i64 0, .int .i64 0, .slice none 0 0] 33)).alloc (.cells Tryz.zeroCells65 65)).heap.size) := hideR (by simp)
      have HS2 : HeldR (∀ v, Below (w.heap.size + 1) ((w.alloc (.cells #[.int .i64 0, .int .i64 0, .slice none 0 0] 33)).alloc (.cells Tryz.zeroCells65 65)) v → Below w.heap.size w v) := hideR (fun v k => (unhideR HL).trans (k.mono (by omega)))
      have HP2 : HeldR (∀ v, Below (w.heap.size + 1) ((w.alloc (.cells #[.int .i64 0, .int .i64 0, .slice none 0 0] 33)).alloc (.cells Tryz.zeroCells65 65)) v → v.heap[w.heap.size]? = some (.cells #[.int .i64 0, .int .i64 0, .slice none 0 0] 33)) := hideR (fun v k => (k.block _ (by omega)).trans (unhideR HPic))
      have H0 : HeldR (TkIn (w.heap.size + 1) (w.heap.size + 1) (l.take 0) ((w.alloc (.cells #[.int .i64 0, .int .i64 0, .slice none 0 0] 33)).alloc (.cells Tryz.zeroCells65 65))) := by rw [List.take_zero]; exact HIn
      have HB0 : HeldR (∀ v, Below w.heap.size w v → BAt v ab (l.drop 0)) := hideR (fun v k => by rw [List.drop_zero]; exact (unhideR HB).below k)
      clear HL HPic HIn hsz hbig
      go_wp2
      generalize (w.alloc (.cells #[.int .i64 0, .int .i64 0, .slice none 0 0] 33)).alloc (.cells Tryz.zeroCells65 65) = W2 at *
      go_loopw [0, 17] (fun bv iv wl => ∃ (j i m cj : Nat) (adj : Option Addr), HeldR (j + m = l.length) ∧ bv = .slice adj m cj ∧ m ≤ cj ∧ i ≤ P.length ∧ iv = .int .i64 (i : Nat) ∧ HeldR (∀ v, Below w.heap.size w v → BAt v adj (l.drop j)) ∧ HeldR (TkIn (w.heap.size + 1) (w.heap.size + 1) (l.take j) wl) ∧ HeldR (Below (w.heap.size + 1) W2 wl)) (fun _ iv _ => P.length + 1 - (intOf iv).toNat)
      case atStart => exact ⟨0, 0, l.length, cb, ab, hideR (by omega), rfl, hcb, by omega, rfl, HB0, H0, hideR (Below.refl _ _)⟩
      case round =>
        obtain ⟨j, i, m, cj, adj, HJ0, rfl, hcj, hi, rfl, HBt, HT, HW⟩ := hrel
        by_cases hlt : i < P.length
        · obtain ⟨bi, oi, rfl, xi⟩ := ((unhideR HI).below (unhideR HS2 wr (unhideR HW))).at_ i hlt
          generalize P.getD i 0 = x at xi
          have HI2 := HI
          clear HI
          have HI := HI2
          by_cases x0 : x < 0
          · have t1 : decide (x < 0) = true := decide_eq_true x0
            have hlenN : ((l.drop j).take m).length = m := by rw [List.length_take, List.length_drop]; have := unhideR HJ0; omega
            obtain ⟨ad0, had0⟩ : ∃ ad0, (if cj = 0 then adj else adj.map (·.add 0)) = ad0 := ⟨_, rfl⟩
            obtain ⟨adn, hadn⟩ : ∃ adn, (if cj = m then adj else adj.map (·.add m)) = adn := ⟨_, rfl⟩
            have hs1 : ∀ u, (Instr.slice 27 (.slice adj m cj) none (some (.int .i64 (m : Nat))) none).run Tryz.prog u = .ok (.slice ad0 m cj) u := fun u => by
              rw [run_slice_h u 27 adj m cj Tryz.underlying27 .i64 (m : Nat) (by omega) (by omega), ← had0]
              simp [go_sem]
            have hs2 : ∀ u, (Instr.slice 27 (.slice adj m cj) (some (.int .i64 (m : Nat))) none none).run Tryz.prog u = .ok (.slice adn (m - m) (cj - m)) u := fun u => by
              rw [run_slice_l u 27 adj m cj Tryz.underlying27 .i64 (m : Nat) (by omega) (by omega), ← hadn]
              simp [go_sem]
            have hjm := unhideR HJ0
            have htk := take_any (a := a) (w := wr) (T := l.take j) (P := (l.drop j).take m) (ad := ad0) (cap := cj) (fun v k => (unhideR HS).below (unhideR HS2 v ((unhideR HW).trans k))) (fun v k => by
              have := drop_bytes2 0 (unhideR HBt v (unhideR HS2 v ((unhideR HW).trans k))) (show (l.drop j).length ≤ cj by rw [List.length_drop]; omega)
              rw [had0, List.drop_zero] at this
              exact take_bytes m this) (unhideR HT) (Nat.le_trans (unhideR HSz) (unhideR HW).size) (by rw [hlenN, List.length_take]; omega) (by rw [hlenN]; omega)
            rw [hlenN] at htk
            have HBn : HeldR (∀ v, Below w.heap.size w v → BAt v adn (l.drop (j + m))) := hideR (fun v k => by
              rw [← hadn, ← List.drop_drop]
              exact drop_bytes2 m (unhideR HBt v k) (by rw [List.length_drop]; omega))
            have HJ2 : HeldR (j + m + (m - m) = l.length) := hideR (by omega)
            clear HBt HT hlenN had0 hadn hjm
            go_wp2_with fail
            refine htk.mono ?_
            rintro e W3 ⟨q, rfl, k3, hy, hno⟩
            have HW3 := hideR ((unhideR HW).trans k3)
            clear htk k3
            cases q
            case false =>
              have HJ : HeldR (readV l = (8, pic0, [])) := by
                obtain ⟨nn, h1, h2⟩ := hno rfl (l.drop (j + m))
                have e9 : l.take j ++ (l.drop j).take m ++ l.drop (j + m) = l := by rw [← List.take_add, List.take_append_drop]
                rw [e9] at h1 h2
                exact hideR (read_stop hl4 h1 h2)
              have HL := hideR (unhideR HS2 W3 (unhideR HW3))
              have HPic := hideR (unhideR HP2 W3 (unhideR HW3))
              clear hy hno
              go_wp2
              refine wp_goto ?_
              show (0 : Nat) = 0 ∧ PtJ w l _ _
              exact ⟨rfl, HJ, HL, HPic, _, _, _, _, _, _, _, _, _, _, _, _, _, _, _, _, _, _, _, _, _, _, _, _, _, _, _, _, _, _, _, _, _, _, _, _, _, _, _, _, _, _, _, _, _, _, _, _, _, _, _, rfl⟩
            case true =>
              have HT2 : HeldR (TkIn (w.heap.size + 1) (w.heap.size + 1) (l.take (j + m)) W3) := by
                rw [List.take_add]
                exact hideR (hy rfl)
              clear hy hno
              go_wp2
              exact ⟨⟨j + m, i + 1, m - m, cj - m, adn, HJ2, (by first | rfl | rw [Nat.sub_self]), by omega, by omega, by go_num, HBn, HT2, HW3⟩, by simp [intOf]; omega⟩
          by_cases x1 : (m : Int) < x
          · have t1 : decide (x < 0) = false := decide_eq_false x0
            have t2 : decide ((m : Int) < x) = true := decide_eq_true x1
            have hlenN : ((l.drop j).take m).length = m := by rw [List.length_take, List.length_drop]; have := unhideR HJ0; omega
            obtain ⟨ad0, had0⟩ : ∃ ad0, (if cj = 0 then adj else adj.map (·.add 0)) = ad0 := ⟨_, rfl⟩
            obtain ⟨adn, hadn⟩ : ∃ adn, (if cj = m then adj else adj.map (·.add m)) = adn := ⟨_, rfl⟩
            have hs1 : ∀ u, (Instr.slice 27 (.slice adj m cj) none (some (.int .i64 (m : Nat))) none).run Tryz.prog u = .ok (.slice ad0 m cj) u := fun u => by
              rw [run_slice_h u 27 adj m cj Tryz.underlying27 .i64 (m : Nat) (by omega) (by omega), ← had0]
              simp [go_sem]
            have hs2 : ∀ u, (Instr.slice 27 (.slice adj m cj) (some (.int .i64 (m : Nat))) none none).run Tryz.prog u = .ok (.slice adn (m - m) (cj - m)) u := fun u => by
              rw [run_slice_l u 27 adj m cj Tryz.underlying27 .i64 (m : Nat) (by omega) (by omega), ← hadn]
              simp [go_sem]
            have hjm := unhideR HJ0
            have htk := take_any (a := a) (w := wr) (T := l.take j) (P := (l.drop j).take m) (ad := ad0) (cap := cj) (fun v k => (unhideR HS).below (unhideR HS2 v ((unhideR HW).trans k))) (fun v k => by
              have := drop_bytes2 0 (unhideR HBt v (unhideR HS2 v ((unhideR HW).trans k))) (show (l.drop j).length ≤ cj by rw [List.length_drop]; omega)
              rw [had0, List.drop_zero] at this
              exact take_bytes m this) (unhideR HT) (Nat.le_trans (unhideR HSz) (unhideR HW).size) (by rw [hlenN, List.length_take]; omega) (by rw [hlenN]; omega)
            rw [hlenN] at htk
            have HBn : HeldR (∀ v, Below w.heap.size w v → BAt v adn (l.drop (j + m))) := hideR (fun v k => by
              rw [← hadn, ← List.drop_drop]
              exact drop_bytes2 m (unhideR HBt v k) (by rw [List.length_drop]; omega))
            have HJ2 : HeldR (j + m + (m - m) = l.length) := hideR (by omega)
            clear HBt HT hlenN had0 hadn hjm
            go_wp2_with fail
            refine htk.mono ?_
            rintro e W3 ⟨q, rfl, k3, hy, hno⟩
            have HW3 := hideR ((unhideR HW).trans k3)
            clear htk k3
            cases q
            case false =>
              have HJ : HeldR (readV l = (8, pic0, [])) := by
                obtain ⟨nn, h1, h2⟩ := hno rfl (l.drop (j + m))
                have e9 : l.take j ++ (l.drop j).take m ++ l.drop (j + m) = l := by rw [← List.take_add, List.take_append_drop]
                rw [e9] at h1 h2
                exact hideR (read_stop hl4 h1 h2)
              have HL := hideR (unhideR HS2 W3 (unhideR HW3))
              have HPic := hideR (unhideR HP2 W3 (unhideR HW3))
              clear hy hno
              go_wp2
              refine wp_goto ?_
              show (0 : Nat) = 0 ∧ PtJ w l _ _
              exact ⟨rfl, HJ, HL, HPic, _, _, _, _, _, _, _, _, _, _, _, _, _, _, _, _, _, _, _, _, _, _, _, _, _, _, _, _, _, _, _, _, _, _, _, _, _, _, _, _, _, _, _, _, _, _, _, _, _, _, _, rfl⟩
            case true =>
              have HT2 : HeldR (TkIn (w.heap.size + 1) (w.heap.size + 1) (l.take (j + m)) W3) := by
                rw [List.take_add]
                exact hideR (hy rfl)
              clear hy hno
              go_wp2
              exact ⟨⟨j + m, i + 1, m - m, cj - m, adn, HJ2, (by first | rfl | rw [Nat.sub_self]), by omega, by omega, by go_num, HBn, HT2, HW3⟩, by simp [intOf]; omega⟩
          obtain ⟨N, rfl⟩ : ∃ N : Nat, x = (N : Nat) := ⟨x.toNat, by omega⟩
          have t1 : decide ((N : Int) < 0) = false := decide_eq_false x0
          have t2 : decide ((m : Int) < (N : Int)) = false := decide_eq_false x1
          have hNle : N ≤ m := by omega
          have hlenN : ((l.drop j).take N).length = N := by rw [List.length_take, List.length_drop]; have := unhideR HJ0; omega
          obtain ⟨ad0, had0⟩ : ∃ ad0, (if cj = 0 then adj else adj.map (·.add 0)) = ad0 := ⟨_, rfl⟩
          obtain ⟨adn, hadn⟩ : ∃ adn, (if cj = N then adj else adj.map (·.add N)) = adn := ⟨_, rfl⟩
          have hs1 : ∀ u, (Instr.slice 27 (.slice adj m cj) none (some (.int .i64 (N : Nat))) none).run Tryz.prog u = .ok (.slice ad0 N cj) u := fun u => by
            rw [run_slice_h u 27 adj m cj Tryz.underlying27 .i64 (N : Nat) (by omega) (by omega), ← had0]
            simp [go_sem]
          have hs2 : ∀ u, (Instr.slice 27 (.slice adj m cj) (some (.int .i64 (N : Nat))) none none).run Tryz.prog u = .ok (.slice adn (m - N) (cj - N)) u := fun u => by
            rw [run_slice_l u 27 adj m cj Tryz.underlying27 .i64 (N : Nat) (by omega) (by omega), ← hadn]
            simp [go_sem]
          have hjm := unhideR HJ0
          have htk := take_any (a := a) (w := wr) (T := l.take j) (P := (l.drop j).take N) (ad := ad0) (cap := cj) (fun v k => (unhideR HS).below (unhideR HS2 v ((unhideR HW).trans k))) (fun v k => by
            have := drop_bytes2 0 (unhideR HBt v (unhideR HS2 v ((unhideR HW).trans k))) (show (l.drop j).length ≤ cj by rw [List.length_drop]; omega)
            rw [had0, List.drop_zero] at this
            exact take_bytes N this) (unhideR HT) (Nat.le_trans (unhideR HSz) (unhideR HW).size) (by rw [hlenN, List.length_take]; omega) (by rw [hlenN]; omega)
          rw [hlenN] at htk
          have HBn : HeldR (∀ v, Below w.heap.size w v → BAt v adn (l.drop (j + N))) := hideR (fun v k => by
            rw [← hadn, ← List.drop_drop]
            exact drop_bytes2 N (unhideR HBt v k) (by rw [List.length_drop]; omega))
          have HJ2 : HeldR (j + N + (m - N) = l.length) := hideR (by omega)
          clear HBt HT hlenN had0 hadn hjm
          go_wp2_with fail
          refine htk.mono ?_
          rintro e W3 ⟨q, rfl, k3, hy, hno⟩
          have HW3 := hideR ((unhideR HW).trans k3)
          clear htk k3
          cases q
          case false =>
            have HJ : HeldR (readV l = (8, pic0, [])) := by
              obtain ⟨nn, h1, h2⟩ := hno rfl (l.drop (j + N))
              have e9 : l.take j ++ (l.drop j).take N ++ l.drop (j + N) = l := by rw [← List.take_add, List.take_append_drop]
              rw [e9] at h1 h2
              exact hideR (read_stop hl4 h1 h2)
            have HL := hideR (unhideR HS2 W3 (unhideR HW3))
            have HPic := hideR (unhideR HP2 W3 (unhideR HW3))
            clear hy hno
            go_wp2
            refine wp_goto ?_
            show (0 : Nat) = 0 ∧ PtJ w l _ _
            exact ⟨rfl, HJ, HL, HPic, _, _, _, _, _, _, _, _, _, _, _, _, _, _, _, _, _, _, _, _, _, _, _, _, _, _, _, _, _, _, _, _, _, _, _, _, _, _, _, _, _, _, _, _, _, _, _, _, _, _, _, rfl⟩
          case true =>
            have HT2 : HeldR (TkIn (w.heap.size + 1) (w.heap.size + 1) (l.take (j + N)) W3) := by
              rw [List.take_add]
              exact hideR (hy rfl)
            clear hy hno
            go_wp2
            exact ⟨⟨j + N, i + 1, m - N, cj - N, adn, HJ2, (by first | rfl | rw [Nat.sub_self]), by omega, by omega, by go_num, HBn, HT2, HW3⟩, by simp [intOf]; omega⟩
        · obtain rfl : i = P.length := by omega
          have hjm := unhideR HJ0
          have hle : (l.drop j).length = m := by rw [List.length_drop]; omega
          have htk := take_any (a := a) (w := wr) (T := l.take j) (P := l.drop j) (ad := adj) (cap := cj) (fun v k => (unhideR HS).below (unhideR HS2 v ((unhideR HW).trans k))) (fun v k => unhideR HBt v (unhideR HS2 v ((unhideR HW).trans k))) (unhideR HT) (Nat.le_trans (unhideR HSz) (unhideR HW).size) (by rw [hle, List.length_take]; omega) (by rw [hle]; exact hcj)
          rw [hle] at htk
          clear HBt HT hle hjm
          go_wp2_with fail
          refine htk.mono ?_
          rintro e W3 ⟨q, rfl, k3, hy, hno⟩
          have HW3 := hideR ((unhideR HW).trans k3)
          rw [List.take_append_drop] at hy hno
          clear htk k3
          cases q
          case false =>
            have HJ : HeldR (readV l = (8, pic0, [])) := by
              obtain ⟨nn, h1, h2⟩ := hno rfl []
              rw [List.append_nil] at h1 h2
              exact hideR (read_stop hl4 h1 h2)
            have HL := hideR (unhideR HS2 W3 (unhideR HW3))
            have HPic := hideR (unhideR HP2 W3 (unhideR HW3))
            clear hy hno
            go_wp2
            refine wp_goto ?_
            show (0 : Nat) = 0 ∧ PtJ w l _ _
            exact ⟨rfl, HJ, HL, HPic, _, _, _, _, _, _, _, _, _, _, _, _, _, _, _, _, _, _, _, _, _, _, _, _, _, _, _, _, _, _, _, _, _, _, _, _, _, _, _, _, _, _, _, _, _, _, _, _, _, _, _, rfl⟩
          case true =>
            obtain ⟨s, b, co, hcm, LS, cv, pv, hr⟩ := hy rfl
            obtain ⟨adp, capp, e, _⟩ := own_typed hr.cnt
            subst e
            have hwh := whole_any hr.rd
            obtain ⟨qq, hqq⟩ : ∃ qq, (decide (co = 0) && s.headed && decide (s.next = s.C.length)) = qq := ⟨_, rfl⟩
            rw [hqq] at hwh
            have HQ := hideR hqq
            have HR := hideR hr
            have HCm := hideR hcm
            clear hy hno hr hcm hqq
            go_wp2_with fail
            refine hwh.mono ?_
            rintro e W4 ⟨rfl, k4⟩
            have HR4 := hideR ((unhideR HR).below k4)
            have HW4 := hideR (below_goB (unhideR HW3) (Nat.le_trans (unhideR HSz) (unhideR HW3).size) k4)
            have HL := hideR (unhideR HS2 W4 (unhideR HW4))
            have HPic := hideR (unhideR HP2 W4 (unhideR HW4))
            clear hwh k4 HR
            cases qq
            case false =>
              have HJ : HeldR (readV l = (8, pic0, [])) := hideR (cm_no (unhideR HCm) hl4 (fun q => by
                have := unhideR HQ
                rw [decide_eq_true q.1, q.2.1, decide_eq_true q.2.2] at this
                cases this))
              go_wp2
              refine wp_goto ?_
              show (0 : Nat) = 0 ∧ PtJ w l _ _
              exact ⟨rfl, HJ, HL, HPic, _, _, _, _, _, _, _, _, _, _, _, _, _, _, _, _, _, _, _, _, _, _, _, _, _, _, _, _, _, _, _, _, _, _, _, _, _, _, _, _, _, _, _, _, _, _, _, _, _, _, _, rfl⟩
            case true =>
              have hq := unhideR HQ
              simp only [Bool.and_eq_true, decide_eq_true_eq] at hq
              obtain ⟨⟨hq0, hq1⟩, hq2⟩ := hq
              have HV := hideR (cm_yes (unhideR HCm) hq0 hq1 hq2)
              have h6 := ((unhideR HCm).ok.pos hq1).2.2
              have hsz := crd_size (unhideR HR4).crd (unhideR HCm).ok
              have hle := (show LS.length = s.cards.length by rw [← (unhideR HR4).crd, List.length_map])
              obtain ⟨adc, capc, e, hcam⟩ := (unhideR HR4).cards.came (fun c hc => ⟨by have := (hsz c hc).1; omega, by have := (hsz c hc).2; omega⟩)
              subst e
              have hcapc : LS.length ≤ capc := own_cap (unhideR HR4).cards
              obtain ⟨kc, rfl⟩ := own_first (unhideR HR4).cards (by omega)
              obtain ⟨adr, hadr⟩ : ∃ adr : Option Addr, (if capc = 6 then (some ⟨kc, 0, none⟩ : Option Addr) else some ⟨kc, 12, none⟩) = adr := ⟨_, rfl⟩
              have i6 : (6 : Int) ≤ (LS.length : Int) := by omega
              have c1 := (unhideR HR4).rd.tail 1 _ rfl
              have c3 := (unhideR HR4).rd.tail 3 _ rfl
              have c4 := (unhideR HR4).rd.tail 4 _ rfl
              have c5 := (unhideR HR4).rd.tail 5 _ rfl
              simp only [Nat.reduceAdd] at c1 c3 c4 c5
              obtain ⟨y0, y1, y2⟩ := pic_three (unhideR HPic)
              obtain ⟨o0, o1, o2⟩ := pic_open (unhideR HPic)
              have HLd := hideR (show (LS.drop 6).length = LS.length - 6 by rw [List.length_drop])
              have HCrd : HeldR ((LS.drop 6).map CrdS.crd = s.cards.drop 6) := hideR (by rw [List.map_drop, (unhideR HR4).crd])
              have HSz2 := hideR hsz
              have HCp := hideR hcapc
              clear hcam hsz hcapc hq0 hq1 hq2 h6 hle
              have HX : HeldR (ReadPost a l w (.returned (.tuple #[.agg #[.int .i64 (s.W : Nat), .int .i64 (s.H : Nat), .slice adp s.C.length capp], .slice adr (LS.length - 6) (capc - 6), .nilIface])) ((((W4.setCell ⟨w.heap.size, 0, none⟩ (.int .i64 (s.W : Nat))).setCell ⟨w.heap.size, 1, none⟩ (.int .i64 (s.H : Nat))).setCell ⟨w.heap.size, 2, none⟩ (.slice adp s.C.length capp)).drew)) := by
                have ne1 := low_ne (unhideR HR4).cards (show w.heap.size < w.heap.size + 1 by omega)
                have ne2 := low_ne (unhideR HR4).cnt (show w.heap.size < w.heap.size + 1 by omega)
                have hcW : COwn ((((W4.setCell ⟨w.heap.size, 0, none⟩ (.int .i64 (s.W : Nat))).setCell ⟨w.heap.size, 1, none⟩ (.int .i64 (s.H : Nat))).setCell ⟨w.heap.size, 2, none⟩ (.slice adp s.C.length capp)).drew) (w.heap.size + 1) (.slice (some ⟨kc, 0, none⟩) LS.length capc) LS := World.ownsRow.drew (own_other (own_other (own_other (unhideR HR4).cards ne1) ne1) ne1)
                have hnW : NOwn ((((W4.setCell ⟨w.heap.size, 0, none⟩ (.int .i64 (s.W : Nat))).setCell ⟨w.heap.size, 1, none⟩ (.int .i64 (s.H : Nat))).setCell ⟨w.heap.size, 2, none⟩ (.slice adp s.C.length capp)).drew) (w.heap.size + 1) (.slice adp s.C.length capp) s.C := World.ownsRow.drew (own_other (own_other (own_other (unhideR HR4).cnt ne2) ne2) ne2)
                obtain ⟨ad9, cap9, e9, h9⟩ := own_typed hnW
                injection e9 with e9
                subst e9
                obtain ⟨ad8, cap8, e8, h8⟩ := hcW.came (fun c hc => ⟨by have := (unhideR HSz2 c hc).1; omega, by have := (unhideR HSz2 c hc).2; omega⟩)
                injection e8 with e8
                subst e8
                refine hideR ⟨LS.drop 6, adp, adr, capp, capc - 6, .nilIface, ?_, ?_, ?_, ?_, ?_, ?_⟩
                · rw [unhideR HV, unhideR HLd]
                · rw [unhideR HV]; exact unhideR HCrd
                · rw [unhideR HV]; exact .inl ⟨rfl, rfl⟩
                · rw [unhideR HV]; exact h9
                · rw [← hadr]
                  split
                  · exact ⟨fun j hj => absurd hj (by rw [List.length_drop]; have := unhideR HCp; omega)⟩
                  · have := drop_came h8 6
                    rwa [Nat.zero_add] at this
                · exact below_drewN ((((unhideR HL).setCell (by simp) _).setCell (by simp) _).setCell (by simp) _) 1
              have h3 : ((((W4.setCell ⟨w.heap.size, 0, none⟩ (.int .i64 (s.W : Nat))).setCell ⟨w.heap.size, 1, none⟩ (.int .i64 (s.H : Nat))).setCell ⟨w.heap.size, 2, none⟩ (.slice adp s.C.length capp)).drew).heap[w.heap.size]? = some (.cells #[.int .i64 (s.W : Nat), .int .i64 (s.H : Nat), .slice adp s.C.length capp] 33) := three_setR (unhideR HPic)
              clear HV
              go_wp2_with fail
              go_region
              generalize (((W4.setCell ⟨w.heap.size, 0, none⟩ (.int .i64 (s.W : Nat))).setCell ⟨w.heap.size, 1, none⟩ (.int .i64 (s.H : Nat))).setCell ⟨w.heap.size, 2, none⟩ (.slice adp s.C.length capp)).drew = uf at *
              obtain ⟨r0, r1, r2⟩ := pic_three h3
              go_wp2
              try simp only [Exit.jump]
              simp [bodyPost, results, Tryz.results13, go_sem, r0, r1, r2]
              exact unhideR HX
  · rintro a' w' ⟨HJ, HL, HPic, u0, u1, u2, u3, u5, u6, u7, u8, u9, u10, u11, u12, u13, u14, u15, u16, u17, u18, u19, u20, u21, u22, u23, u24, u25, u26, u27, u28, u29, u30, u31, u32, u33, u34, u35, u36, u37, u38, u39, u40, u41, u42, u43, u44, u45, u46, u47, u48, u49, u50, u51, rfl⟩
    have HV : HeldR (readV l = ((((7 : Nat) + 1 : Nat) : Int), pic0, []) ∧ 7 < 10) := hideR ⟨unhideR HJ, by decide⟩
    clear HJ
    go_wp2_with fail
    have hS9 := (unhideR HS).below (unhideR HL)
    have g9 := hS9.s.g7
    have hlt := cell_lt (unhideR HS).s.g7
    have n1 : ¬ 1 = w.heap.size := by omega
    have n2 : ¬ w.heap.size = 1 := by omega
    have HX : HeldR (ReadPost a l w (.returned (.tuple #[.agg #[.int .i64 0, .int .i64 0, .slice none 0 0], .slice none 0 0, .iface 180 (.pointer (some (a 7)))])) ((((w'.setCell ⟨w.heap.size, 0, none⟩ (.int .i64 0)).setCell ⟨w.heap.size, 1, none⟩ (.int .i64 0)).setCell ⟨w.heap.size, 2, none⟩ (.slice none 0 0)).drew)) := hideR (read_bad (unhideR HV) (below_drewN ((((unhideR HL).setCell (by simp) _).setCell (by simp) _).setCell (by simp) _) 1))
    have h3 : ((((w'.setCell ⟨w.heap.size, 0, none⟩ (.int .i64 0)).setCell ⟨w.heap.size, 1, none⟩ (.int .i64 0)).setCell ⟨w.heap.size, 2, none⟩ (.slice none 0 0)).drew).heap[w.heap.size]? = some (.cells #[.int .i64 0, .int .i64 0, .slice none 0 0] 33) := three_setR (unhideR HPic)
    obtain ⟨q0, q1, q2⟩ := pic_three (unhideR HPic)
    obtain ⟨o0, o1, o2⟩ := pic_open (unhideR HPic)
    clear hS9 hlt
    go_region
    generalize (((w'.setCell ⟨w.heap.size, 0, none⟩ (.int .i64 0)).setCell ⟨w.heap.size, 1, none⟩ (.int .i64 0)).setCell ⟨w.heap.size, 2, none⟩ (.slice none 0 0)).drew = uf at *
    obtain ⟨r0, r1, r2⟩ := pic_three h3
    go_wp2
    try simp only [Exit.jump]
    simp [bodyPost, results, Tryz.results13, go_sem, r0, r1, r2]
    exact unhideR HX
end Go.Proofs.YtncbmkflilcdgaiGreatDoor
