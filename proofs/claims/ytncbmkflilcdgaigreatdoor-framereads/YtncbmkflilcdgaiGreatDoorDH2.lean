/-
  The program's reading: sides, equal cards.
-/
import Derived.Test.YtncbmkflilcdgaiGreatDoorDH1
import Derived.Test.YtncbmkflilcdgaiGreatDoorFfW
import Derived.Laws.StructEq
namespace Go.Proofs.YtncbmkflilcdgaiGreatDoor
open Go Go.RowKit

set_option maxRecDepth 20000 in
theorem atoi_dec : ∀ n : Fin 257, Lib.atoiAll (dec3 n) = .ok ((n : Nat) : Int) := by decide +kernel
def SdPost (s : ByteArray) (w : World) (e : Ending) (w' : World) : Prop := ∃ r : Nat, e = .returned (.int .i64 (r : Nat)) ∧ Below w.heap.size w w' ∧ r ≤ 256 ∧ ∀ n : Nat, 1 ≤ n → n ≤ 256 → s.data.toList = dec3 n → r = n
set_option maxRecDepth 100000 in
theorem side_any {a : Nat → Addr} {w : World} (s : ByteArray) (hs : s.size ≤ 1000) (hS : SentsF w a) : Calls Tryz.prog 78 #[.string s] w (SdPost s w) := by
  have hdec : ∀ n : Nat, n ≤ 256 → s.data.toList = dec3 n → Lib.atoiAll s.data.toList = .ok ((n : Nat) : Int) := fun n hn e => by
    rw [e]
    exact atoi_dec ⟨n, by omega⟩
  have HD := hideR hdec
  clear hdec
  have bad : (∀ v, Lib.atoiAll s.data.toList ≠ .ok v) → ∀ u, Below w.heap.size w u → SdPost s w (.returned (.int .i64 0)) u := fun h u k => ⟨0, rfl, k, by omega, fun n h1 h2 e => absurd (unhideR HD n h2 e) (h _)⟩
  have HBad := hideR bad
  clear bad
  cases hA : Lib.atoiAll s.data.toList with
  | ok v =>
    have h := Tryz.strconv_Atoi_ok s (by omega) v hA w
    have HX : HeldR (∀ u, Below w.heap.size w u → SdPost s w (.returned (.int .i64 (if v < 1 ∨ 256 < v then 0 else v))) u) := by
      refine hideR (fun u k => ?_)
      split
      · rename_i hv
        exact ⟨0, rfl, k, by omega, fun n h1 h2 e => by
          have := unhideR HD n h2 e
          rw [hA] at this
          injection this with this
          omega⟩
      · rename_i hv
        exact ⟨v.toNat, by rw [Int.toNat_of_nonneg (by omega)], k, by omega, fun n h1 h2 e => by
          have := unhideR HD n h2 e
          rw [hA] at this
          injection this with this
          omega⟩
    clear hA HBad
    go_enter Tryz.func78, Tryz.ntmps78
    go_wp2_with fail
    refine h.mono ?_
    rintro e u ⟨rfl, hu⟩
    have HB : HeldR (Below w.heap.size w u) := by
      refine hideR ?_
      rcases hu with rfl | ⟨t, rfl⟩
      · exact Below.refl _ _
      · exact Lib.bytesWorld_below _ _ _
    have hX := unhideR HX u (unhideR HB)
    clear h hu HX
    by_cases h1 : v < 1
    · rw [if_pos (.inl h1)] at hX
      have HF := hideR hX
      clear hX
      go_wp2
      go_ret
      exact unhideR HF
    · by_cases h2 : 256 < v
      · rw [if_pos (.inr h2)] at hX
        have HF := hideR hX
        clear hX
        go_wp2
        go_ret
        exact unhideR HF
      · rw [if_neg (by omega)] at hX
        have HF := hideR hX
        clear hX
        go_wp2
        go_ret
        exact unhideR HF
  | «syntax» =>
    obtain ⟨tp, pp, hv⟩ := hS.syn
    have h := Tryz.strconv_Atoi_syntax_var s (by omega) hA tp pp w hv
    have HX := hideR (unhideR HBad (fun v q => by rw [hA] at q; cases q))
    clear hA HBad hS
    go_enter Tryz.func78, Tryz.ntmps78
    go_wp2_with fail
    refine h.mono ?_
    rintro e u ⟨N, rfl, _, _, ku⟩
    have HF := hideR (unhideR HX u ku)
    clear h ku HX
    go_wp2
    go_ret
    exact unhideR HF
  | range =>
    obtain ⟨tp, pp, hv⟩ := hS.rng
    have h := Tryz.strconv_Atoi_range_var s (by omega) hA tp pp w hv
    have HX := hideR (unhideR HBad (fun v q => by rw [hA] at q; cases q))
    clear hA HBad hS
    go_enter Tryz.func78, Tryz.ntmps78
    go_wp2_with fail
    refine h.mono ?_
    rintro e u ⟨N, rfl, _, _, ku⟩
    have HF := hideR (unhideR HX u ku)
    clear h ku HX
    go_wp2
    go_ret
    exact unhideR HF
/-! equal cards -/
theorem neq_card (n1 v1 n2 v2 : ByteArray) (u : World) : (binOp .neq 57 (.agg #[.string n1, .string v1]) (.agg #[.string n2, .string v2])).run Tryz.prog u = .ok (.bool (!((n1.toList == n2.toList) && (v1.toList == v2.toList)))) u := by
  have hf : Tryz.prog.underlying 57 = some (.struct (Tryz.prog.fieldsOf 57)) := by kernel_rfl
  have hp : Tryz.prog.stoodInHeld 57 = false := by kernel_rfl
  rw [run_neq_struct, show (10000 : Nat) = 9999 + 1 from rfl, run_equalIn_agg u 9999 57 _ _ hf hp]
  have hm : (Tryz.prog.fieldsOf 57).toList.map (fun f => (f.name, f.type, f.offset)) = [("Name", 9, 0), ("Value", 9, 1)] := by kernel_rfl
  have ha : ∀ v, (isAgg 9).run Tryz.prog v = .ok false v := fun v => by simp [isAgg, run_underlying Tryz.underlying9]
  clear hf hp
  generalize (Tryz.prog.fieldsOf 57).toList = fs at *
  rcases fs with _ | ⟨f1, _ | ⟨f2, _ | ⟨f3, fs⟩⟩⟩
  · simp at hm
  · simp at hm
  · simp only [List.map_cons, List.map_nil, List.cons.injEq, Prod.mk.injEq, and_true] at hm
    obtain ⟨⟨a1, a2, a3⟩, b1, b2, b3⟩ := hm
    have p1 : ∀ (x y : Value) v, (part 9 #[x, y] 0).run Tryz.prog v = .ok x v := fun x y v => by simp [part, ha, go_sem]
    have p2 : ∀ (x y : Value) v, (part 9 #[x, y] 1).run Tryz.prog v = .ok y v := fun x y v => by simp [part, ha, go_sem]
    have q1 := run_equalIn_string (P := Tryz.prog) u 9998 9 n1 n2 Tryz.underlying9
    have q2 := run_equalIn_string (P := Tryz.prog) u 9998 9 v1 v2 Tryz.underlying9
    simp only [Op.eqFields, a1, a2, a3, b1, b2, b3]
    rw [if_pos (by decide), if_pos (by decide)]
    simp only [Sem.run_bind, p1, Result.andThen_ok]
    rw [show (9999 : Nat) = 9998 + 1 from rfl, q1]
    simp only [Result.andThen_ok]
    cases (n1.toList == n2.toList)
    · simp
    · simp only [Bool.not_true, Bool.false_eq_true, if_false, Sem.run_bind, p2, Result.andThen_ok]
      rw [q2]
      simp only [Result.andThen_ok]
      cases (v1.toList == v2.toList)
      · simp
      · simp
  · simp at hm
def EqPost (q : Bool) (w : World) (e : Ending) (w' : World) : Prop := e = .returned (.bool q) ∧ Below w.heap.size w w'
set_option maxRecDepth 100000 in
set_option maxHeartbeats 1600000 in
theorem equal_any {w : World} {a1 a2 : Option Addr} {c1 c2 m : Nat} {A B : List CrdS} (h1 : CCame w a1 A) (h2 : CCame w a2 B) (l1 : A.length = m) (l2 : B.length = m) (hl : m ≤ 1000) :
    Calls Tryz.prog 79 #[.slice a1 m c1, .slice a2 m c2] w (EqPost (decide (A.map CrdS.crd = B.map CrdS.crd)) w) := by
  have H1 := hideR h1
  have H2 := hideR h2
  have L1 := hideR l1
  have L2 := hideR l2
  generalize hq : decide (A.map CrdS.crd = B.map CrdS.crd) = q
  have HQ := hideR hq
  clear h1 h2 l1 l2 hq
  have t0 : ((m : Int) != (m : Int)) = false := by simp
  go_enter Tryz.func79, Tryz.ntmps79
  go_wp2
  go_loopw [13] (fun kv wl => ∃ k : Nat, k ≤ m ∧ kv = .int .i64 (k : Nat) ∧ HeldR (∀ j, j < k → (A.getD j crdS0) = (B.getD j crdS0)) ∧ HeldR (Below w.heap.size w wl)) (fun kv _ => m + 1 - (intOf kv).toNat)
  case atStart => exact ⟨0, by omega, rfl, hideR (fun j hj => absurd hj (Nat.not_lt_zero j)), hideR (Below.refl _ _)⟩
  case round =>
    obtain ⟨k, hk, rfl, HK, HW⟩ := hrel
    by_cases hlt : k < m
    · obtain ⟨b1, o1, rfl, _, x1, x2, _⟩ := ((unhideR H1).below (unhideR HW)).at_ k (by rw [unhideR L1]; exact hlt)
      obtain ⟨b2, o2, rfl, _, y1, y2, _⟩ := ((unhideR H2).below (unhideR HW)).at_ k (by rw [unhideR L2]; exact hlt)
      generalize hA : A.getD k crdS0 = cA at *
      generalize hB : B.getD k crdS0 = cB at *
      obtain ⟨n1, v1⟩ := cA
      obtain ⟨n2, v2⟩ := cB
      simp only at x1 x2 y1 y2
      have hne := fun u => neq_card n1 v1 n2 v2 u
      obtain ⟨d, hd⟩ : ∃ d, (!((n1.toList == n2.toList) && (v1.toList == v2.toList))) = d := ⟨_, rfl⟩
      rw [hd] at hne
      have HD := hideR hd
      clear hd
      go_wp2_with fail
      refine wp_region_lets [(· = .slice (some ⟨b1, o1, none⟩) m c1),
        (· = .int .i64 (k : Nat)),
        (· = .pointer (some ⟨b1, o1 + k * 2, none⟩)),
        (· = .agg #[.string n1, .string v1]),
        (· = .slice (some ⟨b2, o2, none⟩) m c2),
        (· = .int .i64 (k : Nat)),
        (· = .pointer (some ⟨b2, o2 + k * 2, none⟩)),
        (· = .agg #[.string n2, .string v2]),
        (· = .bool d)] (by kernel_rfl) (by kernel_rfl) ?_
      refine lexL_step (fun K hK => ⟨by kernel_rfl, ⟨_, rfl⟩, fun n => ?_, fun v hv => ?_⟩)
      · go_simp
        exact lUpon_one
      subst hv
      go_simp
      refine hK _ ?_
      clear hK K
      refine lexL_step (fun K hK => ⟨by kernel_rfl, ⟨_, rfl⟩, fun n => ?_, fun v hv => ?_⟩)
      · go_simp
        exact lUpon_one
      subst hv
      go_simp
      refine hK _ ?_
      clear hK K
      refine lexL_step (fun K hK => ⟨by kernel_rfl, ⟨_, rfl⟩, fun n => ?_, fun v hv => ?_⟩)
      · go_simp
        exact lUpon_one
      subst hv
      go_simp
      refine hK _ ?_
      clear hK K
      refine lexL_step (fun K hK => ⟨by kernel_rfl, ⟨_, rfl⟩, fun n => ?_, fun v hv => ?_⟩)
      · go_simp
        exact lUpon_one
      subst hv
      go_simp
      refine hK _ ?_
      clear hK K
      refine lexL_step (fun K hK => ⟨by kernel_rfl, ⟨_, rfl⟩, fun n => ?_, fun v hv => ?_⟩)
      · go_simp
        exact lUpon_one
      subst hv
      go_simp
      refine hK _ ?_
      clear hK K
      refine lexL_step (fun K hK => ⟨by kernel_rfl, ⟨_, rfl⟩, fun n => ?_, fun v hv => ?_⟩)
      · go_simp
        exact lUpon_one
      subst hv
      go_simp
      refine hK _ ?_
      clear hK K
      refine lexL_step (fun K hK => ⟨by kernel_rfl, ⟨_, rfl⟩, fun n => ?_, fun v hv => ?_⟩)
      · go_simp
        exact lUpon_one
      subst hv
      go_simp
      refine hK _ ?_
      clear hK K
      refine lexL_step (fun K hK => ⟨by kernel_rfl, ⟨_, rfl⟩, fun n => ?_, fun v hv => ?_⟩)
      · go_simp
        exact lUpon_one
      subst hv
      go_simp
      refine hK _ ?_
      clear hK K
      refine lexL_step (fun K hK => ⟨by kernel_rfl, ⟨_, rfl⟩, fun n => ?_, fun v hv => ?_⟩)
      · go_simp
        exact lUpon_one
      subst hv
      go_simp
      refine hK _ ?_
      clear hK K
      refine lexL_end ?_
      intro n9
      replace HW := hideR (below_go (unhideR HW) (drawn_below _ n9))
      clear hne x1 x2 y1 y2
      cases d
      case true =>
        obtain rfl : false = q := by
          rw [← unhideR HQ]
          refine (decide_eq_false (fun e => ?_)).symm
          have e2 := crd_inj e
          rw [e2, hB] at hA
          injection hA with h1 h2
          have := unhideR HD
          rw [h1, h2] at this
          simp at this
        go_wp2
        go_ret
        exact ⟨rfl, unhideR HW⟩
      case false =>
        have HK2 : HeldR (∀ j, j < k + 1 → (A.getD j crdS0) = (B.getD j crdS0)) := by
          refine hideR (fun j hj => ?_)
          by_cases ej : j = k
          · rw [ej, hA, hB]
            have := unhideR HD
            simp only [Bool.not_eq_false', Bool.and_eq_true, beq_iff_eq, ByteArray.toList_eq] at this
            rw [show n1 = n2 from bytes_same this.1, show v1 = v2 from bytes_same this.2]
          · exact (unhideR HK) j (by omega)
        clear HK HD hA hB
        go_wp2
        exact ⟨⟨k + 1, by omega, by go_num, HK2, HW⟩, by simp [intOf]; omega⟩
    · obtain rfl : k = m := by omega
      obtain rfl : true = q := by
        rw [← unhideR HQ]
        refine (decide_eq_true ?_).symm
        congr 1
        refine List.ext_getElem (by rw [unhideR L1, unhideR L2]) (fun i h1 h2 => ?_)
        have := (unhideR HK) i (by rw [← unhideR L1]; exact h1)
        simpa [List.getD, List.getElem?_eq_getElem h1, List.getElem?_eq_getElem h2] using this
      go_wp2
      go_ret
      exact ⟨rfl, unhideR HW⟩
end Go.Proofs.YtncbmkflilcdgaiGreatDoor
