/-
  The document's files: which cards may be written, by contract.
-/
import Derived.Test.YtncbmkflilcdgaiGreatDoorFfRow
import Derived.Laws.Strings
import Derived.LoopN
import Derived.Deep.CutRange
namespace Go.Proofs.YtncbmkflilcdgaiGreatDoor
open Go Go.RowKit

structure CrdS where
  name : ByteArray
  value : ByteArray
def crdS0 : CrdS := ⟨ByteArray.empty, ByteArray.empty⟩
def CrdS.crd (c : CrdS) : Crd := ⟨c.name.data.toList, c.value.data.toList⟩
/-- cards that came in. -/
structure CCame (w : World) (ad : Option Addr) (L : List CrdS) : Prop where
  at_ : ∀ k, k < L.length → ∃ b off, ad = some ⟨b, off, none⟩ ∧ b < w.heap.size ∧ w.cell? ⟨b, off + k * 2, none⟩ = some (.string (L.getD k crdS0).name) ∧ w.cell? ⟨b, off + k * 2 + 1, none⟩ = some (.string (L.getD k crdS0).value) ∧ (L.getD k crdS0).name.size ≤ 140737488355328 ∧ (L.getD k crdS0).value.size ≤ 140737488355328
theorem CCame.below {w v : World} {ad : Option Addr} {L : List CrdS} (h : CCame w ad L) (k : Below w.heap.size w v) : CCame v ad L := ⟨fun j hj => by
  obtain ⟨b, off, e, hb, h1, h2, h3⟩ := h.at_ j hj
  exact ⟨b, off, e, Nat.lt_of_lt_of_le hb k.size, (k.cell (p := ⟨b, off + j * 2, none⟩) hb).trans h1, (k.cell (p := ⟨b, off + j * 2 + 1, none⟩) hb).trans h2, h3⟩⟩
theorem head_last (v : ByteArray) (h : 0 < v.size) : v.data.toList.head? = some (v.data.toList.getD 0 0) ∧ v.data.toList.getLast? = some (v.data.toList.getD (v.size - 1) 0) := by
  have hl : v.data.toList.length = v.size := Array.length_toList
  constructor
  · rw [List.head?_eq_getElem?, List.getD_eq_getElem?_getD, List.getElem?_eq_getElem (by omega)]
    rfl
  · rw [List.getLast?_eq_getElem?, hl, List.getD_eq_getElem?_getD, List.getElem?_eq_getElem (by omega)]
    rfl
theorem valC_in {c : UInt8} (h1 : 32 ≤ c.toNat) (h2 : c.toNat ≤ 126) : valC c = true := by
  unfold valC
  simp only [Bool.and_eq_true, decide_eq_true_eq, UInt8.le_iff_toNat_le]
  exact ⟨h1, h2⟩
theorem valC_out {c : UInt8} (h : c.toNat < 32 ∨ 126 < c.toNat) : valC c = false := by
  cases e : valC c
  · rfl
  · unfold valC at e
    simp only [Bool.and_eq_true, decide_eq_true_eq, UInt8.le_iff_toNat_le] at e
    have a : (32 : UInt8).toNat = 32 := rfl
    have b : (126 : UInt8).toNat = 126 := rfl
    omega
theorem val_at {v : ByteArray} {k : Nat} (hk : k < v.size) (h : valC (v.data.toList.getD k 0) = false) : v.data.toList.all valC = false := by
  refine (Bool.not_eq_true _).mp (fun q => ?_)
  have hl : k < v.data.toList.length := by rw [Array.length_toList]; exact hk
  have := List.all_eq_true.1 q _ (List.getElem_mem hl)
  rw [List.getD_eq_getElem?_getD, List.getElem?_eq_getElem hl] at h
  rw [show ((some v.data.toList[k]).getD 0) = v.data.toList[k] from rfl, this] at h
  cases h
theorem crd_at {L : List CrdS} {i : Nat} (hi : i < L.length) : (L.map CrdS.crd).getD i crd0 = (L.getD i crdS0).crd := by
  rw [List.getD_eq_getElem?_getD, List.getElem?_map, List.getElem?_eq_getElem hi, List.getD_eq_getElem?_getD, List.getElem?_eq_getElem hi]
  rfl
theorem names_fine {L : List CrdS} (h : ∀ j, j < L.length → nameOk (L.map CrdS.crd) j (L.getD j crdS0).name.data.toList = true) : ¬ (List.range (L.map CrdS.crd).length).all (fun i => nameOk (L.map CrdS.crd) i ((L.map CrdS.crd).getD i crd0).name) = false := by
  rw [Bool.not_eq_false, List.all_eq_true]
  intro i hi
  have hi' : i < L.length := by simpa using hi
  rw [crd_at hi']
  exact h i hi'
theorem vals_bad {L : List CrdS} {i : Nat} (hl : ¬ 100 < L.length) (h : ∀ j, j < L.length → nameOk (L.map CrdS.crd) j (L.getD j crdS0).name.data.toList = true) (hi : i < L.length) (hv : valOk (L.getD i crdS0).value.data.toList = false) : cardsE (L.map CrdS.crd) = 1 := by
  unfold cardsE
  rw [if_neg (by rw [List.length_map]; exact hl), if_neg (names_fine h), if_pos]
  refine (Bool.not_eq_true _).mp (fun k => ?_)
  have hm : (L.getD i crdS0).crd ∈ L.map CrdS.crd := by
    refine List.mem_map.2 ⟨_, ?_, rfl⟩
    rw [List.getD_eq_getElem?_getD, List.getElem?_eq_getElem hi]
    exact List.getElem_mem hi
  have := List.all_eq_true.1 k _ hm
  rw [show (L.getD i crdS0).crd.value = (L.getD i crdS0).value.data.toList from rfl, hv] at this
  cases this
theorem cards_fine {L : List CrdS} (hl : ¬ 100 < L.length) (h : ∀ j, j < L.length → nameOk (L.map CrdS.crd) j (L.getD j crdS0).name.data.toList = true) (hv : ∀ j, j < L.length → valOk (L.getD j crdS0).value.data.toList = true) : cardsE (L.map CrdS.crd) = 0 := by
  unfold cardsE
  rw [if_neg (by rw [List.length_map]; exact hl), if_neg (names_fine h), if_neg]
  rw [Bool.not_eq_false, List.all_eq_true]
  intro c hc
  obtain ⟨d, hd, rfl⟩ := List.mem_map.1 hc
  obtain ⟨i, hi, rfl⟩ := List.getElem_of_mem hd
  have := hv i hi
  rw [List.getD_eq_getElem?_getD, List.getElem?_eq_getElem hi] at this
  exact this
theorem own_next {j : Nat} (hj : j < 7) : ownNames.take (j + 1) = ownNames.take j ++ [ownNames.getD j []] := by
  rcases j with _ | _ | _ | _ | _ | _ | _ | j
  all_goals first | rfl | omega
theorem card_next {L : List CrdS} {m : Nat} (hm : m < L.length) {f : Bs → Bool} : ((L.map CrdS.crd).take (m + 1)).all (fun c => f c.name) = (((L.map CrdS.crd).take m).all (fun c => f c.name) && f (L.getD m crdS0).name.data.toList) := by
  rw [List.take_add_one, List.all_append, List.getElem?_map, List.getElem?_eq_getElem hm, List.getD_eq_getElem?_getD, List.getElem?_eq_getElem hm]
  simp [CrdS.crd]
theorem names_bad {L : List CrdS} {i : Nat} (hl : ¬ 100 < L.length) (hi : i < L.length) (h : nameOk (L.map CrdS.crd) i (L.getD i crdS0).name.data.toList = false) : cardsE (L.map CrdS.crd) = 10 := by
  unfold cardsE
  rw [List.length_map, if_neg hl, if_pos]
  refine (Bool.not_eq_true _).mp (fun k => ?_)
  have := List.all_eq_true.1 k i (List.mem_range.2 hi)
  have e : ((L.map CrdS.crd).getD i crd0).name = (L.getD i crdS0).name.data.toList := by
    rw [List.getD_eq_getElem?_getD, List.getElem?_map, List.getElem?_eq_getElem hi, List.getD_eq_getElem?_getD, List.getElem?_eq_getElem hi]
    rfl
  rw [e, h] at this
  cases this
theorem own_cell {w : World} {g : Nat} (h : w.heap[g]? = some (.cells #[.string ⟨#[83, 73, 77, 80, 76, 69]⟩, .string ⟨#[66, 73, 84, 80, 73, 88]⟩, .string ⟨#[78, 65, 88, 73, 83]⟩, .string ⟨#[78, 65, 88, 73, 83, 49]⟩, .string ⟨#[78, 65, 88, 73, 83, 50]⟩, .string ⟨#[66, 90, 69, 82, 79]⟩, .string ⟨#[69, 78, 68]⟩] 9)) {j : Nat} (hj : j < 7) : ∃ o : ByteArray, w.cell? ⟨g, j, none⟩ = some (.string o) ∧ o.data.toList = ownNames.getD j [] := by
  have hc := (cells_at h j hj).1
  rcases j with _ | _ | _ | _ | _ | _ | _ | j
  · exact ⟨_, hc, rfl⟩
  · exact ⟨_, hc, rfl⟩
  · exact ⟨_, hc, rfl⟩
  · exact ⟨_, hc, rfl⟩
  · exact ⟨_, hc, rfl⟩
  · exact ⟨_, hc, rfl⟩
  · exact ⟨_, hc, rfl⟩
  · omega
theorem str_at (s : ByteArray) {k : Nat} (hk : k < s.size) (u : World) : (Instr.index 9 (.string s) (.int .i64 (k : Nat))).run Tryz.prog u = .ok (.int .u8 ((s.data.toList.getD k 0).toNat : Nat)) u := by
  rw [run_index_string u 9 s .i64 (k : Nat) Tryz.underlying9, dif_pos ⟨by omega, by omega⟩]
  congr 3
  rw [List.getD_eq_getElem?_getD, List.getElem?_eq_getElem (by rw [Array.length_toList]; exact hk)]
  rfl
theorem take_next (s : ByteArray) {k : Nat} (hk : k < s.size) : s.data.toList.take (k + 1) = s.data.toList.take k ++ [s.data.toList.getD k 0] := by
  have hl : k < s.data.toList.length := by rw [Array.length_toList]; exact hk
  rw [List.take_add_one, List.getD_eq_getElem?_getD, List.getElem?_eq_getElem hl]
  rfl
theorem nameC_iff (c : UInt8) : nameC c = true ↔ (c.toNat = 45 ∨ (48 ≤ c.toNat ∧ c.toNat ≤ 57) ∨ (65 ≤ c.toNat ∧ c.toNat ≤ 90) ∨ c.toNat = 95) := by
  unfold nameC
  simp only [Bool.or_eq_true, Bool.and_eq_true, decide_eq_true_eq, beq_iff_eq, UInt8.le_iff_toNat_le, ← UInt8.toNat_inj]
  rw [show (65 : UInt8).toNat = 65 from rfl, show (90 : UInt8).toNat = 90 from rfl, show (48 : UInt8).toNat = 48 from rfl, show (57 : UInt8).toNat = 57 from rfl, show (45 : UInt8).toNat = 45 from rfl, show (95 : UInt8).toNat = 95 from rfl]
  omega
theorem name_true {c : UInt8} (h : c.toNat = 45 ∨ (48 ≤ c.toNat ∧ c.toNat ≤ 57) ∨ (65 ≤ c.toNat ∧ c.toNat ≤ 90) ∨ c.toNat = 95) : nameC c = true := (nameC_iff c).2 h
theorem name_false {c : UInt8} (h : ¬ (c.toNat = 45 ∨ (48 ≤ c.toNat ∧ c.toNat ≤ 57) ∨ (65 ≤ c.toNat ∧ c.toNat ≤ 90) ∨ c.toNat = 95)) : nameC c = false := by
  cases e : nameC c
  · rfl
  · exact absurd ((nameC_iff c).1 e) h
def OwnRow : Obj := .cells #[.string ⟨#[83, 73, 77, 80, 76, 69]⟩, .string ⟨#[66, 73, 84, 80, 73, 88]⟩, .string ⟨#[78, 65, 88, 73, 83]⟩, .string ⟨#[78, 65, 88, 73, 83, 49]⟩, .string ⟨#[78, 65, 88, 73, 83, 50]⟩, .string ⟨#[66, 90, 69, 82, 79]⟩, .string ⟨#[69, 78, 68]⟩] 9
def CarPost (L : List CrdS) (w : World) (e : Ending) (w' : World) : Prop := e = .returned (.int .i64 (cardsE (L.map CrdS.crd))) ∧ Below w.heap.size w w'
set_option maxRecDepth 100000 in
set_option maxHeartbeats 1600000 in
theorem cardsError_any {w : World} {ad : Option Addr} {cap : Nat} {L : List CrdS} (h : CCame w ad L) (hn : L.length ≤ 1000000) :
    Calls Tryz.prog 21 #[.slice ad L.length cap] w (CarPost L w) := by
  by_cases hl : 100 < L.length
  · have HF : HeldR (CarPost L w (.returned (.int .i64 2)) w) := by
      refine ⟨?_, Below.refl _ _⟩
      unfold cardsE
      rw [List.length_map, if_pos hl]
    have t1 : decide ((100 : Int) < (L.length : Nat)) = true := decide_eq_true (by omega)
    clear h
    go_enter Tryz.func21, Tryz.ntmps21
    go_wp2
    go_ret
    exact unhideR HF
  have t1 : decide ((100 : Int) < (L.length : Nat)) = false := decide_eq_false (by omega)
  have HC := hideR (h.below (below_a w OwnRow))
  have HW := hideR (below_a w OwnRow)
  have HB := hideR (alloc_last w OwnRow)
  clear h
  unfold OwnRow at HC HW HB
  go_enter Tryz.func21, Tryz.ntmps21
  go_wp2
  generalize hW1 : w.alloc _ = W1 at *
  clear hW1 t1
  go_loop [4] (fun iv => ∃ i : Nat, i ≤ L.length ∧ iv = .int .i64 (i : Nat) ∧ HeldR (∀ j, j < i → nameOk (L.map CrdS.crd) j (L.getD j crdS0).name.data.toList = true)) (fun iv => L.length + 1 - (intOf iv).toNat)
  case atStart => exact ⟨0, by omega, rfl, fun j hj => absurd hj (Nat.not_lt_zero j)⟩
  case round =>
    obtain ⟨i, hi, rfl, HN⟩ := hrel
    by_cases hil : i < L.length
    · obtain ⟨b, off, rfl, hb, cn, cv, hs1, hs2⟩ := (unhideR HC).at_ i hil
      generalize hnm : (L.getD i crdS0).name = nm at cn hs1
      have HNM := hideR hnm
      clear hnm cv hs2
      obtain ⟨Q0, hQ0⟩ : ∃ Q0, (decide (1 ≤ nm.data.toList.length) && decide (nm.data.toList.length ≤ 8)) = Q0 := ⟨_, rfl⟩
      have HQ0 := hideR hQ0
      clear hQ0
      have hti : decide ((i : Int) < (L.length : Nat)) = true := decide_eq_true (by omega)
      go_upto_region 8 with fail
      go_cut [6] from 31 to 38 (fun s6 wx => W1 = wx ∧ s6 = .bool Q0)
      case' first =>
        have hsz : nm.data.toList.length = nm.size := Array.length_toList
        have hq := unhideR HQ0
        rw [hsz] at hq
        clear hsz
        by_cases l1 : 1 ≤ nm.size
        · have u1 : decide ((1 : Int) ≤ (nm.size : Nat)) = true := decide_eq_true (by omega)
          rw [decide_eq_true l1, Bool.true_and] at hq
          by_cases l2 : nm.size ≤ 8
          · have u2 : decide ((nm.size : Int) ≤ 8) = true := decide_eq_true (by omega)
            rw [decide_eq_true l2] at hq
            subst hq
            clear l1 l2
            go_wp2_with fail
            go_meet
            exact ⟨rfl, rfl⟩
          · have u2 : decide ((nm.size : Int) ≤ 8) = false := decide_eq_false (by omega)
            rw [decide_eq_false l2] at hq
            subst hq
            clear l1 l2
            go_wp2_with fail
            go_meet
            exact ⟨rfl, rfl⟩
        · have u1 : decide ((1 : Int) ≤ (nm.size : Nat)) = false := decide_eq_false (by omega)
          rw [decide_eq_false l1, Bool.false_and] at hq
          subst hq
          clear l1
          go_wp2_with fail
          go_meet
          exact ⟨rfl, rfl⟩
      obtain ⟨rfl, rfl⟩ := hcut
      go_wp2
      go_loop [6, 7] (fun okv kv => ∃ (k : Nat) (q : Bool), k ≤ nm.size ∧ okv = .bool q ∧ kv = .int .i64 (k : Nat) ∧ HeldR (q = (Q0 && (nm.data.toList.take k).all nameC))) (fun _ kv => nm.size + 1 - (intOf kv).toNat)
      case atStart => exact ⟨0, Q0, by omega, rfl, rfl, by unfold HeldR; rw [List.take_zero]; cases Q0 <;> rfl⟩
      case round =>
        obtain ⟨k, q, hk, rfl, rfl, HQ⟩ := hrel
        by_cases hkl : k < nm.size
        · have hkk : decide ((k : Int) < (nm.size : Nat)) = true := decide_eq_true (by omega)
          have hx := str_at nm hkl
          have HS := hideR (take_next nm hkl)
          generalize nm.data.toList.getD k 0 = c at *
          obtain ⟨e, he⟩ : ∃ e, nameC c = e := ⟨_, rfl⟩
          have HE := hideR he
          clear he
          obtain ⟨e1, he1⟩ : ∃ e1, decide ((65 ≤ c.toNat ∧ c.toNat ≤ 90) ∨ (48 ≤ c.toNat ∧ c.toNat ≤ 57)) = e1 := ⟨_, rfl⟩
          have HE1 := hideR he1
          clear he1
          go_upto_region 13 with fail
          go_cut [9] from 48 to 61 (fun s9 wx => W1 = wx ∧ s9 = .bool e1)
          case' first =>
            have hcl : (c.toNat < 48) ∨ (48 ≤ c.toNat ∧ c.toNat ≤ 57) ∨ (57 < c.toNat ∧ c.toNat < 65) ∨ (65 ≤ c.toNat ∧ c.toNat ≤ 90) ∨ (90 < c.toNat) := by omega
            rcases hcl with hc | hc | hc | hc | hc
            · have hr : e1 = false := by rw [← unhideR HE1]; exact decide_eq_false (by omega)
              subst hr
              have t0 : decide ((65 : Int) ≤ (c.toNat : Int)) = false := decide_eq_false (by omega)
              have t1 : decide ((c.toNat : Int) ≤ 90) = true := decide_eq_true (by omega)
              have t2 : decide ((48 : Int) ≤ (c.toNat : Int)) = false := decide_eq_false (by omega)
              have t3 : decide ((c.toNat : Int) ≤ 57) = true := decide_eq_true (by omega)
              clear hc
              go_wp2_with fail
              go_meet
              exact ⟨rfl, rfl⟩
            · have hr : e1 = true := by rw [← unhideR HE1]; exact decide_eq_true (by omega)
              subst hr
              have t0 : decide ((65 : Int) ≤ (c.toNat : Int)) = false := decide_eq_false (by omega)
              have t1 : decide ((c.toNat : Int) ≤ 90) = true := decide_eq_true (by omega)
              have t2 : decide ((48 : Int) ≤ (c.toNat : Int)) = true := decide_eq_true (by omega)
              have t3 : decide ((c.toNat : Int) ≤ 57) = true := decide_eq_true (by omega)
              clear hc
              go_wp2_with fail
              go_meet
              exact ⟨rfl, rfl⟩
            · have hr : e1 = false := by rw [← unhideR HE1]; exact decide_eq_false (by omega)
              subst hr
              have t0 : decide ((65 : Int) ≤ (c.toNat : Int)) = false := decide_eq_false (by omega)
              have t1 : decide ((c.toNat : Int) ≤ 90) = true := decide_eq_true (by omega)
              have t2 : decide ((48 : Int) ≤ (c.toNat : Int)) = true := decide_eq_true (by omega)
              have t3 : decide ((c.toNat : Int) ≤ 57) = false := decide_eq_false (by omega)
              clear hc
              go_wp2_with fail
              go_meet
              exact ⟨rfl, rfl⟩
            · have hr : e1 = true := by rw [← unhideR HE1]; exact decide_eq_true (by omega)
              subst hr
              have t0 : decide ((65 : Int) ≤ (c.toNat : Int)) = true := decide_eq_true (by omega)
              have t1 : decide ((c.toNat : Int) ≤ 90) = true := decide_eq_true (by omega)
              have t2 : decide ((48 : Int) ≤ (c.toNat : Int)) = true := decide_eq_true (by omega)
              have t3 : decide ((c.toNat : Int) ≤ 57) = false := decide_eq_false (by omega)
              clear hc
              go_wp2_with fail
              go_meet
              exact ⟨rfl, rfl⟩
            · have hr : e1 = false := by rw [← unhideR HE1]; exact decide_eq_false (by omega)
              subst hr
              have t0 : decide ((65 : Int) ≤ (c.toNat : Int)) = true := decide_eq_true (by omega)
              have t1 : decide ((c.toNat : Int) ≤ 90) = false := decide_eq_false (by omega)
              have t2 : decide ((48 : Int) ≤ (c.toNat : Int)) = true := decide_eq_true (by omega)
              have t3 : decide ((c.toNat : Int) ≤ 57) = false := decide_eq_false (by omega)
              clear hc
              go_wp2_with fail
              go_meet
              exact ⟨rfl, rfl⟩
          obtain ⟨rfl, rfl⟩ := hcut
          have HR : HeldR ((q && e) = (Q0 && (nm.data.toList.take (k + 1)).all nameC)) := by unfold HeldR; rw [unhideR HS, List.all_append, ← Bool.and_assoc, ← unhideR HQ, List.all_cons, List.all_nil, unhideR HE, Bool.and_true]
          cases e1
          · have hne := of_decide_eq_false (unhideR HE1)
            by_cases c1 : c.toNat = 45
            · have hr : e = true := by rw [← unhideR HE]; exact name_true (.inl c1)
              subst hr
              have t4 : ((c.toNat : Int) == 45) = true := by rw [c1]; rfl
              clear c1 hne
              cases q
              all_goals
                go_wp2
                exact ⟨⟨k + 1, _, by omega, rfl, by go_num, unhideR HR⟩, by simp [intOf]; omega⟩
            · by_cases c2 : c.toNat = 95
              · have hr : e = true := by rw [← unhideR HE]; exact name_true (.inr (.inr (.inr c2)))
                subst hr
                have t4 : ((c.toNat : Int) == 45) = false := by rw [c2]; rfl
                have t5 : ((c.toNat : Int) == 95) = true := by rw [c2]; rfl
                clear c1 c2 hne
                cases q
                all_goals
                  go_wp2
                  exact ⟨⟨k + 1, _, by omega, rfl, by go_num, unhideR HR⟩, by simp [intOf]; omega⟩
              · have hr : e = false := by rw [← unhideR HE]; exact name_false (by omega)
                subst hr
                have t4 : ((c.toNat : Int) == 45) = false := beq_eq_false_iff_ne.2 (by omega)
                have t5 : ((c.toNat : Int) == 95) = false := beq_eq_false_iff_ne.2 (by omega)
                clear c1 c2 hne
                cases q
                all_goals
                  go_wp2
                  exact ⟨⟨k + 1, _, by omega, rfl, by go_num, unhideR HR⟩, by simp [intOf]; omega⟩
          · have hne := of_decide_eq_true (unhideR HE1)
            have hr : e = true := by rw [← unhideR HE]; exact name_true (by omega)
            subst hr
            clear hne
            cases q
            all_goals
              go_wp2
              exact ⟨⟨k + 1, _, by omega, rfl, by go_num, unhideR HR⟩, by simp [intOf]; omega⟩
        · obtain rfl : k = nm.size := by omega
          have hkk : decide ((nm.size : Int) < (nm.size : Nat)) = false := decide_eq_false (by omega)
          have HQ1 : HeldR (q = (Q0 && nm.data.toList.all nameC)) := by
            have := unhideR HQ
            rw [List.take_of_length_le (by rw [Array.length_toList]; exact Nat.le_refl _)] at this
            exact this
          clear HQ
          go_wp2
          go_loop [6, 10] (fun okv kv => ∃ (j : Nat) (q2 : Bool), j ≤ 7 ∧ okv = .bool q2 ∧ kv = .int .i64 (j : Nat) ∧ HeldR (q2 = (q && (ownNames.take j).all (fun o => o != nm.data.toList)))) (fun _ kv => 8 - (intOf kv).toNat)
          case atStart => exact ⟨0, q, by omega, rfl, rfl, by unfold HeldR; rw [List.take_zero]; cases q <;> rfl⟩
          case round =>
            obtain ⟨j, q2, hj, rfl, rfl, HQ2⟩ := hrel
            by_cases hjl : j < 7
            · have hjj : decide ((j : Int) < 7) = true := decide_eq_true (by omega)
              obtain ⟨o, co, ho⟩ := own_cell (unhideR HB) hjl
              have HO := hideR (own_next hjl)
              have HP := hideR ho
              clear ho
              cases q2
              · have HR : HeldR (false = (q && (ownNames.take (j + 1)).all (fun o => o != nm.data.toList))) := by
                  unfold HeldR
                  rw [unhideR HO, List.all_append, ← Bool.and_assoc, ← unhideR HQ2, Bool.false_and]
                go_wp2
                exact ⟨⟨j + 1, false, by omega, rfl, by go_num, unhideR HR⟩, by simp [intOf]; omega⟩
              · have HR : HeldR ((!(o.toList == nm.toList)) = (q && (ownNames.take (j + 1)).all (fun o => o != nm.data.toList))) := by
                  unfold HeldR
                  rw [unhideR HO, List.all_append, ← Bool.and_assoc, ← unhideR HQ2, Bool.true_and, List.all_cons, List.all_nil, Bool.and_true, ByteArray.toList_eq, ByteArray.toList_eq, unhideR HP]
                  rfl
                go_wp2
                exact ⟨⟨j + 1, _, by omega, rfl, by go_num, unhideR HR⟩, by simp [intOf]; omega⟩
            · obtain rfl : j = 7 := by omega
              have HQ3 : HeldR (q2 = ((Q0 && nm.data.toList.all nameC) && ownNames.all (fun o => o != nm.data.toList))) := by
                have := unhideR HQ2
                rw [List.take_of_length_le (by decide), unhideR HQ1] at this
                exact this
              have hjj : decide ((7 : Int) < 7) = false := rfl
              clear HQ2 HQ1 hj hjl
              go_wp2
              go_loop [6, 11] (fun okv kv => ∃ (m : Nat) (q3 : Bool), m ≤ i ∧ okv = .bool q3 ∧ kv = .int .i64 (m : Nat) ∧ HeldR (q3 = (q2 && ((L.map CrdS.crd).take m).all (fun c => c.name != nm.data.toList)))) (fun _ kv => i + 1 - (intOf kv).toNat)
              case atStart => exact ⟨0, q2, by omega, rfl, rfl, by unfold HeldR; rw [List.take_zero]; cases q2 <;> rfl⟩
              case round =>
                obtain ⟨m, q3, hm, rfl, rfl, HQ4⟩ := hrel
                by_cases hml : m < i
                · have hmm : decide ((m : Int) < (i : Nat)) = true := decide_eq_true (by omega)
                  obtain ⟨b', off', e', hb', cm, _, _, _⟩ := (unhideR HC).at_ m (by omega)
                  cases e'
                  have HO := hideR (card_next (L := L) (f := fun n => n != nm.data.toList) (show m < L.length by omega))
                  generalize (L.getD m crdS0).name = o at cm HO
                  cases q3
                  · have HR : HeldR (false = (q2 && ((L.map CrdS.crd).take (m + 1)).all (fun c => c.name != nm.data.toList))) := by
                      unfold HeldR
                      rw [unhideR HO, ← Bool.and_assoc, ← unhideR HQ4, Bool.false_and]
                    go_wp2
                    exact ⟨⟨m + 1, false, by omega, rfl, by go_num, unhideR HR⟩, by simp [intOf]; omega⟩
                  · have HR : HeldR ((!(o.toList == nm.toList)) = (q2 && ((L.map CrdS.crd).take (m + 1)).all (fun c => c.name != nm.data.toList))) := by
                      unfold HeldR
                      rw [unhideR HO, ← Bool.and_assoc, ← unhideR HQ4, Bool.true_and, ByteArray.toList_eq, ByteArray.toList_eq]
                      rfl
                    go_wp2
                    exact ⟨⟨m + 1, _, by omega, rfl, by go_num, unhideR HR⟩, by simp [intOf]; omega⟩
                · obtain rfl : m = i := by omega
                  have hmm : decide ((m : Int) < (m : Nat)) = false := decide_eq_false (by omega)
                  have HOK : HeldR (nameOk (L.map CrdS.crd) m (L.getD m crdS0).name.data.toList = q3) := by
                    have h4 := unhideR HQ4
                    rw [unhideR HQ3] at h4
                    rw [h4, unhideR HNM, ← unhideR HQ0]
                    rfl
                  clear HQ4 HQ3 hml hm
                  cases q3
                  · have HF : HeldR (CarPost L w (.returned (.int .i64 10)) W1) := by
                      refine ⟨?_, unhideR HW⟩
                      rw [names_bad hl hil (unhideR HOK)]
                    go_wp2
                    go_ret
                    exact unhideR HF
                  · have HG : HeldR (∀ j, j < m + 1 → nameOk (L.map CrdS.crd) j (L.getD j crdS0).name.data.toList = true) := by
                      intro j hj
                      by_cases e : j < m
                      · exact unhideR HN j e
                      · obtain rfl : j = m := by omega
                        exact unhideR HOK
                    go_wp2
                    exact ⟨⟨m + 1, by omega, by go_num, HG⟩, by simp [intOf]; omega⟩
    · obtain rfl : i = L.length := by omega
      have hti : decide ((L.length : Int) < (L.length : Nat)) = false := decide_eq_false (by omega)
      have HNA := HN
      clear HN hi hil
      go_wp2
      go_loop [12] (fun iv => ∃ i : Nat, i ≤ L.length ∧ iv = .int .i64 (i : Nat) ∧ HeldR (∀ j, j < i → valOk (L.getD j crdS0).value.data.toList = true)) (fun iv => L.length + 1 - (intOf iv).toNat)
      case atStart => exact ⟨0, by omega, rfl, fun j hj => absurd hj (Nat.not_lt_zero j)⟩
      case round =>
        obtain ⟨i, hi, rfl, HN⟩ := hrel
        by_cases hil : i < L.length
        · obtain ⟨b, off, rfl, hb, cn, cv, hs1, hs2⟩ := (unhideR HC).at_ i hil
          have HV1 : HeldR (valOk (L.getD i crdS0).value.data.toList = false → CarPost L w (.returned (.int .i64 1)) W1) := fun k => ⟨by rw [vals_bad hl (unhideR HNA) hil k], unhideR HW⟩
          have HV2 : HeldR (valOk (L.getD i crdS0).value.data.toList = true → ∀ j, j < i + 1 → valOk (L.getD j crdS0).value.data.toList = true) := by
            intro k j hj
            by_cases e : j < i
            · exact unhideR HN j e
            · obtain rfl : j = i := by omega
              exact k
          generalize (L.getD i crdS0).value = v at cv hs2 HV1 HV2
          have hsz : v.data.toList.length = v.size := Array.length_toList
          have HSZ := hideR hsz
          obtain ⟨Pv, hPv⟩ : ∃ Pv, (decide (v.data.toList.length ≤ 70) && (v.data.toList.head? != some 32) && (v.data.toList.getLast? != some 32)) = Pv := ⟨_, rfl⟩
          have HPv := hideR hPv
          have HVO : HeldR (valOk v.data.toList = (Pv && v.data.toList.all valC)) := by unfold HeldR valOk; rw [hPv]
          clear hPv hsz cn hs1
          have hti : decide ((i : Int) < (L.length : Nat)) = true := decide_eq_true (by omega)
          go_upto_region 30 with fail
          go_cut [136] from 119 to 135 (fun s136 wx => W1 = wx ∧ s136 = .bool (!Pv))
          case' first =>
            by_cases g1 : 70 < v.size
            · have u1 : decide ((70 : Int) < (v.size : Nat)) = true := decide_eq_true (by omega)
              have hr : Pv = false := by rw [← unhideR HPv, decide_eq_false (by rw [unhideR HSZ]; omega)]; rfl
              subst hr
              clear g1
              go_wp2_with fail
              go_meet
              exact ⟨rfl, rfl⟩
            · have u1 : decide ((70 : Int) < (v.size : Nat)) = false := decide_eq_false (by omega)
              by_cases g2 : 0 < v.size
              · have u2 : decide ((0 : Int) < (v.size : Nat)) = true := decide_eq_true (by omega)
                have x0 : ∀ u, (Instr.index 9 (.string v) (.int .i64 0)).run Tryz.prog u = .ok (.int .u8 ((v.data.toList.getD 0 0).toNat : Nat)) u := fun u => str_at v (k := 0) g2 u
                have x1 : ∀ u, (Instr.index 9 (.string v) (.int .i64 ((v.size : Int) - 1))).run Tryz.prog u = .ok (.int .u8 ((v.data.toList.getD (v.size - 1) 0).toNat : Nat)) u := by
                  intro u
                  rw [show ((v.size : Int) - 1) = ((v.size - 1 : Nat) : Int) by omega]
                  exact str_at v (by omega) u
                have hw1 : IntKind.i64.wrap ((v.size : Int) - 1) = (v.size : Int) - 1 := iwrap (by omega) (by omega)
                have HD := hideR (head_last v g2)
                have hle := decide_eq_true (show v.data.toList.length ≤ 70 by rw [unhideR HSZ]; omega)
                have hp := unhideR HPv
                rw [hle, (unhideR HD).1, (unhideR HD).2, Bool.true_and] at hp
                generalize v.data.toList.getD 0 0 = c0 at *
                generalize v.data.toList.getD (v.size - 1) 0 = c1 at *
                clear hle g1 HD
                by_cases k0 : c0.toNat = 32
                · have v0 : ((c0.toNat : Int) == 32) = true := by rw [k0]; rfl
                  have hr : Pv = false := by rw [← hp, show c0 = 32 from UInt8.toNat_inj.1 k0]; rfl
                  subst hr
                  clear k0 hp
                  go_wp2_with fail
                  go_meet
                  exact ⟨rfl, rfl⟩
                · have v0 : ((c0.toNat : Int) == 32) = false := beq_eq_false_iff_ne.2 (by omega)
                  have hn0 : (some c0 != some (32 : UInt8)) = true := by
                    rw [bne_iff_ne]
                    intro e
                    exact k0 (by rw [Option.some.inj e]; rfl)
                  rw [hn0, Bool.true_and] at hp
                  by_cases k1 : c1.toNat = 32
                  · have v1 : ((c1.toNat : Int) == 32) = true := by rw [k1]; rfl
                    have hr : Pv = false := by rw [← hp, show c1 = 32 from UInt8.toNat_inj.1 k1]; rfl
                    subst hr
                    clear k0 k1 hp hn0
                    go_wp2_with fail
                    go_meet
                    exact ⟨rfl, rfl⟩
                  · have v1 : ((c1.toNat : Int) == 32) = false := beq_eq_false_iff_ne.2 (by omega)
                    have hr : Pv = true := by
                      rw [← hp, bne_iff_ne]
                      intro e
                      exact k1 (by rw [Option.some.inj e]; rfl)
                    subst hr
                    clear k0 k1 hp hn0
                    go_wp2_with fail
                    go_meet
                    exact ⟨rfl, rfl⟩
              · have u2 : decide ((0 : Int) < (v.size : Nat)) = false := decide_eq_false (by omega)
                have hv0 : v.data.toList = [] := List.eq_nil_of_length_eq_zero (by rw [unhideR HSZ]; omega)
                have hr : Pv = true := by rw [← unhideR HPv, hv0]; rfl
                subst hr
                clear hv0 g1
                go_wp2_with fail
                go_meet
                exact ⟨rfl, rfl⟩
          obtain ⟨rfl, rfl⟩ := hcut
          clear HPv
          cases Pv
          · have HF := hideR (unhideR HV1 (by rw [unhideR HVO]; rfl))
            go_wp2
            go_ret
            exact unhideR HF
          · go_wp2
            go_loop [15] (fun kv => ∃ k : Nat, k ≤ v.size ∧ kv = .int .i64 (k : Nat) ∧ HeldR ((v.data.toList.take k).all valC = true)) (fun kv => v.size + 1 - (intOf kv).toNat)
            case atStart => exact ⟨0, by omega, rfl, rfl⟩
            case round =>
              obtain ⟨k, hk, rfl, HQ⟩ := hrel
              by_cases hkl : k < v.size
              · have hkk : decide ((k : Int) < (v.size : Nat)) = true := decide_eq_true (by omega)
                have hx := str_at v hkl
                have HS := hideR (take_next v hkl)
                have HA := hideR (val_at (v := v) hkl)
                generalize v.data.toList.getD k 0 = c at *
                by_cases c1 : c.toNat < 32
                · have t1 : decide ((c.toNat : Int) < 32) = true := decide_eq_true (by omega)
                  have HF := hideR (unhideR HV1 (by rw [unhideR HVO, unhideR HA (valC_out (.inl c1))]; rfl))
                  clear c1
                  go_wp2
                  go_ret
                  exact unhideR HF
                · have t1 : decide ((c.toNat : Int) < 32) = false := decide_eq_false (by omega)
                  by_cases c2 : 126 < c.toNat
                  · have t2 : decide ((126 : Int) < (c.toNat : Int)) = true := decide_eq_true (by omega)
                    have HF := hideR (unhideR HV1 (by rw [unhideR HVO, unhideR HA (valC_out (.inr c2))]; rfl))
                    clear c1 c2
                    go_wp2
                    go_ret
                    exact unhideR HF
                  · have t2 : decide ((126 : Int) < (c.toNat : Int)) = false := decide_eq_false (by omega)
                    have HR : HeldR ((v.data.toList.take (k + 1)).all valC = true) := by
                      unfold HeldR
                      rw [unhideR HS, List.all_append, unhideR HQ, List.all_cons, valC_in (by omega) (by omega)]
                      rfl
                    clear c1 c2
                    go_wp2
                    exact ⟨⟨k + 1, by omega, by go_num, HR⟩, by simp [intOf]; omega⟩
              · obtain rfl : k = v.size := by omega
                have hkk : decide ((v.size : Int) < (v.size : Nat)) = false := decide_eq_false (by omega)
                have HG := hideR (unhideR HV2 (by
                  rw [unhideR HVO, Bool.true_and]
                  have := unhideR HQ
                  rw [List.take_of_length_le (by rw [Array.length_toList]; exact Nat.le_refl _)] at this
                  exact this))
                go_wp2
                exact ⟨⟨i + 1, by omega, by go_num, HG⟩, by simp [intOf]; omega⟩
        · obtain rfl : i = L.length := by omega
          have hti : decide ((L.length : Int) < (L.length : Nat)) = false := decide_eq_false (by omega)
          have HF : HeldR (CarPost L w (.returned (.int .i64 0)) W1) := ⟨by rw [cards_fine hl (unhideR HNA) (unhideR HN)], unhideR HW⟩
          go_wp2
          go_ret
          exact unhideR HF
end Go.Proofs.YtncbmkflilcdgaiGreatDoor
