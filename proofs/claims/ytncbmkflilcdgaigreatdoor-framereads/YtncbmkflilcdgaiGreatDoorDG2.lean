/-
  The program's cards: which are wrong.
-/
import Derived.Test.YtncbmkflilcdgaiGreatDoorDG1
import Derived.Test.YtncbmkflilcdgaiGreatDoorFfDec
import Derived.Lib.AppendIntMem
namespace Go.Proofs.YtncbmkflilcdgaiGreatDoor
open Go Go.RowKit Go.Sort

theorem grow_below {w w' : World} (h : ∃ k os, w' = grow (w.drewN k) os) : Below w.heap.size w w' := by
  obtain ⟨k, os, rfl⟩ := h
  exact Go.Lib.below_grow w.heap.size w (Nat.le_refl _) k os
/-! named -/
theorem named1_any {w : World} {b : Nat} (n v nm : ByteArray) (hc : w.cell? ⟨b, 0, none⟩ = some (.string nm)) (hb : b < w.heap.size) : Calls Tryz.prog 49 #[.agg #[.string n, .string v], .pointer (some ⟨b, 0, none⟩)] w fun e w' => e = .returned (.bool (n.toList == nm.toList)) ∧ Below w.heap.size w w' := by
  have h1 := (below_a w (.cells #[.string n, .string v] 57)).cell (p := ⟨b, 0, none⟩) hb
  rw [hc] at h1
  have h2 : (w.alloc (.cells #[.string n, .string v] 57)).cell? ⟨w.heap.size, 0, none⟩ = some (.string n) := (cells_at (alloc_last w (.cells #[.string n, .string v] 57)) 0 (by simp)).1
  have HB := hideR (below_a w (.cells #[.string n, .string v] 57))
  clear hc
  go_enter Tryz.func49, Tryz.ntmps49
  go_wp2
  go_ret
  exact ⟨rfl, unhideR HB⟩
def hasN (L : List CrdS) (nm : ByteArray) : Bool := L.any fun c => c.name.toList == nm.toList
theorem has_at {L : List CrdS} {nm : ByteArray} {k : Nat} (hk : k < L.length) (h : ((L.getD k crdS0).name.toList == nm.toList) = true) : hasN L nm = true := by
  unfold hasN
  rw [List.any_eq_true]
  refine ⟨L[k], List.getElem_mem hk, ?_⟩
  rwa [List.getD_eq_getElem?_getD, List.getElem?_eq_getElem hk] at h
theorem has_no {L : List CrdS} {nm : ByteArray} (h : ∀ k, k < L.length → ((L.getD k crdS0).name.toList == nm.toList) = false) : hasN L nm = false := by
  unfold hasN
  rw [List.any_eq_false]
  intro x hx
  obtain ⟨k, hk, rfl⟩ := List.getElem_of_mem hx
  have := h k hk
  rw [List.getD_eq_getElem?_getD, List.getElem?_eq_getElem hk] at this
  rw [show (L[k].name.toList == nm.toList) = false from this]
  exact Bool.false_ne_true
def NIdxPost (q : Bool) (w : World) (e : Ending) (w' : World) : Prop := ∃ i : Int, e = .returned (.int .i64 i) ∧ Below w.heap.size w w' ∧ (q = false → i = -1) ∧ (q = true → 0 ≤ i)
set_option maxRecDepth 100000 in
set_option maxHeartbeats 1600000 in
theorem indexNamed_any {w : World} {ad : Option Addr} {cap b : Nat} {L : List CrdS} (nm : ByteArray) (hr : CCame w ad L) (hl : L.length ≤ 1000000) (hc : w.cell? ⟨b, 0, none⟩ = some (.string nm)) (hb : b < w.heap.size) :
    Calls Tryz.prog 61 #[.slice ad L.length cap, .func (.func 49) #[] #[.pointer (some ⟨b, 0, none⟩)]] w (NIdxPost (hasN L nm) w) := by
  have HR := hideR hr
  have HC := hideR hc
  generalize hq : hasN L nm = q
  have HQ := hideR hq
  clear hr hc hq
  go_enter Tryz.func61, Tryz.ntmps61
  go_wp2
  go_loopw [8] (fun kv wl => ∃ k : Nat, k ≤ L.length ∧ kv = .int .i64 (k : Nat) ∧ HeldR (∀ j, j < k → ((L.getD j crdS0).name.toList == nm.toList) = false) ∧ HeldR (Below w.heap.size w wl)) (fun kv _ => L.length + 1 - (intOf kv).toNat)
  case atStart => exact ⟨0, by omega, rfl, hideR (fun j hj => absurd hj (Nat.not_lt_zero j)), hideR (Below.refl _ _)⟩
  case round =>
    obtain ⟨k, hk, rfl, HK, HW⟩ := hrel
    by_cases hlt : k < L.length
    · obtain ⟨b1, o1, rfl, _, x1, x2, _⟩ := ((unhideR HR).below (unhideR HW)).at_ k hlt
      have hn := named1_any (w := wr) (L.getD k crdS0).name (L.getD k crdS0).value nm (((unhideR HW).cell (p := ⟨b, 0, none⟩) hb).trans (unhideR HC)) (Nat.lt_of_lt_of_le hb (unhideR HW).size)
      generalize hnc : ((L.getD k crdS0).name.toList == nm.toList) = c at hn
      have HN := hideR hnc
      clear hnc
      generalize (L.getD k crdS0).name = n1 at x1 hn
      generalize (L.getD k crdS0).value = v1 at x2 hn
      go_wp2_with fail
      refine hn.mono ?_
      rintro e u ⟨rfl, ku⟩
      replace HW := hideR (below_go (unhideR HW) ku)
      clear hn ku x1 x2
      cases c
      · have HK2 : HeldR (∀ j, j < k + 1 → ((L.getD j crdS0).name.toList == nm.toList) = false) := hideR (fun j hj => by
          by_cases ej : j = k
          · rw [ej]; exact unhideR HN
          · exact (unhideR HK) j (by omega))
        go_wp2
        exact ⟨⟨k + 1, by omega, by go_num, HK2, HW⟩, by simp [intOf]; omega⟩
      · have HT := hideR (has_at hlt (unhideR HN))
        go_wp2
        go_ret
        refine ⟨_, rfl, unhideR HW, fun q0 => ?_, fun _ => by omega⟩
        rw [← unhideR HQ, unhideR HT] at q0
        cases q0
    · obtain rfl : k = L.length := by omega
      have HF := hideR (has_no (unhideR HK))
      go_wp2
      go_ret
      refine ⟨_, rfl, unhideR HW, fun _ => rfl, fun q0 => ?_⟩
      rw [← unhideR HQ, unhideR HF] at q0
      cases q0
set_option maxRecDepth 100000 in
theorem containsNamed_any {w : World} {ad : Option Addr} {cap b : Nat} {L : List CrdS} (nm : ByteArray) (hr : CCame w ad L) (hl : L.length ≤ 1000000) (hc : w.cell? ⟨b, 0, none⟩ = some (.string nm)) (hb : b < w.heap.size) :
    Calls Tryz.prog 48 #[.slice ad L.length cap, .func (.func 49) #[] #[.pointer (some ⟨b, 0, none⟩)]] w fun e w' => e = .returned (.bool (hasN L nm)) ∧ Below w.heap.size w w' := by
  have h := indexNamed_any (cap := cap) nm hr hl hc hb
  generalize hasN L nm = q at *
  go_enter Tryz.func48, Tryz.ntmps48
  go_wp2_with fail
  refine h.mono ?_
  rintro e u ⟨i, rfl, ku, h1, h2⟩
  have HU := hideR ku
  clear h hr hc hb ku
  cases q
  · obtain rfl := h1 rfl
    clear h1 h2
    go_wp2
    go_ret
    exact ⟨rfl, unhideR HU⟩
  · have := h2 rfl
    clear h1 h2
    go_wp2
    go_ret
    exact ⟨rfl, unhideR HU⟩
set_option maxRecDepth 100000 in
theorem named_any {w : World} {ad : Option Addr} {cap : Nat} {L : List CrdS} (nm : ByteArray) (hr : CCame w ad L) (hl : L.length ≤ 1000000) :
    Calls Tryz.prog 36 #[.slice ad L.length cap, .string nm] w fun e w' => e = .returned (.bool (hasN L nm)) ∧ Below w.heap.size w w' := by
  have hb := below_a w (.cells #[.string nm] 9)
  have hc : (w.alloc (.cells #[.string nm] 9)).cell? ⟨w.heap.size, 0, none⟩ = some (.string nm) := (cells_at (alloc_last w (.cells #[.string nm] 9)) 0 (by simp)).1
  have h := containsNamed_any (cap := cap) nm (hr.below hb) hl hc (ltB (alloc_last w _))
  have HB := hideR hb
  have hmf : ∀ (fn : Fn) (first cap : Array Value) (w : World), (Instr.makeFunc fn first cap).run Tryz.prog w = .ok (.func fn first cap) w := fun _ _ _ _ => rfl
  clear hb hc hr
  go_enter Tryz.func36, Tryz.ntmps36
  go_wp2_with fail
  refine h.mono ?_
  rintro e u ⟨rfl, ku⟩
  replace HB := hideR (below_go (unhideR HB) ku)
  clear h ku
  go_wp2
  go_ret
  exact ⟨rfl, unhideR HB⟩
/-! the first cards -/
def sixS (W H : Nat) : List CrdS := [⟨⟨#[83, 73, 77, 80, 76, 69]⟩, ⟨#[84]⟩⟩, ⟨⟨#[66, 73, 84, 80, 73, 88]⟩, ⟨#[49, 54]⟩⟩, ⟨⟨#[78, 65, 88, 73, 83]⟩, ⟨#[50]⟩⟩, ⟨⟨#[78, 65, 88, 73, 83, 49]⟩, strB (dec3 W)⟩, ⟨⟨#[78, 65, 88, 73, 83, 50]⟩, strB (dec3 H)⟩, ⟨⟨#[66, 90, 69, 82, 79]⟩, ⟨#[51, 50, 55, 54, 56]⟩⟩]
theorem six_is (W H : Nat) : (sixS W H).map CrdS.crd = six ⟨W, H, []⟩ := by
  unfold sixS six
  simp only [List.map_cons, List.map_nil, CrdS.crd, strB, Int.toNat_natCast]
set_option maxRecDepth 20000 in
theorem itoa_dec : ∀ n : Fin 257, Lib.itoa ((n : Nat) : Int) = dec3 n := by decide +kernel
theorem itoa_any {a : Nat → Addr} {w : World} (n : Nat) (hn : n ≤ 256) (h : SentsF w a) : Calls Tryz.prog 52 #[.int .i64 (n : Nat)] w fun e w' => e = .returned (.string (strB (dec3 n))) ∧ Below w.heap.size w w' := by
  refine (Tryz.strconv_Itoa (n : Nat) (by omega) (by omega) w h.tab).mono ?_
  rintro e w' ⟨rfl, hk⟩
  refine ⟨?_, grow_below hk⟩
  rw [itoa_dec ⟨n, by omega⟩]
  rfl
def sixObj (W H : Nat) : Obj := .cells #[.string ⟨#[83, 73, 77, 80, 76, 69]⟩, .string ⟨#[84]⟩, .string ⟨#[66, 73, 84, 80, 73, 88]⟩, .string ⟨#[49, 54]⟩, .string ⟨#[78, 65, 88, 73, 83]⟩, .string ⟨#[50]⟩, .string ⟨#[78, 65, 88, 73, 83, 49]⟩, .string (strB (dec3 W)), .string ⟨#[78, 65, 88, 73, 83, 50]⟩, .string (strB (dec3 H)), .string ⟨#[66, 90, 69, 82, 79]⟩, .string ⟨#[51, 50, 55, 54, 56]⟩] 57
def FcPost (W H : Nat) (w : World) (e : Ending) (w' : World) : Prop := ∃ g, e = .returned (.slice (some ⟨g, 0, none⟩) 6 6) ∧ CCame w' (some ⟨g, 0, none⟩) (sixS W H) ∧ Below w.heap.size w w' ∧ w'.heap[g]? = some (sixObj W H)
theorem six_came {w : World} {g : Nat} {W H : Nat} (h : w.heap[g]? = some (.cells #[.string ⟨#[83, 73, 77, 80, 76, 69]⟩, .string ⟨#[84]⟩, .string ⟨#[66, 73, 84, 80, 73, 88]⟩, .string ⟨#[49, 54]⟩, .string ⟨#[78, 65, 88, 73, 83]⟩, .string ⟨#[50]⟩, .string ⟨#[78, 65, 88, 73, 83, 49]⟩, .string (strB (dec3 W)), .string ⟨#[78, 65, 88, 73, 83, 50]⟩, .string (strB (dec3 H)), .string ⟨#[66, 90, 69, 82, 79]⟩, .string ⟨#[51, 50, 55, 54, 56]⟩] 57)) : CCame w (some ⟨g, 0, none⟩) (sixS W H) := ⟨fun k hk => by
  have hk6 : k < 6 := hk
  have low := ltB h
  have l1 := dec3_len W
  have l2 := dec3_len H
  have e1 := strB_size (dec3 W)
  have e2 := strB_size (dec3 H)
  rcases k with _ | _ | _ | _ | _ | _ | k
  · exact ⟨g, 0, rfl, low, (cells_at h 0 (by simp)).1, (cells_at h 1 (by simp)).1, Nat.le_of_ble_eq_true rfl, Nat.le_of_ble_eq_true rfl⟩
  · exact ⟨g, 0, rfl, low, (cells_at h 2 (by simp)).1, (cells_at h 3 (by simp)).1, Nat.le_of_ble_eq_true rfl, Nat.le_of_ble_eq_true rfl⟩
  · exact ⟨g, 0, rfl, low, (cells_at h 4 (by simp)).1, (cells_at h 5 (by simp)).1, Nat.le_of_ble_eq_true rfl, Nat.le_of_ble_eq_true rfl⟩
  · exact ⟨g, 0, rfl, low, (cells_at h 6 (by simp)).1, (cells_at h 7 (by simp)).1, Nat.le_of_ble_eq_true rfl, by show (strB (dec3 W)).size ≤ _; omega⟩
  · exact ⟨g, 0, rfl, low, (cells_at h 8 (by simp)).1, (cells_at h 9 (by simp)).1, Nat.le_of_ble_eq_true rfl, by show (strB (dec3 H)).size ≤ _; omega⟩
  · exact ⟨g, 0, rfl, low, (cells_at h 10 (by simp)).1, (cells_at h 11 (by simp)).1, Nat.le_of_ble_eq_true rfl, Nat.le_of_ble_eq_true rfl⟩
  · omega⟩
set_option maxRecDepth 100000 in
set_option maxHeartbeats 800000 in
theorem firstCards_any {a : Nat → Addr} {w : World} (W H : Nat) (hW : W ≤ 256) (hH : H ≤ 256) (h : SentsF w a) : Calls Tryz.prog 41 #[.int .i64 (W : Nat), .int .i64 (H : Nat)] w (FcPost W H w) := by
  have h1 := itoa_any W hW h
  have HS := hideR h
  have HF : HeldR (∀ u, Below w.heap.size w u → FcPost W H w (.returned (.slice (some ⟨u.heap.size, 0, none⟩) 6 6)) (u.alloc (.cells #[.string ⟨#[83, 73, 77, 80, 76, 69]⟩, .string ⟨#[84]⟩, .string ⟨#[66, 73, 84, 80, 73, 88]⟩, .string ⟨#[49, 54]⟩, .string ⟨#[78, 65, 88, 73, 83]⟩, .string ⟨#[50]⟩, .string ⟨#[78, 65, 88, 73, 83, 49]⟩, .string (strB (dec3 W)), .string ⟨#[78, 65, 88, 73, 83, 50]⟩, .string (strB (dec3 H)), .string ⟨#[66, 90, 69, 82, 79]⟩, .string ⟨#[51, 50, 55, 54, 56]⟩] 57))) := hideR (fun u k => ⟨_, rfl, six_came (alloc_last u _), below_go k (below_a u _), alloc_last u _⟩)
  clear h
  generalize strB (dec3 W) = sw at *
  go_enter Tryz.func41, Tryz.ntmps41
  go_wp2_with fail
  refine h1.mono ?_
  rintro e u ⟨rfl, ku⟩
  have h2 := itoa_any H hH ((unhideR HS).below ku)
  generalize strB (dec3 H) = sh at *
  have HK := hideR ku
  clear h1 ku
  go_wp2_with fail
  refine h2.mono ?_
  rintro e u2 ⟨rfl, ku2⟩
  replace HK := hideR (below_go (unhideR HK) ku2)
  clear h2 ku2
  have HX := hideR (unhideR HF u2 (unhideR HK))
  clear HF
  go_wp2
  go_ret
  exact unhideR HX
end Go.Proofs.YtncbmkflilcdgaiGreatDoor
