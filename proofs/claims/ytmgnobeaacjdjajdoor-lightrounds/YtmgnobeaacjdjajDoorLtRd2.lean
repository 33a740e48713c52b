/-
  The lower middle one of counts: the program's, by contract.
-/
import Derived.Test.YtmgnobeaacjdjajDoorDT0a
import Derived.Test.YtmgnobeaacjdjajDoorShelf
namespace Go.Proofs.YtmgnobeaacjdjajDoor
open Go Go.RowKit Go.Sort

theorem bel_sort {w v : World} {B gy n c : Nat} {Y Z : List Int} (h : IOwn w B (.slice (some ⟨gy, 0, none⟩) n c) Y) (hB : B ≤ w.heap.size) (hv : ∃ q os, v = grow (putRow (Value.int .i64) (Sort.ahead w q) gy 0 Z.toArray) os) : Below B w v := by
  obtain ⟨q, os, rfl⟩ := hv
  exact (Below.refl B w).grown (grownBy_sortedI (w := w) (g := gy) (n := q) (os := os) Z.toArray) hB (fun j hj => by cases hj; exact own_at2 h gy rfl)
theorem keep_sort {w v : World} {B gy n c : Nat} {Z A : List Int} {lv : Value} (hA : IOwn w B lv A) (hap : Apart2 (.slice (some ⟨gy, 0, none⟩) n c) lv) (hv : ∃ q os, v = grow (putRow (Value.int .i64) (Sort.ahead w q) gy 0 Z.toArray) os) : IOwn v B lv A := by
  obtain ⟨q, os, rfl⟩ := hv
  exact own_gr hA (grownBy_sortedI (w := w) (g := gy) (n := q) (os := os) Z.toArray) (fun k hk e => by
    cases e
    exact hap gy rfl hk)
theorem own_sort {w v : World} {B gy n c : Nat} {Y : List Int} (h : IOwn w B (.slice (some ⟨gy, 0, none⟩) n c) Y) (hY : Y.length = n) (hv : ∃ q os, v = grow (putRow (Value.int .i64) (Sort.ahead w q) gy 0 (Y.mergeSort fun x y => decide (x ≤ y)).toArray) os) : IOwn v B (.slice (some ⟨gy, 0, none⟩) n c) (Y.mergeSort fun x y => decide (x ≤ y)) := by
  obtain ⟨q, os, rfl⟩ := hv
  have hc := h
  unfold IOwn at hc
  rcases hc.2 with ⟨h1, _⟩ | ⟨g', c', cur, h1, h2, h3, h4, h5, h6, h7⟩
  · cases h1
  injection h1 with h1 _ hcc
  injection h1 with h1
  injection h1 with h1
  subst h1
  subst hcc
  unfold IOwn
  have := ownsRow_sortedI (w := w) (base := B) (g := gy) (cap := c) (n := q) (e := 3) (os := os) (cur := cur) (ss := Y) (ts := Y.mergeSort fun x y => decide (x ≤ y)) (List.length_mergeSort _) h2 h3 h4 h5 h6
  rw [List.length_mergeSort, hY] at *
  exact this
def LmPost (B : Nat) (cv : Value) (Y : List Int) (w : World) (e : Ending) (w' : World) : Prop := e = .returned (.int .i64 (if Y = [] then 0 else medV Y)) ∧ Below B w w' ∧ ∀ lv A, IOwn w B lv A → Apart2 cv lv → IOwn w' B lv A
set_option maxRecDepth 100000 in
set_option maxHeartbeats 3200000 in
theorem lowerMiddle_any {w : World} {B : Nat} {cv : Value} {Y : List Int} (h : IOwn w B cv Y) (hn : Y.length ≤ 65536) (hB : B ≤ w.heap.size) : Calls Tryd.prog 29 #[cv] w (LmPost B cv Y w) := by
  by_cases h0 : Y = []
  · subst h0
    obtain ⟨ad, cap, rfl⟩ := h.slice
    have HF : HeldR (LmPost B (.slice ad 0 cap) [] w (.returned (.int .i64 0)) w) := hideR ⟨by rw [if_pos rfl], Below.refl _ _, fun _ _ q _ => q⟩
    clear h
    go_enter Tryd.func29, Tryd.ntmps29
    go_wp2
    go_ret
    exact unhideR HF
  · have hp : 0 < Y.length := List.length_pos_iff.2 h0
    obtain ⟨gy, cy, e⟩ := own_some h hp
    obtain ⟨nl, hnl⟩ : ∃ nl, Y.length = nl := ⟨_, rfl⟩
    rw [hnl] at e hp hn
    subst e
    have hso := Tryd.slices_Sort_int gy 0 cy Y w h.holds h.lt0 (by rw [hnl]; omega)
    rw [hnl] at hso
    obtain ⟨Z, hZ⟩ : ∃ Z, (Y.mergeSort fun p q => decide (p ≤ q)) = Z := ⟨_, rfl⟩
    have hlZ : Z.length = nl := by rw [← hZ, List.length_mergeSort]; exact hnl
    obtain ⟨md, hmd⟩ : ∃ md, (nl - 1) / 2 = md := ⟨_, rfl⟩
    have HMd : HeldR (medV Y = Z.getD md 0) := hideR (by rw [← hmd, ← hnl, ← hZ]; rfl)
    have HOwn : HeldR (∀ v, (∃ q os, v = grow (putRow (Value.int .i64) (Sort.ahead w q) gy 0 Z.toArray) os) → IOwn v B (.slice (some ⟨gy, 0, none⟩) nl cy) Z ∧ Below B w v ∧ ∀ lv A, IOwn w B lv A → Apart2 (.slice (some ⟨gy, 0, none⟩) nl cy) lv → IOwn v B lv A) := hideR (fun v hv => by
      refine ⟨?_, bel_sort h hB hv, fun lv A hA hap => keep_sort hA hap hv⟩
      rw [← hZ] at hv ⊢
      exact own_sort h hnl hv)
    rw [hZ] at hso
    have HF : HeldR (∀ v, Below B w v → (∀ lv A, IOwn w B lv A → Apart2 (.slice (some ⟨gy, 0, none⟩) nl cy) lv → IOwn v B lv A) → LmPost B (.slice (some ⟨gy, 0, none⟩) nl cy) Y w (.returned (.int .i64 (Z.getD md 0))) v) := hideR (fun v q1 q2 => ⟨by rw [if_neg h0, unhideR HMd], q1, q2⟩)
    have t0 : (nl == 0) = false := beq_eq_false_iff_ne.2 (by omega)
    have t0i : ((nl : Int) == 0) = false := beq_eq_false_iff_ne.2 (by omega)
    have hd1 : ((nl : Int) - 1).tdiv 2 = (md : Int) := by rw [Int.tdiv_eq_ediv_of_nonneg (by omega)]; omega
    have hd2 : ((nl : Int) - 1) / 2 = (md : Int) := by omega
    have hcl : (md : Int) < (nl : Int) := by omega
    have hw1 : IntKind.i64.wrap ((nl : Int) - 1) = (nl : Int) - 1 := iwrap (by omega) (by omega)
    have hw2 : IntKind.i64.wrap (md : Int) = (md : Int) := iwrap (by omega) (by omega)
    have HLZ := hideR hlZ
    have hml : md < nl := by omega
    clear h hZ hlZ hnl HMd h0 hmd hB
    go_enter Tryd.func29, Tryd.ntmps29
    go_wp2_with fail
    refine hso.mono ?_
    rintro e w5 ⟨rfl, hgr⟩
    obtain ⟨o1, o2, o3⟩ := unhideR HOwn w5 hgr
    have xc := (o1.has (unhideR HLZ) (k := md) hml).1
    have HF' := hideR (unhideR HF w5 o2 o3)
    generalize Z.getD md 0 = mv at *
    clear hso hgr HOwn HF o1 o2 o3 HLZ
    go_wp2
    go_ret
    exact unhideR HF'
end Go.Proofs.YtmgnobeaacjdjajDoor
