/-
  The program's reading: cards out of bytes, sides, equal cards.
-/
import Derived.Test.YtncbmkflilcdgaiGreatDoorDG3
import Derived.Test.YtncbmkflilcdgaiGreatDoorFdPA
import Derived.Deep.QuietTactic
namespace Go.Proofs.YtncbmkflilcdgaiGreatDoor
open Go Go.RowKit

theorem unfilled_any (s : ByteArray) (hs : s.size ≤ 140737488355328) (w : World) : Calls Tryz.prog 70 #[.string s] w fun e w' => e = .returned (.string (strB (trimV s.data.toList))) ∧ w' = w := by
  have h := Tryz.strings_TrimRight_one s 32 (by decide) w (by omega)
  rw [show (⟨(Lib.trimRightB s.data.toList 32).toArray⟩ : ByteArray) = strB (trimV s.data.toList) from rfl] at h
  go_enter Tryz.func70, Tryz.ntmps70
  go_wp2_with fail
  refine h.mono ?_
  rintro e u ⟨rfl, rfl⟩
  clear h
  go_wp2
  go_ret
  exact ⟨rfl, rfl⟩
theorem strB_list (l : Bs) : (strB l).data.toList = l := by simp [strB]
def CoPost (t : Bs) (w : World) (e : Ending) (w' : World) : Prop := ∃ (n v : ByteArray) (ok : Bool), e = .returned (.tuple #[.agg #[.string n, .string v], .bool ok]) ∧ Below w.heap.size w w' ∧ n.size ≤ 8 ∧ v.size ≤ 72 ∧ (ok = true ↔ (t.drop 8).take 2 = [61, 32]) ∧ (ok = true → n.data.toList = trimV (t.take 8) ∧ v.data.toList = trimV (t.drop 10))
theorem trim_size (l : Bs) : (strB (trimV l)).size ≤ l.length := by
  rw [strB_size]
  exact (trim_fill l).2.2
theorem pre_two (l : Bs) : Lib.hasPrefix l [61, 32] = true ↔ l.take 2 = [61, 32] := by
  unfold Lib.hasPrefix
  rw [List.isPrefixOf_iff_prefix, List.prefix_iff_eq_take]
  exact eq_comm
theorem two_set {w : World} {g : Nat} {x0 x1 y0 y1 : Value} {ty : TypeId} (h : w.heap[g]? = some (.cells #[x0, x1] ty)) : ((w.setCell ⟨g, 0, none⟩ y0).setCell ⟨g, 1, none⟩ y1).heap[g]? = some (.cells #[y0, y1] ty) := by
  have h1 := heap_setCell_same w g 0 _ _ y0 h
  have h2 := heap_setCell_same _ g 1 _ _ y1 h1
  exact h2
theorem two_below {w u : World} {B g : Nat} {y0 y1 : Value} (h : Below B w u) (hg : B ≤ g) : Below B w ((u.setCell ⟨g, 0, none⟩ y0).setCell ⟨g, 1, none⟩ y1) := (h.setCell (by simpa using hg) _).setCell (by simpa using hg) _
theorem ext_take (t : Bs) (k : Nat) : (strB t).extract 0 k = strB (t.take k) := by
  apply ByteArray.ext
  unfold strB
  rw [ByteArray.data_extract]
  apply Array.ext'
  simp
theorem ext_drop (t : Bs) (k : Nat) : (strB t).extract k (strB t).size = strB (t.drop k) := by
  apply ByteArray.ext
  rw [ByteArray.data_extract, strB_size]
  unfold strB
  apply Array.ext'
  simp only [Array.toList_extract, List.extract_eq_take_drop]
  rw [List.take_of_length_le (by rw [List.length_drop]; exact Nat.le_refl _)]
set_option maxRecDepth 100000 in
set_option maxHeartbeats 1600000 in
theorem cardOf_any (t : Bs) (w : World) (ht : t.length = 80) : Calls Tryz.prog 72 #[.string (strB t)] w (CoPost t w) := by
  have hs : (strB t).size = 80 := by rw [strB_size, ht]
  have r1 : ∀ u, (Instr.slice 9 (.string (strB t)) none (some (.int .i64 8)) none).run Tryz.prog u = .ok (.string (strB (t.take 8))) u := fun u => by
    rw [run_slice_string_h u 9 (strB t) Tryz.underlying9 .i64 8 (by decide) (by rw [hs]; decide), ← ext_take]
    rfl
  have r2 : ∀ u, (Instr.slice 9 (.string (strB t)) (some (.int .i64 8)) none none).run Tryz.prog u = .ok (.string (strB (t.drop 8))) u := fun u => by
    rw [run_slice_string_l u 9 (strB t) Tryz.underlying9 .i64 8 (by decide) (by rw [hs]; decide), ← ext_drop]
    rfl
  have l8 : (t.take 8).length = 8 := by rw [List.length_take]; omega
  have l72 : (t.drop 8).length = 72 := by rw [List.length_drop]; omega
  have hcut := fun u => Tryz.strings_CutPrefix (strB (t.drop 8)) ⟨#[61, 32]⟩ u
  simp only [strB_list] at hcut
  have hun1 := fun u => unfilled_any (strB (t.take 8)) (by rw [strB_size]; omega) u
  have hun2 := fun u => unfilled_any (strB (t.drop 10)) (by rw [strB_size, List.length_drop]; omega) u
  simp only [strB_list] at hun1 hun2
  have hb := below_a w (.cells #[.string ⟨#[]⟩, .string ⟨#[]⟩] 57)
  have hg := alloc_last w (.cells #[.string ⟨#[]⟩, .string ⟨#[]⟩] 57)
  have HB := hideR hb
  have HG := hideR hg
  obtain ⟨q, hq⟩ : ∃ q, Lib.hasPrefix (t.drop 8) [61, 32] = q := ⟨_, rfl⟩
  have hiff := pre_two (t.drop 8)
  rw [hq] at hiff hcut
  have HI := hideR hiff
  have hn8 := trim_size (t.take 8)
  have hv72 := trim_size (t.drop 10)
  have l70 : (t.drop 10).length = 70 := by rw [List.length_drop]; omega
  rw [l8] at hn8
  rw [l70] at hv72
  have HGood : HeldR (∀ u, Below w.heap.size w u → q = true → CoPost t w (.returned (.tuple #[.agg #[.string (strB (trimV (t.take 8))), .string (strB (trimV (t.drop 10)))], .bool true])) u) := hideR (fun u k e => ⟨_, _, true, rfl, k, hn8, by omega, by subst e; exact hiff, fun _ => ⟨strB_list _, strB_list _⟩⟩)
  have HBad : HeldR (∀ u, Below w.heap.size w u → q = false → CoPost t w (.returned (.tuple #[.agg #[.string ⟨#[]⟩, .string ⟨#[]⟩], .bool false])) u) := hideR (fun u k e => ⟨_, _, false, rfl, k, by decide, by decide, by subst e; exact hiff, fun e2 => by cases e2⟩)
  have e10 : q = true → (⟨(Lib.trimPrefix (t.drop 8) [61, 32]).toArray⟩ : ByteArray) = strB (t.drop 10) := fun e => by
    unfold Lib.trimPrefix
    rw [hq, e, if_pos rfl, List.drop_drop]
    rfl
  have HE10 := hideR e10
  clear hb hg hiff hs ht l8 l72 l70 hn8 hv72 e10 hq
  generalize (⟨(Lib.trimPrefix (t.drop 8) [61, 32]).toArray⟩ : ByteArray) = rest at *
  generalize strB (trimV (t.take 8)) = nm at *
  generalize strB (trimV (t.drop 10)) = vl at *
  generalize strB (t.take 8) = t8 at *
  generalize strB (t.drop 8) = d8 at *
  go_enter Tryz.func72, Tryz.ntmps72
  go_wp2_with fail
  refine wp_region_lets [(· = .string (strB t)),
    (· = .string t8),
    (· = .string (strB t)),
    (· = .string d8),
    (· = .string t8),
    (· = .string d8)] (by kernel_rfl) (by kernel_rfl) ?_
  refine lexL_step (fun K hK => ⟨by kernel_rfl, ⟨_, rfl⟩, fun n => ?_, fun v hv => ?_⟩)
  · go_simp
    exact lUpon_one
  subst hv
  go_simp
  refine hK _ ?_
  clear hK K
  refine lexL_step (fun K hK => ⟨by kernel_rfl, ⟨_, rfl⟩, fun n => ?_, fun v hv => ?_⟩)
  · go_simp
    exact lUpon_one
  subst hv
  go_simp
  refine hK _ ?_
  clear hK K
  refine lexL_step (fun K hK => ⟨by kernel_rfl, ⟨_, rfl⟩, fun n => ?_, fun v hv => ?_⟩)
  · go_simp
    exact lUpon_one
  subst hv
  go_simp
  refine hK _ ?_
  clear hK K
  refine lexL_step (fun K hK => ⟨by kernel_rfl, ⟨_, rfl⟩, fun n => ?_, fun v hv => ?_⟩)
  · go_simp
    exact lUpon_one
  subst hv
  go_simp
  refine hK _ ?_
  clear hK K
  refine lexL_step (fun K hK => ⟨by kernel_rfl, ⟨_, rfl⟩, fun n => ?_, fun v hv => ?_⟩)
  · go_simp
    exact lUpon_one
  subst hv
  go_simp
  refine hK _ ?_
  clear hK K
  refine lexL_step (fun K hK => ⟨by kernel_rfl, ⟨_, rfl⟩, fun n => ?_, fun v hv => ?_⟩)
  · go_simp
    exact lUpon_one
  subst hv
  go_simp
  refine hK _ ?_
  clear hK K
  refine lexL_end ?_
  intro n9
  replace HB := hideR (below_go (unhideR HB) (drawn_below _ n9))
  replace HG := hideR (keepB (unhideR HG) (drawn_below _ n9))
  generalize (w.alloc (.cells #[.string ⟨#[]⟩, .string ⟨#[]⟩] 57)).drewN n9 = W1 at *
  clear r1 r2
  go_wp2_with fail
  refine (hcut _).mono ?_
  rintro e u ⟨rfl, rfl⟩
  obtain ⟨y0, f0⟩ := cells_at (unhideR HG) 0 (by simp)
  obtain ⟨y1, f1⟩ := cells_at (unhideR HG) 1 (by simp)
  cases q
  case false =>
    clear hcut hun1 hun2
    have h3 := two_set (y0 := .string ⟨#[]⟩) (y1 := .string ⟨#[]⟩) (unhideR HG)
    have HX := hideR (unhideR HBad _ (two_below (g := w.heap.size) (y0 := .string ⟨#[]⟩) (y1 := .string ⟨#[]⟩) (unhideR HB) (Nat.le_refl _)) (by first | rfl | trivial))
    go_wp2_with fail
    generalize (u.setCell ⟨w.heap.size, 0, none⟩ (.string ⟨#[]⟩)).setCell ⟨w.heap.size, 1, none⟩ (.string ⟨#[]⟩) = uf at *
    have r0 := (cells_at h3 0 (by simp)).1
    have r1 := (cells_at h3 1 (by simp)).1
    simp [bodyPost, results, Tryz.results72, go_sem, r0, r1]
    exact unhideR HX
  case true =>
    obtain rfl := unhideR HE10 rfl
    clear hcut
    go_wp2_with fail
    refine (hun1 _).mono ?_
    rintro e u ⟨rfl, rfl⟩
    go_wp2_with fail
    refine (hun2 _).mono ?_
    rintro e u ⟨rfl, rfl⟩
    clear hun1 hun2
    have h3 := two_set (y0 := .string nm) (y1 := .string vl) (unhideR HG)
    have HX := hideR (unhideR HGood _ (two_below (g := w.heap.size) (y0 := .string nm) (y1 := .string vl) (unhideR HB) (Nat.le_refl _)) (by first | rfl | trivial))
    go_wp2_with fail
    generalize (u.setCell ⟨w.heap.size, 0, none⟩ (.string nm)).setCell ⟨w.heap.size, 1, none⟩ (.string vl) = uf at *
    have r0 := (cells_at h3 0 (by simp)).1
    have r1 := (cells_at h3 1 (by simp)).1
    simp [bodyPost, results, Tryz.results72, go_sem, r0, r1]
    exact unhideR HX
end Go.Proofs.YtncbmkflilcdgaiGreatDoor
