/-
  The most that is to be had: the document's MostOf, by contract.
-/
import Derived.Test.YtoacdaemhcbbhaaDoorNgH2
import Derived.Test.YtoacdaemhcbbhaaDoorNgG3
namespace Go.Proofs.YtoacdaemhcbbhaaDoor
open Go Go.RowKit

theorem infoBo : (Tryd.prog.info? 4).map (fun i => (i.zero, i.size, i.bytes)) = some (some (.bool false), 1, 1) := by kernel_rfl
theorem make_bools {w : World} {n : Nat} (hn : n ≤ 65536) : ∃ w', (Instr.makeSlice 88 (.int .i64 (n : Int)) (.int .i64 (n : Int))).run Tryd.prog w = .ok (.slice (some ⟨w.heap.size, 0, none⟩) n n) w' ∧ UsR w' w.heap.size n (fun _ => false) ∧ Below w.heap.size w w' := by
  obtain ⟨i0, hi0, hz0, hz1, hz2⟩ := info_parts infoBo
  obtain ⟨w', h1, h2, h3⟩ := run_make_full (P := Tryd.prog) w w.heap.size 88 4 i0 (.bool false) 1 (by kernel_rfl) hi0 hz0 hz1 .i64 .i64 n (by rw [hz2]; omega) (by simp [maxLen]; omega) (Nat.le_refl _)
  refine ⟨w', h1, ⟨fun i hi => ?_, fun o => h2.frozenAt o, (h2.lt _ rfl).2⟩, (Below.refl _ _).grown h3 (Nat.le_refl _) (fun k hk => by cases hk)⟩
  have hj : i < n * 1 := by omega
  rw [h2.cellAt i hj]
  unfold madeCells
  simp [hi]
  rw [show (Value.bool false).cells.size = 1 from rfl, Nat.mod_one]
  rfl
theorem cntU_none (n : Nat) : cntU (fun _ => false) n = n := by
  induction n with
  | zero => rfl
  | succ n ih =>
    show (if false = true then _ else cntU (fun _ => false) n + 1) = n + 1
    rw [if_neg (by decide), ih]
set_option maxRecDepth 100000 in
set_option maxHeartbeats 1600000 in
theorem rmostOf_any {w : World} {ad : Option Addr} {cap : Nat} {l : List Jb} (hl : JbCame w ad l) (hn : l.length ≤ 6) (hk : ∀ k, k < l.length → (l.getD k jb0).Ok) :
    Calls Tryd.prog 14 #[.slice ad l.length cap] w fun e w' => e = .returned (.int .i64 (mostF (jo l) l.length (fun _ => false) (-4611686018427387904))) ∧ Below w.heap.size w w' := by
  obtain ⟨w1, hmk, hU, hb⟩ := make_bools (w := w) (n := l.length) (by omega)
  have hm := rmost_any (ad := ad) (cap := cap) (g := w.heap.size) hn hk l.length (fun _ => false) hn (by rw [cntU_none]; exact Nat.le_refl _) (w := w1) (t := -4611686018427387904) ⟨Int.le_refl _, by decide⟩ hU (fun v hv => hl.below (hb.trans hv))
  generalize mostF (jo l) l.length (fun _ => false) (-4611686018427387904) = m at *
  have HB := hideR hb
  obtain ⟨n, hn0⟩ : ∃ n, l.length = n := ⟨_, rfl⟩
  rw [hn0] at hm hmk hn ⊢
  clear hU hl hk hb hn0
  go_enter Tryd.func14, Tryd.ntmps14
  go_wp2_with fail
  refine hm.mono ?_
  rintro e u2 ⟨rfl, _, k2⟩
  have HB2 := hideR ((unhideR HB).trans k2)
  clear hm hmk k2 HB
  go_wp2
  go_ret
  exact ⟨rfl, unhideR HB2⟩
end Go.Proofs.YtoacdaemhcbbhaaDoor
