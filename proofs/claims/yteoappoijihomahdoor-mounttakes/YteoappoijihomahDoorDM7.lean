/-
  The program's sender, by contract.
-/
import Derived.Test.YteoappoijihomahDoorMtErr
import Derived.Test.YteoappoijihomahDoorMtH0
import Derived.Deep.QuietTactic
namespace Go.Proofs.YteoappoijihomahDoor
open Go Go.RowKit

structure RepSn (w : World) (g : Nat) (s : Snd) : Prop where
  blk : w.heap[g]? = some (.cells #[.int .i64 s.last.num, .string s.last.s, .int .i64 s.last.a, .int .i64 s.last.b, .bool s.waits] 125)
set_option maxRecDepth 100000 in
theorem sn_new (w : World) : Calls Tryd.prog 37 #[] w fun e w' => ∃ (g : Nat) (s : Snd), e = .returned (.pointer (some ⟨g, 0, none⟩)) ∧ w.heap.size ≤ g ∧ RepSn w' g s ∧ s.last.num = 0 ∧ s.waits = false ∧ Below w.heap.size w w' := by
  go_enter Tryd.func37, Tryd.ntmps37
  go_wp2
  go_ret
  exact ⟨w.heap.size, ⟨⟨0, ByteArray.empty, 0, 0⟩, false⟩, rfl, Nat.le_refl _, ⟨alloc_last _ _⟩, rfl, rfl, below_a _ _⟩
def AskPost (g : Nat) (s : Snd) (k : ByteArray) (x y : Int) (w : World) (e : Ending) (w' : World) : Prop :=
    e = .returned (.agg #[.int .i64 (s.last.num + 1), .string k, .int .i64 x, .int .i64 y]) ∧ RepSn w' g ⟨⟨s.last.num + 1, k, x, y⟩, true⟩ ∧ Chg g w w'
theorem RepSn.five {w : World} {g : Nat} {s : Snd} (h : RepSn w g s) (c : CmdS) (b : Bool) : RepSn (((((w.setCell ⟨g, 0, none⟩ (.int .i64 c.num)).setCell ⟨g, 1, none⟩ (.string c.s)).setCell ⟨g, 2, none⟩ (.int .i64 c.a)).setCell ⟨g, 3, none⟩ (.int .i64 c.b)).setCell ⟨g, 4, none⟩ (.bool b)) g ⟨c, b⟩ := by
  refine ⟨?_⟩
  rw [heap_setCell_same _ _ _ _ _ _ (heap_setCell_same _ _ _ _ _ _ (heap_setCell_same _ _ _ _ _ _ (heap_setCell_same _ _ _ _ _ _ (heap_setCell_same _ _ _ _ _ _ h.blk))))]
  rfl
theorem RepSn.all {w : World} {g : Nat} {s : Snd} (h : RepSn w g s) (x0 x1 x2 x3 x4 : Value) : Chg g w (((((w.setCell ⟨g, 0, none⟩ x0).setCell ⟨g, 1, none⟩ x1).setCell ⟨g, 2, none⟩ x2).setCell ⟨g, 3, none⟩ x3).setCell ⟨g, 4, none⟩ x4) :=
  (((((Chg.refl g w).putB h.blk (by show 2 < 5; decide) 0 _).putB h.blk (by show 2 < 5; decide) 1 _).putB h.blk (by show 2 < 5; decide) 2 _).putB h.blk (by show 2 < 5; decide) 3 _).putB h.blk (by show 2 < 5; decide) 4 _
set_option maxRecDepth 100000 in
set_option maxHeartbeats 1600000 in
theorem sn_ask {w : World} {g : Nat} {s : Snd} (k : ByteArray) (x y : Int) (h : RepSn w g s) (h0 : 0 ≤ s.last.num) (h1 : s.last.num ≤ 1000000) : Calls Tryd.prog 39 #[.pointer (some ⟨g, 0, none⟩), .string k, .int .i64 x, .int .i64 y] w (AskPost g s k x y w) := by
  have hw : IntKind.i64.wrap (s.last.num + 1) = s.last.num + 1 := iwrap (by omega) (by omega)
  obtain ⟨⟨y0, y1, y2, y3, y4⟩, y5, y6, y7, y8, y9⟩ := five_cells h.blk
  have hg : g < w.heap.size := ltB h.blk
  have HM := hideR (h.five ⟨s.last.num + 1, k, x, y⟩ true)
  have HK := hideR (h.all (.int .i64 (s.last.num + 1)) (.string k) (.int .i64 x) (.int .i64 y) (.bool true))
  clear h h0 h1
  go_enter Tryd.func39, Tryd.ntmps39
  go_wp2
  simp [bodyPost, results, Tryd.results39, go_sem]
  exact ⟨rfl, ⟨keepA (unhideR HM).blk⟩, (unhideR HK).go (below_a _ _)⟩
def AgainPost (s : Snd) (w : World) (e : Ending) (w' : World) : Prop := ∃ c : CmdS, e = .returned (.tuple #[.agg #[.int .i64 c.num, .string c.s, .int .i64 c.a, .int .i64 c.b], .bool s.waits]) ∧ (s.waits = true → c = s.last) ∧ Below w.heap.size w w'
set_option maxRecDepth 100000 in
theorem sn_again {w : World} {g : Nat} {s : Snd} (h : RepSn w g s) : Calls Tryd.prog 38 #[.pointer (some ⟨g, 0, none⟩)] w (AgainPost s w) := by
  obtain ⟨⟨y0, y1, y2, y3, y4⟩, y5, y6, y7, y8, y9⟩ := five_cells h.blk
  have hg : g < w.heap.size := ltB h.blk
  clear h
  cases hb : s.waits
  · have HF : HeldR (∀ u, Below w.heap.size w u → AgainPost s w (.returned (.tuple #[.agg #[.int .i64 0, .string ByteArray.empty, .int .i64 0, .int .i64 0], .bool false])) u) := by
      intro u hu
      unfold AgainPost
      rw [hb]
      exact ⟨⟨0, ByteArray.empty, 0, 0⟩, rfl, fun k => Bool.noConfusion k, hu⟩
    rw [hb] at y4
    clear hb
    go_enter Tryd.func38, Tryd.ntmps38
    go_wp2
    simp [bodyPost, results, Tryd.results38, go_sem]
    exact unhideR HF _ (below_a _ _)
  · have HF : HeldR (∀ u, Below w.heap.size w u → AgainPost s w (.returned (.tuple #[.agg #[.int .i64 s.last.num, .string s.last.s, .int .i64 s.last.a, .int .i64 s.last.b], .bool true])) u) := by
      intro u hu
      unfold AgainPost
      rw [hb]
      exact ⟨s.last, rfl, fun _ => rfl, hu⟩
    rw [hb] at y4
    clear hb
    go_enter Tryd.func38, Tryd.ntmps38
    go_wp2
    simp [bodyPost, results, Tryd.results38, go_sem]
    exact unhideR HF _ (below_a _ _)
def HearPost (g : Nat) (s : Snd) (n : Int) (w : World) (e : Ending) (w' : World) : Prop := e = .returned (.bool (s.waits && (n == s.last.num))) ∧ RepSn w' g ⟨s.last, s.waits && !(n == s.last.num)⟩ ∧ Chg g w w'
set_option maxRecDepth 100000 in
set_option maxHeartbeats 1600000 in
theorem sn_hear {w : World} {g : Nat} {s : Snd} (n p q st : Int) (er : Value) (_ : er.oneCell' = true) (h : RepSn w g s) : Calls Tryd.prog 40 #[.pointer (some ⟨g, 0, none⟩), .agg #[.int .i64 n, er, .int .i64 p, .int .i64 q, .int .i64 st]] w (HearPost g s n w) := by
  have HAL := hideR (below_a w (.cells #[.int .i64 n, er, .int .i64 p, .int .i64 q, .int .i64 st] 72))
  have HM := hideR (keepB h.blk (unhideR HAL))
  have HK := hideR ((Chg.refl g w).go (unhideR HAL))
  have HR := hideR (alloc_last w (.cells #[.int .i64 n, er, .int .i64 p, .int .i64 q, .int .i64 st] 72))
  have hg : g < w.heap.size := ltB h.blk
  clear h
  obtain ⟨⟨y0, y1, y2, y3, y4⟩, y5, y6, y7, y8, y9⟩ := five_cells (unhideR HM)
  obtain ⟨⟨z0, z1, z2, z3, z4⟩, z5, z6, z7, z8, z9⟩ := five_cells (unhideR HR)
  cases hb : s.waits
  · have HF : HeldR (∀ u, u.heap[g]? = some (.cells #[.int .i64 s.last.num, .string s.last.s, .int .i64 s.last.a, .int .i64 s.last.b, .bool s.waits] 125) → Chg g w u → HearPost g s n w (.returned (.bool false)) u) := by
      intro u hu hk
      unfold HearPost
      rw [hb] at hu ⊢
      exact ⟨rfl, ⟨hu⟩, hk⟩
    rw [hb] at y4
    clear hb
    go_enter Tryd.func40, Tryd.ntmps40
    go_wp2_with fail
    clear HAL
    generalize (w.alloc (.cells #[.int .i64 n, er, .int .i64 p, .int .i64 q, .int .i64 st] 72)) = W1 at *
    refine wp_region_lets [(· = .pointer (some ⟨g, 0, none⟩)),
      (· = .pointer (some ⟨g, 0, none⟩)),
      (· = .pointer (some ⟨g, 4, none⟩)),
      (· = .bool false),
      (· = .bool true),
      (· = .bool true),
      (· = undef),
      (· = undef),
      (· = undef),
      (· = undef),
      (· = undef),
      (· = undef),
      (· = undef),
      (· = undef),
      (· = .bool true)] (by kernel_rfl) (by kernel_rfl) ?_
    refine lexL_step (fun K hK => ⟨by kernel_rfl, ⟨_, rfl⟩, fun n => ?_, fun v hv => ?_⟩)
    · go_simp
      exact lUpon_one
    subst hv
    go_simp
    refine hK _ ?_
    clear hK K
    refine lexL_step (fun K hK => ⟨by kernel_rfl, ⟨_, rfl⟩, fun n => ?_, fun v hv => ?_⟩)
    · go_simp
      exact lUpon_one
    subst hv
    go_simp
    refine hK _ ?_
    clear hK K
    refine lexL_step (fun K hK => ⟨by kernel_rfl, ⟨_, rfl⟩, fun n => ?_, fun v hv => ?_⟩)
    · go_simp
      exact lUpon_one
    subst hv
    go_simp
    refine hK _ ?_
    clear hK K
    refine lexL_step (fun K hK => ⟨by kernel_rfl, ⟨_, rfl⟩, fun n => ?_, fun v hv => ?_⟩)
    · go_simp
      exact lUpon_one
    subst hv
    go_simp
    refine hK _ ?_
    clear hK K
    refine lexL_step (fun K hK => ⟨by kernel_rfl, ⟨_, rfl⟩, fun n => ?_, fun v hv => ?_⟩)
    · go_simp
      exact lUpon_one
    subst hv
    go_simp
    refine hK _ ?_
    clear hK K
    refine lexL_step (fun K hK => ⟨by kernel_rfl, ⟨_, rfl⟩, fun n => ?_, fun v hv => ?_⟩)
    · go_simp
      exact lUpon_one
    subst hv
    go_simp
    refine hK _ ?_
    clear hK K
    refine lexL_skip (fun K hK => ⟨by kernel_rfl, ?_⟩)
    go_simp
    refine hK _ ?_
    clear hK K
    refine lexL_skip (fun K hK => ⟨by kernel_rfl, ?_⟩)
    go_simp
    refine hK _ ?_
    clear hK K
    refine lexL_skip (fun K hK => ⟨by kernel_rfl, ?_⟩)
    go_simp
    refine hK _ ?_
    clear hK K
    refine lexL_skip (fun K hK => ⟨by kernel_rfl, ?_⟩)
    go_simp
    refine hK _ ?_
    clear hK K
    refine lexL_skip (fun K hK => ⟨by kernel_rfl, ?_⟩)
    go_simp
    refine hK _ ?_
    clear hK K
    refine lexL_skip (fun K hK => ⟨by kernel_rfl, ?_⟩)
    go_simp
    refine hK _ ?_
    clear hK K
    refine lexL_skip (fun K hK => ⟨by kernel_rfl, ?_⟩)
    go_simp
    refine hK _ ?_
    clear hK K
    refine lexL_skip (fun K hK => ⟨by kernel_rfl, ?_⟩)
    go_simp
    refine hK _ ?_
    clear hK K
    refine lexL_step (fun K hK => ⟨by kernel_rfl, ⟨_, rfl⟩, fun n => ?_, fun v hv => ?_⟩)
    · go_simp
      exact lUpon_one
    subst hv
    go_simp
    refine hK _ ?_
    clear hK K
    refine lexL_end ?_
    intro n1
    go_wp2
    go_ret
    exact unhideR HF _ (keepB (unhideR HM) (drawn_below _ _)) ((unhideR HK).go (drawn_below _ _))
  cases hn : (n == s.last.num)
  · have HF : HeldR (∀ u, u.heap[g]? = some (.cells #[.int .i64 s.last.num, .string s.last.s, .int .i64 s.last.a, .int .i64 s.last.b, .bool s.waits] 125) → Chg g w u → HearPost g s n w (.returned (.bool false)) u) := by
      intro u hu hk
      unfold HearPost
      rw [hn]
      rw [hb] at hu ⊢
      exact ⟨rfl, ⟨hu⟩, hk⟩
    rw [hb] at y4
    clear hb
    have hne : (n != s.last.num) = true := by unfold bne; rw [hn]; rfl
    clear hn
    go_enter Tryd.func40, Tryd.ntmps40
    go_wp2_with fail
    clear HAL
    generalize (w.alloc (.cells #[.int .i64 n, er, .int .i64 p, .int .i64 q, .int .i64 st] 72)) = W1 at *
    refine wp_region_lets [(· = .pointer (some ⟨g, 0, none⟩)),
      (· = .pointer (some ⟨g, 0, none⟩)),
      (· = .pointer (some ⟨g, 4, none⟩)),
      (· = .bool true),
      (· = .bool false),
      (· = .bool false),
      (· = .pointer (some ⟨w.heap.size, 0, none⟩)),
      (· = .int .i64 n),
      (· = .pointer (some ⟨g, 0, none⟩)),
      (· = .pointer (some ⟨g, 0, none⟩)),
      (· = .pointer (some ⟨g, 0, none⟩)),
      (· = .pointer (some ⟨g, 0, none⟩)),
      (· = .int .i64 s.last.num),
      (· = .bool true),
      (· = .bool true)] (by kernel_rfl) (by kernel_rfl) ?_
    refine lexL_step (fun K hK => ⟨by kernel_rfl, ⟨_, rfl⟩, fun n => ?_, fun v hv => ?_⟩)
    · go_simp
      exact lUpon_one
    subst hv
    go_simp
    refine hK _ ?_
    clear hK K
    refine lexL_step (fun K hK => ⟨by kernel_rfl, ⟨_, rfl⟩, fun n => ?_, fun v hv => ?_⟩)
    · go_simp
      exact lUpon_one
    subst hv
    go_simp
    refine hK _ ?_
    clear hK K
    refine lexL_step (fun K hK => ⟨by kernel_rfl, ⟨_, rfl⟩, fun n => ?_, fun v hv => ?_⟩)
    · go_simp
      exact lUpon_one
    subst hv
    go_simp
    refine hK _ ?_
    clear hK K
    refine lexL_step (fun K hK => ⟨by kernel_rfl, ⟨_, rfl⟩, fun n => ?_, fun v hv => ?_⟩)
    · go_simp
      exact lUpon_one
    subst hv
    go_simp
    refine hK _ ?_
    clear hK K
    refine lexL_step (fun K hK => ⟨by kernel_rfl, ⟨_, rfl⟩, fun n => ?_, fun v hv => ?_⟩)
    · go_simp
      exact lUpon_one
    subst hv
    go_simp
    refine hK _ ?_
    clear hK K
    refine lexL_step (fun K hK => ⟨by kernel_rfl, ⟨_, rfl⟩, fun n => ?_, fun v hv => ?_⟩)
    · go_simp
      exact lUpon_one
    subst hv
    go_simp
    refine hK _ ?_
    clear hK K
    refine lexL_step (fun K hK => ⟨by kernel_rfl, ⟨_, rfl⟩, fun n => ?_, fun v hv => ?_⟩)
    · go_simp
      exact lUpon_one
    subst hv
    go_simp
    refine hK _ ?_
    clear hK K
    refine lexL_step (fun K hK => ⟨by kernel_rfl, ⟨_, rfl⟩, fun n => ?_, fun v hv => ?_⟩)
    · go_simp
      exact lUpon_one
    subst hv
    go_simp
    refine hK _ ?_
    clear hK K
    refine lexL_step (fun K hK => ⟨by kernel_rfl, ⟨_, rfl⟩, fun n => ?_, fun v hv => ?_⟩)
    · go_simp
      exact lUpon_one
    subst hv
    go_simp
    refine hK _ ?_
    clear hK K
    refine lexL_step (fun K hK => ⟨by kernel_rfl, ⟨_, rfl⟩, fun n => ?_, fun v hv => ?_⟩)
    · go_simp
      exact lUpon_one
    subst hv
    go_simp
    refine hK _ ?_
    clear hK K
    refine lexL_step (fun K hK => ⟨by kernel_rfl, ⟨_, rfl⟩, fun n => ?_, fun v hv => ?_⟩)
    · go_simp
      exact lUpon_one
    subst hv
    go_simp
    refine hK _ ?_
    clear hK K
    refine lexL_step (fun K hK => ⟨by kernel_rfl, ⟨_, rfl⟩, fun n => ?_, fun v hv => ?_⟩)
    · go_simp
      exact lUpon_one
    subst hv
    go_simp
    refine hK _ ?_
    clear hK K
    refine lexL_step (fun K hK => ⟨by kernel_rfl, ⟨_, rfl⟩, fun n => ?_, fun v hv => ?_⟩)
    · go_simp
      exact lUpon_one
    subst hv
    go_simp
    refine hK _ ?_
    clear hK K
    refine lexL_step (fun K hK => ⟨by kernel_rfl, ⟨_, rfl⟩, fun n => ?_, fun v hv => ?_⟩)
    · go_simp
      exact lUpon_one
    subst hv
    go_simp
    refine hK _ ?_
    clear hK K
    refine lexL_step (fun K hK => ⟨by kernel_rfl, ⟨_, rfl⟩, fun n => ?_, fun v hv => ?_⟩)
    · go_simp
      exact lUpon_one
    subst hv
    go_simp
    refine hK _ ?_
    clear hK K
    refine lexL_end ?_
    intro n1
    go_wp2
    go_ret
    exact unhideR HF _ (keepB (unhideR HM) (drawn_below _ _)) ((unhideR HK).go (drawn_below _ _))
  · have HF : HeldR (∀ u, u.heap[g]? = some (.cells #[.int .i64 s.last.num, .string s.last.s, .int .i64 s.last.a, .int .i64 s.last.b, .bool false] 125) → Chg g w u → HearPost g s n w (.returned (.bool true)) u) := by
      intro u hu hk
      unfold HearPost
      rw [hn, hb]
      exact ⟨rfl, ⟨hu⟩, hk⟩
    rw [hb] at y4
    clear hb
    have hne : (n != s.last.num) = false := by unfold bne; rw [hn]; rfl
    clear hn
    go_enter Tryd.func40, Tryd.ntmps40
    go_wp2_with fail
    clear HAL
    generalize (w.alloc (.cells #[.int .i64 n, er, .int .i64 p, .int .i64 q, .int .i64 st] 72)) = W1 at *
    refine wp_region_lets [(· = .pointer (some ⟨g, 0, none⟩)),
      (· = .pointer (some ⟨g, 0, none⟩)),
      (· = .pointer (some ⟨g, 4, none⟩)),
      (· = .bool true),
      (· = .bool false),
      (· = .bool false),
      (· = .pointer (some ⟨w.heap.size, 0, none⟩)),
      (· = .int .i64 n),
      (· = .pointer (some ⟨g, 0, none⟩)),
      (· = .pointer (some ⟨g, 0, none⟩)),
      (· = .pointer (some ⟨g, 0, none⟩)),
      (· = .pointer (some ⟨g, 0, none⟩)),
      (· = .int .i64 s.last.num),
      (· = .bool false),
      (· = .bool false)] (by kernel_rfl) (by kernel_rfl) ?_
    refine lexL_step (fun K hK => ⟨by kernel_rfl, ⟨_, rfl⟩, fun n => ?_, fun v hv => ?_⟩)
    · go_simp
      exact lUpon_one
    subst hv
    go_simp
    refine hK _ ?_
    clear hK K
    refine lexL_step (fun K hK => ⟨by kernel_rfl, ⟨_, rfl⟩, fun n => ?_, fun v hv => ?_⟩)
    · go_simp
      exact lUpon_one
    subst hv
    go_simp
    refine hK _ ?_
    clear hK K
    refine lexL_step (fun K hK => ⟨by kernel_rfl, ⟨_, rfl⟩, fun n => ?_, fun v hv => ?_⟩)
    · go_simp
      exact lUpon_one
    subst hv
    go_simp
    refine hK _ ?_
    clear hK K
    refine lexL_step (fun K hK => ⟨by kernel_rfl, ⟨_, rfl⟩, fun n => ?_, fun v hv => ?_⟩)
    · go_simp
      exact lUpon_one
    subst hv
    go_simp
    refine hK _ ?_
    clear hK K
    refine lexL_step (fun K hK => ⟨by kernel_rfl, ⟨_, rfl⟩, fun n => ?_, fun v hv => ?_⟩)
    · go_simp
      exact lUpon_one
    subst hv
    go_simp
    refine hK _ ?_
    clear hK K
    refine lexL_step (fun K hK => ⟨by kernel_rfl, ⟨_, rfl⟩, fun n => ?_, fun v hv => ?_⟩)
    · go_simp
      exact lUpon_one
    subst hv
    go_simp
    refine hK _ ?_
    clear hK K
    refine lexL_step (fun K hK => ⟨by kernel_rfl, ⟨_, rfl⟩, fun n => ?_, fun v hv => ?_⟩)
    · go_simp
      exact lUpon_one
    subst hv
    go_simp
    refine hK _ ?_
    clear hK K
    refine lexL_step (fun K hK => ⟨by kernel_rfl, ⟨_, rfl⟩, fun n => ?_, fun v hv => ?_⟩)
    · go_simp
      exact lUpon_one
    subst hv
    go_simp
    refine hK _ ?_
    clear hK K
    refine lexL_step (fun K hK => ⟨by kernel_rfl, ⟨_, rfl⟩, fun n => ?_, fun v hv => ?_⟩)
    · go_simp
      exact lUpon_one
    subst hv
    go_simp
    refine hK _ ?_
    clear hK K
    refine lexL_step (fun K hK => ⟨by kernel_rfl, ⟨_, rfl⟩, fun n => ?_, fun v hv => ?_⟩)
    · go_simp
      exact lUpon_one
    subst hv
    go_simp
    refine hK _ ?_
    clear hK K
    refine lexL_step (fun K hK => ⟨by kernel_rfl, ⟨_, rfl⟩, fun n => ?_, fun v hv => ?_⟩)
    · go_simp
      exact lUpon_one
    subst hv
    go_simp
    refine hK _ ?_
    clear hK K
    refine lexL_step (fun K hK => ⟨by kernel_rfl, ⟨_, rfl⟩, fun n => ?_, fun v hv => ?_⟩)
    · go_simp
      exact lUpon_one
    subst hv
    go_simp
    refine hK _ ?_
    clear hK K
    refine lexL_step (fun K hK => ⟨by kernel_rfl, ⟨_, rfl⟩, fun n => ?_, fun v hv => ?_⟩)
    · go_simp
      exact lUpon_one
    subst hv
    go_simp
    refine hK _ ?_
    clear hK K
    refine lexL_step (fun K hK => ⟨by kernel_rfl, ⟨_, rfl⟩, fun n => ?_, fun v hv => ?_⟩)
    · go_simp
      exact lUpon_one
    subst hv
    go_simp
    refine hK _ ?_
    clear hK K
    refine lexL_step (fun K hK => ⟨by kernel_rfl, ⟨_, rfl⟩, fun n => ?_, fun v hv => ?_⟩)
    · go_simp
      exact lUpon_one
    subst hv
    go_simp
    refine hK _ ?_
    clear hK K
    refine lexL_end ?_
    intro n1
    have kD := drawn_below W1 n1
    have y4' : (W1.drewN n1).cell? ⟨g, 4, none⟩ = some (.bool true) := y4
    have y9' : (W1.drewN n1).frozen? ⟨g, 4, none⟩ = false := y9
    go_wp2
    go_ret
    exact unhideR HF _ (by rw [heap_setCell_same _ _ _ _ _ _ (keepB (unhideR HM) kD)]; rfl) (((unhideR HK).go kD).put 4 _)
theorem sn_prog : SnProg RepSn where
  low := fun h => ltB h.blk
  keep := fun h k hb => ⟨k.blk h.blk hb⟩
  new := sn_new
  ask := fun k x y h h0 h1 => sn_ask k x y h h0 h1
  again := fun h => sn_again h
  hear := fun n p q st er h1 h => sn_hear n p q st er h1 h
end Go.Proofs.YteoappoijihomahDoor
