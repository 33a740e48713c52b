/-
  The laws of pictures: what they call, and what the program's calls must answer.
-/
import Derived.Test.YtncbmkflilcdgaiGreatDoorFrStk0
import Derived.Test.YtncbmkflilcdgaiGreatDoorCodK4
namespace Go.Proofs.YtncbmkflilcdgaiGreatDoor
open Go Go.RowKit

set_option maxRecDepth 100000 in
set_option maxHeartbeats 1600000 in
theorem sameInts_any {w : World} {c1 c2 : Nat} {ad1 ad2 : Option Addr} {A : List Int} (h1 : ICame w ad1 A) (h2 : ICame w ad2 A) (hl : A.length ≤ 9223372036854775806) :
    Calls Tryz.prog 27 #[.slice ad1 A.length c1, .slice ad2 A.length c2] w fun e w' => e = .returned (.bool true) ∧ Below w.heap.size w w' := by
  have H1 := hideR h1
  have H2 := hideR h2
  have t0 : ((A.length : Int) != (A.length : Int)) = false := by simp
  clear h1 h2
  go_enter Tryz.func27, Tryz.ntmps27
  go_wp2
  go_loopw [5] (fun kv wl => ∃ k : Nat, k ≤ A.length ∧ kv = .int .i64 (k : Nat) ∧ HeldR (Below w.heap.size w wl)) (fun kv _ => A.length + 1 - (intOf kv).toNat)
  case atStart => exact ⟨0, by omega, rfl, hideR (Below.refl _ _)⟩
  case round =>
    obtain ⟨k, hk, rfl, HW⟩ := hrel
    by_cases hlt : k < A.length
    · obtain ⟨b1, o1, rfl, _, x1⟩ := ((unhideR H1).below (unhideR HW)).at_ k hlt
      obtain ⟨b2, o2, rfl, _, x2⟩ := ((unhideR H2).below (unhideR HW)).at_ k hlt
      generalize A.getD k 0 = x at x1 x2
      have t1 : (x != x) = false := by simp
      go_wp2_with fail
      refine wp_region_lets [(· = .slice (some ⟨b1, o1, none⟩) A.length c1),
        (· = .int .i64 (k : Nat)),
        (· = .pointer (some ⟨b1, o1 + k, none⟩)),
        (· = .int .i64 x),
        (· = .slice (some ⟨b2, o2, none⟩) A.length c2),
        (· = .int .i64 (k : Nat)),
        (· = .pointer (some ⟨b2, o2 + k, none⟩)),
        (· = .int .i64 x),
        (· = .bool false)] (by kernel_rfl) (by kernel_rfl) ?_
      refine lexL_step (fun K hK => ⟨by kernel_rfl, ⟨_, rfl⟩, fun n => ?_, fun v hv => ?_⟩)
      · go_simp
        exact lUpon_one
      subst hv
      go_simp
      refine hK _ ?_
      clear hK K
      refine lexL_step (fun K hK => ⟨by kernel_rfl, ⟨_, rfl⟩, fun n => ?_, fun v hv => ?_⟩)
      · go_simp
        exact lUpon_one
      subst hv
      go_simp
      refine hK _ ?_
      clear hK K
      refine lexL_step (fun K hK => ⟨by kernel_rfl, ⟨_, rfl⟩, fun n => ?_, fun v hv => ?_⟩)
      · go_simp
        exact lUpon_one
      subst hv
      go_simp
      refine hK _ ?_
      clear hK K
      refine lexL_step (fun K hK => ⟨by kernel_rfl, ⟨_, rfl⟩, fun n => ?_, fun v hv => ?_⟩)
      · go_simp
        exact lUpon_one
      subst hv
      go_simp
      refine hK _ ?_
      clear hK K
      refine lexL_step (fun K hK => ⟨by kernel_rfl, ⟨_, rfl⟩, fun n => ?_, fun v hv => ?_⟩)
      · go_simp
        exact lUpon_one
      subst hv
      go_simp
      refine hK _ ?_
      clear hK K
      refine lexL_step (fun K hK => ⟨by kernel_rfl, ⟨_, rfl⟩, fun n => ?_, fun v hv => ?_⟩)
      · go_simp
        exact lUpon_one
      subst hv
      go_simp
      refine hK _ ?_
      clear hK K
      refine lexL_step (fun K hK => ⟨by kernel_rfl, ⟨_, rfl⟩, fun n => ?_, fun v hv => ?_⟩)
      · go_simp
        exact lUpon_one
      subst hv
      go_simp
      refine hK _ ?_
      clear hK K
      refine lexL_step (fun K hK => ⟨by kernel_rfl, ⟨_, rfl⟩, fun n => ?_, fun v hv => ?_⟩)
      · go_simp
        exact lUpon_one
      subst hv
      go_simp
      refine hK _ ?_
      clear hK K
      refine lexL_step (fun K hK => ⟨by kernel_rfl, ⟨_, rfl⟩, fun n => ?_, fun v hv => ?_⟩)
      · go_simp
        exact lUpon_one
      subst hv
      go_simp
      refine hK _ ?_
      clear hK K
      refine lexL_end ?_
      intro n9
      replace HW := hideR (below_go (unhideR HW) (drawn_below wr n9))
      clear x1 x2
      go_wp2
      exact ⟨⟨k + 1, by omega, by go_num, HW⟩, by simp [intOf]; omega⟩
    · obtain rfl : k = A.length := by omega
      go_wp2
      go_ret
      exact ⟨rfl, unhideR HW⟩
/-- a picture that is handed over. -/
def PicV (w : World) (v : Value) (p : Pic) : Prop := ∃ ad cap, v = .agg #[.int .i64 p.wide, .int .i64 p.high, .slice ad p.L.length cap] ∧ ICame w ad p.L ∧ p.L.length * 8 ≤ 140737488355328
theorem PicV.below {w u : World} {v : Value} {p : Pic} (h : PicV w v p) (k : Below w.heap.size w u) : PicV u v p := by
  obtain ⟨ad, cap, e, h1, h2⟩ := h
  exact ⟨ad, cap, e, h1.below k, h2⟩
def atB (p : Pic) (x y : Int) : Bool := decide (picE p = 0) && (decide (0 ≤ x) && decide (0 ≤ y) && (decide (x < p.wide) && decide (y < p.high)))
def atV (p : Pic) (x y : Int) : Int := if atB p x y = true then p.L.getD (y * p.wide + x).toNat 0 else 0
theorem at_in {p : Pic} {x y : Int} (h : atB p x y = true) : PicOk p ∧ 0 ≤ x ∧ 0 ≤ y ∧ x < p.wide ∧ y < p.high ∧ 0 ≤ y * p.wide ∧ y * p.wide ≤ 65536 ∧ (y * p.wide + x).toNat < p.L.length := by
  unfold atB at h
  simp only [Bool.and_eq_true, decide_eq_true_eq] at h
  obtain ⟨h0, ⟨h1, h2⟩, h3, h4⟩ := h
  have k := pic_ok h0
  have a1 : (y + 1) * p.wide ≤ p.high * p.wide := Int.mul_le_mul_of_nonneg_right (by omega) (by have := k.w1; omega)
  have a2 : 0 ≤ y * p.wide := Int.mul_nonneg h2 (by have := k.w1; omega)
  have a3 := k.len
  have a4 : p.high * p.wide = p.wide * p.high := Int.mul_comm _ _
  have a5 : (y + 1) * p.wide = y * p.wide + p.wide := by rw [Int.add_mul]; omega
  have a6 := k.few
  exact ⟨k, h1, h2, h3, h4, a2, by omega, by omega⟩
/-- what At must answer of a picture (the law's first look asks for no more). -/
def FrOne (a : Nat → Addr) : Prop := ∀ {w : World} {v : Value} {p : Pic} (x y : Int), Sents w a → PicV w v p → PicOk p → Calls Tryz.prog 15 #[v, .int .i64 x, .int .i64 y] w fun e w' => e = .returned (.tuple #[.int .i64 (atV p x y), .bool (atB p x y)]) ∧ Below w.heap.size w w'
structure FrOK (a : Nat → Addr) : Prop where
  at_ : ∀ {w : World} {v : Value} {p : Pic} (x y : Int), Sents w a → PicV w v p → Calls Tryz.prog 15 #[v, .int .i64 x, .int .i64 y] w fun e w' => e = .returned (.tuple #[.int .i64 (atV p x y), .bool (atB p x y)]) ∧ Below w.heap.size w w'
  valid : ∀ {w : World} {v : Value} {p : Pic}, Sents w a → PicV w v p → Calls Tryz.prog 16 #[v] w fun e w' => ∃ er, e = .returned er ∧ ErrIs a (picE p) er ∧ Below w.heap.size w w'
theorem one_pic : atB ⟨1, 1, [7]⟩ 0 0 = true ∧ atV ⟨1, 1, [7]⟩ 0 0 = 7 := by decide +kernel
theorem FrOK.one {a : Nat → Addr} (h : FrOK a) : FrOne a := fun x y hs q _ => h.at_ x y hs q
theorem pic_one : PicOk ⟨1, 1, [7]⟩ := pic_ok (by decide +kernel)
set_option maxRecDepth 100000 in
set_option maxHeartbeats 800000 in
theorem framed_any {a : Nat → Addr} (hF : FrOne a) (w : World) (hS : Sents w a) : Calls Tryz.prog 5 #[] w fun e w' => e = .returned (.bool true) ∧ Below w.heap.size w w' := by
  have hb := below_a w (.cells #[.int .i64 7] 3)
  have hc := one_at (alloc_last w (.cells #[.int .i64 7] 3))
  have hp : PicV (w.alloc (.cells #[.int .i64 7] 3)) (.agg #[.int .i64 1, .int .i64 1, .slice (some ⟨w.heap.size, 0, none⟩) 1 1]) ⟨1, 1, [7]⟩ := ⟨_, 1, rfl, ⟨fun k hk => by
    obtain rfl : k = 0 := by simpa using hk
    exact ⟨_, _, rfl, ltB (alloc_last w _), hc⟩⟩, by decide⟩
  have h := hF 0 0 (hS.below hb (Nat.le_refl _)) hp pic_one
  rw [one_pic.1, one_pic.2] at h
  have HB := hideR hb
  clear hb hc hp hS
  go_enter Tryz.func5, Tryz.ntmps5
  go_wp2_with fail
  refine h.mono ?_
  rintro e w1 ⟨rfl, k1⟩
  replace HB := hideR (below_go (unhideR HB) k1)
  clear k1 h
  go_wp2
  go_ret
  exact ⟨rfl, unhideR HB⟩
theorem pic_three {w : World} {g : Nat} {x0 x1 x2 : Value} {ty : TypeId} (h : w.heap[g]? = some (.cells #[x0, x1, x2] ty)) : w.cell? ⟨g, 0, none⟩ = some x0 ∧ w.cell? ⟨g, 1, none⟩ = some x1 ∧ w.cell? ⟨g, 2, none⟩ = some x2 :=
  ⟨(cells_at h 0 (by simp)).1, (cells_at h 1 (by simp)).1, (cells_at h 2 (by simp)).1⟩
theorem PicAt.val {w : World} {b o cap : Nat} {ad : Option Addr} {p : Pic} (h : PicAt w b o ad cap p) (hl : p.L.length * 8 ≤ 140737488355328) : PicV w (.agg #[.int .i64 p.wide, .int .i64 p.high, .slice ad p.L.length cap]) p := ⟨ad, cap, rfl, h.row, hl⟩
end Go.Proofs.YtncbmkflilcdgaiGreatDoor
