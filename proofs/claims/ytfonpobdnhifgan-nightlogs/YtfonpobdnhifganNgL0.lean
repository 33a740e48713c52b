/-
  What the law of logs asks: results held against each other; what the program's log must do.
-/
import Derived.Test.YtfonpobdnhifganNgD3
namespace Go.Proofs.Ytfonpobdnhifgan
open Go Go.RowKit

set_option maxRecDepth 100000 in
set_option maxHeartbeats 3200000 in
theorem sameResults_any {w : World} {c1 c2 : Nat} {a1 a2 : Option Addr} {L : List Res} (h1 : RsCame w a1 L) (h2 : RsCame w a2 L) (hl : L.length ≤ 4000) :
    Calls Try.prog 8 #[.slice a1 L.length c1, .slice a2 L.length c2] w fun e w' => e = .returned (.bool true) ∧ Below w.heap.size w w' := by
  have H1 := hideR h1
  have H2 := hideR h2
  clear h1 h2
  have t0 : ((L.length : Int) != (L.length : Int)) = false := by simp
  go_enter Try.func8, Try.ntmps8
  go_wp2
  go_loopw [5] (fun iv wl => ∃ i : Nat, i ≤ L.length ∧ iv = .int .i64 (i : Nat) ∧ HeldR (Below w.heap.size w wl)) (fun iv _ => L.length + 1 - (intOf iv).toNat)
  case atStart => exact ⟨0, by omega, rfl, hideR (Below.refl _ _)⟩
  case round =>
    obtain ⟨i, hi, rfl, HK⟩ := hrel
    by_cases hil : i < L.length
    · have ti : decide ((i : Int) < (L.length : Nat)) = true := decide_eq_true (by omega)
      have tin : decide (i < L.length) = true := decide_eq_true hil
      have wi : IntKind.i64.wrap ((i : Int) + 1) = (i : Int) + 1 := iwrap (by omega) (by omega)
      obtain ⟨b1, o1, rfl, _, x⟩ := ((unhideR H1).below (unhideR HK)).at_ i hil
      obtain ⟨b2, o2, rfl, _, y⟩ := ((unhideR H2).below (unhideR HK)).at_ i hil
      generalize L.getD i res0 = r at *
      obtain ⟨x0, x1, x2⟩ := x
      obtain ⟨y0, y1, y2⟩ := y
      go_wp2_with fail
      refine wp_region_lets [(· = .slice (some ⟨b1, o1, none⟩) L.length c1),
        (· = .int .i64 (i : Nat)),
        (· = .pointer (some ⟨b1, o1 + i * 3, none⟩)),
        (· = .pointer (some ⟨b1, o1 + i * 3, none⟩)),
        (· = .int .i64 r.i),
        (· = .slice (some ⟨b2, o2, none⟩) L.length c2),
        (· = .int .i64 (i : Nat)),
        (· = .pointer (some ⟨b2, o2 + i * 3, none⟩)),
        (· = .pointer (some ⟨b2, o2 + i * 3, none⟩)),
        (· = .int .i64 r.i),
        (· = .bool false),
        (· = .bool false),
        (· = .slice (some ⟨b1, o1, none⟩) L.length c1),
        (· = .int .i64 (i : Nat)),
        (· = .pointer (some ⟨b1, o1 + i * 3, none⟩)),
        (· = .pointer (some ⟨b1, o1 + i * 3 + 1, none⟩)),
        (· = .int .i64 r.s),
        (· = .slice (some ⟨b2, o2, none⟩) L.length c2),
        (· = .int .i64 (i : Nat)),
        (· = .pointer (some ⟨b2, o2 + i * 3, none⟩)),
        (· = .pointer (some ⟨b2, o2 + i * 3 + 1, none⟩)),
        (· = .int .i64 r.s),
        (· = .bool false),
        (· = .bool false),
        (· = .bool false),
        (· = .slice (some ⟨b1, o1, none⟩) L.length c1),
        (· = .int .i64 (i : Nat)),
        (· = .pointer (some ⟨b1, o1 + i * 3, none⟩)),
        (· = .pointer (some ⟨b1, o1 + i * 3 + 2, none⟩)),
        (· = .int .i64 r.l),
        (· = .slice (some ⟨b2, o2, none⟩) L.length c2),
        (· = .int .i64 (i : Nat)),
        (· = .pointer (some ⟨b2, o2 + i * 3, none⟩)),
        (· = .pointer (some ⟨b2, o2 + i * 3 + 2, none⟩)),
        (· = .int .i64 r.l),
        (· = .bool false),
        (· = .bool false)] (by kernel_rfl) (by kernel_rfl) ?_
      refine lexL_step (fun K hK => ⟨by kernel_rfl, ⟨_, rfl⟩, fun n => ?_, fun v hv => ?_⟩)
      · go_simp
        exact lUpon_one
      subst hv
      go_simp
      refine hK _ ?_
      clear hK K
      refine lexL_step (fun K hK => ⟨by kernel_rfl, ⟨_, rfl⟩, fun n => ?_, fun v hv => ?_⟩)
      · go_simp
        exact lUpon_one
      subst hv
      go_simp
      refine hK _ ?_
      clear hK K
      refine lexL_step (fun K hK => ⟨by kernel_rfl, ⟨_, rfl⟩, fun n => ?_, fun v hv => ?_⟩)
      · go_simp
        exact lUpon_one
      subst hv
      go_simp
      refine hK _ ?_
      clear hK K
      refine lexL_step (fun K hK => ⟨by kernel_rfl, ⟨_, rfl⟩, fun n => ?_, fun v hv => ?_⟩)
      · go_simp
        exact lUpon_one
      subst hv
      go_simp
      refine hK _ ?_
      clear hK K
      refine lexL_step (fun K hK => ⟨by kernel_rfl, ⟨_, rfl⟩, fun n => ?_, fun v hv => ?_⟩)
      · have q9 : (wr.drewN n).cell? ⟨b1, o1 + i * 3, none⟩ = some (.int .i64 r.i) := x0
        go_simp
        exact lUpon_one
      subst hv
      go_simp
      refine hK _ ?_
      clear hK K
      refine lexL_step (fun K hK => ⟨by kernel_rfl, ⟨_, rfl⟩, fun n => ?_, fun v hv => ?_⟩)
      · go_simp
        exact lUpon_one
      subst hv
      go_simp
      refine hK _ ?_
      clear hK K
      refine lexL_step (fun K hK => ⟨by kernel_rfl, ⟨_, rfl⟩, fun n => ?_, fun v hv => ?_⟩)
      · go_simp
        exact lUpon_one
      subst hv
      go_simp
      refine hK _ ?_
      clear hK K
      refine lexL_step (fun K hK => ⟨by kernel_rfl, ⟨_, rfl⟩, fun n => ?_, fun v hv => ?_⟩)
      · go_simp
        exact lUpon_one
      subst hv
      go_simp
      refine hK _ ?_
      clear hK K
      refine lexL_step (fun K hK => ⟨by kernel_rfl, ⟨_, rfl⟩, fun n => ?_, fun v hv => ?_⟩)
      · go_simp
        exact lUpon_one
      subst hv
      go_simp
      refine hK _ ?_
      clear hK K
      refine lexL_step (fun K hK => ⟨by kernel_rfl, ⟨_, rfl⟩, fun n => ?_, fun v hv => ?_⟩)
      · have q9 : (wr.drewN n).cell? ⟨b2, o2 + i * 3, none⟩ = some (.int .i64 r.i) := y0
        go_simp
        exact lUpon_one
      subst hv
      go_simp
      refine hK _ ?_
      clear hK K
      refine lexL_step (fun K hK => ⟨by kernel_rfl, ⟨_, rfl⟩, fun n => ?_, fun v hv => ?_⟩)
      · go_simp
        exact lUpon_one
      subst hv
      go_simp
      refine hK _ ?_
      clear hK K
      refine lexL_step (fun K hK => ⟨by kernel_rfl, ⟨_, rfl⟩, fun n => ?_, fun v hv => ?_⟩)
      · go_simp
        exact lUpon_one
      subst hv
      go_simp
      refine hK _ ?_
      clear hK K
      refine lexL_step (fun K hK => ⟨by kernel_rfl, ⟨_, rfl⟩, fun n => ?_, fun v hv => ?_⟩)
      · go_simp
        exact lUpon_one
      subst hv
      go_simp
      refine hK _ ?_
      clear hK K
      refine lexL_step (fun K hK => ⟨by kernel_rfl, ⟨_, rfl⟩, fun n => ?_, fun v hv => ?_⟩)
      · go_simp
        exact lUpon_one
      subst hv
      go_simp
      refine hK _ ?_
      clear hK K
      refine lexL_step (fun K hK => ⟨by kernel_rfl, ⟨_, rfl⟩, fun n => ?_, fun v hv => ?_⟩)
      · go_simp
        exact lUpon_one
      subst hv
      go_simp
      refine hK _ ?_
      clear hK K
      refine lexL_step (fun K hK => ⟨by kernel_rfl, ⟨_, rfl⟩, fun n => ?_, fun v hv => ?_⟩)
      · go_simp
        exact lUpon_one
      subst hv
      go_simp
      refine hK _ ?_
      clear hK K
      refine lexL_step (fun K hK => ⟨by kernel_rfl, ⟨_, rfl⟩, fun n => ?_, fun v hv => ?_⟩)
      · have q9 : (wr.drewN n).cell? ⟨b1, o1 + i * 3 + 1, none⟩ = some (.int .i64 r.s) := x1
        go_simp
        exact lUpon_one
      subst hv
      go_simp
      refine hK _ ?_
      clear hK K
      refine lexL_step (fun K hK => ⟨by kernel_rfl, ⟨_, rfl⟩, fun n => ?_, fun v hv => ?_⟩)
      · go_simp
        exact lUpon_one
      subst hv
      go_simp
      refine hK _ ?_
      clear hK K
      refine lexL_step (fun K hK => ⟨by kernel_rfl, ⟨_, rfl⟩, fun n => ?_, fun v hv => ?_⟩)
      · go_simp
        exact lUpon_one
      subst hv
      go_simp
      refine hK _ ?_
      clear hK K
      refine lexL_step (fun K hK => ⟨by kernel_rfl, ⟨_, rfl⟩, fun n => ?_, fun v hv => ?_⟩)
      · go_simp
        exact lUpon_one
      subst hv
      go_simp
      refine hK _ ?_
      clear hK K
      refine lexL_step (fun K hK => ⟨by kernel_rfl, ⟨_, rfl⟩, fun n => ?_, fun v hv => ?_⟩)
      · go_simp
        exact lUpon_one
      subst hv
      go_simp
      refine hK _ ?_
      clear hK K
      refine lexL_step (fun K hK => ⟨by kernel_rfl, ⟨_, rfl⟩, fun n => ?_, fun v hv => ?_⟩)
      · have q9 : (wr.drewN n).cell? ⟨b2, o2 + i * 3 + 1, none⟩ = some (.int .i64 r.s) := y1
        go_simp
        exact lUpon_one
      subst hv
      go_simp
      refine hK _ ?_
      clear hK K
      refine lexL_step (fun K hK => ⟨by kernel_rfl, ⟨_, rfl⟩, fun n => ?_, fun v hv => ?_⟩)
      · go_simp
        exact lUpon_one
      subst hv
      go_simp
      refine hK _ ?_
      clear hK K
      refine lexL_step (fun K hK => ⟨by kernel_rfl, ⟨_, rfl⟩, fun n => ?_, fun v hv => ?_⟩)
      · go_simp
        exact lUpon_one
      subst hv
      go_simp
      refine hK _ ?_
      clear hK K
      refine lexL_step (fun K hK => ⟨by kernel_rfl, ⟨_, rfl⟩, fun n => ?_, fun v hv => ?_⟩)
      · go_simp
        exact lUpon_one
      subst hv
      go_simp
      refine hK _ ?_
      clear hK K
      refine lexL_step (fun K hK => ⟨by kernel_rfl, ⟨_, rfl⟩, fun n => ?_, fun v hv => ?_⟩)
      · go_simp
        exact lUpon_one
      subst hv
      go_simp
      refine hK _ ?_
      clear hK K
      refine lexL_step (fun K hK => ⟨by kernel_rfl, ⟨_, rfl⟩, fun n => ?_, fun v hv => ?_⟩)
      · go_simp
        exact lUpon_one
      subst hv
      go_simp
      refine hK _ ?_
      clear hK K
      refine lexL_step (fun K hK => ⟨by kernel_rfl, ⟨_, rfl⟩, fun n => ?_, fun v hv => ?_⟩)
      · go_simp
        exact lUpon_one
      subst hv
      go_simp
      refine hK _ ?_
      clear hK K
      refine lexL_step (fun K hK => ⟨by kernel_rfl, ⟨_, rfl⟩, fun n => ?_, fun v hv => ?_⟩)
      · go_simp
        exact lUpon_one
      subst hv
      go_simp
      refine hK _ ?_
      clear hK K
      refine lexL_step (fun K hK => ⟨by kernel_rfl, ⟨_, rfl⟩, fun n => ?_, fun v hv => ?_⟩)
      · have q9 : (wr.drewN n).cell? ⟨b1, o1 + i * 3 + 2, none⟩ = some (.int .i64 r.l) := x2
        go_simp
        exact lUpon_one
      subst hv
      go_simp
      refine hK _ ?_
      clear hK K
      refine lexL_step (fun K hK => ⟨by kernel_rfl, ⟨_, rfl⟩, fun n => ?_, fun v hv => ?_⟩)
      · go_simp
        exact lUpon_one
      subst hv
      go_simp
      refine hK _ ?_
      clear hK K
      refine lexL_step (fun K hK => ⟨by kernel_rfl, ⟨_, rfl⟩, fun n => ?_, fun v hv => ?_⟩)
      · go_simp
        exact lUpon_one
      subst hv
      go_simp
      refine hK _ ?_
      clear hK K
      refine lexL_step (fun K hK => ⟨by kernel_rfl, ⟨_, rfl⟩, fun n => ?_, fun v hv => ?_⟩)
      · go_simp
        exact lUpon_one
      subst hv
      go_simp
      refine hK _ ?_
      clear hK K
      refine lexL_step (fun K hK => ⟨by kernel_rfl, ⟨_, rfl⟩, fun n => ?_, fun v hv => ?_⟩)
      · go_simp
        exact lUpon_one
      subst hv
      go_simp
      refine hK _ ?_
      clear hK K
      refine lexL_step (fun K hK => ⟨by kernel_rfl, ⟨_, rfl⟩, fun n => ?_, fun v hv => ?_⟩)
      · have q9 : (wr.drewN n).cell? ⟨b2, o2 + i * 3 + 2, none⟩ = some (.int .i64 r.l) := y2
        go_simp
        exact lUpon_one
      subst hv
      go_simp
      refine hK _ ?_
      clear hK K
      refine lexL_step (fun K hK => ⟨by kernel_rfl, ⟨_, rfl⟩, fun n => ?_, fun v hv => ?_⟩)
      · go_simp
        exact lUpon_one
      subst hv
      go_simp
      refine hK _ ?_
      clear hK K
      refine lexL_step (fun K hK => ⟨by kernel_rfl, ⟨_, rfl⟩, fun n => ?_, fun v hv => ?_⟩)
      · go_simp
        exact lUpon_one
      subst hv
      go_simp
      refine hK _ ?_
      clear hK K
      refine lexL_end ?_
      intro n9
      have HK2 := hideR (below_go (unhideR HK) (drawn_below wr n9))
      clear x0 x1 x2 y0 y1 y2 HK
      generalize wr.drewN n9 = v at *
      go_wp2
      exact ⟨⟨i + 1, by omega, by go_num, HK2⟩, by simp [intOf]; omega⟩
    · obtain rfl : i = L.length := by omega
      have ti : decide ((L.length : Int) < (L.length : Nat)) = false := decide_eq_false (by omega)
      go_wp2
      go_ret
      exact ⟨rfl, unhideR HK⟩
/-- of the blocks O alone something is changed. -/
structure Oth (O : Nat → Prop) (w w' : World) : Prop where
  os : w'.os = w.os
  tape : w'.tape = w.tape
  output : w'.output = w.output
  size : w.heap.size ≤ w'.heap.size
  block : ∀ k, k < w.heap.size → ¬ O k → w'.heap[k]? = w.heap[k]?
theorem Oth.below {O : Nat → Prop} {w0 w w' : World} {B : Nat} (h : Oth O w w') (hB : ∀ k, O k → B ≤ k) (k : Below B w0 w) (hs : B ≤ w0.heap.size) : Below B w0 w' :=
  ⟨h.os.trans k.os, h.tape.trans k.tape, h.output.trans k.output, Nat.le_trans k.size h.size, fun j hj => (h.block j (Nat.lt_of_lt_of_le hj (Nat.le_trans hs k.size)) (fun q => absurd (hB j q) (by omega))).trans (k.block j hj)⟩
def Res.val (r : Res) : Value := .agg #[.int .i64 r.i, .int .i64 r.s, .int .i64 r.l]
/-- how a log of the program lies in memory: at a pointer's block, its results, in some blocks. -/
abbrev RepG := World → Nat → List Res → (Nat → Prop) → Prop
def ByIs (w : World) (v : Value) (l : Bs) : Prop := ∃ ad cap, v = .slice ad l.length cap ∧ BAt w ad l ∧ l.length ≤ cap ∧ ((ad = none ∧ l.length = 0 ∧ cap = 0) ∨ ∃ b off, ad = some ⟨b, off, none⟩)
def RsIs (w : World) (v : Value) (L : List Res) : Prop := ∃ ad cap, v = .slice ad L.length cap ∧ RsCame w ad L
structure LgProg (Rep : RepG) : Prop where
  low : ∀ {w p L O}, Rep w p L O → ∀ k, O k → k < w.heap.size
  keep : ∀ {w w' p L O}, Rep w p L O → (∀ k, O k → w'.heap[k]? = w.heap[k]?) → Rep w' p L O
  new : ∀ w : World, Calls Try.prog 4 #[] w fun e w' => ∃ p O, e = .returned (.pointer (some ⟨p, 0, none⟩)) ∧ Rep w' p [] O ∧ (∀ k, O k → w.heap.size ≤ k) ∧ Below w.heap.size w w'
  note : ∀ {w p L O}, Rep w p L O → L.length ≤ 100 → ∀ r : Res, r.in → Calls Try.prog 5 #[.pointer (some ⟨p, 0, none⟩), r.val] w fun e w' => ∃ O', e = .returned (.tuple #[]) ∧ Rep w' p (L ++ [r]) O' ∧ (∀ k, O' k → O k ∨ w.heap.size ≤ k) ∧ Oth O w w'
  bytes : ∀ {w p L O}, Rep w p L O → L.length ≤ 100 → Calls Try.prog 6 #[.pointer (some ⟨p, 0, none⟩)] w fun e w' => (∃ v, e = .returned v ∧ ByIs w' v (logV L)) ∧ Below w.heap.size w w'
  results : ∀ {w p L O}, Rep w p L O → L.length ≤ 100 → Calls Try.prog 9 #[.pointer (some ⟨p, 0, none⟩)] w fun e w' => (∃ v, e = .returned v ∧ RsIs w' v L) ∧ Below w.heap.size w w'
  recover_ : ∀ {w : World} {ad : Option Addr} {cap : Nat} {b : Bs}, BAt w ad b → b.length ≤ 2000 → b.length ≤ cap → Calls Try.prog 10 #[.slice ad b.length cap] w fun e w' => ∃ p O, e = .returned (.tuple #[.pointer (some ⟨p, 0, none⟩), .int .i64 ((resV b).length : Nat)]) ∧ Rep w' p (resV b) O ∧ (∀ k, O k → w.heap.size ≤ k) ∧ Below w.heap.size w w'
theorem LgProg.below {Rep : RepG} (h : LgProg Rep) {w w' : World} {p : Nat} {L : List Res} {O : Nat → Prop} (r : Rep w p L O) (k : Below w.heap.size w w') : Rep w' p L O := h.keep r (fun j hj => k.block j (h.low r j hj))
theorem resF_len (b : Bs) : ∀ f k M, 28 * M.length ≤ b.length → 28 * (resF b f k M).length ≤ b.length ∨ k ≠ M.length
  | 0, k, M, h => .inl h
  | f + 1, k, M, h => by
    by_cases e : k = M.length
    · left
      subst e
      unfold resF
      split
      · split
        · rename_i h1 h2
          have := resF_len b f (M.length + 1) (M ++ [resAt (nxB b M.length)]) (by rw [List.length_append]; exact h1)
          rcases this with h3 | h3
          · exact h3
          · exact absurd (by rw [List.length_append]; rfl) h3
        · exact h
      · exact h
    · exact .inr e
theorem resV_len (b : Bs) : 28 * (resV b).length ≤ b.length := by
  rcases resF_len b (b.length + 1) 0 [] (by simp) with h | h
  · exact h
  · exact absurd rfl h
end Go.Proofs.Ytfonpobdnhifgan
