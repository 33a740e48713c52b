/-
  A log: the program's Results, Bytes, by contract.
-/
import Derived.Test.YtfonpobdnhifganNgE4
import Derived.Lib.SliceRun
namespace Go.Proofs.Ytfonpobdnhifgan
open Go Go.RowKit

set_option maxRecDepth 100000 in
set_option maxHeartbeats 3200000 in
theorem pclone_any {w : World} {v : Value} {L : List Res} (h : w.ownsRow 0 28 3 v L.length (flatRs L)) (hL : L.length ≤ 4000) :
    Calls Try.prog 17 #[v] w fun e w' => (∃ v', e = .returned v' ∧ RsIs w' v' L) ∧ Below w.heap.size w w' := by
  obtain ⟨i0, hi0, hz0, hz1, hz2⟩ := info_parts infoNR
  have hnil := fun (u : World) (a : Option Addr) (n c : Nat) => Lib.run_eql_slice_nil (P := Try.prog) u 33 28 a n c 0 0 Try.underlying33
  rcases h.2 with ⟨e1, e2⟩ | ⟨g, cap, cur, e1, _, hgg, _⟩
  · subst e1
    have e3 : L = [] := List.length_eq_zero_iff.1 e2
    subst e3
    have HP : HeldR ((∃ v', (Ending.returned (.slice none 0 0) : Ending) = .returned v' ∧ RsIs w v' []) ∧ Below w.heap.size w w) := hideR ⟨⟨_, rfl, none, 0, rfl, ⟨fun k hk => absurd hk (Nat.not_lt_zero k)⟩⟩, Below.refl _ _⟩
    clear h
    go_enter Try.func17, Try.ntmps17
    go_wp2
    go_ret
    exact unhideR HP
  · subst e1
    have HC := hideR (RsOwn.cells (t := 28) (B := 0) (L := L) h)
    have HP : HeldR (∀ v' w', w'.ownsRow w.heap.size 28 3 v' L.length (flatRs L) → Below w.heap.size w w' → (∃ v'', (Ending.returned v' : Ending) = .returned v'' ∧ RsIs w' v'' L) ∧ Below w.heap.size w w') := hideR (fun v' w' h1 h2 => by
      obtain ⟨ad, cap, e, hc⟩ := RsOwn.came (t := 28) h1
      exact ⟨⟨v', rfl, ad, cap, e, hc⟩, h2⟩)
    have hgl := ltB hgg
    have HB := hideR (below_a w (.cells #[] 28))
    have z0 := alloc_last w (.cells #[] 28)
    have hE : (w.alloc (.cells #[] 28)).ownsRow w.heap.size 28 3 (.slice (some ⟨w.heap.size, 0, none⟩) 0 0) 0 [] := ⟨rfl, .inr ⟨_, 0, #[], rfl, Nat.le_refl _, z0, Nat.le_refl _, Nat.zero_le _, rfl, rfl⟩⟩
    obtain ⟨n, hn⟩ : ∃ n, L.length = n := ⟨_, rfl⟩
    have HCl := hideR (flatRs_length L)
    rw [hn] at hL HP HCl ⊢
    clear h
    go_enter Try.func17, Try.ntmps17
    go_wp2_with (first
        | (at_builtin; refine wpList_append_own _ rfl _ _ 33 rfl w.heap.size 28 i0 (.agg #[.int .i64 0, .int .i64 0, .int .i64 0]) 3 24 Try.underlying33 hi0 hz0 hz1 hz2 rfl (by decide) _ 0 [] rfl hE ⟨g, 0, none⟩ n cap (flatRs L) rfl (unhideR HCl) ?c1 (flatRs_one L) ?c3 ?c4 ?c5 ?_))
    case c1 =>
      intro j u hu
      have h1 := unhideR HC j u hu
      rw [add_pl2] at h1 ⊢
      exact ((unhideR HB).cell (p := ⟨g, 0 + j, none⟩) hgl).trans h1
    case c3 => unfold maxLen; omega
    case c4 => omega
    case c5 => simp
    intro v' w1 hown hgrow _
    have HQ := hideR (unhideR HP v' w1 hown ((unhideR HB).grown hgrow (by simp) (fun k e => by
      injection e with e
      have e : w.heap.size = k := e
      omega)))
    clear hown hgrow HP HB HC HCl hE
    go_wp2
    go_ret
    exact unhideR HQ
set_option maxRecDepth 100000 in
set_option maxHeartbeats 3200000 in
theorem presults_any {w : World} {p : Nat} {L : List Res} {O : Nat → Prop} (h : LRep w p L O) (hL : L.length ≤ 4000) :
    Calls Try.prog 9 #[.pointer (some ⟨p, 0, none⟩)] w fun e w' => (∃ v, e = .returned v ∧ RsIs w' v L) ∧ Below w.heap.size w w' := by
  obtain ⟨v, hx, _⟩ := h
  have hc := pclone_any hx.st hL
  have c0 := (cells_at hx.hp 0 (by simp)).1
  obtain ⟨ad, cap, ev⟩ := ownsRow_slice hx.st
  subst ev
  clear hx
  go_enter Try.func9, Try.ntmps9
  go_wp2_with fail
  refine hc.mono ?_
  rintro r u ⟨⟨v', rfl, h1⟩, h2⟩
  have H1 := hideR h1
  have H2 := hideR h2
  clear h1 h2 hc
  go_wp2
  go_ret
  exact ⟨⟨_, rfl, unhideR H1⟩, unhideR H2⟩
theorem make_bytes {w : World} {m : Nat} (hm : m ≤ 1000000) : ∃ w', (Instr.makeSlice 23 (.int .i64 0) (.int .i64 (m : Int))).run Try.prog w = .ok (.slice (some ⟨w.heap.size, 0, none⟩) 0 m) w' ∧ BOwn w' w.heap.size (.slice (some ⟨w.heap.size, 0, none⟩) 0 m) [] ∧ Below w.heap.size w w' := by
  obtain ⟨i, hi, hz, h1, h2⟩ := info_parts infoB
  obtain ⟨w', a1, a2, a3⟩ := run_make_own (P := Try.prog) w w.heap.size 23 5 i (.int .u8 0) 1 Try.underlying23 hi hz h1 .i64 .i64 m (by rw [h2]; omega) (by simp [maxLen]; omega) (Nat.le_refl _)
  exact ⟨w', a1, a2, (Below.refl _ _).grown a3 (Nat.le_refl _) (fun k hk => by cases hk)⟩
end Go.Proofs.Ytfonpobdnhifgan
