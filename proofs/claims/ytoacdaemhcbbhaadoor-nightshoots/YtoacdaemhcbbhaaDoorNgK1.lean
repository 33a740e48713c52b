/-
  Spans for the program: the law's spans, by contract.
-/
import Derived.Test.YtoacdaemhcbbhaaDoorNgG2
namespace Go.Proofs.YtoacdaemhcbbhaaDoor
open Go Go.RowKit

def SlP (v : Value) : Prop := ∃ g : Nat, v = .slice (some ⟨g, 0, none⟩) 1 1
def OneP (s : Spn) (v : Value) (w : World) : Prop := ∀ g : Nat, v = .slice (some ⟨g, 0, none⟩) 1 1 → w.heap[g]? = some (.cells #[.int .i64 s.f, .int .i64 s.t] 69)
theorem oneP_stb (s : Spn) (v : Value) : Stb (OneP s v) := fun _ _ h k g q => keepB (h g q) k
def LspPost (ws : List Spn) (w : World) (e : Ending) (w' : World) : Prop := (∃ v, e = .returned v ∧ w'.ownsRow w.heap.size 69 2 v ws.length (flatSp ws)) ∧ Below w.heap.size w w'
set_option maxRecDepth 100000 in
set_option maxHeartbeats 6400000 in
theorem lspans_any {w : World} {ws : List Spn} {a2 : Option Addr} {c2 : Nat} (hs : SpCame w a2 ws) (hn : ws.length ≤ 4000) :
    Calls Tryd.prog 27 #[.slice a2 ws.length c2] w (LspPost ws w) := by
  obtain ⟨i0, hi0, hz0, hz1, hz2⟩ := info_parts infoSpP
  have HL : HeldR (∀ u, Below w.heap.size w u → SpCame u a2 ws) := hideR (fun u q => hs.below q)
  have HP : HeldR (∀ v w', w'.ownsRow w.heap.size 69 2 v (ws.take ws.length).length (flatSp (ws.take ws.length)) → Below w.heap.size w w' → LspPost ws w (.returned v) w') := hideR (fun v w' h1 h2 => by rw [List.take_length] at h1; exact ⟨⟨v, rfl, h1⟩, h2⟩)
  have HT : HeldR (∀ k, k < ws.length → ws.take (k + 1) = ws.take k ++ [ws.getD k sp0]) := hideR (fun k hk => Sptake hk)
  have HTl : HeldR (∀ k, k ≤ ws.length → (ws.take k).length = k) := hideR (fun k hk => by rw [List.length_take]; omega)
  have HO0 : HeldR (w.ownsRow w.heap.size 69 2 (.slice none 0 0) (ws.take 0).length (flatSp (ws.take 0))) := hideR (World.ownsRow_nil _ _ _ _)
  generalize LspPost ws w = POST at *
  obtain ⟨n, hn0⟩ : ∃ n, ws.length = n := ⟨_, rfl⟩
  have Hn := hideR hn0
  rw [hn0] at HP HT HTl hn ⊢
  clear hs hn0
  go_enter Tryd.func27, Tryd.ntmps27
  go_wp2_with fail
  go_loopw [3, 4] (fun ov iv wl => ∃ i : Nat, i ≤ n ∧ iv = .int .i64 (i : Nat) ∧ HeldR (wl.ownsRow w.heap.size 69 2 ov (ws.take i).length (flatSp (ws.take i))) ∧ HeldR (Below w.heap.size w wl)) (fun _ iv _ => n + 1 - (intOf iv).toNat)
  case atStart => exact ⟨0, by omega, rfl, HO0, hideR (Below.refl _ _)⟩
  case round =>
    clear HO0
    obtain ⟨i, hi, rfl, HO, HB⟩ := hrel
    by_cases q : i < n
    case neg =>
      obtain rfl : i = n := by omega
      have ti : decide ((i : Int) < (i : Int)) = false := decide_eq_false (by omega)
      have tin : decide (i < i) = false := decide_eq_false (by omega)
      have HQ := hideR (unhideR HP _ _ (unhideR HO) (unhideR HB))
      clear HO HB HP HT HTl HL
      go_wp2
      exact unhideR HQ
    have ti : decide ((i : Int) < (n : Int)) = true := decide_eq_true (by omega)
    have tin : decide (i < n) = true := decide_eq_true q
    have wi : IntKind.i64.wrap ((i : Int) + 1) = (i : Int) + 1 := iwrap (by omega) (by omega)
    have hii : (i : Int) < (n : Int) := by omega
    have HT2 := hideR (unhideR HT i q)
    have hti := unhideR HTl i hi
    have Hti := hideR hti
    rw [hti] at HO
    clear hti
    obtain ⟨bb, off, had, hbb, hS⟩ := (unhideR HL wr (unhideR HB)).at_ i (by rw [unhideR Hn]; exact q)
    subst had
    have HY : HeldR (∀ v, Below wr.heap.size wr v → v.cell? ⟨bb, off + i * 2, none⟩ = some (.int .i64 (ws.getD i sp0).f) ∧ v.cell? ⟨bb, off + i * 2 + 1, none⟩ = some (.int .i64 (ws.getD i sp0).t)) := hideR (fun v hv => ⟨(hv.cell (p := ⟨bb, off + i * 2, none⟩) hbb).trans hS.c0, (hv.cell (p := ⟨bb, off + i * 2 + 1, none⟩) hbb).trans hS.c1⟩)
    clear hS
    generalize ws.getD i sp0 = s at *
    obtain ⟨ap, cp, ep⟩ := ownsRow_slice (unhideR HO)
    subst ep
    go_upto_region 5 with fail
    refine wp_region_made 1 #[true, true, true, true, true, true, true, true, true, true, true, true, true, false, false] [.lets (· = .slice ap i cp),
      .lets (· = .slice (some ⟨bb, off, none⟩) n c2),
      .lets (· = .int .i64 (i : Nat)),
      .lets (· = .pointer (some ⟨bb, off + i * 2, none⟩)),
      .lets (· = .pointer (some ⟨bb, off + i * 2, none⟩)),
      .lets (· = .int .i64 s.f),
      .lets (· = .slice (some ⟨bb, off, none⟩) n c2),
      .lets (· = .int .i64 (i : Nat)),
      .lets (· = .pointer (some ⟨bb, off + i * 2, none⟩)),
      .lets (· = .pointer (some ⟨bb, off + i * 2 + 1, none⟩)),
      .lets (· = .int .i64 s.t),
      .lets (· = .agg #[.int .i64 s.f, .int .i64 s.t]),
      .made SlP (OneP s)] [12] [] (by kernel_rfl) (by kernel_rfl) rfl ?kinds (by kernel_rfl) (by kernel_rfl) (by kernel_rfl) ?_
    case kinds =>
      constructor
      · intro i h
        rcases i with _ | _ | _ | _ | _ | _ | _ | _ | _ | _ | _ | _ | _ | i <;> simp [Kx.isMade] at h ⊢
      · intro i h
        rcases i with _ | _ | _ | _ | _ | _ | _ | _ | _ | _ | _ | _ | _ | i <;> simp [Kx.isUse] at h
    refine lexX_step (fun K hK => ⟨by kernel_rfl, ⟨_, rfl⟩, fun v hv => ?_, fun v hv => ?_⟩)
    · go_simp
      exact mUpon_b
    subst hv
    go_simp
    refine hK _ ?_
    clear hK K
    refine lexX_step (fun K hK => ⟨by kernel_rfl, ⟨_, rfl⟩, fun v hv => ?_, fun v hv => ?_⟩)
    · go_simp
      exact mUpon_b
    subst hv
    go_simp
    refine hK _ ?_
    clear hK K
    refine lexX_step (fun K hK => ⟨by kernel_rfl, ⟨_, rfl⟩, fun v hv => ?_, fun v hv => ?_⟩)
    · go_simp
      exact mUpon_b
    subst hv
    go_simp
    refine hK _ ?_
    clear hK K
    refine lexX_step (fun K hK => ⟨by kernel_rfl, ⟨_, rfl⟩, fun v hv => ?_, fun v hv => ?_⟩)
    · go_simp
      exact mUpon_b
    subst hv
    go_simp
    refine hK _ ?_
    clear hK K
    refine lexX_step (fun K hK => ⟨by kernel_rfl, ⟨_, rfl⟩, fun v hv => ?_, fun v hv => ?_⟩)
    · go_simp
      exact mUpon_b
    subst hv
    go_simp
    refine hK _ ?_
    clear hK K
    refine lexX_step (fun K hK => ⟨by kernel_rfl, ⟨_, rfl⟩, fun v hv => ?_, fun v hv => ?_⟩)
    · have y9 := (unhideR HY v hv).1
      go_simp
      exact mUpon_b
    subst hv
    go_simp
    refine hK _ ?_
    clear hK K
    refine lexX_step (fun K hK => ⟨by kernel_rfl, ⟨_, rfl⟩, fun v hv => ?_, fun v hv => ?_⟩)
    · go_simp
      exact mUpon_b
    subst hv
    go_simp
    refine hK _ ?_
    clear hK K
    refine lexX_step (fun K hK => ⟨by kernel_rfl, ⟨_, rfl⟩, fun v hv => ?_, fun v hv => ?_⟩)
    · go_simp
      exact mUpon_b
    subst hv
    go_simp
    refine hK _ ?_
    clear hK K
    refine lexX_step (fun K hK => ⟨by kernel_rfl, ⟨_, rfl⟩, fun v hv => ?_, fun v hv => ?_⟩)
    · go_simp
      exact mUpon_b
    subst hv
    go_simp
    refine hK _ ?_
    clear hK K
    refine lexX_step (fun K hK => ⟨by kernel_rfl, ⟨_, rfl⟩, fun v hv => ?_, fun v hv => ?_⟩)
    · go_simp
      exact mUpon_b
    subst hv
    go_simp
    refine hK _ ?_
    clear hK K
    refine lexX_step (fun K hK => ⟨by kernel_rfl, ⟨_, rfl⟩, fun v hv => ?_, fun v hv => ?_⟩)
    · have y9 := (unhideR HY v hv).2
      go_simp
      exact mUpon_b
    subst hv
    go_simp
    refine hK _ ?_
    clear hK K
    refine lexX_step (fun K hK => ⟨by kernel_rfl, ⟨_, rfl⟩, fun v hv => ?_, fun v hv => ?_⟩)
    · go_simp
      exact mUpon_b
    subst hv
    go_simp
    refine hK _ ?_
    clear hK K
    refine lexX_made ⟨by kernel_rfl, ⟨_, 0, rfl⟩, oneP_stb _, fun v hv => ?_, ?_⟩
    · go_simp
      exact ⟨below_a v _, ⟨_, rfl⟩, fun q' hq' => by cases hq'; exact alloc_last v _⟩
    rintro _ ⟨u9, rfl⟩ K9 hK
    go_simp
    refine hK _ ?_
    clear hK K9
    refine lexX_end (fun v5 hv => ?_)
    have z9 := hv.fact.2 _ rfl
    have hO5 := own_below2 (unhideR HO) hv.low
    have HO5 := hideR hO5
    have HB5 := hideR ((unhideR HB).trans (hv.low.mono (unhideR HB).size))
    clear hv HY
    refine wpAny_step (i := 13) (by kernel_rfl) rfl (by kernel_rfl) (fun K hK => ?_)
    refine wp_append_at _ _ 70 rfl w.heap.size 69 i0 (.agg #[.int .i64 0, .int .i64 0]) 2 16 Tryd.underlying70 hi0 hz0 hz1 hz2 rfl (by decide) _ i (flatSp (ws.take i)) rfl hO5 ⟨u9, 0, none⟩ 1 1 (valSp s) rfl rfl ?q1 ?q2 ?q3 ?q4 ?q5 ?_
    case q1 =>
      intro j u hu
      rw [add_pl2, Nat.zero_add]
      rcases j with _ | _ | j
      · rw [← hu]; exact (cells_at z9 0 (by simp)).1
      · rw [← hu]; exact (cells_at z9 1 (by simp)).1
      · simp [valSp] at hu
    case q2 =>
      intro u hu
      simp only [valSp, List.mem_cons, List.not_mem_nil, or_false] at hu
      rcases hu with rfl | rfl <;> rfl
    case q3 => unfold maxLen; omega
    case q4 => omega
    case q5 => exact (unhideR HB5).size
    intro v6 w6 hown hgrow hloc
    have HB9 := hideR ((unhideR HB5).grown hgrow (unhideR HB5).size (fun k e => ((unhideR HO5).lt k e).1))
    have HO9 : HeldR (w6.ownsRow w.heap.size 69 2 v6 (ws.take (i + 1)).length (flatSp (ws.take (i + 1)))) := hideR (by
      rw [unhideR HT2, List.length_append, unhideR Hti, flatSp_append]
      have e1 : flatSp [s] = valSp s := List.append_nil _
      rw [e1]
      exact hown)
    clear hown hgrow hloc hO5 HO5 HB5 z9 HO HB HT2
    go_simp
    refine hK _ _ ?_
    clear hK K
    refine wpAny_step (i := 14) (by kernel_rfl) rfl (by kernel_rfl) (fun K hK => ?_)
    unfold Oper.wp
    go_simp
    refine hK _ _ ?_
    clear hK K
    refine wpAny_end (by kernel_rfl) ?_
    go_wp2
    exact ⟨⟨i + 1, by omega, by go_num, HO9, HB9⟩, by simp [intOf]; omega⟩
end Go.Proofs.YtoacdaemhcbbhaaDoor
