/-
  The law's numbers: a row of parts as complex numbers, by contract.
-/
import Derived.Test.YtngdemhhcablmakDoorShRow
import Derived.Test.YtngdemhhcablmakDoorLooseA
import Derived.Laws.AppendOwn
namespace Go.Proofs.YtngdemhhcablmakDoor
open Go Go.RowKit

theorem infoC : (Tryd.prog.info? 41).map (fun i => (i.zero, i.size, i.bytes)) = some (some (.complex .f64 0 0), 1, 16) := by kernel_rfl
def SlOneC (v : Value) : Prop := ∃ g, v = .slice (some ⟨g, 0, none⟩) 1 1
def OneC (re im : Nat) (v : Value) (w : World) : Prop := ∀ g, v = .slice (some ⟨g, 0, none⟩) 1 1 → w.heap[g]? = some (.cells #[.complex .f64 re im] 41)
theorem oneC_stb (re im : Nat) (v : Value) : Stb (OneC re im v) := fun _ _ h k g e => keepB (h g e) k
theorem oneC_cell {w : World} {g re im : Nat} (h : w.heap[g]? = some (.cells #[.complex .f64 re im] 41)) : ∀ k u, ([.complex .f64 re im] : List Value)[k]? = some u → w.cell? ((⟨g, 0, none⟩ : Addr).add k) = some u := by
  intro k u hu
  have hk : k < 1 := (List.getElem?_eq_some_iff.1 hu).1
  obtain rfl : k = 0 := by omega
  have := (cells_at h 0 (by simp)).1
  rw [add_pl2, Nat.zero_add, this]
  exact hu
def NuPost (L : List (Nat × Nat)) (w : World) (e : Ending) (w' : World) : Prop := ∃ ad cap, e = .returned (.slice ad L.length cap) ∧ CxCame w' ad L ∧ Below w.heap.size w w'
set_option maxRecDepth 100000 in
set_option maxHeartbeats 4000000 in
theorem numbers_any {w : World} {a1 : Option Addr} {c1 : Nat} {L : List (Nat × Nat)} (hL : PrCame w a1 L) (hl : L.length ≤ 100000) : Calls Tryd.prog 10 #[.slice a1 L.length c1] w (NuPost L w) := by
  obtain ⟨i0, hi0, hz0, hz1, hz2⟩ := info_parts infoC
  have HL : HeldR (∀ u, Below w.heap.size w u → PrCame u a1 L) := hideR (fun u k => hL.below k)
  obtain ⟨n, hn⟩ : ∃ n, L.length = n := ⟨_, rfl⟩
  have HN := hideR hn
  have HEnd : HeldR (∀ u v, CxOwn u w.heap.size v (L.take n) → Below w.heap.size w u → NuPost L w (.returned v) u) := hideR (fun u v h k => by
    rw [List.take_of_length_le (by omega)] at h
    obtain ⟨ad, cap, rfl, hc⟩ := h.came
    exact ⟨ad, cap, rfl, hc, k⟩)
  rw [hn] at hl ⊢
  clear hL hn
  go_enter Tryd.func10, Tryd.ntmps10
  go_wp2
  go_loopw [3, 4] (fun ov iv wl => ∃ k : Nat, k ≤ n ∧ iv = .int .i64 (k : Nat) ∧ HeldR (CxOwn wl w.heap.size ov (L.take k)) ∧ HeldR (Below w.heap.size w wl)) (fun _ iv _ => n + 1 - (intOf iv).toNat)
  case atStart => exact ⟨0, by omega, rfl, hideR (by rw [List.take_zero]; exact cx_nil _ _), hideR (Below.refl _ _)⟩
  case round =>
    obtain ⟨k, hk, rfl, HO, HB⟩ := hrel
    by_cases hlt : k < n
    · have tk : decide (k < n) = true := decide_eq_true hlt
      have jk : (k : Int) < (n : Int) := by omega
      have wk : IntKind.i64.wrap ((k : Int) + 1) = ((k + 1 : Nat) : Int) := by rw [show (k : Int) + 1 = ((k + 1 : Nat) : Int) by omega]; exact iwrap (by omega) (by omega)
      have hlt' : k < L.length := by rw [unhideR HN]; exact hlt
      obtain ⟨b1, o1, rfl, hb1, _⟩ := (unhideR HL wr (unhideR HB)).at_ k hlt'
      have HLb : HeldR (∀ v, Below wr.heap.size wr v → PrAt v b1 (o1 + k * 2) (L.getD k (0, 0))) := hideR (fun v hv => by
        obtain ⟨b9, o9, e9, _, x9⟩ := (unhideR HL v (below_go (unhideR HB) hv)).at_ k hlt'
        cases e9
        exact x9)
      have HTk := hideR (Prtake hlt')
      obtain ⟨al0, cl0, e0, _⟩ := (unhideR HO).came
      have e1 : u3 = .slice al0 k cl0 := by rw [e0, List.length_take, Nat.min_eq_left (by omega)]
      clear e0
      obtain ⟨al, cl, e2⟩ : ∃ al cl, u3 = .slice al k cl := ⟨_, _, e1⟩
      clear e1
      subst e2
      generalize L.getD k (0, 0) = x at *
      obtain ⟨re, im⟩ := x
      clear hlt' hb1
      go_upto_region 5 with fail
      refine wp_region_made 1 #[true, true, true, true, true, true, true, true, true, true, true, true, true, false, false] [.lets (· = .slice al k cl),
        .lets (· = .slice (some ⟨b1, o1, none⟩) n c1),
        .lets (· = .int .i64 (k : Nat)),
        .lets (· = .pointer (some ⟨b1, o1 + k * 2, none⟩)),
        .lets (· = .pointer (some ⟨b1, o1 + k * 2, none⟩)),
        .lets (· = .float .f64 re),
        .lets (· = .slice (some ⟨b1, o1, none⟩) n c1),
        .lets (· = .int .i64 (k : Nat)),
        .lets (· = .pointer (some ⟨b1, o1 + k * 2, none⟩)),
        .lets (· = .pointer (some ⟨b1, o1 + k * 2 + 1, none⟩)),
        .lets (· = .float .f64 im),
        .lets (· = .complex .f64 re im),
        .made SlOneC (OneC re im)] [12] [] (by kernel_rfl) (by kernel_rfl) rfl ?kinds (by kernel_rfl) (by kernel_rfl) (by kernel_rfl) ?_
      case kinds =>
        constructor
        · intro i h
          rcases i with _ | _ | _ | _ | _ | _ | _ | _ | _ | _ | _ | _ | _ | i <;> simp [Kx.isMade] at h ⊢
        · intro i h
          rcases i with _ | _ | _ | _ | _ | _ | _ | _ | _ | _ | _ | _ | _ | i <;> simp [Kx.isUse] at h
      refine lexX_step (fun K hK => ⟨by kernel_rfl, ⟨_, rfl⟩, fun v hv => ?_, fun v hv => ?_⟩)
      · go_simp
        exact mUpon_b
      subst hv
      go_simp
      refine hK _ ?_
      clear hK K
      refine lexX_step (fun K hK => ⟨by kernel_rfl, ⟨_, rfl⟩, fun v hv => ?_, fun v hv => ?_⟩)
      · go_simp
        exact mUpon_b
      subst hv
      go_simp
      refine hK _ ?_
      clear hK K
      refine lexX_step (fun K hK => ⟨by kernel_rfl, ⟨_, rfl⟩, fun v hv => ?_, fun v hv => ?_⟩)
      · go_simp
        exact mUpon_b
      subst hv
      go_simp
      refine hK _ ?_
      clear hK K
      refine lexX_step (fun K hK => ⟨by kernel_rfl, ⟨_, rfl⟩, fun v hv => ?_, fun v hv => ?_⟩)
      · go_simp
        exact mUpon_b
      subst hv
      go_simp
      refine hK _ ?_
      clear hK K
      refine lexX_step (fun K hK => ⟨by kernel_rfl, ⟨_, rfl⟩, fun v hv => ?_, fun v hv => ?_⟩)
      · go_simp
        exact mUpon_b
      subst hv
      go_simp
      refine hK _ ?_
      clear hK K
      refine lexX_step (fun K hK => ⟨by kernel_rfl, ⟨_, rfl⟩, fun v hv => ?_, fun v hv => ?_⟩)
      · have q := ((unhideR HLb) v hv)
        have q0 := q.c0
        have q1 := q.c1
        go_simp
        exact mUpon_b
      subst hv
      go_simp
      refine hK _ ?_
      clear hK K
      refine lexX_step (fun K hK => ⟨by kernel_rfl, ⟨_, rfl⟩, fun v hv => ?_, fun v hv => ?_⟩)
      · go_simp
        exact mUpon_b
      subst hv
      go_simp
      refine hK _ ?_
      clear hK K
      refine lexX_step (fun K hK => ⟨by kernel_rfl, ⟨_, rfl⟩, fun v hv => ?_, fun v hv => ?_⟩)
      · go_simp
        exact mUpon_b
      subst hv
      go_simp
      refine hK _ ?_
      clear hK K
      refine lexX_step (fun K hK => ⟨by kernel_rfl, ⟨_, rfl⟩, fun v hv => ?_, fun v hv => ?_⟩)
      · go_simp
        exact mUpon_b
      subst hv
      go_simp
      refine hK _ ?_
      clear hK K
      refine lexX_step (fun K hK => ⟨by kernel_rfl, ⟨_, rfl⟩, fun v hv => ?_, fun v hv => ?_⟩)
      · go_simp
        exact mUpon_b
      subst hv
      go_simp
      refine hK _ ?_
      clear hK K
      refine lexX_step (fun K hK => ⟨by kernel_rfl, ⟨_, rfl⟩, fun v hv => ?_, fun v hv => ?_⟩)
      · have q := ((unhideR HLb) v hv)
        have q0 := q.c0
        have q1 := q.c1
        go_simp
        exact mUpon_b
      subst hv
      go_simp
      refine hK _ ?_
      clear hK K
      refine lexX_step (fun K hK => ⟨by kernel_rfl, ⟨_, rfl⟩, fun v hv => ?_, fun v hv => ?_⟩)
      · go_simp
        exact mUpon_b
      subst hv
      go_simp
      refine hK _ ?_
      clear hK K
      refine lexX_made ⟨by kernel_rfl, ⟨_, 0, rfl⟩, oneC_stb _ _, fun v hv => ?_, ?_⟩
      · go_simp
        exact ⟨below_a v _, ⟨_, rfl⟩, fun q hq => by cases hq; exact alloc_last v _⟩
      rintro _ ⟨u9, rfl⟩ K hK
      go_simp
      refine hK _ ?_
      clear hK K
      refine lexX_end (fun v5 hv => ?_)
      have HO9 := hideR (hv.fact.2 _ rfl)
      have HK5 := hideR hv.low
      clear hv
      have hO5 : v5.ownsRow w.heap.size 41 1 (.slice al k cl) k ((L.take k).map cxV) := by
        have := (unhideR HO).below (unhideR HK5)
        unfold CxOwn at this
        rw [List.length_take, Nat.min_eq_left (by rw [unhideR HN]; omega)] at this
        exact this
      have hB5 : w.heap.size ≤ v5.heap.size := Nat.le_trans (unhideR HB).size (unhideR HK5).size
      refine wpAny_step (i := 13) (by kernel_rfl) rfl (by kernel_rfl) (fun K hK => ?_)
      refine wp_append_own _ _ _ 24 rfl w.heap.size 41 i0 (.complex .f64 0 0) 1 16 Tryd.underlying24 hi0 hz0 hz1 hz2 rfl (by decide) _ k _ rfl hO5 ⟨u9, 0, none⟩ 1 1 [.complex .f64 re im] rfl rfl ?q1 ?q2 ?q3 ?q4 ?q5 ?_
      case q1 => exact oneC_cell (unhideR HO9)
      case q2 =>
        intro u hu
        rw [List.mem_singleton.1 hu]
        rfl
      case q3 => unfold maxLen; omega
      case q4 => omega
      case q5 => exact hB5
      intro v6 w6 hown hgrow _
      have O6 : HeldR (CxOwn w6 w.heap.size v6 (L.take (k + 1))) := hideR (by
        unfold CxOwn
        rw [unhideR HTk, List.length_append, List.map_append, List.length_take, Nat.min_eq_left (by rw [unhideR HN]; omega)]
        exact hown)
      have HB6 := hideR ((below_go (unhideR HB) (unhideR HK5)).grown hgrow hB5 (fun q hq => own_at2 hO5 q hq))
      clear hown hgrow hO5
      go_simp
      refine hK _ _ ?_
      clear hK K
      refine wpAny_step (i := 14) (by kernel_rfl) rfl (by kernel_rfl) (fun K hK => ?_)
      unfold Oper.wp
      go_simp
      refine hK _ _ ?_
      clear hK K
      refine wpAny_end (by kernel_rfl) ?_
      clear HO HB HO9 HK5 HLb HTk
      go_wp2
      exact ⟨⟨k + 1, by omega, by first | rfl | go_num, O6, HB6⟩, by simp [intOf]; omega⟩
    · obtain rfl : k = n := by omega
      have tk : decide (k < k) = false := decide_eq_false hlt
      have HR := hideR (unhideR HEnd wr _ (unhideR HO) (unhideR HB))
      clear HEnd HO HB
      go_wp2
      go_ret
      exact unhideR HR
end Go.Proofs.YtngdemhhcablmakDoor
