/-
  A log: the program's NewLog, Note, by contract.
-/
import Derived.Test.YtfonpobdnhifganNgE3
import Derived.Test.YtfonpobdnhifganAppAt
namespace Go.Proofs.Ytfonpobdnhifgan
open Go Go.RowKit

/-- a log in its block. -/
structure LRepX (w : World) (p : Nat) (L : List Res) (v : Value) : Prop where
  hp : w.heap[p]? = some (.cells #[v] 40)
  st : w.ownsRow 0 28 3 v L.length (flatRs L)
def LRep (w : World) (p : Nat) (L : List Res) (O : Nat → Prop) : Prop := ∃ v, LRepX w p L v ∧ ∀ k, O k ↔ k = p ∨ v.ownBlock = some k
theorem lrep_low {w : World} {p : Nat} {L : List Res} {O : Nat → Prop} (h : LRep w p L O) : ∀ k, O k → k < w.heap.size := by
  obtain ⟨v, hx, hO⟩ := h
  intro k hk
  rcases (hO k).1 hk with rfl | q
  · exact ltB hx.hp
  · exact (hx.st.lt k q).2
theorem lrep_keep {w w' : World} {p : Nat} {L : List Res} {O : Nat → Prop} (h : LRep w p L O) (hk : ∀ k, O k → w'.heap[k]? = w.heap[k]?) : LRep w' p L O := by
  obtain ⟨v, hx, hO⟩ := h
  exact ⟨v, ⟨(hk p ((hO p).2 (.inl rfl))).trans hx.hp, row_keep hx.st (fun k q => hk k ((hO k).2 (.inr q)))⟩, hO⟩
theorem lrep_ne {w : World} {p : Nat} {L : List Res} {v : Value} (h : LRepX w p L v) : v.ownBlock ≠ some p := fun e => by
  obtain ⟨_, cur, hh⟩ := row_block h.st e
  have := h.hp.symm.trans hh
  simp at this
set_option maxRecDepth 100000 in
set_option maxHeartbeats 1600000 in
theorem pnewlog_any (w : World) : Calls Try.prog 4 #[] w fun e w' => ∃ p O, e = .returned (.pointer (some ⟨p, 0, none⟩)) ∧ LRep w' p [] O ∧ (∀ k, O k → w.heap.size ≤ k) ∧ Below w.heap.size w w' := by
  have z0 := alloc_last w (.cells #[.slice none 0 0] 40)
  have HP : HeldR (∃ p O, (Ending.returned (.pointer (some ⟨w.heap.size, 0, none⟩)) : Ending) = .returned (.pointer (some ⟨p, 0, none⟩)) ∧ LRep (w.alloc (.cells #[.slice none 0 0] 40)) p [] O ∧ (∀ k, O k → w.heap.size ≤ k) ∧ Below w.heap.size w (w.alloc (.cells #[.slice none 0 0] 40))) := hideR ⟨w.heap.size, fun k => k = w.heap.size, rfl, ⟨_, ⟨z0, World.ownsRow_nil _ _ _ _⟩, fun k => ⟨.inl, fun h => h.elim id (fun e => nomatch e)⟩⟩, fun k hk => by omega, below_a _ _⟩
  go_enter Try.func4, Try.ntmps4
  go_wp2
  go_ret
  exact unhideR HP
def SlRs (v : Value) : Prop := ∃ g : Nat, v = .slice (some ⟨g, 0, none⟩) 1 1
def OneR (r : Res) (v : Value) (w : World) : Prop := ∀ g : Nat, v = .slice (some ⟨g, 0, none⟩) 1 1 → w.heap[g]? = some (.cells #[.int .i64 r.i, .int .i64 r.s, .int .i64 r.l] 28)
theorem oneR_stb (r : Res) (v : Value) : Stb (OneR r v) := fun _ _ h k g q => keepB (h g q) k
theorem one_res {w : World} {g : Nat} {r : Res} (h : w.heap[g]? = some (.cells #[.int .i64 r.i, .int .i64 r.s, .int .i64 r.l] 28)) : ∀ k u, (valRs r)[k]? = some u → w.cell? ((⟨g, 0, none⟩ : Addr).add k) = some u := by
  intro k u hu
  rw [add_pl2, Nat.zero_add]
  rcases k with _ | _ | _ | k
  · rw [← hu]; exact (cells_at h 0 (by simp)).1
  · rw [← hu]; exact (cells_at h 1 (by simp)).1
  · rw [← hu]; exact (cells_at h 2 (by simp)).1
  · simp [valRs] at hu
theorem infoNR : (Try.prog.info? 28).map (fun i => (i.zero, i.size, i.bytes)) = some (some (.agg #[.int .i64 0, .int .i64 0, .int .i64 0]), 3, 24) := by kernel_rfl
def NotePost (w : World) (p : Nat) (L : List Res) (O : Nat → Prop) (e : Ending) (w' : World) : Prop := ∃ O', e = .returned (.tuple #[]) ∧ LRep w' p L O' ∧ (∀ k, O' k → O k ∨ w.heap.size ≤ k) ∧ Oth O w w'
theorem note_ok {w u w6 : World} {p n : Nat} {L : List Res} {O : Nat → Prop} {v v6 : Value} {r : Res} (hx : LRepX w p L v) (hO : ∀ k, O k ↔ k = p ∨ v.ownBlock = some k) (hn : L.length = n) (hb : Below w.heap.size w u) (hown : w6.ownsRow 0 28 3 v6 (n + 1) (flatRs L ++ valRs r)) (hg : u.grownBy w6 v.ownBlock) (hloc : v6.ownBlock = v.ownBlock ∨ v6.ownBlock = some u.heap.size) : w6.heap[p]? = some (.cells #[v] 40) ∧ NotePost w p (L ++ [r]) O (.returned (.tuple #[])) (w6.setCell ⟨p, 0, none⟩ v6) := by
  have hne := lrep_ne hx
  have hpu := keepB hx.hp hb
  have hp6 := (hg.block p (ltB hpu) (fun e => hne e.symm)).trans hpu
  have hn6 : v6.ownBlock ≠ some p := by
    rcases hloc with e | e
    · rw [e]; exact hne
    · rw [e]
      intro q
      injection q with q
      have := ltB hpu
      omega
  refine ⟨hp6, fun k => k = p ∨ v6.ownBlock = some k, rfl, ⟨v6, ⟨heap_setCell_same _ _ _ _ _ _ hp6, ?_⟩, fun _ => Iff.rfl⟩, fun k hk => ?_, ⟨hg.os.trans hb.os, hg.tape.trans hb.tape, hg.output.trans hb.output, ?_, fun k hk hnk => ?_⟩⟩
  · rw [List.length_append, hn, flatRs_append]
    refine row_keep ?_ (fun k hk => Below.heap_setCell _ _ _ _ (fun e => hn6 (by rw [hk, show k = p from e])))
    have e1 : flatRs [r] = valRs r := List.append_nil _
    rw [e1]
    exact hown
  · rcases hk with rfl | hk
    · exact .inl ((hO k).2 (.inl rfl))
    · rcases hloc with e | e
      · exact .inl ((hO k).2 (.inr (by rw [← e]; exact hk)))
      · rw [e] at hk
        injection hk with hk
        have := hb.size
        exact .inr (by omega)
  · show _ ≤ (w6.heap.modify _ _).size
    rw [Array.size_modify]
    exact Nat.le_trans hb.size hg.size
  · have h1 : k ≠ p := fun e => hnk ((hO k).2 (.inl e))
    have h2 : v.ownBlock ≠ some k := fun e => hnk ((hO k).2 (.inr e))
    exact (Below.heap_setCell _ _ _ _ h1).trans ((hg.block k (Nat.lt_of_lt_of_le hk hb.size) (fun e => h2 e.symm)).trans (hb.block k hk))
-- WALK
set_option maxRecDepth 1000000 in
set_option maxHeartbeats 6400000 in
theorem pnote_any {w : World} {p : Nat} {L : List Res} {O : Nat → Prop} (h : LRep w p L O) (hL : L.length ≤ 4000) (r : Res) :
    Calls Try.prog 5 #[.pointer (some ⟨p, 0, none⟩), r.val] w (NotePost w p (L ++ [r]) O) := by
  obtain ⟨vs, hx, hO⟩ := h
  obtain ⟨i0, hi0, hz0, hz1, hz2⟩ := info_parts infoNR
  obtain ⟨ad, cap, ev⟩ := ownsRow_slice hx.st
  subst ev
  have z1 := alloc_last w (.cells #[.int .i64 r.i, .int .i64 r.s, .int .i64 r.l] 28)
  have HB := hideR (below_a w (.cells #[.int .i64 r.i, .int .i64 r.s, .int .i64 r.l] 28))
  obtain ⟨n, hn⟩ : ∃ n, L.length = n := ⟨_, rfl⟩
  have HK0 : HeldR (∀ u w6 v6, Below w.heap.size w u → w6.ownsRow 0 28 3 v6 (n + 1) (flatRs L ++ valRs r) → u.grownBy w6 (Value.slice ad L.length cap).ownBlock → (v6.ownBlock = (Value.slice ad L.length cap).ownBlock ∨ v6.ownBlock = some u.heap.size) → w6.heap[p]? = some (.cells #[.slice ad L.length cap] 40) ∧ NotePost w p (L ++ [r]) O (.returned (.tuple #[])) (w6.setCell ⟨p, 0, none⟩ v6)) := hideR (fun u w6 v6 h1 h2 h3 h4 => note_ok hx hO hn h1 h2 h3 h4)
  have HC : HeldR (∀ v, Below (w.alloc (.cells #[.int .i64 r.i, .int .i64 r.s, .int .i64 r.l] 28)).heap.size (w.alloc (.cells #[.int .i64 r.i, .int .i64 r.s, .int .i64 r.l] 28)) v → v.heap[p]? = some (.cells #[.slice ad L.length cap] 40) ∧ v.heap[w.heap.size]? = some (.cells #[.int .i64 r.i, .int .i64 r.s, .int .i64 r.l] 28) ∧ Below w.heap.size w v ∧ v.ownsRow 0 28 3 (.slice ad L.length cap) L.length (flatRs L)) := hideR (fun v hv => by
    have h0 := below_go (unhideR HB) hv
    exact ⟨keepB hx.hp h0, keepB z1 hv, h0, own_below2 hx.st h0⟩)
  generalize NotePost w p (L ++ [r]) O = NP at *
  unfold Res.val
  rw [hn] at HC HK0 hL
  clear z1 hx hO hn HB
  go_enter Try.func5, Try.ntmps5
  go_upto_region 1 with fail
  generalize w.alloc (.cells #[.int .i64 r.i, .int .i64 r.s, .int .i64 r.l] 28) = u0 at *
  obtain ⟨Z, hZ⟩ : ∃ Z, w.heap.size = Z := ⟨_, rfl⟩
  rw [hZ] at HC HK0 ⊢
  clear hZ
  refine Y.wp_region_pure 3 #[true, true, true, true, true, true, true, false, false, false, false] [.pure (.pointer (some ⟨p, 0, none⟩)),
    .lets (· = .pointer (some ⟨p, 0, none⟩)),
    .lets (· = .pointer (some ⟨p, 0, none⟩)),
    .lets (· = .pointer (some ⟨p, 0, none⟩)),
    .lets (· = .slice ad n cap),
    .lets (· = .agg #[.int .i64 r.i, .int .i64 r.s, .int .i64 r.l]),
    .made SlRs (OneR r)] [0] (by kernel_rfl) (by kernel_rfl) rfl ?pures (fun d _ _ _ _ h => by cases d <;> exact h) (by kernel_rfl) (by kernel_rfl) ?_
  case pures =>
    intro i h
    rcases i with _ | _ | _ | _ | _ | _ | _ | i <;> first | exact ⟨_, rfl⟩ | (simp at h)
  refine Y.lexX_pure (fun K hK => ⟨.inl ⟨by kernel_rfl, fun v => ?_⟩, ?_⟩)
  · go_simp
  go_simp
  refine hK _ ?_
  clear hK K
  refine Y.lexX_step (fun K hK => ⟨by kernel_rfl, ⟨_, rfl⟩, fun v hv => ?_, fun v hv => ?_⟩)
  · go_simp
    exact mUpon_b
  subst hv
  go_simp
  refine hK _ ?_
  clear hK K
  refine Y.lexX_step (fun K hK => ⟨by kernel_rfl, ⟨_, rfl⟩, fun v hv => ?_, fun v hv => ?_⟩)
  · go_simp
    exact mUpon_b
  subst hv
  go_simp
  refine hK _ ?_
  clear hK K
  refine Y.lexX_step (fun K hK => ⟨by kernel_rfl, ⟨_, rfl⟩, fun v hv => ?_, fun v hv => ?_⟩)
  · go_simp
    exact mUpon_b
  subst hv
  go_simp
  refine hK _ ?_
  clear hK K
  refine Y.lexX_step (fun K hK => ⟨by kernel_rfl, ⟨_, rfl⟩, fun v hv => ?_, fun v hv => ?_⟩)
  · have y9 := (cells_at (unhideR HC v hv).1 0 (by simp)).1
    go_simp
    exact mUpon_b
  subst hv
  go_simp
  refine hK _ ?_
  clear hK K
  refine Y.lexX_step (fun K hK => ⟨by kernel_rfl, ⟨_, rfl⟩, fun v hv => ?_, fun v hv => ?_⟩)
  · have y9 := (unhideR HC v hv).2.1
    have y0 := (cells_at y9 0 (by simp)).1
    have y1 := (cells_at y9 1 (by simp)).1
    have y2 := (cells_at y9 2 (by simp)).1
    go_simp
    exact mUpon_b
  subst hv
  go_simp
  refine hK _ ?_
  clear hK K
  refine Y.lexX_made ⟨by kernel_rfl, ⟨_, 0, rfl⟩, oneR_stb _, fun v hv => ?_, ?_⟩
  · go_simp
    exact ⟨below_a v _, ⟨_, rfl⟩, fun q hq => by cases hq; exact alloc_last v _⟩
  rintro _ ⟨u9, rfl⟩ K hK
  go_simp
  refine hK _ ?_
  clear hK K
  refine Y.lexX_end (fun v5 hv => ?_)
  have HO9 := hideR (hv.fact.2 _ rfl)
  obtain ⟨_, _, hb5, hO5⟩ := unhideR HC v5 hv.low
  have HB5 := hideR hb5
  clear hv hb5 HC
  refine wpAny_step (i := 7) (by kernel_rfl) rfl (by kernel_rfl) (fun K hK => ?_)
  refine wp_append_at _ _ 33 rfl 0 28 i0 (.agg #[.int .i64 0, .int .i64 0, .int .i64 0]) 3 24 Try.underlying33 hi0 hz0 hz1 hz2 rfl (by decide) _ n (flatRs L) rfl hO5 ⟨u9, 0, none⟩ 1 1 (valRs r) rfl rfl ?q1 ?q2 ?q3 ?q4 ?q5 ?_
  case q1 => exact one_res (unhideR HO9)
  case q2 =>
    intro u hu
    simp only [valRs, List.mem_cons, List.not_mem_nil, or_false] at hu
    rcases hu with rfl | rfl | rfl <;> rfl
  case q3 => unfold maxLen; omega
  case q4 => omega
  case q5 => exact Nat.zero_le _
  intro v6 w6 hown hgrow hloc
  obtain ⟨ad6, cap6, e6⟩ := ownsRow_slice hown
  subst e6
  obtain ⟨hp6, hq6⟩ := unhideR HK0 v5 w6 _ (unhideR HB5) hown hgrow hloc
  have HQ := hideR hq6
  have d1 := (cells_at hp6 0 (by simp)).1
  have f1 := (cells_at hp6 0 (by simp)).2
  clear hown hgrow hloc hO5 HO9 HB5 hq6 hp6 HK0
  go_simp
  refine hK _ _ ?_
  clear hK K
  refine wpAny_step (i := 8) (by kernel_rfl) rfl (by kernel_rfl) (fun K hK => ?_)
  unfold Oper.wp
  go_simp
  refine hK _ _ ?_
  clear hK K
  refine wpAny_step (i := 9) (by kernel_rfl) rfl (by kernel_rfl) (fun K hK => ?_)
  unfold Oper.wp
  go_simp
  refine hK _ _ ?_
  clear hK K
  refine wpAny_step (i := 10) (by kernel_rfl) rfl (by kernel_rfl) (fun K hK => ?_)
  unfold Oper.wp
  go_simp
  refine hK _ _ ?_
  clear hK K
  refine wpAny_end (by kernel_rfl) ?_
  clear d1 f1
  go_wp2
  simp [bodyPost, results, Try.results5, go_sem]
  exact unhideR HQ
end Go.Proofs.Ytfonpobdnhifgan
