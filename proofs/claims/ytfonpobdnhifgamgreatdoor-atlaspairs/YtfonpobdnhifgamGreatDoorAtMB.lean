/-
  The program's put: a star into its cell of each level. The program's put, walked.
-/
import Derived.Test.YtfonpobdnhifgamGreatDoorAtMA
import Derived.Test.YtfonpobdnhifgamGreatDoorLooseA
namespace Go.Proofs.YtfonpobdnhifgamGreatDoor
open Go Go.RowKit
open Go.Maps (Keyed)
open Go.MapKept (Stamped)
open Go.ChangeMaps (setBlock heap_setBlock_same heap_setBlock_other)

section
variable {P : Program} {w : World}
theorem wp_append_at {o : Oper} {a : Act} {K : Act → World → Prop} {Q : Exit → Act → World → Prop} (s x : Operand) (t : TypeId)
    (ho : o.op = .call { callee := .builtin .append, args := #[s, x], argTypes := #[t, t] })
    (base : Nat) (e : TypeId) (i : TypeInfo) (z : Value) (size bytes : Nat) (ht : P.underlying t = some (.slice e)) (hi : P.info? e = some i) (hz : i.zero = some z)
    (hsize : i.size = size) (hby : i.bytes = bytes) (hzs : z.cells.size = size) (hsz : 0 < size)
    (v : Value) (n : Nat) (xs : List Value) (hs : a.eval s = v) (hown : w.ownsRow base e size v n xs)
    (ad : Addr) (m c : Nat) (news : List Value) (hx : a.eval x = .slice (some ad) m c) (hl : news.length = m * size) (hnews : ∀ j u, news[j]? = some u → w.cell? (ad.add j) = some u) (h1 : ∀ u ∈ news, u.oneCell' = true)
    (h63 : n + m ≤ maxLen) (hbytes : (n + m) * bytes ≤ 140737488355328) (hbase : base ≤ w.heap.size)
    (h : ∀ v' w', w'.ownsRow base e size v' (n + m) (xs ++ news) → w.grownBy w' v.ownBlock → (v'.ownBlock = v.ownBlock ∨ v'.ownBlock = some w.heap.size) → K (a.put o.dst v') w') : o.wp P a w K Q := by
  obtain ⟨v', w', hr, h2, h3, _, h4⟩ := run_append_own_at (P := P) w base t o.type e i z size bytes ht hi hz hsize hby hzs hsz v n xs hown ad m c news hl hnews h1 h63 hbytes hbase
  unfold Oper.wp execOp
  simp only [ho, resolve, invoke, builtin, Sem.run_bind, Sem.run_pure, Result.andThen_ok, List.map_toArray, List.map_cons, List.map_nil, hs, hx, hr]
  exact h v' w' h2 h3 h4
end
theorem Oth.refl (O : Nat → Prop) (w : World) : Oth O w w := ⟨rfl, rfl, rfl, Nat.le_refl _, fun _ _ _ => rfl⟩
theorem Oth.grown {O : Nat → Prop} {w wx wy : World} {row : Option Nat} (h : Oth O w wx) (g : wx.grownBy wy row) (hr : ∀ k, row = some k → O k ∨ w.heap.size ≤ k) : Oth O w wy :=
  ⟨g.os.trans h.os, g.tape.trans h.tape, g.output.trans h.output, Nat.le_trans h.size g.size, fun k hk hO => (g.block k (Nat.lt_of_lt_of_le hk h.size) (fun e => (hr k e.symm).elim hO (by omega))).trans (h.block k hk hO)⟩
theorem Oth.bel {O : Nat → Prop} {w wx wy : World} (h : Oth O w wx) (g : Below wx.heap.size wx wy) : Oth O w wy :=
  ⟨g.os.trans h.os, g.tape.trans h.tape, g.output.trans h.output, Nat.le_trans h.size g.size, fun k hk hO => (g.block k (Nat.lt_of_lt_of_le hk h.size)).trans (h.block k hk hO)⟩
theorem grown_setCell (w : World) (p i : Nat) (v : Value) : w.grownBy (w.setCell ⟨p, i, none⟩ v) (some p) :=
  ⟨rfl, rfl, rfl, by simp, fun k _ hk => Below.heap_setCell _ _ _ _ (fun e => hk (by rw [e]))⟩
theorem grown_below {w w' : World} (g : Below w.heap.size w w') : w.grownBy w' none := ⟨g.os, g.tape, g.output, g.size, fun k hk _ => g.block k hk⟩
/-- the atlas while a star is put into it. -/
structure PSt (w : World) (O : Nat → Prop) (p : Nat) (lv sn : Int) (bn bc : Nat) (wx : World) (sv : Value) (L M : List En) (es : Array MapEntry) (clock : Nat) (G : Sq → List Int) : Prop where
  oth : Oth O w wx
  hp : wx.heap[p]? = some (.cells #[.int .i64 lv, sv, .map (some bn), .map (some bc), .int .i64 sn] 82)
  st : SRow wx (p + 1) sv L
  nm : NMap wx bn M
  cl : CMap wx bc (p + 1) es clock G
  own : ∀ k, ownO p bn bc sv es k → O k ∨ w.heap.size ≤ k
  bnp : bn < p
  bcp : bc < p
  bnc : bn ≠ bc
theorem NMap.keep {w w' : World} {b : Nat} {L : List En} (h : NMap w b L) (k : w'.heap[b]? = w.heap[b]?) : NMap w' b L := by
  obtain ⟨D, ⟨es', c', hb, F, r⟩, hd⟩ := h.ex
  exact ⟨D, ⟨es', c', k.trans hb, F, r⟩, hd⟩
theorem CMap.keep {w w' : World} {b base clock : Nat} {es : Array MapEntry} {G : Sq → List Int} (h : CMap w b base es clock G) (k0 : w'.heap[b]? = w.heap[b]?) (k : ∀ x ∈ es.toList, ∀ j, x.val.ownBlock = some j → w'.heap[j]? = w.heap[j]?) : CMap w' b base es clock G := by
  refine ⟨k0.trans h.hb, h.st, fun x hx => ?_, h.no, h.ap⟩
  obtain ⟨s, hs, e, hr⟩ := h.rd x hx
  exact ⟨s, hs, e, row_keep hr (fun j q => k x hx j q)⟩
theorem PSt.lt {w : World} {O : Nat → Prop} {p : Nat} {lv sn : Int} {bn bc : Nat} {wx : World} {sv : Value} {L M : List En} {es : Array MapEntry} {clock : Nat} {G : Sq → List Int} (h : PSt w O p lv sn bn bc wx sv L M es clock G) : ∀ k, ownO p bn bc sv es k → k < wx.heap.size := by
  rintro k (rfl | rfl | rfl | hk | ⟨x, hx, hk⟩)
  · exact ltB h.hp
  · obtain ⟨D, ⟨es', c', hb, _⟩, _⟩ := h.nm.ex
    exact ltB hb
  · exact ltB h.cl.hb
  · obtain ⟨_, cur, hh⟩ := row_block h.st.own hk
    exact ltB hh
  · obtain ⟨s, hs, e, hr⟩ := h.cl.rd x hx
    obtain ⟨_, cur, hh⟩ := row_block hr hk
    exact ltB hh
theorem PSt.below {w : World} {O : Nat → Prop} {p : Nat} {lv sn : Int} {bn bc : Nat} {wx wy : World} {sv : Value} {L M : List En} {es : Array MapEntry} {clock : Nat} {G : Sq → List Int} (h : PSt w O p lv sn bn bc wx sv L M es clock G) (g : Below wx.heap.size wx wy) : PSt w O p lv sn bn bc wy sv L M es clock G := by
  have k : ∀ j, ownO p bn bc sv es j → wy.heap[j]? = wx.heap[j]? := fun j hj => g.block j (h.lt j hj)
  exact ⟨h.oth.bel g, (k p (.inl rfl)).trans h.hp, ⟨row_keep h.st.own (fun j q => k j (.inr (.inr (.inr (.inl q)))))⟩, h.nm.keep (k bn (.inr (.inl rfl))), h.cl.keep (k bc (.inr (.inr (.inl rfl)))) (fun x hx j q => k j (.inr (.inr (.inr (.inr ⟨x, hx, q⟩))))), h.own, h.bnp, h.bcp, h.bnc⟩
/-- rows of stars and rows of numbers lie apart. -/
theorem PSt.apart {w : World} {O : Nat → Prop} {p : Nat} {lv sn : Int} {bn bc : Nat} {wx : World} {sv : Value} {L M : List En} {es : Array MapEntry} {clock : Nat} {G : Sq → List Int} (h : PSt w O p lv sn bn bc wx sv L M es clock G) {k : Nat} (hk : sv.ownBlock = some k) : ∀ x ∈ es.toList, x.val.ownBlock ≠ some k := by
  intro x hx q
  obtain ⟨s, hs, e, hr⟩ := h.cl.rd x hx
  obtain ⟨_, cur, hh⟩ := row_block hr q
  obtain ⟨_, cur2, hh2⟩ := row_block h.st.own hk
  rw [hh] at hh2
  injection hh2 with hh2
  injection hh2 with _ e2
  exact absurd e2 (by decide)
/-- a star was appended. -/
theorem PSt.star {w : World} {O : Nat → Prop} {p : Nat} {lv sn : Int} {bn bc : Nat} {wx w6 : World} {sv v6 : Value} {L M : List En} {es : Array MapEntry} {clock : Nat} {G : Sq → List Int} {e : En} (h : PSt w O p lv sn bn bc wx sv L M es clock G) (hown : w6.ownsRow (p + 1) 89 4 v6 (L.length + 1) (flatSt L ++ valSt e)) (g : wx.grownBy w6 sv.ownBlock) (hl : v6.ownBlock = sv.ownBlock ∨ v6.ownBlock = some wx.heap.size) :
    PSt w O p lv sn bn bc (w6.setCell ⟨p, 1, none⟩ v6) v6 (L ++ [e]) M es clock G := by
  have hpl := h.lt p (.inl rfl)
  have nb : ∀ j, sv.ownBlock = some j → p + 1 ≤ j := fun j q => (row_block h.st.own q).1
  have k6 : ∀ j, j < wx.heap.size → sv.ownBlock ≠ some j → w6.heap[j]? = wx.heap[j]? := fun j hj hn => g.block j hj (fun q => hn q.symm)
  have hp6 : w6.heap[p]? = some (.cells #[.int .i64 lv, sv, .map (some bn), .map (some bc), .int .i64 sn] 82) := (k6 p hpl (fun q => by have := nb p q; omega)).trans h.hp
  have k7 : ∀ j, j ≠ p → (w6.setCell ⟨p, 1, none⟩ v6).heap[j]? = w6.heap[j]? := fun j hj => Below.heap_setCell _ _ _ _ hj
  have hbn := h.bnp
  have hbc := h.bcp
  have hws := h.oth.size
  refine ⟨(h.oth.grown g (fun k q => h.own k (.inr (.inr (.inr (.inl q)))))).grown (grown_setCell w6 p 1 v6) (fun k q => by injection q with q; subst q; exact h.own _ (.inl rfl)), heap_setCell_same _ _ _ _ _ _ hp6, ⟨?_⟩, ?_, ?_, ?_, hbn, hbc, h.bnc⟩
  · rw [List.length_append, flatSt_append]
    have e1 : flatSt [e] = valSt e := by show valSt e ++ [] = valSt e; rw [List.append_nil]
    rw [e1]
    refine row_keep hown (fun k q => k7 k ?_)
    rcases hl with q2 | q2
    · rw [q2] at q
      have := nb k q
      omega
    · rw [q2] at q
      injection q with q
      omega
  · refine h.nm.keep ((k7 bn (by omega)).trans (k6 bn (by omega) (fun q => by have := nb bn q; omega)))
  · refine h.cl.keep ((k7 bc (by omega)).trans (k6 bc (by omega) (fun q => by have := nb bc q; omega))) (fun x hx j q => ?_)
    obtain ⟨s, hs, es', hr⟩ := h.cl.rd x hx
    obtain ⟨h1, cur, hh⟩ := row_block hr q
    exact (k7 j (by omega)).trans (k6 j (ltB hh) (fun q2 => h.apart q2 x hx q))
  · rintro k (q | q | q | q | q)
    · exact h.own k (.inl q)
    · exact h.own k (.inr (.inl q))
    · exact h.own k (.inr (.inr (.inl q)))
    · rcases hl with q2 | q2
      · rw [q2] at q
        exact h.own k (.inr (.inr (.inr (.inl q))))
      · rw [q2] at q
        injection q with q
        subst q
        exact .inr hws
    · exact h.own k (.inr (.inr (.inr (.inr q))))
/-- a name was noted. -/
theorem PSt.name {w : World} {O : Nat → Prop} {p : Nat} {lv sn : Int} {bn bc : Nat} {wx : World} {sv : Value} {L M : List En} {es : Array MapEntry} {clock : Nat} {G : Sq → List Int} {e : En} (h : PSt w O p lv sn bn bc wx sv L M es clock G) (he : e.nm.size ≤ maxLen) (hM : M.length < maxLen) :
    ∃ wy, (Instr.mapUpdate 79 (.map (some bn)) (.string e.nm) (.agg #[])).run Tryz.prog wx = .ok () wy ∧ wx.grownBy wy (some bn) ∧ PSt w O p lv sn bn bc wy sv L (M ++ [e]) es clock G := by
  obtain ⟨D, hD, hh⟩ := h.nm.ex
  obtain ⟨wy, hrun, hown, g⟩ := hD.update lawStr Tryz.underlying79 hM (WideMaps.keyOf_string_mk Tryz.underlying9 he) (unitElem_mk (H := Unit))
  have hbn := h.bnp
  have hbc := h.bcp
  have hne := h.bnc
  have hpl := h.lt p (.inl rfl)
  have k : ∀ j, j < wx.heap.size → j ≠ bn → wy.heap[j]? = wx.heap[j]? := fun j hj hn => g.block j hj (fun q => by injection q with q; exact hn q)
  refine ⟨wy, hrun, g, h.oth.grown g (fun j q => by injection q with q; subst q; exact h.own _ (.inr (.inl rfl))), (k p hpl (by omega)).trans h.hp, ⟨row_keep h.st.own (fun j q => k j (h.lt j (.inr (.inr (.inr (.inl q))))) (by have := (row_block h.st.own q).1; omega))⟩, ⟨D.put (.string e.nm.data.toList) (.agg []), ?_, fun s hs => ?_⟩, ?_, h.own, hbn, hbc, hne⟩
  · rw [List.length_append]
    exact hown
  · have hnew : decide (∃ x ∈ M ++ [e], x.nm = s) = (decide (∃ x ∈ M, x.nm = s) || decide (e.nm = s)) := by
      rw [Bool.eq_iff_iff, Bool.or_eq_true, decide_eq_true_eq, decide_eq_true_eq, decide_eq_true_eq]
      constructor
      · rintro ⟨x, hx, hq⟩
        rcases List.mem_append.1 hx with hx | hx
        · exact .inl ⟨x, hx, hq⟩
        · rw [List.mem_singleton] at hx
          subst hx
          exact .inr hq
      · rintro (⟨x, hx, hq⟩ | hq)
        · exact ⟨x, List.mem_append_left _ hx, hq⟩
        · exact ⟨e, by simp, hq⟩
    rw [hnew]
    by_cases q : e.nm = s
    · rw [decide_eq_true q, Bool.or_true, ← q]
      exact Maps.has_put_same (k := .string e.nm.data.toList) hD.isMap trivial _
    · rw [decide_eq_false q, Bool.or_false, ← hh s hs]
      refine Maps.has_put_other (fun e2 => q ?_) _
      exact (ByteArray.ext (Array.ext' (Lit.string.inj e2))).symm
  · exact h.cl.keep (k bc (h.lt bc (.inr (.inr (.inl rfl)))) (fun q => hne q.symm)) (fun x hx j q => k j (h.lt j (.inr (.inr (.inr (.inr ⟨x, hx, q⟩))))) (by
      obtain ⟨s, hs, es', hr⟩ := h.cl.rd x hx
      have := (row_block hr q).1
      omega))
/-- the number was put into a cell. -/
theorem PSt.cell {w : World} {O : Nat → Prop} {p : Nat} {lv sn : Int} {bn bc : Nat} {wx : World} {sv : Value} {L M : List En} {es : Array MapEntry} {clock : Nat} {G : Sq → List Int} (h : PSt w O p lv sn bn bc wx sv L M es clock G) {s : Sq} (hs : SqOk s) :
    ∃ (v : Value) (st : Nat) (w1 : World), IRow w1 (p + 1) v (G s) ∧ (Instr.mapEntry 80 (.map (some bc)) s.val).run Tryz.prog wx = .ok (.tuple #[v, goInt st]) w1 ∧ wx.grownBy w1 (some bc) ∧ w1.heap.size = wx.heap.size ∧
      ∀ (w2 : World) (v' : Value) (z : Int), w1.grownBy w2 v.ownBlock → IRow w2 (p + 1) v' (G s ++ [z]) → (v'.ownBlock = v.ownBlock ∨ v'.ownBlock = some w1.heap.size) →
        ∃ w3 es2 clock2, (Instr.entryStore 80 (.map (some bc)) (goInt st) v').run Tryz.prog w2 = .ok () w3 ∧ w2.grownBy w3 (some bc) ∧ PSt w O p lv sn bn bc w3 sv L M es2 clock2 (putG G s (G s ++ [z])) := by
  have hbn := h.bnp
  have hbc := h.bcp
  have hne := h.bnc
  have hpl := h.lt p (.inl rfl)
  have hws := h.oth.size
  obtain ⟨v, st, es1, clock1, hr, hv, hent, hback⟩ := h.cl.entry (by omega : bc < p + 1) hs
  have g1 : wx.grownBy (setBlock wx bc (.map es1 clock1)) (some bc) := grown_set h.cl.hb
  have b1 : (setBlock wx bc (.map es1 clock1)).heap[bc]? = some (.map es1 clock1) := heap_setBlock_same h.cl.hb _
  have sz1 : (setBlock wx bc (.map es1 clock1)).heap.size = wx.heap.size := by simp [setBlock]
  have vown : ∀ j, v.ownBlock = some j → ownO p bn bc sv es j := by
    intro j q
    rcases hv with hv | ⟨x, hx, rfl⟩
    · rw [hv] at q; cases q
    · exact .inr (.inr (.inr (.inr ⟨x, hx, q⟩)))
  have vlow : ∀ j, v.ownBlock = some j → p + 1 ≤ j := fun j q => (row_block hr q).1
  refine ⟨v, st, setBlock wx bc (.map es1 clock1), row_keep hr (fun j q => heap_setBlock_other h.cl.hb _ (by have := vlow j q; omega)), hent wx h.cl.hb, g1, sz1, fun w2 v' z g2 hr2 hloc => ?_⟩
  have hb2 : w2.heap[bc]? = some (.map es1 clock1) := (g2.block bc (by rw [sz1]; exact ltB h.cl.hb) (fun q => by have := vlow bc q.symm; omega)).trans b1
  have k2 : ∀ j, j < wx.heap.size → j ≠ bc → v.ownBlock ≠ some j → w2.heap[j]? = wx.heap[j]? := fun j hj h1 h2 => (g2.block j (by rw [sz1]; exact hj) (fun q => h2 q.symm)).trans (heap_setBlock_other h.cl.hb _ h1)
  obtain ⟨es2, clock2, hrun, hcm, hes⟩ := hback w2 v' (G s ++ [z]) hb2 (fun g hg1 hg2 hg3 => k2 g hg2 (by omega) (fun q => hg3 q.symm)) hr2 (hloc.imp id (fun q => ⟨_, q, by rw [sz1]; exact Nat.le_refl _⟩))
  have g3 : w2.grownBy (setBlock w2 bc (.map es2 clock2)) (some bc) := grown_set hb2
  have k3 : ∀ j, j ≠ bc → (setBlock w2 bc (.map es2 clock2)).heap[j]? = w2.heap[j]? := fun j hj => heap_setBlock_other hb2 _ hj
  have svn : ∀ j, sv.ownBlock = some j → v.ownBlock ≠ some j := by
    intro j q q2
    rcases hv with hv | ⟨x, hx, rfl⟩
    · rw [hv] at q2; cases q2
    · exact h.apart q x hx q2
  refine ⟨_, es2, clock2, hrun, g3, ((h.oth.grown g1 (fun j q => by injection q with q; subst q; exact h.own _ (.inr (.inr (.inl rfl))))).grown g2 (fun j q => h.own j (vown j q))).grown g3 (fun j q => by injection q with q; subst q; exact h.own _ (.inr (.inr (.inl rfl)))), ?_, ⟨?_⟩, ?_, hcm, ?_, hbn, hbc, hne⟩
  · exact (k3 p (by omega)).trans ((k2 p hpl (by omega) (fun q => by have := vlow p q; omega)).trans h.hp)
  · refine row_keep h.st.own (fun j q => ?_)
    have hj := (row_block h.st.own q).1
    exact (k3 j (by omega)).trans (k2 j (h.lt j (.inr (.inr (.inr (.inl q))))) (by omega) (svn j q))
  · exact h.nm.keep ((k3 bn hne).trans (k2 bn (by omega) hne (fun q => by have := vlow bn q; omega)))
  · rintro j (q | q | q | q | ⟨x, hx, q⟩)
    · exact h.own j (.inl q)
    · exact h.own j (.inr (.inl q))
    · exact h.own j (.inr (.inr (.inl q)))
    · exact h.own j (.inr (.inr (.inr (.inl q))))
    · rcases hes x hx with e2 | ⟨y, hy, e2⟩
      · rw [e2] at q
        rcases hloc with l | l
        · rw [l] at q
          exact h.own j (vown j q)
        · rw [l] at q
          injection q with q
          subst q
          rw [sz1]
          exact .inr hws
      · rw [e2] at q
        exact h.own j (.inr (.inr (.inr (.inr ⟨y, hy, q⟩))))
/-- a cell of the caller's own is written. -/
theorem PSt.spare {w : World} {O : Nat → Prop} {p : Nat} {lv sn : Int} {bn bc : Nat} {wx : World} {sv : Value} {L M : List En} {es : Array MapEntry} {clock : Nat} {G : Sq → List Int} {g : Nat} {cs : Array Value} (h : PSt w O p lv sn bn bc wx sv L M es clock G) (hg : wx.heap[g]? = some (.cells cs 61)) (hgw : w.heap.size ≤ g) (x y z t : Value) : PSt w O p lv sn bn bc ((((wx.setCell ⟨g, 0, none⟩ x).setCell ⟨g, 1, none⟩ y).setCell ⟨g, 2, none⟩ z).setCell ⟨g, 3, none⟩ t) sv L M es clock G := by
  have k : ∀ j, j ≠ g → ((((wx.setCell ⟨g, 0, none⟩ x).setCell ⟨g, 1, none⟩ y).setCell ⟨g, 2, none⟩ z).setCell ⟨g, 3, none⟩ t).heap[j]? = wx.heap[j]? := fun j hj => (Below.heap_setCell _ _ _ _ hj).trans ((Below.heap_setCell _ _ _ _ hj).trans ((Below.heap_setCell _ _ _ _ hj).trans (Below.heap_setCell _ _ _ _ hj)))
  have ne : ∀ j, ownO p bn bc sv es j → j ≠ g := by
    rintro j (rfl | rfl | rfl | hk | ⟨x, hx, hk⟩) rfl
    · have := h.hp
      rw [hg] at this
      injection this with this
      injection this with _ e2
      exact absurd e2 (by decide)
    · obtain ⟨D, ⟨es', c', hb, _⟩, _⟩ := h.nm.ex
      rw [hg] at hb
      cases hb
    · have := h.cl.hb
      rw [hg] at this
      cases this
    · obtain ⟨_, cur, hh⟩ := row_block h.st.own hk
      rw [hg] at hh
      injection hh with hh
      injection hh with _ e2
      exact absurd e2 (by decide)
    · obtain ⟨s, hs, e, hr⟩ := h.cl.rd x hx
      obtain ⟨_, cur, hh⟩ := row_block hr hk
      rw [hg] at hh
      injection hh with hh
      injection hh with _ e2
      exact absurd e2 (by decide)
  have gr : ∀ (u : World) (i : Nat) (v : Value), Oth O w u → Oth O w (u.setCell ⟨g, i, none⟩ v) := fun u i v q => q.grown (grown_setCell u g i v) (fun k e => by injection e with e; subst e; exact .inr hgw)
  exact ⟨gr _ _ _ (gr _ _ _ (gr _ _ _ (gr _ _ _ h.oth))), (k p (ne p (.inl rfl))).trans h.hp, ⟨row_keep h.st.own (fun j q => k j (ne j (.inr (.inr (.inr (.inl q))))))⟩, h.nm.keep (k bn (ne bn (.inr (.inl rfl)))), h.cl.keep (k bc (ne bc (.inr (.inr (.inl rfl))))) (fun x hx j q => k j (ne j (.inr (.inr (.inr (.inr ⟨x, hx, q⟩)))))), h.own, h.bnp, h.bcp, h.bnc⟩
end Go.Proofs.YtfonpobdnhifgamGreatDoor
namespace Go.Proofs.YtfonpobdnhifgamGreatDoor
open Go Go.RowKit
open Go.Maps (Keyed)
open Go.MapKept (Stamped)
open Go.ChangeMaps (setBlock heap_setBlock_same heap_setBlock_other)

/-- by each cell, while the levels from the atlas' one on, j of them, have got the new number. -/
def GJ (lv : Int) (L : List En) (e : En) (j : Nat) (s : Sq) : List Int := if cellB lv s e = true ∧ lv - j < s.l then GOf lv L s ++ [(L.length : Int)] else GOf lv L s
theorem GJ_zero {lv : Int} {L : List En} {e : En} : GJ lv L e 0 = GOf lv L := by
  funext s
  unfold GJ
  rw [if_neg ?_]
  rintro ⟨h1, h2⟩
  unfold cellB at h1
  simp only [Bool.and_eq_true, decide_eq_true_eq] at h1
  omega
theorem sqEq_is {s t : Sq} (h : sqEq s t = true) : s = t := by
  obtain ⟨f, l, c, r⟩ := s
  obtain ⟨f', l', c', r'⟩ := t
  simp only [sqEq, Bool.and_eq_true, beq_iff_eq] at h
  obtain ⟨rfl, rfl, rfl, rfl⟩ := h
  rfl
theorem sqEq_self (s : Sq) : sqEq s s = true := by simp [sqEq]
theorem GJ_at {lv : Int} {L : List En} {e : En} {j l : Nat} (hl : (l : Int) = lv - j) : GJ lv L e j (sqV e.d l) = GOf lv L (sqV e.d l) := by
  unfold GJ
  rw [if_neg ?_]
  rintro ⟨_, h2⟩
  have : (sqV e.d l).l = (l : Int) := rfl
  omega
theorem GJ_next {lv : Int} {L : List En} {e : En} {j l : Nat} (hl : (l : Int) = lv - j) : putG (GJ lv L e j) (sqV e.d l) (GJ lv L e j (sqV e.d l) ++ [(L.length : Int)]) = GJ lv L e (j + 1) := by
  funext t
  rw [GJ_at hl]
  have e1 : (sqV e.d l).l = (l : Int) := rfl
  by_cases q : t = sqV e.d l
  · subst q
    rw [putG_same]
    unfold GJ
    rw [if_pos ?_]
    refine ⟨?_, by omega⟩
    unfold cellB
    rw [e1]
    simp only [Bool.and_eq_true, decide_eq_true_eq, Int.toNat_natCast]
    exact ⟨by omega, sqEq_self _⟩
  · rw [putG_other q]
    unfold GJ
    by_cases c : cellB lv t e = true
    · by_cases m : lv - j < t.l
      · rw [if_pos ⟨c, m⟩, if_pos ⟨c, by omega⟩]
      · rw [if_neg (fun h => m h.2)]
        by_cases m2 : lv - ((j + 1 : Nat) : Int) < t.l
        · exfalso
          apply q
          unfold cellB at c
          simp only [Bool.and_eq_true, decide_eq_true_eq] at c
          have e2 : t.l.toNat = l := by omega
          rw [e2] at c
          exact (sqEq_is c.2).symm
        · rw [if_neg (fun h => m2 h.2)]
    · rw [if_neg (fun h => c h.1), if_neg (fun h => c h.1)]
theorem GJ_end {lv : Int} {L : List En} {e : En} {n : Nat} (hn : (n : Int) = lv + 1) : GJ lv L e n = GOf lv (L ++ [e]) := by
  funext s
  rw [GOf_app]
  unfold GJ
  by_cases c : cellB lv s e = true
  · have hc2 : lv - n < s.l := by
      have c2 := c
      unfold cellB at c2
      simp only [Bool.and_eq_true, decide_eq_true_eq] at c2
      omega
    rw [if_pos c, if_pos ⟨c, hc2⟩]
  · rw [if_neg c, if_neg (fun h => c h.1)]
theorem sq_ok {d : Dr} (h : dirB d = true) {l : Nat} (hl : l ≤ 12) : SqOk (sqV d l) := by
  have hv := of_decide_eq_true (va_dir h hl)
  have e1 : (sqV d l).l = (l : Int) := rfl
  have e2 : (sqV d l).l.toNat = l := by rw [e1]; exact Int.toNat_natCast l
  rw [e2] at hv
  have p := pow12 hl
  exact ⟨⟨by omega, by omega⟩, ⟨by omega, by omega⟩, ⟨by omega, by omega⟩, ⟨by omega, by omega⟩⟩
theorem sq_up {d : Dr} (h : dirB d = true) {l : Nat} (_hl : l + 1 ≤ 12) : (⟨(sqV d (l + 1)).f, (sqV d (l + 1)).l - 1, (sqV d (l + 1)).c / 2, (sqV d (l + 1)).r / 2⟩ : Sq) = sqV d l := by
  have b := dir_m h
  unfold sqV
  simp only
  rw [col_half b.1 b.2.2.1 l, col_half b.1 b.2.2.2.2.1 l]
  congr 1
  show ((l + 1 : Nat) : Int) - 1 = (l : Int)
  omega
theorem sq_nn4 {d : Dr} (h : dirB d = true) {l : Nat} (hl : l ≤ 12) : ∀ b : Bool, 0 ≤ (if b then (sqV d l).c else (sqV d l).r) ∧ (if b then (sqV d l).c else (sqV d l).r) ≤ 4611686018427387904 := by
  have hv := of_decide_eq_true (va_dir h hl)
  have e2 : (sqV d l).l.toNat = l := Int.toNat_natCast l
  rw [e2] at hv
  have p := pow12 hl
  intro b
  cases b
  · exact ⟨hv.2.2.2.2.2.2.1, by show (sqV d l).r ≤ _; omega⟩
  · exact ⟨hv.2.2.2.2.1, by show (sqV d l).c ≤ _; omega⟩
def Sl1S (v : Value) : Prop := ∃ g : Nat, v = .slice (some ⟨g, 0, none⟩) 1 1
def OneSt (e : En) (v : Value) (w : World) : Prop := ∀ g : Nat, v = .slice (some ⟨g, 0, none⟩) 1 1 → w.heap[g]? = some (.cells #[.string e.nm, .int .i64 e.d.x, .int .i64 e.d.y, .int .i64 e.d.z] 89)
theorem oneSt_stb (e : En) (v : Value) : Stb (OneSt e v) := fun _ _ h k g q => keepB (h g q) k
def OneI (n : Int) (v : Value) (w : World) : Prop := ∀ g : Nat, v = .slice (some ⟨g, 0, none⟩) 1 1 → w.heap[g]? = some (.cells #[.int .i64 n] 3)
theorem oneI_stb (n : Int) (v : Value) : Stb (OneI n v) := fun _ _ h k g q => keepB (h g q) k
theorem add_plS (b o k : Nat) : (⟨b, o, none⟩ : Addr).add k = ⟨b, o + k, none⟩ := by simp [Addr.add]
theorem one_star {w : World} {g : Nat} {e : En} (h : w.heap[g]? = some (.cells #[.string e.nm, .int .i64 e.d.x, .int .i64 e.d.y, .int .i64 e.d.z] 89)) : ∀ k u, (valSt e)[k]? = some u → w.cell? ((⟨g, 0, none⟩ : Addr).add k) = some u := by
  intro k u hu
  rw [add_plS, Nat.zero_add]
  rcases k with _ | _ | _ | _ | k
  · rw [← hu]; exact (cells_at h 0 (by simp)).1
  · rw [← hu]; exact (cells_at h 1 (by simp)).1
  · rw [← hu]; exact (cells_at h 2 (by simp)).1
  · rw [← hu]; exact (cells_at h 3 (by simp)).1
  · simp [valSt] at hu
theorem one_int {w : World} {g : Nat} {n : Int} (h : w.heap[g]? = some (.cells #[.int .i64 n] 3)) : ∀ k u, ([.int .i64 n] : List Value)[k]? = some u → w.cell? ((⟨g, 0, none⟩ : Addr).add k) = some u := by
  intro k u hu
  rw [add_plS, Nat.zero_add]
  rcases k with _ | k
  · rw [← hu]; exact (cells_at h 0 (by simp)).1
  · simp at hu
theorem infoSt : (Tryz.prog.info? 89).map (fun i => (i.zero, i.size, i.bytes)) = some (some (.agg #[.string ByteArray.empty, .int .i64 0, .int .i64 0, .int .i64 0]), 4, 40) := by kernel_rfl
theorem infoIn : (Tryz.prog.info? 3).map (fun i => (i.zero, i.size, i.bytes)) = some (some (.int .i64 0), 1, 8) := by kernel_rfl
def PutPost (w : World) (p : Nat) (lv : Int) (L : List En) (O : Nat → Prop) (sn : Int) (r : Ending) (w' : World) : Prop := r = .returned (.tuple #[]) ∧ ∃ O', ARep w' p lv L O' sn ∧ (∀ k, O' k → O k ∨ w.heap.size ≤ k) ∧ Oth O w w'
theorem PSt.done {w : World} {O : Nat → Prop} {p : Nat} {lv sn : Int} {bn bc : Nat} {wx : World} {sv : Value} {L : List En} {es : Array MapEntry} {clock : Nat} (h : PSt w O p lv sn bn bc wx sv L L es clock (GOf lv L)) (hl : 0 ≤ lv ∧ lv ≤ 12) (hd : ∀ e ∈ L, dirB e.d = true) (hs : ∀ e ∈ L, e.nm.size ≤ 40) : PutPost w p lv L O sn (.returned (.tuple #[])) wx :=
  ⟨rfl, ownO p bn bc sv es, ⟨sv, bn, bc, es, clock, ⟨hl, h.hp, h.st, h.nm, h.cl, h.bnp, h.bcp, h.bnc, hd, hs⟩, fun _ => Iff.rfl⟩, h.own, h.oth⟩
set_option maxRecDepth 1000000 in
set_option maxHeartbeats 6400000 in
theorem put_any {w : World} {p : Nat} {lv : Int} {L : List En} {O : Nat → Prop} {sn : Int} (h : ARep w p lv L O sn) (e : En) (hd : dirB e.d = true) (hsz : e.nm.size ≤ 40) (hLl : L.length ≤ 4000) :
    Calls Tryz.prog 54 #[.pointer (some ⟨p, 0, none⟩), .agg #[.string e.nm, .int .i64 e.d.x, .int .i64 e.d.y, .int .i64 e.d.z]] w (PutPost w p lv (L ++ [e]) O sn) := by
  obtain ⟨sv, bn, bc, es, clock, hx, hO⟩ := h
  have hlv := hx.lvl
  obtain ⟨N, rfl⟩ : ∃ N : Nat, lv = N := ⟨lv.toNat, by omega⟩
  obtain ⟨i0, hi0, hz0, hz1, hz2⟩ := info_parts infoSt
  obtain ⟨i1, hi1, hy0, hy1, hy2⟩ := info_parts infoIn
  have HD := hideR hd
  have HDn : HeldR (∀ x ∈ L ++ [e], dirB x.d = true) := hideR (fun x hx' => by
    rcases List.mem_append.1 hx' with q | q
    · exact hx.dir x q
    · rw [List.mem_singleton] at q; subst q; exact hd)
  have HSn : HeldR (∀ x ∈ L ++ [e], x.nm.size ≤ 40) := hideR (fun x hx' => by
    rcases List.mem_append.1 hx' with q | q
    · exact hx.siz x q
    · rw [List.mem_singleton] at q; subst q; exact hsz)
  have hce := fun u => pcell_any e.d hd (l := N) (by omega) u
  obtain ⟨ad, cap, esv, _⟩ := hx.st.at
  have HS0 : PSt w O p (N : Int) sn bn bc w sv L L es clock (GJ (N : Int) L e 0) := by
    rw [GJ_zero]
    exact ⟨Oth.refl O w, hx.hp, hx.st, hx.nm, hx.cl, fun k q => .inl ((hO k).2 q), hx.bnp, hx.bcp, hx.bnc⟩
  rw [esv] at HS0
  have z1 := alloc_last w (.cells #[.string e.nm, .int .i64 e.d.x, .int .i64 e.d.y, .int .i64 e.d.z] 89)
  have HS := hideR (HS0.below (below_a w (.cells #[.string e.nm, .int .i64 e.d.x, .int .i64 e.d.y, .int .i64 e.d.z] 89)))
  have HLo := hideR HS0.lt
  obtain ⟨n, hn⟩ : ∃ n, L.length = n := ⟨_, rfl⟩
  have Hn := hideR hn
  rw [hn] at HS HLo hLl
  clear HS0 hx hO esv sv hn hd
  go_enter Tryz.func54, Tryz.ntmps54
  go_upto_region 1 with fail
  generalize w.alloc (.cells #[.string e.nm, .int .i64 e.d.x, .int .i64 e.d.y, .int .i64 e.d.z] 89) = u0 at *
  have x1 := (cells_at (unhideR HS).hp 1 (by simp)).1
  have HKw : HeldR (w.heap.size = w.heap.size) := hideR rfl
  obtain ⟨K0, hK0⟩ : ∃ K, w.heap.size = K := ⟨_, rfl⟩
  have HNK : HeldR (∀ k, k = K0 → (Value.slice ad n cap).ownBlock ≠ some k) := hideR (fun k hk q => by
    have := unhideR HLo k (.inr (.inr (.inr (.inl q))))
    omega)
  replace HKw := hideR hK0
  rw [hK0] at z1 ⊢
  clear hK0
  go_upto_region 2 with fail
  have HC : HeldR (∀ v, Below u0.heap.size u0 v → v.cell? ⟨p, 1, none⟩ = some (.slice ad n cap)) := hideR (fun v hv => (cells_at (((unhideR HS).below hv).hp) 1 (by simp)).1)
  have HY : HeldR (∀ v, Below u0.heap.size u0 v → v.cell? ⟨K0, 0, none⟩ = some (.string e.nm) ∧ v.cell? ⟨K0, 1, none⟩ = some (.int .i64 e.d.x) ∧ v.cell? ⟨K0, 2, none⟩ = some (.int .i64 e.d.y) ∧ v.cell? ⟨K0, 3, none⟩ = some (.int .i64 e.d.z)) := hideR (fun v hv => ⟨(cells_at (keepB z1 hv) 0 (by simp)).1, (cells_at (keepB z1 hv) 1 (by simp)).1, (cells_at (keepB z1 hv) 2 (by simp)).1, (cells_at (keepB z1 hv) 3 (by simp)).1⟩)
  refine Y.wp_region_pure 3 #[true, true, true, true, true, true, true, false, false, false, false] [.pure (.pointer (some ⟨p, 0, none⟩)),
    .lets (· = .pointer (some ⟨p, 0, none⟩)),
    .lets (· = .pointer (some ⟨p, 0, none⟩)),
    .lets (· = .pointer (some ⟨p, 1, none⟩)),
    .lets (· = .slice ad n cap),
    .lets (· = .agg #[.string e.nm, .int .i64 e.d.x, .int .i64 e.d.y, .int .i64 e.d.z]),
    .made Sl1S (OneSt e)] [0] (by kernel_rfl) (by kernel_rfl) rfl ?pures (fun d _ _ _ _ h => by cases d <;> exact h) (by kernel_rfl) (by kernel_rfl) ?_
  case pures =>
    intro i h
    rcases i with _ | _ | _ | _ | _ | _ | _ | i <;> first | exact ⟨_, rfl⟩ | (simp at h)
  refine Y.lexX_pure (fun K hK => ⟨.inl ⟨by kernel_rfl, fun v => ?_⟩, ?_⟩)
  · go_simp
  go_simp
  refine hK _ ?_
  clear hK K
  refine Y.lexX_step (fun K hK => ⟨by kernel_rfl, ⟨_, rfl⟩, fun v hv => ?_, fun v hv => ?_⟩)
  · go_simp
    exact mUpon_b
  subst hv
  go_simp
  refine hK _ ?_
  clear hK K
  refine Y.lexX_step (fun K hK => ⟨by kernel_rfl, ⟨_, rfl⟩, fun v hv => ?_, fun v hv => ?_⟩)
  · go_simp
    exact mUpon_b
  subst hv
  go_simp
  refine hK _ ?_
  clear hK K
  refine Y.lexX_step (fun K hK => ⟨by kernel_rfl, ⟨_, rfl⟩, fun v hv => ?_, fun v hv => ?_⟩)
  · go_simp
    exact mUpon_b
  subst hv
  go_simp
  refine hK _ ?_
  clear hK K
  refine Y.lexX_step (fun K hK => ⟨by kernel_rfl, ⟨_, rfl⟩, fun v hv => ?_, fun v hv => ?_⟩)
  · have cc := unhideR HC v hv
    go_simp
    exact mUpon_b
  subst hv
  go_simp
  refine hK _ ?_
  clear hK K
  refine Y.lexX_step (fun K hK => ⟨by kernel_rfl, ⟨_, rfl⟩, fun v hv => ?_, fun v hv => ?_⟩)
  · obtain ⟨y0, y1, y2, y3⟩ := unhideR HY v hv
    go_simp
    exact mUpon_b
  subst hv
  go_simp
  refine hK _ ?_
  clear hK K
  refine Y.lexX_made ⟨by kernel_rfl, ⟨_, 0, rfl⟩, oneSt_stb _, fun v hv => ?_, ?_⟩
  · go_simp
    exact ⟨below_a v _, ⟨_, rfl⟩, fun q hq => by cases hq; exact alloc_last v _⟩
  rintro _ ⟨u9, rfl⟩ K hK
  go_simp
  refine hK _ ?_
  clear hK K
  refine Y.lexX_end (fun v5 hv => ?_)
  have HO9 := hideR (hv.fact.2 _ rfl)
  have HK5 := hideR hv.low
  clear hv
  replace HS := hideR ((unhideR HS).below (unhideR HK5))
  replace z1 := keepB z1 (unhideR HK5)
  have hB5 : p + 1 ≤ v5.heap.size := (unhideR HS).lt p (.inl rfl)
  have hO5 : v5.ownsRow (p + 1) 89 4 (.slice ad n cap) n (flatSt L) := by
    have := (unhideR HS).st.own
    rw [unhideR Hn] at this
    exact this
  refine wpAny_step (i := 7) (by kernel_rfl) rfl (by kernel_rfl) (fun K hK => ?_)
  refine wp_append_at _ _ 78 rfl (p + 1) 89 i0 (.agg #[.string ByteArray.empty, .int .i64 0, .int .i64 0, .int .i64 0]) 4 40 Tryz.underlying78 hi0 hz0 hz1 hz2 rfl (by decide) _ n (flatSt L) rfl hO5 ⟨u9, 0, none⟩ 1 1 (valSt e) rfl rfl ?q1 ?q2 ?q3 ?q4 ?q5 ?_
  case q1 => exact one_star (unhideR HO9)
  case q2 =>
    intro u hu
    simp only [valSt, List.mem_cons, List.not_mem_nil, or_false] at hu
    rcases hu with rfl | rfl | rfl | rfl <;> rfl
  case q3 => unfold maxLen; omega
  case q4 => omega
  case q5 => exact hB5
  intro v6 w6 hown hgrow hloc
  obtain ⟨ad6, cap6, e6⟩ : ∃ ad6 cap6, v6 = .slice ad6 (n + 1) cap6 := by
    rcases hown.2 with ⟨e1, e2⟩ | ⟨g1, c1, cur, e1, _⟩
    · exact absurd e2 (by omega)
    · exact ⟨_, _, e1⟩
  subst e6
  have hnp : (Value.slice ad n cap).ownBlock ≠ some p := fun q => by
    have := (row_block hO5 q).1
    omega
  have hp6 := (hgrow.block p (by omega) (fun q => hnp q.symm)).trans (unhideR HS).hp
  have z6 := (hgrow.block K0 (ltB z1) (fun q => unhideR HNK K0 rfl q.symm)).trans z1
  have hKp : K0 ≠ p := by
    have := unhideR HLo p (.inl rfl)
    have := unhideR HKw
    omega
  replace HS := hideR ((unhideR HS).star (e := e) (by rw [unhideR Hn]; exact hown) hgrow hloc)
  have z7 : (w6.setCell ⟨p, 1, none⟩ (.slice ad6 (n + 1) cap6)).heap[K0]? = some (.cells #[.string e.nm, .int .i64 e.d.x, .int .i64 e.d.y, .int .i64 e.d.z] 89) := (Below.heap_setCell _ _ _ _ hKp).trans z6
  have d1 := (cells_at hp6 1 (by simp)).1
  have f1 := (cells_at hp6 1 (by simp)).2
  clear hown hgrow hloc hO5 z1 z6 hp6 HO9 HK5 hB5 hnp HNK HC HY v5
  go_simp
  refine hK _ _ ?_
  clear hK K
  refine wpAny_step (i := 8) (by kernel_rfl) rfl (by kernel_rfl) (fun K hK => ?_)
  unfold Oper.wp
  go_simp
  refine hK _ _ ?_
  clear hK K
  refine wpAny_step (i := 9) (by kernel_rfl) rfl (by kernel_rfl) (fun K hK => ?_)
  unfold Oper.wp
  go_simp
  refine hK _ _ ?_
  clear hK K
  refine wpAny_step (i := 10) (by kernel_rfl) rfl (by kernel_rfl) (fun K hK => ?_)
  unfold Oper.wp
  go_simp
  refine hK _ _ ?_
  clear hK K
  refine wpAny_end (by kernel_rfl) ?_
  generalize w6.setCell ⟨p, 1, none⟩ (.slice ad6 (n + 1) cap6) = w7 at *
  clear d1 f1 w6 hi0 hz0 hz1 hz2 i0 x1
  go_upto_region 3 with fail
  have HC : HeldR (∀ v, Below w7.heap.size w7 v → v.cell? ⟨p, 2, none⟩ = some (.map (some bn))) := hideR (fun v hv => (cells_at (((unhideR HS).below hv).hp) 2 (by simp)).1)
  have HY : HeldR (∀ v, Below w7.heap.size w7 v → v.cell? ⟨K0, 0, none⟩ = some (.string e.nm)) := hideR (fun v hv => (cells_at (keepB z7 hv) 0 (by simp)).1)
  refine wp_region_made 0 #[true, true, true, true, true, true, true, false] [.lets (· = .pointer (some ⟨p, 0, none⟩)),
    .lets (· = .pointer (some ⟨p, 0, none⟩)),
    .lets (· = .pointer (some ⟨p, 2, none⟩)),
    .lets (· = .map (some bn)),
    .lets (· = .pointer (some ⟨K0, 0, none⟩)),
    .lets (· = .string e.nm),
    .lets (· = .agg #[])] [] [] (by kernel_rfl) (by kernel_rfl) rfl ?kinds (by kernel_rfl) (by kernel_rfl) (by kernel_rfl) ?_
  case kinds =>
    constructor
    · intro i h
      rcases i with _ | _ | _ | _ | _ | _ | _ | i <;> simp [Kx.isMade] at h
    · intro i h
      rcases i with _ | _ | _ | _ | _ | _ | _ | i <;> simp [Kx.isUse] at h
  refine lexX_step (fun K hK => ⟨by kernel_rfl, ⟨_, rfl⟩, fun v hv => ?_, fun v hv => ?_⟩)
  · go_simp
    exact mUpon_b
  subst hv
  go_simp
  refine hK _ ?_
  clear hK K
  refine lexX_step (fun K hK => ⟨by kernel_rfl, ⟨_, rfl⟩, fun v hv => ?_, fun v hv => ?_⟩)
  · go_simp
    exact mUpon_b
  subst hv
  go_simp
  refine hK _ ?_
  clear hK K
  refine lexX_step (fun K hK => ⟨by kernel_rfl, ⟨_, rfl⟩, fun v hv => ?_, fun v hv => ?_⟩)
  · go_simp
    exact mUpon_b
  subst hv
  go_simp
  refine hK _ ?_
  clear hK K
  refine lexX_step (fun K hK => ⟨by kernel_rfl, ⟨_, rfl⟩, fun v hv => ?_, fun v hv => ?_⟩)
  · have cc := unhideR HC v hv
    go_simp
    exact mUpon_b
  subst hv
  go_simp
  refine hK _ ?_
  clear hK K
  refine lexX_step (fun K hK => ⟨by kernel_rfl, ⟨_, rfl⟩, fun v hv => ?_, fun v hv => ?_⟩)
  · go_simp
    exact mUpon_b
  subst hv
  go_simp
  refine hK _ ?_
  clear hK K
  refine lexX_step (fun K hK => ⟨by kernel_rfl, ⟨_, rfl⟩, fun v hv => ?_, fun v hv => ?_⟩)
  · have cc := unhideR HY v hv
    go_simp
    exact mUpon_b
  subst hv
  go_simp
  refine hK _ ?_
  clear hK K
  refine lexX_step (fun K hK => ⟨by kernel_rfl, ⟨_, rfl⟩, fun v hv => ?_, fun v hv => ?_⟩)
  · go_simp
    exact mUpon_b
  subst hv
  go_simp
  refine hK _ ?_
  clear hK K
  refine lexX_end (fun v8 hv => ?_)
  replace z7 := keepB z7 hv.low
  replace HS := hideR ((unhideR HS).below hv.low)
  clear hv HC HY
  obtain ⟨w9, hrun, g9, hS9⟩ := (unhideR HS).name (e := e) (by unfold maxLen; omega) (by rw [unhideR Hn]; unfold maxLen; omega)
  have hnK : K0 ≠ bn := by
    have := unhideR HLo bn (.inr (.inl rfl))
    have := unhideR HKw
    omega
  have z9 := (g9.block K0 (ltB z7) (fun q => by injection q with q; exact hnK q)).trans z7
  replace HS := hideR hS9
  clear z7 g9 hS9 hnK
  refine wpAny_step (i := 7) (by kernel_rfl) rfl (by kernel_rfl) (fun K hK => ?_)
  unfold Oper.wp
  go_simp
  refine hK _ _ ?_
  clear hK K
  refine wpAny_end (by kernel_rfl) ?_
  clear hrun v8
  go_upto_region 4 with fail
  have HC : HeldR (∀ v, Below w9.heap.size w9 v → v.cell? ⟨p, 0, none⟩ = some (.int .i64 (N : Int))) := hideR (fun v hv => (cells_at (((unhideR HS).below hv).hp) 0 (by simp)).1)
  have HY : HeldR (∀ v, Below w9.heap.size w9 v → v.cell? ⟨K0, 1, none⟩ = some (.int .i64 e.d.x) ∧ v.cell? ⟨K0, 2, none⟩ = some (.int .i64 e.d.y) ∧ v.cell? ⟨K0, 3, none⟩ = some (.int .i64 e.d.z)) := hideR (fun v hv => ⟨(cells_at (keepB z9 hv) 1 (by simp)).1, (cells_at (keepB z9 hv) 2 (by simp)).1, (cells_at (keepB z9 hv) 3 (by simp)).1⟩)
  have HSz := hideR (unhideR HS).oth.size
  obtain ⟨s0, hs0⟩ : ∃ s, sqV e.d N = s := ⟨_, rfl⟩
  have Hs0 := hideR hs0
  rw [hs0] at hce
  unfold Dr.val Sq.val at hce
  clear hs0
  refine wp_region_made 0 #[true, true, true, true, true, true, true, true, false] [.lets (· = .pointer (some ⟨K0, 1, none⟩)),
    .lets (· = .agg #[.int .i64 e.d.x, .int .i64 e.d.y, .int .i64 e.d.z]),
    .lets (· = .pointer (some ⟨p, 0, none⟩)),
    .lets (· = .pointer (some ⟨p, 0, none⟩)),
    .lets (· = .pointer (some ⟨p, 0, none⟩)),
    .lets (· = .int .i64 (N : Int)),
    .lets (· = .agg #[.int .i64 s0.f, .int .i64 s0.l, .int .i64 s0.c, .int .i64 s0.r]),
    .new (.cells #[.int .i64 0, .int .i64 0, .int .i64 0, .int .i64 0] 61)] [] [] (by kernel_rfl) (by kernel_rfl) rfl ?kinds (by kernel_rfl) (by kernel_rfl) (by kernel_rfl) ?_
  case kinds =>
    constructor
    · intro i h
      rcases i with _ | _ | _ | _ | _ | _ | _ | _ | i <;> simp [Kx.isMade] at h
    · intro i h
      rcases i with _ | _ | _ | _ | _ | _ | _ | _ | i <;> simp [Kx.isUse] at h
  refine lexX_step (fun K hK => ⟨by kernel_rfl, ⟨_, rfl⟩, fun v hv => ?_, fun v hv => ?_⟩)
  · go_simp
    exact mUpon_b
  subst hv
  go_simp
  refine hK _ ?_
  clear hK K
  refine lexX_step (fun K hK => ⟨by kernel_rfl, ⟨_, rfl⟩, fun v hv => ?_, fun v hv => ?_⟩)
  · obtain ⟨y1, y2, y3⟩ := unhideR HY v hv
    go_simp
    exact mUpon_b
  subst hv
  go_simp
  refine hK _ ?_
  clear hK K
  refine lexX_step (fun K hK => ⟨by kernel_rfl, ⟨_, rfl⟩, fun v hv => ?_, fun v hv => ?_⟩)
  · go_simp
    exact mUpon_b
  subst hv
  go_simp
  refine hK _ ?_
  clear hK K
  refine lexX_step (fun K hK => ⟨by kernel_rfl, ⟨_, rfl⟩, fun v hv => ?_, fun v hv => ?_⟩)
  · go_simp
    exact mUpon_b
  subst hv
  go_simp
  refine hK _ ?_
  clear hK K
  refine lexX_step (fun K hK => ⟨by kernel_rfl, ⟨_, rfl⟩, fun v hv => ?_, fun v hv => ?_⟩)
  · go_simp
    exact mUpon_b
  subst hv
  go_simp
  refine hK _ ?_
  clear hK K
  refine lexX_step (fun K hK => ⟨by kernel_rfl, ⟨_, rfl⟩, fun v hv => ?_, fun v hv => ?_⟩)
  · have cc := unhideR HC v hv
    go_simp
    exact mUpon_b
  subst hv
  go_simp
  refine hK _ ?_
  clear hK K
  refine lexX_step (fun K hK => ⟨by kernel_rfl, ⟨_, rfl⟩, fun v hv => ?_, fun v hv => ?_⟩)
  · go_simp
    refine (hce v).mono ?_
    rintro e w9 ⟨rfl, k⟩
    exact ⟨_, rfl, rfl, k⟩
  subst hv
  go_simp
  refine hK _ ?_
  clear hK K
  refine lexX_new (fin0.some _) (fun g9 fg9 K hK => ⟨by kernel_rfl, fun v => ?_, ?_⟩)
  · go_simp
    first | exact ⟨rfl, rfl⟩ | rfl
  unfold ptr
  go_simp
  refine hK _ ?_
  clear hK K
  refine lexX_end (fun v5 hv => ?_)
  have h0 := hv.held g9 (.cells #[.int .i64 0, .int .i64 0, .int .i64 0, .int .i64 0] 61) (by unfold Hd.put; rw [if_pos rfl])
  have hlow := hv.low
  have hge := fg9.ge
  clear hv fg9
  have d0 := (cells_at h0 0 (by simp)).1
  have d1 := (cells_at h0 1 (by simp)).1
  have d2 := (cells_at h0 2 (by simp)).1
  have d3 := (cells_at h0 3 (by simp)).1
  have f0 := (cells_at h0 0 (by simp)).2
  have f1 := (cells_at h0 1 (by simp)).2
  have f2 := (cells_at h0 2 (by simp)).2
  have f3 := (cells_at h0 3 (by simp)).2
  have HG := set4_at h0 (.int .i64 s0.f) (.int .i64 s0.l) (.int .i64 s0.c) (.int .i64 s0.r)
  replace HS := hideR ((unhideR HS).below (set4_blL hlow hge (.int .i64 s0.f) (.int .i64 s0.l) (.int .i64 s0.c) (.int .i64 s0.r)))
  have HgW : HeldR (w.heap.size ≤ g9) := hideR (Nat.le_trans (unhideR HSz) hge)
  clear hlow hge h0 HC HY z9 HSz
  refine wpAny_step (i := 8) (by kernel_rfl) rfl (by kernel_rfl) (fun K hK => ?_)
  unfold Oper.wp
  go_simp
  refine hK _ _ ?_
  clear hK K
  refine wpAny_end (by kernel_rfl) ?_
  generalize (((v5.setCell ⟨g9, 0, none⟩ (.int .i64 s0.f)).setCell ⟨g9, 1, none⟩ (.int .i64 s0.l)).setCell ⟨g9, 2, none⟩ (.int .i64 s0.c)).setCell ⟨g9, 3, none⟩ (.int .i64 s0.r) = w10 at *
  clear d0 d1 d2 d3 f0 f1 f2 f3 v5 hce w9
  have x0 := (cells_at (unhideR HS).hp 0 (by simp)).1
  go_wp2_with fail
  clear x0
  have HG0 : HeldR (∃ s : Sq, w10.heap[g9]? = some (.cells #[.int .i64 s.f, .int .i64 s.l, .int .i64 s.c, .int .i64 s.r] 61) ∧ (0 ≤ N → s = sqV e.d (N - 0))) := hideR ⟨s0, HG, fun _ => (unhideR Hs0).symm⟩
  clear HG Hs0
  go_loopw [40] (fun iv wl => ∃ j : Nat, j ≤ N + 1 ∧ iv = .int .i64 (j : Nat) ∧ HeldR (∃ es clock, PSt w O p (N : Int) sn bn bc wl (.slice ad6 (n + 1) cap6) (L ++ [e]) (L ++ [e]) es clock (GJ (N : Int) L e j)) ∧ HeldR (∃ s : Sq, wl.heap[g9]? = some (.cells #[.int .i64 s.f, .int .i64 s.l, .int .i64 s.c, .int .i64 s.r] 61) ∧ (j ≤ N → s = sqV e.d (N - j)))) (fun iv _ => N + 2 - (intOf iv).toNat)
  case atStart => exact ⟨0, by omega, rfl, hideR ⟨es, clock, unhideR HS⟩, HG0⟩
  case round =>
    clear HS HG0 w10 HLo
    clear es
    obtain ⟨j, hj, rfl, HS, HG⟩ := hrel
    obtain ⟨es, clock, hS⟩ := unhideR HS
    clear HS
    have HS := hideR hS
    clear hS
    obtain ⟨s, hg, hsq⟩ := unhideR HG
    clear HG
    by_cases q : j < N + 1
    case neg =>
      obtain rfl : j = N + 1 := by omega
      have ti : decide (((N + 1 : Nat) : Int) < (N : Int) + 1) = false := decide_eq_false (by omega)
      have HP : HeldR (PutPost w p (N : Int) (L ++ [e]) O sn (.returned (.tuple #[])) wr) := hideR (by
        have h := unhideR HS
        rw [GJ_end (by omega)] at h
        exact h.done (by omega) (unhideR HDn) (unhideR HSn))
      clear HS hg hsq
      go_wp2
      simp [bodyPost, results, go_sem]
      exact unhideR HP
    have ti : decide ((j : Int) < (N : Int) + 1) = true := decide_eq_true (by omega)
    have hjN : j ≤ N := by omega
    have hss := hsq hjN
    have Hss := hideR hss
    clear hsq
    have hso : SqOk s := by rw [hss]; exact sq_ok (unhideR HD) (by omega)
    have HGs : HeldR (GJ (N : Int) L e j s = GOf (N : Int) L s) := hideR (by rw [hss]; exact GJ_at (by omega))
    have hsl : s.l = ((N - j : Nat) : Int) := by rw [hss]; rfl
    have hsc : 0 ≤ s.c ∧ s.c ≤ 4611686018427387904 := by rw [hss]; exact sq_nn4 (unhideR HD) (by omega) true
    have hsr : 0 ≤ s.r ∧ s.r ≤ 4611686018427387904 := by rw [hss]; exact sq_nn4 (unhideR HD) (by omega) false
    have hup := fun u => pup_any s (by omega) hsc hsr u
    clear hsl hsc hsr
    have HGn2 : HeldR (putG (GJ (N : Int) L e j) s (GJ (N : Int) L e j s ++ [(n : Int)]) = GJ (N : Int) L e (j + 1)) := hideR (by rw [hss, ← unhideR Hn]; exact GJ_next (by omega))
    clear hss
    have HC : HeldR (∀ v, Below wr.heap.size wr v → v.cell? ⟨p, 3, none⟩ = some (.map (some bc))) := hideR (fun v hv => (cells_at (((unhideR HS).below hv).hp) 3 (by simp)).1)
    have HY : HeldR (∀ v, Below wr.heap.size wr v → v.cell? ⟨g9, 0, none⟩ = some (.int .i64 s.f) ∧ v.cell? ⟨g9, 1, none⟩ = some (.int .i64 s.l) ∧ v.cell? ⟨g9, 2, none⟩ = some (.int .i64 s.c) ∧ v.cell? ⟨g9, 3, none⟩ = some (.int .i64 s.r)) := hideR (fun v hv => ⟨(cells_at (keepB hg hv) 0 (by simp)).1, (cells_at (keepB hg hv) 1 (by simp)).1, (cells_at (keepB hg hv) 2 (by simp)).1, (cells_at (keepB hg hv) 3 (by simp)).1⟩)
    go_upto_region 7 with fail
    refine wp_region_made 4 #[true, true, true, true, true, true, true, false, false, false, false, false] [.lets (· = .pointer (some ⟨p, 0, none⟩)),
      .lets (· = .pointer (some ⟨p, 0, none⟩)),
      .lets (· = .pointer (some ⟨p, 3, none⟩)),
      .lets (· = .map (some bc)),
      .lets (· = .agg #[.int .i64 s.f, .int .i64 s.l, .int .i64 s.c, .int .i64 s.r]),
      .lets (· = .int .i64 (n : Int)),
      .made Sl1S (OneI (n : Int))] [6] [] (by kernel_rfl) (by kernel_rfl) rfl ?kinds (by kernel_rfl) (by kernel_rfl) (by kernel_rfl) ?_
    case kinds =>
      constructor
      · intro i h
        rcases i with _ | _ | _ | _ | _ | _ | _ | i <;> simp [Kx.isMade] at h ⊢
      · intro i h
        rcases i with _ | _ | _ | _ | _ | _ | _ | i <;> simp [Kx.isUse] at h
    refine lexX_step (fun K hK => ⟨by kernel_rfl, ⟨_, rfl⟩, fun v hv => ?_, fun v hv => ?_⟩)
    · go_simp
      exact mUpon_b
    subst hv
    go_simp
    refine hK _ ?_
    clear hK K
    refine lexX_step (fun K hK => ⟨by kernel_rfl, ⟨_, rfl⟩, fun v hv => ?_, fun v hv => ?_⟩)
    · go_simp
      exact mUpon_b
    subst hv
    go_simp
    refine hK _ ?_
    clear hK K
    refine lexX_step (fun K hK => ⟨by kernel_rfl, ⟨_, rfl⟩, fun v hv => ?_, fun v hv => ?_⟩)
    · go_simp
      exact mUpon_b
    subst hv
    go_simp
    refine hK _ ?_
    clear hK K
    refine lexX_step (fun K hK => ⟨by kernel_rfl, ⟨_, rfl⟩, fun v hv => ?_, fun v hv => ?_⟩)
    · have cc := unhideR HC v hv
      go_simp
      exact mUpon_b
    subst hv
    go_simp
    refine hK _ ?_
    clear hK K
    refine lexX_step (fun K hK => ⟨by kernel_rfl, ⟨_, rfl⟩, fun v hv => ?_, fun v hv => ?_⟩)
    · obtain ⟨y0, y1, y2, y3⟩ := unhideR HY v hv
      go_simp
      exact mUpon_b
    subst hv
    go_simp
    refine hK _ ?_
    clear hK K
    refine lexX_step (fun K hK => ⟨by kernel_rfl, ⟨_, rfl⟩, fun v hv => ?_, fun v hv => ?_⟩)
    · go_simp
      exact mUpon_b
    subst hv
    go_simp
    refine hK _ ?_
    clear hK K
    refine lexX_made ⟨by kernel_rfl, ⟨_, 0, rfl⟩, oneI_stb _, fun v hv => ?_, ?_⟩
    · go_simp
      exact ⟨below_a v _, ⟨_, rfl⟩, fun q hq => by cases hq; exact alloc_last v _⟩
    rintro _ ⟨u9, rfl⟩ K hK
    go_simp
    refine hK _ ?_
    clear hK K
    refine lexX_end (fun v5 hv => ?_)
    have hO9 := hv.fact.2 _ rfl
    replace hg := keepB hg hv.low
    replace HS := hideR ((unhideR HS).below hv.low)
    clear hv HC HY
    obtain ⟨vv, st, w1, hr1, hent, g1, sz1, hback⟩ := (unhideR HS).cell hso
    have hbcp := (unhideR HS).bcp
    have hpl := (unhideR HS).lt p (.inl rfl)
    have hlen : (GJ (N : Int) L e j s).length ≤ n := by
      rw [unhideR HGs, ← unhideR Hn]
      exact ixL_len _ _ _
    have hu9 : u9 ≠ bc := fun q => by
      have := (unhideR HS).cl.hb
      rw [← q, hO9] at this
      cases this
    have hg9 : g9 ≠ bc := fun q => by
      have := (unhideR HS).cl.hb
      rw [← q, hg] at this
      cases this
    have o1 := (g1.block u9 (ltB hO9) (fun q => by injection q with q; exact hu9 q)).trans hO9
    have y1 := (g1.block g9 (ltB hg) (fun q => by injection q with q; exact hg9 q)).trans hg
    have hvg : vv.ownBlock ≠ some g9 := fun q => by
      obtain ⟨_, cur, hh⟩ := row_block hr1 q
      rw [y1] at hh
      injection hh with hh
      injection hh with _ e2
      exact absurd e2 (by decide)
    have hpw1 : p + 1 ≤ w1.heap.size := by omega
    generalize GJ (N : Int) L e j s = zs at *
    unfold Sq.val at hent
    unfold goInt at hent hback
    clear hO9 hg hso
    refine wpAny_step (i := 7) (by kernel_rfl) rfl (by kernel_rfl) (fun K hK => ?_)
    unfold Oper.wp
    go_simp
    refine hK _ _ ?_
    clear hK K
    refine wpAny_take (i := 8) (v := vv) rfl (by kernel_rfl) (by kernel_rfl) (by kernel_rfl) (fun _ _ _ h => h) (Or.inl ⟨by rfl, fun u => ?_⟩) ?_
    · go_simp
    go_simp
    refine wpAny_take (i := 10) (v := .int .i64 (st : Int)) rfl (by kernel_rfl) (by kernel_rfl) (by kernel_rfl) (fun _ _ _ h => h) (Or.inl ⟨by rfl, fun u => ?_⟩) ?_
    · go_simp
    go_simp
    refine wpAny_step (i := 9) (by kernel_rfl) rfl (by kernel_rfl) (fun K hK => ?_)
    refine wp_append_at _ _ 91 rfl (p + 1) 3 i1 (.int .i64 0) 1 8 Tryz.underlying91 hi1 hy0 hy1 hy2 rfl (by decide) _ zs.length (zs.map (Value.int .i64)) rfl hr1 ⟨u9, 0, none⟩ 1 1 [.int .i64 (n : Int)] rfl rfl ?q1 ?q2 ?q3 ?q4 ?q5 ?_
    case q1 => exact one_int o1
    case q2 =>
      intro u hu
      rw [List.mem_singleton] at hu
      subst hu
      rfl
    case q3 => unfold maxLen; omega
    case q4 => omega
    case q5 => exact hpw1
    intro v6 w6 hown hgrow hloc
    obtain ⟨w3, es2, clock2, hrun, g3, hS3⟩ := hback w6 v6 (n : Int) hgrow (by
      show w6.ownsRow (p + 1) 3 1 v6 (zs ++ [(n : Int)]).length ((zs ++ [(n : Int)]).map (Value.int .i64))
      rw [List.length_append, List.map_append]
      exact hown) hloc
    have y6 := (hgrow.block g9 (ltB y1) (fun q => hvg q.symm)).trans y1
    have y3 := (g3.block g9 (ltB y6) (fun q => by injection q with q; exact hg9 q)).trans y6
    replace HS := hideR hS3
    clear hown hgrow hloc hback hr1 g1 g3 hS3 hent o1 y1 y6 hvg hu9 hg9
    go_simp
    refine hK _ _ ?_
    clear hK K
    refine wpAny_step (i := 11) (by kernel_rfl) rfl (by kernel_rfl) (fun K hK => ?_)
    unfold Oper.wp
    go_simp
    refine hK _ _ ?_
    clear hK K
    refine wpAny_end (by kernel_rfl) ?_
    clear hrun sz1 hpw1
    have x0 := (cells_at y3 0 (by simp)).1
    have x1 := (cells_at y3 1 (by simp)).1
    have x2 := (cells_at y3 2 (by simp)).1
    have x3 := (cells_at y3 3 (by simp)).1
    unfold Sq.val at hup
    simp only at hup
    go_wp2_with fail
    refine (hup _).mono ?_
    rintro r w11 ⟨rfl, k11⟩
    have y11 := keepB y3 k11
    replace HS := hideR ((unhideR HS).below k11)
    have hlt9 := ltB y3
    clear k11 x0 x1 x2 x3 y3 hup
    have d0 := (cells_at y11 0 (by simp)).1
    have d1 := (cells_at y11 1 (by simp)).1
    have d2 := (cells_at y11 2 (by simp)).1
    have d3 := (cells_at y11 3 (by simp)).1
    have f0 := (cells_at y11 0 (by simp)).2
    have f1 := (cells_at y11 1 (by simp)).2
    have f2 := (cells_at y11 2 (by simp)).2
    have f3 := (cells_at y11 3 (by simp)).2
    have HGn := set4_at y11 (.int .i64 s.f) (.int .i64 (s.l - 1)) (.int .i64 (s.c / 2)) (.int .i64 (s.r / 2))
    have hge9 : HeldR (∃ es clock, PSt w O p (N : Int) sn bn bc ((((w11.setCell ⟨g9, 0, none⟩ (.int .i64 s.f)).setCell ⟨g9, 1, none⟩ (.int .i64 (s.l - 1))).setCell ⟨g9, 2, none⟩ (.int .i64 (s.c / 2))).setCell ⟨g9, 3, none⟩ (.int .i64 (s.r / 2))) (.slice ad6 (n + 1) cap6) (L ++ [e]) (L ++ [e]) es clock (GJ (N : Int) L e (j + 1))) := by
      refine hideR ⟨es2, clock2, ?_⟩
      have h := unhideR HS
      rw [unhideR HGn2] at h
      exact h.spare y11 (unhideR HgW) _ _ _ _
    have HGq : HeldR (∃ s' : Sq, ((((w11.setCell ⟨g9, 0, none⟩ (.int .i64 s.f)).setCell ⟨g9, 1, none⟩ (.int .i64 (s.l - 1))).setCell ⟨g9, 2, none⟩ (.int .i64 (s.c / 2))).setCell ⟨g9, 3, none⟩ (.int .i64 (s.r / 2))).heap[g9]? = some (.cells #[.int .i64 s'.f, .int .i64 s'.l, .int .i64 s'.c, .int .i64 s'.r] 61) ∧ (j + 1 ≤ N → s' = sqV e.d (N - (j + 1)))) := by
      refine hideR ⟨⟨s.f, s.l - 1, s.c / 2, s.r / 2⟩, HGn, fun hj1 => ?_⟩
      have e0 : N - j = (N - (j + 1)) + 1 := by omega
      have h := unhideR Hss
      rw [e0] at h
      rw [h]
      exact sq_up (unhideR HD) (by omega)
    clear HGn HS y11 hlt9
    go_wp2
    exact ⟨⟨j + 1, by omega, by go_num, hge9, HGq⟩, by simp [intOf]; omega⟩
end Go.Proofs.YtfonpobdnhifgamGreatDoor
