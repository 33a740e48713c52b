/-
  The program's put: a star into its cell of each level.
-/
import Derived.Test.YtkdmeclbnnjdgalDoorAtM3
import Derived.Test.YtkdmeclbnnjdgalDoorLooseA
namespace Go.Proofs.YtkdmeclbnnjdgalDoor
open Go Go.RowKit
open Go.Maps (Keyed)
open Go.MapKept (Stamped)
open Go.ChangeMaps (setBlock heap_setBlock_same heap_setBlock_other)

section
variable {P : Program} {w : World}
theorem wp_append_at {o : Oper} {a : Act} {K : Act → World → Prop} {Q : Exit → Act → World → Prop} (s x : Operand) (t : TypeId)
    (ho : o.op = .call { callee := .builtin .append, args := #[s, x], argTypes := #[t, t] })
    (base : Nat) (e : TypeId) (i : TypeInfo) (z : Value) (size bytes : Nat) (ht : P.underlying t = some (.slice e)) (hi : P.info? e = some i) (hz : i.zero = some z)
    (hsize : i.size = size) (hby : i.bytes = bytes) (hzs : z.cells.size = size) (hsz : 0 < size)
    (v : Value) (n : Nat) (xs : List Value) (hs : a.eval s = v) (hown : w.ownsRow base e size v n xs)
    (ad : Addr) (m c : Nat) (news : List Value) (hx : a.eval x = .slice (some ad) m c) (hl : news.length = m * size) (hnews : ∀ j u, news[j]? = some u → w.cell? (ad.add j) = some u) (h1 : ∀ u ∈ news, u.oneCell' = true)
    (h63 : n + m ≤ maxLen) (hbytes : (n + m) * bytes ≤ 140737488355328) (hbase : base ≤ w.heap.size)
    (h : ∀ v' w', w'.ownsRow base e size v' (n + m) (xs ++ news) → w.grownBy w' v.ownBlock → (v'.ownBlock = v.ownBlock ∨ v'.ownBlock = some w.heap.size) → K (a.put o.dst v') w') : o.wp P a w K Q := by
  obtain ⟨v', w', hr, h2, h3, _, h4⟩ := run_append_own_at (P := P) w base t o.type e i z size bytes ht hi hz hsize hby hzs hsz v n xs hown ad m c news hl hnews h1 h63 hbytes hbase
  unfold Oper.wp execOp
  simp only [ho, resolve, invoke, builtin, Sem.run_bind, Sem.run_pure, Result.andThen_ok, List.map_toArray, List.map_cons, List.map_nil, hs, hx, hr]
  exact h v' w' h2 h3 h4
end
theorem Oth.refl (O : Nat → Prop) (w : World) : Oth O w w := ⟨rfl, rfl, rfl, Nat.le_refl _, fun _ _ _ => rfl⟩
theorem Oth.grown {O : Nat → Prop} {w wx wy : World} {row : Option Nat} (h : Oth O w wx) (g : wx.grownBy wy row) (hr : ∀ k, row = some k → O k ∨ w.heap.size ≤ k) : Oth O w wy :=
  ⟨g.os.trans h.os, g.tape.trans h.tape, g.output.trans h.output, Nat.le_trans h.size g.size, fun k hk hO => (g.block k (Nat.lt_of_lt_of_le hk h.size) (fun e => (hr k e.symm).elim hO (by omega))).trans (h.block k hk hO)⟩
theorem Oth.bel {O : Nat → Prop} {w wx wy : World} (h : Oth O w wx) (g : Below wx.heap.size wx wy) : Oth O w wy :=
  ⟨g.os.trans h.os, g.tape.trans h.tape, g.output.trans h.output, Nat.le_trans h.size g.size, fun k hk hO => (g.block k (Nat.lt_of_lt_of_le hk h.size)).trans (h.block k hk hO)⟩
theorem grown_setCell (w : World) (p i : Nat) (v : Value) : w.grownBy (w.setCell ⟨p, i, none⟩ v) (some p) :=
  ⟨rfl, rfl, rfl, by simp, fun k _ hk => Below.heap_setCell _ _ _ _ (fun e => hk (by rw [e]))⟩
theorem grown_below {w w' : World} (g : Below w.heap.size w w') : w.grownBy w' none := ⟨g.os, g.tape, g.output, g.size, fun k hk _ => g.block k hk⟩
/-- the atlas while a star is put into it. -/
structure PSt (w : World) (O : Nat → Prop) (p : Nat) (lv sn : Int) (bn bc : Nat) (wx : World) (sv : Value) (L M : List En) (es : Array MapEntry) (clock : Nat) (G : Sq → List Int) : Prop where
  oth : Oth O w wx
  hp : wx.heap[p]? = some (.cells #[.int .i64 lv, sv, .map (some bn), .map (some bc), .int .i64 sn] 110)
  st : SRow wx (p + 1) sv L
  nm : NMap wx bn M
  cl : CMap wx bc (p + 1) es clock G
  own : ∀ k, ownO p bn bc sv es k → O k ∨ w.heap.size ≤ k
  bnp : bn < p
  bcp : bc < p
  bnc : bn ≠ bc
theorem NMap.keep {w w' : World} {b : Nat} {L : List En} (h : NMap w b L) (k : w'.heap[b]? = w.heap[b]?) : NMap w' b L := by
  obtain ⟨D, ⟨es', c', hb, F, r⟩, hd⟩ := h.ex
  exact ⟨D, ⟨es', c', k.trans hb, F, r⟩, hd⟩
theorem CMap.keep {w w' : World} {b base clock : Nat} {es : Array MapEntry} {G : Sq → List Int} (h : CMap w b base es clock G) (k0 : w'.heap[b]? = w.heap[b]?) (k : ∀ x ∈ es.toList, ∀ j, x.val.ownBlock = some j → w'.heap[j]? = w.heap[j]?) : CMap w' b base es clock G := by
  refine ⟨k0.trans h.hb, h.st, fun x hx => ?_, h.no, h.ap⟩
  obtain ⟨s, hs, e, hr⟩ := h.rd x hx
  exact ⟨s, hs, e, row_keep hr (fun j q => k x hx j q)⟩
theorem PSt.lt {w : World} {O : Nat → Prop} {p : Nat} {lv sn : Int} {bn bc : Nat} {wx : World} {sv : Value} {L M : List En} {es : Array MapEntry} {clock : Nat} {G : Sq → List Int} (h : PSt w O p lv sn bn bc wx sv L M es clock G) : ∀ k, ownO p bn bc sv es k → k < wx.heap.size := by
  rintro k (rfl | rfl | rfl | hk | ⟨x, hx, hk⟩)
  · exact ltB h.hp
  · obtain ⟨D, ⟨es', c', hb, _⟩, _⟩ := h.nm.ex
    exact ltB hb
  · exact ltB h.cl.hb
  · obtain ⟨_, cur, hh⟩ := row_block h.st.own hk
    exact ltB hh
  · obtain ⟨s, hs, e, hr⟩ := h.cl.rd x hx
    obtain ⟨_, cur, hh⟩ := row_block hr hk
    exact ltB hh
theorem PSt.below {w : World} {O : Nat → Prop} {p : Nat} {lv sn : Int} {bn bc : Nat} {wx wy : World} {sv : Value} {L M : List En} {es : Array MapEntry} {clock : Nat} {G : Sq → List Int} (h : PSt w O p lv sn bn bc wx sv L M es clock G) (g : Below wx.heap.size wx wy) : PSt w O p lv sn bn bc wy sv L M es clock G := by
  have k : ∀ j, ownO p bn bc sv es j → wy.heap[j]? = wx.heap[j]? := fun j hj => g.block j (h.lt j hj)
  exact ⟨h.oth.bel g, (k p (.inl rfl)).trans h.hp, ⟨row_keep h.st.own (fun j q => k j (.inr (.inr (.inr (.inl q)))))⟩, h.nm.keep (k bn (.inr (.inl rfl))), h.cl.keep (k bc (.inr (.inr (.inl rfl)))) (fun x hx j q => k j (.inr (.inr (.inr (.inr ⟨x, hx, q⟩))))), h.own, h.bnp, h.bcp, h.bnc⟩
/-- rows of stars and rows of numbers lie apart. -/
theorem PSt.apart {w : World} {O : Nat → Prop} {p : Nat} {lv sn : Int} {bn bc : Nat} {wx : World} {sv : Value} {L M : List En} {es : Array MapEntry} {clock : Nat} {G : Sq → List Int} (h : PSt w O p lv sn bn bc wx sv L M es clock G) {k : Nat} (hk : sv.ownBlock = some k) : ∀ x ∈ es.toList, x.val.ownBlock ≠ some k := by
  intro x hx q
  obtain ⟨s, hs, e, hr⟩ := h.cl.rd x hx
  obtain ⟨_, cur, hh⟩ := row_block hr q
  obtain ⟨_, cur2, hh2⟩ := row_block h.st.own hk
  rw [hh] at hh2
  injection hh2 with hh2
  injection hh2 with _ e2
  exact absurd e2 (by decide)
/-- a star was appended. -/
theorem PSt.star {w : World} {O : Nat → Prop} {p : Nat} {lv sn : Int} {bn bc : Nat} {wx w6 : World} {sv v6 : Value} {L M : List En} {es : Array MapEntry} {clock : Nat} {G : Sq → List Int} {e : En} (h : PSt w O p lv sn bn bc wx sv L M es clock G) (hown : w6.ownsRow (p + 1) 112 4 v6 (L.length + 1) (flatSt L ++ valSt e)) (g : wx.grownBy w6 sv.ownBlock) (hl : v6.ownBlock = sv.ownBlock ∨ v6.ownBlock = some wx.heap.size) :
    PSt w O p lv sn bn bc (w6.setCell ⟨p, 1, none⟩ v6) v6 (L ++ [e]) M es clock G := by
  have hpl := h.lt p (.inl rfl)
  have nb : ∀ j, sv.ownBlock = some j → p + 1 ≤ j := fun j q => (row_block h.st.own q).1
  have k6 : ∀ j, j < wx.heap.size → sv.ownBlock ≠ some j → w6.heap[j]? = wx.heap[j]? := fun j hj hn => g.block j hj (fun q => hn q.symm)
  have hp6 : w6.heap[p]? = some (.cells #[.int .i64 lv, sv, .map (some bn), .map (some bc), .int .i64 sn] 110) := (k6 p hpl (fun q => by have := nb p q; omega)).trans h.hp
  have k7 : ∀ j, j ≠ p → (w6.setCell ⟨p, 1, none⟩ v6).heap[j]? = w6.heap[j]? := fun j hj => Below.heap_setCell _ _ _ _ hj
  have hbn := h.bnp
  have hbc := h.bcp
  have hws := h.oth.size
  refine ⟨(h.oth.grown g (fun k q => h.own k (.inr (.inr (.inr (.inl q)))))).grown (grown_setCell w6 p 1 v6) (fun k q => by injection q with q; subst q; exact h.own _ (.inl rfl)), heap_setCell_same _ _ _ _ _ _ hp6, ⟨?_⟩, ?_, ?_, ?_, hbn, hbc, h.bnc⟩
  · rw [List.length_append, flatSt_append]
    have e1 : flatSt [e] = valSt e := by show valSt e ++ [] = valSt e; rw [List.append_nil]
    rw [e1]
    refine row_keep hown (fun k q => k7 k ?_)
    rcases hl with q2 | q2
    · rw [q2] at q
      have := nb k q
      omega
    · rw [q2] at q
      injection q with q
      omega
  · refine h.nm.keep ((k7 bn (by omega)).trans (k6 bn (by omega) (fun q => by have := nb bn q; omega)))
  · refine h.cl.keep ((k7 bc (by omega)).trans (k6 bc (by omega) (fun q => by have := nb bc q; omega))) (fun x hx j q => ?_)
    obtain ⟨s, hs, es', hr⟩ := h.cl.rd x hx
    obtain ⟨h1, cur, hh⟩ := row_block hr q
    exact (k7 j (by omega)).trans (k6 j (ltB hh) (fun q2 => h.apart q2 x hx q))
  · rintro k (q | q | q | q | q)
    · exact h.own k (.inl q)
    · exact h.own k (.inr (.inl q))
    · exact h.own k (.inr (.inr (.inl q)))
    · rcases hl with q2 | q2
      · rw [q2] at q
        exact h.own k (.inr (.inr (.inr (.inl q))))
      · rw [q2] at q
        injection q with q
        subst q
        exact .inr hws
    · exact h.own k (.inr (.inr (.inr (.inr q))))
/-- a name was noted. -/
theorem PSt.name {w : World} {O : Nat → Prop} {p : Nat} {lv sn : Int} {bn bc : Nat} {wx : World} {sv : Value} {L M : List En} {es : Array MapEntry} {clock : Nat} {G : Sq → List Int} {e : En} (h : PSt w O p lv sn bn bc wx sv L M es clock G) (he : e.nm.size ≤ maxLen) (hM : M.length < maxLen) :
    ∃ wy, (Instr.mapUpdate 107 (.map (some bn)) (.string e.nm) (.agg #[])).run Tryd.prog wx = .ok () wy ∧ wx.grownBy wy (some bn) ∧ PSt w O p lv sn bn bc wy sv L (M ++ [e]) es clock G := by
  obtain ⟨D, hD, hh⟩ := h.nm.ex
  obtain ⟨wy, hrun, hown, g⟩ := hD.update lawStr Tryd.underlying107 hM (WideMaps.keyOf_string_mk Tryd.underlying9 he) (unitElem_mk (H := Unit))
  have hbn := h.bnp
  have hbc := h.bcp
  have hne := h.bnc
  have hpl := h.lt p (.inl rfl)
  have k : ∀ j, j < wx.heap.size → j ≠ bn → wy.heap[j]? = wx.heap[j]? := fun j hj hn => g.block j hj (fun q => by injection q with q; exact hn q)
  refine ⟨wy, hrun, g, h.oth.grown g (fun j q => by injection q with q; subst q; exact h.own _ (.inr (.inl rfl))), (k p hpl (by omega)).trans h.hp, ⟨row_keep h.st.own (fun j q => k j (h.lt j (.inr (.inr (.inr (.inl q))))) (by have := (row_block h.st.own q).1; omega))⟩, ⟨D.put (.string e.nm.data.toList) (.agg []), ?_, fun s hs => ?_⟩, ?_, h.own, hbn, hbc, hne⟩
  · rw [List.length_append]
    exact hown
  · have hnew : decide (∃ x ∈ M ++ [e], x.nm = s) = (decide (∃ x ∈ M, x.nm = s) || decide (e.nm = s)) := by
      rw [Bool.eq_iff_iff, Bool.or_eq_true, decide_eq_true_eq, decide_eq_true_eq, decide_eq_true_eq]
      constructor
      · rintro ⟨x, hx, hq⟩
        rcases List.mem_append.1 hx with hx | hx
        · exact .inl ⟨x, hx, hq⟩
        · rw [List.mem_singleton] at hx
          subst hx
          exact .inr hq
      · rintro (⟨x, hx, hq⟩ | hq)
        · exact ⟨x, List.mem_append_left _ hx, hq⟩
        · exact ⟨e, by simp, hq⟩
    rw [hnew]
    by_cases q : e.nm = s
    · rw [decide_eq_true q, Bool.or_true, ← q]
      exact Maps.has_put_same (k := .string e.nm.data.toList) hD.isMap trivial _
    · rw [decide_eq_false q, Bool.or_false, ← hh s hs]
      refine Maps.has_put_other (fun e2 => q ?_) _
      exact (ByteArray.ext (Array.ext' (Lit.string.inj e2))).symm
  · exact h.cl.keep (k bc (h.lt bc (.inr (.inr (.inl rfl)))) (fun q => hne q.symm)) (fun x hx j q => k j (h.lt j (.inr (.inr (.inr (.inr ⟨x, hx, q⟩))))) (by
      obtain ⟨s, hs, es', hr⟩ := h.cl.rd x hx
      have := (row_block hr q).1
      omega))
/-- the number was put into a cell. -/
theorem PSt.cell {w : World} {O : Nat → Prop} {p : Nat} {lv sn : Int} {bn bc : Nat} {wx : World} {sv : Value} {L M : List En} {es : Array MapEntry} {clock : Nat} {G : Sq → List Int} (h : PSt w O p lv sn bn bc wx sv L M es clock G) {s : Sq} (hs : SqOk s) :
    ∃ (v : Value) (st : Nat) (w1 : World), IRow w1 (p + 1) v (G s) ∧ (Instr.mapEntry 108 (.map (some bc)) s.val).run Tryd.prog wx = .ok (.tuple #[v, goInt st]) w1 ∧ wx.grownBy w1 (some bc) ∧ w1.heap.size = wx.heap.size ∧
      ∀ (w2 : World) (v' : Value) (z : Int), w1.grownBy w2 v.ownBlock → IRow w2 (p + 1) v' (G s ++ [z]) → (v'.ownBlock = v.ownBlock ∨ v'.ownBlock = some w1.heap.size) →
        ∃ w3 es2 clock2, (Instr.entryStore 108 (.map (some bc)) (goInt st) v').run Tryd.prog w2 = .ok () w3 ∧ w2.grownBy w3 (some bc) ∧ PSt w O p lv sn bn bc w3 sv L M es2 clock2 (putG G s (G s ++ [z])) := by
  have hbn := h.bnp
  have hbc := h.bcp
  have hne := h.bnc
  have hpl := h.lt p (.inl rfl)
  have hws := h.oth.size
  obtain ⟨v, st, es1, clock1, hr, hv, hent, hback⟩ := h.cl.entry (by omega : bc < p + 1) hs
  have g1 : wx.grownBy (setBlock wx bc (.map es1 clock1)) (some bc) := grown_set h.cl.hb
  have b1 : (setBlock wx bc (.map es1 clock1)).heap[bc]? = some (.map es1 clock1) := heap_setBlock_same h.cl.hb _
  have sz1 : (setBlock wx bc (.map es1 clock1)).heap.size = wx.heap.size := by simp [setBlock]
  have vown : ∀ j, v.ownBlock = some j → ownO p bn bc sv es j := by
    intro j q
    rcases hv with hv | ⟨x, hx, rfl⟩
    · rw [hv] at q; cases q
    · exact .inr (.inr (.inr (.inr ⟨x, hx, q⟩)))
  have vlow : ∀ j, v.ownBlock = some j → p + 1 ≤ j := fun j q => (row_block hr q).1
  refine ⟨v, st, setBlock wx bc (.map es1 clock1), row_keep hr (fun j q => heap_setBlock_other h.cl.hb _ (by have := vlow j q; omega)), hent wx h.cl.hb, g1, sz1, fun w2 v' z g2 hr2 hloc => ?_⟩
  have hb2 : w2.heap[bc]? = some (.map es1 clock1) := (g2.block bc (by rw [sz1]; exact ltB h.cl.hb) (fun q => by have := vlow bc q.symm; omega)).trans b1
  have k2 : ∀ j, j < wx.heap.size → j ≠ bc → v.ownBlock ≠ some j → w2.heap[j]? = wx.heap[j]? := fun j hj h1 h2 => (g2.block j (by rw [sz1]; exact hj) (fun q => h2 q.symm)).trans (heap_setBlock_other h.cl.hb _ h1)
  obtain ⟨es2, clock2, hrun, hcm, hes⟩ := hback w2 v' (G s ++ [z]) hb2 (fun g hg1 hg2 hg3 => k2 g hg2 (by omega) (fun q => hg3 q.symm)) hr2 (hloc.imp id (fun q => ⟨_, q, by rw [sz1]; exact Nat.le_refl _⟩))
  have g3 : w2.grownBy (setBlock w2 bc (.map es2 clock2)) (some bc) := grown_set hb2
  have k3 : ∀ j, j ≠ bc → (setBlock w2 bc (.map es2 clock2)).heap[j]? = w2.heap[j]? := fun j hj => heap_setBlock_other hb2 _ hj
  have svn : ∀ j, sv.ownBlock = some j → v.ownBlock ≠ some j := by
    intro j q q2
    rcases hv with hv | ⟨x, hx, rfl⟩
    · rw [hv] at q2; cases q2
    · exact h.apart q x hx q2
  refine ⟨_, es2, clock2, hrun, g3, ((h.oth.grown g1 (fun j q => by injection q with q; subst q; exact h.own _ (.inr (.inr (.inl rfl))))).grown g2 (fun j q => h.own j (vown j q))).grown g3 (fun j q => by injection q with q; subst q; exact h.own _ (.inr (.inr (.inl rfl)))), ?_, ⟨?_⟩, ?_, hcm, ?_, hbn, hbc, hne⟩
  · exact (k3 p (by omega)).trans ((k2 p hpl (by omega) (fun q => by have := vlow p q; omega)).trans h.hp)
  · refine row_keep h.st.own (fun j q => ?_)
    have hj := (row_block h.st.own q).1
    exact (k3 j (by omega)).trans (k2 j (h.lt j (.inr (.inr (.inr (.inl q))))) (by omega) (svn j q))
  · exact h.nm.keep ((k3 bn hne).trans (k2 bn (by omega) hne (fun q => by have := vlow bn q; omega)))
  · rintro j (q | q | q | q | ⟨x, hx, q⟩)
    · exact h.own j (.inl q)
    · exact h.own j (.inr (.inl q))
    · exact h.own j (.inr (.inr (.inl q)))
    · exact h.own j (.inr (.inr (.inr (.inl q))))
    · rcases hes x hx with e2 | ⟨y, hy, e2⟩
      · rw [e2] at q
        rcases hloc with l | l
        · rw [l] at q
          exact h.own j (vown j q)
        · rw [l] at q
          injection q with q
          subst q
          rw [sz1]
          exact .inr hws
      · rw [e2] at q
        exact h.own j (.inr (.inr (.inr (.inr ⟨y, hy, q⟩))))
/-- a cell of the caller's own is written. -/
theorem PSt.spare {w : World} {O : Nat → Prop} {p : Nat} {lv sn : Int} {bn bc : Nat} {wx : World} {sv : Value} {L M : List En} {es : Array MapEntry} {clock : Nat} {G : Sq → List Int} {g : Nat} {cs : Array Value} (h : PSt w O p lv sn bn bc wx sv L M es clock G) (hg : wx.heap[g]? = some (.cells cs 58)) (hgw : w.heap.size ≤ g) (x y z t : Value) : PSt w O p lv sn bn bc ((((wx.setCell ⟨g, 0, none⟩ x).setCell ⟨g, 1, none⟩ y).setCell ⟨g, 2, none⟩ z).setCell ⟨g, 3, none⟩ t) sv L M es clock G := by
  have k : ∀ j, j ≠ g → ((((wx.setCell ⟨g, 0, none⟩ x).setCell ⟨g, 1, none⟩ y).setCell ⟨g, 2, none⟩ z).setCell ⟨g, 3, none⟩ t).heap[j]? = wx.heap[j]? := fun j hj => (Below.heap_setCell _ _ _ _ hj).trans ((Below.heap_setCell _ _ _ _ hj).trans ((Below.heap_setCell _ _ _ _ hj).trans (Below.heap_setCell _ _ _ _ hj)))
  have ne : ∀ j, ownO p bn bc sv es j → j ≠ g := by
    rintro j (rfl | rfl | rfl | hk | ⟨x, hx, hk⟩) rfl
    · have := h.hp
      rw [hg] at this
      injection this with this
      injection this with _ e2
      exact absurd e2 (by decide)
    · obtain ⟨D, ⟨es', c', hb, _⟩, _⟩ := h.nm.ex
      rw [hg] at hb
      cases hb
    · have := h.cl.hb
      rw [hg] at this
      cases this
    · obtain ⟨_, cur, hh⟩ := row_block h.st.own hk
      rw [hg] at hh
      injection hh with hh
      injection hh with _ e2
      exact absurd e2 (by decide)
    · obtain ⟨s, hs, e, hr⟩ := h.cl.rd x hx
      obtain ⟨_, cur, hh⟩ := row_block hr hk
      rw [hg] at hh
      injection hh with hh
      injection hh with _ e2
      exact absurd e2 (by decide)
  have gr : ∀ (u : World) (i : Nat) (v : Value), Oth O w u → Oth O w (u.setCell ⟨g, i, none⟩ v) := fun u i v q => q.grown (grown_setCell u g i v) (fun k e => by injection e with e; subst e; exact .inr hgw)
  exact ⟨gr _ _ _ (gr _ _ _ (gr _ _ _ (gr _ _ _ h.oth))), (k p (ne p (.inl rfl))).trans h.hp, ⟨row_keep h.st.own (fun j q => k j (ne j (.inr (.inr (.inr (.inl q))))))⟩, h.nm.keep (k bn (ne bn (.inr (.inl rfl)))), h.cl.keep (k bc (ne bc (.inr (.inr (.inl rfl))))) (fun x hx j q => k j (ne j (.inr (.inr (.inr (.inr ⟨x, hx, q⟩)))))), h.own, h.bnp, h.bcp, h.bnc⟩
end Go.Proofs.YtkdmeclbnnjdgalDoor
