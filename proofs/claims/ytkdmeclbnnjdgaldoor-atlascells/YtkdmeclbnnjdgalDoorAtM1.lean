/-
  The map of cells: entries by their cells, whose keys are structs.
-/
import Derived.Test.YtkdmeclbnnjdgalDoorAtD5
import Derived.Maps.OwnRows
import Derived.Maps.OwnSet
import Derived.DeepKeys4
import Derived.WideKeyEntry
namespace Go.Proofs.YtkdmeclbnnjdgalDoor
open Go Go.RowKit
open Go.Maps (Keyed)
open Go.MapKept (Stamped)
open Go.ChangeMaps (setBlock heap_setBlock_same heap_setBlock_other)

theorem wf_of {x : Int} (h : i64B x) : (Lit.int .i64 x).wf = true := WalkArith.wf_i64 h
theorem lawSq : Keyed Tryd.prog 58 := Keyed.of_law (deep_law_laid (by kernel_rfl) (m := 2) (by omega) (of_decide_eq_true (by kernel_rfl)) (by kernel_rfl) (by kernel_rfl))
theorem sq_key {s : Sq} (h : SqOk s) : ∃ kl, keyOf Tryd.prog 58 s.val = some kl := by
  have hf : Tryd.prog.underlying 58 = some (.struct (Tryd.prog.fieldsOf 58)) := by kernel_rfl
  have hm : (Tryd.prog.fieldsOf 58).toList.map (fun f => (f.type, f.offset)) = [(3, 0), (3, 1), (3, 2), (3, 3)] := by kernel_rfl
  have hnm : (Tryd.prog.fieldsOf 58).all (·.name != "_") = true := by kernel_rfl
  have hc4 : Tryd.prog.cellsOf 58 = 4 := by kernel_rfl
  have hc1 : Tryd.prog.cellsOf 3 = 1 := by kernel_rfl
  have hkt : Tryd.prog.keyType 58 = true := by kernel_rfl
  obtain ⟨N, hN⟩ : ∃ N, Tryd.prog.types.size = N + 1 := ⟨Tryd.prog.types.size - 1, by
    have : (0 : Nat) < Tryd.prog.types.size := of_decide_eq_true (by kernel_rfl)
    omega⟩
  have key : ∀ f ∈ (Tryd.prog.fieldsOf 58).toList, Tryd.prog.keyLits (N + 1) f.type (([.int .i64 s.f, .int .i64 s.l, .int .i64 s.c, .int .i64 s.r].drop f.offset).take (Tryd.prog.cellsOf f.type)) = some [.int .i64 (sqN s f.offset)] := by
    intro f hfm
    have hk : (f.type, f.offset) ∈ [(3, 0), (3, 1), (3, 2), (3, 3)] := by
      rw [← hm]
      exact List.mem_map_of_mem hfm
    simp only [List.mem_cons, Prod.mk.injEq, List.not_mem_nil, or_false] at hk
    rcases hk with ⟨e1, e2⟩ | ⟨e1, e2⟩ | ⟨e1, e2⟩ | ⟨e1, e2⟩ <;> rw [e1, e2, hc1] <;> simp [Program.keyLits, Tryd.underlying3, sqN, wf_of h.f, wf_of h.l, wf_of h.c, wf_of h.r]
  refine ⟨.string (keyBytes (((Tryd.prog.fieldsOf 58).toList.map fun f => [Lit.int .i64 (sqN s f.offset)]).flatten)), ?_⟩
  unfold keyOf
  rw [hf]
  simp only [hkt, Bool.true_and]
  have hfm : (s.val).formed Tryd.prog 58 = true := by simp [Sq.val, Value.formed, hf, hc4]
  rw [if_pos hfm, hN]
  have e : Tryd.prog.keyLits (N + 1 + 1) 58 s.val.cells.toList = some (((Tryd.prog.fieldsOf 58).toList.map fun f => [Lit.int .i64 (sqN s f.offset)]).flatten) := by
    have hm2 : ∀ l : List Field, (∀ f ∈ l, f ∈ (Tryd.prog.fieldsOf 58).toList) → (l.mapM fun f => Tryd.prog.keyLits (N + 1) f.type (([.int .i64 s.f, .int .i64 s.l, .int .i64 s.c, .int .i64 s.r].drop f.offset).take (Tryd.prog.cellsOf f.type))) = some (l.map fun f => [Lit.int .i64 (sqN s f.offset)]) := by
      intro l
      induction l with
      | nil => intro _; rfl
      | cons f l ih =>
        intro hl
        rw [List.mapM_cons, key f (hl f (List.mem_cons_self ..)), ih (fun g hg => hl g (List.mem_cons_of_mem _ hg))]
        rfl
    have hcs : s.val.cells.toList = [.int .i64 s.f, .int .i64 s.l, .int .i64 s.c, .int .i64 s.r] := rfl
    rw [hcs]
    generalize hLs : [Value.int .i64 s.f, .int .i64 s.l, .int .i64 s.c, .int .i64 s.r] = Ls at *
    have hlen : Ls.length = 4 := by rw [← hLs]; rfl
    unfold Program.keyLits
    simp only [hf]
    rw [if_pos ⟨by rw [hlen, hc4], hnm⟩, hm2 _ (fun f h => h)]
    rfl
  rw [e]
  rfl
theorem sq_inj {s t : Sq} (h : s.val = t.val) : s = t := by
  obtain ⟨f, l, c, r⟩ := s
  obtain ⟨f', l', c', r'⟩ := t
  unfold Sq.val at h
  simp at h
  obtain ⟨rfl, rfl, rfl, rfl⟩ := h
  rfl
/-- a row of whole numbers that is owned. -/
abbrev IRow (w : World) (base : Nat) (v : Value) (zs : List Int) : Prop := w.ownsRow base 3 1 v zs.length (zs.map (Value.int .i64))
/-- the map of cells: by each cell the numbers of those in it. -/
structure CMap (w : World) (b base : Nat) (es : Array MapEntry) (clock : Nat) (G : Sq → List Int) : Prop where
  hb : w.heap[b]? = some (.map es clock)
  st : Stamped es clock
  rd : ∀ x ∈ es.toList, ∃ s, SqOk s ∧ x.key = s.val ∧ IRow w base x.val (G s)
  no : ∀ s, SqOk s → (∀ x ∈ es.toList, x.key ≠ s.val) → G s = []
  ap : ∀ x ∈ es.toList, ∀ y ∈ es.toList, x.key ≠ y.key → x.val.ownBlock = none ∨ x.val.ownBlock ≠ y.val.ownBlock
theorem zeroSI (w : World) : (zeroValue 23).run Tryd.prog w = .ok (.slice none 0 0) w := by kernel_rfl
theorem underM : Tryd.prog.underlying 108 = some (.map 58 23) := Tryd.underlying108
theorem CMap.keys {w : World} {b base clock : Nat} {es : Array MapEntry} {G : Sq → List Int} (h : CMap w b base es clock G) : ∀ e ∈ es.toList, ∃ l, keyOf Tryd.prog 58 e.key = some l := fun x hx => by
  obtain ⟨s, hs, e, _⟩ := h.rd x hx
  rw [e]
  exact sq_key hs
/-- of two entries with one key. -/
theorem one_key {es : Array MapEntry} {clock : Nat} (st : Stamped es clock) {x y : MapEntry} (hx : x ∈ es.toList) (hy : y ∈ es.toList) (h : x.key = y.key) : x = y := by
  have hp := ((MapKept.stamped_iff es clock).1 st).2.2
  obtain ⟨i, hi, ei⟩ := List.mem_iff_getElem.1 hx
  obtain ⟨j, hj, ej⟩ := List.mem_iff_getElem.1 hy
  rw [List.pairwise_iff_getElem] at hp
  rcases Nat.lt_trichotomy i j with q | q | q
  · have := hp i j hi hj q
    rw [ei, ej] at this
    exact absurd h this
  · subst q
    exact ei.symm.trans ej
  · have := hp j i hj hi q
    rw [ei, ej] at this
    exact absurd h.symm this
/-- what stands at a cell. -/
theorem CMap.look {w : World} {b base clock : Nat} {es : Array MapEntry} {G : Sq → List Int} (h : CMap w b base es clock G) {s : Sq} (hs : SqOk s) :
    ∃ v, IRow w base v (G s) ∧ (v.ownBlock = none ∨ ∃ x ∈ es.toList, x.val = v) ∧ ∀ u : World, u.heap[b]? = some (.map es clock) → (Instr.lookup 108 (.map (some b)) s.val false).run Tryd.prog u = .ok v u := by
  obtain ⟨kl, hk⟩ := sq_key hs
  have hf := fun u => lawSq.find u hk es.toList h.keys
  have hfun : ∀ u : World, ((Instr.findKey 58 s.val es.toList).run Tryd.prog u = .ok none u ∧ ∀ e ∈ es.toList, e.key ≠ s.val) ∨ ∃ j e, (Instr.findKey 58 s.val es.toList).run Tryd.prog u = .ok (some (j, e.val)) u ∧ es.toList[j]? = some e ∧ e.key = s.val := hf
  by_cases q : ∀ e ∈ es.toList, e.key ≠ s.val
  · refine ⟨.slice none 0 0, ?_, .inl rfl, fun u hu => ?_⟩
    · rw [h.no s hs q]
      exact World.ownsRow_nil w base 3 1
    · rcases hfun u with ⟨h1, _⟩ | ⟨j, e, _, h2, h3⟩
      · simp [Instr.lookup, run_underlying underM, MapKept.run_getObj_map hu, lawSq.check u _ hk, h1, Result.andThen]
      · exact absurd h3 (q e (List.mem_of_getElem? h2))
  · obtain ⟨x, hx⟩ := Classical.not_forall.1 q
    obtain ⟨hxm, hk2⟩ := Classical.not_imp.1 hx
    clear hx
    have hx := hxm
    have hk3 : x.key = s.val := Classical.not_not.1 hk2
    obtain ⟨s', hs', e', hr⟩ := h.rd x hx
    have : s' = s := sq_inj (e'.symm.trans hk3)
    subst this
    refine ⟨x.val, hr, .inr ⟨x, hx, rfl⟩, fun u hu => ?_⟩
    rcases hfun u with ⟨_, h2⟩ | ⟨j, e, h1, h2, h3⟩
    · exact absurd hk3 (h2 x hx)
    · have hex : e = x := one_key h.st (List.mem_of_getElem? h2) hx (h3.trans hk3.symm)
      rw [hex] at h1
      simp [Instr.lookup, run_underlying underM, MapKept.run_getObj_map hu, lawSq.check u _ hk, h1, Result.andThen]
def putG (G : Sq → List Int) (s : Sq) (zs : List Int) (t : Sq) : List Int := if t.f = s.f ∧ t.l = s.l ∧ t.c = s.c ∧ t.r = s.r then zs else G t
theorem putG_same (G : Sq → List Int) (s : Sq) (zs : List Int) : putG G s zs s = zs := by unfold putG; rw [if_pos ⟨rfl, rfl, rfl, rfl⟩]
theorem putG_other {G : Sq → List Int} {s t : Sq} {zs : List Int} (h : t ≠ s) : putG G s zs t = G t := by
  unfold putG
  rw [if_neg ?_]
  rintro ⟨h1, h2, h3, h4⟩
  obtain ⟨f, l, c, r⟩ := s
  obtain ⟨f', l', c', r'⟩ := t
  simp only at h1 h2 h3 h4
  subst h1 h2 h3 h4
  exact h rfl
theorem grown_set {w : World} {b : Nat} {es es' : Array MapEntry} {clock clock' : Nat} (h : w.heap[b]? = some (.map es clock)) : w.grownBy (setBlock w b (.map es' clock')) (some b) :=
  ⟨rfl, rfl, rfl, by simp [setBlock], fun i _ hi => heap_setBlock_other h _ (fun e => hi (by rw [e]))⟩
/-- 'm[k] = append(m[k], n)': the entry, and the store at its stamp. -/
theorem CMap.entry {w : World} {b base clock : Nat} {es : Array MapEntry} {G : Sq → List Int} (h : CMap w b base es clock G) (hbb : b < base) {s : Sq} (hs : SqOk s) :
    ∃ (v : Value) (st : Nat) (es1 : Array MapEntry) (clock1 : Nat), IRow w base v (G s) ∧ (v.ownBlock = none ∨ ∃ x ∈ es.toList, x.val = v) ∧
      (∀ u : World, u.heap[b]? = some (.map es clock) → (Instr.mapEntry 108 (.map (some b)) s.val).run Tryd.prog u = .ok (.tuple #[v, goInt st]) (setBlock u b (.map es1 clock1))) ∧
      ∀ (w2 : World) (v' : Value) (zs : List Int), w2.heap[b]? = some (.map es1 clock1) → (∀ g, base ≤ g → g < w.heap.size → some g ≠ v.ownBlock → w2.heap[g]? = w.heap[g]?) → IRow w2 base v' zs → (v'.ownBlock = v.ownBlock ∨ ∃ g, v'.ownBlock = some g ∧ w.heap.size ≤ g) →
        ∃ es2 clock2, (Instr.entryStore 108 (.map (some b)) (goInt st) v').run Tryd.prog w2 = .ok () (setBlock w2 b (.map es2 clock2)) ∧ CMap (setBlock w2 b (.map es2 clock2)) b base es2 clock2 (putG G s zs) ∧ (∀ x ∈ es2.toList, x.val = v' ∨ ∃ y ∈ es.toList, x.val = y.val) := by
  obtain ⟨kl, hk⟩ := sq_key hs
  obtain ⟨s1, s2, s3⟩ := (MapKept.stamped_iff es clock).1 h.st
  have keep : ∀ {u : Value} {zs : List Int} {w2 w3 : World}, IRow w base u zs → (∀ g, u.ownBlock = some g → w3.heap[g]? = w.heap[g]?) → IRow w3 base u zs := by
    intro u zs w2 w3 ho hg
    refine ⟨ho.1, ?_⟩
    rcases ho.2 with q | ⟨g, cap, cur, e, hB, hh, r⟩
    · exact .inl q
    · exact .inr ⟨g, cap, cur, e, hB, (hg g (by rw [e]; rfl)).trans hh, r⟩
  have low : ∀ {u : Value} {zs : List Int} {w0 : World} {g : Nat}, IRow w0 base u zs → u.ownBlock = some g → base ≤ g ∧ g < w0.heap.size := by
    intro u zs w0 g ho hg
    rcases ho.2 with ⟨e, _⟩ | ⟨g', cap, cur, e, hB, hh, _⟩
    · rw [e] at hg
      cases hg
    · rw [e] at hg
      injection hg with hg
      simp only at hg
      subst hg
      exact ⟨hB, ltB hh⟩
  by_cases q : ∀ e ∈ es.toList, e.key ≠ s.val
  · -- a new entry
    have hfun : ∀ u : World, (Instr.findKey 58 s.val es.toList).run Tryd.prog u = .ok none u := fun u => by
      rcases lawSq.find u hk es.toList h.keys with ⟨h1, _⟩ | ⟨j, e, _, h2, h3⟩
      · exact h1
      · exact absurd h3 (q e (List.mem_of_getElem? h2))
    refine ⟨.slice none 0 0, clock, es.push ⟨s.val, .slice none 0 0, clock⟩, clock + 1, ?_, .inl rfl, fun u hu => ?_, fun w2 v' zs hw2 hgr hr hloc => ?_⟩
    · rw [h.no s hs q]
      exact World.ownsRow_nil w base 3 1
    · simp [Instr.mapEntry, run_underlying underM, MapKept.run_getObj_map hu, lawSq.check u _ hk, hfun, MapKept.run_setObj_map _ hu, Result.andThen, setBlock]
    · have hidx : (es.push ⟨s.val, .slice none 0 0, clock⟩).findIdx? (fun e => ((e.born : Nat) : Int) == ((clock : Nat) : Int)) = some es.size := by
        rw [WideElems.findIdx_arr]
        exact WideElems.findIdx_born (l := (es.push ⟨s.val, .slice none 0 0, clock⟩).toList) (j := es.size) (e0 := ⟨s.val, .slice none 0 0, clock⟩) (by
          simp only [Array.toList_push, List.map_append, List.map_cons, List.map_nil]
          refine List.nodup_append.2 ⟨s2, by simp, fun a ha c hc e1 => ?_⟩
          simp only [List.mem_singleton] at hc
          obtain ⟨x, hx, rfl⟩ := List.mem_map.1 ha
          have := s1 x hx
          omega) (by simp)
      have hmod : (es.push ⟨s.val, .slice none 0 0, clock⟩).modify es.size (fun e => { e with val := v' }) = es.push ⟨s.val, v', clock⟩ := by
        apply Array.ext'
        rw [Array.toList_modify, Array.toList_push, Array.toList_push, ← Array.length_toList, WideElems.modify_last]
      have hmem : ∀ x, x ∈ (es.push ⟨s.val, v', clock⟩).toList ↔ x ∈ es.toList ∨ x = ⟨s.val, v', clock⟩ := by
        intro x
        simp only [Array.toList_push, List.mem_append, List.mem_singleton]
      refine ⟨es.push ⟨s.val, v', clock⟩, clock + 1, ?_, ⟨heap_setBlock_same hw2 _, MapKept.stamped_push h.st q, ?_, ?_, ?_⟩, ?_⟩
      · simp [Instr.entryStore, MapKept.run_getObj_map hw2, asInt, asIntOf, goInt, hidx, hmod, MapKept.run_setObj_map _ hw2, Result.andThen, setBlock]
      · intro x hx
        rcases (hmem x).1 hx with hx | rfl
        · obtain ⟨t, ht, e, hr2⟩ := h.rd x hx
          have hne : t ≠ s := fun e2 => q x hx (by rw [e, e2])
          refine ⟨t, ht, e, ?_⟩
          rw [putG_other hne]
          refine keep (w2 := w2) hr2 (fun g hg => ?_)
          have hl := low hr2 hg
          rw [heap_setBlock_other hw2 _ (by omega)]
          exact hgr g hl.1 hl.2 (by simp [Value.ownBlock])
        · refine ⟨s, hs, rfl, ?_⟩
          rw [putG_same]
          refine ⟨hr.1, ?_⟩
          rcases hr.2 with q2 | ⟨g, cap, cur, e, hB, hh, r⟩
          · exact .inl q2
          · exact .inr ⟨g, cap, cur, e, hB, (heap_setBlock_other hw2 _ (by omega)).trans hh, r⟩
      · intro t ht hno
        have hne : t ≠ s := fun e2 => hno ⟨s.val, v', clock⟩ ((hmem _).2 (.inr rfl)) (by rw [e2])
        rw [putG_other hne]
        exact h.no t ht (fun x hx => hno x ((hmem x).2 (.inl hx)))
      · have cross : ∀ x ∈ es.toList, x.val.ownBlock = none ∨ x.val.ownBlock ≠ v'.ownBlock := by
          intro x hx
          cases hq : x.val.ownBlock with
          | none => exact .inl rfl
          | some g =>
            obtain ⟨t, ht, e, hr2⟩ := h.rd x hx
            have hl := low hr2 hq
            rcases hloc with h1 | ⟨g2, h1, h2⟩
            · rw [h1]
              exact .inr (by simp [Value.ownBlock])
            · rw [h1]
              refine .inr (fun e2 => ?_)
              injection e2 with e2
              omega
        intro x hx y hy hne
        rcases (hmem x).1 hx with hx | rfl <;> rcases (hmem y).1 hy with hy | rfl
        · exact h.ap x hx y hy hne
        · exact cross x hx
        · rcases cross y hy with c | c
          · cases hv : v'.ownBlock with
            | none => exact .inl rfl
            | some g => exact .inr (by rw [c]; simp)
          · exact .inr (fun e2 => c e2.symm)
        · exact absurd rfl hne
      · intro x hx
        rcases (hmem x).1 hx with hx | rfl
        · exact .inr ⟨x, hx, rfl⟩
        · exact .inl rfl
  · -- one that is there
    obtain ⟨e0, he⟩ := Classical.not_forall.1 q
    obtain ⟨hm0, hk2⟩ := Classical.not_imp.1 he
    have hk3 : e0.key = s.val := Classical.not_not.1 hk2
    clear he hk2 q
    obtain ⟨s', hs', e', hr0⟩ := h.rd e0 hm0
    have : s' = s := sq_inj (e'.symm.trans hk3)
    subst this
    obtain ⟨j, hj⟩ := List.mem_iff_getElem?.1 hm0
    have hja : es[j]? = some e0 := by simpa using hj
    have hfun : ∀ u : World, (Instr.findKey 58 s'.val es.toList).run Tryd.prog u = .ok (some (j, e0.val)) u := fun u => by
      rcases lawSq.find u hk es.toList h.keys with ⟨_, h2⟩ | ⟨j', e, h1, h2, h3⟩
      · exact absurd hk3 (h2 e0 hm0)
      · have hee : e = e0 := one_key h.st (List.mem_of_getElem? h2) hm0 (h3.trans hk3.symm)
        subst hee
        have hjj : j' = j := by
          have hb1 := WideElems.findIdx_born s2 h2
          have hb2 := WideElems.findIdx_born s2 hj
          rw [hb1] at hb2
          exact Option.some.inj hb2
        subst hjj
        exact h1
    have hsame : es.modify j (fun e => { e with key := s'.val }) = es := by
      apply Array.ext'
      rw [Array.toList_modify, ChangeMaps.modify_eq_set _ _ _ _ hj]
      have : ({ e0 with key := s'.val } : MapEntry) = e0 := by rw [← hk3]
      rw [this]
      exact WideElems.set_self _ _ _ hj
    refine ⟨e0.val, e0.born, es, clock, hr0, .inr ⟨e0, hm0, rfl⟩, fun u hu => ?_, fun w2 v' zs hw2 hgr hr hloc => ?_⟩
    · simp [Instr.mapEntry, run_underlying underM, MapKept.run_getObj_map hu, lawSq.check u _ hk, hfun, hja, hk3, lawSq.stays u hk, hsame, MapKept.run_setObj_map _ hu, Result.andThen, setBlock]
    · have hidx : es.findIdx? (fun e => ((e.born : Nat) : Int) == ((e0.born : Nat) : Int)) = some j := by
        rw [WideElems.findIdx_arr]
        exact WideElems.findIdx_born s2 hj
      have hlist : (es.modify j (fun e => { e with val := v' })).toList = es.toList.set j { e0 with val := v' } := by
        rw [Array.toList_modify, ChangeMaps.modify_eq_set _ _ _ _ hj]
      have hmem : ∀ x, x ∈ (es.modify j (fun e => { e with val := v' })).toList → (x ∈ es.toList ∧ x.key ≠ s'.val) ∨ (x.key = s'.val ∧ x.val = v') := by
        intro x hx
        rw [hlist] at hx
        obtain ⟨k, hk4⟩ := List.mem_iff_getElem?.1 hx
        rw [List.getElem?_set] at hk4
        split at hk4
        · split at hk4
          · injection hk4 with hk4
            subst hk4
            exact .inr ⟨hk3, rfl⟩
          · cases hk4
        · rename_i hkj
          have hxm := List.mem_of_getElem? hk4
          refine .inl ⟨hxm, fun e2 => hkj ?_⟩
          have hxe := one_key h.st hxm hm0 (e2.trans hk3.symm)
          rw [hxe] at hk4
          have hb1 := WideElems.findIdx_born s2 hk4
          have hb2 := WideElems.findIdx_born s2 hj
          rw [hb1] at hb2
          exact (Option.some.inj hb2).symm
      have hmem2 : ∀ x ∈ es.toList, ∃ y ∈ (es.modify j (fun e => { e with val := v' })).toList, y.key = x.key := by
        intro x hx
        obtain ⟨k, hk4⟩ := List.mem_iff_getElem?.1 hx
        rw [hlist]
        have hlt := (List.getElem?_eq_some_iff.1 hk4).1
        by_cases e2 : j = k
        · subst e2
          rw [hj] at hk4
          injection hk4 with hk4
          subst hk4
          exact ⟨{ e0 with val := v' }, List.mem_iff_getElem?.2 ⟨j, by rw [List.getElem?_set_self hlt]⟩, rfl⟩
        · exact ⟨x, List.mem_iff_getElem?.2 ⟨k, by rw [List.getElem?_set_ne e2]; exact hk4⟩, rfl⟩
      refine ⟨es.modify j (fun e => { e with val := v' }), clock, ?_, ⟨heap_setBlock_same hw2 _, MapKept.stamped_modify h.st j _ (fun _ _ => rfl) (fun _ _ _ => rfl), ?_, ?_, ?_⟩, ?_⟩
      · simp [Instr.entryStore, MapKept.run_getObj_map hw2, asInt, asIntOf, goInt, hidx, MapKept.run_setObj_map _ hw2, Result.andThen, setBlock]
      · intro x hx
        rcases hmem x hx with ⟨hx, hne⟩ | ⟨hxk, hxv⟩
        · obtain ⟨t, ht, e, hr2⟩ := h.rd x hx
          have hts : t ≠ s' := fun e2 => hne (by rw [e, e2])
          refine ⟨t, ht, e, ?_⟩
          rw [putG_other hts]
          refine keep (w2 := w2) hr2 (fun g hg => ?_)
          have hl := low hr2 hg
          rw [heap_setBlock_other hw2 _ (by omega)]
          refine hgr g hl.1 hl.2 (fun e2 => ?_)
          rcases h.ap x hx e0 hm0 (by rw [hk3]; exact hne) with c | c
          · rw [c] at hg
            cases hg
          · exact c (hg.trans e2)
        · refine ⟨s', hs, hxk, ?_⟩
          rw [putG_same, hxv]
          refine ⟨hr.1, ?_⟩
          rcases hr.2 with q2 | ⟨g, cap, cur, e, hB, hh, r⟩
          · exact .inl q2
          · exact .inr ⟨g, cap, cur, e, hB, (heap_setBlock_other hw2 _ (by omega)).trans hh, r⟩
      · intro t ht hno
        have hts : t ≠ s' := fun e2 => by
          obtain ⟨y, hy, ey⟩ := hmem2 e0 hm0
          exact hno y hy (by rw [ey, hk3, e2])
        rw [putG_other hts]
        refine h.no t ht (fun x hx ex => ?_)
        obtain ⟨y, hy, ey⟩ := hmem2 x hx
        exact hno y hy (ey.trans ex)
      · have cross : ∀ x ∈ es.toList, x.key ≠ s'.val → x.val.ownBlock = none ∨ x.val.ownBlock ≠ v'.ownBlock := by
          intro x hx hne
          rcases h.ap x hx e0 hm0 (by rw [hk3]; exact hne) with c | c
          · exact .inl c
          · cases hq : x.val.ownBlock with
            | none => exact .inl rfl
            | some g =>
              obtain ⟨t, ht, e, hr2⟩ := h.rd x hx
              have hl := low hr2 hq
              rcases hloc with h1 | ⟨g2, h1, h2⟩
              · rw [h1, ← hq]
                exact .inr c
              · rw [h1]
                refine .inr (fun e2 => ?_)
                injection e2 with e2
                omega
        intro x hx y hy hne
        rcases hmem x hx with ⟨hx, hxn⟩ | ⟨hxk, hxv⟩ <;> rcases hmem y hy with ⟨hy, hyn⟩ | ⟨hyk, hyv⟩
        · exact h.ap x hx y hy hne
        · rw [hyv]
          exact cross x hx hxn
        · rw [hxv]
          rcases cross y hy hyn with c | c
          · cases hv : v'.ownBlock with
            | none => exact .inl rfl
            | some g => exact .inr (by rw [c]; simp)
          · exact .inr (fun e2 => c e2.symm)
        · exact absurd (hxk.trans hyk.symm) hne
      · intro x hx
        rcases hmem x hx with ⟨hx, _⟩ | ⟨_, hxv⟩
        · exact .inr ⟨x, hx, rfl⟩
        · exact .inl hxv
end Go.Proofs.YtkdmeclbnnjdgalDoor
