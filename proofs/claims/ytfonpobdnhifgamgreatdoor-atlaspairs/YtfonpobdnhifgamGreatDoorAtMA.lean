/-
  The map of cells: entries by their cells, whose keys are structs. The program's atlas in memory. The program's New, Size, and what Add asks.
-/
import Derived.Test.YtfonpobdnhifgamGreatDoorAtD5
import Derived.Maps.OwnRows
import Derived.Maps.OwnSet
import Derived.DeepKeys4
import Derived.WideKeyEntry
namespace Go.Proofs.YtfonpobdnhifgamGreatDoor
open Go Go.RowKit
open Go.Maps (Keyed)
open Go.MapKept (Stamped)
open Go.ChangeMaps (setBlock heap_setBlock_same heap_setBlock_other)

theorem wf_of {x : Int} (h : i64B x) : (Lit.int .i64 x).wf = true := WalkArith.wf_i64 h
theorem lawSq : Keyed Tryz.prog 61 := Keyed.of_law (deep_law_laid (by kernel_rfl) (m := 2) (by omega) (of_decide_eq_true (by kernel_rfl)) (by kernel_rfl) (by kernel_rfl))
theorem sq_key {s : Sq} (h : SqOk s) : ∃ kl, keyOf Tryz.prog 61 s.val = some kl := by
  have hf : Tryz.prog.underlying 61 = some (.struct (Tryz.prog.fieldsOf 61)) := by kernel_rfl
  have hm : (Tryz.prog.fieldsOf 61).toList.map (fun f => (f.type, f.offset)) = [(3, 0), (3, 1), (3, 2), (3, 3)] := by kernel_rfl
  have hnm : (Tryz.prog.fieldsOf 61).all (·.name != "_") = true := by kernel_rfl
  have hc4 : Tryz.prog.cellsOf 61 = 4 := by kernel_rfl
  have hc1 : Tryz.prog.cellsOf 3 = 1 := by kernel_rfl
  have hkt : Tryz.prog.keyType 61 = true := by kernel_rfl
  obtain ⟨N, hN⟩ : ∃ N, Tryz.prog.types.size = N + 1 := ⟨Tryz.prog.types.size - 1, by
    have : (0 : Nat) < Tryz.prog.types.size := of_decide_eq_true (by kernel_rfl)
    omega⟩
  have key : ∀ f ∈ (Tryz.prog.fieldsOf 61).toList, Tryz.prog.keyLits (N + 1) f.type (([.int .i64 s.f, .int .i64 s.l, .int .i64 s.c, .int .i64 s.r].drop f.offset).take (Tryz.prog.cellsOf f.type)) = some [.int .i64 (sqN s f.offset)] := by
    intro f hfm
    have hk : (f.type, f.offset) ∈ [(3, 0), (3, 1), (3, 2), (3, 3)] := by
      rw [← hm]
      exact List.mem_map_of_mem hfm
    simp only [List.mem_cons, Prod.mk.injEq, List.not_mem_nil, or_false] at hk
    rcases hk with ⟨e1, e2⟩ | ⟨e1, e2⟩ | ⟨e1, e2⟩ | ⟨e1, e2⟩ <;> rw [e1, e2, hc1] <;> simp [Program.keyLits, Tryz.underlying3, sqN, wf_of h.f, wf_of h.l, wf_of h.c, wf_of h.r]
  refine ⟨.string (keyBytes (((Tryz.prog.fieldsOf 61).toList.map fun f => [Lit.int .i64 (sqN s f.offset)]).flatten)), ?_⟩
  unfold keyOf
  rw [hf]
  simp only [hkt, Bool.true_and]
  have hfm : (s.val).formed Tryz.prog 61 = true := by simp [Sq.val, Value.formed, hf, hc4]
  rw [if_pos hfm, hN]
  have e : Tryz.prog.keyLits (N + 1 + 1) 61 s.val.cells.toList = some (((Tryz.prog.fieldsOf 61).toList.map fun f => [Lit.int .i64 (sqN s f.offset)]).flatten) := by
    have hm2 : ∀ l : List Field, (∀ f ∈ l, f ∈ (Tryz.prog.fieldsOf 61).toList) → (l.mapM fun f => Tryz.prog.keyLits (N + 1) f.type (([.int .i64 s.f, .int .i64 s.l, .int .i64 s.c, .int .i64 s.r].drop f.offset).take (Tryz.prog.cellsOf f.type))) = some (l.map fun f => [Lit.int .i64 (sqN s f.offset)]) := by
      intro l
      induction l with
      | nil => intro _; rfl
      | cons f l ih =>
        intro hl
        rw [List.mapM_cons, key f (hl f (List.mem_cons_self ..)), ih (fun g hg => hl g (List.mem_cons_of_mem _ hg))]
        rfl
    have hcs : s.val.cells.toList = [.int .i64 s.f, .int .i64 s.l, .int .i64 s.c, .int .i64 s.r] := rfl
    rw [hcs]
    generalize hLs : [Value.int .i64 s.f, .int .i64 s.l, .int .i64 s.c, .int .i64 s.r] = Ls at *
    have hlen : Ls.length = 4 := by rw [← hLs]; rfl
    unfold Program.keyLits
    simp only [hf]
    rw [if_pos ⟨by rw [hlen, hc4], hnm⟩, hm2 _ (fun f h => h)]
    rfl
  rw [e]
  rfl
theorem sq_inj {s t : Sq} (h : s.val = t.val) : s = t := by
  obtain ⟨f, l, c, r⟩ := s
  obtain ⟨f', l', c', r'⟩ := t
  unfold Sq.val at h
  simp at h
  obtain ⟨rfl, rfl, rfl, rfl⟩ := h
  rfl
/-- a row of whole numbers that is owned. -/
abbrev IRow (w : World) (base : Nat) (v : Value) (zs : List Int) : Prop := w.ownsRow base 3 1 v zs.length (zs.map (Value.int .i64))
/-- the map of cells: by each cell the numbers of those in it. -/
structure CMap (w : World) (b base : Nat) (es : Array MapEntry) (clock : Nat) (G : Sq → List Int) : Prop where
  hb : w.heap[b]? = some (.map es clock)
  st : Stamped es clock
  rd : ∀ x ∈ es.toList, ∃ s, SqOk s ∧ x.key = s.val ∧ IRow w base x.val (G s)
  no : ∀ s, SqOk s → (∀ x ∈ es.toList, x.key ≠ s.val) → G s = []
  ap : ∀ x ∈ es.toList, ∀ y ∈ es.toList, x.key ≠ y.key → x.val.ownBlock = none ∨ x.val.ownBlock ≠ y.val.ownBlock
theorem zeroSI (w : World) : (zeroValue 91).run Tryz.prog w = .ok (.slice none 0 0) w := by kernel_rfl
theorem underM : Tryz.prog.underlying 80 = some (.map 61 91) := Tryz.underlying80
theorem CMap.keys {w : World} {b base clock : Nat} {es : Array MapEntry} {G : Sq → List Int} (h : CMap w b base es clock G) : ∀ e ∈ es.toList, ∃ l, keyOf Tryz.prog 61 e.key = some l := fun x hx => by
  obtain ⟨s, hs, e, _⟩ := h.rd x hx
  rw [e]
  exact sq_key hs
/-- of two entries with one key. -/
theorem one_key {es : Array MapEntry} {clock : Nat} (st : Stamped es clock) {x y : MapEntry} (hx : x ∈ es.toList) (hy : y ∈ es.toList) (h : x.key = y.key) : x = y := by
  have hp := ((MapKept.stamped_iff es clock).1 st).2.2
  obtain ⟨i, hi, ei⟩ := List.mem_iff_getElem.1 hx
  obtain ⟨j, hj, ej⟩ := List.mem_iff_getElem.1 hy
  rw [List.pairwise_iff_getElem] at hp
  rcases Nat.lt_trichotomy i j with q | q | q
  · have := hp i j hi hj q
    rw [ei, ej] at this
    exact absurd h this
  · subst q
    exact ei.symm.trans ej
  · have := hp j i hj hi q
    rw [ei, ej] at this
    exact absurd h.symm this
/-- what stands at a cell. -/
theorem CMap.look {w : World} {b base clock : Nat} {es : Array MapEntry} {G : Sq → List Int} (h : CMap w b base es clock G) {s : Sq} (hs : SqOk s) :
    ∃ v, IRow w base v (G s) ∧ (v.ownBlock = none ∨ ∃ x ∈ es.toList, x.val = v) ∧ ∀ u : World, u.heap[b]? = some (.map es clock) → (Instr.lookup 80 (.map (some b)) s.val false).run Tryz.prog u = .ok v u := by
  obtain ⟨kl, hk⟩ := sq_key hs
  have hf := fun u => lawSq.find u hk es.toList h.keys
  have hfun : ∀ u : World, ((Instr.findKey 61 s.val es.toList).run Tryz.prog u = .ok none u ∧ ∀ e ∈ es.toList, e.key ≠ s.val) ∨ ∃ j e, (Instr.findKey 61 s.val es.toList).run Tryz.prog u = .ok (some (j, e.val)) u ∧ es.toList[j]? = some e ∧ e.key = s.val := hf
  by_cases q : ∀ e ∈ es.toList, e.key ≠ s.val
  · refine ⟨.slice none 0 0, ?_, .inl rfl, fun u hu => ?_⟩
    · rw [h.no s hs q]
      exact World.ownsRow_nil w base 3 1
    · rcases hfun u with ⟨h1, _⟩ | ⟨j, e, _, h2, h3⟩
      · simp [Instr.lookup, run_underlying underM, MapKept.run_getObj_map hu, lawSq.check u _ hk, h1, Result.andThen]
      · exact absurd h3 (q e (List.mem_of_getElem? h2))
  · obtain ⟨x, hx⟩ := Classical.not_forall.1 q
    obtain ⟨hxm, hk2⟩ := Classical.not_imp.1 hx
    clear hx
    have hx := hxm
    have hk3 : x.key = s.val := Classical.not_not.1 hk2
    obtain ⟨s', hs', e', hr⟩ := h.rd x hx
    have : s' = s := sq_inj (e'.symm.trans hk3)
    subst this
    refine ⟨x.val, hr, .inr ⟨x, hx, rfl⟩, fun u hu => ?_⟩
    rcases hfun u with ⟨_, h2⟩ | ⟨j, e, h1, h2, h3⟩
    · exact absurd hk3 (h2 x hx)
    · have hex : e = x := one_key h.st (List.mem_of_getElem? h2) hx (h3.trans hk3.symm)
      rw [hex] at h1
      simp [Instr.lookup, run_underlying underM, MapKept.run_getObj_map hu, lawSq.check u _ hk, h1, Result.andThen]
def putG (G : Sq → List Int) (s : Sq) (zs : List Int) (t : Sq) : List Int := if t.f = s.f ∧ t.l = s.l ∧ t.c = s.c ∧ t.r = s.r then zs else G t
theorem putG_same (G : Sq → List Int) (s : Sq) (zs : List Int) : putG G s zs s = zs := by unfold putG; rw [if_pos ⟨rfl, rfl, rfl, rfl⟩]
theorem putG_other {G : Sq → List Int} {s t : Sq} {zs : List Int} (h : t ≠ s) : putG G s zs t = G t := by
  unfold putG
  rw [if_neg ?_]
  rintro ⟨h1, h2, h3, h4⟩
  obtain ⟨f, l, c, r⟩ := s
  obtain ⟨f', l', c', r'⟩ := t
  simp only at h1 h2 h3 h4
  subst h1 h2 h3 h4
  exact h rfl
theorem grown_set {w : World} {b : Nat} {es es' : Array MapEntry} {clock clock' : Nat} (h : w.heap[b]? = some (.map es clock)) : w.grownBy (setBlock w b (.map es' clock')) (some b) :=
  ⟨rfl, rfl, rfl, by simp [setBlock], fun i _ hi => heap_setBlock_other h _ (fun e => hi (by rw [e]))⟩
/-- 'm[k] = append(m[k], n)': the entry, and the store at its stamp. -/
theorem CMap.entry {w : World} {b base clock : Nat} {es : Array MapEntry} {G : Sq → List Int} (h : CMap w b base es clock G) (hbb : b < base) {s : Sq} (hs : SqOk s) :
    ∃ (v : Value) (st : Nat) (es1 : Array MapEntry) (clock1 : Nat), IRow w base v (G s) ∧ (v.ownBlock = none ∨ ∃ x ∈ es.toList, x.val = v) ∧
      (∀ u : World, u.heap[b]? = some (.map es clock) → (Instr.mapEntry 80 (.map (some b)) s.val).run Tryz.prog u = .ok (.tuple #[v, goInt st]) (setBlock u b (.map es1 clock1))) ∧
      ∀ (w2 : World) (v' : Value) (zs : List Int), w2.heap[b]? = some (.map es1 clock1) → (∀ g, base ≤ g → g < w.heap.size → some g ≠ v.ownBlock → w2.heap[g]? = w.heap[g]?) → IRow w2 base v' zs → (v'.ownBlock = v.ownBlock ∨ ∃ g, v'.ownBlock = some g ∧ w.heap.size ≤ g) →
        ∃ es2 clock2, (Instr.entryStore 80 (.map (some b)) (goInt st) v').run Tryz.prog w2 = .ok () (setBlock w2 b (.map es2 clock2)) ∧ CMap (setBlock w2 b (.map es2 clock2)) b base es2 clock2 (putG G s zs) ∧ (∀ x ∈ es2.toList, x.val = v' ∨ ∃ y ∈ es.toList, x.val = y.val) := by
  obtain ⟨kl, hk⟩ := sq_key hs
  obtain ⟨s1, s2, s3⟩ := (MapKept.stamped_iff es clock).1 h.st
  have keep : ∀ {u : Value} {zs : List Int} {w2 w3 : World}, IRow w base u zs → (∀ g, u.ownBlock = some g → w3.heap[g]? = w.heap[g]?) → IRow w3 base u zs := by
    intro u zs w2 w3 ho hg
    refine ⟨ho.1, ?_⟩
    rcases ho.2 with q | ⟨g, cap, cur, e, hB, hh, r⟩
    · exact .inl q
    · exact .inr ⟨g, cap, cur, e, hB, (hg g (by rw [e]; rfl)).trans hh, r⟩
  have low : ∀ {u : Value} {zs : List Int} {w0 : World} {g : Nat}, IRow w0 base u zs → u.ownBlock = some g → base ≤ g ∧ g < w0.heap.size := by
    intro u zs w0 g ho hg
    rcases ho.2 with ⟨e, _⟩ | ⟨g', cap, cur, e, hB, hh, _⟩
    · rw [e] at hg
      cases hg
    · rw [e] at hg
      injection hg with hg
      simp only at hg
      subst hg
      exact ⟨hB, ltB hh⟩
  by_cases q : ∀ e ∈ es.toList, e.key ≠ s.val
  · -- a new entry
    have hfun : ∀ u : World, (Instr.findKey 61 s.val es.toList).run Tryz.prog u = .ok none u := fun u => by
      rcases lawSq.find u hk es.toList h.keys with ⟨h1, _⟩ | ⟨j, e, _, h2, h3⟩
      · exact h1
      · exact absurd h3 (q e (List.mem_of_getElem? h2))
    refine ⟨.slice none 0 0, clock, es.push ⟨s.val, .slice none 0 0, clock⟩, clock + 1, ?_, .inl rfl, fun u hu => ?_, fun w2 v' zs hw2 hgr hr hloc => ?_⟩
    · rw [h.no s hs q]
      exact World.ownsRow_nil w base 3 1
    · simp [Instr.mapEntry, run_underlying underM, MapKept.run_getObj_map hu, lawSq.check u _ hk, hfun, MapKept.run_setObj_map _ hu, Result.andThen, setBlock]
    · have hidx : (es.push ⟨s.val, .slice none 0 0, clock⟩).findIdx? (fun e => ((e.born : Nat) : Int) == ((clock : Nat) : Int)) = some es.size := by
        rw [WideElems.findIdx_arr]
        exact WideElems.findIdx_born (l := (es.push ⟨s.val, .slice none 0 0, clock⟩).toList) (j := es.size) (e0 := ⟨s.val, .slice none 0 0, clock⟩) (by
          simp only [Array.toList_push, List.map_append, List.map_cons, List.map_nil]
          refine List.nodup_append.2 ⟨s2, by simp, fun a ha c hc e1 => ?_⟩
          simp only [List.mem_singleton] at hc
          obtain ⟨x, hx, rfl⟩ := List.mem_map.1 ha
          have := s1 x hx
          omega) (by simp)
      have hmod : (es.push ⟨s.val, .slice none 0 0, clock⟩).modify es.size (fun e => { e with val := v' }) = es.push ⟨s.val, v', clock⟩ := by
        apply Array.ext'
        rw [Array.toList_modify, Array.toList_push, Array.toList_push, ← Array.length_toList, WideElems.modify_last]
      have hmem : ∀ x, x ∈ (es.push ⟨s.val, v', clock⟩).toList ↔ x ∈ es.toList ∨ x = ⟨s.val, v', clock⟩ := by
        intro x
        simp only [Array.toList_push, List.mem_append, List.mem_singleton]
      refine ⟨es.push ⟨s.val, v', clock⟩, clock + 1, ?_, ⟨heap_setBlock_same hw2 _, MapKept.stamped_push h.st q, ?_, ?_, ?_⟩, ?_⟩
      · simp [Instr.entryStore, MapKept.run_getObj_map hw2, asInt, asIntOf, goInt, hidx, hmod, MapKept.run_setObj_map _ hw2, Result.andThen, setBlock]
      · intro x hx
        rcases (hmem x).1 hx with hx | rfl
        · obtain ⟨t, ht, e, hr2⟩ := h.rd x hx
          have hne : t ≠ s := fun e2 => q x hx (by rw [e, e2])
          refine ⟨t, ht, e, ?_⟩
          rw [putG_other hne]
          refine keep (w2 := w2) hr2 (fun g hg => ?_)
          have hl := low hr2 hg
          rw [heap_setBlock_other hw2 _ (by omega)]
          exact hgr g hl.1 hl.2 (by simp [Value.ownBlock])
        · refine ⟨s, hs, rfl, ?_⟩
          rw [putG_same]
          refine ⟨hr.1, ?_⟩
          rcases hr.2 with q2 | ⟨g, cap, cur, e, hB, hh, r⟩
          · exact .inl q2
          · exact .inr ⟨g, cap, cur, e, hB, (heap_setBlock_other hw2 _ (by omega)).trans hh, r⟩
      · intro t ht hno
        have hne : t ≠ s := fun e2 => hno ⟨s.val, v', clock⟩ ((hmem _).2 (.inr rfl)) (by rw [e2])
        rw [putG_other hne]
        exact h.no t ht (fun x hx => hno x ((hmem x).2 (.inl hx)))
      · have cross : ∀ x ∈ es.toList, x.val.ownBlock = none ∨ x.val.ownBlock ≠ v'.ownBlock := by
          intro x hx
          cases hq : x.val.ownBlock with
          | none => exact .inl rfl
          | some g =>
            obtain ⟨t, ht, e, hr2⟩ := h.rd x hx
            have hl := low hr2 hq
            rcases hloc with h1 | ⟨g2, h1, h2⟩
            · rw [h1]
              exact .inr (by simp [Value.ownBlock])
            · rw [h1]
              refine .inr (fun e2 => ?_)
              injection e2 with e2
              omega
        intro x hx y hy hne
        rcases (hmem x).1 hx with hx | rfl <;> rcases (hmem y).1 hy with hy | rfl
        · exact h.ap x hx y hy hne
        · exact cross x hx
        · rcases cross y hy with c | c
          · cases hv : v'.ownBlock with
            | none => exact .inl rfl
            | some g => exact .inr (by rw [c]; simp)
          · exact .inr (fun e2 => c e2.symm)
        · exact absurd rfl hne
      · intro x hx
        rcases (hmem x).1 hx with hx | rfl
        · exact .inr ⟨x, hx, rfl⟩
        · exact .inl rfl
  · -- one that is there
    obtain ⟨e0, he⟩ := Classical.not_forall.1 q
    obtain ⟨hm0, hk2⟩ := Classical.not_imp.1 he
    have hk3 : e0.key = s.val := Classical.not_not.1 hk2
    clear he hk2 q
    obtain ⟨s', hs', e', hr0⟩ := h.rd e0 hm0
    have : s' = s := sq_inj (e'.symm.trans hk3)
    subst this
    obtain ⟨j, hj⟩ := List.mem_iff_getElem?.1 hm0
    have hja : es[j]? = some e0 := by simpa using hj
    have hfun : ∀ u : World, (Instr.findKey 61 s'.val es.toList).run Tryz.prog u = .ok (some (j, e0.val)) u := fun u => by
      rcases lawSq.find u hk es.toList h.keys with ⟨_, h2⟩ | ⟨j', e, h1, h2, h3⟩
      · exact absurd hk3 (h2 e0 hm0)
      · have hee : e = e0 := one_key h.st (List.mem_of_getElem? h2) hm0 (h3.trans hk3.symm)
        subst hee
        have hjj : j' = j := by
          have hb1 := WideElems.findIdx_born s2 h2
          have hb2 := WideElems.findIdx_born s2 hj
          rw [hb1] at hb2
          exact Option.some.inj hb2
        subst hjj
        exact h1
    have hsame : es.modify j (fun e => { e with key := s'.val }) = es := by
      apply Array.ext'
      rw [Array.toList_modify, ChangeMaps.modify_eq_set _ _ _ _ hj]
      have : ({ e0 with key := s'.val } : MapEntry) = e0 := by rw [← hk3]
      rw [this]
      exact WideElems.set_self _ _ _ hj
    refine ⟨e0.val, e0.born, es, clock, hr0, .inr ⟨e0, hm0, rfl⟩, fun u hu => ?_, fun w2 v' zs hw2 hgr hr hloc => ?_⟩
    · simp [Instr.mapEntry, run_underlying underM, MapKept.run_getObj_map hu, lawSq.check u _ hk, hfun, hja, hk3, lawSq.stays u hk, hsame, MapKept.run_setObj_map _ hu, Result.andThen, setBlock]
    · have hidx : es.findIdx? (fun e => ((e.born : Nat) : Int) == ((e0.born : Nat) : Int)) = some j := by
        rw [WideElems.findIdx_arr]
        exact WideElems.findIdx_born s2 hj
      have hlist : (es.modify j (fun e => { e with val := v' })).toList = es.toList.set j { e0 with val := v' } := by
        rw [Array.toList_modify, ChangeMaps.modify_eq_set _ _ _ _ hj]
      have hmem : ∀ x, x ∈ (es.modify j (fun e => { e with val := v' })).toList → (x ∈ es.toList ∧ x.key ≠ s'.val) ∨ (x.key = s'.val ∧ x.val = v') := by
        intro x hx
        rw [hlist] at hx
        obtain ⟨k, hk4⟩ := List.mem_iff_getElem?.1 hx
        rw [List.getElem?_set] at hk4
        split at hk4
        · split at hk4
          · injection hk4 with hk4
            subst hk4
            exact .inr ⟨hk3, rfl⟩
          · cases hk4
        · rename_i hkj
          have hxm := List.mem_of_getElem? hk4
          refine .inl ⟨hxm, fun e2 => hkj ?_⟩
          have hxe := one_key h.st hxm hm0 (e2.trans hk3.symm)
          rw [hxe] at hk4
          have hb1 := WideElems.findIdx_born s2 hk4
          have hb2 := WideElems.findIdx_born s2 hj
          rw [hb1] at hb2
          exact (Option.some.inj hb2).symm
      have hmem2 : ∀ x ∈ es.toList, ∃ y ∈ (es.modify j (fun e => { e with val := v' })).toList, y.key = x.key := by
        intro x hx
        obtain ⟨k, hk4⟩ := List.mem_iff_getElem?.1 hx
        rw [hlist]
        have hlt := (List.getElem?_eq_some_iff.1 hk4).1
        by_cases e2 : j = k
        · subst e2
          rw [hj] at hk4
          injection hk4 with hk4
          subst hk4
          exact ⟨{ e0 with val := v' }, List.mem_iff_getElem?.2 ⟨j, by rw [List.getElem?_set_self hlt]⟩, rfl⟩
        · exact ⟨x, List.mem_iff_getElem?.2 ⟨k, by rw [List.getElem?_set_ne e2]; exact hk4⟩, rfl⟩
      refine ⟨es.modify j (fun e => { e with val := v' }), clock, ?_, ⟨heap_setBlock_same hw2 _, MapKept.stamped_modify h.st j _ (fun _ _ => rfl) (fun _ _ _ => rfl), ?_, ?_, ?_⟩, ?_⟩
      · simp [Instr.entryStore, MapKept.run_getObj_map hw2, asInt, asIntOf, goInt, hidx, MapKept.run_setObj_map _ hw2, Result.andThen, setBlock]
      · intro x hx
        rcases hmem x hx with ⟨hx, hne⟩ | ⟨hxk, hxv⟩
        · obtain ⟨t, ht, e, hr2⟩ := h.rd x hx
          have hts : t ≠ s' := fun e2 => hne (by rw [e, e2])
          refine ⟨t, ht, e, ?_⟩
          rw [putG_other hts]
          refine keep (w2 := w2) hr2 (fun g hg => ?_)
          have hl := low hr2 hg
          rw [heap_setBlock_other hw2 _ (by omega)]
          refine hgr g hl.1 hl.2 (fun e2 => ?_)
          rcases h.ap x hx e0 hm0 (by rw [hk3]; exact hne) with c | c
          · rw [c] at hg
            cases hg
          · exact c (hg.trans e2)
        · refine ⟨s', hs, hxk, ?_⟩
          rw [putG_same, hxv]
          refine ⟨hr.1, ?_⟩
          rcases hr.2 with q2 | ⟨g, cap, cur, e, hB, hh, r⟩
          · exact .inl q2
          · exact .inr ⟨g, cap, cur, e, hB, (heap_setBlock_other hw2 _ (by omega)).trans hh, r⟩
      · intro t ht hno
        have hts : t ≠ s' := fun e2 => by
          obtain ⟨y, hy, ey⟩ := hmem2 e0 hm0
          exact hno y hy (by rw [ey, hk3, e2])
        rw [putG_other hts]
        refine h.no t ht (fun x hx ex => ?_)
        obtain ⟨y, hy, ey⟩ := hmem2 x hx
        exact hno y hy (ey.trans ex)
      · have cross : ∀ x ∈ es.toList, x.key ≠ s'.val → x.val.ownBlock = none ∨ x.val.ownBlock ≠ v'.ownBlock := by
          intro x hx hne
          rcases h.ap x hx e0 hm0 (by rw [hk3]; exact hne) with c | c
          · exact .inl c
          · cases hq : x.val.ownBlock with
            | none => exact .inl rfl
            | some g =>
              obtain ⟨t, ht, e, hr2⟩ := h.rd x hx
              have hl := low hr2 hq
              rcases hloc with h1 | ⟨g2, h1, h2⟩
              · rw [h1, ← hq]
                exact .inr c
              · rw [h1]
                refine .inr (fun e2 => ?_)
                injection e2 with e2
                omega
        intro x hx y hy hne
        rcases hmem x hx with ⟨hx, hxn⟩ | ⟨hxk, hxv⟩ <;> rcases hmem y hy with ⟨hy, hyn⟩ | ⟨hyk, hyv⟩
        · exact h.ap x hx y hy hne
        · rw [hyv]
          exact cross x hx hxn
        · rw [hxv]
          rcases cross y hy hyn with c | c
          · cases hv : v'.ownBlock with
            | none => exact .inl rfl
            | some g => exact .inr (by rw [c]; simp)
          · exact .inr (fun e2 => c e2.symm)
        · exact absurd (hxk.trans hyk.symm) hne
      · intro x hx
        rcases hmem x hx with ⟨hx, _⟩ | ⟨_, hxv⟩
        · exact .inr ⟨x, hx, rfl⟩
        · exact .inl hxv
end Go.Proofs.YtfonpobdnhifgamGreatDoor
namespace Go.Proofs.YtfonpobdnhifgamGreatDoor
open Go Go.RowKit
open Go.Maps (Keyed)
open Go.MapKept (Stamped)
open Go.ChangeMaps (setBlock heap_setBlock_same heap_setBlock_other)

/-- the numbers of those, of the first i, of which p is so. -/
def ixL (L : List En) (p : En → Bool) : Nat → List Int
  | 0 => []
  | i + 1 => if p (L.getD i en0) then ixL L p i ++ [(i : Int)] else ixL L p i
theorem ixL_len (L : List En) (p : En → Bool) : ∀ i, (ixL L p i).length ≤ i
  | 0 => Nat.le_refl _
  | i + 1 => by
    have := ixL_len L p i
    show (if p (L.getD i en0) then ixL L p i ++ [(i : Int)] else ixL L p i).length ≤ i + 1
    split
    · rw [List.length_append]; simp; omega
    · omega
theorem ixL_mem {L : List En} {p : En → Bool} : ∀ {i : Nat} {z : Int}, z ∈ ixL L p i ↔ ∃ k : Nat, z = k ∧ k < i ∧ p (L.getD k en0) = true
  | 0, z => by
    refine ⟨(fun h => by cases h), ?_⟩
    rintro ⟨k, _, h, _⟩
    exact absurd h (Nat.not_lt_zero k)
  | i + 1, z => by
    have ih := @ixL_mem L p i z
    show z ∈ (if p (L.getD i en0) then ixL L p i ++ [(i : Int)] else ixL L p i) ↔ _
    split
    · rename_i hp
      rw [List.mem_append, ih, List.mem_singleton]
      constructor
      · rintro (⟨k, h1, h2, h3⟩ | h)
        · exact ⟨k, h1, by omega, h3⟩
        · exact ⟨i, h, by omega, hp⟩
      · rintro ⟨k, h1, h2, h3⟩
        by_cases e : k = i
        · subst e
          exact .inr h1
        · exact .inl ⟨k, h1, by omega, h3⟩
    · rename_i hp
      rw [ih]
      constructor
      · rintro ⟨k, h1, h2, h3⟩
        exact ⟨k, h1, by omega, h3⟩
      · rintro ⟨k, h1, h2, h3⟩
        by_cases e : k = i
        · subst e
          exact absurd h3 hp
        · exact ⟨k, h1, by omega, h3⟩
theorem ixL_app {L : List En} {e : En} {p : En → Bool} : ∀ {i : Nat}, i ≤ L.length → ixL (L ++ [e]) p i = ixL L p i
  | 0, _ => rfl
  | i + 1, h => by
    have ih := @ixL_app L e p i (by omega)
    have hg : (L ++ [e]).getD i en0 = L.getD i en0 := by
      rw [List.getD_eq_getElem?_getD, List.getD_eq_getElem?_getD, List.getElem?_append_left (by omega)]
    show (if p ((L ++ [e]).getD i en0) then ixL (L ++ [e]) p i ++ [(i : Int)] else ixL (L ++ [e]) p i) = (if p (L.getD i en0) then ixL L p i ++ [(i : Int)] else ixL L p i)
    rw [ih, hg]
def cellB (lv : Int) (s : Sq) (e : En) : Bool := decide (0 ≤ s.l ∧ s.l ≤ lv) && sqEq (sqV e.d s.l.toNat) s
/-- by each cell of a level up to the atlas' one, whose they are. -/
def GOf (lv : Int) (L : List En) (s : Sq) : List Int := ixL L (cellB lv s) L.length
theorem GOf_app (lv : Int) (L : List En) (e : En) (s : Sq) : GOf lv (L ++ [e]) s = if cellB lv s e then GOf lv L s ++ [(L.length : Int)] else GOf lv L s := by
  unfold GOf
  rw [List.length_append, List.length_singleton]
  show (if cellB lv s ((L ++ [e]).getD L.length en0) then ixL (L ++ [e]) (cellB lv s) L.length ++ [(L.length : Int)] else ixL (L ++ [e]) (cellB lv s) L.length) = _
  have hg : (L ++ [e]).getD L.length en0 = e := by
    rw [List.getD_eq_getElem?_getD, List.getElem?_append_right (Nat.le_refl _)]
    simp
  rw [hg, ixL_app (Nat.le_refl _)]
/-- a star: what is kept of an entry. -/
def valSt (s : En) : List Value := [.string s.nm, .int .i64 s.d.x, .int .i64 s.d.y, .int .i64 s.d.z]
def flatSt : List En → List Value
  | [] => []
  | s :: l => valSt s ++ flatSt l
theorem flatSt_append : ∀ (L M : List En), flatSt (L ++ M) = flatSt L ++ flatSt M
  | [], M => rfl
  | s :: l, M => by
    show valSt s ++ flatSt (l ++ M) = (valSt s ++ flatSt l) ++ flatSt M
    rw [flatSt_append l M, List.append_assoc]
theorem flatSt_length : ∀ L : List En, (flatSt L).length = L.length * 4
  | [] => rfl
  | s :: l => by
    show (valSt s ++ flatSt l).length = (l.length + 1) * 4
    rw [List.length_append, flatSt_length l]
    show 4 + l.length * 4 = _
    omega
theorem flatSt_at : ∀ (L : List En) (j i : Nat), j < L.length → i < 4 → (flatSt L)[j * 4 + i]? = (valSt (L.getD j en0))[i]?
  | [], j, _, h, _ => absurd h (Nat.not_lt_zero j)
  | s :: l, 0, i, _, hi => by
    show (valSt s ++ flatSt l)[0 * 4 + i]? = (valSt s)[i]?
    rw [Nat.zero_mul, Nat.zero_add, List.getElem?_append_left (by show i < 4; exact hi)]
  | s :: l, j + 1, i, h, hi => by
    have ih := flatSt_at l j i (by simpa using h) hi
    show (valSt s ++ flatSt l)[(j + 1) * 4 + i]? = _
    rw [List.getElem?_append_right (by show 4 ≤ _; omega)]
    have e : (j + 1) * 4 + i - (valSt s).length = j * 4 + i := by show (j + 1) * 4 + i - 4 = _; omega
    rw [e, ih]
    rfl
/-- a star in memory. -/
structure StAt (w : World) (b o : Nat) (s : En) : Prop where
  c0 : w.cell? ⟨b, o, none⟩ = some (.string s.nm)
  c1 : w.cell? ⟨b, o + 1, none⟩ = some (.int .i64 s.d.x)
  c2 : w.cell? ⟨b, o + 2, none⟩ = some (.int .i64 s.d.y)
  c3 : w.cell? ⟨b, o + 3, none⟩ = some (.int .i64 s.d.z)
/-- the row of stars. -/
structure SRow (w : World) (base : Nat) (v : Value) (L : List En) : Prop where
  own : w.ownsRow base 89 4 v L.length (flatSt L)
theorem SRow.at {w : World} {base : Nat} {v : Value} {L : List En} (h : SRow w base v L) : ∃ ad cap, v = .slice ad L.length cap ∧ L.length ≤ cap ∧ ∀ k, k < L.length → ∃ b, ad = some ⟨b, 0, none⟩ ∧ base ≤ b ∧ b < w.heap.size ∧ StAt w b (k * 4) (L.getD k en0) := by
  rcases h.own.2 with ⟨e, h0⟩ | ⟨g, cap, cur, e, hB, hh, hn, hc, hsz, ht⟩
  · exact ⟨none, 0, by rw [e, h0], by omega, fun k hk => absurd hk (by omega)⟩
  · refine ⟨some ⟨g, 0, none⟩, cap, e, hn, fun k hk => ⟨g, rfl, hB, ltB hh, ?_⟩⟩
    have hc : ∀ i, i < 4 → w.cell? ⟨g, k * 4 + i, none⟩ = (valSt (L.getD k en0))[i]? := by
      intro i hi
      have h1 := flatSt_at L k i hk hi
      have hlt : k * 4 + i < L.length * 4 := by omega
      rw [← ht, List.getElem?_take, if_pos hlt, Array.getElem?_toList] at h1
      rw [← h1]
      have hv : (valSt (L.getD k en0))[i]? ≠ none := by
        have : i = 0 ∨ i = 1 ∨ i = 2 ∨ i = 3 := by omega
        rcases this with rfl | rfl | rfl | rfl <;> simp [valSt]
      simp [World.cell?, hh]
    exact ⟨(hc 0 (by omega)).trans rfl, (hc 1 (by omega)).trans rfl, (hc 2 (by omega)).trans rfl, (hc 3 (by omega)).trans rfl⟩
/-- the names. -/
structure NMap (w : World) (b : Nat) (L : List En) : Prop where
  ex : ∃ D : DataW Unit, w.ownsMap Tryz.prog 9 Go.unitElem b L.length D ∧ ∀ s : ByteArray, s.size ≤ maxLen → Maps.has D (.string s.data.toList) = decide (∃ e ∈ L, e.nm = s)
/-- the atlas behind a pointer. -/
structure ARepX (w : World) (p : Nat) (lv : Int) (L : List En) (sn : Int) (sv : Value) (bn bc : Nat) (es : Array MapEntry) (clock : Nat) : Prop where
  lvl : 0 ≤ lv ∧ lv ≤ 12
  hp : w.heap[p]? = some (.cells #[.int .i64 lv, sv, .map (some bn), .map (some bc), .int .i64 sn] 82)
  st : SRow w (p + 1) sv L
  nm : NMap w bn L
  cl : CMap w bc (p + 1) es clock (GOf lv L)
  bnp : bn < p
  bcp : bc < p
  bnc : bn ≠ bc
  dir : ∀ e ∈ L, dirB e.d = true
  siz : ∀ e ∈ L, e.nm.size ≤ 40
def ownO (p bn bc : Nat) (sv : Value) (es : Array MapEntry) (k : Nat) : Prop := k = p ∨ k = bn ∨ k = bc ∨ sv.ownBlock = some k ∨ ∃ x ∈ es.toList, x.val.ownBlock = some k
def ARep (w : World) (p : Nat) (lv : Int) (L : List En) (O : Nat → Prop) (sn : Int) : Prop := ∃ sv bn bc es clock, ARepX w p lv L sn sv bn bc es clock ∧ ∀ k, O k ↔ ownO p bn bc sv es k
theorem row_block {w : World} {base n s : Nat} {e : TypeId} {v : Value} {xs : List Value} (h : w.ownsRow base e s v n xs) {k : Nat} (hk : v.ownBlock = some k) : base ≤ k ∧ ∃ cur, w.heap[k]? = some (.cells cur e (0, 0)) := by
  rcases h.2 with ⟨e1, _⟩ | ⟨g, cap, cur, e1, hB, hh, _⟩
  · rw [e1] at hk; cases hk
  · rw [e1] at hk
    injection hk with hk
    simp only at hk
    subst hk
    exact ⟨hB, cur, hh⟩
theorem row_keep {w w' : World} {base n s : Nat} {e : TypeId} {v : Value} {xs : List Value} (h : w.ownsRow base e s v n xs) (hk : ∀ k, v.ownBlock = some k → w'.heap[k]? = w.heap[k]?) : w'.ownsRow base e s v n xs := by
  refine ⟨h.1, ?_⟩
  rcases h.2 with q | ⟨g, cap, cur, e1, hB, hh, r⟩
  · exact .inl q
  · exact .inr ⟨g, cap, cur, e1, hB, (hk g (by rw [e1]; rfl)).trans hh, r⟩
theorem ARepX.owned {w : World} {p : Nat} {lv : Int} {L : List En} {sn : Int} {sv : Value} {bn bc : Nat} {es : Array MapEntry} {clock : Nat} (h : ARepX w p lv L sn sv bn bc es clock) {k : Nat} (hk : ownO p bn bc sv es k) : ∃ o, w.heap[k]? = some o ∧ ∀ cs f, o ≠ .cells cs 45 f := by
  rcases hk with rfl | rfl | rfl | hk | ⟨x, hx, hk⟩
  · exact ⟨_, h.hp, fun cs f e => by injection e with _ e; exact absurd e (by decide)⟩
  · obtain ⟨D, ⟨es', c', hb, _⟩, _⟩ := h.nm.ex
    exact ⟨_, hb, fun cs f e => by cases e⟩
  · exact ⟨_, h.cl.hb, fun cs f e => by cases e⟩
  · obtain ⟨_, cur, hh⟩ := row_block h.st.own hk
    exact ⟨_, hh, fun cs f e => by injection e with _ e; exact absurd e (by decide)⟩
  · obtain ⟨s, hs, e, hr⟩ := h.cl.rd x hx
    obtain ⟨_, cur, hh⟩ := row_block hr hk
    exact ⟨_, hh, fun cs f e => by injection e with _ e; exact absurd e (by decide)⟩
theorem ARepX.kept {w w' : World} {p : Nat} {lv : Int} {L : List En} {sn : Int} {sv : Value} {bn bc : Nat} {es : Array MapEntry} {clock : Nat} (h : ARepX w p lv L sn sv bn bc es clock) (hk : ∀ k, ownO p bn bc sv es k → w'.heap[k]? = w.heap[k]?) : ARepX w' p lv L sn sv bn bc es clock := by
  refine ⟨h.lvl, (hk p (.inl rfl)).trans h.hp, ⟨row_keep h.st.own (fun k q => hk k (.inr (.inr (.inr (.inl q)))))⟩, ?_, ?_, h.bnp, h.bcp, h.bnc, h.dir, h.siz⟩
  · obtain ⟨D, ⟨es', c', hb, F, r⟩, hd⟩ := h.nm.ex
    exact ⟨D, ⟨es', c', (hk bn (.inr (.inl rfl))).trans hb, F, r⟩, hd⟩
  · refine ⟨(hk bc (.inr (.inr (.inl rfl)))).trans h.cl.hb, h.cl.st, fun x hx => ?_, h.cl.no, h.cl.ap⟩
    obtain ⟨s, hs, e, hr⟩ := h.cl.rd x hx
    exact ⟨s, hs, e, row_keep hr (fun k q => hk k (.inr (.inr (.inr (.inr ⟨x, hx, q⟩)))))⟩
theorem arep_low {w : World} {p : Nat} {lv : Int} {L : List En} {O : Nat → Prop} {sn : Int} (h : ARep w p lv L O sn) : ∀ k, O k → k < w.heap.size := by
  obtain ⟨sv, bn, bc, es, clock, hx, hO⟩ := h
  intro k hk
  obtain ⟨o, ho, _⟩ := hx.owned ((hO k).1 hk)
  exact ltB ho
theorem arep_keep {w w' : World} {p : Nat} {lv : Int} {L : List En} {O : Nat → Prop} {sn : Int} (h : ARep w p lv L O sn) (hk : ∀ k, O k → w'.heap[k]? = w.heap[k]?) : ARep w' p lv L O sn := by
  obtain ⟨sv, bn, bc, es, clock, hx, hO⟩ := h
  exact ⟨sv, bn, bc, es, clock, hx.kept (fun k q => hk k ((hO k).2 q)), hO⟩
theorem arep_typ {w : World} {p : Nat} {lv : Int} {L : List En} {O : Nat → Prop} {sn : Int} (h : ARep w p lv L O sn) : ∀ k, O k → ∀ cs f, w.heap[k]? ≠ some (.cells cs 45 f) := by
  obtain ⟨sv, bn, bc, es, clock, hx, hO⟩ := h
  intro k hk cs f e
  obtain ⟨o, ho, hn⟩ := hx.owned ((hO k).1 hk)
  rw [ho] at e
  injection e with e
  exact hn cs f e
end Go.Proofs.YtfonpobdnhifgamGreatDoor
namespace Go.Proofs.YtfonpobdnhifgamGreatDoor
open Go Go.RowKit
open Go.Maps (Keyed)
open Go.MapKept (Stamped)
open Go.ChangeMaps (setBlock heap_setBlock_same heap_setBlock_other)

theorem GOf_nil (lv : Int) : GOf lv [] = fun _ => [] := rfl
theorem arep_new {w : World} {lv : Int} (h1 : 0 ≤ lv ∧ lv ≤ 12) : ARep (((w.alloc (.map #[] 0)).alloc (.map #[] 0)).alloc (.cells #[.int .i64 lv, .slice none 0 0, .map (some w.heap.size), .map (some (w.heap.size + 1)), .int .i64 0] 82)) (w.heap.size + 1 + 1) lv [] (fun k => k = w.heap.size + 1 + 1 ∨ k = w.heap.size ∨ k = w.heap.size + 1) 0 := by
  have a3 := alloc_last ((w.alloc (.map #[] 0)).alloc (.map #[] 0)) (.cells #[.int .i64 lv, .slice none 0 0, .map (some w.heap.size), .map (some (w.heap.size + 1)), .int .i64 0] 82)
  rw [World.size_alloc, World.size_alloc] at a3
  have a2 := alloc_last (w.alloc (.map #[] 0)) (.map #[] 0)
  rw [World.size_alloc] at a2
  have a1 := alloc_last w (.map #[] 0)
  refine ⟨.slice none 0 0, w.heap.size, w.heap.size + 1, #[], 0, ⟨h1, a3, ⟨World.ownsRow_nil _ _ _ _⟩, ⟨.map [], ?_, fun s _ => ?_⟩, ?_, by omega, by omega, by omega, fun e h => (by cases h), fun e h => (by cases h)⟩, fun k => ?_⟩
  · have := World.ownsMap_made (H := Unit) w Tryz.prog 9 Go.unitElem
    obtain ⟨es, c, hb, r⟩ := this
    exact ⟨es, c, keepA (keepA hb), r⟩
  · simp [Maps.has]
  · exact ⟨keepA a2, MapKept.stamped_empty 0, fun x hx => (by cases hx), fun _ _ _ => rfl, fun x hx => (by cases hx)⟩
  · unfold ownO
    constructor
    · rintro (h | h | h)
      · exact .inl h
      · exact .inr (.inl h)
      · exact .inr (.inr (.inl h))
    · rintro (h | h | h | h | ⟨x, hx, _⟩)
      · exact .inl h
      · exact .inr (.inl h)
      · exact .inr (.inr h)
      · cases h
      · cases hx
set_option maxRecDepth 100000 in
set_option maxHeartbeats 3200000 in
theorem pnew_any {a : Nat → Addr} {w : World} (hS : Sents w a) (l : Int) : Calls Tryz.prog 23 #[.int .i64 l] w fun e w' => NewPost a ARep w l e w' ∧ Below w.heap.size w w' := by
  have hl := fun u => level_any l u
  have s1 := hS.g1
  have hmm := @run_makeMap Tryz.prog
  have e0 : lvB l = lvlB l := rfl
  by_cases q : lvlB l = true
  case neg =>
    have HN : HeldR (∀ u : World, NewPost a ARep w l (.returned (.tuple #[.pointer none, .iface 224 (.pointer (some (a 1)))])) u) := hideR (fun u => by unfold NewPost; rw [e0, if_neg q])
    rw [Bool.not_eq_true] at q
    rw [q] at hl
    clear e0 q hS
    generalize NewPost a ARep w l = NP at *
    go_enter Tryz.func23, Tryz.ntmps23
    go_wp2_with fail
    refine (hl _).mono ?_
    rintro e u2 ⟨rfl, rfl⟩
    clear hl
    go_wp2_with fail
    go_region
    go_wp2
    go_ret2
    exact ⟨unhideR HN _, drewF (Below.refl _ _)⟩
  have HN : HeldR (NewPost a ARep w l (.returned (.tuple #[.pointer (some ⟨w.heap.size + 1 + 1, 0, none⟩), .nilIface])) (((w.alloc (.map #[] 0)).alloc (.map #[] 0)).alloc (.cells #[.int .i64 l, .slice none 0 0, .map (some w.heap.size), .map (some (w.heap.size + 1)), .int .i64 0] 82))) := hideR (by
    unfold NewPost
    rw [e0, if_pos q]
    refine ⟨_, _, rfl, arep_new (w := w) (of_decide_eq_true q), fun k hk => ?_⟩
    rcases hk with h | h | h <;> omega)
  rw [q] at hl
  clear e0 q hS s1
  generalize NewPost a ARep w l = NP at *
  go_enter Tryz.func23, Tryz.ntmps23
  go_wp2_with fail
  refine (hl _).mono ?_
  rintro e u2 ⟨rfl, rfl⟩
  clear hl
  go_wp2
  go_ret2
  exact ⟨unhideR HN, below_go (below_go (below_a _ _) (below_a _ _)) (below_a _ _)⟩
theorem ARep.slice {w : World} {p : Nat} {lv : Int} {L : List En} {O : Nat → Prop} {sn : Int} (h : ARep w p lv L O sn) : ∃ ad cap bn bc, w.heap[p]? = some (.cells #[.int .i64 lv, .slice ad L.length cap, .map (some bn), .map (some bc), .int .i64 sn] 82) := by
  obtain ⟨sv, bn, bc, es, clock, hx, hO⟩ := h
  obtain ⟨ad, cap, e, _⟩ := hx.st.at
  have := hx.hp
  rw [e] at this
  exact ⟨ad, cap, bn, bc, this⟩
set_option maxRecDepth 100000 in
set_option maxHeartbeats 3200000 in
theorem psize2_any {w : World} {p : Nat} {lv : Int} {L : List En} {O : Nat → Prop} {sn : Int} (h : ARep w p lv L O sn) : Calls Tryz.prog 26 #[.pointer (some ⟨p, 0, none⟩)] w fun r w' => r = .returned (.int .i64 L.length) ∧ w' = w := by
  obtain ⟨ad, cap, bn, bc, hp⟩ := h.slice
  have x1 := (cells_at hp 1 (by simp)).1
  generalize L.length = n at *
  clear h
  go_enter Tryz.func26, Tryz.ntmps26
  go_wp2
  go_ret
  exact ⟨rfl, rfl⟩
set_option maxRecDepth 100000 in
set_option maxHeartbeats 3200000 in
theorem pisName_any (s : ByteArray) (hs : s.size ≤ 9223372036854775807) (w : World) : Calls Tryz.prog 51 #[.string s] w fun e w' => e = .returned (.bool (decide (0 < s.size ∧ s.size ≤ 40))) ∧ w' = w := by
  by_cases q : s = ByteArray.empty
  · subst q
    rw [show decide (0 < ByteArray.empty.size ∧ ByteArray.empty.size ≤ 40) = false from rfl]
    go_enter Tryz.func51, Tryz.ntmps51
    go_wp2
    go_ret
    exact ⟨rfl, rfl⟩
  have h0 : 0 < s.size := by
    rcases Nat.eq_zero_or_pos s.size with h | h
    · exact absurd (ByteArray.ext (Array.eq_empty_of_size_eq_zero h)) q
    · exact h
  have hd : decide (0 < s.size ∧ s.size ≤ 40) = decide ((s.size : Int) ≤ 40) := by
    rw [Bool.eq_iff_iff]
    simp only [decide_eq_true_eq]
    omega
  have hte : s.toList.isEmpty = false := by
    rw [ByteArray.toList_eq]
    cases hq : s.data.toList with
    | nil =>
      have h1 := congrArg List.length hq
      simp at h1
      have h2 : s.size = 0 := by show s.data.size = 0; rw [h1]; rfl
      omega
    | cons x l => rfl
  rw [hd]
  clear hd
  go_enter Tryz.func51, Tryz.ntmps51
  go_wp2
  all_goals go_ret
  all_goals first | exact absurd (by assumption) q | exact ⟨rfl, rfl⟩
/-- is there an entry of that name? -/
def hasN (s : ByteArray) (L : List En) : Bool := decide (∃ e ∈ L, e.nm = s)
theorem zeroU (w : World) : (zeroValue 132).run Tryz.prog w = .ok (.agg #[]) w := by kernel_rfl
theorem lawStr : Keyed Tryz.prog 9 := Maps.string_keyed Tryz.underlying9
theorem NMap.look {w : World} {b : Nat} {L : List En} (h : NMap w b L) (s : ByteArray) (hs : s.size ≤ maxLen) : (Instr.lookup 79 (.map (some b)) (.string s) true).run Tryz.prog w = .ok (.tuple #[.agg #[], .bool (hasN s L)]) w := by
  obtain ⟨D, hD, hh⟩ := h.ex
  obtain ⟨v, ps, hrun, hv⟩ := hD.look_ok lawStr Tryz.underlying79 (zeroU w) (unitElem_mk (H := Unit)) (WideMaps.keyOf_string_mk Tryz.underlying9 hs)
  obtain ⟨rfl, _⟩ := unitElem_inv hv
  rw [hrun, hh s hs]
  rfl
set_option maxRecDepth 100000 in
set_option maxHeartbeats 3200000 in
theorem phas_any {w : World} {p : Nat} {lv : Int} {L : List En} {O : Nat → Prop} {sn : Int} (h : ARep w p lv L O sn) (s : ByteArray) (hs : s.size ≤ 140737488355328) : Calls Tryz.prog 52 #[.pointer (some ⟨p, 0, none⟩), .string s] w fun r w' => r = .returned (.bool (hasN s L)) ∧ Below w.heap.size w w' := by
  obtain ⟨sv, bn, bc, es, clock, hx, hO⟩ := h
  have x2 := (cells_at hx.hp 2 (by simp)).1
  have hlk := hx.nm.look s (by unfold maxLen; omega)
  generalize hasN s L = q at *
  clear hx hO
  go_enter Tryz.func52, Tryz.ntmps52
  go_wp2
  go_ret
  exact ⟨rfl, below_a w _⟩
set_option maxRecDepth 100000 in
set_option maxHeartbeats 3200000 in
theorem pfull_any {w : World} {p : Nat} {lv : Int} {L : List En} {O : Nat → Prop} {sn : Int} (h : ARep w p lv L O sn) : Calls Tryz.prog 53 #[.pointer (some ⟨p, 0, none⟩)] w fun r w' => r = .returned (.bool (decide (4000 ≤ (L.length : Int)))) ∧ w' = w := by
  obtain ⟨ad, cap, bn, bc, hp⟩ := h.slice
  have x1 := (cells_at hp 1 (by simp)).1
  have x3 := (cells_at hp 3 (by simp)).1
  have heq : ∀ u, (binOp .eql 80 (.map (some bc)) (.map none)).run Tryz.prog u = .ok (.bool false) u := fun u => rfl
  generalize L.length = n at *
  clear h hp
  go_enter Tryz.func53, Tryz.ntmps53
  go_wp2
  all_goals go_ret
  all_goals exact ⟨rfl, rfl⟩
end Go.Proofs.YtfonpobdnhifgamGreatDoor
