/-
  What the law keeps beside a house, in memory.
-/
import Derived.Test.YtoacdaemhcbbhaaDoorNsN
import Derived.Test.YtoacdaemhcbbhaaDoorCodA
namespace Go.Proofs.YtoacdaemhcbbhaaDoor
open Go Go.RowKit

/-- of blocks of other types nothing is written. -/
structure Ty (e : TypeId) (w w' : World) : Prop where
  size : w.heap.size ≤ w'.heap.size
  keep : ∀ (b : Nat) (cur : Array Value) (t : TypeId), w.heap[b]? = some (.cells cur t (0, 0)) → t ≠ e → w'.heap[b]? = some (.cells cur t (0, 0))
theorem Ty.own {e : TypeId} {w v : World} (k : Ty e w v) {B n s : Nat} {e' : TypeId} {z : Value} {xs : List Value} (h : w.ownsRow B e' s z n xs) (h1 : e' ≠ e) : v.ownsRow B e' s z n xs :=
  row_keep h (fun b hb => by
    obtain ⟨_, cur, hc⟩ := row_block h hb
    rw [hc]
    exact k.keep b cur e' hc h1)
theorem Ty.grown {e : TypeId} {w w' : World} {B n s : Nat} {v : Value} {xs : List Value} (h : w.ownsRow B e s v n xs) (k : w.grownBy w' v.ownBlock) : Ty e w w' := ⟨k.size, fun b cur t hc h1 => by
  rw [k.block b (ltB hc) (fun q => by
    obtain ⟨_, cur2, hc2⟩ := row_block h q.symm
    rw [hc] at hc2
    injection hc2 with hc2
    injection hc2 with _ hc2
    exact h1 hc2)]
  exact hc⟩
theorem InsR.ty {e : TypeId} {w v : World} {B : Nat} {t : Tl} {z : Value} (h : InsR w B t z) (k : Ty e w v) (h1 : 3 ≠ e) (h2 : 69 ≠ e) : InsR v B t z := by
  rcases h with ⟨a1, ad, cap, a2, a3⟩ | ⟨a1, ad, cap, a2, a3⟩ | h | ⟨a1, ad, cap, a2, a3⟩ | h
  · exact .inl ⟨a1, ad, cap, a2, k.own a3 h1⟩
  · exact .inr (.inl ⟨a1, ad, cap, a2, k.own a3 h2⟩)
  · exact .inr (.inr (.inl h))
  · exact .inr (.inr (.inr (.inl ⟨a1, ad, cap, a2, k.own a3 h2⟩)))
  · exact .inr (.inr (.inr (.inr h)))
theorem Hs.ty {e : TypeId} {w v : World} {B hb : Nat} {X : List Fg} (h : Hs w B hb X) (k : Ty e w v) (h1 : 3 ≠ e) (h2 : 69 ≠ e) (h3 : 104 ≠ e) (h4 : 96 ≠ e) : Hs v B hb X := by
  obtain ⟨⟨z, g1, g2⟩, g3, g4, g5⟩ := h
  exact ⟨⟨z, k.keep _ _ _ g1 h4, k.own g2 h3⟩, g3, fun f hf => (g4 f hf).ty k h1 h2, g5⟩
/-- a tool that is small enough. -/
structure TtOk (w : World) (x : TT) : Prop where
  o : x.2.Ok w x.1
  c : x.1.cs.length ≤ 100
  s : x.1.op.length ≤ 30
/-- what the law keeps: names, tools, a house. -/
structure Ls (w : World) (hb : Nat) (F : List TT) (nv fv : Value) (u : World) : Prop where
  nr : u.ownsRow w.heap.size 9 1 nv F.length (F.map fun x => Value.string x.1.nm)
  fr : u.ownsRow w.heap.size 57 7 fv F.length (flatTT F)
  hs : ∃ X, Hs u w.heap.size hb X ∧ Rel X F
  ok : ∀ x ∈ F, TtOk w x ∧ 1 ≤ x.1.kd ∧ x.1.kd ≤ 4
  n : F.length ≤ 12
  bl : Below w.heap.size w u
theorem Ls.below {w u v : World} {hb : Nat} {F : List TT} {nv fv : Value} (h : Ls w hb F nv fv u) (k : Below u.heap.size u v) : Ls w hb F nv fv v := by
  obtain ⟨h1, h2, ⟨X, h3, h4⟩, h5, h6, h7⟩ := h
  exact ⟨own_below2 h1 k, own_below2 h2 k, ⟨X, h3.below k, h4⟩, h5, h6, below_go h7 k⟩
theorem infoStr : (Tryd.prog.info? 9).map (fun i => (i.zero, i.size, i.bytes)) = some (some (.string ByteArray.empty), 1, 16) := by kernel_rfl
theorem eT_cases (F : List TT) (t : Tl) : eT F t = 0 ∨ eT F t = 2 ∨ eT F t = 5 ∨ eT F t = 10 := by
  unfold eT
  split
  · exact .inr (.inr (.inr rfl))
  · split
    · exact .inr (.inr (.inr rfl))
    · split
      · exact .inr (.inr (.inl rfl))
      · split
        · exact .inr (.inl rfl)
        · exact .inl rfl
theorem eT_zero {F : List TT} {t : Tl} (h : eT F t = 0) (h12 : F.length ≤ 12) : (1 ≤ t.kd ∧ t.kd ≤ 4) ∧ F.length < 12 := by
  unfold eT at h
  split at h
  · cases h
  · split at h
    · cases h
    · split at h
      · cases h
      · split at h
        · cases h
        · omega
/-- what the law's e is, step by step. -/
def e0T (F : List TT) : Int := if F.length = 12 then 2 else 0
def e1T (F : List TT) (t : Tl) : Int := if t.kd < 1 ∨ 4 < t.kd then 5 else e0T F
def e2T (F : List TT) (t : Tl) : Nat → Int
  | 0 => e1T F t
  | k + 1 => if eqN (F.getD k tt0).1.nm t.nm = true then 10 else e2T F t k
theorem e2T_is (F : List TT) (t : Tl) : ∀ k, e2T F t k = if ∃ j, j < k ∧ eqN (F.getD j tt0).1.nm t.nm = true then 10 else e1T F t
  | 0 => by rw [if_neg (fun ⟨j, h, _⟩ => absurd h (Nat.not_lt_zero j))]; rfl
  | k + 1 => by
    show (if eqN (F.getD k tt0).1.nm t.nm = true then 10 else e2T F t k) = _
    by_cases q : eqN (F.getD k tt0).1.nm t.nm = true
    · rw [if_pos q, if_pos ⟨k, by omega, q⟩]
    · rw [if_neg q, e2T_is F t k]
      by_cases q2 : ∃ j, j < k ∧ eqN (F.getD j tt0).1.nm t.nm = true
      · obtain ⟨j, hj, h⟩ := q2
        rw [if_pos ⟨j, hj, h⟩, if_pos ⟨j, by omega, h⟩]
      · rw [if_neg q2, if_neg (fun ⟨j, hj, h⟩ => by
          by_cases e : j = k
          · subst e; exact q h
          · exact q2 ⟨j, by omega, h⟩)]
theorem eT_is (F : List TT) (t : Tl) : eT F t = if t.nm.toList.isEmpty = true then 10 else e2T F t F.length := by
  rw [e2T_is]
  rfl
/-- names in a row. -/
theorem nm_cells {w : World} {B : Nat} {v : Value} {F : List TT} (h : w.ownsRow B 9 1 v F.length (F.map fun x => Value.string x.1.nm)) : ∃ ad cap, v = .slice ad F.length cap ∧ ∀ k, k < F.length → ∃ b, ad = some ⟨b, 0, none⟩ ∧ b < w.heap.size ∧ w.cell? ⟨b, k, none⟩ = some (.string (F.getD k tt0).1.nm) := by
  rcases h.2 with ⟨h1, h2⟩ | ⟨g, cap, cur, e, hB, hg, hc, _, hs, ht⟩
  · exact ⟨none, 0, by rw [h1, h2], fun k hk => by omega⟩
  · refine ⟨_, cap, e, fun k hk => ⟨g, rfl, ltB hg, ?_⟩⟩
    have q : (F.map fun x => Value.string x.1.nm)[k]? = some (.string (F.getD k tt0).1.nm) := by
      rw [List.getElem?_map, List.getD_eq_getElem?_getD, List.getElem?_eq_getElem hk]
      rfl
    rw [← ht, List.getElem?_take, if_pos (by omega)] at q
    simp only [World.cell?, hg]
    simpa using q
theorem Ls.after {w u u' : World} {hb : Nat} {F : List TT} {X : List Fg} {nv fv : Value} (h : Ls w hb F nv fv u) (k : Kf u u') (b : Below w.heap.size u u') (hs : Hs u' w.heap.size hb X) (r : Rel X F) : Ls w hb F nv fv u' :=
  ⟨k.own h.nr (by decide) (by decide), k.own h.fr (by decide) (by decide), ⟨X, hs, r⟩, h.ok, h.n, h.bl.trans b⟩
/-- one tool more. -/
theorem Ls.push {w u ua w1 ub w2 : World} {hb : Nat} {F : List TT} {X : List Fg} {x : TT} {nv fv v1 v2 : Value}
    (hn : u.ownsRow w.heap.size 9 1 nv F.length (F.map fun x => Value.string x.1.nm)) (hf : u.ownsRow w.heap.size 57 7 fv F.length (flatTT F)) (hs : Hs u w.heap.size hb X) (hr : Rel X (F ++ [x])) (hok : ∀ y ∈ F, TtOk w y ∧ 1 ≤ y.1.kd ∧ y.1.kd ≤ 4) (hx : TtOk w x ∧ 1 ≤ x.1.kd ∧ x.1.kd ≤ 4) (h12 : F.length < 12) (hb0 : Below w.heap.size w u)
    (ka : Below u.heap.size u ua) (g1 : ua.grownBy w1 nv.ownBlock) (o1 : w1.ownsRow w.heap.size 9 1 v1 (F.length + 1) ((F.map fun x => Value.string x.1.nm) ++ [.string x.1.nm]))
    (kb : Below w1.heap.size w1 ub) (g2 : ub.grownBy w2 fv.ownBlock) (o2 : w2.ownsRow w.heap.size 57 7 v2 (F.length + 1) (flatTT F ++ vT x)) : Ls w hb (F ++ [x]) v1 v2 w2 := by
  have y1 : Ty 9 ua w1 := Ty.grown (own_below2 hn ka) g1
  have f1 : w1.ownsRow w.heap.size 57 7 fv F.length (flatTT F) := y1.own (own_below2 hf ka) (by decide)
  have s1 : Hs w1 w.heap.size hb X := (hs.below ka).ty y1 (by decide) (by decide) (by decide) (by decide)
  have y2 : Ty 57 ub w2 := Ty.grown (own_below2 f1 kb) g2
  have b1 : Below w.heap.size w w1 := (below_go hb0 ka).grown g1 (below_go hb0 ka).size (fun k e => (row_block hn e).1)
  refine ⟨?_, ?_, ⟨X, (s1.below kb).ty y2 (by decide) (by decide) (by decide) (by decide), hr⟩, fun y hy => ?_, by rw [List.length_append]; simp; omega, (below_go b1 kb).grown g2 (below_go b1 kb).size (fun k e => (row_block hf e).1)⟩
  · rw [List.length_append, List.map_append]
    exact y2.own (own_below2 o1 kb) (by decide)
  · rw [List.length_append, flatTT_append]
    have e1 : flatTT [x] = vT x := List.append_nil _
    rw [e1]
    exact o2
  · rcases List.mem_append.1 hy with q | q
    · exact hok y q
    · rw [List.mem_singleton] at q
      subst q
      exact hx
theorem Rel.all {X : List Fg} {F : List TT} (h : Rel X F) {P : Tl → Prop} (hF : ∀ x ∈ F, P x.1) : ∀ f ∈ X, P f.t := fun f hf => by
  obtain ⟨x, hx, e⟩ := List.mem_map.1 (h.mem_iff.1 (List.mem_map.2 ⟨f, hf, rfl⟩))
  rw [← e]
  exact hF x hx
theorem fg_ok {w : World} {X : List Fg} {F : List TT} (h : Rel X F) (hn : F.length ≤ 12) (ho : ∀ x ∈ F, TtOk w x ∧ 1 ≤ x.1.kd ∧ x.1.kd ≤ 4) : FgOk X :=
  ⟨by rw [h.len]; exact hn, h.all (P := fun t => 1 ≤ t.kd ∧ t.kd ≤ 4) (fun x hx => (ho x hx).2), h.all (P := fun t => t.cs.length ≤ 4000) (fun x hx => by have := (ho x hx).1.c; omega), h.all (P := fun t => t.op.length ≤ 4000) (fun x hx => by have := (ho x hx).1.s; omega)⟩
theorem anyT_next {F : List TT} {k : Nat} (h : k < F.length) (q : TT → Bool) : (F.take (k + 1)).any q = ((F.take k).any q || q (F.getD k tt0)) := by
  rw [Tttake h, List.any_append]
  simp
theorem way_two {t : Tl} {x : Int} (h : t.kd = 2) : wayV t x = !inV t.op x := by unfold wayV; rw [h, opV_is]; simp
theorem way_one {t : Tl} {x : Int} (h : t.kd = 1) : wayV t x = false := by unfold wayV; rw [h]; rfl
theorem way_three {t : Tl} {x : Int} (h : t.kd = 3) : wayV t x = decide (t.al ≤ 0) := by
  unfold wayV
  rw [h]
  by_cases q : 0 < t.al
  · rw [decide_eq_true q, decide_eq_false (show ¬ t.al ≤ 0 by omega)]; simp
  · rw [decide_eq_false q, decide_eq_true (show t.al ≤ 0 by omega)]; simp
theorem way_four {t : Tl} {x : Int} (h : t.kd = 4) : wayV t x = (!inV t.op x || decide (t.al ≤ 0)) := by
  unfold wayV
  rw [h, opV_is]
  by_cases q : 0 < t.al
  · rw [decide_eq_true q, decide_eq_false (show ¬ t.al ≤ 0 by omega)]; simp
  · rw [decide_eq_false q, decide_eq_true (show t.al ≤ 0 by omega)]; simp
theorem shL_mem {F : List TT} {x : TT} (h : x ∈ shL F) : x ∈ F := (List.mem_filter.1 ((shL_perm F).mem_iff.1 h)).1
theorem cam_at {X : List Fg} {F : List TT} (h : (shL F).map (·.1) = camL X) {k : Nat} (hk : k < (shL F).length) : (camL X).getD k tl0 = ((shL F).getD k tt0).1 := by
  rw [← h, List.getD_eq_getElem?_getD, List.getElem?_map, List.getD_eq_getElem?_getD, List.getElem?_eq_getElem hk]
  rfl
theorem lt_cell {w : World} {b o : Nat} {v : Value} (h : w.cell? ⟨b, o, none⟩ = some v) : b < w.heap.size := by
  rcases Nat.lt_or_ge b w.heap.size with k | k
  · exact k
  · simp [World.cell?, Array.getElem?_eq_none k] at h
end Go.Proofs.YtoacdaemhcbbhaaDoor
