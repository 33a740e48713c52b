/-
  The document's degrees and hours of a text, by their contracts.
-/
import Derived.Test.YtfifbcoedfdnjabDoorScanP
import Derived.BigRegion
namespace Go.Proofs.YtfifbcoedfdnjabDoor
open Go.RowKit Go.Lib

theorem Runs.one {s : ByteArray} {L : List Int} (h : Runs s L) : ∀ {M : List Int}, Runs s M → L = M := by
  induction h with
  | done h => intro M hM; cases hM with
    | done => rfl
    | more h' => omega
  | more h t ih => intro M hM; cases hM with
    | done h' => omega
    | more h' t' => rw [ih t']

theorem new_cellS {w : World} {m i : Nat} {c : Array Value} {t : TypeId} (h : m = w.heap.size) : (w.alloc (.cells c t)).cell? ⟨m, i, none⟩ = c[i]? := by
  rw [World.cell?_alloc_at _ _ _ _ h]
theorem sc_new {w v1 : World} {v : Value} {O : List Int} {base : Nat} (hown : w.ownsRow base 3 1 v O.length (O.map (Value.int .i64))) (hl : O.length ≤ 1000000) (e : v1 = w.alloc (.cells #[v, .int .i64 0, .int .i64 (-1)] 56)) : Sc w.heap.size O 0 (-1) v1 := by
  subst e
  have c0 : (w.alloc (.cells #[v, .int .i64 0, .int .i64 (-1)] 56)).cell? ⟨w.heap.size, 0, none⟩ = some v := new_cellS rfl
  refine ⟨?_, new_cellS rfl, new_cellS rfl, World.frozen?_alloc_new _ _ _ _, World.frozen?_alloc_new _ _ _ _, by simp, by omega, hl⟩
  rcases hown.2 with ⟨h1, h2⟩ | ⟨lb, cap, cur, h1, _, h3, _⟩
  · subst h1
    exact ⟨none, 0, by rw [c0, h2], fun i hi => by omega⟩
  · subst h1
    have hlt : lb < w.heap.size := (hown.lt lb rfl).2
    refine ⟨some ⟨lb, 0, none⟩, cap, c0, fun i hi => ⟨lb, rfl, hlt, ?_⟩⟩
    rw [World.cell?_alloc_lt _ _ _ (show (⟨lb, i, none⟩ : Addr).block < _ from hlt), hown.cellAt i (by omega), List.getElem?_map, List.getElem?_eq_getElem hi, List.getD_eq_getElem?_getD, List.getElem?_eq_getElem hi]
    rfl

/-- the document's degrees from place a on. -/
def degD (O : List Int) (a : Nat) : Int × Int :=
  rest3 O 8242 8243 (a + (digs 6 0 (O.drop a)).2.1 + 1) (needB O 176 (a + (digs 6 0 (O.drop a)).2.1) (lackB (-1) (digs 6 0 (O.drop a)).2.1 1 (a + (digs 6 0 (O.drop a)).2.1)))
def degV (O : List Int) (a : Nat) : Int := (digs 6 0 (O.drop a)).1 * 3600 * 1000000 + (degD O a).1

def Doc (r : Got) (q : Int × Int) : Prop :=
  match r with
  | .bad p => q.2 = p
  | .got x _ _ => q = (x, -1)

theorem deg_rel (O : List Int) (mn : Bool) (a : Nat) : Doc (degP mn (O.drop a) a) (if mn then degV O a * -1 else degV O a * 1, (degD O a).2) := by
  unfold degP numP degV degD
  by_cases hk : (digs 6 0 (O.drop a)).2.1 = 0
  · rw [if_pos hk, hk]
    have : lackB (-1) 0 1 (a + 0) = ((a : Nat) : Int) := by unfold lackB; rw [if_pos (by omega), fb_new]; rfl
    rw [this, needB_keep]
    exact rest_keep _ _ _ _ _
  · rw [if_neg hk]
    have hl : lackB (-1) (digs 6 0 (O.drop a)).2.1 1 (a + (digs 6 0 (O.drop a)).2.1) = -1 := by unfold lackB; rw [if_neg (by omega)]
    rw [hl]
    simp only
    rw [digs_rest, List.drop_drop, needP_see O 176 (by omega)]
    generalize (digs 6 0 (O.drop a)).1 = d
    generalize a + (digs 6 0 (O.drop a)).2.1 = a1
    unfold needB
    by_cases hn : seeAt O a1 = 176
    · rw [if_pos hn, if_pos hn]
      simp only
      have hr := rest_rel O 8242 8243 (by omega) (by omega) (a1 + 1)
      rcases hq : sixP 8242 8243 (O.drop (a1 + 1)) (a1 + 1) with p | ⟨y, M, j⟩
      · rw [hq] at hr; exact hr
      · rw [hq] at hr
        have hr' : rest3 O 8242 8243 (a1 + 1) (-1) = (0 + y, -1) := hr
        show _ = _
        rw [hr']
        simp only
        refine Prod.ext ?_ rfl
        simp only
        split <;> omega
    · rw [if_neg hn, if_neg hn, fb_new]
      exact rest_keep _ _ _ _ _

theorem degreesP_see (O : List Int) : degreesP O = if seeAt O 0 = 45 then degP true (O.drop 1) 1 else if seeAt O 0 = 43 then degP false (O.drop 1) 1 else degP false (O.drop 0) 0 := by
  cases O with
  | nil => rfl
  | cons x O => rfl

theorem rest_bound {O : List Int} {m s : Int} {a : Nat} {b : Int} : 0 ≤ (rest3 O m s a b).1 ∧ (rest3 O m s a b).1 < 7000000000 := by
  have mb : ∀ (n : Int) (a : Nat) (b : Int), n ≤ (mid3 O s n a b).1 ∧ (mid3 O s n a b).1 < n + 1000000 := fun n a b => by
    unfold mid3 fin3
    have hb := digs6_bound (O.drop (a + 1))
    have hp := pad_bound (digs 6 0 (O.drop (a + 1))).1 (digs 6 0 (O.drop (a + 1))).2.1 (6 - (digs 6 0 (O.drop (a + 1))).2.1) hb.1 hb.2.1 (by omega)
    split
    · simp only; unfold pad; omega
    · simp only; omega
  have sb : ∀ (n : Int) (a : Nat) (b : Int), n ≤ (sec3 O s n a b).1 ∧ (sec3 O s n a b).1 < n + 101000000 := fun n a b => by
    unfold sec3
    have hb := digs2_bound (O.drop a)
    split
    · simp only; omega
    · have := mb (n + (digs 2 0 (O.drop a)).1 * 1000000) (a + (digs 2 0 (O.drop a)).2.1) (overB (lackB b (digs 2 0 (O.drop a)).2.1 2 (a + (digs 2 0 (O.drop a)).2.1)) (digs 2 0 (O.drop a)).1 a)
      omega
  unfold rest3
  have hb := digs2_bound (O.drop a)
  split
  · simp only; omega
  · have := sb ((digs 2 0 (O.drop a)).1 * 60 * 1000000) (a + (digs 2 0 (O.drop a)).2.1 + 1) (needB O m (a + (digs 2 0 (O.drop a)).2.1) (overB (lackB b (digs 2 0 (O.drop a)).2.1 2 (a + (digs 2 0 (O.drop a)).2.1)) (digs 2 0 (O.drop a)).1 a))
    omega
end Go.Proofs.YtfifbcoedfdnjabDoor
