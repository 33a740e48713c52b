/-
  FROM THE CONDITION ON THE LISTED VARIABLES: a list of sentinels of any length, by one induction ('laid_list'). FROM THE CONDITION ON THE LISTED VARIABLES TO 'Sents'; the handle of 'error'.
-/
import Derived.Test.YtoacdaemhcbbhaaDoorRows
import Derived.Test.YtoacdaemhcbbhaaDoorKitA
import Derived.Stop.LaidErr
import Derived.LaidHandle
import Derived.LaidMore
import Derived.Test.YtoacdaemhcbbhaaDoorSenA
namespace Go.Proofs.YtoacdaemhcbbhaaDoor
open Go.RowKit Go.ChangeShapes

/-- A listed variable that is a sentinel: by the datum's shape and the program's tables. -/
def sentB (P : Program) (ti : TypeId) (nm : String) (x : String × DataW Unit) : Bool :=
  match x.2 with
  | .iface n (.ptr (.agg [.lit (.string _)])) => n == nm && (match P.globalNamed x.1 with | some g => (P.globals[g]?).map (·.type) == some ti | none => false)
  | _ => false

theorem sentB_sound {P : Program} {ti : TypeId} {nm : String} {x : String × DataW Unit} (h : sentB P ti nm x = true) :
    ∃ text g, x.2 = .iface nm (.ptr (.agg [.lit (.string text)])) ∧ P.globalNamed x.1 = some g ∧ (P.globals[g]?).map (·.type) = some ti := by
  unfold sentB at h
  split at h
  · rename_i n text hx
    simp only [Bool.and_eq_true, beq_iff_eq] at h
    obtain ⟨rfl, h2⟩ := h
    split at h2
    · rename_i g hg
      exact ⟨text, g, hx, hg, by simpa using h2⟩
    · cases h2
  · cases h

theorem laid_list {P : Program} {W : World} {nm : String} {ti tp te ts : TypeId} {ms : Array (String × TypeId)} {f : Field}
    (hi : P.underlying ti = some (.interface ms)) (hrow : ∀ u, P.typeName? 3 u = some nm → u = tp)
    (hp : P.underlying tp = some (.pointer te)) (he : P.underlying te = some (.struct #[f])) (hft : f.type = ts) (hfo : f.offset = 0) (hs : P.underlying ts = some .string) (hc : P.cellsOf te = 1) (hcs : P.cellsOf ts = 1) :
    ∀ (L : List (String × DataW Unit)) (ps : List MemPlace), L.all (sentB P ti nm) = true → DataW.LaidVars P W L ps → ps.Nodup →
      (∀ b off, MemPlace.cell b off ∈ ps → (∃ c t, W.heap[b]? = some (.cells c t (0, 0))) ∧ ∀ u v, W.cell? ⟨b, off, none⟩ = some (.iface u v) → Value.okWide P W .any 0 u v) →
      ∃ ads : List Addr, ads.length = L.length ∧ (∀ (i : Nat) x (a : Addr), L[i]? = some x → ads[i]? = some a → W.var? P x.1 = some #[.iface tp (.pointer (some a))] ∧ ∃ c t, W.heap[a.block]? = some (.cells c t (0, 0))) ∧
        (∀ a ∈ ads, MemPlace.cell a.block a.off ∈ ps) ∧ (ads.map fun a => MemPlace.cell a.block a.off).Nodup := by
  intro L
  induction L with
  | nil => intro ps _ _ _ _; exact ⟨[], rfl, by simp, by simp, by simp⟩
  | cons x L ih =>
    intro ps hall hL hnd hrows
    simp only [List.all_cons, Bool.and_eq_true] at hall
    obtain ⟨text, g', hx, hg', ht'⟩ := sentB_sound hall.1
    obtain ⟨n, d⟩ := x
    obtain ⟨g, t, cs, fuel, p, q, hg, ht, hv, hd, hq, rfl⟩ := hL
    simp only at hx hg'
    subst hx
    obtain rfl := Option.some.inj (hg'.symm.trans hg)
    obtain rfl := Option.some.inj (ht'.symm.trans ht)
    obtain ⟨l⟩ := cs
    have ok : ∀ u v, l = [.iface u v] → Value.okWide P W .any 0 u v := fun u v e => by
      subst e
      exact (hrows g' 0 (by simp [MemPlace.row])).2 u v (by simpa using World.var?_cell hg hv 0)
    obtain ⟨a, s, rfl, _, _, _, rfl⟩ := errorString_of_trod hi hrow hp he hft hfo hs hc hcs hd ok
    obtain ⟨ads, hl, hat, hin, hn⟩ := ih q hall.2 hq (List.Nodup.sublist (List.sublist_append_right _ _) hnd) (fun b off hm => hrows b off (List.mem_append_right _ hm))
    refine ⟨a :: ads, by simp [hl], ?_, ?_, ?_⟩
    · intro i y b hy hb
      cases i with
      | zero =>
        simp only [List.getElem?_cons_zero, Option.some.injEq] at hy hb
        subst hy hb
        exact ⟨hv, (hrows a.block a.off (by simp [MemPlace.row])).1⟩
      | succ i => exact hat i y b (by simpa using hy) (by simpa using hb)
    · intro b hb
      rcases List.mem_cons.1 hb with rfl | hb
      · simp [MemPlace.row]
      · exact List.mem_append_right _ (hin b hb)
    · rw [List.map_cons, List.nodup_cons]
      refine ⟨fun hm => ?_, hn⟩
      obtain ⟨b, hb, e⟩ := List.mem_map.1 hm
      have h1 := hin b hb
      rw [e] at h1
      have := (List.nodup_append.1 hnd).2.2 _ (by simp [MemPlace.row] : MemPlace.cell a.block a.off ∈ MemPlace.row ⟨g', 0, none⟩ _ ++ MemPlace.row a 1) _ h1
      exact this rfl

theorem own : ownKnob Tryd.prog.godebug = none := by kernel_rfl
theorem cellsS : Tryd.prog.cellsOf 213 = 1 := by kernel_rfl
theorem cellsStr : Tryd.prog.cellsOf 9 = 1 := by kernel_rfl
theorem rowP (u : TypeId) (hu : Tryd.prog.typeName? 3 u = some ("*" ++ "errors.errorString")) : u = 190 :=
  typeName_ptr_named (by kernel_rfl) (by kernel_rfl) (by decide) u hu
end Go.Proofs.YtoacdaemhcbbhaaDoor
namespace Go.Proofs.YtoacdaemhcbbhaaDoor
open Go.RowKit Go.ChangeShapes

theorem rtypeRow : (Tryd.prog.cutTypes.find? (·.1 == "internal/reflectlite.rtype")).map (·.2) = some 173 := by kernel_rfl
theorem oneRow : ((List.range 229).filter fun t => Tryd.prog.rowNamed t [101, 114, 114, 111, 114]) = [27] := by kernel_rfl
theorem typesSize : Tryd.prog.types.size = 229 := by kernel_rfl
theorem handleIs : typeHandle Tryd.prog 27 = .pointer (some ⟨12, 27, none⟩) := by kernel_rfl

theorem handle_cell {W : World} {n : String} {d : DataW Unit} (hn : Tryd.prog.globalNamed n = some 10) (hf : d.funcsIn? = none) (hname : d.handleName? = some [101, 114, 114, 111, 114]) (h : handlesMet Tryd.prog [(n, d)] W) :
    W.cell? ⟨10, 0, none⟩ = some (.iface 173 (.agg #[.pointer (some ⟨12, 27, none⟩)])) := by
  have h1 := h _ (List.mem_singleton.2 rfl)
  simp only [hf] at h1
  obtain ⟨name, u, ty, e1, e2, e3, e4, e5⟩ := h1
  have en : name = [101, 114, 114, 111, 114] := Option.some.inj (e1.symm.trans hname)
  subst en
  obtain rfl := Option.some.inj (rtypeRow.symm.trans e2)
  have hm : ty ∈ (List.range 229).filter fun t => Tryd.prog.rowNamed t [101, 114, 114, 111, 114] := List.mem_filter.2 ⟨List.mem_range.2 (by rw [← typesSize]; exact e3), e4⟩
  rw [oneRow] at hm
  obtain rfl := List.mem_singleton.1 hm
  rw [handleIs] at e5
  simpa using World.var?_cell hn e5 0

/-- The listed sentinels, in their numbers' order. -/
def errs10 : List (String × DataW Unit) := [("meridian/api.ErrText", Rows.laid_meridian_api_ErrText), ("meridian/api.ErrBound", Rows.laid_meridian_api_ErrBound), ("meridian/api.ErrTime", Rows.laid_meridian_api_ErrTime), ("meridian/api.ErrTable", Rows.laid_meridian_api_ErrTable), ("meridian/api.ErrShape", Rows.laid_meridian_api_ErrShape), ("meridian/api.ErrLimit", Rows.laid_meridian_api_ErrLimit), ("meridian/api.ErrState", Rows.laid_meridian_api_ErrState), ("meridian/api.ErrFile", Rows.laid_meridian_api_ErrFile), ("meridian/api.ErrNone", Rows.laid_meridian_api_ErrNone), ("meridian/api.ErrName", Rows.laid_meridian_api_ErrName)]

theorem sents_of_core {W : World} {ps : List MemPlace} (hL : DataW.LaidVars Tryd.prog W errs10 ps) (hnd : ps.Nodup)
    (hrows : ∀ b off, MemPlace.cell b off ∈ ps → (∃ c t, W.heap[b]? = some (.cells c t (0, 0))) ∧ ∀ u v, W.cell? ⟨b, off, none⟩ = some (.iface u v) → Value.okWide Tryd.prog W .any 0 u v)
    (hH : handlesMet Tryd.prog [("errors.errorType", Rows.laid_errors_errorType)] W) : ∃ a, Sents W a := by
  have het := handle_cell (n := "errors.errorType") (d := Rows.laid_errors_errorType) (by kernel_rfl) rfl rfl hH
  obtain ⟨ads, hlen, hat, hin, hn⟩ := laid_list Tryd.underlying27 rowP Tryd.underlying190 Tryd.underlying213 rfl rfl Tryd.underlying9 cellsS cellsStr _ ps (by kernel_rfl) hL hnd hrows
  have hl10 : ads.length = 10 := hlen
  have hk : ∀ k, k < 10 → ads[k]? = some ((ads[k]?).getD ⟨0, 0, none⟩) := fun k h => by
    rw [List.getElem?_eq_getElem (by omega)]; rfl
  have cell : ∀ {k g : Nat} {x : String × DataW Unit}, errs10[k]? = some x → Tryd.prog.globalNamed x.1 = some g → k < 10 → W.cell? ⟨g, 0, none⟩ = some (.iface 190 (.pointer (some ((ads[k]?).getD ⟨0, 0, none⟩)))) := fun {k g x} hx hg hlt => by
    simpa using World.var?_cell hg (hat k x _ hx (hk k hlt)).1 0
  have sz : ∀ {x : Nat} {v : Value}, W.cell? ⟨x, 0, none⟩ = some v → x < W.heap.size := fun {x v} hx => by
    rcases Nat.lt_or_ge x W.heap.size with l | l
    · exact l
    · simp [World.cell?, Array.getElem?_eq_none l] at hx
  have c0 := cell (k := 0) (g := 4) rfl (by kernel_rfl) (by decide)
  have c1 := cell (k := 1) (g := 0) rfl (by kernel_rfl) (by decide)
  have c2 := cell (k := 2) (g := 5) rfl (by kernel_rfl) (by decide)
  have c3 := cell (k := 3) (g := 6) rfl (by kernel_rfl) (by decide)
  have c4 := cell (k := 4) (g := 2) rfl (by kernel_rfl) (by decide)
  have c5 := cell (k := 5) (g := 7) rfl (by kernel_rfl) (by decide)
  have c6 := cell (k := 6) (g := 3) rfl (by kernel_rfl) (by decide)
  have c7 := cell (k := 7) (g := 8) rfl (by kernel_rfl) (by decide)
  have c8 := cell (k := 8) (g := 9) rfl (by kernel_rfl) (by decide)
  have c9 := cell (k := 9) (g := 1) rfl (by kernel_rfl) (by decide)
  refine ⟨fun k => (ads[k]?).getD ⟨0, 0, none⟩, ⟨c0, c1, c2, c3, c4, c5, c6, c7, c8, c9, het, ?_, ?_, ?_⟩⟩
  · intro k hlt
    obtain ⟨x, hx⟩ : ∃ x, errs10[k]? = some x := ⟨_, List.getElem?_eq_getElem (show k < errs10.length from hlt)⟩
    exact (hat k x _ hx (hk k hlt)).2
  · have lt : ∀ i k, i < k → k < 10 → (ads[i]?).getD ⟨0, 0, none⟩ ≠ (ads[k]?).getD ⟨0, 0, none⟩ := fun i k h1 h2 e => by
      have hi : i < ads.length := by omega
      have hk : k < ads.length := by omega
      rw [List.getElem?_eq_getElem hi, List.getElem?_eq_getElem hk] at e
      have := List.pairwise_iff_getElem.1 hn i k (by simpa using hi) (by simpa using hk) h1
      simp only [List.getElem_map] at this
      simp only [Option.getD_some] at e
      rw [e] at this
      exact this rfl
    intro i k h1 h2 hne
    rcases Nat.lt_or_ge i k with l | l
    · exact lt i k l h2
    · exact (lt k i (by omega) h1).symm
  · have z0 := sz c0
    have z1 := sz c1
    have z2 := sz c2
    have z3 := sz c3
    have z4 := sz c4
    have z5 := sz c5
    have z6 := sz c6
    have z7 := sz c7
    have z8 := sz c8
    have z9 := sz c9
    have ze := sz het
    omega

theorem sents_of_laid {W : World} (h : laidMetH Tryd.prog Rows.nightBestRow.laid W) : ∃ a, Sents W a := by
  have h' : laidMet Tryd.prog errs10 W ∧ handlesMet Tryd.prog [("errors.errorType", Rows.laid_errors_errorType)] W := h
  obtain ⟨⟨ps, hL, hnd, hrows⟩, hH⟩ := h'
  exact sents_of_core hL hnd hrows hH

theorem laid_split {P : Program} {W : World} : ∀ (L R : List (String × DataW Unit)) (ps : List MemPlace), DataW.LaidVars P W (L ++ R) ps → ∃ p q, DataW.LaidVars P W L p ∧ DataW.LaidVars P W R q ∧ ps = p ++ q := by
  intro L
  induction L with
  | nil => intro R ps h; exact ⟨[], ps, rfl, h, rfl⟩
  | cons x L ih =>
    intro R ps h
    obtain ⟨n, d⟩ := x
    obtain ⟨g, t, cs, fuel, p, q, hg, ht, hv, hd, hq, rfl⟩ := h
    obtain ⟨p1, q1, h1, h2, rfl⟩ := ih R q hq
    exact ⟨MemPlace.row ⟨g, 0, none⟩ cs.size ++ p ++ p1, q1, ⟨g, t, cs, fuel, p, p1, hg, ht, hv, hd, h1, rfl⟩, h2, by rw [List.append_assoc, List.append_assoc, List.append_assoc]⟩
end Go.Proofs.YtoacdaemhcbbhaaDoor
