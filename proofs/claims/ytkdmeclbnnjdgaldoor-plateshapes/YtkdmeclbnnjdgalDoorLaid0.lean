/-
  FROM THE CONDITION ON THE LISTED VARIABLES: a list of sentinels of any length, by one induction ('laid_list').
-/
import Derived.Test.YtkdmeclbnnjdgalDoorRows
import Derived.Test.YtkdmeclbnnjdgalDoorKitA
import Derived.Stop.LaidErr
import Derived.LaidHandle
import Derived.LaidMore
namespace Go.Proofs.YtkdmeclbnnjdgalDoor
open Go.RowKit Go.ChangeShapes

/-- A listed variable that is a sentinel: by the datum's shape and the program's tables. -/
def sentB (P : Program) (ti : TypeId) (nm : String) (x : String × DataW Unit) : Bool :=
  match x.2 with
  | .iface n (.ptr (.agg [.lit (.string _)])) => n == nm && (match P.globalNamed x.1 with | some g => (P.globals[g]?).map (·.type) == some ti | none => false)
  | _ => false

theorem sentB_sound {P : Program} {ti : TypeId} {nm : String} {x : String × DataW Unit} (h : sentB P ti nm x = true) :
    ∃ text g, x.2 = .iface nm (.ptr (.agg [.lit (.string text)])) ∧ P.globalNamed x.1 = some g ∧ (P.globals[g]?).map (·.type) = some ti := by
  unfold sentB at h
  split at h
  · rename_i n text hx
    simp only [Bool.and_eq_true, beq_iff_eq] at h
    obtain ⟨rfl, h2⟩ := h
    split at h2
    · rename_i g hg
      exact ⟨text, g, hx, hg, by simpa using h2⟩
    · cases h2
  · cases h

theorem laid_list {P : Program} {W : World} {nm : String} {ti tp te ts : TypeId} {ms : Array (String × TypeId)} {f : Field}
    (hi : P.underlying ti = some (.interface ms)) (hrow : ∀ u, P.typeName? 3 u = some nm → u = tp)
    (hp : P.underlying tp = some (.pointer te)) (he : P.underlying te = some (.struct #[f])) (hft : f.type = ts) (hfo : f.offset = 0) (hs : P.underlying ts = some .string) (hc : P.cellsOf te = 1) (hcs : P.cellsOf ts = 1) :
    ∀ (L : List (String × DataW Unit)) (ps : List MemPlace), L.all (sentB P ti nm) = true → DataW.LaidVars P W L ps → ps.Nodup →
      (∀ b off, MemPlace.cell b off ∈ ps → (∃ c t, W.heap[b]? = some (.cells c t (0, 0))) ∧ ∀ u v, W.cell? ⟨b, off, none⟩ = some (.iface u v) → Value.okWide P W .any 0 u v) →
      ∃ ads : List Addr, ads.length = L.length ∧ (∀ (i : Nat) x (a : Addr), L[i]? = some x → ads[i]? = some a → W.var? P x.1 = some #[.iface tp (.pointer (some a))] ∧ ∃ c t, W.heap[a.block]? = some (.cells c t (0, 0))) ∧
        (∀ a ∈ ads, MemPlace.cell a.block a.off ∈ ps) ∧ (ads.map fun a => MemPlace.cell a.block a.off).Nodup := by
  intro L
  induction L with
  | nil => intro ps _ _ _ _; exact ⟨[], rfl, by simp, by simp, by simp⟩
  | cons x L ih =>
    intro ps hall hL hnd hrows
    simp only [List.all_cons, Bool.and_eq_true] at hall
    obtain ⟨text, g', hx, hg', ht'⟩ := sentB_sound hall.1
    obtain ⟨n, d⟩ := x
    obtain ⟨g, t, cs, fuel, p, q, hg, ht, hv, hd, hq, rfl⟩ := hL
    simp only at hx hg'
    subst hx
    obtain rfl := Option.some.inj (hg'.symm.trans hg)
    obtain rfl := Option.some.inj (ht'.symm.trans ht)
    obtain ⟨l⟩ := cs
    have ok : ∀ u v, l = [.iface u v] → Value.okWide P W .any 0 u v := fun u v e => by
      subst e
      exact (hrows g' 0 (by simp [MemPlace.row])).2 u v (by simpa using World.var?_cell hg hv 0)
    obtain ⟨a, s, rfl, _, _, _, rfl⟩ := errorString_of_trod hi hrow hp he hft hfo hs hc hcs hd ok
    obtain ⟨ads, hl, hat, hin, hn⟩ := ih q hall.2 hq (List.Nodup.sublist (List.sublist_append_right _ _) hnd) (fun b off hm => hrows b off (List.mem_append_right _ hm))
    refine ⟨a :: ads, by simp [hl], ?_, ?_, ?_⟩
    · intro i y b hy hb
      cases i with
      | zero =>
        simp only [List.getElem?_cons_zero, Option.some.injEq] at hy hb
        subst hy hb
        exact ⟨hv, (hrows a.block a.off (by simp [MemPlace.row])).1⟩
      | succ i => exact hat i y b (by simpa using hy) (by simpa using hb)
    · intro b hb
      rcases List.mem_cons.1 hb with rfl | hb
      · simp [MemPlace.row]
      · exact List.mem_append_right _ (hin b hb)
    · rw [List.map_cons, List.nodup_cons]
      refine ⟨fun hm => ?_, hn⟩
      obtain ⟨b, hb, e⟩ := List.mem_map.1 hm
      have h1 := hin b hb
      rw [e] at h1
      have := (List.nodup_append.1 hnd).2.2 _ (by simp [MemPlace.row] : MemPlace.cell a.block a.off ∈ MemPlace.row ⟨g', 0, none⟩ _ ++ MemPlace.row a 1) _ h1
      exact this rfl

theorem own : ownKnob Tryd.prog.godebug = none := by kernel_rfl
theorem cellsS : Tryd.prog.cellsOf 229 = 1 := by kernel_rfl
theorem cellsStr : Tryd.prog.cellsOf 9 = 1 := by kernel_rfl
theorem rowP (u : TypeId) (hu : Tryd.prog.typeName? 3 u = some ("*" ++ "errors.errorString")) : u = 207 :=
  typeName_ptr_named (by kernel_rfl) (by kernel_rfl) (by decide) u hu
end Go.Proofs.YtkdmeclbnnjdgalDoor
