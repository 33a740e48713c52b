/-
  Parts by spreading a number from a pixel to all that touch it: what is so while it goes on. Nothing of the program.
-/
import Derived.Test.YtgmaganajfcpbaiDoorSpL
namespace Go.Proofs.YtgmaganajfcpbaiDoor

/-- pixels up to i have been looked at: the parts that begin there have their numbers. -/
structure NumTo (L : List Bool) (W i : Nat) (v : List Int) (p : Nat) : Prop where
  len : v.length = L.length
  dark : ∀ k, litB L k = false → v.getD k 0 = 0
  low : ∀ k, 0 ≤ v.getD k 0
  high : ∀ k, v.getD k 0 ≤ p
  yes : ∀ k j, j < i → Conn L W k j → v.getD k 0 ≠ 0
  no : ∀ k, litB L k = true → v.getD k 0 ≠ 0 → ∃ j, j < i ∧ Conn L W k j
  part : ∀ k j, litB L k = true → litB L j = true → v.getD k 0 ≠ 0 → v.getD j 0 ≠ 0 → (v.getD k 0 = v.getD j 0 ↔ Conn L W k j)
  first : ∀ k (a : Int), litB L k = true → 1 ≤ a → a < v.getD k 0 → ∃ j, j < k ∧ litB L j = true ∧ v.getD j 0 = a
  has : ∀ a : Int, 1 ≤ a → a ≤ p → ∃ j, j < i ∧ litB L j = true ∧ v.getD j 0 = a
theorem zero_at (n k : Nat) : (List.replicate n (0 : Int)).getD k 0 = 0 := by
  simp only [List.getD_eq_getElem?_getD, List.getElem?_replicate]
  by_cases h : k < n
  · rw [if_pos h]; rfl
  · rw [if_neg h]; rfl
section
variable {L : List Bool} {W : Nat}
theorem num0 : NumTo L W 0 (List.replicate L.length 0) 0 := by
  refine ⟨by simp, fun k _ => zero_at _ k, fun k => ?_, fun k => ?_, fun k j h _ => by omega, fun k _ h => absurd (zero_at _ k) h, fun k j _ _ h _ => absurd (zero_at _ k) h, fun k a _ h1 h2 => ?_, fun a h1 h2 => by omega⟩
  · rw [zero_at]; exact Int.le_refl _
  · rw [zero_at]; exact Int.le_refl _
  · rw [zero_at] at h2; omega
theorem NumTo.skip {i p : Nat} {v : List Int} (h : NumTo L W i v p) (hi : litB L i = false ∨ v.getD i 0 ≠ 0) : NumTo L W (i + 1) v p := by
  refine ⟨h.len, h.dark, h.low, h.high, fun k j hj c => ?_, fun k l q => ?_, h.part, h.first, fun a h1 h2 => ?_⟩
  · by_cases e : j = i
    · subst e
      rcases hi with hi | hi
      · rw [c.lit2] at hi; cases hi
      · obtain ⟨t, ht, ct⟩ := h.no j c.lit2 hi
        exact h.yes k t ht (c.trans ct)
    · exact h.yes k j (by omega) c
  · obtain ⟨j, hj, c⟩ := h.no k l q
    exact ⟨j, by omega, c⟩
  · obtain ⟨j, hj, e⟩ := h.has a h1 h2
    exact ⟨j, by omega, e⟩
/-- a part has had its number. -/
structure Spread (L : List Bool) (W i : Nat) (num : Int) (C D : List Int) : Prop where
  len : D.length = C.length
  yes : ∀ k, Conn L W i k → D.getD k 0 = num
  no : ∀ k, ¬ Conn L W i k → D.getD k 0 = C.getD k 0
theorem NumTo.more {i p : Nat} {C D : List Int} (h : NumTo L W i C p) (hi : litB L i = true) (h0 : C.getD i 0 = 0) (s : Spread L W i ((p : Int) + 1) C D) : NumTo L W (i + 1) D (p + 1) := by
  have fresh : ∀ k, Conn L W i k → C.getD k 0 = 0 := fun k c => by
    refine Decidable.byContradiction (fun q => ?_)
    obtain ⟨j, hj, cj⟩ := h.no k c.lit2 q
    exact h.yes i j hj (c.trans cj) h0
  have ahead : ∀ k, Conn L W i k → i ≤ k := fun k c => by
    refine Decidable.byContradiction (fun q => ?_)
    exact h.yes i k (by omega) c h0
  have cc : ∀ k, Conn L W i k ∨ ¬ Conn L W i k := fun k => Classical.em _
  refine ⟨s.len.trans h.len, fun k hk => ?_, fun k => ?_, fun k => ?_, fun k j hj c => ?_, fun k l q => ?_, fun k j lk lj qk qj => ?_, fun k a l h1 h2 => ?_, fun a h1 h2 => ?_⟩
  · rw [s.no k (fun c => by rw [c.lit2] at hk; cases hk)]
    exact h.dark k hk
  · rcases cc k with c | c
    · rw [s.yes k c]; omega
    · rw [s.no k c]; exact h.low k
  · rcases cc k with c | c
    · rw [s.yes k c]; omega
    · rw [s.no k c]; have := h.high k; omega
  · rcases cc k with d | d
    · rw [s.yes k d]; omega
    · rw [s.no k d]
      by_cases e : j = i
      · subst e; exact absurd c.symm d
      · exact h.yes k j (by omega) c
  · rcases cc k with d | d
    · exact ⟨i, by omega, d.symm⟩
    · rw [s.no k d] at q
      obtain ⟨j, hj, c⟩ := h.no k l q
      exact ⟨j, by omega, c⟩
  · rcases cc k with d | d
    · rcases cc j with f | f
      · rw [s.yes k d, s.yes j f]
        exact ⟨fun _ => d.symm.trans f, fun _ => rfl⟩
      · rw [s.yes k d, s.no j f]
        constructor
        · intro e
          have := h.high j
          omega
        · intro c
          exact absurd (d.trans c) f
    · rcases cc j with f | f
      · rw [s.no k d, s.yes j f]
        constructor
        · intro e
          have := h.high k
          omega
        · intro c
          exact absurd (f.trans c.symm) d
      · rw [s.no k d] at qk ⊢
        rw [s.no j f] at qj ⊢
        exact h.part k j lk lj qk qj
  · rcases cc k with d | d
    · rw [s.yes k d] at h2
      obtain ⟨j, hj, lj, ej⟩ := h.has a h1 (by omega)
      refine ⟨j, by have := ahead k d; omega, lj, ?_⟩
      rw [s.no j (fun c => by have := ahead j c; omega)]
      exact ej
    · rw [s.no k d] at h2
      obtain ⟨j, hj, lj, ej⟩ := h.first k a l h1 h2
      refine ⟨j, hj, lj, ?_⟩
      rw [s.no j (fun c => by rw [fresh j c] at ej; omega)]
      exact ej
  · by_cases e : a = (p : Int) + 1
    · exact ⟨i, by omega, hi, by rw [s.yes i (.one hi), e]⟩
    · obtain ⟨j, hj, lj, ej⟩ := h.has a h1 (by omega)
      refine ⟨j, by omega, lj, ?_⟩
      rw [s.no j (fun c => by rw [fresh j c] at ej; omega)]
      exact ej
theorem NumTo.done {i p : Nat} {v : List Int} (h : NumTo L W i v p) (hi : i = L.length) : IsLabels L W v p := by
  have nz : ∀ k, litB L k = true → v.getD k 0 ≠ 0 := fun k l => h.yes k k (by rw [hi]; exact lit_lt l) (.one l)
  refine ⟨h.len, h.dark, fun k l => ?_, fun k _ => h.high k, fun k j lk lj => h.part k j lk lj (nz k lk) (nz j lj), h.first, ?_⟩
  · have := nz k l
    have := h.low k
    omega
  · by_cases e : p = 0
    · exact .inl e
    · obtain ⟨j, _, lj, ej⟩ := h.has p (by omega) (Int.le_refl _)
      exact .inr ⟨j, lj, ej⟩
/-! while a number is spread -/
/-- S wait; c is at its turn (none is where c is no pixel). -/
structure Spr (L : List Bool) (W i : Nat) (num : Int) (C D : List Int) (S : List Nat) (c : Nat) : Prop where
  len : D.length = C.length
  is : ∀ k, D.getD k 0 = C.getD k 0 ∨ (Conn L W i k ∧ D.getD k 0 = num)
  at_ : D.getD i 0 = num
  wait : ∀ s ∈ S, Conn L W i s ∧ D.getD s 0 = num
  cur : c < L.length → Conn L W i c ∧ D.getD c 0 = num
  shut : ∀ j k, Conn L W i j → D.getD j 0 = num → j ∉ S → j ≠ c → Adj W j k → litB L k = true → D.getD k 0 = num
theorem spr0 {i : Nat} {num : Int} {C : List Int} (hl : C.length = L.length) (hi : litB L i = true) (h0 : ∀ k, Conn L W i k → C.getD k 0 = 0) (hn : num ≠ 0) : Spr L W i num C (C.set i num) [i] L.length := by
  have hil : i < C.length := by rw [hl]; exact lit_lt hi
  refine ⟨by simp, fun k => ?_, by rw [getD_setI hil, if_pos rfl], fun s hs => ?_, fun q => absurd q (Nat.lt_irrefl _), fun j k cj ej nj _ _ _ => ?_⟩
  · rw [getD_setI hil]
    by_cases e : i = k
    · subst e; rw [if_pos rfl]; exact .inr ⟨.one hi, rfl⟩
    · rw [if_neg e]; exact .inl rfl
  · rw [List.mem_singleton.1 hs]
    exact ⟨.one hi, by rw [getD_setI hil, if_pos rfl]⟩
  · exfalso
    rw [getD_setI hil] at ej
    by_cases e : i = j
    · subst e; exact nj (List.mem_singleton.2 rfl)
    · rw [if_neg e, h0 j cj] at ej
      exact hn ej.symm
theorem Spr.pop {i c : Nat} {num : Int} {C D : List Int} {S : List Nat} (h : Spr L W i num C D (S ++ [c]) L.length) : Spr L W i num C D S c :=
  ⟨h.len, h.is, h.at_, fun s hs => h.wait s (List.mem_append_left _ hs), fun _ => h.wait c (List.mem_append_right _ (List.mem_singleton.2 rfl)),
   fun j k cj ej nj nc a l => h.shut j k cj ej (fun q => by
     rcases List.mem_append.1 q with q | q
     · exact nj q
     · exact nc (List.mem_singleton.1 q)) (fun q => by have := lit_lt cj.lit2; omega) a l⟩
/-- the pixels around that have been looked at: those in rows above r, and in row r left of u. -/
def Seen (L : List Bool) (W c r u : Nat) (D : List Int) : Prop := ∀ k, litB L k = true → Adj W c k → (k / W < r ∨ (k / W = r ∧ k % W < u)) → D.getD k 0 ≠ 0
theorem Spr.push {i c k : Nat} {num : Int} {C D : List Int} {S : List Nat} (h : Spr L W i num C D S c) (hl : C.length = L.length) (hc : c < L.length) (hk : litB L k = true) (a : Adj W c k) : Spr L W i num C (D.set k num) (S ++ [k]) c := by
  have hkl : k < D.length := by rw [h.len, hl]; exact lit_lt hk
  have ck : Conn L W i k := .more (h.cur hc).1 a hk
  have eq : ∀ j, (D.set k num).getD j 0 = if k = j then num else D.getD j 0 := fun j => getD_setI hkl
  refine ⟨by rw [List.length_set]; exact h.len, fun j => ?_, ?_, fun s hs => ?_, fun q => ⟨(h.cur q).1, ?_⟩, fun j m cj ej nj nc am lm => ?_⟩
  · rw [eq]
    by_cases e : k = j
    · subst e; rw [if_pos rfl]; exact .inr ⟨ck, rfl⟩
    · rw [if_neg e]; exact h.is j
  · rw [eq]
    by_cases e : k = i
    · rw [if_pos e]
    · rw [if_neg e]; exact h.at_
  · rw [eq]
    rcases List.mem_append.1 hs with q | q
    · by_cases e : k = s
      · subst e; rw [if_pos rfl]; exact ⟨ck, rfl⟩
      · rw [if_neg e]; exact h.wait s q
    · rw [List.mem_singleton.1 q, if_pos rfl]
      exact ⟨ck, rfl⟩
  · rw [eq]
    by_cases e : k = c
    · rw [if_pos e]
    · rw [if_neg e]; exact (h.cur q).2
  · rw [eq] at ej ⊢
    by_cases e : k = m
    · rw [if_pos e]
    · rw [if_neg e]
      have nk : k ≠ j := fun q => nj (List.mem_append_right _ (List.mem_singleton.2 q.symm))
      rw [if_neg nk] at ej
      exact h.shut j m cj ej (fun q => nj (List.mem_append_left _ q)) nc am lm
theorem seen_put {c r u k : Nat} {num : Int} {D : List Int} (hn : num ≠ 0) (hk : k < D.length) (h : Seen L W c r u D) : Seen L W c r u (D.set k num) := fun j l a q => by
  rw [getD_setI hk]
  by_cases e : k = j
  · rw [if_pos e]; exact hn
  · rw [if_neg e]; exact h j l a q
/-- one more pixel was looked at. -/
theorem Seen.one {c r u k : Nat} {D : List Int} (h : Seen L W c r u D) (hk : k / W = r ∧ k % W = u) (q : litB L k = false ∨ D.getD k 0 ≠ 0) : Seen L W c r (u + 1) D := fun j l a s => by
  by_cases e : j / W = r ∧ j % W = u
  · have hj : j = k := by
      have h1 := Nat.div_add_mod j W
      have h2 := Nat.div_add_mod k W
      rw [e.1, e.2] at h1
      rw [hk.1, hk.2] at h2
      omega
    subst hj
    rcases q with q | q
    · rw [l] at q; cases q
    · exact q
  · exact h j l a (by omega)
theorem Spr.shutC {i c r u : Nat} {num : Int} {C D : List Int} {S : List Nat} (h : Spr L W i num C D S c) (h0 : ∀ k, Conn L W i k → C.getD k 0 = 0) (hc : c < L.length) (s : Seen L W c r u D) (e : ∀ k, litB L k = true → Adj W c k → k / W < r) : Spr L W i num C D S L.length := by
  refine ⟨h.len, h.is, h.at_, h.wait, fun q => absurd q (Nat.lt_irrefl _), fun j k cj ej nj nc a l => ?_⟩
  by_cases q : j = c
  · subst q
    have nz := s k l a (.inl (e k l a))
    rcases h.is k with f | f
    · rw [f, h0 k (.more cj a l)] at nz
      exact absurd rfl nz
    · exact f.2
  · exact h.shut j k cj ej nj q a l
theorem Spr.done {i : Nat} {num : Int} {C D : List Int} (h : Spr L W i num C D [] L.length) : Spread L W i num C D := by
  have all : ∀ k, Conn L W i k → D.getD k 0 = num := fun k c => by
    have gen : ∀ a b, Conn L W a b → a = i → D.getD b 0 = num := fun a b c => by
      induction c with
      | one l => intro e; rw [e]; exact h.at_
      | more cj a l ih =>
        intro e
        have ej := ih e
        subst e
        exact h.shut _ _ cj ej (fun q => by cases q) (fun q => by have := lit_lt cj.lit2; omega) a l
    exact gen i k c rfl
  refine ⟨h.len, all, fun k c => ?_⟩
  rcases h.is k with f | f
  · exact f
  · exact absurd f.1 c
/-! how many have no number yet -/
def zeros (C : List Int) : Nat := C.countP (fun x => x == 0)
theorem zeros_set {C : List Int} {k : Nat} {x : Int} (hk : k < C.length) (h0 : C.getD k 0 = 0) (hx : x ≠ 0) : zeros (C.set k x) + 1 = zeros C := by
  unfold zeros
  induction C generalizing k with
  | nil => exact absurd hk (Nat.not_lt_zero k)
  | cons c C ih =>
    cases k with
    | zero =>
      have h0' : c = 0 := h0
      subst h0'
      simp [hx]
    | succ k =>
      have := ih (k := k) (by simpa using hk) (by simpa using h0)
      rw [List.set_cons_succ, List.countP_cons, List.countP_cons]
      omega
theorem fresh_of {i p : Nat} {C : List Int} (h : NumTo L W i C p) (h0 : C.getD i 0 = 0) : ∀ k, Conn L W i k → C.getD k 0 = 0 := fun k c => by
  refine Decidable.byContradiction (fun q => ?_)
  obtain ⟨j, hj, cj⟩ := h.no k c.lit2 q
  exact h.yes i j hj (c.trans cj) h0
end
end Go.Proofs.YtgmaganajfcpbaiDoor
