/-
  Whether slots are a plan, slot by slot, and what it is worth by the document. Nothing of the program.
-/
import Derived.Test.YtoacdaemhcbbhaaDoorNgL2
namespace Go.Proofs.YtoacdaemhcbbhaaDoor
open Go Go.RowKit

theorem eqN_cong {x y : ByteArray} (h : eqN y x = true) (z : ByteArray) : eqN z x = eqN z y := by
  unfold eqN at *
  rw [eq_of_beq h]
theorem kK_cong {l : List Jb} {x y : ByteArray} (h : eqN y x = true) : ∀ n, kK l x n = kK l y n
  | 0 => rfl
  | n + 1 => by
    show (if eqN (l.getD n jb0).nm x then ((n : Nat) : Int) else kK l x n) = if eqN (l.getD n jb0).nm y then ((n : Nat) : Int) else kK l y n
    rw [eqN_cong h, kK_cong h n]
theorem endK_cong {l : List Jb} {x y : ByteArray} (h : eqN y x = true) (fr : Int) : ∀ n, endK l x fr n = endK l y fr n
  | 0 => rfl
  | n + 1 => by
    show (if eqN (l.getD n jb0).nm x then endK l x fr n + (l.getD n jb0).lo else endK l x fr n) = if eqN (l.getD n jb0).nm y then endK l y fr n + (l.getD n jb0).lo else endK l y fr n
    rw [eqN_cong h, endK_cong h fr n]
theorem kK_none {l : List Jb} {x : ByteArray} : ∀ n, (∀ k, k < n → nmP l x k = false) → kK l x n = -1
  | 0, _ => rfl
  | n + 1, h => by
    show (if eqN (l.getD n jb0).nm x then ((n : Nat) : Int) else kK l x n) = _
    have e : eqN (l.getD n jb0).nm x = false := h n (by omega)
    rw [e, if_neg (by decide)]
    exact kK_none n (fun k hk => h k (by omega))
/-- how far a plan was looked at. -/
structure CkI (l : List Jb) (P : List Slt) (i : Nat) (wo fr : Int) (u : Nat → Bool) : Prop where
  w : worK l P i = some wo
  u : ∀ k, k < l.length → (u k = true ↔ ∃ m, m < i ∧ eqN (l.getD k jb0).nm (P.getD m sl0).nm = true)
  f : ∀ m, m < i → endK l (P.getD m sl0).nm (P.getD m sl0).fr l.length ≤ fr
  g : (i = 0 ∧ fr = -9223372036854775808) ∨ ∃ m, m < i ∧ fr = endK l (P.getD m sl0).nm (P.getD m sl0).fr l.length
theorem CkI.zero (l : List Jb) (P : List Slt) : CkI l P 0 0 (-9223372036854775808) (fun _ => false) :=
  ⟨rfl, fun k _ => ⟨fun h => (nomatch h), fun h => (by obtain ⟨m, h, _⟩ := h; exact absurd h (Nat.not_lt_zero m))⟩, fun m h => absurd h (Nat.not_lt_zero m), .inl ⟨rfl, rfl⟩⟩
theorem worK_step {l : List Jb} {P : List Slt} {i : Nat} {wo : Int} (h : worK l P i = some wo) : worK l P (i + 1) = if kK l (P.getD i sl0).nm l.length < 0 then none else if inWB (l.getD (kK l (P.getD i sl0).nm l.length).toNat jb0) (P.getD i sl0).fr = false then none else if anyN (badB l P i) i then none else some (wo + (l.getD (kK l (P.getD i sl0).nm l.length).toNat jb0).wo) := by
  show (match worK l P i with | none => none | some w => _) = _
  rw [h]
theorem CkI.nobody {l : List Jb} {P : List Slt} {i : Nat} {wo fr : Int} {u : Nat → Bool} (c : CkI l P i wo fr u) (h : ∀ k, k < l.length → nmP l (P.getD i sl0).nm k = false) : worK l P (i + 1) = none := by
  rw [worK_step c.w, kK_none l.length h, if_pos (by decide)]
theorem ck_at {l : List Jb} (hd : Dis l) {k : Nat} (hk : k < l.length) {x : ByteArray} (hx : nmP l x k = true) : kK l x l.length = (k : Nat) := by
  rw [kK_cong hx, kK_name hd hk l.length (Nat.le_refl _) hk]
theorem CkI.bad {l : List Jb} {P : List Slt} {i : Nat} {wo fr : Int} {u : Nat → Bool} (c : CkI l P i wo fr u) (h : anyN (badB l P i) i = true) : worK l P (i + 1) = none := by
  rw [worK_step c.w]
  split
  · rfl
  · split
    · rfl
    · first
      | rfl
      | rw [if_pos h]
theorem CkI.done {l : List Jb} {P : List Slt} {i : Nat} {wo fr : Int} {u : Nat → Bool} (c : CkI l P i wo fr u) {k : Nat} (hk : k < l.length) (hx : nmP l (P.getD i sl0).nm k = true) (h : u k = true) : worK l P (i + 1) = none := by
  obtain ⟨m, hm, he⟩ := (c.u k hk).1 h
  refine c.bad (anyN_iff.2 ⟨m, hm, ?_⟩)
  unfold badB
  have : eqN (P.getD m sl0).nm (P.getD i sl0).nm = true := by
    rw [eqN_cong hx, eqN_comm]
    exact he
  rw [this, Bool.true_or]
theorem CkI.soon {l : List Jb} {P : List Slt} {i : Nat} {wo fr : Int} {u : Nat → Bool} (c : CkI l P i wo fr u) (hok : ∀ k, k < l.length → (l.getD k jb0).Ok) (hd : Dis l) {k : Nat} (hk : k < l.length) (hx : nmP l (P.getD i sl0).nm k = true) (h : (P.getD i sl0).fr < fr) : worK l P (i + 1) = none := by
  rcases c.g with ⟨_, e⟩ | ⟨m, hm, e⟩
  · rw [worK_step c.w, ck_at hd hk hx, if_neg (by omega), Int.toNat_natCast]
    cases q : inWB (l.getD k jb0) (P.getD i sl0).fr
    · rw [if_pos rfl]
    · have := in_bd (hok k hk) q
      omega
  · refine c.bad (anyN_iff.2 ⟨m, hm, ?_⟩)
    unfold badB
    rw [decide_eq_true (by rw [← e]; exact h), Bool.or_true]
theorem CkI.out {l : List Jb} {P : List Slt} {i : Nat} {wo fr : Int} {u : Nat → Bool} (c : CkI l P i wo fr u) (hd : Dis l) {k : Nat} (hk : k < l.length) (hx : nmP l (P.getD i sl0).nm k = true) (h : inWB (l.getD k jb0) (P.getD i sl0).fr = false) : worK l P (i + 1) = none := by
  rw [worK_step c.w, ck_at hd hk hx, if_neg (by omega), Int.toNat_natCast, h, if_pos rfl]
theorem CkI.next {l : List Jb} {P : List Slt} {i : Nat} {wo fr : Int} {u : Nat → Bool} (c : CkI l P i wo fr u) (hok : ∀ k, k < l.length → (l.getD k jb0).Ok) (hd : Dis l) {k : Nat} (hk : k < l.length) (hx : nmP l (P.getD i sl0).nm k = true) (h1 : u k = false) (h2 : fr ≤ (P.getD i sl0).fr) (h3 : inWB (l.getD k jb0) (P.getD i sl0).fr = true) : CkI l P (i + 1) (wo + (l.getD k jb0).wo) ((P.getD i sl0).fr + (l.getD k jb0).lo) (usd u k) := by
  have he : endK l (P.getD i sl0).nm (P.getD i sl0).fr l.length = (P.getD i sl0).fr + (l.getD k jb0).lo := by
    rw [endK_cong hx, endK_name hd hk _ l.length (Nat.le_refl _), if_pos hk]
  have hl1 := (hok k hk).l1
  have hb : anyN (badB l P i) i = false := Bool.eq_false_iff.2 (fun z => by
    obtain ⟨m, hm, hb⟩ := anyN_iff.1 z
    unfold badB at hb
    rw [Bool.or_eq_true] at hb
    rcases hb with hb | hb
    · rw [eqN_cong hx] at hb
      have : u k = true := (c.u k hk).2 ⟨m, hm, by rw [eqN_comm]; exact hb⟩
      rw [h1] at this
      cases this
    · have := of_decide_eq_true hb
      have := c.f m hm
      omega)
  refine ⟨?_, fun j hj => ?_, fun m hm => ?_, .inr ⟨i, by omega, he.symm⟩⟩
  · rw [worK_step c.w, ck_at hd hk hx, if_neg (by omega), Int.toNat_natCast, h3, if_neg (by decide), hb, if_neg (by decide)]
  · unfold usd
    by_cases e : j = k
    · subst e
      constructor
      · exact fun _ => ⟨i, by omega, hx⟩
      · exact fun _ => by simp
    · have hjk := hd j k hj hk e
      constructor
      · intro h
        have : u j = true := by simpa [e] using h
        obtain ⟨m, hm, hq⟩ := (c.u j hj).1 this
        exact ⟨m, by omega, hq⟩
      · rintro ⟨m, hm, hq⟩
        by_cases em : m = i
        · subst em
          rw [eqN_cong hx, hjk] at hq
          cases hq
        · have := (c.u j hj).2 ⟨m, by omega, hq⟩
          rw [this, Bool.true_or]
  · by_cases em : m = i
    · subst em
      omega
    · have := c.f m (by omega)
      omega
theorem worK_end {l : List Jb} {P : List Slt} {i : Nat} (h : worK l P (i + 1) = none) (hi : i < P.length) : worK l P P.length = none := by
  have := worK_none h (P.length - (i + 1))
  rwa [show i + 1 + (P.length - (i + 1)) = P.length by omega] at this
end Go.Proofs.YtoacdaemhcbbhaaDoor
