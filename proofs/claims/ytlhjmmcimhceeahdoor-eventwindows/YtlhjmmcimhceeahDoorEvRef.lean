/-
  Tracks in memory; what is wrong with one: the document's, by contract.
-/
import Derived.Test.YtlhjmmcimhceeahDoorKit3
import Derived.Test.YtlhjmmcimhceeahDoorEvTr
namespace Go.Proofs.YtlhjmmcimhceeahDoor
open Go Go.RowKit

/-- whole numbers that came in. -/
structure ICame (w : World) (ad : Option Addr) (L : List Int) : Prop where
  at_ : ∀ k, k < L.length → ∃ b off, ad = some ⟨b, off, none⟩ ∧ b < w.heap.size ∧ w.cell? ⟨b, off + k, none⟩ = some (.int .i64 (L.getD k 0))
theorem ICame.below {w v : World} {ad : Option Addr} {L : List Int} (h : ICame w ad L) (k : Below w.heap.size w v) : ICame v ad L := ⟨fun j hj => by
  obtain ⟨b, off, e, hb, h1⟩ := h.at_ j hj
  exact ⟨b, off, e, Nat.lt_of_lt_of_le hb k.size, (k.cell (p := ⟨b, off + j, none⟩) hb).trans h1⟩⟩
/-- a track in memory. -/
structure TrP (w : World) (b off : Nat) (ad : Option Addr) (cap : Nat) (t : Tr) : Prop where
  lt : b < w.heap.size
  fr : w.cell? ⟨b, off, none⟩ = some (.int .i64 t.fr)
  st : w.cell? ⟨b, off + 1, none⟩ = some (.int .i64 t.st)
  sl : w.cell? ⟨b, off + 2, none⟩ = some (.slice ad t.L.length cap)
  row : ICame w ad t.L
theorem TrP.below {w v : World} {b off cap : Nat} {ad : Option Addr} {t : Tr} (h : TrP w b off ad cap t) (k : Below w.heap.size w v) : TrP v b off ad cap t :=
  ⟨Nat.lt_of_lt_of_le h.lt k.size, (k.cell (p := ⟨b, off, none⟩) h.lt).trans h.fr, (k.cell (p := ⟨b, off + 1, none⟩) h.lt).trans h.st, (k.cell (p := ⟨b, off + 2, none⟩) h.lt).trans h.sl, h.row.below k⟩
theorem isTime_any (x : Int) (w : World) : Calls Tryd.prog 25 #[.int .i64 x] w fun e w' => e = .returned (.bool (isTime x)) ∧ w' = w := by
  unfold isTime
  by_cases h1 : -300000000000000000 ≤ x
  · rw [decide_eq_true h1]
    by_cases h2 : x ≤ 300000000000000000
    · rw [decide_eq_true h2]
      go_enter Tryd.func25, Tryd.ntmps25
      go_wp2
      go_ret
      exact ⟨rfl, rfl⟩
    · rw [decide_eq_false h2]
      go_enter Tryd.func25, Tryd.ntmps25
      go_wp2
      go_ret
      exact ⟨rfl, rfl⟩
  · rw [decide_eq_false h1]
    go_enter Tryd.func25, Tryd.ntmps25
    go_wp2
    go_ret
    exact ⟨rfl, rfl⟩
theorem late_last {t : Tr} {i : Nat} (h1 : isTime t.fr = true) (h2 : 1 ≤ t.st) (hi : i < t.L.length) (h3 : isTime (t.fr + (i : Int) * t.st) = false) : isTime t.last = false := by
  cases e : isTime t.last with
  | false => rfl
  | true =>
    exfalso
    have a1 := isTime_of h1
    have a2 := isTime_of e
    have b1 : 0 ≤ (i : Int) * t.st := Int.mul_nonneg (by omega) (by omega)
    have b2 : (i : Int) * t.st ≤ ((t.L.length : Int) - 1) * t.st := Int.mul_le_mul_of_nonneg_right (by omega) (by omega)
    unfold Tr.last at a2
    have : isTime (t.fr + (i : Int) * t.st) = true := isTime_iff.2 ⟨by omega, by omega⟩
    rw [this] at h3
    cases h3
theorem flat_take {l : List Int} (n : Nat) (h : flat l = true) : flat (l.take n) = true := by
  unfold flat at h ⊢
  rw [List.all_eq_true] at h ⊢
  exact fun x hx => h x (List.mem_of_mem_take hx)
theorem flat_next {l : List Int} {k : Nat} (h : k < l.length) : flat (l.take (k + 1)) = (flat (l.take k) && (decide (-1099511627776 ≤ l.getD k 0) && decide (l.getD k 0 ≤ 1099511627776))) := by
  unfold flat
  rw [List.take_add_one, List.getElem?_eq_getElem h, List.getD_eq_getElem?_getD, List.getElem?_eq_getElem h, List.all_append]
  simp
set_option maxRecDepth 100000 in
set_option maxHeartbeats 1600000 in
theorem trackError_any {w : World} {b off cap : Nat} {ad : Option Addr} {t : Tr} (h : TrP w b off ad cap t) (hl : t.L.length ≤ 9223372036854775807) :
    Calls Tryd.prog 9 #[.pointer (some ⟨b, off, none⟩)] w fun e w' => e = .returned (.int .i64 (trE t)) ∧ w' = w := by
  obtain ⟨_, cf, cs, cl, hrow⟩ := h
  have HR := hideR hrow
  clear hrow
  by_cases c1 : t.L.length < 2 ∨ 4000 < t.L.length
  · have e : trE t = 2 := by unfold trE; rw [if_pos c1]
    rw [e]
    clear e
    go_enter Tryd.func9, Tryd.ntmps9
    go_wp2
    all_goals
      go_ret
      exact ⟨rfl, rfl⟩
  have n1 : 2 ≤ t.L.length := by omega
  have n2 : t.L.length ≤ 4000 := by omega
  have hti := fun x u => isTime_any x u
  cases c2 : isTime t.fr with
  | false =>
    have e : trE t = 3 := by unfold trE; rw [if_neg c1, if_pos (.inl c2)]
    rw [e]
    have h1 := hti t.fr
    rw [c2] at h1
    clear e hti c1
    go_enter Tryd.func9, Tryd.ntmps9
    go_wp2_with fail
    refine (h1 _).mono ?_
    rintro e w1 ⟨rfl, rfl⟩
    go_wp2
    go_ret
    exact ⟨rfl, rfl⟩
  | true =>
    have h1 := hti t.fr
    rw [c2] at h1
    have f1 := isTime_of c2
    by_cases c3 : t.st < 1 ∨ 600000000000000000 < t.st
    · have e : trE t = 3 := by
        unfold trE
        rw [if_neg c1]
        rcases c3 with c3 | c3
        · rw [if_pos (.inr (.inl c3))]
        · have q : isTime t.last = false := by
            refine late_last (i := 1) c2 (by omega) (by omega) ?_
            cases e : isTime (t.fr + ((1 : Nat) : Int) * t.st) with
            | false => rfl
            | true =>
              have := isTime_of e
              omega
          rw [if_pos (.inr (.inr q))]
      rw [e]
      clear e hti c1
      go_enter Tryd.func9, Tryd.ntmps9
      go_wp2_with fail
      refine (h1 _).mono ?_
      rintro e w1 ⟨rfl, rfl⟩
      go_wp2
      all_goals
        go_ret
        exact ⟨rfl, rfl⟩
    have s1 : 1 ≤ t.st := by omega
    have s2 : t.st ≤ 600000000000000000 := by omega
    have HL : HeldR (∀ i : Nat, i < t.L.length → isTime (t.fr + (i : Int) * t.st) = false → trE t = 3) := fun i hi e => by
      unfold trE
      rw [if_neg c1, if_pos (.inr (.inr (late_last c2 s1 hi e)))]
    have HF : HeldR (isTime t.last = true → flat t.L = false → trE t = 5) := fun e k => by
      unfold trE
      rw [if_neg c1, if_neg, if_pos k]
      rintro (q | q | q)
      · rw [c2] at q; cases q
      · omega
      · rw [e] at q; cases q
    have H0 : HeldR (isTime t.last = true → flat t.L = true → trE t = 0) := fun e k => by
      unfold trE
      rw [if_neg c1, if_neg, if_neg]
      · rw [k]
        exact Bool.noConfusion
      · rintro (q | q | q)
        · rw [c2] at q; cases q
        · omega
        · rw [e] at q; cases q
    have HLa : HeldR (t.last = t.fr + ((t.L.length : Int) - 1) * t.st) := rfl
    clear c1 c3
    generalize trE t = E at *
    generalize t.last = La at *
    go_enter Tryd.func9, Tryd.ntmps9
    go_wp2_with fail
    refine (h1 _).mono ?_
    rintro e w1 ⟨rfl, rfl⟩
    clear h1
    go_wp2
    go_loop [5, 6] (fun av iv => ∃ (i : Nat) (A : Int), i + 1 ≤ t.L.length ∧ iv = .int .i64 ((i : Int) + 1) ∧ av = .int .i64 A ∧ HeldR (A = t.fr + (i : Int) * t.st) ∧ -300000000000000000 ≤ A ∧ A ≤ 300000000000000000) (fun _ iv => t.L.length + 1 - (intOf iv).toNat)
    case atStart => exact ⟨0, t.fr, by omega, rfl, rfl, by unfold HeldR; simp, f1.1, f1.2⟩
    case round =>
      obtain ⟨i, A, hi, rfl, rfl, HA, hA1, hA2⟩ := hrel
      by_cases hlt : i + 1 < t.L.length
      · have h1 := hti (A + t.st)
        have eA : A + t.st = t.fr + ((i + 1 : Nat) : Int) * t.st := by
          rw [unhideR HA, Int.natCast_add, Int.add_mul]
          simp
          omega
        have HE := hideR eA
        have HB := hideR (unhideR HL (i + 1) hlt)
        have HX : HeldR (isTime (A + t.st) = isTime (t.fr + ((i + 1 : Nat) : Int) * t.st)) := by unfold HeldR; rw [eA]
        clear eA
        cases ct : isTime (A + t.st) with
        | false =>
          rw [ct] at h1
          have e3 : E = 3 := unhideR HB ((unhideR HX).symm.trans ct)
          subst e3
          clear HB HL HF H0 HX
          go_wp2_with fail
          refine (h1 _).mono ?_
          rintro e w1 ⟨rfl, rfl⟩
          go_wp2
          go_ret
          exact ⟨rfl, rfl⟩
        | true =>
          rw [ct] at h1
          have q := isTime_of ct
          clear HB HX
          go_wp2_with fail
          refine (h1 _).mono ?_
          rintro e w1 ⟨rfl, rfl⟩
          clear h1
          go_wp2
          exact ⟨⟨i + 1, A + t.st, by omega, by go_num, rfl, HE, q.1, q.2⟩, by simp [intOf]; omega⟩
      · have hLa : isTime La = true := by
          rw [unhideR HLa]
          have e : ((t.L.length : Int) - 1) = (i : Int) := by omega
          rw [e, ← unhideR HA]
          exact isTime_iff.2 ⟨hA1, hA2⟩
        have HF2 := hideR (unhideR HF hLa)
        have H02 := hideR (unhideR H0 hLa)
        clear HL HF H0 HLa hLa HA hti
        go_wp2
        go_loop [8] (fun kv => ∃ k : Nat, k ≤ t.L.length ∧ kv = .int .i64 (k : Nat) ∧ HeldR (flat (t.L.take k) = true)) (fun kv => t.L.length + 1 - (intOf kv).toNat)
        case atStart => exact ⟨0, by omega, rfl, hideR rfl⟩
        case round =>
          obtain ⟨k, hk, rfl, HM⟩ := hrel
          by_cases hkl : k < t.L.length
          · obtain ⟨b1, o1, rfl, _, hc⟩ := (unhideR HR).at_ k hkl
            have HN := hideR (flat_next hkl)
            generalize t.L.getD k 0 = x at *
            by_cases hx : -1099511627776 ≤ x ∧ x ≤ 1099511627776
            · obtain ⟨hx1, hx2⟩ := hx
              have HM2 : HeldR (flat (t.L.take (k + 1)) = true) := by
                unfold HeldR
                rw [unhideR HN, unhideR HM, decide_eq_true hx1, decide_eq_true hx2]
                rfl
              clear HN HM
              go_wp2
              exact ⟨⟨k + 1, by omega, by go_num, HM2⟩, by simp [intOf]; omega⟩
            · have hbad : flat t.L = false := by
                cases e : flat t.L with
                | false => rfl
                | true =>
                  exfalso
                  have e2 := flat_take (k + 1) e
                  rw [unhideR HN, unhideR HM, Bool.true_and, Bool.and_eq_true] at e2
                  exact hx ⟨of_decide_eq_true e2.1, of_decide_eq_true e2.2⟩
              have e5 := unhideR HF2 hbad
              subst e5
              clear HN HM HF2 H02 hbad
              go_wp2
              all_goals
                go_ret
                exact ⟨rfl, rfl⟩
          · obtain rfl : k = t.L.length := by omega
            have e0 : E = 0 := unhideR H02 (by have := unhideR HM; rwa [List.take_length] at this)
            subst e0
            clear HM HF2 H02
            go_wp2
            go_ret
            exact ⟨rfl, rfl⟩
end Go.Proofs.YtlhjmmcimhceeahDoor
