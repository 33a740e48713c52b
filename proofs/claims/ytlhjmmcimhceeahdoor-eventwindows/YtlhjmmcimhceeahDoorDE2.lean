/-
  The program's Valid and takes of a track, by contract.
-/
import Derived.Test.YtlhjmmcimhceeahDoorDE1
import Derived.Test.YtlhjmmcimhceeahDoorEvHl0
namespace Go.Proofs.YtlhjmmcimhceeahDoor
open Go Go.RowKit

/-- the heights of a track that came in. -/
theorem heights_at {w : World} {b o : Nat} {L : List Int} (h : ICame w (some ⟨b, o, none⟩) L) {u : World} (k : Below w.heap.size w u) {i : Nat} (hi : i < L.length) : u.cell? ⟨b, o + i, none⟩ = some (.int .i64 (L.getD i 0)) := by
  obtain ⟨b', o', e, _, hc⟩ := (h.below k).at_ i hi
  cases e
  exact hc
theorem validfn_any (h : Int) (w : World) : Calls Tryd.prog 58 #[.int .i64 h] w fun e w' => e = .returned (.bool (!hOk h)) ∧ w' = w := by
  have hc := isHeight_any h w
  generalize hOk h = r at *
  go_enter Tryd.func58, Tryd.ntmps58
  go_wp2_with fail
  refine hc.mono ?_
  rintro e w1 ⟨rfl, rfl⟩
  go_wp2
  go_ret
  exact ⟨rfl, rfl⟩
set_option maxRecDepth 100000 in
set_option maxHeartbeats 800000 in
theorem indexHt_any (ad : Option Addr) (cap : Nat) (L : List Int) (w : World) (hr : ICame w ad L) (hl : L.length ≤ 4000) :
    Calls Tryd.prog 79 #[.slice ad L.length cap, .func (.func 58) #[] #[]] w fun e w' => (∃ r : Int, e = .returned (.int .i64 r) ∧ decide (0 ≤ r) = !flat L) ∧ Below w.heap.size w w' := by
  have HR := hideR hr
  clear hr
  go_enter Tryd.func79, Tryd.ntmps79
  go_wp2
  go_loopw [8] (fun kv wl => ∃ k : Nat, k ≤ L.length ∧ kv = .int .i64 (k : Nat) ∧ HeldR (flat (L.take k) = true) ∧ HeldR (Below w.heap.size w wl)) (fun kv _ => L.length + 1 - (intOf kv).toNat)
  case atStart => exact ⟨0, by omega, rfl, hideR rfl, hideR (Below.refl _ _)⟩
  case round =>
    obtain ⟨k, hk, rfl, HM, HW⟩ := hrel
    by_cases hlt : k < L.length
    · obtain ⟨b, off, rfl, hb, hat⟩ := ((unhideR HR).below (unhideR HW)).at_ k hlt
      have HN := hideR (flat_next hlt)
      have hfn := fun u => validfn_any (L.getD k 0) u
      have HH : HeldR (hOk (L.getD k 0) = (decide (-1099511627776 ≤ L.getD k 0) && decide (L.getD k 0 ≤ 1099511627776))) := rfl
      generalize L.getD k 0 = s at *
      generalize hOk s = g at *
      cases g
      · have HF : HeldR (flat L = false) := by
          unfold HeldR
          cases e : flat L with
          | false => rfl
          | true =>
            have e2 := flat_take (k + 1) e
            rw [unhideR HN, ← unhideR HH, Bool.and_false] at e2
            cases e2
        clear HN HH HM
        go_wp2_with fail
        refine (hfn _).mono ?_
        rintro e w1 ⟨rfl, rfl⟩
        clear hfn hat
        go_wp2
        go_ret
        exact ⟨⟨_, rfl, by rw [unhideR HF]; exact decide_eq_true (by omega)⟩, unhideR HW⟩
      · have HM2 : HeldR (flat (L.take (k + 1)) = true) := by
          unfold HeldR
          rw [unhideR HN, unhideR HM, ← unhideR HH]
          rfl
        clear HN HH HM
        go_wp2_with fail
        refine (hfn _).mono ?_
        rintro e w1 ⟨rfl, rfl⟩
        clear hfn hat
        go_wp2
        exact ⟨⟨k + 1, by omega, by go_num, HM2, HW⟩, by simp [intOf]; omega⟩
    · obtain rfl : k = L.length := by omega
      have HF : HeldR (flat L = true) := by
        have := unhideR HM
        rwa [List.take_length] at this
      clear HM
      go_wp2
      go_ret
      exact ⟨⟨_, rfl, by rw [unhideR HF]; decide⟩, unhideR HW⟩
set_option maxHeartbeats 800000 in
theorem containsHt_any (ad : Option Addr) (cap : Nat) (L : List Int) (w : World) (hr : ICame w ad L) (hl : L.length ≤ 4000) :
    Calls Tryd.prog 57 #[.slice ad L.length cap, .func (.func 58) #[] #[]] w fun e w' => e = .returned (.bool (!flat L)) ∧ Below w.heap.size w w' := by
  have hc := indexHt_any ad cap L w hr hl
  generalize (!flat L) = g at *
  go_enter Tryd.func57, Tryd.ntmps57
  go_wp2_with fail
  refine hc.mono ?_
  rintro e w1 ⟨⟨r, rfl, hr2⟩, k1⟩
  have HW := hideR k1
  clear k1 hc
  go_wp2
  all_goals
    go_ret
    exact ⟨rfl, unhideR HW⟩
set_option maxRecDepth 100000 in
set_option maxHeartbeats 800000 in
theorem trvalid_ok (a : Nat → Addr) : TrValidOK a := by
  intro v t w hS h hl
  by_cases hn : t.L.length < 2 ∨ 4000 < t.L.length
  · have hE : trE t = 2 := by unfold trE; rw [if_pos hn]
    have HX : HeldR (ErrIs a (trE t) (.iface 147 (.pointer (some (a 1))))) := by
      unfold HeldR
      rw [hE]
      exact err_at 1 (by decide)
    have c0 := hS.g1
    obtain ⟨ad, cap, rfl, hi⟩ := h
    have HS := hideR hS
    have g1 := fun o => (hS.below (below_a w o) (Nat.le_refl _)).g1
    clear hE hi hS
    rcases hn with hn | hn
    · go_enter Tryd.func38, Tryd.ntmps38
      go_wp2
      all_goals
        go_ret
        exact ⟨_, rfl, unhideR HX, below_a _ _⟩
    · go_enter Tryd.func38, Tryd.ntmps38
      go_wp2
      all_goals
        go_ret
        exact ⟨_, rfl, unhideR HX, below_a _ _⟩
  · obtain ⟨h2, h4⟩ : 2 ≤ t.L.length ∧ t.L.length ≤ 4000 := by omega
    have hv := h
    obtain ⟨ad, cap, rfl, hi⟩ := h
    have hit := inTime_any (hv.below (below_a w (.cells #[.int .i64 t.fr, .int .i64 t.st, .slice ad t.L.length cap] 32))) h2 h4
    have eT : inTimeV t = true ↔ ¬ (isTime t.fr = false ∨ t.st < 1 ∨ isTime t.last = false) := by
      unfold inTimeV
      rw [Bool.and_eq_true, Bool.and_eq_true, decide_eq_true_eq]
      constructor
      · rintro ⟨⟨q1, q2⟩, q3⟩ (k | k | k)
        · rw [q2] at k; cases k
        · omega
        · rw [q3] at k; cases k
      · intro k
        exact ⟨⟨by have : ¬ t.st < 1 := fun q => k (.inr (.inl q)); omega, bool_true (fun q => k (.inl q))⟩, bool_true (fun q => k (.inr (.inr q)))⟩
    have HE3 : HeldR (inTimeV t = false → ErrIs a (trE t) (.iface 147 (.pointer (some (a 2))))) := fun e => by
      have : trE t = 3 := by
        unfold trE
        rw [if_neg hn, if_pos]
        by_cases q : isTime t.fr = false ∨ t.st < 1 ∨ isTime t.last = false
        · exact q
        · rw [eT.2 q] at e
          cases e
      rw [this]
      exact err_at 2 (by decide)
    have HE5 : HeldR (inTimeV t = true → flat t.L = false → ErrIs a (trE t) (.iface 147 (.pointer (some (a 4))))) := fun e f => by
      have : trE t = 5 := by
        unfold trE
        rw [if_neg hn, if_neg (eT.1 e), if_pos f]
      rw [this]
      exact err_at 4 (by decide)
    have HE0 : HeldR (inTimeV t = true → flat t.L = true → ErrIs a (trE t) .nilIface) := fun e f => by
      have : trE t = 0 := by
        unfold trE
        rw [if_neg hn, if_neg (eT.1 e), if_neg (by rw [f]; exact Bool.noConfusion)]
      exact .inl ⟨this, rfl⟩
    have HS := hideR hS
    have HI := hideR hi
    have hob := alloc_last w (.cells #[.int .i64 t.fr, .int .i64 t.st, .slice ad t.L.length cap] 32)
    have HBl := hideR hob
    clear hob eT hS hi hv hn
    generalize inTimeV t = T at *
    go_enter Tryd.func38, Tryd.ntmps38
    go_wp2_with fail
    refine hit.mono ?_
    rintro e w1 ⟨rfl, k1⟩
    have HW := hideR (below_go (below_a w (.cells #[.int .i64 t.fr, .int .i64 t.st, .slice ad t.L.length cap] 32)) k1)
    obtain ⟨⟨c0, c1, c2⟩, _⟩ := three_cells (keepB (unhideR HBl) k1)
    clear k1 hit HBl
    cases T
    · have HX := hideR (unhideR HE3 rfl)
      have g2 := ((unhideR HS).below (unhideR HW) (Nat.le_refl _)).g2
      clear HE3 HE5 HE0
      go_wp2
      go_ret
      exact ⟨_, rfl, unhideR HX, unhideR HW⟩
    · have H5 := hideR (unhideR HE5 rfl)
      have H0 := hideR (unhideR HE0 rfl)
      have hco := containsHt_any ad cap t.L w1 ((unhideR HI).below (unhideR HW)) h4
      clear HE3 HE5 HE0 HI
      generalize flat t.L = F at *
      go_wp2_with fail
      refine hco.mono ?_
      rintro e w2 ⟨rfl, k2⟩
      replace HW := hideR (below_go (unhideR HW) k2)
      clear k2 hco c0 c1 c2
      cases F
      · have HX := hideR (unhideR H5 rfl)
        have g4 := ((unhideR HS).below (unhideR HW) (Nat.le_refl _)).g4
        clear H5 H0
        go_wp2
        go_ret
        exact ⟨_, rfl, unhideR HX, unhideR HW⟩
      · have HX := hideR (unhideR H0 rfl)
        clear H5 H0
        go_wp2
        go_ret
        exact ⟨_, rfl, unhideR HX, unhideR HW⟩
set_option maxRecDepth 100000 in
set_option maxHeartbeats 800000 in
theorem takes_any (a : Nat → Addr) {v : Value} {t : Tr} (lev : Int) {w : World} (hS : Sents w a) (h : TrV w v t) (hl : t.L.length * 8 ≤ 140737488355328) :
    Calls Tryd.prog 22 #[v, .int .i64 lev] w fun e w' => ∃ y : Value, e = .returned y ∧ ErrIs a (evE t lev) y ∧ Below w.heap.size w w' := by
  have hv := h
  obtain ⟨ad, cap, rfl, hi⟩ := h
  have hva := trvalid_ok a _ t (w.alloc (.cells #[.int .i64 t.fr, .int .i64 t.st, .slice ad t.L.length cap] 32)) (hS.below (below_a w _) (Nat.le_refl _)) (hv.below (below_a w _)) hl
  have HS := hideR hS
  have HE : HeldR (trE t ≠ 0 → evE t lev = trE t) := fun e => by unfold evE; rw [if_pos e]
  have HE5 : HeldR (trE t = 0 → hOk lev = false → ErrIs a (evE t lev) (.iface 147 (.pointer (some (a 4))))) := fun e f => by
    have : evE t lev = 5 := by
      unfold evE
      rw [if_neg (by rw [e]; decide), if_pos]
      unfold hOk at f
      rw [Bool.and_eq_false_iff, decide_eq_false_iff_not, decide_eq_false_iff_not] at f
      omega
    rw [this]
    exact err_at 4 (by decide)
  have HE0 : HeldR (trE t = 0 → hOk lev = true → ErrIs a (evE t lev) .nilIface) := fun e f => by
    have : evE t lev = 0 := by
      unfold evE
      rw [if_neg (by rw [e]; decide), if_neg]
      unfold hOk at f
      rw [Bool.and_eq_true, decide_eq_true_eq, decide_eq_true_eq] at f
      omega
    exact .inl ⟨this, rfl⟩
  clear hS hv hi
  go_enter Tryd.func22, Tryd.ntmps22
  go_wp2_with fail
  refine hva.mono ?_
  rintro e w1 ⟨y, rfl, hy, k1⟩
  have HW := hideR (below_go (below_a w (.cells #[.int .i64 t.fr, .int .i64 t.st, .slice ad t.L.length cap] 32)) k1)
  clear k1 hva
  rcases hy with ⟨hy0, rfl⟩ | ⟨k, hk, hyk, rfl⟩
  · have H5 := hideR (unhideR HE5 hy0)
    have H0 := hideR (unhideR HE0 hy0)
    have hih := fun u => isHeight_any lev u
    clear HE HE5 HE0 hy0
    generalize hOk lev = g at *
    go_wp2_with fail
    refine (hih _).mono ?_
    rintro e w2 ⟨rfl, rfl⟩
    clear hih
    cases g
    · have HX := hideR (unhideR H5 rfl)
      have g4 := ((unhideR HS).below (unhideR HW) (Nat.le_refl _)).g4
      clear H5 H0
      go_wp2
      go_ret
      exact ⟨_, rfl, unhideR HX, unhideR HW⟩
    · have HX := hideR (unhideR H0 rfl)
      clear H5 H0
      go_wp2
      go_ret
      exact ⟨_, rfl, unhideR HX, unhideR HW⟩
  · have HX : HeldR (ErrIs a (evE t lev) (.iface 147 (.pointer (some (a k))))) := by
      unfold HeldR
      rw [unhideR HE (by omega), hyk]
      exact err_at k hk
    clear HE HE5 HE0 hyk
    go_wp2
    go_ret
    exact ⟨_, rfl, unhideR HX, unhideR HW⟩
end Go.Proofs.YtlhjmmcimhceeahDoor
