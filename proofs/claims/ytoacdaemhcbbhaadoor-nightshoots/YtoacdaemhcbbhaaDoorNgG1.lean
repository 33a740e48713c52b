/-
  When a job may begin from an instant on: the program's begin, by contract.
-/
import Derived.Test.YtoacdaemhcbbhaaDoorNgF2
import Derived.Test.YtoacdaemhcbbhaaDoorNgM
namespace Go.Proofs.YtoacdaemhcbbhaaDoor
open Go Go.RowKit

/-- the first instant from one on at which a job may begin. -/
def soF (lo t : Int) : List Spn → Option Int
  | [] => none
  | s :: ws => if (if s.f < t then t else s.f) + lo ≤ s.t then some (if s.f < t then t else s.f) else soF lo t ws
def leL (lo : Int) (ws : List Spn) : List Spn := ws.filter fun s => decide (lo ≤ s.t - s.f)
def soQ (lo t : Int) (s : Spn) : Bool := decide (t ≤ s.t - lo)
theorem soF_is (lo t : Int) : ∀ ws : List Spn, soF lo t ws = ((leL lo ws).find? (soQ lo t)).map (fun s => if s.f < t then t else s.f)
  | [] => rfl
  | s :: ws => by
    have ih := soF_is lo t ws
    show (if (if s.f < t then t else s.f) + lo ≤ s.t then some (if s.f < t then t else s.f) else soF lo t ws) = _
    unfold leL at ih ⊢
    rw [List.filter_cons]
    by_cases h1 : lo ≤ s.t - s.f
    · rw [decide_eq_true h1, if_pos rfl, List.find?_cons]
      unfold soQ
      by_cases h2 : t ≤ s.t - lo
      · rw [decide_eq_true h2, if_pos (by split <;> omega)]
        rfl
      · rw [decide_eq_false h2, if_neg (by split <;> omega), ih]
        rfl
    · rw [decide_eq_false h1, if_neg (by split <;> omega), if_neg (by decide), ih]
/-- where something holds from some number on: the first. -/
def IsCut (Q : Nat → Bool) (n : Nat) (k : Nat) : Prop := k ≤ n ∧ (∀ j, j < k → Q j = false) ∧ ∀ j, k ≤ j → j < n → Q j = true
theorem cut_find {lo t : Int} {W : List Spn} {k : Nat} (h : IsCut (fun j => soQ lo t (W.getD j sp0)) W.length k) : W.find? (soQ lo t) = if k < W.length then some (W.getD k sp0) else none := by
  obtain ⟨h1, h2, h3⟩ := h
  have key : ∀ (W : List Spn) (k : Nat), k ≤ W.length → (∀ j, j < k → soQ lo t (W.getD j sp0) = false) → (k < W.length → soQ lo t (W.getD k sp0) = true) → W.find? (soQ lo t) = if k < W.length then some (W.getD k sp0) else none := by
    intro W
    induction W with
    | nil =>
      intro k hk _ _
      rw [if_neg (by simp)]
      rfl
    | cons s W ih =>
      intro k hk g1 g2
      rw [List.find?_cons]
      cases k with
      | zero =>
        have := g2 (by simp)
        have e : (s :: W).getD 0 sp0 = s := rfl
        rw [e] at this
        rw [this, if_pos (by simp)]
        rfl
      | succ k =>
        have e0 := g1 0 (by omega)
        have e : (s :: W).getD 0 sp0 = s := rfl
        rw [e] at e0
        rw [e0]
        have := ih k (by simpa using hk) (fun j hj => g1 (j + 1) (by omega)) (fun hj => g2 (by simpa using hj))
        rw [this]
        by_cases q : k < W.length
        · rw [if_pos q, if_pos (by simpa using q)]
          rfl
        · rw [if_neg q, if_neg (by simpa using q)]
  exact key W k h1 h2 (fun q => h3 k (Nat.le_refl _) q)
set_option maxRecDepth 100000 in
set_option maxHeartbeats 1600000 in
theorem pbeg1_any {W : World} {g : Nat} {lo : Int} (hg : W.heap[g]? = some (.cells #[.int .i64 lo] 3)) (hlo : 1 ≤ lo ∧ lo ≤ 1099511627776) (s : Spn) (hs : -1152921504606846976 ≤ s.t ∧ s.t ≤ 1152921504606846976) (t : Int) :
    Calls Tryd.prog 67 #[.agg #[.int .i64 s.f, .int .i64 s.t], .int .i64 t, .pointer (some ⟨g, 0, none⟩)] W fun e w' => e = .returned (.int .i64 (if soQ lo t s then 1 else -1)) ∧ Below W.heap.size W w' := by
  have z := alloc_last W (.cells #[.int .i64 s.f, .int .i64 s.t] 69)
  have HB := hideR (below_a W (.cells #[.int .i64 s.f, .int .i64 s.t] 69))
  have x1 := (cells_at z 1 (by simp)).1
  have y0 := (cells_at (keepA (o' := .cells #[.int .i64 s.f, .int .i64 s.t] 69) hg) 0 (by simp)).1
  have wr : IntKind.i64.wrap (s.t - lo) = s.t - lo := iwrap (by omega) (by omega)
  unfold soQ
  clear z hg
  by_cases q : t ≤ s.t - lo
  · rw [decide_eq_true q, if_pos rfl]
    have tq : decide (s.t - lo < t) = false := decide_eq_false (by omega)
    go_enter Tryd.func67, Tryd.ntmps67
    go_wp2
    go_ret
    exact ⟨rfl, unhideR HB⟩
  · rw [decide_eq_false q, if_neg (by decide)]
    have tq : decide (s.t - lo < t) = true := decide_eq_true (by omega)
    go_enter Tryd.func67, Tryd.ntmps67
    go_wp2
    go_ret
    exact ⟨rfl, unhideR HB⟩
/-- spans whose ends rise. -/
structure WsOk (W : List Spn) : Prop where
  n : W.length ≤ 4000
  b : ∀ k, k < W.length → -1152921504606846976 ≤ (W.getD k sp0).f ∧ (W.getD k sp0).f < (W.getD k sp0).t ∧ (W.getD k sp0).t ≤ 1152921504606846976
  up : ∀ i j, i < j → j < W.length → (W.getD i sp0).t < (W.getD j sp0).t
def BsPost (Q : Nat → Bool) (n : Nat) (w : World) (e : Ending) (w' : World) : Prop := (∃ (k : Nat) (b : Bool), e = .returned (.tuple #[.int .i64 (k : Nat), .bool b]) ∧ IsCut Q n k) ∧ Below w.heap.size w w'
set_option maxRecDepth 100000 in
set_option maxHeartbeats 6400000 in
theorem pbs_any {w : World} {ad : Option Addr} {cap : Nat} {W : List Spn} (hl : SpCame w ad W) (hW : WsOk W) {g : Nat} {lo : Int} (hg : w.heap[g]? = some (.cells #[.int .i64 lo] 3)) (hlo : 1 ≤ lo ∧ lo ≤ 1099511627776) (t : Int) :
    Calls Tryd.prog 66 #[.slice ad W.length cap, .int .i64 t, .func (.func 67) #[] #[.pointer (some ⟨g, 0, none⟩)]] w (BsPost (fun j => soQ lo t (W.getD j sp0)) W.length w) := by
  have eg : ∀ args w, (callFunc 67 args).run Tryd.prog w = .ok (.enter 67 args) w := enters_of Tryd.func67 (by kernel_rfl) rfl
  have HL : HeldR (∀ u, Below w.heap.size w u → SpCame u ad W) := hideR (fun u q => hl.below q)
  have HC : HeldR (∀ u, Below w.heap.size w u → ∀ k, k < W.length → Calls Tryd.prog 67 #[.agg #[.int .i64 (W.getD k sp0).f, .int .i64 (W.getD k sp0).t], .int .i64 t, .pointer (some ⟨g, 0, none⟩)] u fun e w' => e = .returned (.int .i64 (if soQ lo t (W.getD k sp0) then 1 else -1)) ∧ Below u.heap.size u w') := hideR (fun u hu k hk => pbeg1_any (keepB hg hu) hlo (W.getD k sp0) (by have := hW.b k hk; omega) t)
  have HM : HeldR (∀ i j, i ≤ j → j < W.length → soQ lo t (W.getD i sp0) = true → soQ lo t (W.getD j sp0) = true) := hideR (fun i j h1 h2 h3 => by
    unfold soQ at h3 ⊢
    have h3 := of_decide_eq_true h3
    refine decide_eq_true ?_
    rcases Nat.lt_or_eq_of_le h1 with q | q
    · have := hW.up i j q h2
      omega
    · subst q; exact h3)
  obtain ⟨Q, hQ⟩ : ∃ Q : Nat → Bool, Q = fun j => soQ lo t (W.getD j sp0) := ⟨_, rfl⟩
  have hnl := hW.n
  have HP : HeldR (∀ (k : Nat) b w', IsCut Q W.length k → Below w.heap.size w w' → BsPost Q W.length w (.returned (.tuple #[.int .i64 (k : Nat), .bool b])) w') := hideR (fun k b w' h1 h2 => ⟨⟨k, b, rfl, h1⟩, h2⟩)
  rw [← hQ]
  have HQ : HeldR (∀ j, Q j = soQ lo t (W.getD j sp0)) := hideR (by rw [hQ]; exact fun _ => rfl)
  obtain ⟨n, hn⟩ : ∃ n, W.length = n := ⟨_, rfl⟩
  have Hn := hideR hn
  rw [hn] at HC HM hnl HP ⊢
  generalize BsPost Q n w = BP at *
  clear hl hW hg hQ hn
  go_enter Tryd.func66, Tryd.ntmps66
  go_wp2
  go_loopw [9, 10] (fun iv jv wl => ∃ i j : Nat, i ≤ j ∧ j ≤ n ∧ iv = .int .i64 (i : Nat) ∧ jv = .int .i64 (j : Nat) ∧ HeldR (∀ k, k < i → Q k = false) ∧ HeldR (∀ k, j ≤ k → k < n → Q k = true) ∧ HeldR (Below w.heap.size w wl)) (fun iv jv _ => (intOf jv).toNat - (intOf iv).toNat)
  case atStart => exact ⟨0, n, by omega, Nat.le_refl _, rfl, rfl, hideR (fun k hk => absurd hk (Nat.not_lt_zero k)), hideR (fun k h1 h2 => absurd h1 (by omega)), hideR (Below.refl _ _)⟩
  case round =>
    obtain ⟨i, j, hij, hjn, rfl, rfl, HA, HT, HB⟩ := hrel
    by_cases q : i < j
    case neg =>
      obtain rfl : i = j := by omega
      have ti : decide ((i : Int) < (i : Int)) = false := decide_eq_false (by omega)
      have tin : decide (i < i) = false := decide_eq_false (by omega)
      have HCut : HeldR (IsCut Q n i) := hideR ⟨hjn, unhideR HA, unhideR HT⟩
      by_cases q2 : i < n
      · have tn : decide ((i : Int) < (n : Int)) = true := decide_eq_true (by omega)
        have tnn : decide (i < n) = true := decide_eq_true q2
        have hii : (i : Int) < (n : Int) := by omega
        obtain ⟨bb, off, had, hbb, hS⟩ := (unhideR HL wr (unhideR HB)).at_ i (by rw [unhideR Hn]; exact q2)
        subst had
        have c0 := hS.c0
        have c1 := hS.c1
        have hc := unhideR HC wr (unhideR HB) i q2
        generalize W.getD i sp0 = s at *
        clear hS HC HM HQ HL HA HT
        go_wp2_with fail
        refine hc.mono ?_
        rintro e u ⟨rfl, k⟩
        have HB2 := hideR (below_go (unhideR HB) k)
        generalize (if soQ lo t s = true then (1 : Int) else -1) = z at *
        clear hc k c0 c1 HB
        have HQ2 := hideR (unhideR HP i (z == 0) u (unhideR HCut) (unhideR HB2))
        clear HCut HB2 HP
        go_wp2
        simp [go_sem]
        exact unhideR HQ2
      · have tn : decide ((i : Int) < (n : Int)) = false := decide_eq_false (by omega)
        have tnn : decide (i < n) = false := decide_eq_false q2
        have HQ2 := hideR (unhideR HP i false wr (unhideR HCut) (unhideR HB))
        clear HC HM HQ HL HA HT HCut HB HP
        go_wp2
        simp [go_sem]
        exact unhideR HQ2
    have ti : decide ((i : Int) < (j : Int)) = true := decide_eq_true (by omega)
    have tin : decide (i < j) = true := decide_eq_true q
    obtain ⟨h, hh⟩ : ∃ h, (i + j) / 2 = h := ⟨_, rfl⟩
    have hh1 : i ≤ h := by omega
    have hh2 : h < j := by omega
    have hhn : h < n := by omega
    have hhi : (h : Int) < (n : Int) := by omega
    have w1 : IntKind.i64.wrap ((i : Int) + (j : Int)) = (i : Int) + (j : Int) := iwrap (by omega) (by omega)
    have w4 : IntKind.i64.wrap ((h : Int) + 1) = (h : Int) + 1 := iwrap (by omega) (by omega)
    have e2 : ((i : Int) + (j : Int)) / 2 = (h : Int) := by omega
    obtain ⟨bb, off, had, hbb, hS⟩ := (unhideR HL wr (unhideR HB)).at_ h (by rw [unhideR Hn]; exact hhn)
    subst had
    have c0 := hS.c0
    have c1 := hS.c1
    have hc := unhideR HC wr (unhideR HB) h hhn
    have HQh := hideR (unhideR HQ h)
    clear hS hh
    generalize W.getD h sp0 = s at *
    go_wp2_with fail
    refine hc.mono ?_
    rintro e u ⟨rfl, k⟩
    have HB2 := hideR (below_go (unhideR HB) k)
    clear hc k c0 c1 HB
    cases hq : soQ lo t s
    · have HA2 : HeldR (∀ k, k < h + 1 → Q k = false) := hideR (fun k hk => by
        by_cases e : k = h
        · subst e; rw [unhideR HQh, hq]
        · cases z : Q k
          · rfl
          · rw [unhideR HQ k] at z
            have := unhideR HM k h (by omega) hhn z
            rw [← unhideR HQ h, unhideR HQh, hq] at this
            cases this)
      have tz : decide ((if (false = true) then (1 : Int) else -1) < 0) = true := by decide
      clear HA HC HM HQ HL HQh
      go_wp2
      exact ⟨⟨h + 1, j, by omega, hjn, by go_num, rfl, HA2, HT, HB2⟩, by simp [intOf]; omega⟩
    · have HT2 : HeldR (∀ k, h ≤ k → k < n → Q k = true) := hideR (fun k h1 h2 => by
        rw [unhideR HQ k]
        refine unhideR HM h k h1 h2 ?_
        rw [← unhideR HQ h, unhideR HQh, hq])
      clear HT HC HM HQ HL HQh
      go_wp2
      exact ⟨⟨i, h, hh1, by omega, rfl, rfl, HA, HT2, HB2⟩, by simp [intOf]; omega⟩
end Go.Proofs.YtoacdaemhcbbhaaDoor
