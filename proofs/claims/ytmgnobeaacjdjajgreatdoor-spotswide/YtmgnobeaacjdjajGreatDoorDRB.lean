/-
  Two stretches of spots in order are joined to one. Two stretches of spots in order are joined to one: the second is one spot.
-/
import Derived.Test.YtmgnobeaacjdjajGreatDoorDRA
namespace Go.Proofs.YtmgnobeaacjdjajGreatDoor
open Go Go.RowKit Go.Shelf Go.Lib Go.Sort

def MgPost (k : Nat) (w0 : World) (blk N : Nat) (p : Nat → Sp) (a b : Nat) (e : Ending) (w' : World) : Prop := e = .returned (.tuple #[]) ∧ ∃ q, Done p q a b ∧ Srt k w0 blk N q w'
theorem half_is (x y : Nat) (h : x + y ≤ 1000000) : IntKind.i64.wrap ((x : Int) + (y : Int)) = ((x + y : Nat) : Int) := by
  rw [show (x : Int) + (y : Int) = ((x + y : Nat) : Int) by omega]
  exact iwrap (by omega) (by omega)
set_option maxRecDepth 1000000 in
set_option maxHeartbeats 8000000 in
theorem merge_left {k : Nat} (zE : ∀ w, (Go.sizeOf 36).run Tryz.prog w = .ok k w) {w0 w : World} {blk cap N : Nat} {p : Nat → Sp} (R : Row0 k w0 blk N) (S : Srt k w0 blk N p w) (a m b : Nat) (hma : a + 1 = m) (hb : m < b) (hbN : b ≤ N) (hN : N ≤ 100000) (hT : Two p a m b) :
    Calls Tryz.prog 128 #[.slice (some ⟨blk, 0, none⟩) N cap, .int .i64 (a : Nat), .int .i64 (m : Nat), .int .i64 (b : Nat), .func (.func 48) #[] #[]] w (MgPost k w0 blk N p a b) := by
  have HR := hideR R
  have HT : HeldR (Two p a (a + 1) b) := hideR (by rw [hma]; exact hT)
  have HS0 := hideR S
  have eg := enters2
  have mixed := mixedP
  have aE := aggX
  have w1 : IntKind.i64.wrap ((m : Int) - (a : Int)) = 1 := by rw [show (m : Int) - (a : Int) = 1 by omega]; exact iwrap (by omega) (by omega)
  have HSr0 := hideR (srch0 (fun c => (p c).li ≤ (p a).li) (show m ≤ b by omega))
  have HM := hideR hma
  clear R S hT hma
  go_enter Tryz.func128, Tryz.ntmps128
  go_wp2
  clear w1
  go_loopw [10, 11] (fun iv jv wl => ∃ i j : Nat, iv = .int .i64 (i : Nat) ∧ jv = .int .i64 (j : Nat) ∧ HeldR (Srch (fun c => (p c).li ≤ (p a).li) m b i j) ∧ HeldR (Srt k w0 blk N p wl)) (fun iv jv _ => (intOf jv).toNat - (intOf iv).toNat)
  case atStart => exact ⟨m, b, rfl, rfl, HSr0, HS0⟩
  case round =>
    clear HSr0 HS0
    obtain ⟨i, j, rfl, rfl, HSr, HS⟩ := hrel
    have q1 := (unhideR HSr).h1
    have q2 := (unhideR HSr).h2
    have q3 := (unhideR HSr).h3
    have hma := unhideR HM
    by_cases hij : i < j
    · have t1 : decide ((i : Int) < (j : Int)) = true := decide_eq_true (by omega)
      have t1n : decide (i < j) = true := decide_eq_true hij
      have w2 := half_is i j (by omega)
      obtain ⟨s, hs⟩ : ∃ s, i + j = s := ⟨_, rfl⟩
      rw [hs] at w2
      have hsb : s ≤ 200000 := by omega
      obtain ⟨h, hh⟩ : ∃ h, s / 2 = h := ⟨_, rfl⟩
      have hhI : (s : Int) / 2 = (h : Int) := by omega
      have hh1 : i ≤ h ∧ h < j := by omega
      have wh : IntKind.i64.wrap ((h : Int) + 1) = (h : Int) + 1 := iwrap (by omega) (by omega)
      have jh : (h : Int) < (N : Int) := by omega
      have ja : (a : Int) < (N : Int) := by omega
      obtain ⟨cI, cJ, l1, l2, hc, n1, n2, HG⟩ := comp (unhideR HR) (unhideR HS) (x := h) (y := a) (by omega) (by omega)
      clear hs hh HS hma q1 q2 q3
      by_cases hlt : (p a).li < (p h).li
      · have hneg : cfX (p h) (p a) < 0 := cfX_neg.2 hlt
        generalize cfX (p h) (p a) = c at *
        have HSr2 := hideR ((unhideR HSr).on hh1.1 hh1.2 (fun q => by omega))
        clear HSr hlt
        go_wp2_with fail
        go_quiet_grown (first | (go_at_fn 48; refine Calls.grown_of (hc _ _)))
        have HS2 := hideR (unhideR HG nq osq)
        clear l1 l2 hc n1 n2 HG
        generalize grow (wr.drewN nq) osq = w3 at *
        go_wp2
        exact ⟨⟨h + 1, j, by go_num, rfl, HSr2, HS2⟩, by simp [intOf]; omega⟩
      · have hneg : ¬ cfX (p h) (p a) < 0 := fun q => hlt (cfX_neg.1 q)
        generalize cfX (p h) (p a) = c at *
        have HSr2 := hideR ((unhideR HSr).back hh1.1 hh1.2 (show (p h).li ≤ (p a).li by omega))
        clear HSr hlt
        go_wp2_with fail
        go_quiet_grown (first | (go_at_fn 48; refine Calls.grown_of (hc _ _)))
        have HS2 := hideR (unhideR HG nq osq)
        clear l1 l2 hc n1 n2 HG
        generalize grow (wr.drewN nq) osq = w3 at *
        go_wp2
        exact ⟨⟨i, h, rfl, rfl, HSr2, HS2⟩, by simp [intOf]; omega⟩
    · obtain rfl : i = j := by omega
      have t1 : decide ((i : Int) < (i : Int)) = false := decide_eq_false (by omega)
      have t1n : decide (i < i) = false := decide_eq_false (by omega)
      have HD : HeldR (Done p (mvOn p a i) a b) := hideR (one_left2 (unhideR HT) (by omega) q3 (fun q => by have z := (unhideR HSr).low (by omega); omega) (fun q => by have z := (unhideR HSr).up q; omega))
      have HB0 : HeldR (Srt k w0 blk N (mvOn p a (a + 1)) wr) := hideR (by rw [mv0]; exact unhideR HS)
      have wi : IntKind.i64.wrap ((i : Int) - 1) = (i : Int) - 1 := iwrap (by omega) (by omega)
      clear HS HSr hma
      go_wp2
      go_loopw [13] (fun kv wl => ∃ x : Nat, a ≤ x ∧ x + 1 ≤ i ∧ kv = .int .i64 (x : Nat) ∧ HeldR (Srt k w0 blk N (mvOn p a (x + 1)) wl)) (fun kv _ => 200000 - (intOf kv).toNat)
      case atStart => exact ⟨a, Nat.le_refl _, by have := unhideR HM; omega, rfl, HB0⟩
      case round =>
        clear HB0
        obtain ⟨x, hx1, hx2, rfl, HB⟩ := hrel
        by_cases hx : x + 1 < i
        · have t2 : decide ((x : Int) < (i : Int) - 1) = true := decide_eq_true (by omega)
          have wx : IntKind.i64.wrap ((x : Int) + 1) = (x : Int) + 1 := iwrap (by omega) (by omega)
          have jj1 : (x : Int) + 1 < (N : Int) := by omega
          have jj2 : (x : Int) < (N : Int) := by omega
          have p0 : (0 : Int) ≤ (x : Int) + 1 := by omega
          have e0 : ((x : Int) + 1).toNat = x + 1 := by omega
          obtain ⟨cI, cJ, l1, l2, s1, s2, n1, n2, S3⟩ := exch (unhideR HR) (unhideR HB) (x := x) (y := x + 1) (by omega) (by omega)
          rw [mv_next hx1] at S3
          clear HB
          go_wp2_with fail
          go_big_region_o
          clear l1 l2 s1 s2
          generalize (wr.drew.setCells blk (x * k) cJ).setCells blk ((x + 1) * k) cI = w3 at S3 ⊢
          go_wp2
          exact ⟨⟨x + 1, by omega, by omega, by go_num, S3⟩, by simp [intOf]; omega⟩
        · have t2 : decide ((x : Int) < (i : Int) - 1) = false := decide_eq_false (by omega)
          obtain rfl : i = x + 1 := by omega
          go_wp2
          go_end0
          exact ⟨rfl, _, unhideR HD, unhideR HB⟩
end Go.Proofs.YtmgnobeaacjdjajGreatDoor
namespace Go.Proofs.YtmgnobeaacjdjajGreatDoor
open Go Go.RowKit Go.Shelf Go.Lib Go.Sort

set_option maxRecDepth 1000000 in
set_option maxHeartbeats 8000000 in
theorem merge_right {k : Nat} (zE : ∀ w, (Go.sizeOf 36).run Tryz.prog w = .ok k w) {w0 w : World} {blk cap N : Nat} {p : Nat → Sp} (R : Row0 k w0 blk N) (S : Srt k w0 blk N p w) (a m b : Nat) (ham : a < m) (hma : ¬ m = a + 1) (hb : m + 1 = b) (hbN : b ≤ N) (hN : N ≤ 100000) (hT : Two p a m b) :
    Calls Tryz.prog 128 #[.slice (some ⟨blk, 0, none⟩) N cap, .int .i64 (a : Nat), .int .i64 (m : Nat), .int .i64 (b : Nat), .func (.func 48) #[] #[]] w (MgPost k w0 blk N p a b) := by
  have HR := hideR R
  have HT : HeldR (Two p a m (m + 1)) := hideR (by rw [hb]; exact hT)
  have HS0 := hideR S
  have eg := enters2
  have mixed := mixedP
  have aE := aggX
  obtain ⟨DD, hDD⟩ : ∃ DD, m - a = DD := ⟨_, rfl⟩
  have hD1 : DD ≠ 1 := by omega
  have w0' : IntKind.i64.wrap ((m : Int) - (a : Int)) = (DD : Int) := by rw [show (m : Int) - (a : Int) = (DD : Int) by omega]; exact iwrap (by omega) (by omega)
  have t0' : decide ((DD : Int) = 1) = false := decide_eq_false (by omega)
  have t0n : decide (DD = 1) = false := decide_eq_false hD1
  have tb : ((DD : Int) == 1) = false := beq_eq_false_iff_ne.2 (by omega)
  have w1 : IntKind.i64.wrap ((b : Int) - (m : Int)) = 1 := by rw [show (b : Int) - (m : Int) = 1 by omega]; exact iwrap (by omega) (by omega)
  have HSr0 := hideR (srch0 (fun c => (p c).li < (p m).li) (show a ≤ m by omega))
  have HM := hideR hb
  clear R S hT hma hDD
  go_enter Tryz.func128, Tryz.ntmps128
  go_wp2
  clear w1 w0' t0' t0n hD1
  go_loopw [14, 15] (fun iv jv wl => ∃ i j : Nat, iv = .int .i64 (i : Nat) ∧ jv = .int .i64 (j : Nat) ∧ HeldR (Srch (fun c => (p c).li < (p m).li) a m i j) ∧ HeldR (Srt k w0 blk N p wl)) (fun iv jv _ => (intOf jv).toNat - (intOf iv).toNat)
  case atStart => exact ⟨a, m, rfl, rfl, HSr0, HS0⟩
  case round =>
    clear HSr0 HS0
    obtain ⟨i, j, rfl, rfl, HSr, HS⟩ := hrel
    have q1 := (unhideR HSr).h1
    have q2 := (unhideR HSr).h2
    have q3 := (unhideR HSr).h3
    by_cases hij : i < j
    · have t1 : decide ((i : Int) < (j : Int)) = true := decide_eq_true (by omega)
      have t1n : decide (i < j) = true := decide_eq_true hij
      have w2 := half_is i j (by omega)
      obtain ⟨s, hs⟩ : ∃ s, i + j = s := ⟨_, rfl⟩
      rw [hs] at w2
      have hsb : s ≤ 200000 := by omega
      obtain ⟨h, hh⟩ : ∃ h, s / 2 = h := ⟨_, rfl⟩
      have hhI : (s : Int) / 2 = (h : Int) := by omega
      have hh1 : i ≤ h ∧ h < j := by omega
      have wh : IntKind.i64.wrap ((h : Int) + 1) = (h : Int) + 1 := iwrap (by omega) (by omega)
      have jh : (h : Int) < (N : Int) := by omega
      have jm : (m : Int) < (N : Int) := by omega
      obtain ⟨cI, cJ, l1, l2, hc, n1, n2, HG⟩ := comp (unhideR HR) (unhideR HS) (x := m) (y := h) (by omega) (by omega)
      clear hs hh HS q1 q2 q3
      by_cases hlt : ¬ (p h).li < (p m).li
      · have hneg : ¬ cfX (p m) (p h) < 0 := fun q => hlt (cfX_neg.1 q)
        generalize cfX (p m) (p h) = c at *
        have tc : decide (c < 0) = false := decide_eq_false hneg
        have HSr2 := hideR ((unhideR HSr).on hh1.1 hh1.2 hlt)
        clear HSr hlt
        go_wp2_with fail
        go_quiet_grown (first | (go_at_fn 48; refine Calls.grown_of (hc _ _)))
        have HS2 := hideR (unhideR HG nq osq)
        clear l1 l2 hc n1 n2 HG
        generalize grow (wr.drewN nq) osq = w3 at *
        go_wp2
        exact ⟨⟨h + 1, j, by go_num, rfl, HSr2, HS2⟩, by simp [intOf]; omega⟩
      · have hneg : cfX (p m) (p h) < 0 := cfX_neg.2 (Decidable.not_not.1 hlt)
        generalize cfX (p m) (p h) = c at *
        have tc : decide (c < 0) = true := decide_eq_true hneg
        have HSr2 := hideR ((unhideR HSr).back hh1.1 hh1.2 (Decidable.not_not.1 hlt))
        clear HSr hlt
        go_wp2_with fail
        go_quiet_grown (first | (go_at_fn 48; refine Calls.grown_of (hc _ _)))
        have HS2 := hideR (unhideR HG nq osq)
        clear l1 l2 hc n1 n2 HG
        generalize grow (wr.drewN nq) osq = w3 at *
        go_wp2
        exact ⟨⟨i, h, rfl, rfl, HSr2, HS2⟩, by simp [intOf]; omega⟩
    · obtain rfl : i = j := by omega
      have t1 : decide ((i : Int) < (i : Int)) = false := decide_eq_false (by omega)
      have t1n : decide (i < i) = false := decide_eq_false (by omega)
      have HD : HeldR (Done p (mvBk p i m) a b) := hideR (by
        rw [← unhideR HM]
        exact one_right2 (unhideR HT) q1 q3 (fun q => (unhideR HSr).low q) (fun q => (unhideR HSr).up q))
      have HB0 : HeldR (Srt k w0 blk N (mvBk p m m) wr) := hideR (by rw [bk0]; exact unhideR HS)
      clear HS HSr
      go_wp2
      go_loopw [17] (fun kv wl => ∃ x : Nat, i ≤ x ∧ x ≤ m ∧ kv = .int .i64 (x : Nat) ∧ HeldR (Srt k w0 blk N (mvBk p x m) wl)) (fun kv _ => (intOf kv).toNat)
      case atStart => exact ⟨m, q3, Nat.le_refl _, rfl, HB0⟩
      case round =>
        clear HB0
        obtain ⟨x, hx1, hx2, rfl, HB⟩ := hrel
        by_cases hx : i < x
        · obtain ⟨y, rfl⟩ : ∃ y, x = y + 1 := ⟨x - 1, by omega⟩
          have t2 : decide ((i : Int) < ((y + 1 : Nat) : Int)) = true := decide_eq_true (by omega)
          have t2' : decide ((i : Int) < (y : Int) + 1) = true := decide_eq_true (by omega)
          have t2n : decide (i < y + 1) = true := decide_eq_true hx
          have wx : IntKind.i64.wrap (((y + 1 : Nat) : Int) - 1) = (y : Int) := by rw [show ((y + 1 : Nat) : Int) - 1 = (y : Int) by omega]; exact iwrap (by omega) (by omega)
          have wx2 : IntKind.i64.wrap ((y : Int) + 1 - 1) = (y : Int) := by rw [show (y : Int) + 1 - 1 = (y : Int) by omega]; exact iwrap (by omega) (by omega)
          have wx3 : IntKind.i64.wrap (y : Int) = (y : Int) := iwrap (by omega) (by omega)
          have jj1 : (y : Int) + 1 < (N : Int) := by omega
          have jj2 : (y : Int) < (N : Int) := by omega
          have p0 : (0 : Int) ≤ (y : Int) + 1 := by omega
          have e0 : ((y : Int) + 1).toNat = y + 1 := by omega
          obtain ⟨cI, cJ, l1, l2, s1, s2, n1, n2, S3⟩ := exch (unhideR HR) (unhideR HB) (x := y + 1) (y := y) (by omega) (by omega)
          rw [bk_next hx2] at S3
          clear HB
          go_wp2_with fail
          go_big_region_o
          clear l1 l2 s1 s2
          generalize (wr.drew.setCells blk ((y + 1) * k) cJ).setCells blk (y * k) cI = w3 at S3 ⊢
          go_wp2
          exact ⟨⟨y, by omega, by omega, rfl, S3⟩, by simp [intOf]⟩
        · obtain rfl : i = x := by omega
          have t2 : decide ((i : Int) < (i : Int)) = false := decide_eq_false (by omega)
          have t2n : decide (i < i) = false := decide_eq_false (by omega)
          go_wp2
          go_end0
          exact ⟨rfl, _, unhideR HD, unhideR HB⟩
end Go.Proofs.YtmgnobeaacjdjajGreatDoor
