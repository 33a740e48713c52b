/-
  A log that is read: the program's Recover; all that logs ask for.
-/
import Derived.Test.YtfonpobdnhifganNgE6
namespace Go.Proofs.Ytfonpobdnhifgan
open Go Go.RowKit

theorem drewL {B : Nat} {w u : World} (h : Below B w u) : Below B w u.drew := ⟨h.os, h.tape, h.output, h.size, h.block⟩
def lenV : Value → Nat
  | .slice _ n _ => n
  | _ => 0
def RcPost (b : Bs) (w : World) (e : Ending) (w' : World) : Prop := ∃ p O, e = .returned (.tuple #[.pointer (some ⟨p, 0, none⟩), .int .i64 ((resV b).length : Nat)]) ∧ LRep w' p (resV b) O ∧ (∀ k, O k → w.heap.size ≤ k) ∧ Below w.heap.size w w'
theorem log_len {b : Bs} {k : Nat} {out : List Res} {s : Nat} (h : LgAt b k out s) (hb : b.length ≤ 2000) (hk : 28 * k ≤ b.length) : out.length ≤ 100 := by
  rw [h.len]
  omega
set_option maxRecDepth 1000000 in
set_option maxHeartbeats 6400000 in
theorem precover_any {w : World} {ad : Option Addr} {cap : Nat} {b : Bs} (hb : BAt w ad b) (hbl : b.length ≤ 2000) (hbc : b.length ≤ cap) :
    Calls Try.prog 10 #[.slice ad b.length cap] w (RcPost b w) := by
  have hnew := pnewlog_any w
  have HA0 : HeldR (∀ u, Below w.heap.size w u → BAt u ad b) := hideR (fun u q => hb.below q)
  have HP : HeldR (∀ (p : Nat) (out : List Res) (u : World) {O : Nat → Prop}, LRep u p out O → (∀ k, O k → w.heap.size ≤ k) → Below w.heap.size w u → out = resV b → RcPost b w (.returned (.tuple #[.pointer (some ⟨p, 0, none⟩), .int .i64 (out.length : Nat)])) u) := hideR (fun p out u O h1 h2 h3 h4 => by subst h4; exact ⟨p, O, rfl, h1, h2, h3⟩)
  obtain ⟨N, hN⟩ : ∃ N, b.length = N := ⟨_, rfl⟩
  have HN := hideR hN
  have HD : HeldR (∀ k, (b.drop (28 * k)).length = N - 28 * k) := hideR (fun k => by rw [List.length_drop, hN])
  have HW0 : HeldR (0 < N - 28 * 0 → ∀ a0, ad = some a0 → a0.block < w.heap.size) := hideR (fun h a0 ha => by
    obtain ⟨b1, o1, e1, hl1, _⟩ := hb.at_ 0 (by omega)
    rw [e1] at ha
    cases ha
    exact hl1)
  generalize RcPost b w = POST at *
  rw [hN] at hbl hbc ⊢
  clear hb hN
  go_enter Try.func10, Try.ntmps10
  go_wp2_with fail
  refine hnew.mono ?_
  rintro e1 u1 ⟨p, O0, rfl, hr0, ho0, k0⟩
  have HR0 := hideR hr0
  have HO0 := hideR ho0
  have HB0 := hideR k0
  have HA1 : HeldR (BAt u1 ad (b.drop (28 * 0))) := hideR (unhideR HA0 u1 k0)
  clear hnew hr0 ho0 k0
  go_wp2_with fail
  go_loopw [0, 5] (fun bv sv wl => ∃ (k s c : Nat) (a : Option Addr) (out : List Res) (O : Nat → Prop), bv = .slice a (N - 28 * k) c ∧ sv = .int .u32 (s : Nat) ∧ 28 * k ≤ N ∧ N - 28 * k ≤ c ∧ s < 4294967296 ∧ HeldR (BAt wl a (b.drop (28 * k))) ∧ HeldR (0 < N - 28 * k → ∀ a0, a = some a0 → a0.block < w.heap.size) ∧ HeldR (LgAt b k out s) ∧ HeldR (LgTo b k out) ∧ HeldR (LRep wl p out O) ∧ HeldR (∀ j, O j → w.heap.size ≤ j) ∧ HeldR (Below w.heap.size w wl)) (fun bv _ _ => lenV bv)
  case atStart => exact ⟨0, 0, cap, ad, [], O0, rfl, rfl, by omega, by omega, by decide, HA1, HW0, hideR (LgAt.start b), hideR (LgTo.start b), HR0, HO0, HB0⟩
  case round =>
    clear HR0 HO0 HB0 HA1 HW0
    obtain ⟨k, s, c, a, out, O, rfl, rfl, hk, hc, hs, HA, HW, HG, HT, HR, HOb, HB⟩ := hrel
    obtain ⟨m, hm⟩ : ∃ m, N - 28 * k = m := ⟨_, rfl⟩
    rw [hm] at hc ⊢
    by_cases q : 28 ≤ m
    case neg =>
      have t28 : decide ((28 : Int) ≤ (m : Int)) = false := decide_eq_false (by omega)
      have t28n : decide (28 ≤ m) = false := decide_eq_false q
      have HE : HeldR (out = resV b) := hideR ((unhideR HT).stop (fun h => absurd h (by have := unhideR HN; omega)))
      clear HA HG HT HA0 HD
      have HQ := hideR (unhideR HP _ _ wr.drew (lrep_keep (unhideR HR) (fun _ _ => rfl)) (unhideR HOb) (drewL (unhideR HB)) (unhideR HE))
      obtain ⟨vl, hxl, _⟩ := unhideR HR
      obtain ⟨al, cl, el⟩ := ownsRow_slice hxl.st
      subst el
      have c0 := (cells_at hxl.hp 0 (by simp)).1
      clear hxl HR HOb HB HE HP
      go_upto_region 9 with fail
      go_region
      go_wp2
      simp [go_sem]
      exact unhideR HQ
    have t28 : decide ((28 : Int) ≤ (m : Int)) = true := decide_eq_true (by omega)
    have t28n : decide (28 ≤ m) = true := decide_eq_true q
    have hk1 : 28 * (k + 1) ≤ b.length := by have := unhideR HN; omega
    have hdl : (b.drop (28 * k)).length = m := by rw [unhideR HD k, hm]
    obtain ⟨bb, off, ha, hbb, _⟩ := (unhideR HA).at_ 0 (by omega)
    subst ha
    have HX : HeldR (BAt wr (some ⟨bb, off, none⟩) (nxB b k)) := hideR (BAt.take (unhideR HA) 24)
    have HC : HeldR (BAt wr (some ⟨bb, off + 24, none⟩) (cxB b k)) := hideR (by
      have := BAt.part (unhideR HA) 24 4
      rwa [List.drop_drop] at this)
    have hxl := nxB_len hk1
    have hcl := cxB_len hk1
    have hsb := pbehind_any (cap := c) s (unhideR HX) hs (by rw [hxl]; decide)
    rw [hxl] at hsb
    have hmi : (24 : Int) ≤ (m : Int) := by omega
    have hmc : 28 ≤ c := by omega
    clear hdl
    go_wp2_with fail
    refine hsb.mono ?_
    rintro e2 u2 ⟨rfl, k2⟩
    replace HX := hideR ((unhideR HX).below k2)
    replace HC := hideR ((unhideR HC).below k2)
    replace HA := hideR ((unhideR HA).below k2)
    replace HR := hideR (lrep_keep (unhideR HR) (fun j hj => k2.block j (lrep_low (unhideR HR) j hj)))
    replace HB := hideR ((unhideR HB).trans (k2.mono (unhideR HB).size))
    have hs2 := sumN_bd s (nxB b k)
    have HNx := hideR ((unhideR HG).next hk1)
    have HGo := hideR ((unhideR HG).go hk1)
    have hfl := fun cc => pfrom_any (cap := cc) (unhideR HC) (by omega)
    rw [hcl] at hfl
    clear hsb k2 hcl
    generalize hsN : sumN s (nxB b k) = s2 at *
    generalize hcN : unLe (cxB b k) = c2 at *
    have hw : IntKind.u64.wrap ((s2 : Nat) : Int) = (s2 : Int) := uwrap (by omega) (by omega)
    clear hsN hcN
    go_wp2_with fail
    refine (hfl _).mono ?_
    rintro e3 u3 ⟨rfl, rfl⟩
    clear hfl HC
    by_cases qe : s2 = c2
    case neg =>
      have tq : ((s2 : Int) != (c2 : Int)) = true := by simp; omega
      have tqn : (s2 != c2) = true := by simpa using qe
      have HE : HeldR (out = resV b) := hideR ((unhideR HT).stop (fun _ h => qe ((unhideR HNx).1 h)))
      clear HA HG HT HA0 HD HX HGo HNx
      have HQ := hideR (unhideR HP _ _ u3.drew (lrep_keep (unhideR HR) (fun _ _ => rfl)) (unhideR HOb) (drewL (unhideR HB)) (unhideR HE))
      obtain ⟨vl, hxl, _⟩ := unhideR HR
      obtain ⟨al, cl, el⟩ := ownsRow_slice hxl.st
      subst el
      have c0 := (cells_at hxl.hp 0 (by simp)).1
      clear hxl HR HOb HB HE HP
      go_upto_region 9 with fail
      go_region
      go_wp2
      simp [go_sem]
      exact unhideR HQ
    subst qe
    have HL := hideR ((unhideR HNx).2 rfl)
    have HG2 := hideR (unhideR HGo rfl)
    have HT2 := hideR ((unhideR HT).go hk1 (unhideR HL))
    have hol := log_len (unhideR HG) (by rw [unhideR HN]; exact hbl) (by omega)
    clear HG HT HGo HNx HL
    have hpr := pres_any (unhideR HX) hxl (show 24 ≤ c by omega)
    unfold Res.val at hpr
    go_wp2_with fail
    refine hpr.mono ?_
    rintro e4 u4 ⟨rfl, k4⟩
    replace HA := hideR ((unhideR HA).below k4)
    replace HR := hideR (lrep_keep (unhideR HR) (fun j hj => k4.block j (lrep_low (unhideR HR) j hj)))
    replace HB := hideR ((unhideR HB).trans (k4.mono (unhideR HB).size))
    have hno := pnote_any (unhideR HR) (show out.length ≤ 4000 by omega) (resAt (nxB b k))
    unfold Res.val at hno
    have HLow := hideR (lrep_low (unhideR HR))
    clear hpr k4 HX hxl
    go_wp2_with fail
    refine hno.mono ?_
    rintro e5 u5 ⟨O2, rfl, hr5, ho5, k5⟩
    have HA5 : HeldR (BAt u5 (some ⟨bb, off, none⟩) (b.drop (28 * k))) := hideR (by
      refine ⟨fun j hj => ?_⟩
      obtain ⟨b', off', e', hl', hc'⟩ := (unhideR HA).at_ j hj
      cases e'
      refine ⟨bb, off, rfl, Nat.lt_of_lt_of_le hl' k5.size, ?_⟩
      refine (World.cell?_of_block (a := ⟨bb, off + j, none⟩) (k5.block bb hl' (fun hO => ?_))).trans hc'
      have h1 := unhideR HOb bb hO
      have h2 : bb < w.heap.size := unhideR HW (by omega) _ rfl
      omega)
    have HB5 : HeldR (Below w.heap.size w u5) := hideR (k5.below (unhideR HOb) (unhideR HB) (Nat.le_refl _))
    have HR5 := hideR hr5
    have HO5 : HeldR (∀ j, O2 j → w.heap.size ≤ j) := hideR (fun j hj => (ho5 j hj).elim (unhideR HOb j) (fun h => Nat.le_trans (unhideR HB).size h))
    clear hno hr5 ho5 k5 HA HR HB HOb HLow
    have hdl : (b.drop (28 * (k + 1))).length = m - 28 := by rw [unhideR HD (k + 1)]; omega
    have HA6 : HeldR (BAt u5 (if c = 28 then some ⟨bb, off, none⟩ else some ⟨bb, off + 28, none⟩) (b.drop (28 * (k + 1)))) := hideR (by
      by_cases qc : c = 28
      · rw [if_pos qc]
        exact ⟨fun j hj => absurd hj (by omega)⟩
      · rw [if_neg qc]
        have := BAt.part (unhideR HA5) 28 (m - 28)
        rw [List.drop_drop, show 28 * k + 28 = 28 * (k + 1) by omega, List.take_of_length_le (by omega)] at this
        exact this)
    have HW6 : HeldR (0 < N - 28 * (k + 1) → ∀ a0, (if c = 28 then some ⟨bb, off, none⟩ else some ⟨bb, off + 28, none⟩ : Option Addr) = some a0 → a0.block < w.heap.size) := hideR (fun _ a0 ha => by
      have h2 : bb < w.heap.size := unhideR HW (by omega) _ rfl
      split at ha <;> cases ha <;> exact h2)
    clear HA5 HW
    go_wp2
    exact ⟨⟨k + 1, s2, c - 28, _, _, O2, congrArg (fun x => Value.slice _ x _) (by omega), rfl, by omega, by omega, hs2, HA6, HW6, HG2, HT2, HR5, HO5, HB5⟩, by simp [lenV]; omega⟩
theorem lg_prog : LgProg LRep where
  low := fun h => lrep_low h
  keep := fun h k => lrep_keep h k
  new := fun w => pnewlog_any w
  note := fun h hl r _ => pnote_any h (by omega) r
  bytes := fun h hl => pbytes_any h hl
  results := fun h hl => presults_any h (by omega)
  recover_ := fun hb h1 h2 => precover_any hb h1 h2
end Go.Proofs.Ytfonpobdnhifgan
