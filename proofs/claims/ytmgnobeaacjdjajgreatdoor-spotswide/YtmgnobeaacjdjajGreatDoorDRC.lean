/-
  Two stretches of spots in order are joined to one. A row of spots put in order, equal ones am they were.
-/
import Derived.Test.YtmgnobeaacjdjajGreatDoorDRB
import Derived.Deep.CutRange
namespace Go.Proofs.YtmgnobeaacjdjajGreatDoor
open Go Go.RowKit Go.Shelf Go.Lib Go.Sort

def Mg (k : Nat) (w0 : World) (blk cap N fuel : Nat) : Prop := ∀ (a m b : Nat) (w : World) (p : Nat → Sp), b - a ≤ fuel → a < m → m < b → b ≤ N → Srt k w0 blk N p w → Two p a m b → Calls Tryz.prog 128 #[.slice (some ⟨blk, 0, none⟩) N cap, .int .i64 (a : Nat), .int .i64 (m : Nat), .int .i64 (b : Nat), .func (.func 48) #[] #[]] w (MgPost k w0 blk N p a b)
set_option maxRecDepth 1000000 in
set_option maxHeartbeats 8000000 in
theorem merge_more {k : Nat} (zE : ∀ w, (Go.sizeOf 36).run Tryz.prog w = .ok k w) {w0 w : World} {blk cap N fuel : Nat} {p : Nat → Sp} (ih : Mg k w0 blk cap N fuel) (R : Row0 k w0 blk N) (S : Srt k w0 blk N p w) (a m b : Nat) (hf : b - a ≤ fuel + 1) (ham : a < m) (hma : ¬ m = a + 1) (hmb : m < b) (hbm : ¬ m + 1 = b) (hbN : b ≤ N) (hN : N ≤ 100000) (hT : Two p a m b) :
    Calls Tryz.prog 128 #[.slice (some ⟨blk, 0, none⟩) N cap, .int .i64 (a : Nat), .int .i64 (m : Nat), .int .i64 (b : Nat), .func (.func 48) #[] #[]] w (MgPost k w0 blk N p a b) := by
  have HR := hideR R
  have HT := hideR hT
  have HS0 := hideR S
  have HIH := hideR ih
  have HRot : HeldR (∀ (u : World) (st en : Nat), Srt k w0 blk N p u → st < m → m < en → en ≤ N → Calls Tryz.prog 143 #[.slice (some ⟨blk, 0, none⟩) N cap, .int .i64 (st : Nat), .int .i64 (m : Nat), .int .i64 (en : Nat), .func (.func 48) #[] #[]] u fun e w' => e = .returned (.tuple #[]) ∧ Srt k w0 blk N (rot p st m en) w') := hideR (fun u st en s h1 h2 h3 => rotate_any zE R s _ st m en h1 h2 h3 hN)
  have eg := enters2
  have mixed := mixedP
  have aE := aggX
  obtain ⟨D1, hD1⟩ : ∃ D1, m - a = D1 := ⟨_, rfl⟩
  obtain ⟨D2, hD2⟩ : ∃ D2, b - m = D2 := ⟨_, rfl⟩
  have w1 : IntKind.i64.wrap ((m : Int) - (a : Int)) = (D1 : Int) := by rw [show (m : Int) - (a : Int) = (D1 : Int) by omega]; exact iwrap (by omega) (by omega)
  have w2 : IntKind.i64.wrap ((b : Int) - (m : Int)) = (D2 : Int) := by rw [show (b : Int) - (m : Int) = (D2 : Int) by omega]; exact iwrap (by omega) (by omega)
  have tb1 : ((D1 : Int) == 1) = false := beq_eq_false_iff_ne.2 (by omega)
  have tb2 : ((D2 : Int) == 1) = false := beq_eq_false_iff_ne.2 (by omega)
  have ne1 : D1 ≠ 1 := by omega
  have ne2 : D2 ≠ 1 := by omega
  have w3 := half_is a b (by omega)
  obtain ⟨s, hs⟩ : ∃ s, a + b = s := ⟨_, rfl⟩
  rw [hs] at w3
  have hsb : s ≤ 200000 := by omega
  obtain ⟨md, hmd⟩ : ∃ md, s / 2 = md := ⟨_, rfl⟩
  have hmdI : (s : Int) / 2 = (md : Int) := by omega
  have HMd : HeldR (md = (a + b) / 2) := hideR (by rw [hs]; exact hmd.symm)
  have bmd : a < md ∧ md < b := by omega
  have w4 := half_is md m (by omega)
  obtain ⟨n, hn⟩ : ∃ n, md + m = n := ⟨_, rfl⟩
  rw [hn] at w4
  have HNn := hideR hn
  have bn : n ≤ 200000 ∧ 1 ≤ n := by omega
  have w5 : IntKind.i64.wrap ((n : Int) - 1) = ((n - 1 : Nat) : Int) := by rw [show (n : Int) - 1 = ((n - 1 : Nat) : Int) by omega]; exact iwrap (by omega) (by omega)
  obtain ⟨P1, hP1⟩ : ∃ P1, n - 1 = P1 := ⟨_, rfl⟩
  rw [hP1] at w5
  obtain ⟨f, hff⟩ : ∃ f, f = if md < m then md + m - b else a := ⟨_, rfl⟩
  obtain ⟨l, hll⟩ : ∃ l, l = if md < m then md else m := ⟨_, rfl⟩
  have HFf := hideR hff
  have HLl := hideR hll
  have bf : f ≤ l ∧ l ≤ m ∧ l ≤ P1 ∧ P1 ≤ N + f - 1 ∧ 1 ≤ N + f := by
    by_cases c : md < m
    · rw [if_pos c] at hff hll
      omega
    · rw [if_neg c] at hff hll
      omega
  have HCut : HeldR (∀ st, Srch (fun c => (p c).li < (p (P1 - c)).li) f l st st → Cut p a m b st (n - st)) := hideR (fun st q => by
    have := cut_of (st := st) hT hmb (mid := md) (by rw [hs]; exact hmd.symm) hff hll (by rw [hn, hP1]; exact q)
    rw [hn] at this
    exact this)
  have HSr0 : HeldR (Srch (fun c => (p c).li < (p (P1 - c)).li) f l f l) := hideR (srch0 _ bf.1)
  clear R S hT ih hma hbm hD1 hD2 hs hmd hn hP1 hff hll
  go_enter Tryz.func128, Tryz.ntmps128
  go_upto_if 140 with fail
  go_cut [20, 21] from 138 to 146 (fun s20 s21 wx => w = wx ∧ s20 = .int .i64 (f : Nat) ∧ s21 = .int .i64 (l : Nat))
  case' first =>
    by_cases c : md < m
    case' pos =>
      have t1 : decide ((md : Int) < (m : Int)) = true := decide_eq_true (by omega)
      have t1n : decide (md < m) = true := decide_eq_true c
      have wf : IntKind.i64.wrap ((n : Int) - (b : Int)) = (f : Int) := by
        have e := unhideR HFf
        have e2 := unhideR HNn
        have e3 := unhideR HMd
        rw [if_pos c] at e
        rw [show (n : Int) - (b : Int) = (f : Int) by omega]
        exact iwrap (by omega) (by omega)
      have HL2 : HeldR (l = md) := hideR (by have e := unhideR HLl; rw [if_pos c] at e; exact e)
      go_wp2_with fail
      go_meet
      exact ⟨rfl, rfl, by rw [unhideR HL2]⟩
    case' neg =>
      have t1 : decide ((md : Int) < (m : Int)) = false := decide_eq_false (by omega)
      have t1n : decide (md < m) = false := decide_eq_false c
      have HF2 : HeldR (f = a) := hideR (by have e := unhideR HFf; rw [if_neg c] at e; exact e)
      have HL2 : HeldR (l = m) := hideR (by have e := unhideR HLl; rw [if_neg c] at e; exact e)
      go_wp2_with fail
      go_meet
      exact ⟨rfl, by rw [unhideR HF2], by rw [unhideR HL2]⟩
  obtain ⟨rfl, rfl, rfl⟩ := hcut
  clear w1 w2 w3 w4
  go_wp2
  clear w5
  go_loopw [20, 21] (fun iv jv wl => ∃ i j : Nat, iv = .int .i64 (i : Nat) ∧ jv = .int .i64 (j : Nat) ∧ HeldR (Srch (fun c => (p c).li < (p (P1 - c)).li) f l i j) ∧ HeldR (Srt k w0 blk N p wl)) (fun iv jv _ => (intOf jv).toNat - (intOf iv).toNat)
  case atStart => exact ⟨f, l, rfl, rfl, HSr0, HS0⟩
  case round =>
    clear HSr0 HS0
    obtain ⟨i, j, rfl, rfl, HSr, HS⟩ := hrel
    have q1 := (unhideR HSr).h1
    have q2 := (unhideR HSr).h2
    have q3 := (unhideR HSr).h3
    by_cases hij : i < j
    · have t1 : decide ((i : Int) < (j : Int)) = true := decide_eq_true (by omega)
      have t1n : decide (i < j) = true := decide_eq_true hij
      have w2 := half_is i j (by omega)
      obtain ⟨s2, hs2⟩ : ∃ s2, i + j = s2 := ⟨_, rfl⟩
      rw [hs2] at w2
      have hsb2 : s2 ≤ 200000 := by omega
      obtain ⟨h, hh⟩ : ∃ h, s2 / 2 = h := ⟨_, rfl⟩
      have hhI : (s2 : Int) / 2 = (h : Int) := by omega
      have hh1 : i ≤ h ∧ h < j := by omega
      have wh : IntKind.i64.wrap ((h : Int) + 1) = (h : Int) + 1 := iwrap (by omega) (by omega)
      obtain ⟨y, hy⟩ : ∃ y, P1 - h = y := ⟨_, rfl⟩
      have wy : IntKind.i64.wrap ((P1 : Int) - (h : Int)) = (y : Int) := by rw [show (P1 : Int) - (h : Int) = (y : Int) by omega]; exact iwrap (by omega) (by omega)
      have jh : (h : Int) < (N : Int) := by omega
      have jy : (y : Int) < (N : Int) := by omega
      obtain ⟨cI, cJ, l1, l2, hc, n1, n2, HG⟩ := comp (unhideR HR) (unhideR HS) (x := y) (y := h) (by omega) (by omega)
      by_cases hlt : ¬ (p h).li < (p y).li
      · have hneg : ¬ cfX (p y) (p h) < 0 := fun q => hlt (cfX_neg.1 q)
        have HSr2 := hideR ((unhideR HSr).on hh1.1 hh1.2 (by rw [hy]; exact hlt))
        generalize cfX (p y) (p h) = c at *
        have tc : decide (c < 0) = false := decide_eq_false hneg
        clear HSr hlt hs2 hh HS q1 q2 q3 hy
        go_wp2_with fail
        go_quiet_grown (first | (go_at_fn 48; refine Calls.grown_of (hc _ _)))
        have HS2 := hideR (unhideR HG nq osq)
        clear l1 l2 hc n1 n2 HG
        generalize grow (wr.drewN nq) osq = w3 at *
        go_wp2
        exact ⟨⟨h + 1, j, by go_num, rfl, HSr2, HS2⟩, by simp [intOf]; omega⟩
      · have hneg : cfX (p y) (p h) < 0 := cfX_neg.2 (Decidable.not_not.1 hlt)
        have HSr2 := hideR ((unhideR HSr).back hh1.1 hh1.2 (by rw [hy]; exact Decidable.not_not.1 hlt))
        generalize cfX (p y) (p h) = c at *
        have tc : decide (c < 0) = true := decide_eq_true hneg
        clear HSr hlt hs2 hh HS q1 q2 q3 hy
        go_wp2_with fail
        go_quiet_grown (first | (go_at_fn 48; refine Calls.grown_of (hc _ _)))
        have HS2 := hideR (unhideR HG nq osq)
        clear l1 l2 hc n1 n2 HG
        generalize grow (wr.drewN nq) osq = w3 at *
        go_wp2
        exact ⟨⟨i, h, rfl, rfl, HSr2, HS2⟩, by simp [intOf]; omega⟩
    · obtain rfl : i = j := by omega
      have t1 : decide ((i : Int) < (i : Int)) = false := decide_eq_false (by omega)
      have t1n : decide (i < i) = false := decide_eq_false (by omega)
      have hC := unhideR HCut i (unhideR HSr)
      obtain ⟨en, hen⟩ : ∃ en, n - i = en := ⟨_, rfl⟩
      rw [hen] at hC
      have cc1 := hC.h1
      have cc2 := hC.h2
      have cc3 := hC.h3
      have cc4 := hC.h4
      have hmdn := unhideR HNn
      have hmid : i + (en - m) = md := by omega
      have we : IntKind.i64.wrap ((n : Int) - (i : Int)) = (en : Int) := by rw [show (n : Int) - (i : Int) = (en : Int) by omega]; exact iwrap (by omega) (by omega)
      have HC := hideR hC
      have HMi := hideR hmid
      clear HSr hC hen hmdn hmid q1 q2 q3
      go_upto_region 39 with fail
      go_cut [185] from 178 to 184 (fun s185 wx => wr = wx ∧ s185 = .bool (decide (i < m ∧ m < en)))
      case' first =>
        by_cases z1 : i < m
        case' pos =>
          have y1 : decide ((i : Int) < (m : Int)) = true := decide_eq_true (by omega)
          have y1n : decide (i < m) = true := decide_eq_true z1
          by_cases z2 : m < en
          case' pos =>
            have y2 : decide ((m : Int) < (en : Int)) = true := decide_eq_true (by omega)
            have y2n : decide (m < en) = true := decide_eq_true z2
            go_wp2_with fail
            go_meet
            exact ⟨rfl, by rw [decide_eq_true (show i < m ∧ m < en from ⟨z1, z2⟩)]⟩
          case' neg =>
            have y2 : decide ((m : Int) < (en : Int)) = false := decide_eq_false (by omega)
            have y2n : decide (m < en) = false := decide_eq_false z2
            go_wp2_with fail
            go_meet
            exact ⟨rfl, by rw [decide_eq_false (fun q : i < m ∧ m < en => z2 q.2)]⟩
        case' neg =>
          have y1 : decide ((i : Int) < (m : Int)) = false := decide_eq_false (by omega)
          have y1n : decide (i < m) = false := decide_eq_false z1
          go_wp2_with fail
          go_meet
          exact ⟨rfl, by rw [decide_eq_false (fun q : i < m ∧ m < en => z1 q.1)]⟩
      obtain ⟨rfl, rfl⟩ := hcut
      obtain ⟨G185, hG185⟩ : ∃ G185 : Bool, decide (i < m ∧ m < en) = G185 := ⟨_, rfl⟩
      rw [hG185]
      have HG185 := hideR hG185
      clear hG185
      go_upto_if 185 with fail
      go_cut [24] from 186 to 191 (fun s24 wx => s24 = .int .i64 (en : Nat) ∧ HeldR (Srt k w0 blk N (rot p i m en) wx))
      case' first =>
        cases G185
        case' true =>
          have c := of_decide_eq_true (unhideR HG185)
          have hr := unhideR HRot wr i en (unhideR HS) c.1 c.2 (by omega)
          go_wp2_with fail
          refine hr.mono ?_
          rintro e w2 ⟨rfl, S2⟩
          have HS2 := hideR S2
          clear hr S2
          go_wp2_with fail
          go_meet
          exact ⟨rfl, HS2⟩
        case' false =>
          have c := of_decide_eq_false (unhideR HG185)
          have HS2 : HeldR (Srt k w0 blk N (rot p i m en) wr) := hideR (by rw [rot_idle c cc2 cc3]; exact unhideR HS)
          clear c
          go_wp2_with fail
          go_meet
          exact ⟨rfl, HS2⟩
      obtain ⟨rfl, HSa⟩ := hcut
      clear we HS HG185
      go_upto_region 41 with fail
      go_cut [199] from 192 to 198 (fun s199 wx => wc = wx ∧ s199 = .bool (decide (a < i ∧ i < md)))
      case' first =>
        by_cases z1 : a < i
        case' pos =>
          have y1 : decide ((a : Int) < (i : Int)) = true := decide_eq_true (by omega)
          have y1n : decide (a < i) = true := decide_eq_true z1
          by_cases z2 : i < md
          case' pos =>
            have y2 : decide ((i : Int) < (md : Int)) = true := decide_eq_true (by omega)
            have y2n : decide (i < md) = true := decide_eq_true z2
            go_wp2_with fail
            go_meet
            exact ⟨rfl, by rw [decide_eq_true (show a < i ∧ i < md from ⟨z1, z2⟩)]⟩
          case' neg =>
            have y2 : decide ((i : Int) < (md : Int)) = false := decide_eq_false (by omega)
            have y2n : decide (i < md) = false := decide_eq_false z2
            go_wp2_with fail
            go_meet
            exact ⟨rfl, by rw [decide_eq_false (fun q : a < i ∧ i < md => z2 q.2)]⟩
        case' neg =>
          have y1 : decide ((a : Int) < (i : Int)) = false := decide_eq_false (by omega)
          have y1n : decide (a < i) = false := decide_eq_false z1
          go_wp2_with fail
          go_meet
          exact ⟨rfl, by rw [decide_eq_false (fun q : a < i ∧ i < md => z1 q.1)]⟩
      obtain ⟨rfl, rfl⟩ := hcut
      obtain ⟨G199, hG199⟩ : ∃ G199 : Bool, decide (a < i ∧ i < md) = G199 := ⟨_, rfl⟩
      rw [hG199]
      have HG199 := hideR hG199
      clear hG199
      go_upto_if 199 with fail
      go_cut [24] from 200 to 205 (fun s24 wx => s24 = .int .i64 (en : Nat) ∧ HeldR (∃ q, Done (rot p i m en) q a md ∧ Srt k w0 blk N q wx))
      case' first =>
        have T1 : HeldR (Two (rot p i m en) a i md) := hideR (by have := (unhideR HC).first (unhideR HT); rw [unhideR HMi] at this; exact this)
        cases G199
        case' true =>
          have c := of_decide_eq_true (unhideR HG199)
          have hr := unhideR HIH a i md _ (rot p i m en) (by omega) c.1 c.2 (by omega) (unhideR HSa) (unhideR T1)
          go_wp2_with fail
          refine hr.mono ?_
          rintro e w2 ⟨rfl, q, hq, S2⟩
          have HS2 : HeldR (∃ q, Done (rot p i m en) q a md ∧ Srt k w0 blk N q w2) := hideR ⟨q, hq, S2⟩
          clear hr S2 hq
          go_wp2_with fail
          go_meet
          exact ⟨rfl, HS2⟩
        case' false =>
          have c := of_decide_eq_false (unhideR HG199)
          have HS2 : HeldR (∃ q, Done (rot p i m en) q a md ∧ Srt k w0 blk N q wc) := hideR ⟨_, by
            by_cases e : a = i
            · have := unhideR T1
              rw [← e] at this ⊢
              exact this.right
            · have e2 : i = md := by have := unhideR HMi; omega
              have := unhideR T1
              rw [e2] at this ⊢
              exact this.left, unhideR HSa⟩
          clear c
          go_wp2_with fail
          go_meet
          exact ⟨rfl, HS2⟩
      clear HSa HG199
      obtain ⟨rfl, HSb⟩ := hcut
      obtain ⟨q, hq, hSq⟩ := unhideR HSb
      have T2 : HeldR (Two q md en b) := hideR (by
        have := (unhideR HC).second (unhideR HT)
        rw [unhideR HMi] at this
        exact this.kept (fun x h1 h2 => hq.re.out (by omega)) (by have := unhideR HMi; omega) cc4)
      have HJ : HeldR (∀ r, Done q r md b → Done p r a b) := hideR (fun r hr => (unhideR HC).join (unhideR HT) (by rw [unhideR HMi]; exact hq) (by rw [unhideR HMi]; exact hr))
      have HSq := hideR hSq
      clear HSb hq hSq
      by_cases c : md < en ∧ en < b
      · have t2 : decide ((md : Int) < (en : Int)) = true := decide_eq_true (by omega)
        have t2n : decide (md < en) = true := decide_eq_true c.1
        have t3 : decide ((en : Int) < (b : Int)) = true := decide_eq_true (by omega)
        have t3n : decide (en < b) = true := decide_eq_true c.2
        have hr := unhideR HIH md en b _ q (by omega) c.1 c.2 (by omega) (unhideR HSq) (unhideR T2)
        go_wp2_with fail
        refine hr.mono ?_
        rintro e w2 ⟨rfl, r, hr2, S2⟩
        have HS2 : HeldR (∃ q, Done p q a b ∧ Srt k w0 blk N q w2) := hideR ⟨r, unhideR HJ r hr2, S2⟩
        clear hr S2 hr2
        go_wp2
        go_end0
        exact ⟨rfl, unhideR HS2⟩
      · have HS2 : HeldR (∃ q, Done p q a b ∧ Srt k w0 blk N q _) := hideR ⟨q, unhideR HJ q (by
          by_cases e : md = en
          · have := unhideR T2
            rw [← e] at this
            exact this.right
          · obtain rfl : en = b := by have := unhideR HMi; omega
            exact (unhideR T2).left), unhideR HSq⟩
        by_cases c1 : md < en
        · have t2 : decide ((md : Int) < (en : Int)) = true := decide_eq_true (by omega)
          have t2n : decide (md < en) = true := decide_eq_true c1
          have t3 : decide ((en : Int) < (b : Int)) = false := decide_eq_false (by omega)
          have t3n : decide (en < b) = false := decide_eq_false (by omega)
          go_wp2
          go_end0
          exact ⟨rfl, unhideR HS2⟩
        · have t2 : decide ((md : Int) < (en : Int)) = false := decide_eq_false (by omega)
          have t2n : decide (md < en) = false := decide_eq_false c1
          go_wp2
          go_end0
          exact ⟨rfl, unhideR HS2⟩
theorem merge_any {k : Nat} (zE : ∀ w, (Go.sizeOf 36).run Tryz.prog w = .ok k w) {w0 : World} {blk N : Nat} (cap : Nat) (R : Row0 k w0 blk N) (hN : N ≤ 100000) : ∀ fuel, Mg k w0 blk cap N fuel
  | 0 => fun a m b w p h1 h2 h3 _ _ _ => by omega
  | fuel + 1 => fun a m b w p h1 h2 h3 h4 hS hT => by
    by_cases e1 : m = a + 1
    · exact merge_left zE R hS a m b e1.symm h3 h4 hN hT
    · by_cases e2 : m + 1 = b
      · exact merge_right zE R hS a m b h2 e1 e2 h4 hN hT
      · exact merge_more zE (merge_any zE cap R hN fuel) R hS a m b h1 h2 e1 h3 e2 h4 hN hT
end Go.Proofs.YtmgnobeaacjdjajGreatDoor
namespace Go.Proofs.YtmgnobeaacjdjajGreatDoor
open Go Go.RowKit Go.Shelf Go.Lib Go.Sort

/-- where parts begin while the first parts are put in order: up to a, each 20; behind it, everywhere. -/
def Bd1 (a x : Nat) : Prop := x ≤ a → 20 ∣ x
/-- where parts begin while two and two are joined. -/
def Bd2 (s a x : Nat) : Prop := (x ≤ a → 2 * s ∣ x) ∧ s ∣ x
theorem blk_start {p : Nat → Sp} {n : Nat} (h : KUp p 0 n) : Blk (Bd1 0) p n := by
  refine ⟨fun i j h1 h2 no => absurd (fun q => ?_) (no j h1 (Nat.le_refl _)), fun i j x h1 h2 h3 _ => h i j (Nat.zero_le _) (by omega) h3⟩
  omega
theorem blk_up {p : Nat → Sp} {n a b : Nat} (h : Blk (Bd1 a) p n) (hb : b ≤ n) : KUp p a b := fun i j h1 h2 h3 => h.ah i j j h2 (Nat.le_refl _) (by omega) (fun q => by omega)
theorem blk_ins {p q : Nat → Sp} {n a b : Nat} (h : Blk (Bd1 a) p n) (d : Done p q a b) (ha : 20 ∣ a) (hab : b = a + 20) (hb : b ≤ n) : Blk (Bd1 b) q n := by
  have hB : 20 ∣ b := by omega
  refine (h.join d (.inr (fun _ => ha)) (.inr (fun _ => hB)) hb).congr (fun x h1 h2 => ?_)
  unfold Bd1
  constructor
  · intro z
    refine ⟨fun q => z (by omega), fun q => ?_⟩
    have := z (by omega)
    omega
  · rintro ⟨z1, z2⟩ hx
    by_cases e : x ≤ a
    · exact z1 e
    · have : x = b := by omega
      rw [this]
      exact hB
theorem blk_last {p q : Nat → Sp} {n a : Nat} (h : Blk (Bd1 a) p n) (d : Done p q a n) (ha : 20 ∣ a) (hn : n < a + 20) (hb : a ≤ n) : Blk (Bd2 20 0) q n := by
  refine (h.join d (.inr (fun _ => ha)) (.inl rfl) (Nat.le_refl _)).congr (fun x h1 h2 => ?_)
  unfold Bd1 Bd2
  constructor
  · rintro ⟨_, z⟩
    refine ⟨fun _ => z, fun q => ?_⟩
    omega
  · rintro ⟨z1, z2⟩
    refine ⟨fun q => by omega, z1 (by omega)⟩
theorem dvd_mid {s a x : Nat} (ha : 2 * s ∣ a) (hx : s ∣ x) (h1 : a < x) (h2 : x < a + 2 * s) : x = a + s := by
  obtain ⟨c, rfl⟩ := ha
  obtain ⟨d, rfl⟩ := hx
  have e1 : 2 * s * c = s * (2 * c) := by rw [Nat.mul_comm 2 s, Nat.mul_assoc]
  rw [e1] at h1 h2 ⊢
  have e2 : s * (2 * c) + 2 * s = s * (2 * c + 2) := by rw [Nat.mul_add, Nat.mul_comm s 2]
  rw [e2] at h2
  have a1 := Nat.lt_of_mul_lt_mul_left h1
  have a2 := Nat.lt_of_mul_lt_mul_left h2
  obtain rfl : d = 2 * c + 1 := by omega
  rw [Nat.mul_add, Nat.mul_one]
theorem dvd_low {s a x : Nat} (ha : s ∣ a) (hx : s ∣ x) (h1 : a < x) (h2 : x < a + s) : False := by
  obtain ⟨c, rfl⟩ := ha
  obtain ⟨d, rfl⟩ := hx
  rw [show s * c + s = s * (c + 1) by rw [Nat.mul_add, Nat.mul_one]] at h2
  have a1 := Nat.lt_of_mul_lt_mul_left h1
  have a2 := Nat.lt_of_mul_lt_mul_left h2
  omega
theorem dvd_two {s a : Nat} (h : 2 * s ∣ a) : s ∣ a := Nat.dvd_trans ⟨2, Nat.mul_comm 2 s⟩ h
/-- two parts from a on. -/
theorem blk_pair {p : Nat → Sp} {n s a b : Nat} (h : Blk (Bd2 s a) p n) (ha : 2 * s ∣ a) (_hs : 1 ≤ s) (hb : b ≤ n) (h1 : a + s < b) (h2 : b ≤ a + 2 * s) : Two p a (a + s) b := by
  have hsa := dvd_two ha
  refine h.two hb ⟨fun q => by omega, Nat.dvd_add hsa (Nat.dvd_refl s)⟩ (fun x x1 x2 z => dvd_low hsa z.2 x1 x2) (fun x x1 x2 z => ?_) (by omega)
  exact dvd_low (Nat.dvd_add hsa (Nat.dvd_refl s)) z.2 x1 (by omega)
theorem blk_joined {p q : Nat → Sp} {n s a b : Nat} (h : Blk (Bd2 s a) p n) (d : Done p q a b) (ha : 2 * s ∣ a) (hs : 1 ≤ s) (hb : b ≤ n) (h2 : b = a + 2 * s) : Blk (Bd2 s b) q n := by
  have hsa := dvd_two ha
  have hB : 2 * s ∣ b := by rw [h2]; exact Nat.dvd_add ha (Nat.dvd_refl _)
  refine (h.join d (.inr ⟨fun _ => ha, hsa⟩) (.inr ⟨fun q => by omega, dvd_two hB⟩) hb).congr (fun x x1 x2 => ?_)
  unfold Bd2
  constructor
  · rintro ⟨z1, z2⟩
    refine ⟨⟨fun q => z1 (by omega), z2⟩, fun q => ?_⟩
    exact dvd_low ha (z1 (by omega)) q.1 (by omega)
  · rintro ⟨⟨z1, z2⟩, z3⟩
    refine ⟨fun hx => ?_, z2⟩
    by_cases e : x ≤ a
    · exact z1 e
    · have : x = b := by omega
      rw [this]
      exact hB
/-- all two and two are joined: the parts are twice am long. -/
theorem blk_twice {p : Nat → Sp} {n s a : Nat} (h : Blk (Bd2 s a) p n) (ha : 2 * s ∣ a) (hn : n ≤ a + s) : Blk (Bd2 (2 * s) 0) p n := by
  refine h.congr (fun x x1 x2 => ?_)
  have hsa := dvd_two ha
  unfold Bd2
  constructor
  · rintro ⟨_, z⟩
    exact ⟨fun _ => z, dvd_two z⟩
  · rintro ⟨z1, z2⟩
    refine ⟨fun q => by omega, ?_⟩
    by_cases e : x ≤ a
    · exact z1 e
    · exact (dvd_low hsa z2 (by omega) (by omega)).elim
theorem blk_rest {p q : Nat → Sp} {n s a : Nat} (h : Blk (Bd2 s a) p n) (d : Done p q a n) (ha : 2 * s ∣ a) (hn : n < a + 2 * s) : Blk (Bd2 (2 * s) 0) q n := by
  have hsa := dvd_two ha
  refine (h.join d (.inr ⟨fun _ => ha, hsa⟩) (.inl rfl) (Nat.le_refl _)).congr (fun x x1 x2 => ?_)
  unfold Bd2
  constructor
  · rintro ⟨_, z⟩
    refine ⟨⟨fun _ => z, dvd_two z⟩, fun q => ?_⟩
    exact dvd_low ha z q.1 (by omega)
  · rintro ⟨⟨z1, z2⟩, z3⟩
    refine ⟨fun q => by omega, ?_⟩
    by_cases e : x ≤ a
    · exact z1 e
    · omega
theorem blk_done {p : Nat → Sp} {n s : Nat} (h : Blk (Bd2 s 0) p n) (hn : n ≤ s) : Ord p 0 n := fun i j _ h2 h3 => h.ord i j h2 h3 (fun x x1 x2 z => by
  have := Nat.le_of_dvd (by omega) z.2
  omega)
def StPost (k : Nat) (w0 : World) (blk N : Nat) (p : Nat → Sp) (e : Ending) (w' : World) : Prop := e = .returned (.tuple #[]) ∧ ∃ q, Done p q 0 N ∧ Srt k w0 blk N q w'
/-- where it ham come: parts, the same things. -/
def Come (k : Nat) (w0 : World) (blk N : Nat) (Bd : Nat → Prop) (p : Nat → Sp) (u : World) : Prop := ∃ q, Blk Bd q N ∧ Re 0 N p q ∧ Srt k w0 blk N q u
set_option maxRecDepth 1000000 in
set_option maxHeartbeats 8000000 in
theorem stable_any {k : Nat} (zE : ∀ w, (Go.sizeOf 36).run Tryz.prog w = .ok k w) {w0 w : World} {blk N : Nat} (cap : Nat) {p : Nat → Sp} (R : Row0 k w0 blk N) (S : Srt k w0 blk N p w) (hN : N ≤ 100000) (hK : KUp p 0 N) :
    Calls Tryz.prog 79 #[.slice (some ⟨blk, 0, none⟩) N cap, .int .i64 (N : Nat), .func (.func 48) #[] #[]] w (StPost k w0 blk N p) := by
  have HIns : HeldR (∀ (u : World) (q : Nat → Sp) (a b : Nat), a ≤ b → b ≤ N → Srt k w0 blk N q u → KUp q a b → Calls Tryz.prog 127 #[.slice (some ⟨blk, 0, none⟩) N cap, .int .i64 (a : Nat), .int .i64 (b : Nat), .func (.func 48) #[] #[]] u fun e w' => e = .returned (.tuple #[]) ∧ ∃ r, Done q r a b ∧ Srt k w0 blk N r w') := hideR (fun u q a b h1 h2 s h => insertion_any zE R s a b h1 h2 hN h)
  have HMg := hideR (merge_any zE cap R hN 100000)
  have H0 : HeldR (Come k w0 blk N (Bd1 0) p w) := hideR ⟨p, blk_start hK, re_refl _ _ _, S⟩
  clear R S hK zE
  go_enter Tryz.func79, Tryz.ntmps79
  go_wp2
  go_loopw [7, 8] (fun av bv wl => ∃ a : Nat, a ≤ N ∧ HeldR (20 ∣ a) ∧ av = .int .i64 (a : Nat) ∧ bv = .int .i64 ((a : Int) + 20) ∧ HeldR (Come k w0 blk N (Bd1 a) p wl)) (fun av _ _ => 200000 - (intOf av).toNat)
  case atStart => exact ⟨0, by omega, hideR ⟨0, rfl⟩, rfl, rfl, H0⟩
  case round =>
    clear H0
    obtain ⟨a, ha, HA, rfl, rfl, HC⟩ := hrel
    by_cases hb : a + 20 ≤ N
    · have t1 : decide ((a : Int) + 20 ≤ (N : Int)) = true := decide_eq_true (by omega)
      have wb : IntKind.i64.wrap ((a : Int) + 20 + 20) = (a : Int) + 20 + 20 := iwrap (by omega) (by omega)
      obtain ⟨q, hq1, hq2, hq3⟩ := unhideR HC
      have hi := unhideR HIns wr q a (a + 20) (by omega) hb hq3 (blk_up hq1 hb)
      rw [show ((a + 20 : Nat) : Int) = (a : Int) + 20 by omega] at hi
      have HQ : HeldR (Blk (Bd1 a) q N ∧ Re 0 N p q) := hideR ⟨hq1, hq2⟩
      clear HC hq1 hq2 hq3
      go_wp2_with fail
      refine hi.mono ?_
      rintro e w2 ⟨rfl, r, hr, S2⟩
      have HC2 : HeldR (Come k w0 blk N (Bd1 (a + 20)) p w2) := hideR ⟨r, blk_ins (unhideR HQ).1 hr (unhideR HA) rfl hb, (unhideR HQ).2.trans (hr.re.wide (by omega) hb), S2⟩
      have HA2 : HeldR (20 ∣ a + 20) := hideR (by have := unhideR HA; omega)
      clear hi hr S2 HQ
      go_wp2
      exact ⟨⟨a + 20, hb, HA2, by go_num, by go_num, HC2⟩, by simp [intOf]; omega⟩
    · have t1 : decide ((a : Int) + 20 ≤ (N : Int)) = false := decide_eq_false (by omega)
      obtain ⟨q, hq1, hq2, hq3⟩ := unhideR HC
      have hi := unhideR HIns wr q a N ha (Nat.le_refl _) hq3 (blk_up hq1 (Nat.le_refl _))
      have HQ : HeldR (Blk (Bd1 a) q N ∧ Re 0 N p q) := hideR ⟨hq1, hq2⟩
      clear HC hq1 hq2 hq3
      go_wp2_with fail
      refine hi.mono ?_
      rintro e w2 ⟨rfl, r, hr, S2⟩
      have H2 : HeldR (Come k w0 blk N (Bd2 20 0) p w2) := hideR ⟨r, blk_last (unhideR HQ).1 hr (unhideR HA) (by omega) ha, (unhideR HQ).2.trans (hr.re.wide (by omega) (Nat.le_refl _)), S2⟩
      clear hi hr S2 HQ HA t1
      go_wp2
      go_loopw [6] (fun sv wl => ∃ s : Nat, 20 ≤ s ∧ s ≤ 200000 ∧ sv = .int .i64 (s : Nat) ∧ HeldR (Come k w0 blk N (Bd2 s 0) p wl)) (fun sv _ => 400000 - (intOf sv).toNat)
      case atStart => exact ⟨20, by omega, by omega, rfl, H2⟩
      case round =>
        clear H2
        obtain ⟨s, hs1, hs2, rfl, HC⟩ := hrel
        by_cases hsN : s < N
        · have t2 : decide ((s : Int) < (N : Int)) = true := decide_eq_true (by omega)
          have t2n : decide (s < N) = true := decide_eq_true hsN
          have ws : IntKind.i64.wrap (2 * (s : Int)) = 2 * (s : Int) := iwrap (by omega) (by omega)
          have ws2 : IntKind.i64.wrap ((s : Int) * 2) = (s : Int) * 2 := iwrap (by omega) (by omega)
          go_wp2
          go_loopw [7, 8] (fun av bv wl => ∃ a : Nat, a ≤ N ∧ HeldR (2 * s ∣ a) ∧ av = .int .i64 (a : Nat) ∧ bv = .int .i64 ((a : Int) + 2 * (s : Int)) ∧ HeldR (Come k w0 blk N (Bd2 s a) p wl)) (fun av _ _ => 200000 - (intOf av).toNat)
          case atStart => exact ⟨0, by omega, hideR ⟨0, rfl⟩, rfl, by simp, HC⟩
          case round =>
            clear HC
            obtain ⟨a, ha, HA, rfl, rfl, HC⟩ := hrel
            by_cases hb : a + 2 * s ≤ N
            · have t3 : decide ((a : Int) + 2 * (s : Int) ≤ (N : Int)) = true := decide_eq_true (by omega)
              have wa : IntKind.i64.wrap ((a : Int) + (s : Int)) = ((a + s : Nat) : Int) := by rw [show (a : Int) + (s : Int) = ((a + s : Nat) : Int) by omega]; exact iwrap (by omega) (by omega)
              have wb : IntKind.i64.wrap ((a : Int) + 2 * (s : Int) + 2 * (s : Int)) = (a : Int) + 2 * (s : Int) + 2 * (s : Int) := iwrap (by omega) (by omega)
              obtain ⟨q, hq1, hq2, hq3⟩ := unhideR HC
              have hi := unhideR HMg a (a + s) (a + 2 * s) wr q (by omega) (by omega) (by omega) hb hq3 (blk_pair hq1 (unhideR HA) (by omega) hb (by omega) (Nat.le_refl _))
              rw [show ((a + 2 * s : Nat) : Int) = (a : Int) + 2 * (s : Int) by omega] at hi
              have HQ : HeldR (Blk (Bd2 s a) q N ∧ Re 0 N p q) := hideR ⟨hq1, hq2⟩
              obtain ⟨am, ham⟩ : ∃ am, a + s = am := ⟨_, rfl⟩
              rw [ham] at wa hi
              clear HC hq1 hq2 hq3 ham
              go_wp2_with fail
              refine hi.mono ?_
              rintro e w3 ⟨rfl, r, hr, S2⟩
              have HC2 : HeldR (Come k w0 blk N (Bd2 s (a + 2 * s)) p w3) := hideR ⟨r, blk_joined (unhideR HQ).1 hr (unhideR HA) (by omega) hb rfl, (unhideR HQ).2.trans (hr.re.wide (by omega) hb), S2⟩
              have HA2 : HeldR (2 * s ∣ a + 2 * s) := hideR (Nat.dvd_add (unhideR HA) (Nat.dvd_refl _))
              clear hi hr S2 HQ
              go_wp2
              exact ⟨⟨a + 2 * s, hb, HA2, by go_num, by go_num, HC2⟩, by simp [intOf]; omega⟩
            · have t3 : decide ((a : Int) + 2 * (s : Int) ≤ (N : Int)) = false := decide_eq_false (by omega)
              have wa : IntKind.i64.wrap ((a : Int) + (s : Int)) = ((a + s : Nat) : Int) := by rw [show (a : Int) + (s : Int) = ((a + s : Nat) : Int) by omega]; exact iwrap (by omega) (by omega)
              obtain ⟨am, ham⟩ : ∃ am, a + s = am := ⟨_, rfl⟩
              rw [ham] at wa
              by_cases hm : am < N
              · have t4 : decide ((am : Int) < (N : Int)) = true := decide_eq_true (by omega)
                have t4n : decide (am < N) = true := decide_eq_true hm
                obtain ⟨q, hq1, hq2, hq3⟩ := unhideR HC
                have hi := unhideR HMg a am N wr q (by omega) (by omega) hm (Nat.le_refl _) hq3 (by rw [← ham]; exact blk_pair hq1 (unhideR HA) (by omega) (Nat.le_refl _) (by omega) (by omega))
                have HQ : HeldR (Blk (Bd2 s a) q N ∧ Re 0 N p q) := hideR ⟨hq1, hq2⟩
                clear HC hq1 hq2 hq3 ham
                go_wp2_with fail
                refine hi.mono ?_
                rintro e w3 ⟨rfl, r, hr, S2⟩
                have HC2 : HeldR (Come k w0 blk N (Bd2 (2 * s) 0) p w3) := hideR ⟨r, blk_rest (unhideR HQ).1 hr (unhideR HA) (by omega), (unhideR HQ).2.trans (hr.re.wide (by omega) (Nat.le_refl _)), S2⟩
                clear hi hr S2 HQ
                go_wp2
                exact ⟨⟨2 * s, by omega, by omega, by first | go_num | (congr 1; omega), HC2⟩, by simp [intOf]; omega⟩
              · have t4 : decide ((am : Int) < (N : Int)) = false := decide_eq_false (by omega)
                have t4n : decide (am < N) = false := decide_eq_false hm
                have HC2 : HeldR (Come k w0 blk N (Bd2 (2 * s) 0) p wr) := hideR (by
                  obtain ⟨q, hq1, hq2, hq3⟩ := unhideR HC
                  exact ⟨q, blk_twice hq1 (unhideR HA) (by omega), hq2, hq3⟩)
                clear HC ham
                go_wp2
                exact ⟨⟨2 * s, by omega, by omega, by first | go_num | (congr 1; omega), HC2⟩, by simp [intOf]; omega⟩
        · have t2 : decide ((s : Int) < (N : Int)) = false := decide_eq_false (by omega)
          have t2n : decide (s < N) = false := decide_eq_false hsN
          have HD : HeldR (∃ q, Done p q 0 N ∧ Srt k w0 blk N q wr) := hideR (by
            obtain ⟨q, hq1, hq2, hq3⟩ := unhideR HC
            exact ⟨q, ⟨blk_done hq1 (by omega), hq2⟩, hq3⟩)
          clear HC
          go_wp2
          go_end0
          exact ⟨rfl, unhideR HD⟩
theorem sortStable_any {k : Nat} (zE : ∀ w, (Go.sizeOf 36).run Tryz.prog w = .ok k w) {w0 w : World} {blk N : Nat} (cap : Nat) {p : Nat → Sp} (R : Row0 k w0 blk N) (S : Srt k w0 blk N p w) (hN : N ≤ 100000) (hK : KUp p 0 N) :
    Calls Tryz.prog 47 #[.slice (some ⟨blk, 0, none⟩) N cap, .func (.func 48) #[] #[]] w (StPost k w0 blk N p) := by
  have h := stable_any zE cap R S hN hK
  clear R S hK zE
  go_enter Tryz.func47, Tryz.ntmps47
  go_wp2_with fail
  refine h.mono ?_
  rintro e w2 ⟨rfl, hq⟩
  have HQ := hideR hq
  clear h hq
  go_wp2
  go_end0
  exact ⟨rfl, unhideR HQ⟩
end Go.Proofs.YtmgnobeaacjdjajGreatDoor
