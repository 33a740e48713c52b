/-
  What a plan is worth: the document's WorthOf, by contract.
-/
import Derived.Test.YtoacdaemhcbbhaaDoorNgG4
import Derived.Test.YtoacdaemhcbbhaaDoorNgG6
namespace Go.Proofs.YtoacdaemhcbbhaaDoor
open Go Go.RowKit

/-- slots that came in. -/
structure SlIn (w : World) (ad : Option Addr) (L : List Slt) : Prop where
  at_ : ∀ k, k < L.length → ∃ b off, ad = some ⟨b, off, none⟩ ∧ b < w.heap.size ∧ w.cell? ⟨b, off + k * 2, none⟩ = some (.string (L.getD k sl0).nm) ∧ w.cell? ⟨b, off + k * 2 + 1, none⟩ = some (.int .i64 (L.getD k sl0).fr)
theorem SlIn.below {w v : World} {ad : Option Addr} {L : List Slt} (h : SlIn w ad L) (k : Below w.heap.size w v) : SlIn v ad L := ⟨fun j hj => by
  obtain ⟨b, off, e, hb, h1, h2⟩ := h.at_ j hj
  exact ⟨b, off, e, Nat.lt_of_lt_of_le hb k.size, (k.cell (p := ⟨b, off + j * 2, none⟩) hb).trans h1, (k.cell (p := ⟨b, off + j * 2 + 1, none⟩) hb).trans h2⟩⟩
theorem SlCame.to {w : World} {ad : Option Addr} {L : List Slt} (h : SlCame w ad L) : SlIn w ad L := ⟨fun j hj => by
  obtain ⟨b, e, hb, h1, h2⟩ := h.at_ j hj
  exact ⟨b, 0, e, hb, by rw [Nat.zero_add]; exact h1, by rw [Nat.zero_add]; exact h2⟩⟩
/-- the last job of a name. -/
def kK (l : List Jb) (x : ByteArray) : Nat → Int
  | 0 => -1
  | n + 1 => if eqN (l.getD n jb0).nm x then ((n : Nat) : Int) else kK l x n
/-- when what has that name has gone by. -/
def endK (l : List Jb) (x : ByteArray) (fr : Int) : Nat → Int
  | 0 => fr
  | m + 1 => if eqN (l.getD m jb0).nm x then endK l x fr m + (l.getD m jb0).lo else endK l x fr m
def badB (l : List Jb) (P : List Slt) (i n : Nat) : Bool := eqN (P.getD n sl0).nm (P.getD i sl0).nm || decide ((P.getD i sl0).fr < endK l (P.getD n sl0).nm (P.getD n sl0).fr l.length)
def worK (l : List Jb) (P : List Slt) : Nat → Option Int
  | 0 => some 0
  | i + 1 => match worK l P i with
    | none => none
    | some w => if kK l (P.getD i sl0).nm l.length < 0 then none else if inWB (l.getD (kK l (P.getD i sl0).nm l.length).toNat jb0) (P.getD i sl0).fr = false then none else if anyN (badB l P i) i then none else some (w + (l.getD (kK l (P.getD i sl0).nm l.length).toNat jb0).wo)
theorem worK_none {l : List Jb} {P : List Slt} {i : Nat} (h : worK l P i = none) : ∀ d, worK l P (i + d) = none
  | 0 => h
  | d + 1 => by
    show (match worK l P (i + d) with | none => none | some w => _) = none
    rw [worK_none h d]
theorem in_bd {j : Jb} (hj : j.Ok) {x : Int} (h : inWB j x = true) : -1152921504606846976 ≤ x ∧ x ≤ 1152921504606846976 := by
  obtain ⟨k, h1, h2⟩ := anyN_iff.1 h
  unfold inP at h2
  rw [Bool.and_eq_true, decide_eq_true_eq, decide_eq_true_eq] at h2
  have h3 := ok_bd hj (s := j.ws.getD k sp0) (by rw [List.getD_eq_getElem?_getD, List.getElem?_eq_getElem h1]; exact List.getElem_mem _)
  have := hj.l1
  omega
def RwPost (o : Option Int) (w : World) (e : Ending) (w' : World) : Prop := e = .returned (.tuple #[.int .i64 (o.getD 0), .bool o.isSome]) ∧ Below w.heap.size w w'
set_option maxRecDepth 1000000 in
set_option maxHeartbeats 12800000 in
theorem rworth_any {w : World} {ad pd : Option Addr} {cap pcap : Nat} {l : List Jb} {P : List Slt} (hl : JbCame w ad l) (hp : SlIn w pd P) (hn : l.length ≤ 12) (hpn : P.length ≤ 1000) (hk : ∀ k, k < l.length → (l.getD k jb0).Ok) :
    Calls Tryd.prog 13 #[.slice ad l.length cap, .slice pd P.length pcap] w (RwPost (worK l P P.length) w) := by
  have HOk := hideR hk
  have HJ := hideR hl
  have HS := hideR hp
  have HP1 : HeldR (∀ wo w', worK l P P.length = some wo → Below w.heap.size w w' → RwPost (worK l P P.length) w (.returned (.tuple #[.int .i64 wo, .bool true])) w') := hideR (fun wo w' h1 h2 => by rw [h1]; exact ⟨rfl, h2⟩)
  have HP0 : HeldR (∀ i w', i < P.length → worK l P (i + 1) = none → Below w.heap.size w w' → RwPost (worK l P P.length) w (.returned (.tuple #[.int .i64 0, .bool false])) w') := hideR (fun i w' h0 h1 h2 => by
    have := worK_none h1 (P.length - (i + 1))
    rw [show i + 1 + (P.length - (i + 1)) = P.length by omega] at this
    rw [this]
    exact ⟨rfl, h2⟩)
  generalize RwPost (worK l P P.length) w = POST at *
  have HW0 : HeldR (worK l P 0 = some 0) := hideR rfl
  have HWs : HeldR (∀ i wo, worK l P i = some wo → worK l P (i + 1) = if kK l (P.getD i sl0).nm l.length < 0 then none else if inWB (l.getD (kK l (P.getD i sl0).nm l.length).toNat jb0) (P.getD i sl0).fr = false then none else if anyN (badB l P i) i then none else some (wo + (l.getD (kK l (P.getD i sl0).nm l.length).toNat jb0).wo)) := hideR (fun i wo h => by
    show (match worK l P i with | none => none | some w => _) = _
    rw [h])
  have HKs : HeldR (∀ x n, kK l x (n + 1) = if eqN (l.getD n jb0).nm x then ((n : Nat) : Int) else kK l x n) := hideR (fun _ _ => rfl)
  have HK0 : HeldR (∀ x, kK l x 0 = -1) := hideR (fun _ => rfl)
  have HEs : HeldR (∀ x fr m, endK l x fr (m + 1) = if eqN (l.getD m jb0).nm x then endK l x fr m + (l.getD m jb0).lo else endK l x fr m) := hideR (fun _ _ _ => rfl)
  have HE0 : HeldR (∀ x fr, endK l x fr 0 = fr) := hideR (fun _ _ => rfl)
  have HBd : HeldR (∀ i n, badB l P i n = (eqN (P.getD n sl0).nm (P.getD i sl0).nm || decide ((P.getD i sl0).fr < endK l (P.getD n sl0).nm (P.getD n sl0).fr l.length))) := hideR (fun _ _ => rfl)
  generalize worK l P = WK at *
  generalize kK l = KK at *
  generalize endK l = EK at *
  generalize badB l P = BD at *
  obtain ⟨nn, hn0⟩ : ∃ n, l.length = n := ⟨_, rfl⟩
  have Hn := hideR hn0
  obtain ⟨pl, hp0⟩ : ∃ n, P.length = n := ⟨_, rfl⟩
  have Hpl := hideR hp0
  rw [hn0] at HWs HBd hn HOk
  rw [hp0] at HP1 HP0 hpn
  rw [hn0, hp0]
  clear hl hp hk hn0 hp0
  go_enter Tryd.func13, Tryd.ntmps13
  go_wp2_with fail
  go_loopw [6, 7] (fun wv iv wl => ∃ (i : Nat) (wo : Int), i ≤ pl ∧ wv = .int .i64 wo ∧ iv = .int .i64 (i : Nat) ∧ 0 ≤ wo ∧ wo ≤ (i : Int) * 1099511627776 ∧ HeldR (WK i = some wo) ∧ HeldR (∀ n, n < i → -1152921504606846976 ≤ (P.getD n sl0).fr ∧ (P.getD n sl0).fr ≤ 1152921504606846976) ∧ HeldR (Below w.heap.size w wl)) (fun _ iv _ => pl + 1 - (intOf iv).toNat)
  case atStart => exact ⟨0, 0, by omega, rfl, rfl, by omega, by omega, HW0, hideR (fun n hn => absurd hn (Nat.not_lt_zero n)), hideR (Below.refl _ _)⟩
  case round =>
    clear HW0
    obtain ⟨i, wo, hi, rfl, rfl, hw0, hw1, HW, HF, HB⟩ := hrel
    by_cases q : i < pl
    case neg =>
      obtain rfl : i = pl := by omega
      have ti : decide ((i : Int) < (i : Int)) = false := decide_eq_false (by omega)
      have tin : decide (i < i) = false := decide_eq_false (by omega)
      have HQ := hideR (unhideR HP1 wo wr (unhideR HW) (unhideR HB))
      clear HP1 HP0 HWs HKs HK0 HEs HE0 HBd HJ HS HOk HF HB HW
      go_wp2
      try simp [go_sem]
      exact unhideR HQ
    have ti : decide ((i : Int) < (pl : Int)) = true := decide_eq_true (by omega)
    have tin : decide (i < pl) = true := decide_eq_true q
    have wi : IntKind.i64.wrap ((i : Int) + 1) = (i : Int) + 1 := iwrap (by omega) (by omega)
    have hii : (i : Int) < (pl : Int) := by omega
    obtain ⟨pb, po, hpd, hpb, _⟩ := (unhideR HS).at_ i (by rw [unhideR Hpl]; exact q)
    subst hpd
    have HSc : HeldR (∀ u, Below w.heap.size w u → ∀ n, n < pl → u.cell? ⟨pb, po + n * 2, none⟩ = some (.string (P.getD n sl0).nm) ∧ u.cell? ⟨pb, po + n * 2 + 1, none⟩ = some (.int .i64 (P.getD n sl0).fr)) := hideR (fun u hu n hnp => by
      obtain ⟨b', o', e', hb', h1, h2⟩ := (unhideR HS).at_ n (by rw [unhideR Hpl]; exact hnp)
      cases e'
      exact ⟨(hu.cell (p := ⟨pb, po + n * 2, none⟩) hb').trans h1, (hu.cell (p := ⟨pb, po + n * 2 + 1, none⟩) hb').trans h2⟩)
    have HSi : HeldR (∀ u, Below w.heap.size w u → u.cell? ⟨pb, po + i * 2, none⟩ = some (.string (P.getD i sl0).nm) ∧ u.cell? ⟨pb, po + i * 2 + 1, none⟩ = some (.int .i64 (P.getD i sl0).fr)) := hideR (fun u hu => unhideR HSc u hu i q)
    have HWi := hideR (unhideR HWs i wo (unhideR HW))
    have HBi : HeldR (∀ n, BD i n = (eqN (P.getD n sl0).nm (P.getD i sl0).nm || decide ((P.getD i sl0).fr < EK (P.getD n sl0).nm (P.getD n sl0).fr nn))) := hideR (fun n => unhideR HBd i n)
    have HPi := hideR (fun w' => unhideR HP0 i w' q)
    have HFi : HeldR (-1152921504606846976 ≤ (P.getD i sl0).fr ∧ (P.getD i sl0).fr ≤ 1152921504606846976 → ∀ n, n < i + 1 → -1152921504606846976 ≤ (P.getD n sl0).fr ∧ (P.getD n sl0).fr ≤ 1152921504606846976) := hideR (fun h n hn2 => by
      by_cases e : n = i
      · rw [e]; exact h
      · exact unhideR HF n (by omega))
    clear HS HWs HW HBd HP0
    generalize (P.getD i sl0).nm = x at *
    generalize (P.getD i sl0).fr = fr at *
    have HKx : HeldR (∀ n, KK x (n + 1) = if eqN (l.getD n jb0).nm x then ((n : Nat) : Int) else KK x n) := hideR (fun n => unhideR HKs x n)
    have HKz := hideR (unhideR HK0 x)
    generalize KK x = KX at *
    clear HKs HK0
    go_wp2_with fail
    go_loopw [8, 9] (fun kv nv wl => ∃ (n : Nat) (k : Int), n ≤ nn ∧ kv = .int .i64 k ∧ nv = .int .i64 (n : Nat) ∧ -1 ≤ k ∧ k < (n : Int) ∧ HeldR (KX n = k) ∧ HeldR (Below w.heap.size w wl)) (fun _ nv _ => nn + 1 - (intOf nv).toNat)
    case atStart => exact ⟨0, -1, by omega, rfl, rfl, by omega, by omega, HKz, HB⟩
    case round =>
      clear HKz HB
      obtain ⟨n, k, hnn, rfl, rfl, hk1, hk2, HK, HB⟩ := hrel
      by_cases qn : n < nn
      case pos =>
        have tn : decide ((n : Int) < (nn : Int)) = true := decide_eq_true (by omega)
        have tnn : decide (n < nn) = true := decide_eq_true qn
        have wn : IntKind.i64.wrap ((n : Int) + 1) = (n : Int) + 1 := iwrap (by omega) (by omega)
        have hni : (n : Int) < (nn : Int) := by omega
        obtain ⟨bb, off, had, hbb, hJb⟩ := (unhideR HJ).at_ n (by rw [unhideR Hn]; exact qn)
        subst had
        have HY : HeldR (∀ v, Below wr.heap.size wr v → v.cell? ⟨bb, off + n * 4, none⟩ = some (.string (l.getD n jb0).nm) ∧ v.cell? ⟨pb, po + i * 2, none⟩ = some (.string x) ∧ Below w.heap.size w v) := hideR (fun v hv => by
          have g := below_go (unhideR HB) hv
          exact ⟨(g.cell (p := ⟨bb, off + n * 4, none⟩) hbb).trans hJb.c0, (unhideR HSi v g).1, g⟩)
        have HKn := hideR (unhideR HKx n)
        rw [unhideR HK] at HKn
        clear hJb HB HK
        generalize (l.getD n jb0).nm = y at *
        obtain ⟨cb, hcb⟩ : ∃ cb, eqN y x = cb := ⟨_, rfl⟩
        have hcb2 : (y.toList == x.toList) = cb := hcb
        rw [hcb] at HKn
        clear hcb
        go_upto_region 9 with fail
        refine wp_region_made 0 #[true, true, true, true, true, true, true, true, true, true, false] [.lets (· = .slice (some ⟨bb, off, none⟩) nn cap),
          .lets (· = .int .i64 (n : Nat)),
          .lets (· = .pointer (some ⟨bb, off + n * 4, none⟩)),
          .lets (· = .pointer (some ⟨bb, off + n * 4, none⟩)),
          .lets (· = .string y),
          .lets (· = .slice (some ⟨pb, po, none⟩) pl pcap),
          .lets (· = .int .i64 (i : Nat)),
          .lets (· = .pointer (some ⟨pb, po + i * 2, none⟩)),
          .lets (· = .pointer (some ⟨pb, po + i * 2, none⟩)),
          .lets (· = .string x)] [] [] (by kernel_rfl) (by kernel_rfl) rfl ?kinds (by kernel_rfl) (by kernel_rfl) (by kernel_rfl) ?_
        case kinds =>
          constructor
          · intro i h
            rcases i with _ | _ | _ | _ | _ | _ | _ | _ | _ | _ | i <;> simp [Kx.isMade] at h
          · intro i h
            rcases i with _ | _ | _ | _ | _ | _ | _ | _ | _ | _ | i <;> simp [Kx.isUse] at h
        refine lexX_step (fun K hK => ⟨by kernel_rfl, ⟨_, rfl⟩, fun v hv => ?_, fun v hv => ?_⟩)
        · go_simp
          exact mUpon_b
        subst hv
        go_simp
        refine hK _ ?_
        clear hK K
        refine lexX_step (fun K hK => ⟨by kernel_rfl, ⟨_, rfl⟩, fun v hv => ?_, fun v hv => ?_⟩)
        · go_simp
          exact mUpon_b
        subst hv
        go_simp
        refine hK _ ?_
        clear hK K
        refine lexX_step (fun K hK => ⟨by kernel_rfl, ⟨_, rfl⟩, fun v hv => ?_, fun v hv => ?_⟩)
        · go_simp
          exact mUpon_b
        subst hv
        go_simp
        refine hK _ ?_
        clear hK K
        refine lexX_step (fun K hK => ⟨by kernel_rfl, ⟨_, rfl⟩, fun v hv => ?_, fun v hv => ?_⟩)
        · go_simp
          exact mUpon_b
        subst hv
        go_simp
        refine hK _ ?_
        clear hK K
        refine lexX_step (fun K hK => ⟨by kernel_rfl, ⟨_, rfl⟩, fun v hv => ?_, fun v hv => ?_⟩)
        · have y9 := (unhideR HY v hv).1
          go_simp
          exact mUpon_b
        subst hv
        go_simp
        refine hK _ ?_
        clear hK K
        refine lexX_step (fun K hK => ⟨by kernel_rfl, ⟨_, rfl⟩, fun v hv => ?_, fun v hv => ?_⟩)
        · go_simp
          exact mUpon_b
        subst hv
        go_simp
        refine hK _ ?_
        clear hK K
        refine lexX_step (fun K hK => ⟨by kernel_rfl, ⟨_, rfl⟩, fun v hv => ?_, fun v hv => ?_⟩)
        · go_simp
          exact mUpon_b
        subst hv
        go_simp
        refine hK _ ?_
        clear hK K
        refine lexX_step (fun K hK => ⟨by kernel_rfl, ⟨_, rfl⟩, fun v hv => ?_, fun v hv => ?_⟩)
        · go_simp
          exact mUpon_b
        subst hv
        go_simp
        refine hK _ ?_
        clear hK K
        refine lexX_step (fun K hK => ⟨by kernel_rfl, ⟨_, rfl⟩, fun v hv => ?_, fun v hv => ?_⟩)
        · go_simp
          exact mUpon_b
        subst hv
        go_simp
        refine hK _ ?_
        clear hK K
        refine lexX_step (fun K hK => ⟨by kernel_rfl, ⟨_, rfl⟩, fun v hv => ?_, fun v hv => ?_⟩)
        · have y9 := (unhideR HY v hv).2.1
          go_simp
          exact mUpon_b
        subst hv
        go_simp
        refine hK _ ?_
        clear hK K
        refine lexX_end (fun v5 hv => ?_)
        have HB5 := hideR (unhideR HY v5 hv.low).2.2
        clear hv HY
        refine wpAny_step (i := 10) (by kernel_rfl) rfl (by kernel_rfl) (fun K hK => ?_)
        unfold Oper.wp
        go_simp
        refine hK _ _ ?_
        clear hK K
        refine wpAny_end (by kernel_rfl) ?_
        cases cb
        case false =>
          rw [if_neg (by decide)] at HKn
          go_wp2
          exact ⟨⟨n + 1, k, by omega, rfl, by go_num, by omega, by omega, HKn, HB5⟩, by simp [intOf]; omega⟩
        rw [if_pos rfl] at HKn
        go_wp2
        exact ⟨⟨n + 1, (n : Int), by omega, rfl, by go_num, by omega, by omega, HKn, HB5⟩, by simp [intOf]; omega⟩
      obtain rfl : n = nn := by omega
      have tn : decide ((n : Int) < (n : Int)) = false := decide_eq_false (by omega)
      have tnn : decide (n < n) = false := decide_eq_false (by omega)
      rw [unhideR HK] at HWi
      by_cases qk : k < 0
      · have tk : decide (k < 0) = true := decide_eq_true qk
        rw [if_pos qk] at HWi
        have HQ := hideR (unhideR HPi wr (unhideR HWi) (unhideR HB))
        clear HP1 HPi HKx HEs HE0 HBi HJ HOk HF HFi HB HWi HK HSc HSi
        go_wp2
        try simp [go_sem]
        exact unhideR HQ
      have tk : decide (k < 0) = false := decide_eq_false qk
      rw [if_neg qk] at HWi
      obtain ⟨kn, rfl⟩ : ∃ kn : Nat, k = (kn : Int) := ⟨k.toNat, by omega⟩
      rw [Int.toNat_natCast] at HWi
      have hkn : kn < n := by omega
      have hkni : (kn : Int) < (n : Int) := by omega
      obtain ⟨bb, off, had, hbb, hJb⟩ := (unhideR HJ).at_ kn (by rw [unhideR Hn]; exact hkn)
      subst had
      obtain ⟨a2, c2, hj1, hs2⟩ := hJb.c1
      have hok := unhideR HOk kn hkn
      have HJn : HeldR (∀ u, Below w.heap.size w u → ∀ m, m < n → u.cell? ⟨bb, off + m * 4, none⟩ = some (.string (l.getD m jb0).nm) ∧ u.cell? ⟨bb, off + m * 4 + 2, none⟩ = some (.int .i64 (l.getD m jb0).lo)) := hideR (fun u hu m hm => by
        obtain ⟨b', o', e', hb', h'⟩ := (unhideR HJ).at_ m (by rw [unhideR Hn]; exact hm)
        cases e'
        exact ⟨(hu.cell (p := ⟨bb, off + m * 4, none⟩) hb').trans h'.c0, (hu.cell (p := ⟨bb, off + m * 4 + 2, none⟩) hb').trans h'.c2⟩)
      have HJk : HeldR (∀ u, Below w.heap.size w u → u.cell? ⟨bb, off + kn * 4 + 1, none⟩ = some (.slice a2 (l.getD kn jb0).ws.length c2) ∧ u.cell? ⟨bb, off + kn * 4 + 2, none⟩ = some (.int .i64 (l.getD kn jb0).lo) ∧ u.cell? ⟨bb, off + kn * 4 + 3, none⟩ = some (.int .i64 (l.getD kn jb0).wo) ∧ SpCame u a2 (l.getD kn jb0).ws) := hideR (fun u hu => ⟨(hu.cell (p := ⟨bb, off + kn * 4 + 1, none⟩) hbb).trans hj1, (hu.cell (p := ⟨bb, off + kn * 4 + 2, none⟩) hbb).trans hJb.c2, (hu.cell (p := ⟨bb, off + kn * 4 + 3, none⟩) hbb).trans hJb.c3, hs2.below hu⟩)
      have HLo : HeldR (∀ m, m < n → 1 ≤ (l.getD m jb0).lo ∧ (l.getD m jb0).lo ≤ 1099511627776) := hideR (fun m hm => ⟨(unhideR HOk m hm).l1, (unhideR HOk m hm).l2⟩)
      have HIn : HeldR (inWB (l.getD kn jb0) fr = true → -1152921504606846976 ≤ fr ∧ fr ≤ 1152921504606846976) := hideR (fun h => in_bd hok h)
      have HWr : HeldR (∀ k, k < (l.getD kn jb0).ws.length → -1152921504606846976 ≤ ((l.getD kn jb0).ws.getD k sp0).f ∧ ((l.getD kn jb0).ws.getD k sp0).f < ((l.getD kn jb0).ws.getD k sp0).t ∧ ((l.getD kn jb0).ws.getD k sp0).t ≤ 1152921504606846976) := hideR (fun k h => by have := hok.r k h; unfold Spn.Ok at this; omega)
      have HI0 : HeldR (anyN (inP (l.getD kn jb0) fr) 0 = false) := hideR rfl
      have HIe : HeldR (inWB (l.getD kn jb0) fr = anyN (inP (l.getD kn jb0) fr) (l.getD kn jb0).ws.length) := hideR rfl
      have HIs : HeldR (∀ k, anyN (inP (l.getD kn jb0) fr) (k + 1) = (anyN (inP (l.getD kn jb0) fr) k || (decide (((l.getD kn jb0).ws.getD k sp0).f ≤ fr) && decide (fr ≤ ((l.getD kn jb0).ws.getD k sp0).t - (l.getD kn jb0).lo)))) := hideR (fun _ => rfl)
      have hl1 := hok.l1
      have hl2 := hok.l2
      have hwo1 := hok.w1
      have hwo2 := hok.w2
      have hwn := hok.n
      clear hJb hj1 hs2 hok HJ HOk HK HKx
      generalize l.getD kn jb0 = j at *
      obtain ⟨m, hm⟩ : ∃ m, j.ws.length = m := ⟨_, rfl⟩
      have Hm := hideR hm
      rw [hm] at HJk HWr HIe hwn
      clear hm
      go_wp2_with fail
      go_loopw [10, 11] (fun bv nv wl => ∃ (c : Nat) (b : Bool), c ≤ m ∧ bv = .bool b ∧ nv = .int .i64 (c : Nat) ∧ HeldR (anyN (inP j fr) c = b) ∧ HeldR (Below w.heap.size w wl)) (fun _ nv _ => m + 1 - (intOf nv).toNat)
      case atStart => exact ⟨0, false, by omega, rfl, rfl, HI0, HB⟩
      case round =>
        clear HI0 HB
        obtain ⟨c, b, hcm, rfl, rfl, HI, HB⟩ := hrel
        have y1 := (unhideR HJk wr (unhideR HB)).1
        by_cases qc : c < m
        case pos =>
          have tc : decide ((c : Int) < (m : Int)) = true := decide_eq_true (by omega)
          have tcn : decide (c < m) = true := decide_eq_true qc
          have wc : IntKind.i64.wrap ((c : Int) + 1) = (c : Int) + 1 := iwrap (by omega) (by omega)
          have hci : (c : Int) < (m : Int) := by omega
          have HI2 := hideR (unhideR HIs c)
          rw [unhideR HI] at HI2
          have hr := unhideR HWr c qc
          have hJ2 := unhideR HJk wr (unhideR HB)
          obtain ⟨b2, o2, had2, hb2, hS2⟩ := hJ2.2.2.2.at_ c (by rw [unhideR Hm]; exact qc)
          subst had2
          have s0 := hS2.c0
          have s1 := hS2.c1
          clear hJ2 hS2 HI
          generalize j.ws.getD c sp0 = s at *
          have hba := below_a wr (.cells #[.int .i64 s.f, .int .i64 s.t] 87)
          have z := alloc_last wr (.cells #[.int .i64 s.f, .int .i64 s.t] 87)
          have HB2 := hideR ((unhideR HB).trans (hba.mono (unhideR HB).size))
          have HY : HeldR (∀ v, Below (wr.alloc (.cells #[.int .i64 s.f, .int .i64 s.t] 87)).heap.size (wr.alloc (.cells #[.int .i64 s.f, .int .i64 s.t] 87)) v → v.heap[wr.heap.size]? = some (.cells #[.int .i64 s.f, .int .i64 s.t] 87) ∧ v.cell? ⟨pb, po + i * 2 + 1, none⟩ = some (.int .i64 fr) ∧ v.cell? ⟨bb, off + kn * 4 + 2, none⟩ = some (.int .i64 j.lo) ∧ Below w.heap.size w v) := hideR (fun v hv => by
            have g := (unhideR HB2).trans (hv.mono (unhideR HB2).size)
            exact ⟨keepB z hv, (unhideR HSi v g).2, (unhideR HJk v g).2.1, g⟩)
          have wlo : IntKind.i64.wrap (s.t - j.lo) = s.t - j.lo := iwrap (by omega) (by omega)
          obtain ⟨b1, hb1⟩ : ∃ b1, decide (s.f ≤ fr) = b1 := ⟨_, rfl⟩
          obtain ⟨d2, hd2⟩ : ∃ d2, decide (fr ≤ s.t - j.lo) = d2 := ⟨_, rfl⟩
          rw [hb1, hd2] at HI2
          clear hba z HB HB2
          go_upto_region 18 with fail
          clear s0 s1 y1
          generalize wr.alloc (.cells #[.int .i64 s.f, .int .i64 s.t] 87) = u5 at *
          obtain ⟨Z, hZ⟩ : ∃ Z, wr.heap.size = Z := ⟨_, rfl⟩
          rw [hZ] at HY ⊢
          clear hZ
          cases b
          case true =>
            rw [Bool.true_or] at HI2
            refine wp_region_made 0 #[true, true, true, true, true, true, true, true, true, true, true, true, true, true, true, true, true, true, true, true, true, true, true, true, true, true, true, false] [.lets (· = .bool true),
              .lets (· = .bool true),
              .lets (· = undef),
              .lets (· = undef),
              .lets (· = undef),
              .lets (· = undef),
              .lets (· = undef),
              .lets (· = undef),
              .lets (· = undef),
              .lets (· = undef),
              .lets (· = undef),
              .lets (· = undef),
              .lets (· = undef),
              .lets (· = undef),
              .lets (· = undef),
              .lets (· = undef),
              .lets (· = undef),
              .lets (· = undef),
              .lets (· = undef),
              .lets (· = undef),
              .lets (· = undef),
              .lets (· = undef),
              .lets (· = undef),
              .lets (· = undef),
              .lets (· = undef),
              .lets (· = undef),
              .lets (· = .bool true)] [] [] (by kernel_rfl) (by kernel_rfl) rfl ?kinds (by kernel_rfl) (by kernel_rfl) (by kernel_rfl) ?_
            case kinds =>
              constructor
              · intro i h
                rcases i with _ | _ | _ | _ | _ | _ | _ | _ | _ | _ | _ | _ | _ | _ | _ | _ | _ | _ | _ | _ | _ | _ | _ | _ | _ | _ | _ | i <;> simp [Kx.isMade] at h
              · intro i h
                rcases i with _ | _ | _ | _ | _ | _ | _ | _ | _ | _ | _ | _ | _ | _ | _ | _ | _ | _ | _ | _ | _ | _ | _ | _ | _ | _ | _ | i <;> simp [Kx.isUse] at h
            refine lexX_step (fun K hK => ⟨by kernel_rfl, ⟨_, rfl⟩, fun v hv => ?_, fun v hv => ?_⟩)
            · go_simp
              exact mUpon_b
            subst hv
            go_simp
            refine hK _ ?_
            clear hK K
            refine lexX_step (fun K hK => ⟨by kernel_rfl, ⟨_, rfl⟩, fun v hv => ?_, fun v hv => ?_⟩)
            · go_simp
              exact mUpon_b
            subst hv
            go_simp
            refine hK _ ?_
            clear hK K
            refine lexX_skip (fun K hK => ⟨by kernel_rfl, ?_⟩)
            go_simp
            refine hK _ ?_
            clear hK K
            refine lexX_skip (fun K hK => ⟨by kernel_rfl, ?_⟩)
            go_simp
            refine hK _ ?_
            clear hK K
            refine lexX_skip (fun K hK => ⟨by kernel_rfl, ?_⟩)
            go_simp
            refine hK _ ?_
            clear hK K
            refine lexX_skip (fun K hK => ⟨by kernel_rfl, ?_⟩)
            go_simp
            refine hK _ ?_
            clear hK K
            refine lexX_skip (fun K hK => ⟨by kernel_rfl, ?_⟩)
            go_simp
            refine hK _ ?_
            clear hK K
            refine lexX_skip (fun K hK => ⟨by kernel_rfl, ?_⟩)
            go_simp
            refine hK _ ?_
            clear hK K
            refine lexX_skip (fun K hK => ⟨by kernel_rfl, ?_⟩)
            go_simp
            refine hK _ ?_
            clear hK K
            refine lexX_skip (fun K hK => ⟨by kernel_rfl, ?_⟩)
            go_simp
            refine hK _ ?_
            clear hK K
            refine lexX_skip (fun K hK => ⟨by kernel_rfl, ?_⟩)
            go_simp
            refine hK _ ?_
            clear hK K
            refine lexX_skip (fun K hK => ⟨by kernel_rfl, ?_⟩)
            go_simp
            refine hK _ ?_
            clear hK K
            refine lexX_skip (fun K hK => ⟨by kernel_rfl, ?_⟩)
            go_simp
            refine hK _ ?_
            clear hK K
            refine lexX_skip (fun K hK => ⟨by kernel_rfl, ?_⟩)
            go_simp
            refine hK _ ?_
            clear hK K
            refine lexX_skip (fun K hK => ⟨by kernel_rfl, ?_⟩)
            go_simp
            refine hK _ ?_
            clear hK K
            refine lexX_skip (fun K hK => ⟨by kernel_rfl, ?_⟩)
            go_simp
            refine hK _ ?_
            clear hK K
            refine lexX_skip (fun K hK => ⟨by kernel_rfl, ?_⟩)
            go_simp
            refine hK _ ?_
            clear hK K
            refine lexX_skip (fun K hK => ⟨by kernel_rfl, ?_⟩)
            go_simp
            refine hK _ ?_
            clear hK K
            refine lexX_skip (fun K hK => ⟨by kernel_rfl, ?_⟩)
            go_simp
            refine hK _ ?_
            clear hK K
            refine lexX_skip (fun K hK => ⟨by kernel_rfl, ?_⟩)
            go_simp
            refine hK _ ?_
            clear hK K
            refine lexX_skip (fun K hK => ⟨by kernel_rfl, ?_⟩)
            go_simp
            refine hK _ ?_
            clear hK K
            refine lexX_skip (fun K hK => ⟨by kernel_rfl, ?_⟩)
            go_simp
            refine hK _ ?_
            clear hK K
            refine lexX_skip (fun K hK => ⟨by kernel_rfl, ?_⟩)
            go_simp
            refine hK _ ?_
            clear hK K
            refine lexX_skip (fun K hK => ⟨by kernel_rfl, ?_⟩)
            go_simp
            refine hK _ ?_
            clear hK K
            refine lexX_skip (fun K hK => ⟨by kernel_rfl, ?_⟩)
            go_simp
            refine hK _ ?_
            clear hK K
            refine lexX_skip (fun K hK => ⟨by kernel_rfl, ?_⟩)
            go_simp
            refine hK _ ?_
            clear hK K
            refine lexX_step (fun K hK => ⟨by kernel_rfl, ⟨_, rfl⟩, fun v hv => ?_, fun v hv => ?_⟩)
            · go_simp
              exact mUpon_b
            subst hv
            go_simp
            refine hK _ ?_
            clear hK K
            refine lexX_end (fun v5 hv => ?_)
            have HB5 := hideR (unhideR HY v5 hv.low).2.2.2
            clear hv HY
            refine wpAny_step (i := 27) (by kernel_rfl) rfl (by kernel_rfl) (fun K hK => ?_)
            unfold Oper.wp
            go_simp
            refine hK _ _ ?_
            clear hK K
            refine wpAny_end (by kernel_rfl) ?_
            go_wp2
            exact ⟨⟨c + 1, true, by omega, rfl, by go_num, HI2, HB5⟩, by simp [intOf]; omega⟩
          rw [Bool.false_or] at HI2
          cases b1
          case false =>
            rw [Bool.false_and] at HI2
            refine wp_region_made 0 #[true, true, true, true, true, true, true, true, true, true, true, true, true, true, true, true, true, true, true, true, true, true, true, true, true, true, true, false] [.lets (· = .bool false),
              .lets (· = .bool false),
              .lets (· = .slice (some ⟨pb, po, none⟩) pl pcap),
              .lets (· = .int .i64 (i : Nat)),
              .lets (· = .pointer (some ⟨pb, po + i * 2, none⟩)),
              .lets (· = .pointer (some ⟨pb, po + i * 2 + 1, none⟩)),
              .lets (· = .int .i64 fr),
              .lets (· = .pointer (some ⟨Z, 0, none⟩)),
              .lets (· = .int .i64 s.f),
              .lets (· = .bool false),
              .lets (· = .bool false),
              .lets (· = undef),
              .lets (· = undef),
              .lets (· = undef),
              .lets (· = undef),
              .lets (· = undef),
              .lets (· = undef),
              .lets (· = undef),
              .lets (· = undef),
              .lets (· = undef),
              .lets (· = undef),
              .lets (· = undef),
              .lets (· = undef),
              .lets (· = undef),
              .lets (· = undef),
              .lets (· = .bool false),
              .lets (· = .bool false)] [] [] (by kernel_rfl) (by kernel_rfl) rfl ?kinds (by kernel_rfl) (by kernel_rfl) (by kernel_rfl) ?_
            case kinds =>
              constructor
              · intro i h
                rcases i with _ | _ | _ | _ | _ | _ | _ | _ | _ | _ | _ | _ | _ | _ | _ | _ | _ | _ | _ | _ | _ | _ | _ | _ | _ | _ | _ | i <;> simp [Kx.isMade] at h
              · intro i h
                rcases i with _ | _ | _ | _ | _ | _ | _ | _ | _ | _ | _ | _ | _ | _ | _ | _ | _ | _ | _ | _ | _ | _ | _ | _ | _ | _ | _ | i <;> simp [Kx.isUse] at h
            refine lexX_step (fun K hK => ⟨by kernel_rfl, ⟨_, rfl⟩, fun v hv => ?_, fun v hv => ?_⟩)
            · go_simp
              exact mUpon_b
            subst hv
            go_simp
            refine hK _ ?_
            clear hK K
            refine lexX_step (fun K hK => ⟨by kernel_rfl, ⟨_, rfl⟩, fun v hv => ?_, fun v hv => ?_⟩)
            · go_simp
              exact mUpon_b
            subst hv
            go_simp
            refine hK _ ?_
            clear hK K
            refine lexX_step (fun K hK => ⟨by kernel_rfl, ⟨_, rfl⟩, fun v hv => ?_, fun v hv => ?_⟩)
            · go_simp
              exact mUpon_b
            subst hv
            go_simp
            refine hK _ ?_
            clear hK K
            refine lexX_step (fun K hK => ⟨by kernel_rfl, ⟨_, rfl⟩, fun v hv => ?_, fun v hv => ?_⟩)
            · go_simp
              exact mUpon_b
            subst hv
            go_simp
            refine hK _ ?_
            clear hK K
            refine lexX_step (fun K hK => ⟨by kernel_rfl, ⟨_, rfl⟩, fun v hv => ?_, fun v hv => ?_⟩)
            · go_simp
              exact mUpon_b
            subst hv
            go_simp
            refine hK _ ?_
            clear hK K
            refine lexX_step (fun K hK => ⟨by kernel_rfl, ⟨_, rfl⟩, fun v hv => ?_, fun v hv => ?_⟩)
            · go_simp
              exact mUpon_b
            subst hv
            go_simp
            refine hK _ ?_
            clear hK K
            refine lexX_step (fun K hK => ⟨by kernel_rfl, ⟨_, rfl⟩, fun v hv => ?_, fun v hv => ?_⟩)
            · have y9 := (unhideR HY v hv).2.1
              go_simp
              exact mUpon_b
            subst hv
            go_simp
            refine hK _ ?_
            clear hK K
            refine lexX_step (fun K hK => ⟨by kernel_rfl, ⟨_, rfl⟩, fun v hv => ?_, fun v hv => ?_⟩)
            · go_simp
              exact mUpon_b
            subst hv
            go_simp
            refine hK _ ?_
            clear hK K
            refine lexX_step (fun K hK => ⟨by kernel_rfl, ⟨_, rfl⟩, fun v hv => ?_, fun v hv => ?_⟩)
            · have y9 := (cells_at (unhideR HY v hv).1 0 (by simp)).1
              go_simp
              exact mUpon_b
            subst hv
            go_simp
            refine hK _ ?_
            clear hK K
            refine lexX_step (fun K hK => ⟨by kernel_rfl, ⟨_, rfl⟩, fun v hv => ?_, fun v hv => ?_⟩)
            · go_simp
              exact mUpon_b
            subst hv
            go_simp
            refine hK _ ?_
            clear hK K
            refine lexX_step (fun K hK => ⟨by kernel_rfl, ⟨_, rfl⟩, fun v hv => ?_, fun v hv => ?_⟩)
            · go_simp
              exact mUpon_b
            subst hv
            go_simp
            refine hK _ ?_
            clear hK K
            refine lexX_skip (fun K hK => ⟨by kernel_rfl, ?_⟩)
            go_simp
            refine hK _ ?_
            clear hK K
            refine lexX_skip (fun K hK => ⟨by kernel_rfl, ?_⟩)
            go_simp
            refine hK _ ?_
            clear hK K
            refine lexX_skip (fun K hK => ⟨by kernel_rfl, ?_⟩)
            go_simp
            refine hK _ ?_
            clear hK K
            refine lexX_skip (fun K hK => ⟨by kernel_rfl, ?_⟩)
            go_simp
            refine hK _ ?_
            clear hK K
            refine lexX_skip (fun K hK => ⟨by kernel_rfl, ?_⟩)
            go_simp
            refine hK _ ?_
            clear hK K
            refine lexX_skip (fun K hK => ⟨by kernel_rfl, ?_⟩)
            go_simp
            refine hK _ ?_
            clear hK K
            refine lexX_skip (fun K hK => ⟨by kernel_rfl, ?_⟩)
            go_simp
            refine hK _ ?_
            clear hK K
            refine lexX_skip (fun K hK => ⟨by kernel_rfl, ?_⟩)
            go_simp
            refine hK _ ?_
            clear hK K
            refine lexX_skip (fun K hK => ⟨by kernel_rfl, ?_⟩)
            go_simp
            refine hK _ ?_
            clear hK K
            refine lexX_skip (fun K hK => ⟨by kernel_rfl, ?_⟩)
            go_simp
            refine hK _ ?_
            clear hK K
            refine lexX_skip (fun K hK => ⟨by kernel_rfl, ?_⟩)
            go_simp
            refine hK _ ?_
            clear hK K
            refine lexX_skip (fun K hK => ⟨by kernel_rfl, ?_⟩)
            go_simp
            refine hK _ ?_
            clear hK K
            refine lexX_skip (fun K hK => ⟨by kernel_rfl, ?_⟩)
            go_simp
            refine hK _ ?_
            clear hK K
            refine lexX_skip (fun K hK => ⟨by kernel_rfl, ?_⟩)
            go_simp
            refine hK _ ?_
            clear hK K
            refine lexX_step (fun K hK => ⟨by kernel_rfl, ⟨_, rfl⟩, fun v hv => ?_, fun v hv => ?_⟩)
            · go_simp
              exact mUpon_b
            subst hv
            go_simp
            refine hK _ ?_
            clear hK K
            refine lexX_step (fun K hK => ⟨by kernel_rfl, ⟨_, rfl⟩, fun v hv => ?_, fun v hv => ?_⟩)
            · go_simp
              exact mUpon_b
            subst hv
            go_simp
            refine hK _ ?_
            clear hK K
            refine lexX_end (fun v5 hv => ?_)
            have HB5 := hideR (unhideR HY v5 hv.low).2.2.2
            clear hv HY
            refine wpAny_step (i := 27) (by kernel_rfl) rfl (by kernel_rfl) (fun K hK => ?_)
            unfold Oper.wp
            go_simp
            refine hK _ _ ?_
            clear hK K
            refine wpAny_end (by kernel_rfl) ?_
            go_wp2
            exact ⟨⟨c + 1, false, by omega, rfl, by go_num, HI2, HB5⟩, by simp [intOf]; omega⟩
          case true =>
            rw [Bool.true_and] at HI2
            refine wp_region_made 0 #[true, true, true, true, true, true, true, true, true, true, true, true, true, true, true, true, true, true, true, true, true, true, true, true, true, true, true, false] [.lets (· = .bool false),
              .lets (· = .bool false),
              .lets (· = .slice (some ⟨pb, po, none⟩) pl pcap),
              .lets (· = .int .i64 (i : Nat)),
              .lets (· = .pointer (some ⟨pb, po + i * 2, none⟩)),
              .lets (· = .pointer (some ⟨pb, po + i * 2 + 1, none⟩)),
              .lets (· = .int .i64 fr),
              .lets (· = .pointer (some ⟨Z, 0, none⟩)),
              .lets (· = .int .i64 s.f),
              .lets (· = .bool true),
              .lets (· = .bool true),
              .lets (· = .slice (some ⟨pb, po, none⟩) pl pcap),
              .lets (· = .int .i64 (i : Nat)),
              .lets (· = .pointer (some ⟨pb, po + i * 2, none⟩)),
              .lets (· = .pointer (some ⟨pb, po + i * 2 + 1, none⟩)),
              .lets (· = .int .i64 fr),
              .lets (· = .pointer (some ⟨Z, 1, none⟩)),
              .lets (· = .int .i64 s.t),
              .lets (· = .slice (some ⟨bb, off, none⟩) n cap),
              .lets (· = .int .i64 (kn : Nat)),
              .lets (· = .pointer (some ⟨bb, off + kn * 4, none⟩)),
              .lets (· = .pointer (some ⟨bb, off + kn * 4 + 2, none⟩)),
              .lets (· = .int .i64 j.lo),
              .lets (· = .int .i64 (s.t - j.lo)),
              .lets (· = .bool d2),
              .lets (· = .bool d2),
              .lets (· = .bool d2)] [] [] (by kernel_rfl) (by kernel_rfl) rfl ?kinds (by kernel_rfl) (by kernel_rfl) (by kernel_rfl) ?_
            case kinds =>
              constructor
              · intro i h
                rcases i with _ | _ | _ | _ | _ | _ | _ | _ | _ | _ | _ | _ | _ | _ | _ | _ | _ | _ | _ | _ | _ | _ | _ | _ | _ | _ | _ | i <;> simp [Kx.isMade] at h
              · intro i h
                rcases i with _ | _ | _ | _ | _ | _ | _ | _ | _ | _ | _ | _ | _ | _ | _ | _ | _ | _ | _ | _ | _ | _ | _ | _ | _ | _ | _ | i <;> simp [Kx.isUse] at h
            refine lexX_step (fun K hK => ⟨by kernel_rfl, ⟨_, rfl⟩, fun v hv => ?_, fun v hv => ?_⟩)
            · go_simp
              exact mUpon_b
            subst hv
            go_simp
            refine hK _ ?_
            clear hK K
            refine lexX_step (fun K hK => ⟨by kernel_rfl, ⟨_, rfl⟩, fun v hv => ?_, fun v hv => ?_⟩)
            · go_simp
              exact mUpon_b
            subst hv
            go_simp
            refine hK _ ?_
            clear hK K
            refine lexX_step (fun K hK => ⟨by kernel_rfl, ⟨_, rfl⟩, fun v hv => ?_, fun v hv => ?_⟩)
            · go_simp
              exact mUpon_b
            subst hv
            go_simp
            refine hK _ ?_
            clear hK K
            refine lexX_step (fun K hK => ⟨by kernel_rfl, ⟨_, rfl⟩, fun v hv => ?_, fun v hv => ?_⟩)
            · go_simp
              exact mUpon_b
            subst hv
            go_simp
            refine hK _ ?_
            clear hK K
            refine lexX_step (fun K hK => ⟨by kernel_rfl, ⟨_, rfl⟩, fun v hv => ?_, fun v hv => ?_⟩)
            · go_simp
              exact mUpon_b
            subst hv
            go_simp
            refine hK _ ?_
            clear hK K
            refine lexX_step (fun K hK => ⟨by kernel_rfl, ⟨_, rfl⟩, fun v hv => ?_, fun v hv => ?_⟩)
            · go_simp
              exact mUpon_b
            subst hv
            go_simp
            refine hK _ ?_
            clear hK K
            refine lexX_step (fun K hK => ⟨by kernel_rfl, ⟨_, rfl⟩, fun v hv => ?_, fun v hv => ?_⟩)
            · have y9 := (unhideR HY v hv).2.1
              go_simp
              exact mUpon_b
            subst hv
            go_simp
            refine hK _ ?_
            clear hK K
            refine lexX_step (fun K hK => ⟨by kernel_rfl, ⟨_, rfl⟩, fun v hv => ?_, fun v hv => ?_⟩)
            · go_simp
              exact mUpon_b
            subst hv
            go_simp
            refine hK _ ?_
            clear hK K
            refine lexX_step (fun K hK => ⟨by kernel_rfl, ⟨_, rfl⟩, fun v hv => ?_, fun v hv => ?_⟩)
            · have y9 := (cells_at (unhideR HY v hv).1 0 (by simp)).1
              go_simp
              exact mUpon_b
            subst hv
            go_simp
            refine hK _ ?_
            clear hK K
            refine lexX_step (fun K hK => ⟨by kernel_rfl, ⟨_, rfl⟩, fun v hv => ?_, fun v hv => ?_⟩)
            · go_simp
              exact mUpon_b
            subst hv
            go_simp
            refine hK _ ?_
            clear hK K
            refine lexX_step (fun K hK => ⟨by kernel_rfl, ⟨_, rfl⟩, fun v hv => ?_, fun v hv => ?_⟩)
            · go_simp
              exact mUpon_b
            subst hv
            go_simp
            refine hK _ ?_
            clear hK K
            refine lexX_step (fun K hK => ⟨by kernel_rfl, ⟨_, rfl⟩, fun v hv => ?_, fun v hv => ?_⟩)
            · go_simp
              exact mUpon_b
            subst hv
            go_simp
            refine hK _ ?_
            clear hK K
            refine lexX_step (fun K hK => ⟨by kernel_rfl, ⟨_, rfl⟩, fun v hv => ?_, fun v hv => ?_⟩)
            · go_simp
              exact mUpon_b
            subst hv
            go_simp
            refine hK _ ?_
            clear hK K
            refine lexX_step (fun K hK => ⟨by kernel_rfl, ⟨_, rfl⟩, fun v hv => ?_, fun v hv => ?_⟩)
            · go_simp
              exact mUpon_b
            subst hv
            go_simp
            refine hK _ ?_
            clear hK K
            refine lexX_step (fun K hK => ⟨by kernel_rfl, ⟨_, rfl⟩, fun v hv => ?_, fun v hv => ?_⟩)
            · go_simp
              exact mUpon_b
            subst hv
            go_simp
            refine hK _ ?_
            clear hK K
            refine lexX_step (fun K hK => ⟨by kernel_rfl, ⟨_, rfl⟩, fun v hv => ?_, fun v hv => ?_⟩)
            · have y9 := (unhideR HY v hv).2.1
              go_simp
              exact mUpon_b
            subst hv
            go_simp
            refine hK _ ?_
            clear hK K
            refine lexX_step (fun K hK => ⟨by kernel_rfl, ⟨_, rfl⟩, fun v hv => ?_, fun v hv => ?_⟩)
            · go_simp
              exact mUpon_b
            subst hv
            go_simp
            refine hK _ ?_
            clear hK K
            refine lexX_step (fun K hK => ⟨by kernel_rfl, ⟨_, rfl⟩, fun v hv => ?_, fun v hv => ?_⟩)
            · have y9 := (cells_at (unhideR HY v hv).1 1 (by simp)).1
              go_simp
              exact mUpon_b
            subst hv
            go_simp
            refine hK _ ?_
            clear hK K
            refine lexX_step (fun K hK => ⟨by kernel_rfl, ⟨_, rfl⟩, fun v hv => ?_, fun v hv => ?_⟩)
            · go_simp
              exact mUpon_b
            subst hv
            go_simp
            refine hK _ ?_
            clear hK K
            refine lexX_step (fun K hK => ⟨by kernel_rfl, ⟨_, rfl⟩, fun v hv => ?_, fun v hv => ?_⟩)
            · go_simp
              exact mUpon_b
            subst hv
            go_simp
            refine hK _ ?_
            clear hK K
            refine lexX_step (fun K hK => ⟨by kernel_rfl, ⟨_, rfl⟩, fun v hv => ?_, fun v hv => ?_⟩)
            · go_simp
              exact mUpon_b
            subst hv
            go_simp
            refine hK _ ?_
            clear hK K
            refine lexX_step (fun K hK => ⟨by kernel_rfl, ⟨_, rfl⟩, fun v hv => ?_, fun v hv => ?_⟩)
            · go_simp
              exact mUpon_b
            subst hv
            go_simp
            refine hK _ ?_
            clear hK K
            refine lexX_step (fun K hK => ⟨by kernel_rfl, ⟨_, rfl⟩, fun v hv => ?_, fun v hv => ?_⟩)
            · have y9 := (unhideR HY v hv).2.2.1
              go_simp
              exact mUpon_b
            subst hv
            go_simp
            refine hK _ ?_
            clear hK K
            refine lexX_step (fun K hK => ⟨by kernel_rfl, ⟨_, rfl⟩, fun v hv => ?_, fun v hv => ?_⟩)
            · go_simp
              exact mUpon_b
            subst hv
            go_simp
            refine hK _ ?_
            clear hK K
            refine lexX_step (fun K hK => ⟨by kernel_rfl, ⟨_, rfl⟩, fun v hv => ?_, fun v hv => ?_⟩)
            · go_simp
              exact mUpon_b
            subst hv
            go_simp
            refine hK _ ?_
            clear hK K
            refine lexX_step (fun K hK => ⟨by kernel_rfl, ⟨_, rfl⟩, fun v hv => ?_, fun v hv => ?_⟩)
            · go_simp
              exact mUpon_b
            subst hv
            go_simp
            refine hK _ ?_
            clear hK K
            refine lexX_step (fun K hK => ⟨by kernel_rfl, ⟨_, rfl⟩, fun v hv => ?_, fun v hv => ?_⟩)
            · go_simp
              exact mUpon_b
            subst hv
            go_simp
            refine hK _ ?_
            clear hK K
            refine lexX_end (fun v5 hv => ?_)
            have HB5 := hideR (unhideR HY v5 hv.low).2.2.2
            clear hv HY
            refine wpAny_step (i := 27) (by kernel_rfl) rfl (by kernel_rfl) (fun K hK => ?_)
            unfold Oper.wp
            go_simp
            refine hK _ _ ?_
            clear hK K
            refine wpAny_end (by kernel_rfl) ?_
            go_wp2
            exact ⟨⟨c + 1, d2, by omega, rfl, by go_num, HI2, HB5⟩, by simp [intOf]; omega⟩
        obtain rfl : c = m := by omega
        have tc : decide ((c : Int) < (c : Int)) = false := decide_eq_false (by omega)
        have tcn : decide (c < c) = false := decide_eq_false (by omega)
        rw [unhideR HI] at HIe
        rw [unhideR HIe] at HWi HIn
        cases b
        case false =>
          rw [if_pos rfl] at HWi
          have HQ := hideR (unhideR HPi wr (unhideR HWi) (unhideR HB))
          clear HP1 HPi HEs HE0 HBi HF HFi HB HWi HSc HSi HJn HJk HLo HIn HWr HIs HI HIe
          go_wp2
          try simp [go_sem]
          exact unhideR HQ
        have hfr := unhideR HIn rfl
        rw [if_neg (by decide)] at HWi
        have HFn := hideR (unhideR HFi hfr)
        clear HIn HWr HIs HI HIe HFi
        go_wp2_with fail
        go_loopw [13] (fun nv wl => ∃ d : Nat, d ≤ i ∧ nv = .int .i64 (d : Nat) ∧ HeldR (∀ k, k < d → BD i k = false) ∧ HeldR (Below w.heap.size w wl)) (fun nv _ => i + 1 - (intOf nv).toNat)
        case atStart => exact ⟨0, by omega, rfl, hideR (fun k hk => absurd hk (Nat.not_lt_zero k)), HB⟩
        case round =>
          clear HB y1
          obtain ⟨d, hdi, rfl, HD, HB⟩ := hrel
          by_cases qd : d < i
          case neg =>
            obtain rfl : d = i := by omega
            have td : decide ((d : Int) < (d : Int)) = false := decide_eq_false (by omega)
            have tdn : decide (d < d) = false := decide_eq_false (by omega)
            have hany : anyN (BD d) d = false := Bool.eq_false_iff.2 (fun z => by obtain ⟨k, h1, h2⟩ := anyN_iff.1 z; rw [unhideR HD k h1] at h2; cases h2)
            rw [hany, if_neg (by decide)] at HWi
            have y3 := (unhideR HJk wr (unhideR HB)).2.2.1
            have ww : IntKind.i64.wrap (wo + j.wo) = wo + j.wo := iwrap (by omega) (by omega)
            clear HP1 HPi HEs HE0 HBi HF HSc HSi HJn HJk HLo HD hany
            go_wp2
            exact ⟨⟨d + 1, wo + j.wo, by omega, rfl, by go_num, by omega, by omega, HWi, HFn, HB⟩, by simp [intOf]; omega⟩
          have td : decide ((d : Int) < (i : Int)) = true := decide_eq_true (by omega)
          have tdn : decide (d < i) = true := decide_eq_true qd
          have wd : IntKind.i64.wrap ((d : Int) + 1) = (d : Int) + 1 := iwrap (by omega) (by omega)
          have hdp : (d : Int) < (pl : Int) := by omega
          have hbd := unhideR HF d qd
          have HBd2 := hideR (unhideR HBi d)
          have HY : HeldR (∀ v, Below wr.heap.size wr v → v.cell? ⟨pb, po + d * 2, none⟩ = some (.string (P.getD d sl0).nm) ∧ v.cell? ⟨pb, po + i * 2, none⟩ = some (.string x) ∧ Below w.heap.size w v) := hideR (fun v hv => by
            have g := below_go (unhideR HB) hv
            exact ⟨(unhideR HSc v g d (by omega)).1, (unhideR HSi v g).1, g⟩)
          have HSd : HeldR (∀ u, Below w.heap.size w u → u.cell? ⟨pb, po + d * 2, none⟩ = some (.string (P.getD d sl0).nm) ∧ u.cell? ⟨pb, po + d * 2 + 1, none⟩ = some (.int .i64 (P.getD d sl0).fr)) := hideR (fun u hu => unhideR HSc u hu d (by omega))
          have HBad : HeldR (BD i d = true → ∀ v, Below w.heap.size w v → POST (.returned (.tuple #[.int .i64 0, .bool false])) v) := hideR (fun h v hv => unhideR HPi v (by rw [unhideR HWi, anyN_iff.2 ⟨d, qd, h⟩, if_pos rfl]) hv)
          have HGood : HeldR (BD i d = false → ∀ k, k < d + 1 → BD i k = false) := hideR (fun h k hk => by
            by_cases e : k = d
            · rw [e]; exact h
            · exact unhideR HD k (by omega))
          clear HB HD
          generalize (P.getD d sl0).nm = yd at *
          generalize (P.getD d sl0).fr = frd at *
          obtain ⟨cb, hcb⟩ : ∃ cb, eqN yd x = cb := ⟨_, rfl⟩
          have hcb2 : (yd.toList == x.toList) = cb := hcb
          rw [hcb] at HBd2
          clear hcb
          go_upto_region 24 with fail
          refine wp_region_made 0 #[true, true, true, true, true, true, true, true, true, true, false] [.lets (· = .slice (some ⟨pb, po, none⟩) pl pcap),
            .lets (· = .int .i64 (d : Nat)),
            .lets (· = .pointer (some ⟨pb, po + d * 2, none⟩)),
            .lets (· = .pointer (some ⟨pb, po + d * 2, none⟩)),
            .lets (· = .string yd),
            .lets (· = .slice (some ⟨pb, po, none⟩) pl pcap),
            .lets (· = .int .i64 (i : Nat)),
            .lets (· = .pointer (some ⟨pb, po + i * 2, none⟩)),
            .lets (· = .pointer (some ⟨pb, po + i * 2, none⟩)),
            .lets (· = .string x)] [] [] (by kernel_rfl) (by kernel_rfl) rfl ?kinds (by kernel_rfl) (by kernel_rfl) (by kernel_rfl) ?_
          case kinds =>
            constructor
            · intro i h
              rcases i with _ | _ | _ | _ | _ | _ | _ | _ | _ | _ | i <;> simp [Kx.isMade] at h
            · intro i h
              rcases i with _ | _ | _ | _ | _ | _ | _ | _ | _ | _ | i <;> simp [Kx.isUse] at h
          refine lexX_step (fun K hK => ⟨by kernel_rfl, ⟨_, rfl⟩, fun v hv => ?_, fun v hv => ?_⟩)
          · go_simp
            exact mUpon_b
          subst hv
          go_simp
          refine hK _ ?_
          clear hK K
          refine lexX_step (fun K hK => ⟨by kernel_rfl, ⟨_, rfl⟩, fun v hv => ?_, fun v hv => ?_⟩)
          · go_simp
            exact mUpon_b
          subst hv
          go_simp
          refine hK _ ?_
          clear hK K
          refine lexX_step (fun K hK => ⟨by kernel_rfl, ⟨_, rfl⟩, fun v hv => ?_, fun v hv => ?_⟩)
          · go_simp
            exact mUpon_b
          subst hv
          go_simp
          refine hK _ ?_
          clear hK K
          refine lexX_step (fun K hK => ⟨by kernel_rfl, ⟨_, rfl⟩, fun v hv => ?_, fun v hv => ?_⟩)
          · go_simp
            exact mUpon_b
          subst hv
          go_simp
          refine hK _ ?_
          clear hK K
          refine lexX_step (fun K hK => ⟨by kernel_rfl, ⟨_, rfl⟩, fun v hv => ?_, fun v hv => ?_⟩)
          · have y9 := (unhideR HY v hv).1
            go_simp
            exact mUpon_b
          subst hv
          go_simp
          refine hK _ ?_
          clear hK K
          refine lexX_step (fun K hK => ⟨by kernel_rfl, ⟨_, rfl⟩, fun v hv => ?_, fun v hv => ?_⟩)
          · go_simp
            exact mUpon_b
          subst hv
          go_simp
          refine hK _ ?_
          clear hK K
          refine lexX_step (fun K hK => ⟨by kernel_rfl, ⟨_, rfl⟩, fun v hv => ?_, fun v hv => ?_⟩)
          · go_simp
            exact mUpon_b
          subst hv
          go_simp
          refine hK _ ?_
          clear hK K
          refine lexX_step (fun K hK => ⟨by kernel_rfl, ⟨_, rfl⟩, fun v hv => ?_, fun v hv => ?_⟩)
          · go_simp
            exact mUpon_b
          subst hv
          go_simp
          refine hK _ ?_
          clear hK K
          refine lexX_step (fun K hK => ⟨by kernel_rfl, ⟨_, rfl⟩, fun v hv => ?_, fun v hv => ?_⟩)
          · go_simp
            exact mUpon_b
          subst hv
          go_simp
          refine hK _ ?_
          clear hK K
          refine lexX_step (fun K hK => ⟨by kernel_rfl, ⟨_, rfl⟩, fun v hv => ?_, fun v hv => ?_⟩)
          · have y9 := (unhideR HY v hv).2.1
            go_simp
            exact mUpon_b
          subst hv
          go_simp
          refine hK _ ?_
          clear hK K
          refine lexX_end (fun v5 hv => ?_)
          have HB5 := hideR (unhideR HY v5 hv.low).2.2
          clear hv HY
          refine wpAny_step (i := 10) (by kernel_rfl) rfl (by kernel_rfl) (fun K hK => ?_)
          unfold Oper.wp
          go_simp
          refine hK _ _ ?_
          clear hK K
          refine wpAny_end (by kernel_rfl) ?_
          cases cb
          case true =>
            rw [Bool.true_or] at HBd2
            have HQ := hideR (unhideR HBad (unhideR HBd2) v5 (unhideR HB5))
            clear HP1 HPi HEs HE0 HBi HF HFn HWi HSc HSi HJn HJk HLo HBad HGood HSd HB5 HBd2
            go_wp2
            try simp [go_sem]
            exact unhideR HQ
          rw [Bool.false_or] at HBd2
          have y5 := (unhideR HSd v5 (unhideR HB5)).2
          have HEz := hideR (unhideR HE0 yd frd)
          have HEn := hideR (fun m => unhideR HEs yd frd m)
          clear HEs HE0
          generalize EK yd frd = EX at *
          go_wp2_with fail
          go_loopw [14, 15] (fun ev mv wl => ∃ (g : Nat) (e : Int), g ≤ n ∧ ev = .int .i64 e ∧ mv = .int .i64 (g : Nat) ∧ frd ≤ e ∧ e ≤ frd + (g : Int) * 1099511627776 ∧ HeldR (EX g = e) ∧ HeldR (Below w.heap.size w wl)) (fun _ mv _ => n + 1 - (intOf mv).toNat)
          case atStart => exact ⟨0, frd, by omega, rfl, rfl, by omega, by omega, HEz, HB5⟩
          case round =>
            clear HEz HB5 y5 v5
            obtain ⟨g, e, hgn, rfl, rfl, he1, he2, HE, HB⟩ := hrel
            by_cases qg : g < n
            case neg =>
              obtain rfl : g = n := by omega
              have tg : decide ((g : Int) < (g : Int)) = false := decide_eq_false (by omega)
              have tgn : decide (g < g) = false := decide_eq_false (by omega)
              rw [unhideR HE] at HBd2
              have y6 := (unhideR HSi wr (unhideR HB)).2
              by_cases qe : fr < e
              · have te : decide (fr < e) = true := decide_eq_true qe
                have HQ := hideR (unhideR HBad (by rw [unhideR HBd2]; exact te) wr (unhideR HB))
                clear HP1 HPi HEn HBi HF HFn HWi HSc HSi HJn HJk HLo HBad HGood HSd HB HBd2 HE
                go_wp2
                try simp [go_sem]
                exact unhideR HQ
              have te : decide (fr < e) = false := decide_eq_false qe
              have HD2 := hideR (unhideR HGood (by rw [unhideR HBd2]; exact te))
              clear HP1 HPi HEn HBi HF HFn HWi HSc HSi HJn HJk HLo HBad HGood HSd HBd2 HE
              go_wp2
              exact ⟨⟨d + 1, by omega, by go_num, HD2, HB⟩, by simp [intOf]; omega⟩
            have tg : decide ((g : Int) < (n : Int)) = true := decide_eq_true (by omega)
            have tgn : decide (g < n) = true := decide_eq_true qg
            have wg : IntKind.i64.wrap ((g : Int) + 1) = (g : Int) + 1 := iwrap (by omega) (by omega)
            have hgi : (g : Int) < (n : Int) := by omega
            have hlo := unhideR HLo g qg
            have HEg := hideR (unhideR HEn g)
            rw [unhideR HE] at HEg
            have HY : HeldR (∀ v, Below wr.heap.size wr v → v.cell? ⟨bb, off + g * 4, none⟩ = some (.string (l.getD g jb0).nm) ∧ v.cell? ⟨bb, off + g * 4 + 2, none⟩ = some (.int .i64 (l.getD g jb0).lo) ∧ v.cell? ⟨pb, po + d * 2, none⟩ = some (.string yd) ∧ Below w.heap.size w v) := hideR (fun v hv => by
              have k := below_go (unhideR HB) hv
              exact ⟨(unhideR HJn v k g qg).1, (unhideR HJn v k g qg).2, (unhideR HSd v k).1, k⟩)
            clear HB HE
            generalize (l.getD g jb0).nm = yg at *
            generalize (l.getD g jb0).lo = lg at *
            have we : IntKind.i64.wrap (e + lg) = e + lg := iwrap (by omega) (by omega)
            obtain ⟨cg, hcg⟩ : ∃ cg, eqN yg yd = cg := ⟨_, rfl⟩
            have hcg2 : (yg.toList == yd.toList) = cg := hcg
            rw [hcg] at HEg
            clear hcg
            go_upto_region 30 with fail
            refine wp_region_made 0 #[true, true, true, true, true, true, true, true, true, true, false] [.lets (· = .slice (some ⟨bb, off, none⟩) n cap),
              .lets (· = .int .i64 (g : Nat)),
              .lets (· = .pointer (some ⟨bb, off + g * 4, none⟩)),
              .lets (· = .pointer (some ⟨bb, off + g * 4, none⟩)),
              .lets (· = .string yg),
              .lets (· = .slice (some ⟨pb, po, none⟩) pl pcap),
              .lets (· = .int .i64 (d : Nat)),
              .lets (· = .pointer (some ⟨pb, po + d * 2, none⟩)),
              .lets (· = .pointer (some ⟨pb, po + d * 2, none⟩)),
              .lets (· = .string yd)] [] [] (by kernel_rfl) (by kernel_rfl) rfl ?kinds (by kernel_rfl) (by kernel_rfl) (by kernel_rfl) ?_
            case kinds =>
              constructor
              · intro i h
                rcases i with _ | _ | _ | _ | _ | _ | _ | _ | _ | _ | i <;> simp [Kx.isMade] at h
              · intro i h
                rcases i with _ | _ | _ | _ | _ | _ | _ | _ | _ | _ | i <;> simp [Kx.isUse] at h
            refine lexX_step (fun K hK => ⟨by kernel_rfl, ⟨_, rfl⟩, fun v hv => ?_, fun v hv => ?_⟩)
            · go_simp
              exact mUpon_b
            subst hv
            go_simp
            refine hK _ ?_
            clear hK K
            refine lexX_step (fun K hK => ⟨by kernel_rfl, ⟨_, rfl⟩, fun v hv => ?_, fun v hv => ?_⟩)
            · go_simp
              exact mUpon_b
            subst hv
            go_simp
            refine hK _ ?_
            clear hK K
            refine lexX_step (fun K hK => ⟨by kernel_rfl, ⟨_, rfl⟩, fun v hv => ?_, fun v hv => ?_⟩)
            · go_simp
              exact mUpon_b
            subst hv
            go_simp
            refine hK _ ?_
            clear hK K
            refine lexX_step (fun K hK => ⟨by kernel_rfl, ⟨_, rfl⟩, fun v hv => ?_, fun v hv => ?_⟩)
            · go_simp
              exact mUpon_b
            subst hv
            go_simp
            refine hK _ ?_
            clear hK K
            refine lexX_step (fun K hK => ⟨by kernel_rfl, ⟨_, rfl⟩, fun v hv => ?_, fun v hv => ?_⟩)
            · have y9 := (unhideR HY v hv).1
              go_simp
              exact mUpon_b
            subst hv
            go_simp
            refine hK _ ?_
            clear hK K
            refine lexX_step (fun K hK => ⟨by kernel_rfl, ⟨_, rfl⟩, fun v hv => ?_, fun v hv => ?_⟩)
            · go_simp
              exact mUpon_b
            subst hv
            go_simp
            refine hK _ ?_
            clear hK K
            refine lexX_step (fun K hK => ⟨by kernel_rfl, ⟨_, rfl⟩, fun v hv => ?_, fun v hv => ?_⟩)
            · go_simp
              exact mUpon_b
            subst hv
            go_simp
            refine hK _ ?_
            clear hK K
            refine lexX_step (fun K hK => ⟨by kernel_rfl, ⟨_, rfl⟩, fun v hv => ?_, fun v hv => ?_⟩)
            · go_simp
              exact mUpon_b
            subst hv
            go_simp
            refine hK _ ?_
            clear hK K
            refine lexX_step (fun K hK => ⟨by kernel_rfl, ⟨_, rfl⟩, fun v hv => ?_, fun v hv => ?_⟩)
            · go_simp
              exact mUpon_b
            subst hv
            go_simp
            refine hK _ ?_
            clear hK K
            refine lexX_step (fun K hK => ⟨by kernel_rfl, ⟨_, rfl⟩, fun v hv => ?_, fun v hv => ?_⟩)
            · have y9 := (unhideR HY v hv).2.2.1
              go_simp
              exact mUpon_b
            subst hv
            go_simp
            refine hK _ ?_
            clear hK K
            refine lexX_end (fun v5 hv => ?_)
            have HB5 := hideR (unhideR HY v5 hv.low).2.2.2
            have y7 := (unhideR HY v5 hv.low).2.1
            clear hv HY
            refine wpAny_step (i := 10) (by kernel_rfl) rfl (by kernel_rfl) (fun K hK => ?_)
            unfold Oper.wp
            go_simp
            refine hK _ _ ?_
            clear hK K
            refine wpAny_end (by kernel_rfl) ?_
            cases cg
            case true =>
              rw [if_pos rfl] at HEg
              clear HP1 HPi HEn HBi HF HFn HWi HSc HSi HJn HJk HLo HBad HGood HSd HBd2
              go_wp2
              exact ⟨⟨g + 1, e + lg, by omega, rfl, by go_num, by omega, by omega, HEg, HB5⟩, by simp [intOf]; omega⟩
            rw [if_neg (by decide)] at HEg
            clear HP1 HPi HEn HBi HF HFn HWi HSc HSi HJn HJk HLo HBad HGood HSd HBd2 y7
            go_wp2
            exact ⟨⟨g + 1, e, by omega, rfl, by go_num, by omega, by omega, HEg, HB5⟩, by simp [intOf]; omega⟩
end Go.Proofs.YtoacdaemhcbbhaaDoor
