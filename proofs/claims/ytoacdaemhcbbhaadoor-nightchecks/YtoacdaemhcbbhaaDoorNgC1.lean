/-
  Whether slots are a plan: the program's Check, by contract.
-/
import Derived.Test.YtoacdaemhcbbhaaDoorNgC0
import Derived.Test.YtoacdaemhcbbhaaDoorNgH3
namespace Go.Proofs.YtoacdaemhcbbhaaDoor
open Go Go.RowKit

theorem cell_lt {w : World} {b o : Nat} {v : Value} (h : w.cell? ⟨b, o, none⟩ = some v) : b < w.heap.size := by
  rcases Nat.lt_or_ge b w.heap.size with k | k
  · exact k
  · simp [World.cell?, Array.getElem?_eq_none k] at h
def CkPost (a : Nat → Addr) (l : List Jb) (P : List Slt) (w : World) (e : Ending) (w' : World) : Prop := ((joE l ≠ 0 ∧ ∃ E, ErrIs a (joE l) E ∧ e = .returned (.tuple #[.int .i64 0, .bool false, E])) ∨ joE l = 0 ∧ e = .returned (.tuple #[.int .i64 ((worK l P P.length).getD 0), .bool (worK l P P.length).isSome, .nilIface])) ∧ Below w.heap.size w w'
set_option maxRecDepth 1000000 in
set_option maxHeartbeats 12800000 in
theorem pcheck_any {a : Nat → Addr} {w : World} {ad pd : Option Addr} {cap pcap : Nat} {l : List Jb} {P : List Slt} (hS : Sents w a) (hl : JbCame w ad l) (hp : SlIn w pd P) (hc : l.length ≤ cap) (hn : l.length ≤ 4000) (hpn : P.length ≤ 1000) (hw : ∀ k, k < l.length → (l.getD k jb0).ws.length * 16 ≤ 140737488355328) :
    Calls Tryd.prog 15 #[.slice ad l.length cap, .slice pd P.length pcap] w (CkPost a l P w) := by
  have hval := pvalid_any (a := a) hS hl hc hn hw
  have HP1 : HeldR (∀ E w', joE l ≠ 0 → ErrIs a (joE l) E → Below w.heap.size w w' → CkPost a l P w (.returned (.tuple #[.int .i64 0, .bool false, E])) w') := hideR (fun E w' h1 h2 h3 => ⟨.inl ⟨h1, E, h2, rfl⟩, h3⟩)
  have HP2 : HeldR (∀ wo w', joE l = 0 → worK l P P.length = some wo → Below w.heap.size w w' → CkPost a l P w (.returned (.tuple #[.int .i64 wo, .bool true, .nilIface])) w') := hideR (fun wo w' h1 h2 h3 => ⟨.inr ⟨h1, by rw [h2]; rfl⟩, h3⟩)
  have HP3 : HeldR (∀ w', joE l = 0 → worK l P P.length = none → Below w.heap.size w w' → CkPost a l P w (.returned (.tuple #[.int .i64 0, .bool false, .nilIface])) w') := hideR (fun w' h1 h2 h3 => ⟨.inr ⟨h1, by rw [h2]; rfl⟩, h3⟩)
  have HL : HeldR (∀ u, Below w.heap.size w u → JbCame u ad l) := hideR (fun u q => hl.below q)
  have HS : HeldR (∀ u, Below w.heap.size w u → SlIn u pd P) := hideR (fun u q => hp.below q)
  have HL0 := hideR hl
  generalize CkPost a l P w = POST at *
  go_enter Tryd.func15, Tryd.ntmps15
  go_wp2_with fail
  refine hval.mono ?_
  rintro e u1 ⟨⟨E, rfl, hE⟩, k1⟩
  clear hval
  rcases hE with ⟨h0, rfl⟩ | ⟨k, hk, hke, rfl⟩
  case inr =>
    have HQ := hideR (unhideR HP1 _ u1 (by omega) (.inr ⟨k, hk, hke, rfl⟩) k1)
    clear HP1 HP2 HP3 HL HS k1 hke hS hl hw hp
    go_wp2
    simp [bodyPost, results, Tryd.results15, go_sem]
    exact unhideR HQ
  obtain ⟨h12, hx, hok⟩ := joE_ok h0
  have HOk := hideR hok
  have HD := hideR (dis_of hx)
  obtain ⟨u2, hmk, hU, hb2⟩ := make_bools (w := u1) (n := l.length) (by omega)
  have HB2 := hideR (k1.trans (hb2.mono k1.size))
  have hg : w.heap.size ≤ u1.heap.size := k1.size
  have HU2 := hideR hU
  have HC0 := hideR (CkI.zero l P)
  have HFi : HeldR (∀ wo w', worK l P P.length = some wo → Below w.heap.size w w' → POST (.returned (.tuple #[.int .i64 wo, .bool true, .nilIface])) w') := hideR (fun wo w' h1 h2 => unhideR HP2 wo w' h0 h1 h2)
  have HNo : HeldR (∀ i w', worK l P (i + 1) = none → i < P.length → Below w.heap.size w w' → POST (.returned (.tuple #[.int .i64 0, .bool false, .nilIface])) w') := hideR (fun i w' h1 h2 h3 => unhideR HP3 w' h0 (worK_end h1 h2) h3)
  have HCw : HeldR (∀ i wo fr u, CkI l P i wo fr u → worK l P i = some wo) := hideR (fun i wo fr u c => c.w)
  have HNb : HeldR (∀ i wo fr u, CkI l P i wo fr u → (∀ k, k < l.length → nmP l (P.getD i sl0).nm k = false) → worK l P (i + 1) = none) := hideR (fun i wo fr u c h => c.nobody h)
  have HDo : HeldR (∀ i wo fr u k, CkI l P i wo fr u → k < l.length → nmP l (P.getD i sl0).nm k = true → u k = true → worK l P (i + 1) = none) := hideR (fun i wo fr u k c h1 h2 h3 => c.done h1 h2 h3)
  have HSo : HeldR (∀ i wo fr u k, CkI l P i wo fr u → k < l.length → nmP l (P.getD i sl0).nm k = true → (P.getD i sl0).fr < fr → worK l P (i + 1) = none) := hideR (fun i wo fr u k c h1 h2 h3 => c.soon (unhideR HOk) (unhideR HD) h1 h2 h3)
  have HOu : HeldR (∀ i wo fr u k, CkI l P i wo fr u → k < l.length → nmP l (P.getD i sl0).nm k = true → inWB (l.getD k jb0) (P.getD i sl0).fr = false → worK l P (i + 1) = none) := hideR (fun i wo fr u k c h1 h2 h3 => c.out (unhideR HD) h1 h2 h3)
  have HNx : HeldR (∀ i wo fr u k, CkI l P i wo fr u → k < l.length → nmP l (P.getD i sl0).nm k = true → u k = false → fr ≤ (P.getD i sl0).fr → inWB (l.getD k jb0) (P.getD i sl0).fr = true → CkI l P (i + 1) (wo + (l.getD k jb0).wo) ((P.getD i sl0).fr + (l.getD k jb0).lo) (usd u k)) := hideR (fun i wo fr u k c h1 h2 h3 h4 h5 => c.next (unhideR HOk) (unhideR HD) h1 h2 h3 h4 h5)
  have HIb : HeldR (∀ k y, k < l.length → inWB (l.getD k jb0) y = true → -1152921504606846976 ≤ y ∧ y ≤ 1152921504606846976) := hideR (fun k y h1 h2 => in_bd (unhideR HOk k h1) h2)
  clear HP1 HP2 HP3 HD hS hl hp hw hx hok h0 k1 hb2 hU
  generalize worK l P = WK at *
  generalize CkI l P = CK at *
  obtain ⟨n, hn0⟩ : ∃ n, l.length = n := ⟨_, rfl⟩
  have Hn := hideR hn0
  obtain ⟨pl, hp0⟩ : ∃ n, P.length = n := ⟨_, rfl⟩
  have Hpl := hideR hp0
  rw [hn0] at hc hn h12 hmk HU2 HNb HDo HSo HOu HNx HIb HOk ⊢
  rw [hp0] at HFi HNo hpn ⊢
  clear hn0 hp0
  obtain ⟨g, hgg⟩ : ∃ g, u1.heap.size = g := ⟨_, rfl⟩
  rw [hgg] at hmk HU2 hg
  clear hgg
  go_wp2_with fail
  go_loopw [8, 9, 24] (fun wv fv iv wl => ∃ (i : Nat) (wo fr : Int) (u : Nat → Bool), i ≤ pl ∧ wv = .int .i64 wo ∧ fv = .int .i64 fr ∧ iv = .int .i64 (i : Nat) ∧ 0 ≤ wo ∧ wo ≤ (i : Int) * 1099511627776 ∧ HeldR (CK i wo fr u) ∧ HeldR (UsR wl g n u) ∧ HeldR (Below w.heap.size w wl)) (fun _ _ iv _ => pl + 1 - (intOf iv).toNat)
  case atStart => exact ⟨0, 0, _, _, by omega, rfl, rfl, rfl, by omega, by omega, HC0, HU2, HB2⟩
  case round =>
    clear HC0 HU2 HB2 hmk
    obtain ⟨i, wo, fr, u, hi, rfl, rfl, rfl, hw0, hw1, HC, HU, HB⟩ := hrel
    by_cases q : i < pl
    case neg =>
      obtain rfl : i = pl := by omega
      have ti : decide ((i : Int) < (i : Int)) = false := decide_eq_false (by omega)
      have tin : decide (i < i) = false := decide_eq_false (by omega)
      have HQ := hideR (unhideR HFi wo wr (unhideR HCw _ _ _ _ (unhideR HC)) (unhideR HB))
      clear HFi HNo HCw HNb HDo HSo HOu HNx HIb HL HS HOk HC HU HB
      go_wp2
      try simp [bodyPost, results, Tryd.results15, go_sem]
      exact unhideR HQ
    have ti : decide ((i : Int) < (pl : Int)) = true := decide_eq_true (by omega)
    have tin : decide (i < pl) = true := decide_eq_true q
    have wi : IntKind.i64.wrap ((i : Int) + 1) = (i : Int) + 1 := iwrap (by omega) (by omega)
    have hii : (i : Int) < (pl : Int) := by omega
    obtain ⟨pb, po, hpd, hpb, hs0, hs1⟩ := (unhideR HS wr (unhideR HB)).at_ i (by rw [unhideR Hpl]; exact q)
    subst hpd
    have HNi := hideR (fun w' (h : WK (i + 1) = none) => unhideR HNo i w' h q)
    have HNb2 := hideR (unhideR HNb i wo fr u (unhideR HC))
    have HDo2 := hideR (fun k => unhideR HDo i wo fr u k (unhideR HC))
    have HSo2 := hideR (fun k => unhideR HSo i wo fr u k (unhideR HC))
    have HOu2 := hideR (fun k => unhideR HOu i wo fr u k (unhideR HC))
    have HNx2 := hideR (fun k => unhideR HNx i wo fr u k (unhideR HC))
    clear HFi HNo HCw HNb HDo HSo HOu HNx HC HS
    generalize (P.getD i sl0).nm = x at *
    generalize (P.getD i sl0).fr = y at *
    have z0 := alloc_last wr (.cells #[.string x, .int .i64 y] 37)
    have k0 := below_a wr (.cells #[.string x, .int .i64 y] 37)
    have HB1 := hideR (below_go (unhideR HB) k0)
    have HU1 := hideR ((unhideR HU).below k0)
    have hnum := pnum_any (cap := cap) (unhideR HL _ (unhideR HB1)) (by rw [unhideR Hn]; exact hn) x
    rw [unhideR Hn] at hnum
    go_upto_region 9 with fail
    generalize wr.alloc (.cells #[.string x, .int .i64 y] 37) = w1 at *
    obtain ⟨Z, hZ⟩ : ∃ Z, wr.heap.size = Z := ⟨_, rfl⟩
    rw [hZ] at z0 ⊢
    have hZg : Z ≠ g := by have := (unhideR HU).lt; omega
    clear hZ k0 hs0 hs1 hpb HU HB
    have x0 := (cells_at z0 0 (by simp)).1
    have HZ0 := hideR z0
    clear z0
    go_wp2_with fail
    refine hnum.mono ?_
    rintro e w2 ⟨⟨r, rfl, hr⟩, k2⟩
    have HB2 := hideR (below_go (unhideR HB1) k2)
    have HU2 := hideR ((unhideR HU1).below k2)
    have HZ2 : HeldR (∀ v, Below w2.heap.size w2 v → v.cell? ⟨Z, 1, none⟩ = some (.int .i64 y)) := hideR (fun v hv => (cells_at (keepB (keepB (unhideR HZ0) k2) hv) 1 (by simp)).1)
    have HG2 : HeldR (∀ v, Below w2.heap.size w2 v → UsR v g n u ∧ Below w.heap.size w v) := hideR (fun v hv => ⟨(unhideR HU2).below hv, below_go (unhideR HB2) hv⟩)
    clear hnum k2 x0 HZ0 HB1 HU1 HU2 HB2
    go_upto_region 10 with fail
    rcases hr with ⟨rfl, hr⟩ | ⟨k, hkn, rfl, hr, _⟩
    case inl =>
      have HE := hideR (fun w' => unhideR HNi w' (unhideR HNb2 hr))
      clear hr HNb2 HDo2 HSo2 HOu2 HNx2 HNi HIb
      refine wp_region_made 0 #[true, true, true, true, true, true, true, true, true, true, true, true, true, true, true, true, true, true, true, true, true, true, true, false] [.lets (· = .int .i64 (-1)),
        .lets (· = .bool true),
        .lets (· = .bool true),
        .lets (· = undef),
        .lets (· = undef),
        .lets (· = undef),
        .lets (· = undef),
        .lets (· = .bool true),
        .lets (· = .bool true),
        .lets (· = undef),
        .lets (· = undef),
        .lets (· = undef),
        .lets (· = undef),
        .lets (· = .bool true),
        .lets (· = .bool true),
        .lets (· = undef),
        .lets (· = undef),
        .lets (· = undef),
        .lets (· = undef),
        .lets (· = undef),
        .lets (· = undef),
        .lets (· = undef),
        .lets (· = undef)] [] [] (by kernel_rfl) (by kernel_rfl) rfl ?kinds (by kernel_rfl) (by kernel_rfl) (by kernel_rfl) ?_
      case kinds =>
        constructor
        · intro i h
          rcases i with _ | _ | _ | _ | _ | _ | _ | _ | _ | _ | _ | _ | _ | _ | _ | _ | _ | _ | _ | _ | _ | _ | _ | i <;> simp [Kx.isMade] at h
        · intro i h
          rcases i with _ | _ | _ | _ | _ | _ | _ | _ | _ | _ | _ | _ | _ | _ | _ | _ | _ | _ | _ | _ | _ | _ | _ | i <;> simp [Kx.isUse] at h
      refine lexX_step (fun K hK => ⟨by kernel_rfl, ⟨_, rfl⟩, fun v hv => ?_, fun v hv => ?_⟩)
      · go_simp
        exact mUpon_b
      subst hv
      go_simp
      refine hK _ ?_
      clear hK K
      refine lexX_step (fun K hK => ⟨by kernel_rfl, ⟨_, rfl⟩, fun v hv => ?_, fun v hv => ?_⟩)
      · go_simp
        exact mUpon_b
      subst hv
      go_simp
      refine hK _ ?_
      clear hK K
      refine lexX_step (fun K hK => ⟨by kernel_rfl, ⟨_, rfl⟩, fun v hv => ?_, fun v hv => ?_⟩)
      · go_simp
        exact mUpon_b
      subst hv
      go_simp
      refine hK _ ?_
      clear hK K
      refine lexX_skip (fun K hK => ⟨by kernel_rfl, ?_⟩)
      go_simp
      refine hK _ ?_
      clear hK K
      refine lexX_skip (fun K hK => ⟨by kernel_rfl, ?_⟩)
      go_simp
      refine hK _ ?_
      clear hK K
      refine lexX_skip (fun K hK => ⟨by kernel_rfl, ?_⟩)
      go_simp
      refine hK _ ?_
      clear hK K
      refine lexX_skip (fun K hK => ⟨by kernel_rfl, ?_⟩)
      go_simp
      refine hK _ ?_
      clear hK K
      refine lexX_step (fun K hK => ⟨by kernel_rfl, ⟨_, rfl⟩, fun v hv => ?_, fun v hv => ?_⟩)
      · go_simp
        exact mUpon_b
      subst hv
      go_simp
      refine hK _ ?_
      clear hK K
      refine lexX_step (fun K hK => ⟨by kernel_rfl, ⟨_, rfl⟩, fun v hv => ?_, fun v hv => ?_⟩)
      · go_simp
        exact mUpon_b
      subst hv
      go_simp
      refine hK _ ?_
      clear hK K
      refine lexX_skip (fun K hK => ⟨by kernel_rfl, ?_⟩)
      go_simp
      refine hK _ ?_
      clear hK K
      refine lexX_skip (fun K hK => ⟨by kernel_rfl, ?_⟩)
      go_simp
      refine hK _ ?_
      clear hK K
      refine lexX_skip (fun K hK => ⟨by kernel_rfl, ?_⟩)
      go_simp
      refine hK _ ?_
      clear hK K
      refine lexX_skip (fun K hK => ⟨by kernel_rfl, ?_⟩)
      go_simp
      refine hK _ ?_
      clear hK K
      refine lexX_step (fun K hK => ⟨by kernel_rfl, ⟨_, rfl⟩, fun v hv => ?_, fun v hv => ?_⟩)
      · go_simp
        exact mUpon_b
      subst hv
      go_simp
      refine hK _ ?_
      clear hK K
      refine lexX_step (fun K hK => ⟨by kernel_rfl, ⟨_, rfl⟩, fun v hv => ?_, fun v hv => ?_⟩)
      · go_simp
        exact mUpon_b
      subst hv
      go_simp
      refine hK _ ?_
      clear hK K
      refine lexX_skip (fun K hK => ⟨by kernel_rfl, ?_⟩)
      go_simp
      refine hK _ ?_
      clear hK K
      refine lexX_skip (fun K hK => ⟨by kernel_rfl, ?_⟩)
      go_simp
      refine hK _ ?_
      clear hK K
      refine lexX_skip (fun K hK => ⟨by kernel_rfl, ?_⟩)
      go_simp
      refine hK _ ?_
      clear hK K
      refine lexX_skip (fun K hK => ⟨by kernel_rfl, ?_⟩)
      go_simp
      refine hK _ ?_
      clear hK K
      refine lexX_skip (fun K hK => ⟨by kernel_rfl, ?_⟩)
      go_simp
      refine hK _ ?_
      clear hK K
      refine lexX_skip (fun K hK => ⟨by kernel_rfl, ?_⟩)
      go_simp
      refine hK _ ?_
      clear hK K
      refine lexX_skip (fun K hK => ⟨by kernel_rfl, ?_⟩)
      go_simp
      refine hK _ ?_
      clear hK K
      refine lexX_skip (fun K hK => ⟨by kernel_rfl, ?_⟩)
      go_simp
      refine hK _ ?_
      clear hK K
      refine lexX_end (fun v5 hv => ?_)
      have HQ := hideR (unhideR HE v5 (unhideR HG2 v5 hv.low).2)
      clear hv HE HG2 HZ2 HL HOk
      refine wpAny_step (i := 23) (by kernel_rfl) rfl (by kernel_rfl) (fun K hK => ?_)
      unfold Oper.wp
      go_simp
      refine hK _ _ ?_
      clear hK K
      refine wpAny_end (by kernel_rfl) ?_
      go_wp2
      try simp [bodyPost, results, Tryd.results15, go_sem]
      exact unhideR HQ
    have tk0 : decide ((k : Int) < 0) = false := decide_eq_false (by omega)
    have hki : (k : Int) < (n : Int) := by omega
    have HY6 : HeldR (∀ v, Below w2.heap.size w2 v → v.cell? ⟨g, k, none⟩ = some (.bool (u k))) := hideR (fun v hv => (unhideR HG2 v hv).1.cell k hkn)
    cases hu : u k
    case true =>
      have HE := hideR (fun w' => unhideR HNi w' (unhideR HDo2 k hkn hr hu))
      rw [hu] at HY6
      clear hr HNb2 HDo2 HSo2 HOu2 HNx2 HNi HIb
      refine wp_region_made 0 #[true, true, true, true, true, true, true, true, true, true, true, true, true, true, true, true, true, true, true, true, true, true, true, false] [.lets (· = .int .i64 (k : Nat)),
        .lets (· = .bool false),
        .lets (· = .bool false),
        .lets (· = .slice (some ⟨g, 0, none⟩) n n),
        .lets (· = .int .i64 (k : Nat)),
        .lets (· = .pointer (some ⟨g, k, none⟩)),
        .lets (· = .bool true),
        .lets (· = .bool true),
        .lets (· = .bool true),
        .lets (· = undef),
        .lets (· = undef),
        .lets (· = undef),
        .lets (· = undef),
        .lets (· = .bool true),
        .lets (· = .bool true),
        .lets (· = undef),
        .lets (· = undef),
        .lets (· = undef),
        .lets (· = undef),
        .lets (· = undef),
        .lets (· = undef),
        .lets (· = undef),
        .lets (· = undef)] [] [] (by kernel_rfl) (by kernel_rfl) rfl ?kinds (by kernel_rfl) (by kernel_rfl) (by kernel_rfl) ?_
      case kinds =>
        constructor
        · intro i h
          rcases i with _ | _ | _ | _ | _ | _ | _ | _ | _ | _ | _ | _ | _ | _ | _ | _ | _ | _ | _ | _ | _ | _ | _ | i <;> simp [Kx.isMade] at h
        · intro i h
          rcases i with _ | _ | _ | _ | _ | _ | _ | _ | _ | _ | _ | _ | _ | _ | _ | _ | _ | _ | _ | _ | _ | _ | _ | i <;> simp [Kx.isUse] at h
      refine lexX_step (fun K hK => ⟨by kernel_rfl, ⟨_, rfl⟩, fun v hv => ?_, fun v hv => ?_⟩)
      · go_simp
        exact mUpon_b
      subst hv
      go_simp
      refine hK _ ?_
      clear hK K
      refine lexX_step (fun K hK => ⟨by kernel_rfl, ⟨_, rfl⟩, fun v hv => ?_, fun v hv => ?_⟩)
      · go_simp
        exact mUpon_b
      subst hv
      go_simp
      refine hK _ ?_
      clear hK K
      refine lexX_step (fun K hK => ⟨by kernel_rfl, ⟨_, rfl⟩, fun v hv => ?_, fun v hv => ?_⟩)
      · go_simp
        exact mUpon_b
      subst hv
      go_simp
      refine hK _ ?_
      clear hK K
      refine lexX_step (fun K hK => ⟨by kernel_rfl, ⟨_, rfl⟩, fun v hv => ?_, fun v hv => ?_⟩)
      · go_simp
        exact mUpon_b
      subst hv
      go_simp
      refine hK _ ?_
      clear hK K
      refine lexX_step (fun K hK => ⟨by kernel_rfl, ⟨_, rfl⟩, fun v hv => ?_, fun v hv => ?_⟩)
      · go_simp
        exact mUpon_b
      subst hv
      go_simp
      refine hK _ ?_
      clear hK K
      refine lexX_step (fun K hK => ⟨by kernel_rfl, ⟨_, rfl⟩, fun v hv => ?_, fun v hv => ?_⟩)
      · go_simp
        exact mUpon_b
      subst hv
      go_simp
      refine hK _ ?_
      clear hK K
      refine lexX_step (fun K hK => ⟨by kernel_rfl, ⟨_, rfl⟩, fun v hv => ?_, fun v hv => ?_⟩)
      · have y9 := unhideR HY6 v hv
        go_simp
        exact mUpon_b
      subst hv
      go_simp
      refine hK _ ?_
      clear hK K
      refine lexX_step (fun K hK => ⟨by kernel_rfl, ⟨_, rfl⟩, fun v hv => ?_, fun v hv => ?_⟩)
      · go_simp
        exact mUpon_b
      subst hv
      go_simp
      refine hK _ ?_
      clear hK K
      refine lexX_step (fun K hK => ⟨by kernel_rfl, ⟨_, rfl⟩, fun v hv => ?_, fun v hv => ?_⟩)
      · go_simp
        exact mUpon_b
      subst hv
      go_simp
      refine hK _ ?_
      clear hK K
      refine lexX_skip (fun K hK => ⟨by kernel_rfl, ?_⟩)
      go_simp
      refine hK _ ?_
      clear hK K
      refine lexX_skip (fun K hK => ⟨by kernel_rfl, ?_⟩)
      go_simp
      refine hK _ ?_
      clear hK K
      refine lexX_skip (fun K hK => ⟨by kernel_rfl, ?_⟩)
      go_simp
      refine hK _ ?_
      clear hK K
      refine lexX_skip (fun K hK => ⟨by kernel_rfl, ?_⟩)
      go_simp
      refine hK _ ?_
      clear hK K
      refine lexX_step (fun K hK => ⟨by kernel_rfl, ⟨_, rfl⟩, fun v hv => ?_, fun v hv => ?_⟩)
      · go_simp
        exact mUpon_b
      subst hv
      go_simp
      refine hK _ ?_
      clear hK K
      refine lexX_step (fun K hK => ⟨by kernel_rfl, ⟨_, rfl⟩, fun v hv => ?_, fun v hv => ?_⟩)
      · go_simp
        exact mUpon_b
      subst hv
      go_simp
      refine hK _ ?_
      clear hK K
      refine lexX_skip (fun K hK => ⟨by kernel_rfl, ?_⟩)
      go_simp
      refine hK _ ?_
      clear hK K
      refine lexX_skip (fun K hK => ⟨by kernel_rfl, ?_⟩)
      go_simp
      refine hK _ ?_
      clear hK K
      refine lexX_skip (fun K hK => ⟨by kernel_rfl, ?_⟩)
      go_simp
      refine hK _ ?_
      clear hK K
      refine lexX_skip (fun K hK => ⟨by kernel_rfl, ?_⟩)
      go_simp
      refine hK _ ?_
      clear hK K
      refine lexX_skip (fun K hK => ⟨by kernel_rfl, ?_⟩)
      go_simp
      refine hK _ ?_
      clear hK K
      refine lexX_skip (fun K hK => ⟨by kernel_rfl, ?_⟩)
      go_simp
      refine hK _ ?_
      clear hK K
      refine lexX_skip (fun K hK => ⟨by kernel_rfl, ?_⟩)
      go_simp
      refine hK _ ?_
      clear hK K
      refine lexX_skip (fun K hK => ⟨by kernel_rfl, ?_⟩)
      go_simp
      refine hK _ ?_
      clear hK K
      refine lexX_end (fun v5 hv => ?_)
      have HQ := hideR (unhideR HE v5 (unhideR HG2 v5 hv.low).2)
      clear hv HE HG2 HZ2 HL HOk
      refine wpAny_step (i := 23) (by kernel_rfl) rfl (by kernel_rfl) (fun K hK => ?_)
      unfold Oper.wp
      go_simp
      refine hK _ _ ?_
      clear hK K
      refine wpAny_end (by kernel_rfl) ?_
      go_wp2
      try simp [bodyPost, results, Tryd.results15, go_sem]
      exact unhideR HQ
    by_cases qf : y < fr
    case pos =>
      have tf : decide (y < fr) = true := decide_eq_true qf
      have HE := hideR (fun w' => unhideR HNi w' (unhideR HSo2 k hkn hr qf))
      rw [hu] at HY6
      clear hr HNb2 HDo2 HSo2 HOu2 HNx2 HNi HIb
      refine wp_region_made 0 #[true, true, true, true, true, true, true, true, true, true, true, true, true, true, true, true, true, true, true, true, true, true, true, false] [.lets (· = .int .i64 (k : Nat)),
        .lets (· = .bool false),
        .lets (· = .bool false),
        .lets (· = .slice (some ⟨g, 0, none⟩) n n),
        .lets (· = .int .i64 (k : Nat)),
        .lets (· = .pointer (some ⟨g, k, none⟩)),
        .lets (· = .bool false),
        .lets (· = .bool false),
        .lets (· = .bool false),
        .lets (· = .pointer (some ⟨Z, 1, none⟩)),
        .lets (· = .int .i64 y),
        .lets (· = .int .i64 fr),
        .lets (· = .bool true),
        .lets (· = .bool true),
        .lets (· = .bool true),
        .lets (· = undef),
        .lets (· = undef),
        .lets (· = undef),
        .lets (· = undef),
        .lets (· = undef),
        .lets (· = undef),
        .lets (· = undef),
        .lets (· = undef)] [] [] (by kernel_rfl) (by kernel_rfl) rfl ?kinds (by kernel_rfl) (by kernel_rfl) (by kernel_rfl) ?_
      case kinds =>
        constructor
        · intro i h
          rcases i with _ | _ | _ | _ | _ | _ | _ | _ | _ | _ | _ | _ | _ | _ | _ | _ | _ | _ | _ | _ | _ | _ | _ | i <;> simp [Kx.isMade] at h
        · intro i h
          rcases i with _ | _ | _ | _ | _ | _ | _ | _ | _ | _ | _ | _ | _ | _ | _ | _ | _ | _ | _ | _ | _ | _ | _ | i <;> simp [Kx.isUse] at h
      refine lexX_step (fun K hK => ⟨by kernel_rfl, ⟨_, rfl⟩, fun v hv => ?_, fun v hv => ?_⟩)
      · go_simp
        exact mUpon_b
      subst hv
      go_simp
      refine hK _ ?_
      clear hK K
      refine lexX_step (fun K hK => ⟨by kernel_rfl, ⟨_, rfl⟩, fun v hv => ?_, fun v hv => ?_⟩)
      · go_simp
        exact mUpon_b
      subst hv
      go_simp
      refine hK _ ?_
      clear hK K
      refine lexX_step (fun K hK => ⟨by kernel_rfl, ⟨_, rfl⟩, fun v hv => ?_, fun v hv => ?_⟩)
      · go_simp
        exact mUpon_b
      subst hv
      go_simp
      refine hK _ ?_
      clear hK K
      refine lexX_step (fun K hK => ⟨by kernel_rfl, ⟨_, rfl⟩, fun v hv => ?_, fun v hv => ?_⟩)
      · go_simp
        exact mUpon_b
      subst hv
      go_simp
      refine hK _ ?_
      clear hK K
      refine lexX_step (fun K hK => ⟨by kernel_rfl, ⟨_, rfl⟩, fun v hv => ?_, fun v hv => ?_⟩)
      · go_simp
        exact mUpon_b
      subst hv
      go_simp
      refine hK _ ?_
      clear hK K
      refine lexX_step (fun K hK => ⟨by kernel_rfl, ⟨_, rfl⟩, fun v hv => ?_, fun v hv => ?_⟩)
      · go_simp
        exact mUpon_b
      subst hv
      go_simp
      refine hK _ ?_
      clear hK K
      refine lexX_step (fun K hK => ⟨by kernel_rfl, ⟨_, rfl⟩, fun v hv => ?_, fun v hv => ?_⟩)
      · have y9 := unhideR HY6 v hv
        go_simp
        exact mUpon_b
      subst hv
      go_simp
      refine hK _ ?_
      clear hK K
      refine lexX_step (fun K hK => ⟨by kernel_rfl, ⟨_, rfl⟩, fun v hv => ?_, fun v hv => ?_⟩)
      · go_simp
        exact mUpon_b
      subst hv
      go_simp
      refine hK _ ?_
      clear hK K
      refine lexX_step (fun K hK => ⟨by kernel_rfl, ⟨_, rfl⟩, fun v hv => ?_, fun v hv => ?_⟩)
      · go_simp
        exact mUpon_b
      subst hv
      go_simp
      refine hK _ ?_
      clear hK K
      refine lexX_step (fun K hK => ⟨by kernel_rfl, ⟨_, rfl⟩, fun v hv => ?_, fun v hv => ?_⟩)
      · go_simp
        exact mUpon_b
      subst hv
      go_simp
      refine hK _ ?_
      clear hK K
      refine lexX_step (fun K hK => ⟨by kernel_rfl, ⟨_, rfl⟩, fun v hv => ?_, fun v hv => ?_⟩)
      · have y9 := unhideR HZ2 v hv
        go_simp
        exact mUpon_b
      subst hv
      go_simp
      refine hK _ ?_
      clear hK K
      refine lexX_step (fun K hK => ⟨by kernel_rfl, ⟨_, rfl⟩, fun v hv => ?_, fun v hv => ?_⟩)
      · go_simp
        exact mUpon_b
      subst hv
      go_simp
      refine hK _ ?_
      clear hK K
      refine lexX_step (fun K hK => ⟨by kernel_rfl, ⟨_, rfl⟩, fun v hv => ?_, fun v hv => ?_⟩)
      · go_simp
        exact mUpon_b
      subst hv
      go_simp
      refine hK _ ?_
      clear hK K
      refine lexX_step (fun K hK => ⟨by kernel_rfl, ⟨_, rfl⟩, fun v hv => ?_, fun v hv => ?_⟩)
      · go_simp
        exact mUpon_b
      subst hv
      go_simp
      refine hK _ ?_
      clear hK K
      refine lexX_step (fun K hK => ⟨by kernel_rfl, ⟨_, rfl⟩, fun v hv => ?_, fun v hv => ?_⟩)
      · go_simp
        exact mUpon_b
      subst hv
      go_simp
      refine hK _ ?_
      clear hK K
      refine lexX_skip (fun K hK => ⟨by kernel_rfl, ?_⟩)
      go_simp
      refine hK _ ?_
      clear hK K
      refine lexX_skip (fun K hK => ⟨by kernel_rfl, ?_⟩)
      go_simp
      refine hK _ ?_
      clear hK K
      refine lexX_skip (fun K hK => ⟨by kernel_rfl, ?_⟩)
      go_simp
      refine hK _ ?_
      clear hK K
      refine lexX_skip (fun K hK => ⟨by kernel_rfl, ?_⟩)
      go_simp
      refine hK _ ?_
      clear hK K
      refine lexX_skip (fun K hK => ⟨by kernel_rfl, ?_⟩)
      go_simp
      refine hK _ ?_
      clear hK K
      refine lexX_skip (fun K hK => ⟨by kernel_rfl, ?_⟩)
      go_simp
      refine hK _ ?_
      clear hK K
      refine lexX_skip (fun K hK => ⟨by kernel_rfl, ?_⟩)
      go_simp
      refine hK _ ?_
      clear hK K
      refine lexX_skip (fun K hK => ⟨by kernel_rfl, ?_⟩)
      go_simp
      refine hK _ ?_
      clear hK K
      refine lexX_end (fun v5 hv => ?_)
      have HQ := hideR (unhideR HE v5 (unhideR HG2 v5 hv.low).2)
      clear hv HE HG2 HZ2 HL HOk
      refine wpAny_step (i := 23) (by kernel_rfl) rfl (by kernel_rfl) (fun K hK => ?_)
      unfold Oper.wp
      go_simp
      refine hK _ _ ?_
      clear hK K
      refine wpAny_end (by kernel_rfl) ?_
      go_wp2
      try simp [bodyPost, results, Tryd.results15, go_sem]
      exact unhideR HQ
    have tf : decide (y < fr) = false := decide_eq_false qf
    obtain ⟨bb, off, had, hbb, hJb⟩ := (unhideR HL w2 (unhideR HG2 w2 (Below.refl _ _)).2).at_ k (by rw [unhideR Hn]; exact hkn)
    subst had
    have hbw : bb < w.heap.size := by
      obtain ⟨b', o', e', h', _⟩ := (unhideR HL0).at_ k (by rw [unhideR Hn]; exact hkn)
      cases e'
      exact h'
    obtain ⟨a2, c2, hj1, hs2⟩ := hJb.c1
    have hok := unhideR HOk k hkn
    have HY : HeldR (∀ v, Below w2.heap.size w2 v → v.cell? ⟨bb, off + k * 4, none⟩ = some (.string (l.getD k jb0).nm) ∧ v.cell? ⟨bb, off + k * 4 + 1, none⟩ = some (.slice a2 (l.getD k jb0).ws.length c2) ∧ v.cell? ⟨bb, off + k * 4 + 2, none⟩ = some (.int .i64 (l.getD k jb0).lo) ∧ v.cell? ⟨bb, off + k * 4 + 3, none⟩ = some (.int .i64 (l.getD k jb0).wo)) := hideR (fun v hv => ⟨(hv.cell (p := ⟨bb, off + k * 4, none⟩) hbb).trans hJb.c0, (hv.cell (p := ⟨bb, off + k * 4 + 1, none⟩) hbb).trans hj1, (hv.cell (p := ⟨bb, off + k * 4 + 2, none⟩) hbb).trans hJb.c2, (hv.cell (p := ⟨bb, off + k * 4 + 3, none⟩) hbb).trans hJb.c3⟩)
    have HM : HeldR (∀ v, Below w2.heap.size w2 v → Calls Tryd.prog 34 #[jbV (l.getD k jb0) a2 c2, .int .i64 y] v fun e w' => e = .returned (.bool (inWB (l.getD k jb0) y)) ∧ Below v.heap.size v w') := hideR (fun v hv => pmay_any (hs2.below hv) hok y)
    have HOu3 := hideR (unhideR HOu2 k hkn hr)
    have HNx3 := hideR (unhideR HNx2 k hkn hr hu (by omega))
    have HIb3 := hideR (unhideR HIb k y hkn)
    have HBk : HeldR (∀ v, Below w2.heap.size w2 v → UsR (v.setCell ⟨g, k, none⟩ (.bool true)) g n (usd u k) ∧ Below w.heap.size w (v.setCell ⟨g, k, none⟩ (.bool true)) ∧ v.cell? ⟨g, k, none⟩ = some (.bool false) ∧ v.frozen? ⟨g, k, none⟩ = false) := hideR (fun v hv => by
      obtain ⟨h1, h2⟩ := unhideR HG2 v hv
      refine ⟨h1.put hkn true (by unfold usd; simp) (fun j hj => by unfold usd; rw [decide_eq_false hj, Bool.or_false]), h2.setCell (p := ⟨g, k, none⟩) hg _, ?_, h1.fz k⟩
      rw [h1.cell k hkn, hu])
    rw [hu] at HY6
    unfold jbV at HM
    have hlo1 := hok.l1
    have hlo2 := hok.l2
    have hwo1 := hok.w1
    have hwo2 := hok.w2
    have HZk : HeldR (Z ≠ g ∧ bb < w.heap.size) := hideR ⟨hZg, hbw⟩
    clear hr HNb2 HDo2 HSo2 HOu2 HNx2 HIb hJb hj1 hs2 hok HOk
    generalize l.getD k jb0 = j at *
    generalize inWB j y = B at *
    refine wp_region_made 0 #[true, true, true, true, true, true, true, true, true, true, true, true, true, true, true, true, true, true, true, true, true, true, true, false] [.lets (· = .int .i64 (k : Nat)),
      .lets (· = .bool false),
      .lets (· = .bool false),
      .lets (· = .slice (some ⟨g, 0, none⟩) n n),
      .lets (· = .int .i64 (k : Nat)),
      .lets (· = .pointer (some ⟨g, k, none⟩)),
      .lets (· = .bool false),
      .lets (· = .bool false),
      .lets (· = .bool false),
      .lets (· = .pointer (some ⟨Z, 1, none⟩)),
      .lets (· = .int .i64 y),
      .lets (· = .int .i64 fr),
      .lets (· = .bool false),
      .lets (· = .bool false),
      .lets (· = .bool false),
      .lets (· = .slice (some ⟨bb, off, none⟩) n cap),
      .lets (· = .int .i64 (k : Nat)),
      .lets (· = .pointer (some ⟨bb, off + k * 4, none⟩)),
      .lets (· = .agg #[.string j.nm, .slice a2 j.ws.length c2, .int .i64 j.lo, .int .i64 j.wo]),
      .lets (· = .pointer (some ⟨Z, 1, none⟩)),
      .lets (· = .int .i64 y),
      .lets (· = .bool B),
      .lets (· = .bool (!B))] [] [] (by kernel_rfl) (by kernel_rfl) rfl ?kinds (by kernel_rfl) (by kernel_rfl) (by kernel_rfl) ?_
    case kinds =>
      constructor
      · intro i h
        rcases i with _ | _ | _ | _ | _ | _ | _ | _ | _ | _ | _ | _ | _ | _ | _ | _ | _ | _ | _ | _ | _ | _ | _ | i <;> simp [Kx.isMade] at h
      · intro i h
        rcases i with _ | _ | _ | _ | _ | _ | _ | _ | _ | _ | _ | _ | _ | _ | _ | _ | _ | _ | _ | _ | _ | _ | _ | i <;> simp [Kx.isUse] at h
    refine lexX_step (fun K hK => ⟨by kernel_rfl, ⟨_, rfl⟩, fun v hv => ?_, fun v hv => ?_⟩)
    · go_simp
      exact mUpon_b
    subst hv
    go_simp
    refine hK _ ?_
    clear hK K
    refine lexX_step (fun K hK => ⟨by kernel_rfl, ⟨_, rfl⟩, fun v hv => ?_, fun v hv => ?_⟩)
    · go_simp
      exact mUpon_b
    subst hv
    go_simp
    refine hK _ ?_
    clear hK K
    refine lexX_step (fun K hK => ⟨by kernel_rfl, ⟨_, rfl⟩, fun v hv => ?_, fun v hv => ?_⟩)
    · go_simp
      exact mUpon_b
    subst hv
    go_simp
    refine hK _ ?_
    clear hK K
    refine lexX_step (fun K hK => ⟨by kernel_rfl, ⟨_, rfl⟩, fun v hv => ?_, fun v hv => ?_⟩)
    · go_simp
      exact mUpon_b
    subst hv
    go_simp
    refine hK _ ?_
    clear hK K
    refine lexX_step (fun K hK => ⟨by kernel_rfl, ⟨_, rfl⟩, fun v hv => ?_, fun v hv => ?_⟩)
    · go_simp
      exact mUpon_b
    subst hv
    go_simp
    refine hK _ ?_
    clear hK K
    refine lexX_step (fun K hK => ⟨by kernel_rfl, ⟨_, rfl⟩, fun v hv => ?_, fun v hv => ?_⟩)
    · go_simp
      exact mUpon_b
    subst hv
    go_simp
    refine hK _ ?_
    clear hK K
    refine lexX_step (fun K hK => ⟨by kernel_rfl, ⟨_, rfl⟩, fun v hv => ?_, fun v hv => ?_⟩)
    · have y9 := unhideR HY6 v hv
      go_simp
      exact mUpon_b
    subst hv
    go_simp
    refine hK _ ?_
    clear hK K
    refine lexX_step (fun K hK => ⟨by kernel_rfl, ⟨_, rfl⟩, fun v hv => ?_, fun v hv => ?_⟩)
    · go_simp
      exact mUpon_b
    subst hv
    go_simp
    refine hK _ ?_
    clear hK K
    refine lexX_step (fun K hK => ⟨by kernel_rfl, ⟨_, rfl⟩, fun v hv => ?_, fun v hv => ?_⟩)
    · go_simp
      exact mUpon_b
    subst hv
    go_simp
    refine hK _ ?_
    clear hK K
    refine lexX_step (fun K hK => ⟨by kernel_rfl, ⟨_, rfl⟩, fun v hv => ?_, fun v hv => ?_⟩)
    · go_simp
      exact mUpon_b
    subst hv
    go_simp
    refine hK _ ?_
    clear hK K
    refine lexX_step (fun K hK => ⟨by kernel_rfl, ⟨_, rfl⟩, fun v hv => ?_, fun v hv => ?_⟩)
    · have y9 := unhideR HZ2 v hv
      go_simp
      exact mUpon_b
    subst hv
    go_simp
    refine hK _ ?_
    clear hK K
    refine lexX_step (fun K hK => ⟨by kernel_rfl, ⟨_, rfl⟩, fun v hv => ?_, fun v hv => ?_⟩)
    · go_simp
      exact mUpon_b
    subst hv
    go_simp
    refine hK _ ?_
    clear hK K
    refine lexX_step (fun K hK => ⟨by kernel_rfl, ⟨_, rfl⟩, fun v hv => ?_, fun v hv => ?_⟩)
    · go_simp
      exact mUpon_b
    subst hv
    go_simp
    refine hK _ ?_
    clear hK K
    refine lexX_step (fun K hK => ⟨by kernel_rfl, ⟨_, rfl⟩, fun v hv => ?_, fun v hv => ?_⟩)
    · go_simp
      exact mUpon_b
    subst hv
    go_simp
    refine hK _ ?_
    clear hK K
    refine lexX_step (fun K hK => ⟨by kernel_rfl, ⟨_, rfl⟩, fun v hv => ?_, fun v hv => ?_⟩)
    · go_simp
      exact mUpon_b
    subst hv
    go_simp
    refine hK _ ?_
    clear hK K
    refine lexX_step (fun K hK => ⟨by kernel_rfl, ⟨_, rfl⟩, fun v hv => ?_, fun v hv => ?_⟩)
    · go_simp
      exact mUpon_b
    subst hv
    go_simp
    refine hK _ ?_
    clear hK K
    refine lexX_step (fun K hK => ⟨by kernel_rfl, ⟨_, rfl⟩, fun v hv => ?_, fun v hv => ?_⟩)
    · go_simp
      exact mUpon_b
    subst hv
    go_simp
    refine hK _ ?_
    clear hK K
    refine lexX_step (fun K hK => ⟨by kernel_rfl, ⟨_, rfl⟩, fun v hv => ?_, fun v hv => ?_⟩)
    · go_simp
      exact mUpon_b
    subst hv
    go_simp
    refine hK _ ?_
    clear hK K
    refine lexX_step (fun K hK => ⟨by kernel_rfl, ⟨_, rfl⟩, fun v hv => ?_, fun v hv => ?_⟩)
    · obtain ⟨y9, y8, y7, y6⟩ := unhideR HY v hv
      go_simp
      exact mUpon_b
    subst hv
    go_simp
    refine hK _ ?_
    clear hK K
    refine lexX_step (fun K hK => ⟨by kernel_rfl, ⟨_, rfl⟩, fun v hv => ?_, fun v hv => ?_⟩)
    · go_simp
      exact mUpon_b
    subst hv
    go_simp
    refine hK _ ?_
    clear hK K
    refine lexX_step (fun K hK => ⟨by kernel_rfl, ⟨_, rfl⟩, fun v hv => ?_, fun v hv => ?_⟩)
    · have y9 := unhideR HZ2 v hv
      go_simp
      exact mUpon_b
    subst hv
    go_simp
    refine hK _ ?_
    clear hK K
    refine lexX_step (fun K hK => ⟨by kernel_rfl, ⟨_, rfl⟩, fun v hv => ?_, fun v hv => ?_⟩)
    · go_simp
      refine (unhideR HM v hv).mono ?_
      rintro e w9 ⟨rfl, k⟩
      exact ⟨_, rfl, rfl, k⟩
    subst hv
    go_simp
    refine hK _ ?_
    clear hK K
    refine lexX_step (fun K hK => ⟨by kernel_rfl, ⟨_, rfl⟩, fun v hv => ?_, fun v hv => ?_⟩)
    · go_simp
      exact mUpon_b
    subst hv
    go_simp
    refine hK _ ?_
    clear hK K
    refine lexX_end (fun v5 hv => ?_)
    have h5 := hv.low
    clear hv HM
    refine wpAny_step (i := 23) (by kernel_rfl) rfl (by kernel_rfl) (fun K hK => ?_)
    unfold Oper.wp
    go_simp
    refine hK _ _ ?_
    clear hK K
    refine wpAny_end (by kernel_rfl) ?_
    cases B
    case false =>
      have HQ := hideR (unhideR HNi v5 (unhideR HOu3 rfl) (unhideR HG2 v5 h5).2)
      clear h5 HNi HOu3 HNx3 HIb3 HBk HG2 HZ2 HL HY HY6 HZk
      go_wp2
      try simp [bodyPost, results, Tryd.results15, go_sem]
      exact unhideR HQ
    have hyb := unhideR HIb3 rfl
    obtain ⟨hU6, hB6, c9, f9⟩ := unhideR HBk v5 h5
    have HC6 := hideR (unhideR HNx3 rfl)
    have hst := run_store Tryd.prog v5 ⟨g, k, none⟩ (.bool true) .plain rfl
    have hzg := (unhideR HZk).1
    have hbg := (unhideR HZk).2
    have y1 : (v5.setCell ⟨g, k, none⟩ (.bool true)).cell? ⟨Z, 1, none⟩ = some (.int .i64 y) := by
      rw [World.cell?_setCell_other _ _ _ _ (fun e => by injection e; omega)]
      exact unhideR HZ2 v5 h5
    have y2 : (v5.setCell ⟨g, k, none⟩ (.bool true)).cell? ⟨bb, off + k * 4 + 2, none⟩ = some (.int .i64 j.lo) := by
      rw [World.cell?_setCell_other _ _ _ _ (fun e => by injection e; omega)]
      exact (unhideR HY v5 h5).2.2.1
    have y3 : (v5.setCell ⟨g, k, none⟩ (.bool true)).cell? ⟨bb, off + k * 4 + 3, none⟩ = some (.int .i64 j.wo) := by
      rw [World.cell?_setCell_other _ _ _ _ (fun e => by injection e; omega)]
      exact (unhideR HY v5 h5).2.2.2
    have wwo : IntKind.i64.wrap (wo + j.wo) = wo + j.wo := iwrap (by omega) (by omega)
    have wlo : IntKind.i64.wrap (y + j.lo) = y + j.lo := iwrap (by omega) (by omega)
    have HU6 := hideR hU6
    have HB6 := hideR hB6
    clear h5 HNi HOu3 HNx3 HIb3 HBk HG2 HZ2 HL HY HY6 HZk hU6 hB6
    go_upto_region 14 with fail
    clear c9 f9 hst
    generalize v5.setCell ⟨g, k, none⟩ (.bool true) = v6 at *
    have HY1 : HeldR (∀ v, Below v6.heap.size v6 v → v.cell? ⟨Z, 1, none⟩ = some (.int .i64 y) ∧ v.cell? ⟨bb, off + k * 4 + 2, none⟩ = some (.int .i64 j.lo)) := hideR (fun v hv => ⟨(hv.cell (p := ⟨Z, 1, none⟩) (cell_lt y1)).trans y1, (hv.cell (p := ⟨bb, off + k * 4 + 2, none⟩) (cell_lt y2)).trans y2⟩)
    clear y1 y2 y3
    refine wp_region_made 1 #[true, true, true, true, true, true, true, false, false] [.lets (· = .pointer (some ⟨Z, 1, none⟩)),
      .lets (· = .int .i64 y),
      .lets (· = .slice (some ⟨bb, off, none⟩) n cap),
      .lets (· = .int .i64 (k : Nat)),
      .lets (· = .pointer (some ⟨bb, off + k * 4, none⟩)),
      .lets (· = .pointer (some ⟨bb, off + k * 4 + 2, none⟩)),
      .lets (· = .int .i64 j.lo)] [] [] (by kernel_rfl) (by kernel_rfl) rfl ?kinds (by kernel_rfl) (by kernel_rfl) (by kernel_rfl) ?_
    case kinds =>
      constructor
      · intro i h
        rcases i with _ | _ | _ | _ | _ | _ | _ | i <;> simp [Kx.isMade] at h
      · intro i h
        rcases i with _ | _ | _ | _ | _ | _ | _ | i <;> simp [Kx.isUse] at h
    refine lexX_step (fun K hK => ⟨by kernel_rfl, ⟨_, rfl⟩, fun v hv => ?_, fun v hv => ?_⟩)
    · go_simp
      exact mUpon_b
    subst hv
    go_simp
    refine hK _ ?_
    clear hK K
    refine lexX_step (fun K hK => ⟨by kernel_rfl, ⟨_, rfl⟩, fun v hv => ?_, fun v hv => ?_⟩)
    · have y9 := (unhideR HY1 v hv).1
      go_simp
      exact mUpon_b
    subst hv
    go_simp
    refine hK _ ?_
    clear hK K
    refine lexX_step (fun K hK => ⟨by kernel_rfl, ⟨_, rfl⟩, fun v hv => ?_, fun v hv => ?_⟩)
    · go_simp
      exact mUpon_b
    subst hv
    go_simp
    refine hK _ ?_
    clear hK K
    refine lexX_step (fun K hK => ⟨by kernel_rfl, ⟨_, rfl⟩, fun v hv => ?_, fun v hv => ?_⟩)
    · go_simp
      exact mUpon_b
    subst hv
    go_simp
    refine hK _ ?_
    clear hK K
    refine lexX_step (fun K hK => ⟨by kernel_rfl, ⟨_, rfl⟩, fun v hv => ?_, fun v hv => ?_⟩)
    · go_simp
      exact mUpon_b
    subst hv
    go_simp
    refine hK _ ?_
    clear hK K
    refine lexX_step (fun K hK => ⟨by kernel_rfl, ⟨_, rfl⟩, fun v hv => ?_, fun v hv => ?_⟩)
    · go_simp
      exact mUpon_b
    subst hv
    go_simp
    refine hK _ ?_
    clear hK K
    refine lexX_step (fun K hK => ⟨by kernel_rfl, ⟨_, rfl⟩, fun v hv => ?_, fun v hv => ?_⟩)
    · have y9 := (unhideR HY1 v hv).2
      go_simp
      exact mUpon_b
    subst hv
    go_simp
    refine hK _ ?_
    clear hK K
    refine lexX_end (fun v7 hv => ?_)
    have HU7 := hideR ((unhideR HU6).below hv.low)
    have HB7 := hideR (below_go (unhideR HB6) hv.low)
    clear hv HY1 HU6 HB6
    refine wpAny_step (i := 7) (by kernel_rfl) rfl (by kernel_rfl) (fun K hK => ?_)
    unfold Oper.wp
    go_simp
    refine hK _ _ ?_
    clear hK K
    refine wpAny_step (i := 8) (by kernel_rfl) rfl (by kernel_rfl) (fun K hK => ?_)
    unfold Oper.wp
    go_simp
    refine hK _ _ ?_
    clear hK K
    refine wpAny_end (by kernel_rfl) ?_
    go_wp2
    exact ⟨⟨i + 1, wo + j.wo, y + j.lo, usd u k, by omega, rfl, rfl, by go_num, by omega, by omega, HC6, HU7, HB7⟩, by simp [intOf]; omega⟩
end Go.Proofs.YtoacdaemhcbbhaaDoor
