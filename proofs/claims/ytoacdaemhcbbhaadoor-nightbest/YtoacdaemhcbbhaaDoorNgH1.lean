/-
  The first instant at which a job may begin: the document's soonest, by contract.
-/
import Derived.Test.YtoacdaemhcbbhaaDoorNgG4
namespace Go.Proofs.YtoacdaemhcbbhaaDoor
open Go Go.RowKit

theorem drop_getD {ws : List Spn} {i : Nat} (h : i < ws.length) : ws.drop i = ws.getD i sp0 :: ws.drop (i + 1) := by
  rw [List.drop_eq_getElem_cons h, List.getD_eq_getElem?_getD, List.getElem?_eq_getElem h]
  rfl
def RsPost (o : Option Int) (w : World) (e : Ending) (w' : World) : Prop := e = .returned (.tuple #[.int .i64 (o.getD 0), .bool o.isSome]) ∧ Below w.heap.size w w'
set_option maxRecDepth 100000 in
set_option maxHeartbeats 6400000 in
theorem rsoon_any {w : World} {j : Jb} {a2 : Option Addr} {c2 : Nat} (hs : SpCame w a2 j.ws) (hk : j.Ok) (t : Int) (ht : -4611686018427387904 ≤ t ∧ t ≤ 4611686018427387904) :
    Calls Tryd.prog 55 #[jbV j a2 c2, .int .i64 t] w (RsPost (soF j.lo t j.ws) w) := by
  unfold jbV
  have z := alloc_last w (.cells #[.string j.nm, .slice a2 j.ws.length c2, .int .i64 j.lo, .int .i64 j.wo] 74)
  have hb := below_a w (.cells #[.string j.nm, .slice a2 j.ws.length c2, .int .i64 j.lo, .int .i64 j.wo] 74)
  have HL : HeldR (∀ u, Below w.heap.size w u → SpCame u a2 j.ws) := hideR (fun u q => hs.below q)
  have HP : HeldR (∀ o w', soF j.lo t j.ws = o → Below w.heap.size w w' → RsPost (soF j.lo t j.ws) w (.returned (.tuple #[.int .i64 (o.getD 0), .bool o.isSome])) w') := hideR (fun o w' h1 h2 => by subst h1; exact ⟨rfl, h2⟩)
  have HR : HeldR (∀ k, k < j.ws.length → -1152921504606846976 ≤ (j.ws.getD k sp0).f ∧ (j.ws.getD k sp0).f < (j.ws.getD k sp0).t ∧ (j.ws.getD k sp0).t ≤ 1152921504606846976) := hideR (fun k h => by have := hk.r k h; unfold Spn.Ok at this; omega)
  have HD : HeldR (∀ i, i < j.ws.length → soF j.lo t (j.ws.drop i) = if (if (j.ws.getD i sp0).f < t then t else (j.ws.getD i sp0).f) + j.lo ≤ (j.ws.getD i sp0).t then some (if (j.ws.getD i sp0).f < t then t else (j.ws.getD i sp0).f) else soF j.lo t (j.ws.drop (i + 1))) := hideR (fun i hi => by rw [drop_getD hi, soF_cons])
  have HN : HeldR (soF j.lo t (j.ws.drop j.ws.length) = none) := hideR (by rw [List.drop_length]; rfl)
  have hnl := hk.n
  have hl1 := hk.l1
  have hl2 := hk.l2
  generalize RsPost (soF j.lo t j.ws) w = POST at *
  have HD0 : HeldR (soF j.lo t j.ws = soF j.lo t (j.ws.drop 0)) := hideR rfl
  obtain ⟨n, hn⟩ : ∃ n, j.ws.length = n := ⟨_, rfl⟩
  have Hn := hideR hn
  rw [hn] at HR HD HN hnl z hb ⊢
  have HZ : HeldR (∀ u, Below (w.alloc (.cells #[.string j.nm, .slice a2 n c2, .int .i64 j.lo, .int .i64 j.wo] 74)).heap.size (w.alloc (.cells #[.string j.nm, .slice a2 n c2, .int .i64 j.lo, .int .i64 j.wo] 74)) u → u.heap[w.heap.size]? = some (.cells #[.string j.nm, .slice a2 n c2, .int .i64 j.lo, .int .i64 j.wo] 74) ∧ Below w.heap.size w u ∧ SpCame u a2 j.ws) := hideR (fun u hu => ⟨keepB z hu, below_go hb hu, unhideR HL u (below_go hb hu)⟩)
  clear z hb hs hk hn HL
  go_enter Tryd.func55, Tryd.ntmps55
  go_wp2_with fail
  generalize w.alloc (.cells #[.string j.nm, .slice a2 n c2, .int .i64 j.lo, .int .i64 j.wo] 74) = u0 at *
  obtain ⟨Z, hZ⟩ : ∃ Z, w.heap.size = Z := ⟨_, rfl⟩
  rw [hZ] at HZ HP ⊢
  clear hZ
  go_loopw [6] (fun iv wl => ∃ i : Nat, i ≤ n ∧ iv = .int .i64 (i : Nat) ∧ HeldR (soF j.lo t j.ws = soF j.lo t (j.ws.drop i)) ∧ HeldR (Below u0.heap.size u0 wl)) (fun iv _ => n + 1 - (intOf iv).toNat)
  case atStart => exact ⟨0, by omega, rfl, HD0, hideR (Below.refl _ _)⟩
  case round =>
    clear HD0
    obtain ⟨i, hi, rfl, HS, HB⟩ := hrel
    have hY := unhideR HZ wr (unhideR HB)
    have j1 := (cells_at hY.1 1 (by simp)).1
    by_cases q : i < n
    case neg =>
      obtain rfl : i = n := by omega
      have ti : decide ((i : Int) < (i : Int)) = false := decide_eq_false (by omega)
      have tin : decide (i < i) = false := decide_eq_false (by omega)
      have HQ := hideR (unhideR HP none wr (by rw [unhideR HS]; exact unhideR HN) hY.2.1)
      clear HS HB HP HD HN HR HZ hY
      go_wp2
      simp [go_sem]
      exact unhideR HQ
    have ti : decide ((i : Int) < (n : Int)) = true := decide_eq_true (by omega)
    have tin : decide (i < n) = true := decide_eq_true q
    have wi : IntKind.i64.wrap ((i : Int) + 1) = (i : Int) + 1 := iwrap (by omega) (by omega)
    have hii : (i : Int) < (n : Int) := by omega
    obtain ⟨bb, off, had, hbb, hS⟩ := hY.2.2.at_ i (by rw [unhideR Hn]; exact q)
    subst had
    have c0 := hS.c0
    have HYv : HeldR (∀ v, Below wr.heap.size wr v → v.heap[Z]? = some (.cells #[.string j.nm, .slice (some ⟨bb, off, none⟩) n c2, .int .i64 j.lo, .int .i64 j.wo] 74) ∧ v.cell? ⟨bb, off + i * 2 + 1, none⟩ = some (.int .i64 (j.ws.getD i sp0).t) ∧ Below u0.heap.size u0 v) := hideR (fun v hv => ⟨keepB hY.1 hv, (hv.cell (p := ⟨bb, off + i * 2 + 1, none⟩) hbb).trans hS.c1, (unhideR HB).trans (hv.mono (unhideR HB).size)⟩)
    have HP2 : HeldR (∀ o v, soF j.lo t j.ws = o → Below wr.heap.size wr v → POST (.returned (.tuple #[.int .i64 (o.getD 0), .bool o.isSome])) v) := hideR (fun o v h1 h2 => unhideR HP o v h1 ((unhideR HZ v ((unhideR HB).trans (h2.mono (unhideR HB).size))).2.1))
    have hr := unhideR HR i q
    have HD2 := hideR (unhideR HD i q)
    rw [← unhideR HS] at HD2
    clear hS hY HS HB HD HR HP
    generalize j.ws.getD i sp0 = s at *
    obtain ⟨m, hm⟩ : ∃ m, (if s.f < t then t else s.f) = m := ⟨_, rfl⟩
    rw [hm] at HD2
    have hmb : m = s.f ∨ m = t := by rw [← hm]; split; exact .inr rfl; exact .inl rfl
    have wm : IntKind.i64.wrap (m + j.lo) = m + j.lo := iwrap (by omega) (by omega)
    obtain ⟨cb, hcb⟩ : ∃ cb, decide (m + j.lo ≤ s.t) = cb := ⟨_, rfl⟩
    have HA : HeldR (cb = true → soF j.lo t j.ws = some m) := hideR (fun h => by rw [unhideR HD2, if_pos (of_decide_eq_true (hcb.trans h))])
    have HAn : HeldR (cb = false → soF j.lo t j.ws = soF j.lo t (j.ws.drop (i + 1))) := hideR (fun h => by rw [unhideR HD2, if_neg (of_decide_eq_false (hcb.trans h))])
    clear HD2 hmb
    have key : s.f < t ∧ m = t ∨ ¬ s.f < t ∧ m = s.f := by
      by_cases h : s.f < t
      · exact .inl ⟨h, by rw [if_pos h] at hm; exact hm.symm⟩
      · exact .inr ⟨h, by rw [if_neg h] at hm; exact hm.symm⟩
    clear hm
    rcases key with ⟨h, rfl⟩ | ⟨h, rfl⟩
    case' inl => have tt : decide (s.f < m) = true := decide_eq_true h
    case' inr => have tt : decide (s.f < t) = false := decide_eq_false h
    case inl =>
      go_upto_region 7 with fail
      clear c0 j1
      refine wp_region_made 0 #[true, true, true, true, true, true, true, true, true, true, false] [.lets (· = .int .i64 m),
        .lets (· = .pointer (some ⟨Z, 2, none⟩)),
        .lets (· = .int .i64 j.lo),
        .lets (· = .int .i64 (m + j.lo)),
        .lets (· = .pointer (some ⟨Z, 1, none⟩)),
        .lets (· = .slice (some ⟨bb, off, none⟩) n c2),
        .lets (· = .int .i64 (i : Nat)),
        .lets (· = .pointer (some ⟨bb, off + i * 2, none⟩)),
        .lets (· = .pointer (some ⟨bb, off + i * 2 + 1, none⟩)),
        .lets (· = .int .i64 s.t)] [] [] (by kernel_rfl) (by kernel_rfl) rfl ?kinds (by kernel_rfl) (by kernel_rfl) (by kernel_rfl) ?_
      case kinds =>
        constructor
        · intro i h
          rcases i with _ | _ | _ | _ | _ | _ | _ | _ | _ | _ | i <;> simp [Kx.isMade] at h
        · intro i h
          rcases i with _ | _ | _ | _ | _ | _ | _ | _ | _ | _ | i <;> simp [Kx.isUse] at h
      refine lexX_step (fun K hK => ⟨by kernel_rfl, ⟨_, rfl⟩, fun v hv => ?_, fun v hv => ?_⟩)
      · go_simp
        exact mUpon_b
      subst hv
      go_simp
      refine hK _ ?_
      clear hK K
      refine lexX_step (fun K hK => ⟨by kernel_rfl, ⟨_, rfl⟩, fun v hv => ?_, fun v hv => ?_⟩)
      · go_simp
        exact mUpon_b
      subst hv
      go_simp
      refine hK _ ?_
      clear hK K
      refine lexX_step (fun K hK => ⟨by kernel_rfl, ⟨_, rfl⟩, fun v hv => ?_, fun v hv => ?_⟩)
      · have y9 := (cells_at (unhideR HYv v hv).1 2 (by simp)).1
        go_simp
        exact mUpon_b
      subst hv
      go_simp
      refine hK _ ?_
      clear hK K
      refine lexX_step (fun K hK => ⟨by kernel_rfl, ⟨_, rfl⟩, fun v hv => ?_, fun v hv => ?_⟩)
      · go_simp
        exact mUpon_b
      subst hv
      go_simp
      refine hK _ ?_
      clear hK K
      refine lexX_step (fun K hK => ⟨by kernel_rfl, ⟨_, rfl⟩, fun v hv => ?_, fun v hv => ?_⟩)
      · go_simp
        exact mUpon_b
      subst hv
      go_simp
      refine hK _ ?_
      clear hK K
      refine lexX_step (fun K hK => ⟨by kernel_rfl, ⟨_, rfl⟩, fun v hv => ?_, fun v hv => ?_⟩)
      · have y9 := (cells_at (unhideR HYv v hv).1 1 (by simp)).1
        go_simp
        exact mUpon_b
      subst hv
      go_simp
      refine hK _ ?_
      clear hK K
      refine lexX_step (fun K hK => ⟨by kernel_rfl, ⟨_, rfl⟩, fun v hv => ?_, fun v hv => ?_⟩)
      · go_simp
        exact mUpon_b
      subst hv
      go_simp
      refine hK _ ?_
      clear hK K
      refine lexX_step (fun K hK => ⟨by kernel_rfl, ⟨_, rfl⟩, fun v hv => ?_, fun v hv => ?_⟩)
      · go_simp
        exact mUpon_b
      subst hv
      go_simp
      refine hK _ ?_
      clear hK K
      refine lexX_step (fun K hK => ⟨by kernel_rfl, ⟨_, rfl⟩, fun v hv => ?_, fun v hv => ?_⟩)
      · go_simp
        exact mUpon_b
      subst hv
      go_simp
      refine hK _ ?_
      clear hK K
      refine lexX_step (fun K hK => ⟨by kernel_rfl, ⟨_, rfl⟩, fun v hv => ?_, fun v hv => ?_⟩)
      · have y9 := (unhideR HYv v hv).2.1
        go_simp
        exact mUpon_b
      subst hv
      go_simp
      refine hK _ ?_
      clear hK K
      refine lexX_end (fun v5 hv => ?_)
      have HB5 := hideR (unhideR HYv v5 hv.low).2.2
      have HP5 := hideR (fun o h => unhideR HP2 o v5 h hv.low)
      clear hv HYv HP2
      refine wpAny_step (i := 10) (by kernel_rfl) rfl (by kernel_rfl) (fun K hK => ?_)
      unfold Oper.wp
      go_simp
      refine hK _ _ ?_
      clear hK K
      refine wpAny_end (by kernel_rfl) ?_
      cases cb
      case true =>
        have HQ := hideR (unhideR HP5 _ (unhideR HA rfl))
        clear HA HAn HP5 HB5
        go_wp2
        try simp [go_sem]
        exact unhideR HQ
      have HS2 := hideR (unhideR HAn rfl)
      clear HA HAn HP5
      go_wp2
      exact ⟨⟨i + 1, by omega, by go_num, HS2, HB5⟩, by simp [intOf]; omega⟩
    case inr =>
      go_upto_region 7 with fail
      clear c0 j1
      refine wp_region_made 0 #[true, true, true, true, true, true, true, true, true, true, false] [.lets (· = .int .i64 s.f),
        .lets (· = .pointer (some ⟨Z, 2, none⟩)),
        .lets (· = .int .i64 j.lo),
        .lets (· = .int .i64 (s.f + j.lo)),
        .lets (· = .pointer (some ⟨Z, 1, none⟩)),
        .lets (· = .slice (some ⟨bb, off, none⟩) n c2),
        .lets (· = .int .i64 (i : Nat)),
        .lets (· = .pointer (some ⟨bb, off + i * 2, none⟩)),
        .lets (· = .pointer (some ⟨bb, off + i * 2 + 1, none⟩)),
        .lets (· = .int .i64 s.t)] [] [] (by kernel_rfl) (by kernel_rfl) rfl ?kinds (by kernel_rfl) (by kernel_rfl) (by kernel_rfl) ?_
      case kinds =>
        constructor
        · intro i h
          rcases i with _ | _ | _ | _ | _ | _ | _ | _ | _ | _ | i <;> simp [Kx.isMade] at h
        · intro i h
          rcases i with _ | _ | _ | _ | _ | _ | _ | _ | _ | _ | i <;> simp [Kx.isUse] at h
      refine lexX_step (fun K hK => ⟨by kernel_rfl, ⟨_, rfl⟩, fun v hv => ?_, fun v hv => ?_⟩)
      · go_simp
        exact mUpon_b
      subst hv
      go_simp
      refine hK _ ?_
      clear hK K
      refine lexX_step (fun K hK => ⟨by kernel_rfl, ⟨_, rfl⟩, fun v hv => ?_, fun v hv => ?_⟩)
      · go_simp
        exact mUpon_b
      subst hv
      go_simp
      refine hK _ ?_
      clear hK K
      refine lexX_step (fun K hK => ⟨by kernel_rfl, ⟨_, rfl⟩, fun v hv => ?_, fun v hv => ?_⟩)
      · have y9 := (cells_at (unhideR HYv v hv).1 2 (by simp)).1
        go_simp
        exact mUpon_b
      subst hv
      go_simp
      refine hK _ ?_
      clear hK K
      refine lexX_step (fun K hK => ⟨by kernel_rfl, ⟨_, rfl⟩, fun v hv => ?_, fun v hv => ?_⟩)
      · go_simp
        exact mUpon_b
      subst hv
      go_simp
      refine hK _ ?_
      clear hK K
      refine lexX_step (fun K hK => ⟨by kernel_rfl, ⟨_, rfl⟩, fun v hv => ?_, fun v hv => ?_⟩)
      · go_simp
        exact mUpon_b
      subst hv
      go_simp
      refine hK _ ?_
      clear hK K
      refine lexX_step (fun K hK => ⟨by kernel_rfl, ⟨_, rfl⟩, fun v hv => ?_, fun v hv => ?_⟩)
      · have y9 := (cells_at (unhideR HYv v hv).1 1 (by simp)).1
        go_simp
        exact mUpon_b
      subst hv
      go_simp
      refine hK _ ?_
      clear hK K
      refine lexX_step (fun K hK => ⟨by kernel_rfl, ⟨_, rfl⟩, fun v hv => ?_, fun v hv => ?_⟩)
      · go_simp
        exact mUpon_b
      subst hv
      go_simp
      refine hK _ ?_
      clear hK K
      refine lexX_step (fun K hK => ⟨by kernel_rfl, ⟨_, rfl⟩, fun v hv => ?_, fun v hv => ?_⟩)
      · go_simp
        exact mUpon_b
      subst hv
      go_simp
      refine hK _ ?_
      clear hK K
      refine lexX_step (fun K hK => ⟨by kernel_rfl, ⟨_, rfl⟩, fun v hv => ?_, fun v hv => ?_⟩)
      · go_simp
        exact mUpon_b
      subst hv
      go_simp
      refine hK _ ?_
      clear hK K
      refine lexX_step (fun K hK => ⟨by kernel_rfl, ⟨_, rfl⟩, fun v hv => ?_, fun v hv => ?_⟩)
      · have y9 := (unhideR HYv v hv).2.1
        go_simp
        exact mUpon_b
      subst hv
      go_simp
      refine hK _ ?_
      clear hK K
      refine lexX_end (fun v5 hv => ?_)
      have HB5 := hideR (unhideR HYv v5 hv.low).2.2
      have HP5 := hideR (fun o h => unhideR HP2 o v5 h hv.low)
      clear hv HYv HP2
      refine wpAny_step (i := 10) (by kernel_rfl) rfl (by kernel_rfl) (fun K hK => ?_)
      unfold Oper.wp
      go_simp
      refine hK _ _ ?_
      clear hK K
      refine wpAny_end (by kernel_rfl) ?_
      cases cb
      case true =>
        have HQ := hideR (unhideR HP5 _ (unhideR HA rfl))
        clear HA HAn HP5 HB5
        go_wp2
        try simp [bodyPost, results, Tryd.results55, go_sem]
        exact unhideR HQ
      have HS2 := hideR (unhideR HAn rfl)
      clear HA HAn HP5
      go_wp2
      exact ⟨⟨i + 1, by omega, by go_num, HS2, HB5⟩, by simp [intOf]; omega⟩
end Go.Proofs.YtoacdaemhcbbhaaDoor
