/-
  Jobs of a night: the document's JobsError, by contract.
-/
import Derived.Test.YtoacdaemhcbbhaaDoorEvSp0
import Derived.Deep.CutRange
namespace Go.Proofs.YtoacdaemhcbbhaaDoor
open Go Go.RowKit

/-- a job: its name, its windows, how long it is, what it is worth. -/
structure Jb where
  nm : ByteArray
  ws : List Spn
  lo : Int
  wo : Int
def jb0 : Jb := ⟨ByteArray.empty, [], 0, 0⟩
structure JbAt (w : World) (b o : Nat) (j : Jb) : Prop where
  c0 : w.cell? ⟨b, o, none⟩ = some (.string j.nm)
  c1 : ∃ ad cap, w.cell? ⟨b, o + 1, none⟩ = some (.slice ad j.ws.length cap) ∧ SpCame w ad j.ws
  c2 : w.cell? ⟨b, o + 2, none⟩ = some (.int .i64 j.lo)
  c3 : w.cell? ⟨b, o + 3, none⟩ = some (.int .i64 j.wo)
structure JbCame (w : World) (ad : Option Addr) (L : List Jb) : Prop where
  at_ : ∀ k, k < L.length → ∃ b off, ad = some ⟨b, off, none⟩ ∧ b < w.heap.size ∧ JbAt w b (off + k * 4) (L.getD k jb0)
theorem JbAt.below {w v : World} {b o : Nat} {j : Jb} (h : JbAt w b o j) (k : Below w.heap.size w v) (hb : b < w.heap.size) : JbAt v b o j := by
  obtain ⟨ad, cap, h1, h2⟩ := h.c1
  exact ⟨(k.cell hb).trans h.c0, ⟨ad, cap, (k.cell hb).trans h1, h2.below k⟩, (k.cell hb).trans h.c2, (k.cell hb).trans h.c3⟩
theorem JbCame.below {w v : World} {ad : Option Addr} {L : List Jb} (h : JbCame w ad L) (k : Below w.heap.size w v) : JbCame v ad L := ⟨fun j hj => by
  obtain ⟨b, off, e, hb, h1⟩ := h.at_ j hj
  exact ⟨b, off, e, Nat.lt_of_lt_of_le hb k.size, h1.below k hb⟩⟩
/-- a name that is empty, or there ahead. -/
def nmX (l : List Jb) (i : Nat) : Bool := (l.getD i jb0).nm.toList.isEmpty || decide (∃ k, k < i ∧ ((l.getD k jb0).nm.toList == (l.getD i jb0).nm.toList) = true)
def shX (j : Jb) : Bool := decide (j.lo < 1 ∨ 1099511627776 < j.lo ∨ j.wo < 1 ∨ 1099511627776 < j.wo ∨ 0 < spE j.ws [])
def joE (l : List Jb) : Int := if 12 < l.length then 2 else if ∃ i, i < l.length ∧ nmX l i = true then 10 else if ∃ i, i < l.length ∧ shX (l.getD i jb0) = true then 5 else 0
set_option maxRecDepth 100000 in
set_option maxHeartbeats 6400000 in
theorem jobsError_any {w : World} {ad : Option Addr} {cap : Nat} {l : List Jb} (hl : JbCame w ad l) (hn : l.length ≤ 9223372036854775807) (hw : ∀ k, k < l.length → (l.getD k jb0).ws.length ≤ 9223372036854775807) :
    Calls Tryd.prog 10 #[.slice ad l.length cap] w fun e w' => e = .returned (.int .i64 (joE l)) ∧ Below w.heap.size w w' := by
  have HL : HeldR (∀ u, Below w.heap.size w u → JbCame u ad l) := hideR (fun u q => hl.below q)
  have HW := hideR hw
  obtain ⟨n, hn0⟩ : ∃ n, l.length = n := ⟨_, rfl⟩
  have Hn := hideR hn0
  have HE : HeldR (joE l = if 12 < n then 2 else if ∃ i, i < n ∧ nmX l i = true then 10 else if ∃ i, i < n ∧ shX (l.getD i jb0) = true then 5 else 0) := hideR (by unfold joE; rw [hn0])
  generalize joE l = E at *
  rw [hn0] at hn ⊢
  clear hl hw hn0
  by_cases q12 : 12 < n
  · have t0 : decide ((12 : Int) < (n : Int)) = true := decide_eq_true (by omega)
    have e : E = 2 := by rw [unhideR HE, if_pos q12]
    subst e
    clear HE HL HW
    go_enter Tryd.func10, Tryd.ntmps10
    go_wp2
    go_ret
    exact ⟨rfl, Below.refl _ _⟩
  have t0 : decide ((12 : Int) < (n : Int)) = false := decide_eq_false (by omega)
  have HE10 : HeldR (∀ i, i < n → nmX l i = true → E = 10) := hideR (fun i h1 h2 => by rw [unhideR HE, if_neg q12, if_pos ⟨i, h1, h2⟩])
  have HE5 : HeldR ((∀ i, i < n → nmX l i = false) → ∀ i, i < n → shX (l.getD i jb0) = true → E = 5) := hideR (fun h0 i h1 h2 => by rw [unhideR HE, if_neg q12, if_neg (fun ⟨j, h3, h4⟩ => by rw [h0 j h3] at h4; cases h4), if_pos ⟨i, h1, h2⟩])
  have HE0 : HeldR ((∀ i, i < n → nmX l i = false) → (∀ i, i < n → shX (l.getD i jb0) = false) → E = 0) := hideR (fun h0 h5 => by rw [unhideR HE, if_neg q12, if_neg (fun ⟨j, h3, h4⟩ => by rw [h0 j h3] at h4; cases h4), if_neg (fun ⟨j, h3, h4⟩ => by rw [h5 j h3] at h4; cases h4)])
  clear HE
  go_enter Tryd.func10, Tryd.ntmps10
  go_wp2
  go_loopw [3] (fun iv wl => ∃ i : Nat, i ≤ n ∧ iv = .int .i64 (i : Nat) ∧ HeldR (∀ k, k < i → nmX l k = false) ∧ HeldR (Below w.heap.size w wl)) (fun iv _ => n + 1 - (intOf iv).toNat)
  case atStart => exact ⟨0, by omega, rfl, hideR (fun k hk => absurd hk (Nat.not_lt_zero k)), hideR (Below.refl _ _)⟩
  case round =>
    obtain ⟨i, hi, rfl, HA, HB⟩ := hrel
    by_cases q : i < n
    · have ti : decide ((i : Int) < (n : Int)) = true := decide_eq_true (by omega)
      have tin : decide (i < n) = true := decide_eq_true q
      have wi : IntKind.i64.wrap ((i : Int) + 1) = (i : Int) + 1 := iwrap (by omega) (by omega)
      have hii : (i : Int) < (n : Int) := by omega
      obtain ⟨bb, off, had, hbb, hJ⟩ := (unhideR HL wr (unhideR HB)).at_ i (by rw [unhideR Hn]; exact q)
      subst had
      have hi0 := hJ.c0
      have HX : HeldR (nmX l i = ((l.getD i jb0).nm.toList.isEmpty || decide (∃ k, k < i ∧ ((l.getD k jb0).nm.toList == (l.getD i jb0).nm.toList) = true))) := hideR rfl
      obtain ⟨xi, hxi⟩ : ∃ xi, (l.getD i jb0).nm = xi := ⟨_, rfl⟩
      rw [hxi] at hi0 HX
      have HXi := hideR hxi
      clear hxi hJ
      cases qe : xi.toList.isEmpty with
      | true =>
        have e : E = 10 := unhideR HE10 i q (by rw [unhideR HX, qe]; rfl)
        subst e
        go_wp2
        go_ret
        exact ⟨rfl, unhideR HB⟩
      | false =>
        go_wp2
        go_loopw [4] (fun kv wl => ∃ k : Nat, k ≤ i ∧ kv = .int .i64 (k : Nat) ∧ HeldR (∀ m, m < k → ((l.getD m jb0).nm.toList == xi.toList) = false) ∧ HeldR (Below w.heap.size w wl)) (fun kv _ => i + 1 - (intOf kv).toNat)
        case atStart => exact ⟨0, by omega, rfl, hideR (fun k hk => absurd hk (Nat.not_lt_zero k)), HB⟩
        case round =>
          clear HB hi0 hbb
          obtain ⟨k, hk, rfl, HC, HB⟩ := hrel
          by_cases q2 : k < i
          · have tk : decide ((k : Int) < (i : Int)) = true := decide_eq_true (by omega)
            have tkn : decide (k < i) = true := decide_eq_true q2
            have wk : IntKind.i64.wrap ((k : Int) + 1) = (k : Int) + 1 := iwrap (by omega) (by omega)
            have hki : (k : Int) < (n : Int) := by omega
            obtain ⟨b', o', e', _, hJi⟩ := (unhideR HL wr (unhideR HB)).at_ i (by rw [unhideR Hn]; exact q)
            cases e'
            obtain ⟨b', o', e', _, hJk⟩ := (unhideR HL wr (unhideR HB)).at_ k (by rw [unhideR Hn]; omega)
            cases e'
            have hi0 := hJi.c0
            have hk0 := hJk.c0
            rw [unhideR HXi] at hi0
            obtain ⟨xk, hxk⟩ : ∃ xk, (l.getD k jb0).nm = xk := ⟨_, rfl⟩
            rw [hxk] at hk0
            have HXk := hideR hxk
            obtain ⟨QB, hQB⟩ : ∃ QB, (xk.toList == xi.toList) = QB := ⟨_, rfl⟩
            have HQ := hideR hQB
            clear hJi hJk hxk
            go_wp2_with fail
            refine wp_region_lets [(· = .slice (some ⟨bb, off, none⟩) n cap),
              (· = .int .i64 (k : Nat)),
              (· = .pointer (some ⟨bb, off + k * 4, none⟩)),
              (· = .pointer (some ⟨bb, off + k * 4, none⟩)),
              (· = .string xk),
              (· = .slice (some ⟨bb, off, none⟩) n cap),
              (· = .int .i64 (i : Nat)),
              (· = .pointer (some ⟨bb, off + i * 4, none⟩)),
              (· = .pointer (some ⟨bb, off + i * 4, none⟩)),
              (· = .string xi),
              (· = .bool QB)] (by kernel_rfl) (by kernel_rfl) ?_
            refine lexL_step (fun K hK => ⟨by kernel_rfl, ⟨_, rfl⟩, fun n => ?_, fun v hv => ?_⟩)
            · go_simp
              exact lUpon_one
            subst hv
            go_simp
            refine hK _ ?_
            clear hK K
            refine lexL_step (fun K hK => ⟨by kernel_rfl, ⟨_, rfl⟩, fun n => ?_, fun v hv => ?_⟩)
            · go_simp
              exact lUpon_one
            subst hv
            go_simp
            refine hK _ ?_
            clear hK K
            refine lexL_step (fun K hK => ⟨by kernel_rfl, ⟨_, rfl⟩, fun n => ?_, fun v hv => ?_⟩)
            · go_simp
              exact lUpon_one
            subst hv
            go_simp
            refine hK _ ?_
            clear hK K
            refine lexL_step (fun K hK => ⟨by kernel_rfl, ⟨_, rfl⟩, fun n => ?_, fun v hv => ?_⟩)
            · go_simp
              exact lUpon_one
            subst hv
            go_simp
            refine hK _ ?_
            clear hK K
            refine lexL_step (fun K hK => ⟨by kernel_rfl, ⟨_, rfl⟩, fun n => ?_, fun v hv => ?_⟩)
            · have q9 : (wr.drewN n).cell? ⟨bb, off + k * 4, none⟩ = some (.string xk) := hk0
              go_simp
              exact lUpon_one
            subst hv
            go_simp
            refine hK _ ?_
            clear hK K
            refine lexL_step (fun K hK => ⟨by kernel_rfl, ⟨_, rfl⟩, fun n => ?_, fun v hv => ?_⟩)
            · go_simp
              exact lUpon_one
            subst hv
            go_simp
            refine hK _ ?_
            clear hK K
            refine lexL_step (fun K hK => ⟨by kernel_rfl, ⟨_, rfl⟩, fun n => ?_, fun v hv => ?_⟩)
            · go_simp
              exact lUpon_one
            subst hv
            go_simp
            refine hK _ ?_
            clear hK K
            refine lexL_step (fun K hK => ⟨by kernel_rfl, ⟨_, rfl⟩, fun n => ?_, fun v hv => ?_⟩)
            · go_simp
              exact lUpon_one
            subst hv
            go_simp
            refine hK _ ?_
            clear hK K
            refine lexL_step (fun K hK => ⟨by kernel_rfl, ⟨_, rfl⟩, fun n => ?_, fun v hv => ?_⟩)
            · go_simp
              exact lUpon_one
            subst hv
            go_simp
            refine hK _ ?_
            clear hK K
            refine lexL_step (fun K hK => ⟨by kernel_rfl, ⟨_, rfl⟩, fun n => ?_, fun v hv => ?_⟩)
            · have q9 : (wr.drewN n).cell? ⟨bb, off + i * 4, none⟩ = some (.string xi) := hi0
              go_simp
              exact lUpon_one
            subst hv
            go_simp
            refine hK _ ?_
            clear hK K
            refine lexL_step (fun K hK => ⟨by kernel_rfl, ⟨_, rfl⟩, fun n => ?_, fun v hv => ?_⟩)
            · go_simp
              exact lUpon_one
            subst hv
            go_simp
            refine hK _ ?_
            clear hK K
            refine lexL_end ?_
            intro n9
            have HB2 := hideR (below_go (unhideR HB) (drawn_below wr n9))
            clear hi0 hk0 hQB HB
            generalize wr.drewN n9 = v8 at *
            cases QB with
            | true =>
              have e : E = 10 := unhideR HE10 i q (by
                rw [unhideR HX, qe, Bool.false_or]
                exact decide_eq_true ⟨k, q2, by rw [unhideR HXk]; exact unhideR HQ⟩)
              subst e
              go_wp2
              go_ret
              exact ⟨rfl, unhideR HB2⟩
            | false =>
              have HC2 : HeldR (∀ m, m < k + 1 → ((l.getD m jb0).nm.toList == xi.toList) = false) := hideR (fun m hm => by
                by_cases e : m = k
                · rw [e, unhideR HXk]; exact unhideR HQ
                · exact unhideR HC m (by omega))
              clear HC
              go_wp2
              exact ⟨⟨k + 1, by omega, by go_num, HC2, HB2⟩, by simp [intOf]; omega⟩
          · obtain rfl : k = i := by omega
            have tk : decide ((k : Int) < (k : Int)) = false := decide_eq_false (by omega)
            have tkn : decide (k < k) = false := decide_eq_false (by omega)
            have HA2 : HeldR (∀ m, m < k + 1 → nmX l m = false) := hideR (fun m hm => by
              by_cases e : m = k
              · rw [e, unhideR HX, qe, Bool.false_or]
                exact decide_eq_false (fun ⟨j, h1, h2⟩ => by rw [unhideR HC j h1] at h2; cases h2)
              · exact unhideR HA m (by omega))
            clear HA HC
            go_wp2
            exact ⟨⟨k + 1, by omega, by go_num, HA2, HB⟩, by simp [intOf]; omega⟩
    · obtain rfl : i = n := by omega
      have ti : decide ((i : Int) < (i : Int)) = false := decide_eq_false (by omega)
      have tin : decide (i < i) = false := decide_eq_false (by omega)
      have HE5' := hideR (unhideR HE5 (unhideR HA))
      have HE0' := hideR (unhideR HE0 (unhideR HA))
      clear HE10 HE5 HE0 HA
      go_wp2
      go_loopw [5] (fun iv wl => ∃ m : Nat, m ≤ i ∧ iv = .int .i64 (m : Nat) ∧ HeldR (∀ k, k < m → shX (l.getD k jb0) = false) ∧ HeldR (Below w.heap.size w wl)) (fun iv _ => i + 1 - (intOf iv).toNat)
      case atStart => exact ⟨0, by omega, rfl, hideR (fun k hk => absurd hk (Nat.not_lt_zero k)), HB⟩
      case round =>
        clear HB
        obtain ⟨m, hm, rfl, HA, HB⟩ := hrel
        by_cases q5 : m < i
        · have tm : decide ((m : Int) < (i : Int)) = true := decide_eq_true (by omega)
          have tmn : decide (m < i) = true := decide_eq_true q5
          have wm : IntKind.i64.wrap ((m : Int) + 1) = (m : Int) + 1 := iwrap (by omega) (by omega)
          have hmm : (m : Int) < (i : Int) := by omega
          obtain ⟨bb, off, had, hbb, hJ⟩ := (unhideR HL wr (unhideR HB)).at_ m (by rw [unhideR Hn]; exact q5)
          subst had
          have hws := unhideR HW m (by rw [unhideR Hn]; exact q5)
          have HSh : HeldR (shX (l.getD m jb0) = decide ((l.getD m jb0).lo < 1 ∨ 1099511627776 < (l.getD m jb0).lo ∨ (l.getD m jb0).wo < 1 ∨ 1099511627776 < (l.getD m jb0).wo ∨ 0 < spE (l.getD m jb0).ws [])) := hideR rfl
          obtain ⟨j0, ⟨wa, wc, j1, hsp⟩, j2, j3⟩ := hJ
          obtain ⟨jb, hjb⟩ : ∃ jb, l.getD m jb0 = jb := ⟨_, rfl⟩
          rw [hjb] at j0 j1 j2 j3 hsp hws HSh
          have Hjb := hideR hjb
          clear hjb
          obtain ⟨nm, ws, lo, wo⟩ := jb
          simp only at j0 j1 j2 j3 hsp hws HSh
          have z6 := alloc_last wr (.cells #[.string nm, .slice wa ws.length wc, .int .i64 lo, .int .i64 wo] 74)
          have HB6 := hideR (below_go (unhideR HB) (below_a wr (.cells #[.string nm, .slice wa ws.length wc, .int .i64 lo, .int .i64 wo] 74)))
          have hsp6 := hsp.below (below_a wr (.cells #[.string nm, .slice wa ws.length wc, .int .i64 lo, .int .i64 wo] 74))
          go_upto_region 17 with fail
          generalize wr.alloc (.cells #[.string nm, .slice wa ws.length wc, .int .i64 lo, .int .i64 wo] 74) = v6 at *
          generalize wr.heap.size = K at *
          clear j0 j1 j2 j3 hsp HB hbb
          have x1 := (cells_at z6 1 (by simp)).1
          have x2 := (cells_at z6 2 (by simp)).1
          have x3 := (cells_at z6 3 (by simp)).1
          have hse := spansError_any wa none wc 0 ws [] v6 hsp6 (SpCame.nil _ _) hws (by simp)
          clear z6 hsp6
          by_cases a1 : lo < 1
          · have u1 : decide (lo < 1) = true := decide_eq_true a1
            have e : E = 5 := unhideR HE5' m q5 (by rw [unhideR Hjb, unhideR HSh]; exact decide_eq_true (.inl a1))
            subst e
            go_wp2
            go_ret
            exact ⟨rfl, unhideR HB6⟩
          · have u1 : decide (lo < 1) = false := decide_eq_false a1
            by_cases a2 : 1099511627776 < lo
            · have u2 : decide (1099511627776 < lo) = true := decide_eq_true a2
              have e : E = 5 := unhideR HE5' m q5 (by rw [unhideR Hjb, unhideR HSh]; exact decide_eq_true (.inr (.inl a2)))
              subst e
              go_wp2
              go_ret
              exact ⟨rfl, unhideR HB6⟩
            · have u2 : decide (1099511627776 < lo) = false := decide_eq_false a2
              by_cases a3 : wo < 1
              · have u3 : decide (wo < 1) = true := decide_eq_true a3
                have e : E = 5 := unhideR HE5' m q5 (by rw [unhideR Hjb, unhideR HSh]; exact decide_eq_true (.inr (.inr (.inl a3))))
                subst e
                go_wp2
                go_ret
                exact ⟨rfl, unhideR HB6⟩
              · have u3 : decide (wo < 1) = false := decide_eq_false a3
                by_cases a4 : 1099511627776 < wo
                · have u4 : decide (1099511627776 < wo) = true := decide_eq_true a4
                  have e : E = 5 := unhideR HE5' m q5 (by rw [unhideR Hjb, unhideR HSh]; exact decide_eq_true (.inr (.inr (.inr (.inl a4)))))
                  subst e
                  go_wp2
                  go_ret
                  exact ⟨rfl, unhideR HB6⟩
                · have u4 : decide (1099511627776 < wo) = false := decide_eq_false a4
                  go_wp2_with fail
                  refine hse.mono ?_
                  rintro e v7 ⟨rfl, k7⟩
                  have HB7 := hideR (below_go (unhideR HB6) k7)
                  clear hse k7 x1 x2 x3 HB6
                  by_cases a5 : 0 < spE ws []
                  · have u5 : decide (0 < spE ws []) = true := decide_eq_true a5
                    have e : E = 5 := unhideR HE5' m q5 (by rw [unhideR Hjb, unhideR HSh]; exact decide_eq_true (.inr (.inr (.inr (.inr a5)))))
                    subst e
                    go_wp2
                    go_ret
                    exact ⟨rfl, unhideR HB7⟩
                  · have u5 : decide (0 < spE ws []) = false := decide_eq_false a5
                    have HA2 : HeldR (∀ k, k < m + 1 → shX (l.getD k jb0) = false) := hideR (fun k hk => by
                      by_cases e : k = m
                      · rw [e, unhideR Hjb, unhideR HSh]
                        exact decide_eq_false (fun h => by
                          rcases h with h | h | h | h | h
                          · omega
                          · omega
                          · omega
                          · omega
                          · omega)
                      · exact unhideR HA k (by omega))
                    clear HA a1 a2 a3 a4 a5
                    go_wp2
                    exact ⟨⟨m + 1, by omega, by go_num, HA2, HB7⟩, by simp [intOf]; omega⟩
        · obtain rfl : m = i := by omega
          have tm : decide ((m : Int) < (m : Int)) = false := decide_eq_false (by omega)
          have tmn : decide (m < m) = false := decide_eq_false (by omega)
          have e : E = 0 := unhideR HE0' (unhideR HA)
          subst e
          clear HA HE5' HE0'
          go_wp2
          go_ret
          exact ⟨rfl, unhideR HB⟩
end Go.Proofs.YtoacdaemhcbbhaaDoor
