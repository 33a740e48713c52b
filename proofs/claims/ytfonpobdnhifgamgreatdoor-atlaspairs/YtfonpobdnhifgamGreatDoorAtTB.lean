/-
  The program's Cone. The search for the nearest: what it asks for: the program's, by contract.
-/
import Derived.Test.YtfonpobdnhifgamGreatDoorAtT4
namespace Go.Proofs.YtfonpobdnhifgamGreatDoor
open Go Go.RowKit

theorem rep_seen {w : World} {p : Nat} {lv : Int} {L : List En} {O : Nat → Prop} {sn : Int} (h : ARep w p lv L O sn) (v : Int) : ARep (w.setCell ⟨p, 4, none⟩ (.int .i64 v)) p lv L O v := by
  obtain ⟨sv, bn, bc, es, clock, hx, hO⟩ := h
  have ne : ∀ k, k ≠ p → (w.setCell ⟨p, 4, none⟩ (.int .i64 v)).heap[k]? = w.heap[k]? := fun k hk => Below.heap_setCell _ _ _ _ hk
  have hbn := hx.bnp
  have hbc := hx.bcp
  refine ⟨sv, bn, bc, es, clock, ⟨hx.lvl, heap_setCell_same _ _ _ _ _ _ hx.hp, ⟨row_keep hx.st.own (fun k q => ne k (fun e => by have := (row_block hx.st.own q).1; omega))⟩, ?_, ?_, hx.bnp, hx.bcp, hx.bnc, hx.dir, hx.siz⟩, hO⟩
  · obtain ⟨D, ⟨es', c', hb, F, r⟩, hd⟩ := hx.nm.ex
    exact ⟨D, ⟨es', c', (ne bn (by omega)).trans hb, F, r⟩, hd⟩
  · refine ⟨(ne bc (by omega)).trans hx.cl.hb, hx.cl.st, fun x hx' => ?_, hx.cl.no, hx.cl.ap⟩
    obtain ⟨s, hs, e, hr⟩ := hx.cl.rd x hx'
    exact ⟨s, hs, e, row_keep hr (fun k q => ne k (fun e => by have := (row_block hr q).1; omega))⟩
theorem rep_p {w : World} {p : Nat} {lv : Int} {L : List En} {O : Nat → Prop} {sn : Int} (h : ARep w p lv L O sn) : O p := by
  obtain ⟨sv, bn, bc, es, clock, hx, hO⟩ := h
  exact (hO p).2 (.inl rfl)
def ConePost (a : Nat → Addr) (d : Dr) (num den : Int) (w : World) (p : Nat) (lv : Int) (L : List En) (O : Nat → Prop) (r : Ending) (w' : World) : Prop := ∃ v E O' sn', r = .returned (.tuple #[v, E]) ∧ ErrIs a (coE d num den) E ∧ NmIs w' v (if coE d num den = 0 then cnV d num den L L.length else []) ∧ ARep w' p lv L O' sn' ∧ (∀ k, O' k → O k ∨ w.heap.size ≤ k) ∧ Oth O w w'
theorem nm_none (w : World) : NmIs w (.slice none 0 0) [] := by
  obtain ⟨ad, cap, e, hc, _⟩ := own_str (L := []) (World.ownsRow_nil w w.heap.size 9 1)
  exact ⟨ad, cap, e, hc⟩
theorem cone_err {a : Nat → Addr} {d : Dr} {num den : Int} {w w' : World} {p : Nat} {lv : Int} {L : List En} {O : Nat → Prop} {sn : Int} (h : ARep w p lv L O sn) (e : coE d num den = 5) (g : Below w.heap.size w w') : ConePost a d num den w p lv L O (.returned (.tuple #[.slice none 0 0, .iface 224 (.pointer (some (a 4)))])) w' :=
  ⟨_, _, O, sn, rfl, .inr ⟨4, by decide, e, rfl⟩, by rw [e, if_neg (by decide)]; exact nm_none w', arep_keep h (fun j hj => g.block j (arep_low h j hj)), fun k hk => .inl hk, ⟨g.os, g.tape, g.output, g.size, fun k hk _ => g.block k hk⟩⟩
theorem cone_nil {a : Nat → Addr} {d : Dr} {num den : Int} {w w' : World} {p : Nat} {lv : Int} {L : List En} {O : Nat → Prop} {sn : Int} (h : ARep w p lv L O sn) (hL : L.length = 0) (e : coE d num den = 0) (g : Below w.heap.size w w') : ConePost a d num den w p lv L O (.returned (.tuple #[.slice none 0 0, .nilIface])) w' :=
  ⟨_, _, O, sn, rfl, .inl ⟨e, rfl⟩, by rw [e, if_pos rfl, hL]; exact nm_none w', arep_keep h (fun j hj => g.block j (arep_low h j hj)), fun k hk => .inl hk, ⟨g.os, g.tape, g.output, g.size, fun k hk _ => g.block k hk⟩⟩
theorem cone_ok {a : Nat → Addr} {d : Dr} {num den : Int} {w v5 u7 u8 : World} {p : Nat} {lv : Int} {L : List En} {O : Nat → Prop} {sn sn' : Int} {v : Value} {x : List Nat} (h : ARep w p lv L O sn) (e : coE d num den = 0) (g5 : Below w.heap.size w v5) (h7 : ARep u7 p lv L O sn') (o7 : Oth (· = p) v5 u7) (b8 : Below v5.heap.size u7 u8) (hr : u8.ownsRow v5.heap.size 9 1 v (x.map fun i => (L.getD i en0).nm).length ((insB (x.map fun i => (L.getD i en0).nm)).map Value.string)) (hC : Cv lv L d (enW (coFrom d num den)) tkW (facL 6) [] x) : ConePost a d num den w p lv L O (.returned (.tuple #[v, .nilIface])) u8 := by
  have hz := coE_zero e
  obtain ⟨sv, bn, bc, es, clock, hx, hO⟩ := h
  have hcn := cn_is hx.lvl.1 hx.dir hz.1 (by omega) hC
  have hl : (insB (x.map fun i => (L.getD i en0).nm)).length = (x.map fun i => (L.getD i en0).nm).length := (insB_both _).1.length_eq
  have hA : ARep w p lv L O sn := ⟨sv, bn, bc, es, clock, hx, hO⟩
  have hlow : ∀ k, O k → k < v5.heap.size := fun k hk => Nat.lt_of_lt_of_le (arep_low hA k hk) g5.size
  refine ⟨v, .nilIface, O, sn', rfl, .inl ⟨e, rfl⟩, ?_, arep_keep h7 (fun j hj => b8.block j (hlow j hj)), fun k hk => .inl hk, ?_⟩
  · rw [e, if_pos rfl, ← hcn]
    rw [← hl] at hr
    obtain ⟨ad, cap, ev, hc, _⟩ := own_str hr
    exact ⟨ad, cap, ev, hc⟩
  · refine ⟨b8.os.trans (o7.os.trans g5.os), b8.tape.trans (o7.tape.trans g5.tape), b8.output.trans (o7.output.trans g5.output), Nat.le_trans g5.size (Nat.le_trans o7.size b8.size), fun k hk hn => ?_⟩
    have hk5 : k < v5.heap.size := Nat.lt_of_lt_of_le hk g5.size
    exact (b8.block k hk5).trans ((o7.block k hk5 (fun ep => hn (by rw [ep]; exact rep_p hA))).trans (g5.block k hk))
theorem x_len {lv : Int} {K : List En} (hlv : 0 ≤ lv) (hK : ∀ e ∈ K, dirB e.d = true) {d : Dr} (hd : dirB d = true) {num den : Int} (hden : 0 < den) {x : List Nat} (h : Cv lv K d (enW (coFrom d num den)) tkW (facL 6) [] x) : x.length ≤ K.length := by
  have h1 := congrArg List.length (cn_is hlv hK hd hden h)
  rw [(insB_both _).1.length_eq, List.length_map] at h1
  rw [h1]
  exact cn_len d num den K K.length
set_option maxRecDepth 1000000 in
set_option maxHeartbeats 6400000 in
theorem pcone_any {a : Nat → Addr} {w : World} {p : Nat} {lv : Int} {K : List En} {O : Nat → Prop} {sn : Int} (h : ARep w p lv K O sn) (hS : Sents w a) (hKl : K.length ≤ 200) (d : Dr) (num den : Int) :
    Calls Tryz.prog 10 #[.pointer (some ⟨p, 0, none⟩), d.val, .int .i64 num, .int .i64 den] w (ConePost a d num den w p lv K O) := by
  have hdi := fun u => pdir_any d u
  have hic := fun u => piscos_any num den u
  have HSu : HeldR (∀ u, Below w.heap.size w u → Sents u a) := hideR (fun u g => hS.below g (Nat.le_refl _))
  have HA : HeldR (∀ u, Below w.heap.size w u → ARep u p lv K O sn) := hideR (fun u g => arep_keep h (fun j hj => g.block j (arep_low h j hj)))
  have H5 : HeldR (coE d num den = 5 → ∀ w', Below w.heap.size w w' → ConePost a d num den w p lv K O (.returned (.tuple #[.slice none 0 0, .iface 224 (.pointer (some (a 4)))])) w') := hideR (fun e w' g => cone_err h e g)
  have H0 : HeldR (coE d num den = 0 → K.length = 0 → ∀ w', Below w.heap.size w w' → ConePost a d num den w p lv K O (.returned (.tuple #[.slice none 0 0, .nilIface])) w') := hideR (fun e hL w' g => cone_nil h hL e g)
  have HOk : HeldR (coE d num den = 0 → ∀ v5 u7 u8 sn' v x, Below w.heap.size w v5 → ARep u7 p lv K O sn' → Oth (· = p) v5 u7 → Below v5.heap.size u7 u8 → u8.ownsRow v5.heap.size 9 1 v (x.map fun i => (K.getD i en0).nm).length ((insB (x.map fun i => (K.getD i en0).nm)).map Value.string) → Cv lv K d (enW (coFrom d num den)) tkW (facL 6) [] x → ConePost a d num den w p lv K O (.returned (.tuple #[v, .nilIface])) u8) := hideR (fun e v5 u7 u8 sn' v x g1 g2 g3 g4 g5 g6 => cone_ok h e g1 g2 g3 g4 g5 g6)
  have HXl : HeldR (coE d num den = 0 → ∀ x, Cv lv K d (enW (coFrom d num den)) tkW (facL 6) [] x → x.length ≤ 200) := hideR (fun e x hC => by
    obtain ⟨sv, bn, bc, es, clock, hx, _⟩ := h
    have hz := coE_zero e
    exact Nat.le_trans (x_len hx.lvl.1 hx.dir hz.1 (by omega) hC) hKl)
  have hE : coE d num den = if dirB d = false ∨ den < 1 ∨ 1048576 < den ∨ den < num ∨ num < -den then 5 else 0 := rfl
  generalize ConePost a d num den w p lv K O = CP at *
  have z0 := alloc_last w (.cells #[.int .i64 d.x, .int .i64 d.y, .int .i64 d.z] 24)
  have HB := hideR (below_a w (.cells #[.int .i64 d.x, .int .i64 d.y, .int .i64 d.z] 24))
  unfold Dr.val at hdi ⊢
  have x0 := (cells_at z0 0 (by simp)).1
  have x1 := (cells_at z0 1 (by simp)).1
  have x2 := (cells_at z0 2 (by simp)).1
  have Hz := hideR z0
  clear hS z0
  cases hd : dirB d
  · have HR := hideR (unhideR H5 (by rw [hE, if_pos (.inl hd)]))
    rw [hd] at hdi
    clear hE H5 H0 HOk HXl hd hic
    go_enter Tryz.func10, Tryz.ntmps10
    go_wp2_with fail
    refine (hdi _).mono ?_
    rintro r u1 ⟨rfl, k1⟩
    replace HB := hideR (below_go (unhideR HB) k1)
    have s4 := (unhideR HSu _ (unhideR HB)).g4
    have HQ := hideR (unhideR HR u1.drew (drewF (unhideR HB)))
    clear hdi k1 x0 x1 x2
    go_wp2_with fail
    go_region
    go_wp2
    exact unhideR HQ
  rw [hd] at hdi
  obtain ⟨Q, hQ⟩ : ∃ Q, decide (1 ≤ den ∧ den ≤ 1048576 ∧ -den ≤ num ∧ num ≤ den) = Q := ⟨_, rfl⟩
  rw [hQ] at hic
  cases Q
  · have HR := hideR (unhideR H5 (by
      have := of_decide_eq_false hQ
      rw [hE, if_pos (by omega)]))
    clear hE H5 H0 HOk HXl hQ hd
    go_enter Tryz.func10, Tryz.ntmps10
    go_wp2_with fail
    refine (hdi _).mono ?_
    rintro r u1 ⟨rfl, k1⟩
    replace HB := hideR (below_go (unhideR HB) k1)
    clear hdi k1 x0 x1 x2
    go_wp2_with fail
    refine (hic _).mono ?_
    rintro r u2 ⟨rfl, rfl⟩
    have s4 := (unhideR HSu _ (unhideR HB)).g4
    have HQ := hideR (unhideR HR u2.drew (drewF (unhideR HB)))
    clear hic
    go_wp2_with fail
    go_region
    go_wp2
    exact unhideR HQ
  have hq := of_decide_eq_true hQ
  have e0 : coE d num den = 0 := by
    rw [hE, if_neg (by rw [hd]; simp; omega)]
  have hsi := fun u (g : Below w.heap.size w u) => psize2_any (unhideR HA u g)
  have hcf := fun u => pcosFrom_any d hd num den (by omega) (by omega) u
  simp only [coV_is] at hcf
  unfold Dr.val at hcf
  have HD := hideR hd
  have HE0 := hideR e0
  have HLc : HeldR ((coFrom d num den).Gd) := hideR (by
    have hb := dir_is hd
    have h1 := dtB hd hd
    have ok : (coFrom d num den).Ok := coFrom_ok (dt_pos (by omega)) (by omega)
    have k1 := sq_toNat (x := num) (A := 1048576) ⟨by omega, by omega⟩ (by omega)
    have k2 := sq_toNat (x := den) (A := 1048576) ⟨by omega, by omega⟩ (by omega)
    have k3 := mulP (x := num * num) (y := dtV d d) (A := 1099511627776) (B := 3298534883328) ⟨by omega, by omega⟩ h1 (by omega) (by omega)
    exact ⟨ok, ok.sm (by show num * num * dtV d d ≤ _; omega) (by show den * den ≤ _; omega)⟩)
  clear hE H5 hQ hd e0 HSu
  obtain ⟨m, hm⟩ : ∃ m, K.length = m := ⟨_, rfl⟩
  have Hm := hideR hm
  rw [hm] at hsi
  go_enter Tryz.func10, Tryz.ntmps10
  go_wp2_with fail
  refine (hdi _).mono ?_
  rintro r u1 ⟨rfl, k1⟩
  replace HB := hideR (below_go (unhideR HB) k1)
  replace Hz := hideR (keepB (unhideR Hz) k1)
  clear hdi k1 x0 x1 x2
  go_wp2_with fail
  refine (hic _).mono ?_
  rintro r u2 ⟨rfl, rfl⟩
  clear hic
  go_wp2_with fail
  refine (hsi _ (unhideR HB)).mono ?_
  rintro r u2 ⟨rfl, rfl⟩
  clear hsi
  by_cases h0 : m = 0
  · subst h0
    have HQ := hideR (unhideR H0 (unhideR HE0) (unhideR Hm) _ (unhideR HB))
    clear H0 HOk HA Hz
    go_wp2
    exact unhideR HQ
  have tb : ((m : Int) == 0) = false := beq_eq_false_iff_ne.2 (by omega)
  have tbn : (m == 0) = false := beq_eq_false_iff_ne.2 h0
  have HY : HeldR (∀ v, Below u2.heap.size u2 v → v.heap[w.heap.size]? = some (.cells #[.int .i64 d.x, .int .i64 d.y, .int .i64 d.z] 24)) := hideR (fun v hv => keepB (unhideR Hz) hv)
  clear H0
  have HG : HeldR (∀ v, Below u2.heap.size u2 v → Below w.heap.size w v) := hideR (fun v hv => below_go (unhideR HB) hv)
  generalize hlcc : coFrom d num den = lc at *
  obtain ⟨Z, hZ⟩ : ∃ Z, w.heap.size = Z := ⟨_, rfl⟩
  rw [hZ] at HY ⊢
  clear hm HB Hz hlcc hZ
  go_upto_region 5 with fail
  refine wp_region_made 5 #[true, true, true, true, true, true, false, false, false, false, false, false] [.lets (· = .pointer (some ⟨p, 0, none⟩)),
    .lets (· = .agg #[.int .i64 d.x, .int .i64 d.y, .int .i64 d.z]),
    .lets (· = .agg #[.int .i64 d.x, .int .i64 d.y, .int .i64 d.z]),
    .lets (· = .int .i64 num),
    .lets (· = .int .i64 den),
    .lets (· = .agg #[.int .i64 lc.sg, .int .u64 (ohV lc), .int .u64 (olV lc), .int .i64 lc.un])] [] [] (by kernel_rfl) (by kernel_rfl) rfl ?kinds (by kernel_rfl) (by kernel_rfl) (by kernel_rfl) ?_
  case kinds =>
    constructor
    · intro i h
      rcases i with _ | _ | _ | _ | _ | _ | i <;> simp [Kx.isMade] at h
    · intro i h
      rcases i with _ | _ | _ | _ | _ | _ | i <;> simp [Kx.isUse] at h
  refine lexX_step (fun K hK => ⟨by kernel_rfl, ⟨_, rfl⟩, fun v hv => ?_, fun v hv => ?_⟩)
  · go_simp
    exact mUpon_b
  subst hv
  go_simp
  refine hK _ ?_
  clear hK K
  refine lexX_step (fun K hK => ⟨by kernel_rfl, ⟨_, rfl⟩, fun v hv => ?_, fun v hv => ?_⟩)
  · have y9 := unhideR HY v hv
    have y0 := (cells_at y9 0 (by simp)).1
    have y1 := (cells_at y9 1 (by simp)).1
    have y2 := (cells_at y9 2 (by simp)).1
    go_simp
    exact mUpon_b
  subst hv
  go_simp
  refine hK _ ?_
  clear hK K
  refine lexX_step (fun K hK => ⟨by kernel_rfl, ⟨_, rfl⟩, fun v hv => ?_, fun v hv => ?_⟩)
  · have y9 := unhideR HY v hv
    have y0 := (cells_at y9 0 (by simp)).1
    have y1 := (cells_at y9 1 (by simp)).1
    have y2 := (cells_at y9 2 (by simp)).1
    go_simp
    exact mUpon_b
  subst hv
  go_simp
  refine hK _ ?_
  clear hK K
  refine lexX_step (fun K hK => ⟨by kernel_rfl, ⟨_, rfl⟩, fun v hv => ?_, fun v hv => ?_⟩)
  · go_simp
    exact mUpon_b
  subst hv
  go_simp
  refine hK _ ?_
  clear hK K
  refine lexX_step (fun K hK => ⟨by kernel_rfl, ⟨_, rfl⟩, fun v hv => ?_, fun v hv => ?_⟩)
  · go_simp
    exact mUpon_b
  subst hv
  go_simp
  refine hK _ ?_
  clear hK K
  refine lexX_step (fun K hK => ⟨by kernel_rfl, ⟨_, rfl⟩, fun v hv => ?_, fun v hv => ?_⟩)
  · go_simp
    refine (hcf v).mono ?_
    rintro e w9 ⟨rfl, k⟩
    exact ⟨_, rfl, rfl, k⟩
  subst hv
  go_simp
  refine hK _ ?_
  clear hK K
  refine lexX_end (fun v5 hv => ?_)
  have g5 := unhideR HG v5 hv.low
  have hA5 := unhideR HA v5 g5
  obtain ⟨sv, bn, bc, es, clock, hx5, hO5⟩ := hA5
  obtain ⟨ad, cap, esv, hro⟩ := hx5.ro
  have hwi := pwithin_all hro hKl (unhideR HD) (unhideR HLc)
  rw [coV_is] at hwi
  unfold Dr.val at hwi
  have HA5 : HeldR (ARep v5 p lv K O sn) := hideR ⟨sv, bn, bc, es, clock, hx5, hO5⟩
  have HG5 := hideR g5
  clear hv hx5 hO5 hro esv g5 hcf HY HG
  refine wpAny_step (i := 6) (by kernel_rfl) rfl (by kernel_rfl) (fun K9 hK => ?_)
  unfold Oper.wp
  go_simp
  refine hwi.mono ?_
  rintro r u6 ⟨⟨vn, lk, xs, rfl, hrow, hCv⟩, b6⟩
  have HXs := hideR (unhideR HXl (unhideR HE0) xs hCv)
  have HCv := hideR hCv
  have HRow := hideR hrow
  have HB6 := hideR b6
  have HA6 : HeldR (ARep u6 p lv K O sn) := hideR (arep_keep (unhideR HA5) (fun j hj => b6.block j (arep_low (unhideR HA5) j hj)))
  obtain ⟨adn, capn, ev⟩ : ∃ adn capn, vn = .slice adn xs.length capn := by
    rcases hrow.2 with ⟨e, e0⟩ | ⟨g, cap, cur, e, _⟩
    · exact ⟨none, 0, by rw [e, e0]⟩
    · exact ⟨_, _, e⟩
  subst ev
  clear hrow hCv b6 hwi
  go_simp
  refine hK _ _ ?_
  clear hK K9
  refine wpAny_step (i := 7) (by kernel_rfl) rfl (by kernel_rfl) (fun K hK => ?_)
  unfold Oper.wp
  go_simp
  refine hK _ _ ?_
  clear hK K
  refine wpAny_take (i := 8) (v := .slice adn xs.length capn) rfl (by kernel_rfl) (by kernel_rfl) (by kernel_rfl) (fun _ _ _ h => h) (Or.inl ⟨by rfl, fun u => ?_⟩) ?_
  · go_simp
  go_simp
  refine wpAny_take (i := 9) (v := .int .i64 lk) rfl (by kernel_rfl) (by kernel_rfl) (by kernel_rfl) (fun _ _ _ h => h) (Or.inl ⟨by rfl, fun u => ?_⟩) ?_
  · go_simp
  go_simp
  refine wpAny_step (i := 10) (by kernel_rfl) rfl (by kernel_rfl) (fun K hK => ?_)
  unfold Oper.wp
  go_simp
  refine hK _ _ ?_
  clear hK K
  refine wpAny_step (i := 11) (by kernel_rfl) rfl (by kernel_rfl) (fun K hK => ?_)
  unfold Oper.wp
  go_simp
  refine hK _ _ ?_
  clear hK K
  refine wpAny_end (by kernel_rfl) ?_
  obtain ⟨sv6, bn6, bc6, es6, clock6, hx6, hO6⟩ := unhideR HA6
  have c4 := (cells_at hx6.hp 4 (by simp)).1
  have f4 := (cells_at hx6.hp 4 (by simp)).2
  have hp5 : p < v5.heap.size := arep_low (unhideR HA5) p (rep_p (unhideR HA5))
  have HA7 : HeldR (ARep (u6.setCell ⟨p, 4, none⟩ (.int .i64 (wrap64 (sn + lk)))) p lv K O (wrap64 (sn + lk))) := hideR (rep_seen (unhideR HA6) _)
  have HO7 : HeldR (Oth (· = p) v5 (u6.setCell ⟨p, 4, none⟩ (.int .i64 (wrap64 (sn + lk))))) := hideR (by
    have b := unhideR HB6
    exact ⟨b.os, b.tape, b.output, by show _ ≤ (u6.heap.modify _ _).size; rw [Array.size_modify]; exact b.size, fun k hk hn => (Below.heap_setCell _ _ _ _ hn).trans (b.block k hk)⟩)
  have HR7 : HeldR ((u6.setCell ⟨p, 4, none⟩ (.int .i64 (wrap64 (sn + lk)))).ownsRow v5.heap.size 9 1 (.slice adn xs.length capn) (xs.map fun i => (K.getD i en0).nm).length ((xs.map fun i => (K.getD i en0).nm).map Value.string)) := hideR (by
    rw [List.length_map, List.map_map]
    exact row_keep (unhideR HRow) (fun k hk => Below.heap_setCell _ _ _ _ (fun e => by
      have h1 := (row_block (unhideR HRow) hk).1
      have h2 : k = p := e
      omega)))
  clear hx6 hO6 HA6 HB6 HRow HA5 HA
  go_upto_region 7 with fail
  clear c4 f4
  generalize u6.setCell ⟨p, 4, none⟩ (.int .i64 (wrap64 (sn + lk))) = u7 at *
  have hso := sortN_any (unhideR HR7) (unhideR HO7).size (by rw [List.length_map]; have := unhideR HXs; omega)
  have HFin : HeldR (∀ u8, u8.ownsRow v5.heap.size 9 1 (.slice adn xs.length capn) (xs.map fun i => (K.getD i en0).nm).length ((insB (xs.map fun i => (K.getD i en0).nm)).map Value.string) → Below v5.heap.size u7 u8 → CP (.returned (.tuple #[.slice adn xs.length capn, .nilIface])) u8) := hideR (fun u8 g1 g2 => unhideR HOk (unhideR HE0) v5 u7 u8 _ _ xs (unhideR HG5) (unhideR HA7) (unhideR HO7) g2 g1 (unhideR HCv))
  clear HR7 HO7 HA7 HOk HCv HXs HXl HG5 hp5
  go_wp2_with fail
  refine hso.mono ?_
  rintro r u8 ⟨rfl, g1, g2⟩
  have HQ := hideR (unhideR HFin u8 g1 g2)
  clear g1 g2 HFin hso
  go_wp2
  exact unhideR HQ
end Go.Proofs.YtfonpobdnhifgamGreatDoor
namespace Go.Proofs.YtfonpobdnhifgamGreatDoor
open Go Go.RowKit

set_option maxRecDepth 100000 in
set_option maxHeartbeats 3200000 in
theorem pnenough_any {W : World} {bf bb : Nat} {f : Int} {bst : Co} (hf : W.heap[bf]? = some (.cells #[.int .i64 f] 3)) (hb : W.heap[bb]? = some (.cells #[.int .i64 bst.sg, .int .u64 (ohV bst), .int .u64 (olV bst), .int .i64 bst.un] 76)) (hbs : 0 ≤ f → bst.Sm) (c : Co) (hc : c.Sm) :
    Calls Tryz.prog 66 #[coV c, .pointer (some ⟨bf, 0, none⟩), .pointer (some ⟨bb, 0, none⟩)] W fun r w' => r = .returned (.bool (decide (f < 0) || decide (0 ≤ coCmp c bst))) ∧ Below W.heap.size W w' := by
  rw [coV_is]
  have z1 := alloc_last W (.cells #[.int .i64 c.sg, .int .u64 (ohV c), .int .u64 (olV c), .int .i64 c.un] 76)
  have HB := hideR (below_a W (.cells #[.int .i64 c.sg, .int .u64 (ohV c), .int .u64 (olV c), .int .i64 c.un] 76))
  have hf1 := keepA (o' := .cells #[.int .i64 c.sg, .int .u64 (ohV c), .int .u64 (olV c), .int .i64 c.un] 76) hf
  have hb1 := keepA (o' := .cells #[.int .i64 c.sg, .int .u64 (ohV c), .int .u64 (olV c), .int .i64 c.un] 76) hb
  have f0 := (cells_at hf1 0 (by simp)).1
  by_cases h0 : f < 0
  · have t0 : decide (f < 0) = true := decide_eq_true h0
    rw [t0, Bool.true_or]
    clear z1 hf hb hf1 hb1 hbs hc
    go_enter Tryz.func66, Tryz.ntmps66
    go_wp2
    go_ret
    exact ⟨rfl, unhideR HB⟩
  have t0 : decide (f < 0) = false := decide_eq_false h0
  rw [t0, Bool.false_or]
  have hcm := fun x => pcmp_any c bst hc (hbs (by omega)) x
  simp only [coV_is] at hcm
  generalize coCmp c bst = z at *
  have a0 := (cells_at z1 0 (by simp)).1
  have a1 := (cells_at z1 1 (by simp)).1
  have a2 := (cells_at z1 2 (by simp)).1
  have a3 := (cells_at z1 3 (by simp)).1
  have b0 := (cells_at hb1 0 (by simp)).1
  have b1 := (cells_at hb1 1 (by simp)).1
  have b2 := (cells_at hb1 2 (by simp)).1
  have b3 := (cells_at hb1 3 (by simp)).1
  clear z1 hf hb hf1 hb1 hbs hc
  go_enter Tryz.func66, Tryz.ntmps66
  go_wp2_with fail
  refine (hcm _).mono ?_
  rintro r u1 ⟨rfl, k1⟩
  have HB2 := hideR (below_go (unhideR HB) k1)
  clear k1 HB a0 a1 a2 a3 b0 b1 b2 b3 hcm f0
  go_wp2
  go_ret
  exact ⟨rfl, unhideR HB2⟩
end Go.Proofs.YtfonpobdnhifgamGreatDoor
