/-
  Rows of tools; the law's byName, by contract.
-/
import Derived.Test.YtoacdaemhcbbhaaDoorNsL
import Derived.Sort.Walk0
namespace Go.Proofs.YtoacdaemhcbbhaaDoor
open Go Go.RowKit

def lesB (a b : ByteArray) : Bool := Op.bytesLess a.toList b.toList
theorem les_is (a b : ByteArray) : lesB a b = decide (nb a < nb b) := by
  unfold lesB
  rw [bytesLess_eq, ByteArray.toList_eq, ByteArray.toList_eq]
/-- a tool and where its rows lie. -/
abbrev TT := Tl × TlX
def tt0 : TT := (tl0, ⟨none, 0, none, 0⟩)
def vT (x : TT) : List Value := valT x.1 x.2
def flatTT : List TT → List Value
  | [] => []
  | s :: L => vT s ++ flatTT L
theorem flatTT_append : ∀ (L M : List TT), flatTT (L ++ M) = flatTT L ++ flatTT M
  | [], _ => rfl
  | q :: L, M => by
    show vT q ++ flatTT (L ++ M) = (vT q ++ flatTT L) ++ flatTT M
    rw [flatTT_append L M, List.append_assoc]
theorem flatTT_length : ∀ L : List TT, (flatTT L).length = L.length * 7
  | [] => rfl
  | q :: L => by
    show (vT q ++ flatTT L).length = _
    rw [List.length_append, flatTT_length L, List.length_cons]
    show 7 + L.length * 7 = _
    omega
theorem flatTT_at : ∀ (L : List TT) (j i : Nat), j < L.length → i < 7 → (flatTT L)[j * 7 + i]? = (vT (L.getD j tt0))[i]?
  | [], j, _, h, _ => absurd h (Nat.not_lt_zero j)
  | q :: L, 0, i, _, hi => by
    show (vT q ++ flatTT L)[0 * 7 + i]? = _
    rw [Nat.zero_mul, Nat.zero_add, List.getElem?_append_left (by show i < 7; exact hi)]
    rfl
  | q :: L, j + 1, i, h, hi => by
    have e : (j + 1) * 7 + i = (vT q).length + (j * 7 + i) := by show _ = 7 + _; omega
    show (vT q ++ flatTT L)[(j + 1) * 7 + i]? = _
    rw [e, List.getElem?_append_right (by omega), Nat.add_sub_cancel_left, flatTT_at L j i (by simpa using h) hi]
    rfl
theorem vT_one (x : TT) : ∀ u ∈ vT x, u.oneCell' = true := by
  intro u hu
  simp only [vT, valT, List.mem_cons, List.not_mem_nil, or_false] at hu
  rcases hu with rfl | rfl | rfl | rfl | rfl | rfl | rfl <;> rfl
theorem flatTT_one : ∀ (L : List TT), ∀ u ∈ flatTT L, u.oneCell' = true
  | [], u, h => by cases h
  | q :: L, u, h => by
    rcases List.mem_append.1 (show u ∈ vT q ++ flatTT L from h) with h | h
    · exact vT_one q u h
    · exact flatTT_one L u h
theorem flatTT_drop : ∀ (L : List TT) (k : Nat), flatTT (L.drop k) = (flatTT L).drop (k * 7)
  | L, 0 => by simp
  | [], k + 1 => by simp [flatTT]
  | q :: L, k + 1 => by
    rw [List.drop_succ_cons]
    show flatTT (L.drop k) = (vT q ++ flatTT L).drop ((k + 1) * 7)
    rw [flatTT_drop L k, List.drop_append, show (vT q).length = 7 from rfl, show (k + 1) * 7 - 7 = k * 7 by omega, List.drop_eq_nil_of_le (show (vT q).length ≤ (k + 1) * 7 by show 7 ≤ _; omega), List.nil_append]
/-- the seven cells of a tool. -/
structure TtC (w : World) (b o : Nat) (x : TT) : Prop where
  c0 : w.cell? ⟨b, o, none⟩ = some (.string x.1.nm)
  c1 : w.cell? ⟨b, o + 1, none⟩ = some (.int .i64 x.1.kd)
  c2 : w.cell? ⟨b, o + 2, none⟩ = some (.int .i64 x.1.wd)
  c3 : w.cell? ⟨b, o + 3, none⟩ = some (.int .i64 x.1.hi)
  c4 : w.cell? ⟨b, o + 4, none⟩ = some (.slice x.2.ca x.1.cs.length x.2.cc)
  c5 : w.cell? ⟨b, o + 5, none⟩ = some (.slice x.2.oa x.1.op.length x.2.oc)
  c6 : w.cell? ⟨b, o + 6, none⟩ = some (.int .i64 x.1.al)
theorem TtC.of {w : World} {b o : Nat} {x : TT} (h : ∀ i, i < 7 → w.cell? ⟨b, o + i, none⟩ = (vT x)[i]?) : TtC w b o x := ⟨h 0 (by decide), h 1 (by decide), h 2 (by decide), h 3 (by decide), h 4 (by decide), h 5 (by decide), h 6 (by decide)⟩
theorem TtC.all {w : World} {b o : Nat} {x : TT} (h : TtC w b o x) : ∀ i, i < 7 → w.cell? ⟨b, o + i, none⟩ = (vT x)[i]? := fun i hi => by
  rcases i with _ | _ | _ | _ | _ | _ | _ | i
  · exact h.c0
  · exact h.c1
  · exact h.c2
  · exact h.c3
  · exact h.c4
  · exact h.c5
  · exact h.c6
  · omega
theorem TtC.below {w v : World} {b o B : Nat} {x : TT} (h : TtC w b o x) (k : Below B w v) (hb : b < B) : TtC v b o x :=
  TtC.of (fun i hi => (k.cell (p := ⟨b, o + i, none⟩) hb).trans (h.all i hi))
/-- tools that lie somewhere. -/
structure TtCame (w : World) (ad : Option Addr) (M : List TT) : Prop where
  at_ : ∀ k, k < M.length → ∃ b off, ad = some ⟨b, off, none⟩ ∧ b < w.heap.size ∧ TtC w b (off + k * 7) (M.getD k tt0)
theorem TtCame.below {w v : World} {ad : Option Addr} {M : List TT} (h : TtCame w ad M) (k : Below w.heap.size w v) : TtCame v ad M := ⟨fun j hj => by
  obtain ⟨b, off, e, hb, h1⟩ := h.at_ j hj
  exact ⟨b, off, e, Nat.lt_of_lt_of_le hb k.size, h1.below k hb⟩⟩
theorem tt_own {w : World} {B : Nat} {v : Value} {M : List TT} (h : w.ownsRow B 57 7 v M.length (flatTT M)) : (v = .slice none 0 0 ∧ M = []) ∨ ∃ g cap, v = .slice (some ⟨g, 0, none⟩) M.length cap ∧ M.length ≤ cap ∧ cap ≤ 9223372036854775807 ∧ TtCame w (some ⟨g, 0, none⟩) M := by
  rcases h.2 with ⟨h1, h2⟩ | ⟨g, cap, cur, e, hB, hg, hc, hm, hs, ht⟩
  · exact .inl ⟨h1, List.length_eq_zero_iff.1 h2⟩
  · refine .inr ⟨g, cap, e, hc, by unfold maxLen at hm; omega, ⟨fun k hk => ⟨g, 0, rfl, ltB hg, TtC.of (fun o ho => ?_)⟩⟩⟩
    have q := flatTT_at M k o hk ho
    rw [← ht, List.getElem?_take, if_pos (by omega)] at q
    simp only [World.cell?, hg, Nat.zero_add]
    simpa using q
theorem infoTT : (Tryd.prog.info? 57).map (fun i => (i.zero, i.size, i.bytes)) = some (some (.agg #[.string ByteArray.empty, .int .i64 0, .int .i64 0, .int .i64 0, .slice none 0 0, .slice none 0 0, .int .i64 0]), 7, 96) := by kernel_rfl
/-- a tool put where it belongs. -/
def insT (M : List TT) (s : TT) : List TT := M.takeWhile (fun a => lesB a.1.nm s.1.nm) ++ s :: M.dropWhile (fun a => lesB a.1.nm s.1.nm)
theorem tw_takeT {L : List TT} {p : TT → Bool} {i : Nat} (hi : i ≤ L.length) (h1 : ∀ j, j < i → p (L.getD j tt0) = true) (h2 : i < L.length → p (L.getD i tt0) = false) : L.takeWhile p = L.take i ∧ L.dropWhile p = L.drop i := by
  induction L generalizing i with
  | nil => simp
  | cons a L ih =>
    cases i with
    | zero =>
      have := h2 (by simp)
      simp at this
      simp [this]
    | succ i =>
      have ha := h1 0 (by omega)
      simp at ha
      have := ih (i := i) (by simpa using hi) (fun j hj => by have := h1 (j + 1) (by omega); simpa using this) (fun hj => by have := h2 (by simpa using hj); simpa using this)
      simp [ha, this]
theorem Tttake {L : List TT} {k : Nat} (h : k < L.length) : L.take (k + 1) = L.take k ++ [L.getD k tt0] := by
  rw [List.take_add_one, List.getElem?_eq_getElem h, List.getD_eq_getElem?_getD, List.getElem?_eq_getElem h]
  rfl
/-- the cells of one tool in a block of its own. -/
theorem tt_cells {w : World} {g : Nat} {x : TT} (h : w.heap[g]? = some (.cells (vT x).toArray 57)) : ∀ j u, (vT x)[j]? = some u → w.cell? ((⟨g, 0, none⟩ : Addr).add j) = some u := fun j u hu => by
  rw [add_pl2, Nat.zero_add]
  simp only [World.cell?, h]
  simpa using hu
def ByPost (M : List TT) (s : TT) (w : World) (e : Ending) (w' : World) : Prop := (∃ v, e = .returned v ∧ w'.ownsRow w.heap.size 57 7 v (insT M s).length (flatTT (insT M s))) ∧ Below w.heap.size w w'
set_option maxRecDepth 1000000 in
set_option maxHeartbeats 12800000 in
theorem byName_any {w : World} {B : Nat} {v : Value} {M : List TT} (s : TT) (hM : w.ownsRow B 57 7 v M.length (flatTT M)) (hl : M.length ≤ 100) :
    Calls Tryd.prog 22 #[v, .agg (vT s).toArray] w (ByPost M s w) := by
  obtain ⟨i0, hi0, hz0, hz1, hz2⟩ := info_parts infoTT
  have HF : HeldR (∀ i, i ≤ M.length → (∀ j, j < i → lesB (M.getD j tt0).1.nm s.1.nm = true) → (i < M.length → lesB (M.getD i tt0).1.nm s.1.nm = false) → insT M s = M.take i ++ s :: M.drop i) := hideR (fun i h0 h1 h2 => by
    have := tw_takeT (p := fun a => lesB a.1.nm s.1.nm) h0 h1 h2
    unfold insT
    rw [this.1, this.2])
  have HP : HeldR (∀ i v' w', i ≤ M.length → insT M s = M.take i ++ s :: M.drop i → w'.ownsRow w.heap.size 57 7 v' (i + 1 + (M.length - i)) (flatTT (M.take i) ++ vT s ++ flatTT (M.drop i)) → Below w.heap.size w w' → ByPost M s w (.returned v') w') := hideR (fun i v' w' hi e h1 h2 => by
    refine ⟨⟨v', rfl, ?_⟩, h2⟩
    rw [e, List.length_append, List.length_cons, List.length_take, List.length_drop, Nat.min_eq_left hi, flatTT_append, show i + (M.length - i + 1) = i + 1 + (M.length - i) by omega]
    have e2 : flatTT (s :: M.drop i) = vT s ++ flatTT (M.drop i) := rfl
    rw [e2, ← List.append_assoc]
    exact h1)
  generalize ByPost M s w = POST at *
  have z0 := alloc_last w (.cells (vT s).toArray 57)
  have hb0 := below_a w (.cells (vT s).toArray 57)
  obtain ⟨W, hW⟩ : ∃ W, w.alloc (.cells (vT s).toArray 57) = W := ⟨_, rfl⟩
  have hW2 : w.alloc (.cells #[.string s.1.nm, .int .i64 s.1.kd, .int .i64 s.1.wd, .int .i64 s.1.hi, .slice s.2.ca s.1.cs.length s.2.cc, .slice s.2.oa s.1.op.length s.2.oc, .int .i64 s.1.al] 57) = W := hW
  have HS : HeldR (∀ u, Below W.heap.size W u → TtC u w.heap.size 0 s) := hideR (fun u hu => TtC.of (fun i hi => by
    have := keepB (w := W) (by rw [← hW]; exact z0) hu
    simp only [World.cell?, this, Nat.zero_add]
    simp))
  rw [hW] at hb0
  have HB0 := hideR hb0
  have e0 : (vT s).toArray = #[.string s.1.nm, .int .i64 s.1.kd, .int .i64 s.1.wd, .int .i64 s.1.hi, .slice s.2.ca s.1.cs.length s.2.cc, .slice s.2.oa s.1.op.length s.2.oc, .int .i64 s.1.al] := rfl
  have HCs : HeldR (∀ (u : World) (g : Nat), u.heap[g]? = some (.cells #[.string s.1.nm, .int .i64 s.1.kd, .int .i64 s.1.wd, .int .i64 s.1.hi, .slice s.2.ca s.1.cs.length s.2.cc, .slice s.2.oa s.1.op.length s.2.oc, .int .i64 s.1.al] 57) → ∀ j z, (vT s)[j]? = some z → u.cell? ((⟨g, 0, none⟩ : Addr).add j) = some z) := hideR (fun u g h => tt_cells h)
  have HV1 := hideR (vT_one s)
  have HVl : HeldR ((vT s).length = 1 * 7) := hideR rfl
  rw [e0]
  obtain ⟨n, hn⟩ : ∃ n, M.length = n := ⟨_, rfl⟩
  have Hn := hideR hn
  rcases tt_own hM with ⟨rfl, rfl⟩ | ⟨g, cap, rfl, hcn, hcap, hca⟩
  · have HPi := hideR (fun v' w' => unhideR HP 0 v' w' (Nat.le_refl _) rfl)
    have hs5 := unhideR HS W (Below.refl _ _)
    have d0 : W.cell? ⟨w.heap.size, 0, none⟩ = some (.string s.1.nm) := hs5.c0
    have d1 : W.cell? ⟨w.heap.size, 1, none⟩ = some (.int .i64 s.1.kd) := hs5.c1
    have d2 : W.cell? ⟨w.heap.size, 2, none⟩ = some (.int .i64 s.1.wd) := hs5.c2
    have d3 : W.cell? ⟨w.heap.size, 3, none⟩ = some (.int .i64 s.1.hi) := hs5.c3
    have d4 : W.cell? ⟨w.heap.size, 4, none⟩ = some (.slice s.2.ca s.1.cs.length s.2.cc) := hs5.c4
    have d5 : W.cell? ⟨w.heap.size, 5, none⟩ = some (.slice s.2.oa s.1.op.length s.2.oc) := hs5.c5
    have d6 : W.cell? ⟨w.heap.size, 6, none⟩ = some (.int .i64 s.1.al) := hs5.c6
    have HO5 : HeldR (∀ u : World, u.ownsRow W.heap.size 57 7 (.slice none 0 0) 0 []) := hideR (fun u => World.ownsRow_nil u _ _ _)
    clear hM hn z0 hb0 hW e0 HF HP hs5 Hn
    generalize vT s = VS at *
    go_enter Tryd.func22, Tryd.ntmps22
    go_wp2_with fail
    refine wp_loop_rounds 1 ?_
    rw [rounds_succ]
    go_upto_region 3 with fail
    refine wp_region_made 0 #[true, true, true, true, true, true, true, true, true, true, true, true, true, false] [.lets (· = .int .i64 0),
      .lets (· = .slice none 0 0),
      .lets (· = .int .i64 0),
      .lets (· = .bool false),
      .lets (· = .bool false),
      .lets (· = undef),
      .lets (· = undef),
      .lets (· = undef),
      .lets (· = undef),
      .lets (· = undef),
      .lets (· = undef),
      .lets (· = undef),
      .lets (· = undef)] [] [] (by kernel_rfl) (by kernel_rfl) rfl ?kinds (by kernel_rfl) (by kernel_rfl) (by kernel_rfl) ?_
    case kinds =>
      constructor
      · intro i h
        rcases i with _ | _ | _ | _ | _ | _ | _ | _ | _ | _ | _ | _ | _ | i <;> simp [Kx.isMade] at h
      · intro i h
        rcases i with _ | _ | _ | _ | _ | _ | _ | _ | _ | _ | _ | _ | _ | i <;> simp [Kx.isUse] at h
    refine lexX_step (fun K hK => ⟨by kernel_rfl, ⟨_, rfl⟩, fun v hv => ?_, fun v hv => ?_⟩)
    · go_simp
      exact mUpon_b
    subst hv
    go_simp
    refine hK _ ?_
    clear hK K
    refine lexX_step (fun K hK => ⟨by kernel_rfl, ⟨_, rfl⟩, fun v hv => ?_, fun v hv => ?_⟩)
    · go_simp
      exact mUpon_b
    subst hv
    go_simp
    refine hK _ ?_
    clear hK K
    refine lexX_step (fun K hK => ⟨by kernel_rfl, ⟨_, rfl⟩, fun v hv => ?_, fun v hv => ?_⟩)
    · go_simp
      exact mUpon_b
    subst hv
    go_simp
    refine hK _ ?_
    clear hK K
    refine lexX_step (fun K hK => ⟨by kernel_rfl, ⟨_, rfl⟩, fun v hv => ?_, fun v hv => ?_⟩)
    · go_simp
      exact mUpon_b
    subst hv
    go_simp
    refine hK _ ?_
    clear hK K
    refine lexX_step (fun K hK => ⟨by kernel_rfl, ⟨_, rfl⟩, fun v hv => ?_, fun v hv => ?_⟩)
    · go_simp
      exact mUpon_b
    subst hv
    go_simp
    refine hK _ ?_
    clear hK K
    refine lexX_skip (fun K hK => ⟨by kernel_rfl, ?_⟩)
    go_simp
    refine hK _ ?_
    clear hK K
    refine lexX_skip (fun K hK => ⟨by kernel_rfl, ?_⟩)
    go_simp
    refine hK _ ?_
    clear hK K
    refine lexX_skip (fun K hK => ⟨by kernel_rfl, ?_⟩)
    go_simp
    refine hK _ ?_
    clear hK K
    refine lexX_skip (fun K hK => ⟨by kernel_rfl, ?_⟩)
    go_simp
    refine hK _ ?_
    clear hK K
    refine lexX_skip (fun K hK => ⟨by kernel_rfl, ?_⟩)
    go_simp
    refine hK _ ?_
    clear hK K
    refine lexX_skip (fun K hK => ⟨by kernel_rfl, ?_⟩)
    go_simp
    refine hK _ ?_
    clear hK K
    refine lexX_skip (fun K hK => ⟨by kernel_rfl, ?_⟩)
    go_simp
    refine hK _ ?_
    clear hK K
    refine lexX_skip (fun K hK => ⟨by kernel_rfl, ?_⟩)
    go_simp
    refine hK _ ?_
    clear hK K
    refine lexX_end (fun v5 hv => ?_)
    have HB5 := hideR hv.low
    have hs5 := unhideR HS v5 hv.low
    clear hv HS d0 d1 d2 d3 d4 d5 d6
    refine wpAny_step (i := 13) (by kernel_rfl) rfl (by kernel_rfl) (fun K hK => ?_)
    unfold Oper.wp
    go_simp
    refine hK _ _ ?_
    clear hK K
    refine wpAny_end (by kernel_rfl) ?_
    have d0 : v5.cell? ⟨w.heap.size, 0, none⟩ = some (.string s.1.nm) := hs5.c0
    have d1 : v5.cell? ⟨w.heap.size, 1, none⟩ = some (.int .i64 s.1.kd) := hs5.c1
    have d2 : v5.cell? ⟨w.heap.size, 2, none⟩ = some (.int .i64 s.1.wd) := hs5.c2
    have d3 : v5.cell? ⟨w.heap.size, 3, none⟩ = some (.int .i64 s.1.hi) := hs5.c3
    have d4 : v5.cell? ⟨w.heap.size, 4, none⟩ = some (.slice s.2.ca s.1.cs.length s.2.cc) := hs5.c4
    have d5 : v5.cell? ⟨w.heap.size, 5, none⟩ = some (.slice s.2.oa s.1.op.length s.2.oc) := hs5.c5
    have d6 : v5.cell? ⟨w.heap.size, 6, none⟩ = some (.int .i64 s.1.al) := hs5.c6
    have hsz5 : W.heap.size ≤ v5.heap.size := (unhideR HB5).size
    clear hs5
    go_wp2_with (first
      | (at_builtin; refine wpList_append_own _ rfl _ _ 44 rfl W.heap.size 57 i0 (.agg #[.string ByteArray.empty, .int .i64 0, .int .i64 0, .int .i64 0, .slice none 0 0, .slice none 0 0, .int .i64 0]) 7 96 Tryd.underlying44 hi0 hz0 hz1 hz2 rfl (by decide) _ 0 [] rfl (unhideR HO5 _) ⟨v5.heap.size, 0, none⟩ 1 1 VS rfl (unhideR HVl) (unhideR HCs _ _ (alloc_last v5 _)) (unhideR HV1) ?c3 ?c4 (by simp; omega) ?_))
    case c3 => unfold maxLen; omega
    case c4 => omega
    intro v1 w1 hown1 hgrow1 _
    have hB1 := ((unhideR HB5).alloc hsz5 _).grown hgrow1 (by simp; omega) (fun k e => nomatch e)
    have HO1 := hideR hown1
    have HQ := hideR (unhideR HPi v1 w1 (own_lowerG (by simpa [flatTT] using hown1) (unhideR HB0).size) (below_go (unhideR HB0) hB1))
    clear hown1 hgrow1 hB1 HO5 HB5 d0 d1 d2 d3 d4 d5 d6 hW2 HPi
    go_wp2_with (first
      | (at_builtin; refine wpList_append_own_none rfl _ _ 44 rfl W.heap.size 57 i0 7 Tryd.underlying44 hi0 _ _ _ rfl (unhideR HO1) rfl ?_))
    exact unhideR HQ
  have HL : HeldR (∀ u, Below w.heap.size w u → TtCame u (some ⟨g, 0, none⟩) M) := hideR (fun u q => hca.below q)
  have H0 : HeldR (W.ownsRow W.heap.size 57 7 (.slice none 0 0) 0 (flatTT (M.take 0))) := hideR (World.ownsRow_nil W W.heap.size 57 7)
  rw [hn] at hl hcn HP HF ⊢
  clear hM hn z0 hb0 hW e0 hca
  generalize vT s = VS at *
  go_enter Tryd.func22, Tryd.ntmps22
  go_wp2_with fail
  go_loopw [5, 6] (fun ov iv wl => ∃ i : Nat, i ≤ n ∧ iv = .int .i64 (i : Nat) ∧ HeldR (∀ j, j < i → lesB (M.getD j tt0).1.nm s.1.nm = true) ∧ HeldR (wl.ownsRow W.heap.size 57 7 ov i (flatTT (M.take i))) ∧ HeldR (Below W.heap.size W wl)) (fun _ iv _ => n + 1 - (intOf iv).toNat)
  case atStart => exact ⟨0, by omega, rfl, hideR (fun j hj => by omega), H0, hideR (Below.refl _ _)⟩
  case round =>
    clear H0
    obtain ⟨i, hin, rfl, HJ, HO, HBW⟩ := hrel
    have HB := hideR (below_go (unhideR HB0) (unhideR HBW))
    by_cases q : i < n
    case neg =>
      obtain rfl : i = n := by omega
      have ti : decide ((i : Int) < (i : Int)) = false := decide_eq_false (by omega)
      have tin : decide (i < i) = false := decide_eq_false (by omega)
      have HI := hideR (unhideR HF i (Nat.le_refl _) (unhideR HJ) (fun h => absurd h (Nat.lt_irrefl _)))
      have HPi := hideR (fun v' w' => unhideR HP i v' w' (Nat.le_refl _) (unhideR HI))
      clear HF HJ HP HI
      go_upto_region 3 with fail
      refine wp_region_made 0 #[true, true, true, true, true, true, true, true, true, true, true, true, true, false] [.lets (· = .int .i64 (i : Nat)),
        .lets (· = .slice (some ⟨g, 0, none⟩) i cap),
        .lets (· = .int .i64 (i : Nat)),
        .lets (· = .bool false),
        .lets (· = .bool false),
        .lets (· = undef),
        .lets (· = undef),
        .lets (· = undef),
        .lets (· = undef),
        .lets (· = undef),
        .lets (· = undef),
        .lets (· = undef),
        .lets (· = undef)] [] [] (by kernel_rfl) (by kernel_rfl) rfl ?kinds (by kernel_rfl) (by kernel_rfl) (by kernel_rfl) ?_
      case kinds =>
        constructor
        · intro i h
          rcases i with _ | _ | _ | _ | _ | _ | _ | _ | _ | _ | _ | _ | _ | i <;> simp [Kx.isMade] at h
        · intro i h
          rcases i with _ | _ | _ | _ | _ | _ | _ | _ | _ | _ | _ | _ | _ | i <;> simp [Kx.isUse] at h
      refine lexX_step (fun K hK => ⟨by kernel_rfl, ⟨_, rfl⟩, fun v hv => ?_, fun v hv => ?_⟩)
      · go_simp
        exact mUpon_b
      subst hv
      go_simp
      refine hK _ ?_
      clear hK K
      refine lexX_step (fun K hK => ⟨by kernel_rfl, ⟨_, rfl⟩, fun v hv => ?_, fun v hv => ?_⟩)
      · go_simp
        exact mUpon_b
      subst hv
      go_simp
      refine hK _ ?_
      clear hK K
      refine lexX_step (fun K hK => ⟨by kernel_rfl, ⟨_, rfl⟩, fun v hv => ?_, fun v hv => ?_⟩)
      · go_simp
        exact mUpon_b
      subst hv
      go_simp
      refine hK _ ?_
      clear hK K
      refine lexX_step (fun K hK => ⟨by kernel_rfl, ⟨_, rfl⟩, fun v hv => ?_, fun v hv => ?_⟩)
      · go_simp
        exact mUpon_b
      subst hv
      go_simp
      refine hK _ ?_
      clear hK K
      refine lexX_step (fun K hK => ⟨by kernel_rfl, ⟨_, rfl⟩, fun v hv => ?_, fun v hv => ?_⟩)
      · go_simp
        exact mUpon_b
      subst hv
      go_simp
      refine hK _ ?_
      clear hK K
      refine lexX_skip (fun K hK => ⟨by kernel_rfl, ?_⟩)
      go_simp
      refine hK _ ?_
      clear hK K
      refine lexX_skip (fun K hK => ⟨by kernel_rfl, ?_⟩)
      go_simp
      refine hK _ ?_
      clear hK K
      refine lexX_skip (fun K hK => ⟨by kernel_rfl, ?_⟩)
      go_simp
      refine hK _ ?_
      clear hK K
      refine lexX_skip (fun K hK => ⟨by kernel_rfl, ?_⟩)
      go_simp
      refine hK _ ?_
      clear hK K
      refine lexX_skip (fun K hK => ⟨by kernel_rfl, ?_⟩)
      go_simp
      refine hK _ ?_
      clear hK K
      refine lexX_skip (fun K hK => ⟨by kernel_rfl, ?_⟩)
      go_simp
      refine hK _ ?_
      clear hK K
      refine lexX_skip (fun K hK => ⟨by kernel_rfl, ?_⟩)
      go_simp
      refine hK _ ?_
      clear hK K
      refine lexX_skip (fun K hK => ⟨by kernel_rfl, ?_⟩)
      go_simp
      refine hK _ ?_
      clear hK K
      refine lexX_end (fun v5 hv => ?_)
      have HB5 := hideR (below_go (unhideR HBW) hv.low)
      have HO5 := hideR (own_below2 (unhideR HO) hv.low)
      have hs5 := unhideR HS v5 (below_go (unhideR HBW) hv.low)
      clear hv HO HB HBW HS
      refine wpAny_step (i := 13) (by kernel_rfl) rfl (by kernel_rfl) (fun K hK => ?_)
      unfold Oper.wp
      go_simp
      refine hK _ _ ?_
      clear hK K
      refine wpAny_end (by kernel_rfl) ?_
      have d0 : v5.cell? ⟨w.heap.size, 0, none⟩ = some (.string s.1.nm) := hs5.c0
      have d1 : v5.cell? ⟨w.heap.size, 1, none⟩ = some (.int .i64 s.1.kd) := hs5.c1
      have d2 : v5.cell? ⟨w.heap.size, 2, none⟩ = some (.int .i64 s.1.wd) := hs5.c2
      have d3 : v5.cell? ⟨w.heap.size, 3, none⟩ = some (.int .i64 s.1.hi) := hs5.c3
      have d4 : v5.cell? ⟨w.heap.size, 4, none⟩ = some (.slice s.2.ca s.1.cs.length s.2.cc) := hs5.c4
      have d5 : v5.cell? ⟨w.heap.size, 5, none⟩ = some (.slice s.2.oa s.1.op.length s.2.oc) := hs5.c5
      have d6 : v5.cell? ⟨w.heap.size, 6, none⟩ = some (.int .i64 s.1.al) := hs5.c6
      have hsz5 : W.heap.size ≤ v5.heap.size := (unhideR HB5).size
      clear hs5
      generalize flatTT (M.take i) = FM at *
      have hd0 : (flatTT (M.drop i)) = [] := by rw [List.drop_eq_nil_of_le (by rw [unhideR Hn]; exact Nat.le_refl _)]; rfl
      rw [hd0] at HPi
      clear hd0
      go_wp2_with (first
        | (at_builtin; refine wpList_append_own _ rfl _ _ 44 rfl W.heap.size 57 i0 (.agg #[.string ByteArray.empty, .int .i64 0, .int .i64 0, .int .i64 0, .slice none 0 0, .slice none 0 0, .int .i64 0]) 7 96 Tryd.underlying44 hi0 hz0 hz1 hz2 rfl (by decide) _ i FM rfl ((unhideR HO5).alloc _) ⟨v5.heap.size, 0, none⟩ 1 1 VS rfl (unhideR HVl) (unhideR HCs _ _ (alloc_last v5 _)) (unhideR HV1) ?c3 ?c4 (by simp; omega) ?_))
      case c3 => unfold maxLen; omega
      case c4 => omega
      intro v1 w1 hown1 hgrow1 _
      have hB1 := ((unhideR HB5).alloc hsz5 _).grown hgrow1 (by simp; omega) (fun k e => (row_block (unhideR HO5) e).1)
      have HB1 := hideR hB1
      have HO1 := hideR hown1
      have hsz1 : W.heap.size ≤ w1.heap.size := hB1.size
      clear hown1 hgrow1 hB1 HO5 HB5 d0 d1 d2 d3 d4 d5 d6 hW2
      by_cases qc : cap = i
      · replace qc := qc.symm
        subst qc
        go_wp2_with (first
          | (at_builtin; refine wpList_append_own _ rfl _ _ 44 rfl W.heap.size 57 i0 (.agg #[.string ByteArray.empty, .int .i64 0, .int .i64 0, .int .i64 0, .slice none 0 0, .slice none 0 0, .int .i64 0]) 7 96 Tryd.underlying44 hi0 hz0 hz1 hz2 rfl (by decide) _ (i + 1) (FM ++ VS) rfl (unhideR HO1) ⟨g, 0, none⟩ 0 0 [] rfl (by rfl) (fun j u hj => by simp at hj) (fun u hu => by cases hu) ?c3 ?c4 hsz1 ?_))
        case c3 => unfold maxLen; omega
        case c4 => omega
        intro v2 w2 hown2 hgrow2 _
        have HQ := hideR (unhideR HPi v2 w2 (own_lowerG (by simpa using hown2) (unhideR HB0).size) (below_go (unhideR HB0) ((unhideR HB1).grown hgrow2 hsz1 (fun k e => (row_block (unhideR HO1) e).1))))
        clear hown2 hgrow2 HO1 HB1 HPi
        go_wp2
        exact unhideR HQ
      · have qc2 : ¬ (cap = i) := qc
        have ci : ¬ cap ≤ i := by omega
        have ci2 : i < cap := by omega
        go_wp2_with (first
          | (at_builtin; refine wpList_append_own _ rfl _ _ 44 rfl W.heap.size 57 i0 (.agg #[.string ByteArray.empty, .int .i64 0, .int .i64 0, .int .i64 0, .slice none 0 0, .slice none 0 0, .int .i64 0]) 7 96 Tryd.underlying44 hi0 hz0 hz1 hz2 rfl (by decide) _ (i + 1) (FM ++ VS) rfl (unhideR HO1) _ 0 _ [] rfl (by rfl) (fun j u hj => by simp at hj) (fun u hu => by cases hu) ?c3 ?c4 hsz1 ?_))
        case c3 => unfold maxLen; omega
        case c4 => omega
        intro v2 w2 hown2 hgrow2 _
        have HQ := hideR (unhideR HPi v2 w2 (own_lowerG (by simpa using hown2) (unhideR HB0).size) (below_go (unhideR HB0) ((unhideR HB1).grown hgrow2 hsz1 (fun k e => (row_block (unhideR HO1) e).1))))
        clear hown2 hgrow2 HO1 HB1 HPi
        go_wp2
        exact unhideR HQ
    have ti : decide ((i : Int) < (n : Int)) = true := decide_eq_true (by omega)
    have tin : decide (i < n) = true := decide_eq_true q
    have wi : IntKind.i64.wrap ((i : Int) + 1) = (i : Int) + 1 := iwrap (by omega) (by omega)
    have hii : (i : Int) < (n : Int) := by omega
    have HY : HeldR (∀ u, Below w.heap.size w u → TtC u g (i * 7) (M.getD i tt0)) := hideR (fun u hu => by
      obtain ⟨b', o', e', _, h'⟩ := (unhideR HL u hu).at_ i (by rw [unhideR Hn]; exact q)
      cases e'
      rw [Nat.zero_add] at h'
      exact h')
    have HT := hideR (Tttake (L := M) (k := i) (by rw [unhideR Hn]; exact q))
    have HI : HeldR (lesB (M.getD i tt0).1.nm s.1.nm = false → insT M s = M.take i ++ s :: M.drop i) := hideR (fun h => unhideR HF i hin (unhideR HJ) (fun _ => h))
    have HJ2 : HeldR (lesB (M.getD i tt0).1.nm s.1.nm = true → ∀ j, j < i + 1 → lesB (M.getD j tt0).1.nm s.1.nm = true) := hideR (fun h j hj => by
      by_cases e : j = i
      · rw [e]; exact h
      · exact unhideR HJ j (by omega))
    have HDr : HeldR (∀ u, Below w.heap.size w u → ∀ j z, (flatTT (M.drop i))[j]? = some z → u.cell? ((⟨g, i * 7, none⟩ : Addr).add j) = some z) := hideR (fun u hu j z hz => by
      rw [flatTT_drop, List.getElem?_drop] at hz
      have hlt := (List.getElem?_eq_some_iff.1 hz).1
      rw [flatTT_length, unhideR Hn] at hlt
      have e1 : i * 7 + j = ((i * 7 + j) / 7) * 7 + (i * 7 + j) % 7 := by omega
      obtain ⟨b', o', e', _, h'⟩ := (unhideR HL u hu).at_ ((i * 7 + j) / 7) (by rw [unhideR Hn]; omega)
      cases e'
      have h2 := h'.all ((i * 7 + j) % 7) (by omega)
      have h3 := flatTT_at M ((i * 7 + j) / 7) ((i * 7 + j) % 7) (by rw [unhideR Hn]; omega) (by omega)
      rw [← h2, ← e1, Nat.zero_add, ← e1] at h3
      rw [add_pl2, ← h3]
      exact hz)
    clear HF HJ HL
    generalize M.getD i tt0 = y at *
    obtain ⟨lb, hlb⟩ : ∃ lb, lesB y.1.nm s.1.nm = lb := ⟨_, rfl⟩
    have hlb2 : Op.bytesLess y.1.nm.toList s.1.nm.toList = lb := hlb
    rw [hlb] at HI HJ2
    clear hlb
    go_upto_region 3 with fail
    refine wp_region_made 0 #[true, true, true, true, true, true, true, true, true, true, true, true, true, false] [.lets (· = .int .i64 (i : Nat)),
      .lets (· = .slice (some ⟨g, 0, none⟩) n cap),
      .lets (· = .int .i64 (n : Nat)),
      .lets (· = .bool true),
      .lets (· = .bool true),
      .lets (· = .slice (some ⟨g, 0, none⟩) n cap),
      .lets (· = .int .i64 (i : Nat)),
      .lets (· = .pointer (some ⟨g, i * 7, none⟩)),
      .lets (· = .pointer (some ⟨g, i * 7, none⟩)),
      .lets (· = .string y.1.nm),
      .lets (· = .pointer (some ⟨w.heap.size, 0, none⟩)),
      .lets (· = .string s.1.nm),
      .lets (· = .bool lb)] [] [] (by kernel_rfl) (by kernel_rfl) rfl ?kinds (by kernel_rfl) (by kernel_rfl) (by kernel_rfl) ?_
    case kinds =>
      constructor
      · intro i h
        rcases i with _ | _ | _ | _ | _ | _ | _ | _ | _ | _ | _ | _ | _ | i <;> simp [Kx.isMade] at h
      · intro i h
        rcases i with _ | _ | _ | _ | _ | _ | _ | _ | _ | _ | _ | _ | _ | i <;> simp [Kx.isUse] at h
    refine lexX_step (fun K hK => ⟨by kernel_rfl, ⟨_, rfl⟩, fun v hv => ?_, fun v hv => ?_⟩)
    · go_simp
      exact mUpon_b
    subst hv
    go_simp
    refine hK _ ?_
    clear hK K
    refine lexX_step (fun K hK => ⟨by kernel_rfl, ⟨_, rfl⟩, fun v hv => ?_, fun v hv => ?_⟩)
    · go_simp
      exact mUpon_b
    subst hv
    go_simp
    refine hK _ ?_
    clear hK K
    refine lexX_step (fun K hK => ⟨by kernel_rfl, ⟨_, rfl⟩, fun v hv => ?_, fun v hv => ?_⟩)
    · go_simp
      exact mUpon_b
    subst hv
    go_simp
    refine hK _ ?_
    clear hK K
    refine lexX_step (fun K hK => ⟨by kernel_rfl, ⟨_, rfl⟩, fun v hv => ?_, fun v hv => ?_⟩)
    · go_simp
      exact mUpon_b
    subst hv
    go_simp
    refine hK _ ?_
    clear hK K
    refine lexX_step (fun K hK => ⟨by kernel_rfl, ⟨_, rfl⟩, fun v hv => ?_, fun v hv => ?_⟩)
    · go_simp
      exact mUpon_b
    subst hv
    go_simp
    refine hK _ ?_
    clear hK K
    refine lexX_step (fun K hK => ⟨by kernel_rfl, ⟨_, rfl⟩, fun v hv => ?_, fun v hv => ?_⟩)
    · go_simp
      exact mUpon_b
    subst hv
    go_simp
    refine hK _ ?_
    clear hK K
    refine lexX_step (fun K hK => ⟨by kernel_rfl, ⟨_, rfl⟩, fun v hv => ?_, fun v hv => ?_⟩)
    · go_simp
      exact mUpon_b
    subst hv
    go_simp
    refine hK _ ?_
    clear hK K
    refine lexX_step (fun K hK => ⟨by kernel_rfl, ⟨_, rfl⟩, fun v hv => ?_, fun v hv => ?_⟩)
    · go_simp
      exact mUpon_b
    subst hv
    go_simp
    refine hK _ ?_
    clear hK K
    refine lexX_step (fun K hK => ⟨by kernel_rfl, ⟨_, rfl⟩, fun v hv => ?_, fun v hv => ?_⟩)
    · go_simp
      exact mUpon_b
    subst hv
    go_simp
    refine hK _ ?_
    clear hK K
    refine lexX_step (fun K hK => ⟨by kernel_rfl, ⟨_, rfl⟩, fun v hv => ?_, fun v hv => ?_⟩)
    · have y9 := (unhideR HY v (below_go (unhideR HB) hv)).c0
      go_simp
      exact mUpon_b
    subst hv
    go_simp
    refine hK _ ?_
    clear hK K
    refine lexX_step (fun K hK => ⟨by kernel_rfl, ⟨_, rfl⟩, fun v hv => ?_, fun v hv => ?_⟩)
    · go_simp
      exact mUpon_b
    subst hv
    go_simp
    refine hK _ ?_
    clear hK K
    refine lexX_step (fun K hK => ⟨by kernel_rfl, ⟨_, rfl⟩, fun v hv => ?_, fun v hv => ?_⟩)
    · have y9 : v.cell? ⟨w.heap.size, 0, none⟩ = some (.string s.1.nm) := (unhideR HS v (below_go (unhideR HBW) hv)).c0
      go_simp
      exact mUpon_b
    subst hv
    go_simp
    refine hK _ ?_
    clear hK K
    refine lexX_step (fun K hK => ⟨by kernel_rfl, ⟨_, rfl⟩, fun v hv => ?_, fun v hv => ?_⟩)
    · go_simp
      exact mUpon_b
    subst hv
    go_simp
    refine hK _ ?_
    clear hK K
    refine lexX_end (fun v5 hv => ?_)
    have HB6 := hideR (below_go (unhideR HB) hv.low)
    have HBW5 := hideR (below_go (unhideR HBW) hv.low)
    have HB5 := HBW5
    have HO5 := hideR (own_below2 (unhideR HO) hv.low)
    clear hv HO HB HBW
    refine wpAny_step (i := 13) (by kernel_rfl) rfl (by kernel_rfl) (fun K hK => ?_)
    unfold Oper.wp
    go_simp
    refine hK _ _ ?_
    clear hK K
    refine wpAny_end (by kernel_rfl) ?_
    have hsz5 : W.heap.size ≤ v5.heap.size := (unhideR HB5).size
    cases lb
    case true =>
      have hy5 := unhideR HY v5 (unhideR HB6)
      have d0 := hy5.c0
      have d1 := hy5.c1
      have d2 := hy5.c2
      have d3 := hy5.c3
      have d4 := hy5.c4
      have d5 := hy5.c5
      have d6 := hy5.c6
      have HV1y := hideR (vT_one y)
      have HVly : HeldR ((vT y).length = 1 * 7) := hideR rfl
      have HCy : HeldR (∀ (u : World) (g : Nat), u.heap[g]? = some (.cells #[.string y.1.nm, .int .i64 y.1.kd, .int .i64 y.1.wd, .int .i64 y.1.hi, .slice y.2.ca y.1.cs.length y.2.cc, .slice y.2.oa y.1.op.length y.2.oc, .int .i64 y.1.al] 57) → ∀ j z, (vT y)[j]? = some z → u.cell? ((⟨g, 0, none⟩ : Addr).add j) = some z) := hideR (fun u g h => tt_cells h)
      have HFl : HeldR (flatTT (M.take (i + 1)) = flatTT (M.take i) ++ vT y) := hideR (by
        rw [unhideR HT, flatTT_append]
        show _ ++ (vT y ++ []) = _
        rw [List.append_nil])
      have HJ3 := hideR (unhideR HJ2 rfl)
      clear HI HJ2 HT HDr HP hy5 HY HS HCs HV1 HVl
      generalize vT y = VY at *
      generalize flatTT (M.take i) = FM at *
      go_wp2_with (first
        | (at_builtin; refine wpList_append_own _ rfl _ _ 44 rfl W.heap.size 57 i0 (.agg #[.string ByteArray.empty, .int .i64 0, .int .i64 0, .int .i64 0, .slice none 0 0, .slice none 0 0, .int .i64 0]) 7 96 Tryd.underlying44 hi0 hz0 hz1 hz2 rfl (by decide) _ i FM rfl ((unhideR HO5).alloc _) ⟨v5.heap.size, 0, none⟩ 1 1 VY rfl (unhideR HVly) (unhideR HCy _ _ (alloc_last v5 _)) (unhideR HV1y) ?c3 ?c4 (by simp; omega) ?_))
      case c3 => unfold maxLen; omega
      case c4 => omega
      intro v1 w1 hown1 hgrow1 _
      have HB1 := hideR ((unhideR HBW5).alloc (unhideR HBW5).size (.cells #[.string y.1.nm, .int .i64 y.1.kd, .int .i64 y.1.wd, .int .i64 y.1.hi, .slice y.2.ca y.1.cs.length y.2.cc, .slice y.2.oa y.1.op.length y.2.oc, .int .i64 y.1.al] 57))
      have HB2 := hideR ((unhideR HB1).grown hgrow1 (by have := (unhideR HBW5).size; simp; omega) (fun k e => (row_block (unhideR HO5) e).1))
      have HO2 : HeldR (w1.ownsRow W.heap.size 57 7 v1 (i + 1) (flatTT (M.take (i + 1)))) := hideR (by rw [unhideR HFl]; exact hown1)
      clear hown1 hgrow1 HB1 HO5 HB5 HBW5 d0 d1 d2 d3 d4 d5 d6 HFl HCy HV1y HVly
      go_wp2
      exact ⟨⟨i + 1, by omega, by go_num, HJ3, HO2, HB2⟩, by simp [intOf]; omega⟩
    have hs5 := unhideR HS v5 (unhideR HBW5)
    have d0 : v5.cell? ⟨w.heap.size, 0, none⟩ = some (.string s.1.nm) := hs5.c0
    have d1 : v5.cell? ⟨w.heap.size, 1, none⟩ = some (.int .i64 s.1.kd) := hs5.c1
    have d2 : v5.cell? ⟨w.heap.size, 2, none⟩ = some (.int .i64 s.1.wd) := hs5.c2
    have d3 : v5.cell? ⟨w.heap.size, 3, none⟩ = some (.int .i64 s.1.hi) := hs5.c3
    have d4 : v5.cell? ⟨w.heap.size, 4, none⟩ = some (.slice s.2.ca s.1.cs.length s.2.cc) := hs5.c4
    have d5 : v5.cell? ⟨w.heap.size, 5, none⟩ = some (.slice s.2.oa s.1.op.length s.2.oc) := hs5.c5
    have d6 : v5.cell? ⟨w.heap.size, 6, none⟩ = some (.int .i64 s.1.al) := hs5.c6
    have HPi := hideR (fun v' w' => unhideR HP i v' w' hin (unhideR HI rfl))
    have HDl : HeldR ((flatTT (M.drop i)).length = (n - i) * 7) := hideR (by rw [flatTT_length, List.length_drop, unhideR Hn])
    have HD1 := hideR (flatTT_one (M.drop i))
    clear hs5 HI HJ2 HT HP HY HS HBW5 HB6
    generalize flatTT (M.take i) = FM at *
    generalize flatTT (M.drop i) = FD at *
    go_wp2_with (first
      | (at_builtin; refine wpList_append_own _ rfl _ _ 44 rfl W.heap.size 57 i0 (.agg #[.string ByteArray.empty, .int .i64 0, .int .i64 0, .int .i64 0, .slice none 0 0, .slice none 0 0, .int .i64 0]) 7 96 Tryd.underlying44 hi0 hz0 hz1 hz2 rfl (by decide) _ i FM rfl ((unhideR HO5).alloc _) ⟨v5.heap.size, 0, none⟩ 1 1 VS rfl (unhideR HVl) (unhideR HCs _ _ (alloc_last v5 _)) (unhideR HV1) ?c3 ?c4 (by simp; omega) ?_))
    case c3 => unfold maxLen; omega
    case c4 => omega
    intro v1 w1 hown1 hgrow1 _
    have hB1 := ((unhideR HB5).alloc hsz5 _).grown hgrow1 (by simp; omega) (fun k e => (row_block (unhideR HO5) e).1)
    have HB1 := hideR hB1
    have HO1 := hideR hown1
    have hsz1 : W.heap.size ≤ w1.heap.size := hB1.size
    have HDr1 := hideR (unhideR HDr w1 (below_go (unhideR HB0) hB1))
    clear hown1 hgrow1 hB1 HO5 HB5 d0 d1 d2 d3 d4 d5 d6 hW2 HDr
    have ci : ¬ cap ≤ i := by omega
    have ci2 : i < cap := by omega
    have ci3 : ¬ (cap = i) := by omega
    go_wp2_with (first
      | (at_builtin; refine wpList_append_own _ rfl _ _ 44 rfl W.heap.size 57 i0 (.agg #[.string ByteArray.empty, .int .i64 0, .int .i64 0, .int .i64 0, .slice none 0 0, .slice none 0 0, .int .i64 0]) 7 96 Tryd.underlying44 hi0 hz0 hz1 hz2 rfl (by decide) _ (i + 1) (FM ++ VS) rfl (unhideR HO1) ⟨g, i * 7, none⟩ (n - i) (cap - i) FD rfl (unhideR HDl) (unhideR HDr1) (unhideR HD1) ?c3 ?c4 hsz1 ?_))
    case c3 => unfold maxLen; omega
    case c4 => omega
    intro v2 w2 hown2 hgrow2 _
    have HQ := hideR (unhideR HPi v2 w2 (own_lowerG (by rw [List.append_assoc]; exact hown2) (unhideR HB0).size) (below_go (unhideR HB0) ((unhideR HB1).grown hgrow2 hsz1 (fun k e => (row_block (unhideR HO1) e).1))))
    clear hown2 hgrow2 HO1 HB1 HPi HDr1
    go_wp2
    exact unhideR HQ
end Go.Proofs.YtoacdaemhcbbhaaDoor
