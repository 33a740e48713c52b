/-
  The slots of a plan: the program's slotsOf, by contract.
-/
import Derived.Test.YtoacdaemhcbbhaaDoorNgG4
import Derived.Test.YtoacdaemhcbbhaaDoorNgG6
namespace Go.Proofs.YtoacdaemhcbbhaaDoor
open Go Go.RowKit

def slL (l : List Jb) (P : List (Nat × Int)) : List Slt := P.map fun x => ⟨(l.getD x.1 jb0).nm, x.2⟩
theorem slL_len (l : List Jb) (P : List (Nat × Int)) : (slL l P).length = P.length := List.length_map ..
theorem slL_append (l : List Jb) (P Q : List (Nat × Int)) : slL l (P ++ Q) = slL l P ++ slL l Q := List.map_append ..
theorem backL_len (J : Jo) (T : Int) : ∀ f s, (backL J T f s).length ≤ f
  | 0, _ => Nat.le_refl _
  | f + 1, s => by
    show (if s = 0 then [] else _).length ≤ f + 1
    split
    · exact Nat.zero_le _
    · rw [List.length_cons]
      exact Nat.succ_le_succ (backL_len J T f _)
theorem backL_zero (J : Jo) (T : Int) : ∀ f, backL J T f 0 = []
  | 0 => rfl
  | _ + 1 => rfl
/-- one job back. -/
theorem back_step {J : Jo} {T : Int} (hJ : J.Ok) {q f : Nat} (hq : 0 < q) (hs : q < 2 ^ J.n) (hc : (rowV J T q).can = true) (hf : sumS (fun _ => 1) q J.n ≤ f) : ∃ f', f = f' + 1 ∧ (rowV J T q).last < J.n ∧ q.testBit (rowV J T q).last = true ∧ q - 2 ^ (rowV J T q).last < q ∧ (rowV J T (q - 2 ^ (rowV J T q).last)).can = true ∧ sumS (fun _ => 1) (q - 2 ^ (rowV J T q).last) J.n ≤ f' ∧ backL J T f q = ((rowV J T q).last, (rowV J T q).fr) :: backL J T f' (q - 2 ^ (rowV J T q).last) := by
  have hn := hJ.n
  have h64 := pow_six hn
  rcases row_from (J := J) (T := T) hq with ⟨h, _⟩ | ⟨_, h⟩
  · rw [h] at hc; cases hc
  · have hl := h.lt
    obtain ⟨b1, b2, b3, b4⟩ := bit_sub q (by omega) _ (show (rowV J T q).last < 6 by omega) h.bit
    have e1 := sumS_one (fun _ => 1) h.bit b2 J.n h.lt (fun j hj hne => b4 j (by omega) hne)
    have c2 := sumS_card (s := q - 2 ^ (rowV J T q).last) J.n
    cases f with
    | zero => omega
    | succ f =>
      refine ⟨f, rfl, h.lt, h.bit, b1, h.can, by omega, ?_⟩
      show (if q = 0 then [] else _) = _
      rw [if_neg (by omega)]
theorem add_pl7 (b o k : Nat) : (⟨b, o, none⟩ : Addr).add k = ⟨b, o + k, none⟩ := by simp [Addr.add]
def SlS (v : Value) : Prop := ∃ g : Nat, v = .slice (some ⟨g, 0, none⟩) 1 1
def OneS (nm : ByteArray) (fr : Int) (v : Value) (w : World) : Prop := ∀ g : Nat, v = .slice (some ⟨g, 0, none⟩) 1 1 → w.heap[g]? = some (.cells #[.string nm, .int .i64 fr] 37)
theorem oneS_stb (nm : ByteArray) (fr : Int) (v : Value) : Stb (OneS nm fr v) := fun _ _ h k g q => keepB (h g q) k
theorem infoSl : (Tryd.prog.info? 37).map (fun i => (i.zero, i.size, i.bytes)) = some (some (.agg #[.string ByteArray.empty, .int .i64 0]), 2, 24) := by kernel_rfl
def SlPost (l : List Jb) (s : Nat) (w : World) (e : Ending) (w' : World) : Prop := (∃ ad cap, e = .returned (.slice ad (slL l (backL (jo l) tMin 6 s)).length cap) ∧ SlCame w' ad (slL l (backL (jo l) tMin 6 s)).reverse) ∧ Below w.heap.size w w'
set_option maxRecDepth 1000000 in
set_option maxHeartbeats 12800000 in
theorem pslots_any {w : World} {ad : Option Addr} {cap g : Nat} {l : List Jb} {s : Nat} (hl : JbCame w ad l) (hn : l.length ≤ 6) (hk : ∀ k, k < l.length → (l.getD k jb0).Ok) (hr : RwR w g (2 ^ l.length) (rowV (jo l) tMin)) (hs : s < 2 ^ l.length) (hc : (rowV (jo l) tMin s).can = true) :
    Calls Tryd.prog 26 #[.slice ad l.length cap, .slice (some ⟨g, 0, none⟩) (2 ^ l.length) (2 ^ l.length), .int .i64 (s : Nat)] w (SlPost l s w) := by
  have HL : HeldR (∀ u, Below w.heap.size w u → JbCame u ad l) := hideR (fun u q => hl.below q)
  have HR : HeldR (∀ u, Below w.heap.size w u → RwR u g (2 ^ l.length) (rowV (jo l) tMin)) := hideR (fun u q => hr.below q)
  have HSt : HeldR (∀ q f : Nat, 0 < q → q < 2 ^ l.length → (rowV (jo l) tMin q).can = true → sumS (fun _ => 1) q l.length ≤ (f : Nat) → ∃ f', f = f' + 1 ∧ (rowV (jo l) tMin q).last < l.length ∧ q.testBit (rowV (jo l) tMin q).last = true ∧ q - 2 ^ (rowV (jo l) tMin q).last < q ∧ (rowV (jo l) tMin (q - 2 ^ (rowV (jo l) tMin q).last)).can = true ∧ sumS (fun _ => 1) (q - 2 ^ (rowV (jo l) tMin q).last) l.length ≤ (f' : Nat) ∧ backL (jo l) tMin f q = ((rowV (jo l) tMin q).last, (rowV (jo l) tMin q).fr) :: backL (jo l) tMin f' (q - 2 ^ (rowV (jo l) tMin q).last)) := hideR (fun q f h1 h2 h3 h4 => back_step (jo_ok hn hk) h1 h2 h3 h4)
  have HC6 : HeldR (sumS (fun _ => 1) s l.length ≤ ((6 : Nat) : Int)) := hideR (by have := (sumS_card (s := s) l.length).2; omega)
  have HP : HeldR (∀ D ad cap w', D = backL (jo l) tMin 6 s → SlCame w' ad (slL l D).reverse → Below w.heap.size w w' → SlPost l s w (.returned (.slice ad (slL l D).length cap)) w') := hideR (fun D ad cap w' h1 h2 h3 => by subst h1; exact ⟨⟨ad, cap, rfl, h2⟩, h3⟩)
  have HT0 : HeldR (∀ f, backL (jo l) tMin f 0 = []) := hideR (backL_zero _ _)
  have HT6 : HeldR ((backL (jo l) tMin 6 s).length ≤ 6) := hideR (backL_len _ _ 6 s)
  have hNN : 2 ^ l.length ≤ 64 := pow_six hn
  generalize SlPost l s w = POST at *
  generalize rowV (jo l) tMin = RV at *
  generalize backL (jo l) tMin = BL at *
  obtain ⟨N, hN⟩ : ∃ N, 2 ^ l.length = N := ⟨_, rfl⟩
  obtain ⟨n, hn0⟩ : ∃ n, l.length = n := ⟨_, rfl⟩
  have Hn := hideR hn0
  rw [hN] at HR HSt hNN hs ⊢
  rw [hn0] at hn HSt HC6 ⊢
  obtain ⟨i0, hi0, hz0, hz1, hz2⟩ := info_parts infoSl
  have HO0 : HeldR (w.ownsRow w.heap.size 37 2 (.slice none 0 0) (slL l []).length (flatSl (slL l []))) := hideR (World.ownsRow_nil _ _ _ _)
  clear hl hk hr hN hn0
  have HS0 : HeldR (RV s).can := hideR hc
  clear hc
  go_enter Tryd.func26, Tryd.ntmps26
  go_wp2_with fail
  go_loopw [2, 7] (fun sv pv wl => ∃ (q f : Nat) (D : List (Nat × Int)), q < N ∧ sv = .int .i64 (q : Nat) ∧ HeldR (RV q).can ∧ HeldR (sumS (fun _ => 1) q n ≤ (f : Nat)) ∧ HeldR (BL 6 s = D ++ BL f q) ∧ HeldR (wl.ownsRow w.heap.size 37 2 pv (slL l D).length (flatSl (slL l D))) ∧ HeldR (Below w.heap.size w wl)) (fun sv _ _ => (intOf sv).toNat)
  case atStart => exact ⟨s, 6, [], hs, rfl, HS0, HC6, hideR rfl, HO0, hideR (Below.refl _ _)⟩
  case round =>
    clear HO0 HS0 HC6
    obtain ⟨q, f, D, hqN, rfl, HC, HF, HD, HO, HB⟩ := hrel
    by_cases q0 : 0 < q
    case neg =>
      obtain rfl : q = 0 := by omega
      have hD : D = BL 6 s := by have := unhideR HD; rw [unhideR HT0, List.append_nil] at this; exact this.symm
      have hDl : (slL l D).length ≤ 6 := by rw [slL_len, hD]; exact unhideR HT6
      have hrv := prev_any (unhideR HO) (by omega)
      have HQ : HeldR (∀ ad cap w', SlCame w' ad (slL l D).reverse → Below w.heap.size wr w' → POST (.returned (.slice ad (slL l D).length cap)) w') := hideR (fun ad cap w' h1 h2 => unhideR HP D ad cap w' hD h1 ((unhideR HB).trans h2))
      obtain ⟨ap, cp, ep⟩ := ownsRow_slice (unhideR HO)
      subst ep
      clear HO HB HD HP HT6 hD HSt HR HL HF HC
      generalize slL l D = SL at *
      obtain ⟨nl, hnl⟩ : ∃ nl, SL.length = nl := ⟨_, rfl⟩
      rw [hnl] at hrv HQ hDl ⊢
      clear hnl
      go_wp2_with fail
      refine hrv.mono ?_
      rintro r u5 ⟨rfl, ⟨ad5, cap5, e5, h1⟩, h2⟩
      simp only [Value.slice.injEq] at e5
      obtain ⟨rfl, _, rfl⟩ := e5
      have HQ2 := hideR (unhideR HQ _ cp u5 h1 h2)
      clear hrv HQ h1 h2
      go_wp2
      exact unhideR HQ2
    obtain ⟨f', rfl, hla, hbt, hlt, hcan, hf', hstep⟩ := unhideR HSt q f q0 hqN (unhideR HC) (unhideR HF)
    have tq : decide ((0 : Int) < (q : Int)) = true := decide_eq_true (by omega)
    have tqn : decide (0 < q) = true := decide_eq_true q0
    have hqi : (q : Int) < (N : Int) := by omega
    have hDl : (slL l D).length ≤ 6 := by
      have h1 := unhideR HD
      have h2 := unhideR HT6
      rw [h1, List.length_append] at h2
      rw [slL_len]
      omega
    have HD2 : HeldR (BL 6 s = (D ++ [((RV q).last, (RV q).fr)]) ++ BL f' (q - 2 ^ (RV q).last)) := hideR (by rw [unhideR HD, hstep]; simp)
    have hwo := fun u => pwo_any q (RV q).last (by omega) (by omega) u
    rw [hbt, if_pos rfl] at hwo
    have hrc := (unhideR HR wr (unhideR HB)).cell q hqN
    have HC2 := hideR hcan
    have HF2 := hideR hf'
    obtain ⟨bb, off, had, hbb, hJb⟩ := (unhideR HL wr (unhideR HB)).at_ (RV q).last (by rw [unhideR Hn]; exact hla)
    subst had
    have hj0 := hJb.c0
    have HSl : HeldR (slL l (D ++ [((RV q).last, (RV q).fr)]) = slL l D ++ [⟨(l.getD (RV q).last jb0).nm, (RV q).fr⟩]) := hideR (slL_append ..)
    obtain ⟨q2, hq2⟩ : ∃ q2, q - 2 ^ (RV q).last = q2 := ⟨_, rfl⟩
    rw [hq2] at HD2 HC2 HF2 hwo hlt
    generalize RV q = R at *
    generalize (l.getD R.last jb0).nm = nm at *
    have r0 : wr.cell? ⟨g, q * 5, none⟩ = some (.bool R.can) := hrc 0 (by decide)
    have r1 : wr.cell? ⟨g, q * 5 + 1, none⟩ = some (.int .i64 ((R.last : Nat) : Int)) := hrc 1 (by decide)
    have r2 : wr.cell? ⟨g, q * 5 + 2, none⟩ = some (.int .i64 R.fr) := hrc 2 (by decide)
    have r3 : wr.cell? ⟨g, q * 5 + 3, none⟩ = some (.int .i64 R.to_) := hrc 3 (by decide)
    have r4 : wr.cell? ⟨g, q * 5 + 4, none⟩ = some (.int .i64 R.wo) := hrc 4 (by decide)
    obtain ⟨ap, cp, ep⟩ := ownsRow_slice (unhideR HO)
    subst ep
    clear hrc hJb hstep hf' hcan HD HC HF hbt HP HT0 HT6 hq2
    have HO1 := HO
    obtain ⟨nl, hnl⟩ : ∃ nl, (slL l D).length = nl := ⟨_, rfl⟩
    have Hnl := hideR hnl
    rw [hnl] at HO1 hDl ⊢
    clear hnl HO
    have hla2 : (R.last : Int) < (n : Int) := by omega
    have hba := below_a wr (.cells #[.bool R.can, .int .i64 ((R.last : Nat) : Int), .int .i64 R.fr, .int .i64 R.to_, .int .i64 R.wo] 78)
    have z := alloc_last wr (.cells #[.bool R.can, .int .i64 ((R.last : Nat) : Int), .int .i64 R.fr, .int .i64 R.to_, .int .i64 R.wo] 78)
    have HB2 := hideR ((unhideR HB).trans (hba.mono (unhideR HB).size))
    have HO2 := hideR (own_below2 (unhideR HO1) hba)
    have HY : HeldR (∀ v, Below (wr.alloc (.cells #[.bool R.can, .int .i64 ((R.last : Nat) : Int), .int .i64 R.fr, .int .i64 R.to_, .int .i64 R.wo] 78)).heap.size (wr.alloc (.cells #[.bool R.can, .int .i64 ((R.last : Nat) : Int), .int .i64 R.fr, .int .i64 R.to_, .int .i64 R.wo] 78)) v → v.heap[wr.heap.size]? = some (.cells #[.bool R.can, .int .i64 ((R.last : Nat) : Int), .int .i64 R.fr, .int .i64 R.to_, .int .i64 R.wo] 78) ∧ v.cell? ⟨bb, off + R.last * 4, none⟩ = some (.string nm)) := hideR (fun v hv => ⟨keepB z hv, ((below_go hba hv).cell (p := ⟨bb, off + R.last * 4, none⟩) hbb).trans hj0⟩)
    clear hba z HO1 HB hj0 hbb
    go_upto_region 4 with fail
    clear r0 r1 r2 r3 r4
    generalize wr.alloc (.cells #[.bool R.can, .int .i64 ((R.last : Nat) : Int), .int .i64 R.fr, .int .i64 R.to_, .int .i64 R.wo] 78) = u5 at *
    obtain ⟨Z, hZ⟩ : ∃ Z, wr.heap.size = Z := ⟨_, rfl⟩
    rw [hZ] at HY ⊢
    clear hZ
    refine wp_region_made 1 #[true, true, true, true, true, true, true, true, true, true, true, false, false] [.lets (· = .slice ap nl cp),
      .lets (· = .slice (some ⟨bb, off, none⟩) n cap),
      .lets (· = .pointer (some ⟨Z, 1, none⟩)),
      .lets (· = .int .i64 ((R.last : Nat) : Int)),
      .lets (· = .pointer (some ⟨bb, off + R.last * 4, none⟩)),
      .lets (· = .pointer (some ⟨bb, off + R.last * 4, none⟩)),
      .lets (· = .string nm),
      .lets (· = .pointer (some ⟨Z, 2, none⟩)),
      .lets (· = .int .i64 R.fr),
      .lets (· = .agg #[.string nm, .int .i64 R.fr]),
      .made SlS (OneS nm R.fr)] [10] [] (by kernel_rfl) (by kernel_rfl) rfl ?kinds (by kernel_rfl) (by kernel_rfl) (by kernel_rfl) ?_
    case kinds =>
      constructor
      · intro i h
        rcases i with _ | _ | _ | _ | _ | _ | _ | _ | _ | _ | _ | i <;> simp [Kx.isMade] at h ⊢
      · intro i h
        rcases i with _ | _ | _ | _ | _ | _ | _ | _ | _ | _ | _ | i <;> simp [Kx.isUse] at h
    refine lexX_step (fun K hK => ⟨by kernel_rfl, ⟨_, rfl⟩, fun v hv => ?_, fun v hv => ?_⟩)
    · go_simp
      exact mUpon_b
    subst hv
    go_simp
    refine hK _ ?_
    clear hK K
    refine lexX_step (fun K hK => ⟨by kernel_rfl, ⟨_, rfl⟩, fun v hv => ?_, fun v hv => ?_⟩)
    · go_simp
      exact mUpon_b
    subst hv
    go_simp
    refine hK _ ?_
    clear hK K
    refine lexX_step (fun K hK => ⟨by kernel_rfl, ⟨_, rfl⟩, fun v hv => ?_, fun v hv => ?_⟩)
    · go_simp
      exact mUpon_b
    subst hv
    go_simp
    refine hK _ ?_
    clear hK K
    refine lexX_step (fun K hK => ⟨by kernel_rfl, ⟨_, rfl⟩, fun v hv => ?_, fun v hv => ?_⟩)
    · have y9 := (cells_at (unhideR HY v hv).1 1 (by simp)).1
      go_simp
      exact mUpon_b
    subst hv
    go_simp
    refine hK _ ?_
    clear hK K
    refine lexX_step (fun K hK => ⟨by kernel_rfl, ⟨_, rfl⟩, fun v hv => ?_, fun v hv => ?_⟩)
    · go_simp
      exact mUpon_b
    subst hv
    go_simp
    refine hK _ ?_
    clear hK K
    refine lexX_step (fun K hK => ⟨by kernel_rfl, ⟨_, rfl⟩, fun v hv => ?_, fun v hv => ?_⟩)
    · go_simp
      exact mUpon_b
    subst hv
    go_simp
    refine hK _ ?_
    clear hK K
    refine lexX_step (fun K hK => ⟨by kernel_rfl, ⟨_, rfl⟩, fun v hv => ?_, fun v hv => ?_⟩)
    · have y9 := (unhideR HY v hv).2
      go_simp
      exact mUpon_b
    subst hv
    go_simp
    refine hK _ ?_
    clear hK K
    refine lexX_step (fun K hK => ⟨by kernel_rfl, ⟨_, rfl⟩, fun v hv => ?_, fun v hv => ?_⟩)
    · go_simp
      exact mUpon_b
    subst hv
    go_simp
    refine hK _ ?_
    clear hK K
    refine lexX_step (fun K hK => ⟨by kernel_rfl, ⟨_, rfl⟩, fun v hv => ?_, fun v hv => ?_⟩)
    · have y9 := (cells_at (unhideR HY v hv).1 2 (by simp)).1
      go_simp
      exact mUpon_b
    subst hv
    go_simp
    refine hK _ ?_
    clear hK K
    refine lexX_step (fun K hK => ⟨by kernel_rfl, ⟨_, rfl⟩, fun v hv => ?_, fun v hv => ?_⟩)
    · go_simp
      exact mUpon_b
    subst hv
    go_simp
    refine hK _ ?_
    clear hK K
    refine lexX_made ⟨by kernel_rfl, ⟨_, 0, rfl⟩, oneS_stb _ _, fun v hv => ?_, ?_⟩
    · go_simp
      exact ⟨below_a v _, ⟨_, rfl⟩, fun q' hq' => by cases hq'; exact alloc_last v _⟩
    rintro _ ⟨u9, rfl⟩ K9 hK
    go_simp
    refine hK _ ?_
    clear hK K9
    refine lexX_end (fun v5 hv => ?_)
    have z9 := hv.fact.2 _ rfl
    have HV := hideR hv.low
    clear hv
    have hO5 := own_below2 (unhideR HO2) (unhideR HV)
    have HO5 := hideR hO5
    have HB5 := hideR ((unhideR HB2).trans ((unhideR HV).mono (unhideR HB2).size))
    refine wpAny_step (i := 11) (by kernel_rfl) rfl (by kernel_rfl) (fun K hK => ?_)
    refine wp_append_at _ _ 25 rfl w.heap.size 37 i0 (.agg #[.string ByteArray.empty, .int .i64 0]) 2 24 Tryd.underlying25 hi0 hz0 hz1 hz2 rfl (by decide) _ nl (flatSl (slL l D)) rfl hO5 ⟨u9, 0, none⟩ 1 1 (valSl ⟨nm, R.fr⟩) rfl rfl ?q1 ?q2 ?q3 ?q4 ?q5 ?_
    case q1 =>
      intro j u hu
      rw [add_pl7, Nat.zero_add]
      rcases j with _ | _ | j
      · rw [← hu]; exact (cells_at z9 0 (by simp)).1
      · rw [← hu]; exact (cells_at z9 1 (by simp)).1
      · simp [valSl] at hu
    case q2 => exact valSl_one _
    case q3 => unfold maxLen; omega
    case q4 => omega
    case q5 => exact (unhideR HB5).size
    intro v6 w6 hown hgrow hloc
    have HB9 := hideR ((unhideR HB5).grown hgrow (unhideR HB5).size (fun k e => ((unhideR HO5).lt k e).1))
    have HO9 : HeldR (w6.ownsRow w.heap.size 37 2 v6 (slL l (D ++ [(R.last, R.fr)])).length (flatSl (slL l (D ++ [(R.last, R.fr)])))) := hideR (by
      rw [unhideR HSl, List.length_append, unhideR Hnl, flatSl_append]
      have e1 : flatSl [⟨nm, R.fr⟩] = valSl ⟨nm, R.fr⟩ := List.append_nil _
      rw [e1]
      exact hown)
    have hZ6 : w6.heap[Z]? = some (.cells #[.bool R.can, .int .i64 ((R.last : Nat) : Int), .int .i64 R.fr, .int .i64 R.to_, .int .i64 R.wo] 78) := by
      have h1 := (unhideR HY v5 (unhideR HV)).1
      refine (hgrow.block Z (ltB h1) (fun e => ?_)).trans h1
      have h2 := row_block hO5 e.symm
      obtain ⟨cur, hcur⟩ := h2.2
      rw [h1] at hcur
      simp at hcur
    obtain ⟨ap6, cp6, ep6⟩ := ownsRow_slice (unhideR HO9)
    subst ep6
    have y1 := (cells_at hZ6 1 (by simp)).1
    clear hown hgrow hloc hO5 HO5 HO2 HB2 HB5 HV HY HSl z9 hZ6
    generalize hnl2 : (slL l (D ++ [(R.last, R.fr)])).length = nl2 at *
    have Hn2 := hideR hnl2
    clear hnl2
    go_simp
    refine hK _ _ ?_
    clear hK K
    refine wpAny_step (i := 12) (by kernel_rfl) rfl (by kernel_rfl) (fun K hK => ?_)
    unfold Oper.wp
    go_simp
    refine hK _ _ ?_
    clear hK K
    refine wpAny_end (by kernel_rfl) ?_
    go_wp2_with fail
    refine (hwo _).mono ?_
    rintro r u7 ⟨rfl, rfl⟩
    clear hwo y1
    go_wp2
    exact ⟨⟨q2, f', D ++ [(R.last, R.fr)], by omega, rfl, HC2, HF2, HD2, by rw [unhideR Hn2]; exact HO9, HB9⟩, by simp [intOf]; omega⟩
end Go.Proofs.YtoacdaemhcbbhaaDoor
