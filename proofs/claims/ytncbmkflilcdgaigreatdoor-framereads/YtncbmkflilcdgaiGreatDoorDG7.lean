/-
  The program's Write.
-/
import Derived.Test.YtncbmkflilcdgaiGreatDoorDG6
import Derived.Test.YtncbmkflilcdgaiGreatDoorFfW
namespace Go.Proofs.YtncbmkflilcdgaiGreatDoor
open Go Go.RowKit

theorem BOwn.bytes2 {w : World} {B : Nat} {v : Value} {l : Bs} (h : BOwn w B v l) : ∃ ad cap, v = .slice ad l.length cap ∧ BAt w ad l ∧ l.length ≤ cap := by
  obtain ⟨ad, cap, e, hb⟩ := h.bytes
  refine ⟨ad, cap, e, hb, ?_⟩
  rcases h.2 with ⟨h1, h2⟩ | ⟨g, c, cur, h1, _, _, hn, _⟩
  · rw [h2]; exact Nat.zero_le _
  · rw [e] at h1
    injection h1 with _ _ h3
    subst h3
    exact hn
theorem own_lowB {w : World} {B C : Nat} {v : Value} {b : Bs} (h : BOwn w B v b) (hb : C ≤ B) : BOwn w C v b := by
  obtain ⟨h1, h2⟩ := h
  refine ⟨h1, ?_⟩
  rcases h2 with h2 | ⟨g, cap, cur, hv, hg, hh⟩
  · exact Or.inl h2
  · exact Or.inr ⟨g, cap, cur, hv, Nat.le_trans hb hg, hh⟩
def SlA (v : Value) : Prop := ∃ ad n cap, v = .slice ad n cap
def OwnF (B : Nat) (b : Bs) (v : Value) (w : World) : Prop := BOwn w B v b
theorem ownF_stb (B : Nat) (b : Bs) (v : Value) : Stb (OwnF B b v) := fun _ _ h k => h.below k
theorem err_some2 {a : Nat → Addr} {E : Int} {er : Value} (h : ErrIs a E er) (h0 : E ≠ 0) : ∃ k : Nat, k < 10 ∧ er = .iface 180 (.pointer (some (a k))) := by
  rcases h with ⟨q, _⟩ | ⟨k, hk, _, e⟩
  · exact absurd q h0
  · exact ⟨k, hk, e⟩
theorem err_nil2 {a : Nat → Addr} {E : Int} {er : Value} (h : ErrIs a E er) (h0 : E = 0) : er = .nilIface := by
  rcases h with ⟨_, e⟩ | ⟨k, hk, q, _⟩
  · exact e
  · omega
theorem write_bad {a : Nat → Addr} {p : Pic} {L : List CrdS} {w u : World} {er : Value} (h : ErrIs a (fileE p (L.map CrdS.crd)) er) (h0 : fileE p (L.map CrdS.crd) ≠ 0) (k : Below w.heap.size w u) : WritePost a p L w (.returned (.tuple #[.slice none 0 0, er])) u :=
  ⟨[], none, 0, er, rfl, h, ⟨fun j hj => absurd hj (Nat.not_lt_zero j)⟩, fun q => absurd q h0, fun _ => rfl, Nat.le_refl _, k⟩
theorem write_good {a : Nat → Addr} {p : Pic} {L : List CrdS} {w u : World} {v : Value} {B : Nat} (h0 : fileE p (L.map CrdS.crd) = 0) (h : BOwn u B v (fileV p (L.map CrdS.crd))) (k : Below w.heap.size w u) : WritePost a p L w (.returned (.tuple #[v, .nilIface])) u := by
  obtain ⟨ad, cap, rfl, hb, hc⟩ := h.bytes2
  exact ⟨_, ad, cap, .nilIface, rfl, .inl ⟨h0, rfl⟩, hb, fun _ => rfl, fun q => absurd h0 q, hc, k⟩
set_option maxRecDepth 100000 in
set_option maxHeartbeats 3200000 in
theorem write_ok (a : Nat → Addr) : WriteOK a := by
  intro w ap ac cp cc p L hS hp hpl hc hL hcc
  have hb := below_a w (.cells #[.int .i64 p.wide, .int .i64 p.high, .slice ap p.L.length cp] 33)
  have HG := hideR (alloc_last w (.cells #[.int .i64 p.wide, .int .i64 p.high, .slice ap p.L.length cp] 33))
  obtain ⟨p0, p1, p2⟩ := pic_three (unhideR HG)
  have hva := valid_any (v := .agg #[.int .i64 p.wide, .int .i64 p.high, .slice ap p.L.length cp]) (p := p) (hS.below hb).s ⟨ap, cp, rfl, hp.below hb, by omega⟩
  have HS := hideR hS
  have HP := hideR hp
  have HC := hideR hc
  have HB := hideR hb
  clear hb hS hp hc
  go_enter Tryz.func7, Tryz.ntmps7
  go_wp2_with fail
  refine hva.mono ?_
  rintro e w1 ⟨er, rfl, her, k1⟩
  replace HG := hideR (keepB (unhideR HG) k1)
  replace HB := hideR (below_go (unhideR HB) k1)
  clear hva k1 p0 p1 p2
  by_cases e1 : picE p = 0
  case neg =>
    obtain ⟨k, hk, rfl⟩ := err_some2 her e1
    have HX := hideR (write_bad (L := L) (by unfold fileE; rw [if_neg e1]; exact her) (by unfold fileE; rw [if_neg e1]; exact e1) (unhideR HB))
    clear her e1
    go_wp2
    go_ret2
    exact unhideR HX
  obtain rfl := err_nil2 her e1
  have hwc := wrongCards_any (cap := cc) ((unhideR HS).below (unhideR HB)) ((unhideR HC).below (unhideR HB)) (by omega) hcc
  have HE1 := hideR e1
  have hfe : fileE p (L.map CrdS.crd) = cardsE (L.map CrdS.crd) := by unfold fileE; rw [if_pos e1]
  have HFe := hideR hfe
  clear her e1 hfe
  go_wp2_with fail
  refine hwc.mono ?_
  rintro e w2 ⟨er, rfl, her, k2⟩
  replace HG := hideR (keepB (unhideR HG) k2)
  replace HB := hideR (below_go (unhideR HB) k2)
  clear hwc k2
  by_cases e2 : cardsE (L.map CrdS.crd) = 0
  case neg =>
    obtain ⟨k, hk, rfl⟩ := err_some2 her e2
    have HX := hideR (write_bad (L := L) (by rw [unhideR HFe]; exact her) (by rw [unhideR HFe]; exact e2) (unhideR HB))
    clear her e2
    go_wp2
    go_ret2
    exact unhideR HX
  obtain rfl := err_nil2 her e2
  have hok := pic_ok (unhideR HE1)
  have HF0 : HeldR (fileE p (L.map CrdS.crd) = 0) := hideR (by rw [unhideR HFe]; exact e2)
  have HIn := hideR (cards_in e2)
  have HCk := hideR (cards_ok e2)
  have HOk := hideR hok
  have hw0 := hok.w1
  have hw1 := hok.w2
  have hh0 := hok.h1
  have hh1 := hok.h2
  obtain ⟨Wi, Hi, Lp⟩ := p
  simp only at *
  obtain ⟨W, rfl⟩ : ∃ W : Nat, Wi = (W : Nat) := ⟨Wi.toNat, by omega⟩
  obtain ⟨H, rfl⟩ : ∃ H : Nat, Hi = (H : Nat) := ⟨Hi.toNat, by omega⟩
  have hhd := fun u (k : Below w2.heap.size w2 u) => headOf_any (ap := ap) (n := Lp.length) (cp := cp) (cc := cc) ((unhideR HS).below (below_go (unhideR HB) k)) (show W ≤ 256 by omega) (show H ≤ 256 by omega) ((unhideR HC).below (below_go (unhideR HB) k)) (by omega) (unhideR HIn)
  have HHd := hideR hhd
  have hfl : (fullHead ⟨W, H, []⟩ (L.map CrdS.crd)).length ≤ 500000 := by
    have hok2 : PicOk ⟨W, H, Lp⟩ := hok
    have : fullHead ⟨W, H, []⟩ (L.map CrdS.crd) = fullHead ⟨W, H, Lp⟩ (L.map CrdS.crd) := rfl
    rw [this, full_length hok2 (unhideR HCk), List.length_map]
    unfold blocksV
    omega
  have HFl : HeldR (fillV 2880 0 (fullHead ⟨W, H, []⟩ (L.map CrdS.crd) ++ dataV ⟨W, H, Lp⟩ Lp.length) = fileV ⟨W, H, Lp⟩ (L.map CrdS.crd)) := hideR (file_fill ⟨W, H, Lp⟩ (L.map CrdS.crd))
  clear her e2 hok hhd HIn HCk HE1 HFe
  generalize hFH : fullHead ⟨W, H, []⟩ (L.map CrdS.crd) = FH at *
  clear hFH
  go_wp2_with fail
  refine wp_region_made 2 #[true, true, true, true, false, false, false] [.lets (· = .agg #[.int .i64 (W : Nat), .int .i64 (H : Nat), .slice ap Lp.length cp]),
    .lets (· = .slice ac L.length cc),
    .made SlA (OwnF w2.heap.size FH),
    .lets (· = .agg #[.int .i64 (W : Nat), .int .i64 (H : Nat), .slice ap Lp.length cp])] [2] [] (by kernel_rfl) (by kernel_rfl) rfl ?kinds (by kernel_rfl) (by kernel_rfl) (by kernel_rfl) ?_
  case kinds =>
    constructor
    · intro i h
      rcases i with _ | _ | _ | _ | i <;> simp [Kx.isMade] at h ⊢
    · intro i h
      rcases i with _ | _ | _ | _ | i <;> simp [Kx.isUse] at h
  refine lexX_step (fun K hK => ⟨by kernel_rfl, ⟨_, rfl⟩, fun v hv => ?_, fun v hv => ?_⟩)
  · obtain ⟨c0, c1, c2⟩ := pic_three (keepB (unhideR HG) hv)
    go_simp
    exact mUpon_b
  subst hv
  go_simp
  refine hK _ ?_
  clear hK K
  refine lexX_step (fun K hK => ⟨by kernel_rfl, ⟨_, rfl⟩, fun v hv => ?_, fun v hv => ?_⟩)
  · go_simp
    exact mUpon_b
  subst hv
  go_simp
  refine hK _ ?_
  clear hK K
  refine lexX_made ⟨by kernel_rfl, ⟨_, none, 0, 0, rfl⟩, ownF_stb _ _, fun v hv => ?_, ?_⟩
  · go_simp
    refine (unhideR HHd v hv).mono ?_
    rintro e w9 ⟨u9, rfl, ho9, k9, _⟩
    obtain ⟨ad9, cap9, e9⟩ := ho9.slice
    exact ⟨u9, rfl, ⟨⟨ad9, _, cap9, e9⟩, own_lowB ho9 hv.size⟩, k9⟩
  rintro _ ⟨ad9, n9, cap9, rfl⟩ K hK
  go_simp
  refine hK _ ?_
  clear hK K
  refine lexX_step (fun K hK => ⟨by kernel_rfl, ⟨_, rfl⟩, fun v hv => ?_, fun v hv => ?_⟩)
  · obtain ⟨c0, c1, c2⟩ := pic_three (keepB (unhideR HG) hv)
    go_simp
    exact mUpon_b
  subst hv
  go_simp
  refine hK _ ?_
  clear hK K
  refine lexX_end (fun v5 hv => ?_)
  have HO5 := hideR hv.fact.2
  have HK5 := hideR hv.low
  have hwcn := withCounts_any (cp := cp) (L := Lp) hv.low.size (unhideR HO5) hfl (unhideR HOk) (fun u k => (unhideR HP).below (below_go (unhideR HB) ((unhideR HK5).trans k)))
  clear hv
  refine wpAny_step (i := 4) (by kernel_rfl) rfl (by kernel_rfl) (fun K hK => ?_)
  unfold Oper.wp
  go_simp
  refine hwcn.mono ?_
  rintro e w6 ⟨v6, rfl, hO6, hB6, _⟩
  have HX := hideR (write_good (a := a) (w := w) (unhideR HF0) (by rw [← unhideR HFl]; exact hO6) (below_go (unhideR HB) ((unhideR HK5).trans hB6)))
  clear hwcn hO6 hB6
  refine hK _ _ ?_
  clear hK K
  refine wpAny_step (i := 5) (by kernel_rfl) rfl (by kernel_rfl) (fun K hK => ?_)
  unfold Oper.wp
  go_simp
  refine hK _ _ ?_
  clear hK K
  refine wpAny_step (i := 6) (by kernel_rfl) rfl (by kernel_rfl) (fun K hK => ?_)
  unfold Oper.wp
  go_simp
  refine hK _ _ ?_
  clear hK K
  refine wpAny_end (by kernel_rfl) ?_
  go_wp2
  go_ret2
  exact unhideR HX
end Go.Proofs.YtncbmkflilcdgaiGreatDoor
