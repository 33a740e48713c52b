/-
  A search: what is asked of it; looking at stars: the program's, by contract.
-/
import Derived.Test.YtfonpobdnhifgamGreatDoorAtSD
namespace Go.Proofs.YtfonpobdnhifgamGreatDoor
open Go Go.RowKit

/-- rows of parts lie as they lay. -/
def KeepP (W W' : World) : Prop := ∀ (k : Nat) (cs : Array Value), W.heap[k]? = some (.cells cs 139) → W'.heap[k]? = some (.cells cs 139)
theorem KeepP.refl (W : World) : KeepP W W := fun _ _ h => h
theorem KeepP.trans {A B C : World} (h : KeepP A B) (k : KeepP B C) : KeepP A C := fun i cs q => k i cs (h i cs q)
theorem KeepP.of_below {W W' : World} (h : Below W.heap.size W W') : KeepP W W' := fun _ _ q => keepB q h
/-- what a search asks for, and what it does with what it finds. -/
structure SeaOk {σ : Type} (W0 : World) (p b : Nat) (K : List En) (d : Dr) (gE gT : Nat) (cE cT : Array Value) (en : σ → Co → Bool) (tk : σ → Nat → σ) (Inv : σ → World → Prop) (siz : σ → Nat) : Prop where
  szk : ∀ x i, siz (tk x i) ≤ siz x + 1
  egE : ∀ args w, (callFunc gE args).run Tryz.prog w = .ok (.enter gE args) w
  egT : ∀ args w, (callFunc gT args).run Tryz.prog w = .ok (.enter gT args) w
  stab : ∀ {x : σ} {W W' : World}, Inv x W → Oth (· = b) W W' → Inv x W'
  enough : ∀ {x : σ} {W : World} (c : Co), Inv x W → c.Gd → Below W0.heap.size W0 W → Calls Tryz.prog gE (#[coV c] ++ cE) W fun r w' => r = .returned (.bool (en x c)) ∧ Below W.heap.size W w'
  take : ∀ {x : σ} {W : World} {lk : Int} (i : Nat), Inv x W → siz x < 8000000000000 → i < K.length → en x (coTo d (K.getD i en0).d) = true → Below W0.heap.size W0 W → SB W b p d (.func (.func gE) #[] cE) (.func (.func gT) #[] cT) lk → Calls Tryz.prog gT (#[.int .i64 (i : Nat), coV (coTo d (K.getD i en0).d)] ++ cT) W fun r w' => r = .returned (.tuple #[]) ∧ Inv (tk x i) w' ∧ Below W0.heap.size W0 w' ∧ SB w' b p d (.func (.func gE) #[] cE) (.func (.func gT) #[] cT) lk ∧ KeepP W w'
def stp {σ : Type} (K : List En) (d : Dr) (en : σ → Co → Bool) (tk : σ → Nat → σ) (x : σ) (z : Int) : σ := if en x (coTo d (K.getD z.toNat en0).d) then tk x z.toNat else x
theorem fold_siz {σ : Type} {K : List En} {d : Dr} {en : σ → Co → Bool} {tk : σ → Nat → σ} {siz : σ → Nat} (h : ∀ x i, siz (tk x i) ≤ siz x + 1) : ∀ (V : List Int) (x : σ), siz (V.foldl (stp K d en tk) x) ≤ siz x + V.length
  | [], _ => Nat.le_refl _
  | z :: V, x => by
    have h1 := fold_siz (K := K) (d := d) (en := en) h V (stp K d en tk x z)
    have h2 : siz (stp K d en tk x z) ≤ siz x + 1 := by
      unfold stp
      split
      · exact h x _
      · omega
    show siz (V.foldl (stp K d en tk) (stp K d en tk x z)) ≤ siz x + (V.length + 1)
    omega
/-- where a search stands. -/
structure SeaSt {σ : Type} (W0 : World) (p b : Nat) (d : Dr) (gE gT : Nat) (cE cT : Array Value) (Inv : σ → World → Prop) (Wb : World) (x : σ) (W : World) : Prop where
  inv : Inv x W
  low : Below W0.heap.size W0 W
  sb : ∃ lk : Int, SB W b p d (.func (.func gE) #[] cE) (.func (.func gT) #[] cT) lk
  kp : KeepP Wb W
theorem oth_of_below {b : Nat} {W W' : World} (h : Below W.heap.size W W') : Oth (· = b) W W' := ⟨h.os, h.tape, h.output, h.size, fun k hk _ => h.block k hk⟩
theorem SeaSt.bel {σ : Type} {W0 : World} {p b : Nat} {K : List En} {d : Dr} {gE gT : Nat} {cE cT : Array Value} {en : σ → Co → Bool} {tk : σ → Nat → σ} {Inv : σ → World → Prop} {siz : σ → Nat} (H : SeaOk W0 p b K d gE gT cE cT en tk Inv siz) {Wb : World} {x : σ} {W W' : World} (h : SeaSt W0 p b d gE gT cE cT Inv Wb x W) (k : Below W.heap.size W W') : SeaSt W0 p b d gE gT cE cT Inv Wb x W' := by
  obtain ⟨lk, hs⟩ := h.sb
  exact ⟨H.stab h.inv (oth_of_below k), h.low.trans (k.mono h.low.size), ⟨lk, keepB hs k⟩, h.kp.trans (KeepP.of_below k)⟩
/-- more was looked at. -/
theorem SeaSt.more {σ : Type} {W0 : World} {p b : Nat} {K : List En} {d : Dr} {gE gT : Nat} {cE cT : Array Value} {en : σ → Co → Bool} {tk : σ → Nat → σ} {Inv : σ → World → Prop} {siz : σ → Nat} (H : SeaOk W0 p b K d gE gT cE cT en tk Inv siz) {Wb : World} {x : σ} {W : World} (h : SeaSt W0 p b d gE gT cE cT Inv Wb x W) (hb : W0.heap.size ≤ b) (v : Int) : SeaSt W0 p b d gE gT cE cT Inv Wb x (W.setCell ⟨b, 6, none⟩ (.int .i64 v)) := by
  obtain ⟨lk, hs⟩ := h.sb
  have ho : ∀ k, k ≠ b → (W.setCell ⟨b, 6, none⟩ (.int .i64 v)).heap[k]? = W.heap[k]? := fun k hk => Below.heap_setCell _ _ _ _ hk
  refine ⟨H.stab h.inv ⟨rfl, rfl, rfl, by simp, fun k _ hk => ho k hk⟩, h.low.setCell (p := ⟨b, 6, none⟩) hb _, ⟨v, ?_⟩, fun k cs q => ?_⟩
  · exact heap_setCell_same _ _ _ _ _ _ hs
  · have q1 := h.kp k cs q
    have : k ≠ b := fun e => by
      subst e
      have := q1.symm.trans hs
      simp at this
    exact (ho k this).trans q1
def PtG (v : Value) : Prop := ∃ g : Nat, v = .pointer (some ⟨g, 0, none⟩)
def ZAt (N : Nat) (v : Value) (w : World) : Prop := ∀ g : Nat, v = .pointer (some ⟨g, 0, none⟩) → w.heap[g]? = some (.cells #[.int .i64 0, .int .u64 0, .int .u64 0, .int .i64 0] 76) ∧ N ≤ g
theorem zat_stb (N : Nat) (v : Value) : Stb (ZAt N v) := fun _ _ h k g e => ⟨keepB (h g e).1 k, (h g e).2⟩
theorem set4_bel {N : Nat} {w u : World} {g : Nat} (h : Below N w u) (hg : N ≤ g) (x y z t : Value) : Below N w ((((u.setCell ⟨g, 0, none⟩ x).setCell ⟨g, 1, none⟩ y).setCell ⟨g, 2, none⟩ z).setCell ⟨g, 3, none⟩ t) := set4_bl4 h hg x y z t
set_option maxRecDepth 1000000 in
set_option maxHeartbeats 6400000 in
theorem plook_any {σ : Type} {W0 : World} {p b : Nat} {lv : Int} {K : List En} {ad : Option Addr} {cap bn bc : Nat} {es : Array MapEntry} {clock : Nat} {sn : Int} (h : RO W0 p lv K ad cap bn bc es clock sn) {d : Dr} (hd : dirB d = true) {gE gT : Nat} {cE cT : Array Value} {en : σ → Co → Bool} {tk : σ → Nat → σ} {Inv : σ → World → Prop} {siz : σ → Nat} (H : SeaOk W0 p b K d gE gT cE cT en tk Inv siz) (hb : W0.heap.size ≤ b) (_hKl : K.length ≤ 4000)
    {zs : List Int} (hz : ∀ k, k < zs.length → 0 ≤ zs.getD k 0 ∧ zs.getD k 0 < (K.length : Int)) {adz : Option Addr} {capz : Nat} (hzk : ∀ k, k < zs.length → ∃ bz, adz = some ⟨bz, 0, none⟩ ∧ bz < W0.heap.size ∧ W0.cell? ⟨bz, k, none⟩ = some (.int .i64 (zs.getD k 0))) (hzl : zs.length ≤ 4000) {x : σ} (hsz : siz x + zs.length ≤ 8000000000000) {W Wb : World} (hS : SeaSt W0 p b d gE gT cE cT Inv Wb x W) :
    Calls Tryz.prog 80 #[.pointer (some ⟨b, 0, none⟩), .slice adz zs.length capz] W fun r w' => r = .returned (.tuple #[]) ∧ SeaSt W0 p b d gE gT cE cT Inv Wb (zs.foldl (stp K d en tk) x) w' := by
  have HR := hideR h
  have HH := hideR H
  have HD := hideR hd
  have HZ := hideR hz
  have HZk := hideR hzk
  have egE := H.egE
  have egT := H.egT
  have Hsz := hideR hsz
  clear hsz
  obtain ⟨lk, hsb⟩ := hS.sb
  have S0 := SeaSt.more H hS hb (wrap64 (lk + (zs.length : Int)))
  have HS0 : HeldR (SeaSt W0 p b d gE gT cE cT Inv Wb ((zs.take 0).foldl (stp K d en tk) x) (W.setCell ⟨b, 6, none⟩ (.int .i64 (wrap64 (lk + (zs.length : Int)))))) := hideR S0
  have HF : HeldR ((zs.take zs.length).foldl (stp K d en tk) x = zs.foldl (stp K d en tk) x) := hideR (by rw [List.take_length])
  obtain ⟨m, hm⟩ : ∃ m, zs.length = m := ⟨_, rfl⟩
  have Hm := hideR hm
  obtain ⟨n, hn⟩ : ∃ n, K.length = n := ⟨_, rfl⟩
  have Hn := hideR hn
  rw [hm] at hzl HS0 HF ⊢

  generalize zs.foldl (stp K d en tk) x = xf at *
  have a0 := (cells_at hsb 6 (by simp)).1
  have a1 := (cells_at hsb 6 (by simp)).2
  clear S0 hS hsb h H hz hzk hm hn hd
  go_enter Tryz.func80, Tryz.ntmps80
  go_wp2_with fail
  clear a0 a1
  generalize W.setCell ⟨b, 6, none⟩ (.int .i64 (wrap64 (lk + (m : Int)))) = W1 at *
  go_loopw [18] (fun iv wl => ∃ k : Nat, k ≤ m ∧ iv = .int .i64 (k : Nat) ∧ HeldR (SeaSt W0 p b d gE gT cE cT Inv Wb ((zs.take k).foldl (stp K d en tk) x) wl)) (fun iv _ => m + 1 - (intOf iv).toNat)
  case atStart => exact ⟨0, by omega, rfl, HS0⟩
  case round =>
    clear HS0
    obtain ⟨k, hk, rfl, HS⟩ := hrel
    by_cases q : k < m
    case neg =>
      obtain rfl : k = m := by omega
      have ti : decide ((k : Int) < (k : Int)) = false := decide_eq_false (by omega)
      have tin : decide (k < k) = false := decide_eq_false (by omega)
      rw [unhideR HF] at HS
      go_wp2
      go_end0
      exact ⟨rfl, unhideR HS⟩
    have ti : decide ((k : Int) < (m : Int)) = true := decide_eq_true (by omega)
    have tin : decide (k < m) = true := decide_eq_true q
    have wi : IntKind.i64.wrap ((k : Int) + 1) = (k : Int) + 1 := iwrap (by omega) (by omega)
    have hkm : (k : Int) < (m : Int) := by omega
    have hkl : k < zs.length := by rw [unhideR Hm]; exact q
    obtain ⟨bz, had, hbz, hce⟩ := unhideR HZk k hkl
    subst had
    have hzk := unhideR HZ k hkl
    have htk : zs.take (k + 1) = zs.take k ++ [zs.getD k 0] := by
      rw [List.getD_eq_getElem?_getD, List.getElem?_eq_getElem hkl]
      exact (List.take_append_getElem hkl).symm
    have hfo : (zs.take (k + 1)).foldl (stp K d en tk) x = stp K d en tk ((zs.take k).foldl (stp K d en tk) x) (zs.getD k 0) := by rw [htk, List.foldl_append]; rfl
    have hce2 := (World.cell?_of_block (a := ⟨bz, k, none⟩) ((unhideR HS).low.block bz hbz)).trans hce
    obtain ⟨i, hi⟩ : ∃ i : Nat, zs.getD k 0 = i := ⟨(zs.getD k 0).toNat, by omega⟩
    rw [hi] at hfo hce2 hzk
    have hst : ∀ y0 : σ, stp K d en tk y0 (i : Int) = if en y0 (coTo d (K.getD i en0).d) = true then tk y0 i else y0 := fun y0 => by
      unfold stp
      rw [Int.toNat_natCast]
    rw [hst] at hfo
    have hiK : i < K.length := by omega
    obtain ⟨b2, had2, hbl2, hSt⟩ := (unhideR HR).st i hiK
    subst had2
    have hin : (i : Int) < (n : Int) := by have := unhideR Hn; omega
    have hed : dirB (K.getD i en0).d = true := (unhideR HR).dir _ (by
      rw [List.getD_eq_getElem?_getD, List.getElem?_eq_getElem hiK]
      exact List.getElem_mem hiK)
    have hcos := fun u => pcosTo_any d (K.getD i en0).d (unhideR HD) hed u
    have hgd := coTo_gd (unhideR HD) hed
    obtain ⟨lk2, hsb⟩ := (unhideR HS).sb
    have hp2 := ((unhideR HS).low.block p (ltB (unhideR HR).hp)).trans (unhideR HR).hp
    rw [unhideR Hn] at hp2
    have HY : HeldR (∀ v, Below wr.heap.size wr v → v.heap[b]? = some (.cells #[.pointer (some ⟨p, 0, none⟩), .int .i64 d.x, .int .i64 d.y, .int .i64 d.z, .func (.func gE) #[] cE, .func (.func gT) #[] cT, .int .i64 lk2] 111) ∧ v.heap[p]? = some (.cells #[.int .i64 lv, .slice (some ⟨b2, 0, none⟩) n cap, .map (some bn), .map (some bc), .int .i64 sn] 82) ∧ v.cell? ⟨b2, i * 4 + 1, none⟩ = some (.int .i64 (K.getD i en0).d.x) ∧ v.cell? ⟨b2, i * 4 + 2, none⟩ = some (.int .i64 (K.getD i en0).d.y) ∧ v.cell? ⟨b2, i * 4 + 3, none⟩ = some (.int .i64 (K.getD i en0).d.z)) := hideR (fun v hv => by
      have bb := ((unhideR HS).low.trans (hv.mono (unhideR HS).low.size)).block b2 hbl2
      exact ⟨keepB hsb hv, keepB hp2 hv, (World.cell?_of_block (a := ⟨b2, i * 4 + 1, none⟩) bb).trans hSt.c1, (World.cell?_of_block (a := ⟨b2, i * 4 + 2, none⟩) bb).trans hSt.c2, (World.cell?_of_block (a := ⟨b2, i * 4 + 3, none⟩) bb).trans hSt.c3⟩)
    have HGo : HeldR (∀ v, Below wr.heap.size wr v → SeaSt W0 p b d gE gT cE cT Inv Wb ((zs.take k).foldl (stp K d en tk) x) v) := hideR (fun v hv => (unhideR HS).bel (unhideR HH) hv)
    have hsy : siz ((zs.take k).foldl (stp K d en tk) x) < 8000000000000 := by
      have h1 := fold_siz (K := K) (d := d) (en := en) (unhideR HH).szk (zs.take k) x
      have h2 : (zs.take k).length = k := by rw [List.length_take]; omega
      have := unhideR Hsz
      omega
    generalize (zs.take k).foldl (stp K d en tk) x = y at *
    have HFo := hideR hfo
    have hen := fun {W : World} (hI : Inv y W) hl => (unhideR HH).enough (x := y) (W := W) (coTo d (K.getD i en0).d) hI hgd hl
    have hta := fun {W : World} {lk : Int} (hI : Inv y W) he hl hs => (unhideR HH).take (x := y) (W := W) (lk := lk) i hI hsy hiK he hl hs
    generalize hcc : coTo d (K.getD i en0).d = c at *
    generalize (K.getD i en0).d = e at *
    clear hce hzk htk hfo hst hiK hsy hSt hed hgd hsb hp2 HS hkl hi hcc
    simp only [coV_is] at hcos hen hta
    unfold Dr.val at hcos
    obtain ⟨Z, hZ⟩ : ∃ Z, wr.heap.size = Z := ⟨_, rfl⟩
    have HZz := hideR hZ
    go_upto_region 4 with fail
    clear hce2 hZ
    refine wp_region_made 0 #[true, true, true, true, true, true, true, true, true, true, true, true, true, true, true, true, true, false] [.lets (· = .pointer (some ⟨b, 0, none⟩)),
      .lets (· = .pointer (some ⟨b, 0, none⟩)),
      .lets (· = .pointer (some ⟨b, 1, none⟩)),
      .lets (· = .agg #[.int .i64 d.x, .int .i64 d.y, .int .i64 d.z]),
      .lets (· = .pointer (some ⟨b, 0, none⟩)),
      .lets (· = .pointer (some ⟨b, 0, none⟩)),
      .lets (· = .pointer (some ⟨b, 0, none⟩)),
      .lets (· = .pointer (some ⟨p, 0, none⟩)),
      .lets (· = .pointer (some ⟨p, 0, none⟩)),
      .lets (· = .pointer (some ⟨p, 1, none⟩)),
      .lets (· = .slice (some ⟨b2, 0, none⟩) n cap),
      .lets (· = .int .i64 (i : Nat)),
      .lets (· = .pointer (some ⟨b2, i * 4, none⟩)),
      .lets (· = .pointer (some ⟨b2, i * 4 + 1, none⟩)),
      .lets (· = .agg #[.int .i64 e.x, .int .i64 e.y, .int .i64 e.z]),
      .lets (· = .agg #[.int .i64 c.sg, .int .u64 (ohV c), .int .u64 (olV c), .int .i64 c.un]),
      .made PtG (ZAt Z)] [16] [] (by kernel_rfl) (by kernel_rfl) rfl ?kinds (by kernel_rfl) (by kernel_rfl) (by kernel_rfl) ?_
    case kinds =>
      constructor
      · intro i h
        rcases i with _ | _ | _ | _ | _ | _ | _ | _ | _ | _ | _ | _ | _ | _ | _ | _ | _ | i <;> simp [Kx.isMade] at h ⊢
      · intro i h
        rcases i with _ | _ | _ | _ | _ | _ | _ | _ | _ | _ | _ | _ | _ | _ | _ | _ | _ | i <;> simp [Kx.isUse] at h
    refine lexX_step (fun K hK => ⟨by kernel_rfl, ⟨_, rfl⟩, fun v hv => ?_, fun v hv => ?_⟩)
    · go_simp
      exact mUpon_b
    subst hv
    go_simp
    refine hK _ ?_
    clear hK K
    refine lexX_step (fun K hK => ⟨by kernel_rfl, ⟨_, rfl⟩, fun v hv => ?_, fun v hv => ?_⟩)
    · go_simp
      exact mUpon_b
    subst hv
    go_simp
    refine hK _ ?_
    clear hK K
    refine lexX_step (fun K hK => ⟨by kernel_rfl, ⟨_, rfl⟩, fun v hv => ?_, fun v hv => ?_⟩)
    · go_simp
      exact mUpon_b
    subst hv
    go_simp
    refine hK _ ?_
    clear hK K
    refine lexX_step (fun K hK => ⟨by kernel_rfl, ⟨_, rfl⟩, fun v hv => ?_, fun v hv => ?_⟩)
    · have y9 := (unhideR HY v hv).1
      have y0 := (cells_at y9 1 (by simp)).1
      have y1 := (cells_at y9 2 (by simp)).1
      have y2 := (cells_at y9 3 (by simp)).1
      go_simp
      exact mUpon_b
    subst hv
    go_simp
    refine hK _ ?_
    clear hK K
    refine lexX_step (fun K hK => ⟨by kernel_rfl, ⟨_, rfl⟩, fun v hv => ?_, fun v hv => ?_⟩)
    · go_simp
      exact mUpon_b
    subst hv
    go_simp
    refine hK _ ?_
    clear hK K
    refine lexX_step (fun K hK => ⟨by kernel_rfl, ⟨_, rfl⟩, fun v hv => ?_, fun v hv => ?_⟩)
    · go_simp
      exact mUpon_b
    subst hv
    go_simp
    refine hK _ ?_
    clear hK K
    refine lexX_step (fun K hK => ⟨by kernel_rfl, ⟨_, rfl⟩, fun v hv => ?_, fun v hv => ?_⟩)
    · go_simp
      exact mUpon_b
    subst hv
    go_simp
    refine hK _ ?_
    clear hK K
    refine lexX_step (fun K hK => ⟨by kernel_rfl, ⟨_, rfl⟩, fun v hv => ?_, fun v hv => ?_⟩)
    · have y9 := (unhideR HY v hv).1
      have y0 := (cells_at y9 0 (by simp)).1
      go_simp
      exact mUpon_b
    subst hv
    go_simp
    refine hK _ ?_
    clear hK K
    refine lexX_step (fun K hK => ⟨by kernel_rfl, ⟨_, rfl⟩, fun v hv => ?_, fun v hv => ?_⟩)
    · go_simp
      exact mUpon_b
    subst hv
    go_simp
    refine hK _ ?_
    clear hK K
    refine lexX_step (fun K hK => ⟨by kernel_rfl, ⟨_, rfl⟩, fun v hv => ?_, fun v hv => ?_⟩)
    · go_simp
      exact mUpon_b
    subst hv
    go_simp
    refine hK _ ?_
    clear hK K
    refine lexX_step (fun K hK => ⟨by kernel_rfl, ⟨_, rfl⟩, fun v hv => ?_, fun v hv => ?_⟩)
    · have y9 := (unhideR HY v hv).2.1
      have y0 := (cells_at y9 1 (by simp)).1
      go_simp
      exact mUpon_b
    subst hv
    go_simp
    refine hK _ ?_
    clear hK K
    refine lexX_step (fun K hK => ⟨by kernel_rfl, ⟨_, rfl⟩, fun v hv => ?_, fun v hv => ?_⟩)
    · go_simp
      exact mUpon_b
    subst hv
    go_simp
    refine hK _ ?_
    clear hK K
    refine lexX_step (fun K hK => ⟨by kernel_rfl, ⟨_, rfl⟩, fun v hv => ?_, fun v hv => ?_⟩)
    · go_simp
      exact mUpon_b
    subst hv
    go_simp
    refine hK _ ?_
    clear hK K
    refine lexX_step (fun K hK => ⟨by kernel_rfl, ⟨_, rfl⟩, fun v hv => ?_, fun v hv => ?_⟩)
    · go_simp
      exact mUpon_b
    subst hv
    go_simp
    refine hK _ ?_
    clear hK K
    refine lexX_step (fun K hK => ⟨by kernel_rfl, ⟨_, rfl⟩, fun v hv => ?_, fun v hv => ?_⟩)
    · obtain ⟨_, _, y0, y1, y2⟩ := unhideR HY v hv
      go_simp
      exact mUpon_b
    subst hv
    go_simp
    refine hK _ ?_
    clear hK K
    refine lexX_step (fun K hK => ⟨by kernel_rfl, ⟨_, rfl⟩, fun v hv => ?_, fun v hv => ?_⟩)
    · go_simp
      refine (hcos v).mono ?_
      rintro e w9 ⟨rfl, k⟩
      exact ⟨_, rfl, rfl, k⟩
    subst hv
    go_simp
    refine hK _ ?_
    clear hK K
    refine lexX_made ⟨by kernel_rfl, ⟨_, 0, rfl⟩, zat_stb _, fun v hv => ?_, ?_⟩
    · go_simp
      exact ⟨below_a v _, ⟨_, rfl⟩, fun q' hq' => by cases hq'; exact ⟨alloc_last v _, by have := hv.size; rw [unhideR HZz] at this; exact this⟩⟩
    rintro _ ⟨u9, rfl⟩ K9 hK
    go_simp
    refine hK _ ?_
    clear hK K9
    refine lexX_end (fun v5 hv => ?_)
    obtain ⟨z9, n9⟩ := hv.fact.2 _ rfl
    have HV := hideR hv.low
    clear hv hcos
    have HV6 := hideR (set4_bl4 (unhideR HV) (show wr.heap.size ≤ u9 by rw [unhideR HZz]; exact n9) (.int .i64 c.sg) (.int .u64 (ohV c)) (.int .u64 (olV c)) (.int .i64 c.un))
    have HC6 := hideR (set4_at4 z9 (.int .i64 c.sg) (.int .u64 (ohV c)) (.int .u64 (olV c)) (.int .i64 c.un))
    have d0 := (cells_at z9 0 (by simp)).1
    have f0 := (cells_at z9 0 (by simp)).2
    have d1 := (cells_at z9 1 (by simp)).1
    have f1 := (cells_at z9 1 (by simp)).2
    have d2 := (cells_at z9 2 (by simp)).1
    have f2 := (cells_at z9 2 (by simp)).2
    have d3 := (cells_at z9 3 (by simp)).1
    have f3 := (cells_at z9 3 (by simp)).2
    refine wpAny_step (i := 17) (by kernel_rfl) rfl (by kernel_rfl) (fun K hK => ?_)
    unfold Oper.wp
    go_simp
    refine hK _ _ ?_
    clear hK K
    refine wpAny_end (by kernel_rfl) ?_
    clear d0 d1 d2 d3 f0 f1 f2 f3 z9 HV
    generalize (((v5.setCell ⟨u9, 0, none⟩ (.int .i64 c.sg)).setCell ⟨u9, 1, none⟩ (.int .u64 (ohV c))).setCell ⟨u9, 2, none⟩ (.int .u64 (olV c))).setCell ⟨u9, 3, none⟩ (.int .i64 c.un) = u1 at *
    have HY1 : HeldR (∀ v, Below u1.heap.size u1 v → v.heap[b]? = some (.cells #[.pointer (some ⟨p, 0, none⟩), .int .i64 d.x, .int .i64 d.y, .int .i64 d.z, .func (.func gE) #[] cE, .func (.func gT) #[] cT, .int .i64 lk2] 111) ∧ v.heap[u9]? = some (.cells #[.int .i64 c.sg, .int .u64 (ohV c), .int .u64 (olV c), .int .i64 c.un] 76)) := hideR (fun v hv => ⟨(unhideR HY v ((unhideR HV6).trans (hv.mono (unhideR HV6).size))).1, keepB (unhideR HC6) hv⟩)
    have HG1 : HeldR (∀ v, Below u1.heap.size u1 v → SeaSt W0 p b d gE gT cE cT Inv Wb y v) := hideR (fun v hv => unhideR HGo v ((unhideR HV6).trans (hv.mono (unhideR HV6).size)))
    clear HY HGo HV6 HC6 v5
    go_upto_region 5 with fail
    refine wp_region_made 0 #[true, true, true, true, true, false] [.lets (· = .pointer (some ⟨b, 0, none⟩)),
      .lets (· = .pointer (some ⟨b, 0, none⟩)),
      .lets (· = .pointer (some ⟨b, 4, none⟩)),
      .lets (· = .func (.func gE) #[] cE),
      .lets (· = .agg #[.int .i64 c.sg, .int .u64 (ohV c), .int .u64 (olV c), .int .i64 c.un])] [] [] (by kernel_rfl) (by kernel_rfl) rfl ?kinds (by kernel_rfl) (by kernel_rfl) (by kernel_rfl) ?_
    case kinds =>
      constructor
      · intro i h
        rcases i with _ | _ | _ | _ | _ | i <;> simp [Kx.isMade] at h
      · intro i h
        rcases i with _ | _ | _ | _ | _ | i <;> simp [Kx.isUse] at h
    refine lexX_step (fun K hK => ⟨by kernel_rfl, ⟨_, rfl⟩, fun v hv => ?_, fun v hv => ?_⟩)
    · go_simp
      exact mUpon_b
    subst hv
    go_simp
    refine hK _ ?_
    clear hK K
    refine lexX_step (fun K hK => ⟨by kernel_rfl, ⟨_, rfl⟩, fun v hv => ?_, fun v hv => ?_⟩)
    · go_simp
      exact mUpon_b
    subst hv
    go_simp
    refine hK _ ?_
    clear hK K
    refine lexX_step (fun K hK => ⟨by kernel_rfl, ⟨_, rfl⟩, fun v hv => ?_, fun v hv => ?_⟩)
    · go_simp
      exact mUpon_b
    subst hv
    go_simp
    refine hK _ ?_
    clear hK K
    refine lexX_step (fun K hK => ⟨by kernel_rfl, ⟨_, rfl⟩, fun v hv => ?_, fun v hv => ?_⟩)
    · have y9 := (unhideR HY1 v hv).1
      have y0 := (cells_at y9 4 (by simp)).1
      go_simp
      exact mUpon_b
    subst hv
    go_simp
    refine hK _ ?_
    clear hK K
    refine lexX_step (fun K hK => ⟨by kernel_rfl, ⟨_, rfl⟩, fun v hv => ?_, fun v hv => ?_⟩)
    · have y9 := (unhideR HY1 v hv).2
      have y0 := (cells_at y9 0 (by simp)).1
      have y1 := (cells_at y9 1 (by simp)).1
      have y2 := (cells_at y9 2 (by simp)).1
      have y3 := (cells_at y9 3 (by simp)).1
      go_simp
      exact mUpon_b
    subst hv
    go_simp
    refine hK _ ?_
    clear hK K
    refine lexX_end (fun v5 hv => ?_)
    have HV := hideR hv.low
    have S5 := unhideR HG1 v5 hv.low
    have hc5 := hen S5.inv S5.low
    clear hv S5
    refine wpAny_step (i := 5) (by kernel_rfl) rfl (by kernel_rfl) (fun K9 hK => ?_)
    unfold Oper.wp
    go_simp
    refine hc5.mono ?_
    rintro r v6 ⟨rfl, k6⟩
    go_simp
    refine hK _ _ ?_
    clear hK K9 hc5
    refine wpAny_end (by kernel_rfl) ?_
    have HV7 := hideR ((unhideR HV).trans (k6.mono (unhideR HV).size))
    clear HV k6
    cases he : en y c
    case false =>
      have HQ : HeldR (SeaSt W0 p b d gE gT cE cT Inv Wb ((zs.take (k + 1)).foldl (stp K d en tk) x) v6) := hideR (by
        rw [unhideR HFo, he, if_neg (by decide)]
        exact unhideR HG1 v6 (unhideR HV7))
      clear HY1 HG1 HV7 hen hta
      go_wp2
      exact ⟨⟨k + 1, by omega, by go_num, HQ⟩, by simp [intOf]; omega⟩
    have HY2 : HeldR (∀ v, Below v6.heap.size v6 v → v.heap[b]? = some (.cells #[.pointer (some ⟨p, 0, none⟩), .int .i64 d.x, .int .i64 d.y, .int .i64 d.z, .func (.func gE) #[] cE, .func (.func gT) #[] cT, .int .i64 lk2] 111) ∧ v.heap[u9]? = some (.cells #[.int .i64 c.sg, .int .u64 (ohV c), .int .u64 (olV c), .int .i64 c.un] 76)) := hideR (fun v hv => unhideR HY1 v ((unhideR HV7).trans (hv.mono (unhideR HV7).size)))
    have HG2 : HeldR (∀ v, Below v6.heap.size v6 v → SeaSt W0 p b d gE gT cE cT Inv Wb y v) := hideR (fun v hv => unhideR HG1 v ((unhideR HV7).trans (hv.mono (unhideR HV7).size)))
    have HE := hideR he
    clear HY1 HG1 HV7 hen he
    go_upto_region 6 with fail
    refine wp_region_made 0 #[true, true, true, true, true, true, false] [.lets (· = .pointer (some ⟨b, 0, none⟩)),
      .lets (· = .pointer (some ⟨b, 0, none⟩)),
      .lets (· = .pointer (some ⟨b, 5, none⟩)),
      .lets (· = .func (.func gT) #[] cT),
      .lets (· = .int .i64 (i : Nat)),
      .lets (· = .agg #[.int .i64 c.sg, .int .u64 (ohV c), .int .u64 (olV c), .int .i64 c.un])] [] [] (by kernel_rfl) (by kernel_rfl) rfl ?kinds (by kernel_rfl) (by kernel_rfl) (by kernel_rfl) ?_
    case kinds =>
      constructor
      · intro i h
        rcases i with _ | _ | _ | _ | _ | _ | i <;> simp [Kx.isMade] at h
      · intro i h
        rcases i with _ | _ | _ | _ | _ | _ | i <;> simp [Kx.isUse] at h
    refine lexX_step (fun K hK => ⟨by kernel_rfl, ⟨_, rfl⟩, fun v hv => ?_, fun v hv => ?_⟩)
    · go_simp
      exact mUpon_b
    subst hv
    go_simp
    refine hK _ ?_
    clear hK K
    refine lexX_step (fun K hK => ⟨by kernel_rfl, ⟨_, rfl⟩, fun v hv => ?_, fun v hv => ?_⟩)
    · go_simp
      exact mUpon_b
    subst hv
    go_simp
    refine hK _ ?_
    clear hK K
    refine lexX_step (fun K hK => ⟨by kernel_rfl, ⟨_, rfl⟩, fun v hv => ?_, fun v hv => ?_⟩)
    · go_simp
      exact mUpon_b
    subst hv
    go_simp
    refine hK _ ?_
    clear hK K
    refine lexX_step (fun K hK => ⟨by kernel_rfl, ⟨_, rfl⟩, fun v hv => ?_, fun v hv => ?_⟩)
    · have y9 := (unhideR HY2 v hv).1
      have y0 := (cells_at y9 5 (by simp)).1
      go_simp
      exact mUpon_b
    subst hv
    go_simp
    refine hK _ ?_
    clear hK K
    refine lexX_step (fun K hK => ⟨by kernel_rfl, ⟨_, rfl⟩, fun v hv => ?_, fun v hv => ?_⟩)
    · go_simp
      exact mUpon_b
    subst hv
    go_simp
    refine hK _ ?_
    clear hK K
    refine lexX_step (fun K hK => ⟨by kernel_rfl, ⟨_, rfl⟩, fun v hv => ?_, fun v hv => ?_⟩)
    · have y9 := (unhideR HY2 v hv).2
      have y0 := (cells_at y9 0 (by simp)).1
      have y1 := (cells_at y9 1 (by simp)).1
      have y2 := (cells_at y9 2 (by simp)).1
      have y3 := (cells_at y9 3 (by simp)).1
      go_simp
      exact mUpon_b
    subst hv
    go_simp
    refine hK _ ?_
    clear hK K
    refine lexX_end (fun v7 hv => ?_)
    have S7 := unhideR HG2 v7 hv.low
    have hc7 := hta S7.inv (unhideR HE) S7.low (unhideR HY2 v7 hv.low).1
    have HKp := hideR S7.kp
    clear hv S7 HG2 HY2 hta
    refine wpAny_step (i := 6) (by kernel_rfl) rfl (by kernel_rfl) (fun K9 hK => ?_)
    unfold Oper.wp
    go_simp
    refine hc7.mono ?_
    rintro r v8 ⟨rfl, i8, l8, s8, k8⟩
    have HQ : HeldR (SeaSt W0 p b d gE gT cE cT Inv Wb ((zs.take (k + 1)).foldl (stp K d en tk) x) v8) := hideR (by
      rw [unhideR HFo, unhideR HE, if_pos rfl]
      exact ⟨i8, l8, ⟨_, s8⟩, (unhideR HKp).trans k8⟩)
    clear i8 l8 s8 k8 HKp
    go_simp
    refine hK _ _ ?_
    clear hK K9 hc7
    refine wpAny_end (by kernel_rfl) ?_
    go_wp2
    exact ⟨⟨k + 1, by omega, by go_num, HQ⟩, by simp [intOf]; omega⟩
end Go.Proofs.YtfonpobdnhifgamGreatDoor
