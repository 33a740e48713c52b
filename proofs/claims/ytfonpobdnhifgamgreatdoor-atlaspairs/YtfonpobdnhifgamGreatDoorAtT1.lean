/-
  Through the cells: the program's, by contract.
-/
import Derived.Test.YtfonpobdnhifgamGreatDoorAtSC
namespace Go.Proofs.YtfonpobdnhifgamGreatDoor
open Go Go.RowKit

def ThPost {σ : Type} (W0 : World) (p b : Nat) (lv : Int) (K : List En) (d : Dr) (gE gT : Nat) (cE cT : Array Value) (en : σ → Co → Bool) (tk : σ → Nat → σ) (Inv : σ → World → Prop) (siz : σ → Nat) (t : Nat) (Wb : World) (C : List Sq) (x : σ) (r : Ending) (w' : World) : Prop := r = .returned (.tuple #[]) ∧ ∃ y, SeaSt W0 p b d gE gT cE cT Inv Wb y w' ∧ Cv lv K d en tk C x y ∧ siz y ≤ siz x + t
theorem SeaSt.base {σ : Type} {W0 : World} {p b : Nat} {d : Dr} {gE gT : Nat} {cE cT : Array Value} {Inv : σ → World → Prop} {Wb W1 : World} {x : σ} {W : World} (h : SeaSt W0 p b d gE gT cE cT Inv W1 x W) (k : KeepP Wb W1) : SeaSt W0 p b d gE gT cE cT Inv Wb x W := ⟨h.inv, h.low, h.sb, k.trans h.kp⟩
theorem prow_at {w : World} {B : Nat} {v : Value} {M : List Pt} (h : PRow w B v M) : ∃ ad cap, v = .slice ad M.length cap ∧ ∀ wl, KeepP w wl → ∀ k, k < M.length → ∃ g, ad = some ⟨g, 0, none⟩ ∧ ∀ i u, (valPt (M.getD k pt0))[i]? = some u → wl.cell? ⟨g, k * 8 + i, none⟩ = some u := by
  rcases h.2 with ⟨e, h0⟩ | ⟨g, cap, cur, e, hB, hh, hn, hc, hsz, ht⟩
  · exact ⟨none, 0, by rw [e, h0], fun _ _ k hk => absurd hk (by omega)⟩
  · refine ⟨some ⟨g, 0, none⟩, cap, e, fun wl hk k hkl => ⟨g, rfl, fun i u hu => ?_⟩⟩
    have hi : i < 8 := (List.getElem?_eq_some_iff.1 hu).1
    have h1 := flatP_at M [] k i hkl hi
    rw [List.append_nil] at h1
    have hlt : k * 8 + i < M.length * 8 := by omega
    rw [← ht, List.getElem?_take, if_pos hlt, Array.getElem?_toList] at h1
    have h2 := hk g cur hh
    simp only [World.cell?, h2, Option.isSome_none, Bool.false_eq_true, if_false]
    rw [h1]
    exact hu
theorem take_map {M : List Pt} {k : Nat} (hk : k < M.length) : (M.take (k + 1)).map (·.s) = (M.take k).map (·.s) ++ [(M.getD k pt0).s] := by
  have e : M.take (k + 1) = M.take k ++ [M.getD k pt0] := by
    rw [List.getD_eq_getElem?_getD, List.getElem?_eq_getElem hk]
    exact (List.take_append_getElem hk).symm
  rw [e, List.map_append]
  rfl
/-- what is asked of a call deeper down. -/
def Deeper {σ : Type} (W0 : World) (p b : Nat) (lv : Int) (K : List En) (d : Dr) (gE gT : Nat) (cE cT : Array Value) (en : σ → Co → Bool) (tk : σ → Nat → σ) (Inv : σ → World → Prop) (siz : σ → Nat) (t : Nat) (n : Nat) : Prop := ∀ (s : Sq) (y : σ) (Wx Wy : World) (bq capq : Nat), SqV s n → (n : Int) < lv → SeaSt W0 p b d gE gT cE cT Inv Wx y Wy → siz y + t ≤ 8000000000000 → bq < Wy.heap.size → (∀ k, k < (prtV s).length → QAt Wy bq (k * 4) ((prtV s).getD k sq0)) → Calls Tryz.prog 57 #[.pointer (some ⟨b, 0, none⟩), .slice (some ⟨bq, 0, none⟩) 4 capq] Wy (ThPost W0 p b lv K d gE gT cE cT en tk Inv siz t Wx (prtV s) y)
set_option maxRecDepth 1000000 in
set_option maxHeartbeats 6400000 in
theorem pthru_step {σ : Type} {W0 : World} {p b : Nat} {lv : Int} {K : List En} {ad : Option Addr} {cap bn bc : Nat} {es : Array MapEntry} {clock : Nat} {sn : Int} (h : RO W0 p lv K ad cap bn bc es clock sn) {d : Dr} (hd : dirB d = true) {gE gT : Nat} {cE cT : Array Value} {en : σ → Co → Bool} {tk : σ → Nat → σ} {Inv : σ → World → Prop} {siz : σ → Nat} (H : SeaOk W0 p b K d gE gT cE cT en tk Inv siz) (HM : SeaMo K d en tk) (hb : W0.heap.size ≤ b) (hKl : K.length ≤ 200) {n : Nat} (hn : (n : Int) ≤ lv)
    {t : Nat} (ht : 200 ≤ t) (hrec : Deeper W0 p b lv K d gE gT cE cT en tk Inv siz t n) {bq capq : Nat} {C : List Sq} (hC : ∀ s ∈ C, SqV s n) (hCn : C.Nodup) (hCl : C.length ≤ 6) {W Wb : World} {x : σ} (hbq : bq < W.heap.size) (hq : ∀ k, k < C.length → QAt W bq (k * 4) (C.getD k sq0)) (hS : SeaSt W0 p b d gE gT cE cT Inv Wb x W) (hsz : siz x + 6 * t ≤ 8000000000000) :
    Calls Tryz.prog 57 #[.pointer (some ⟨b, 0, none⟩), .slice (some ⟨bq, 0, none⟩) C.length capq] W (ThPost W0 p b lv K d gE gT cE cT en tk Inv siz (6 * t) Wb C x) := by
  have HR := hideR h
  have HH := hideR H
  have HMo := hideR HM
  have HD := hideR hd
  have Hrec := hideR hrec
  have HC := hideR hC
  have egE := H.egE
  obtain ⟨lk, hsb⟩ := hS.sb
  have hnf := pfirst_any (capq := capq) h hS.low hd hsb hC hCl hbq hq
  have HS := hideR hS
  have HP : HeldR (∀ y w', SeaSt W0 p b d gE gT cE cT Inv Wb y w' → Cv lv K d en tk C x y → siz y ≤ siz x + 6 * t → ThPost W0 p b lv K d gE gT cE cT en tk Inv siz (6 * t) Wb C x (.returned (.tuple #[])) w') := hideR (fun y w' h1 h2 h3 => ⟨rfl, y, h1, h2, h3⟩)
  generalize ThPost W0 p b lv K d gE gT cE cT en tk Inv siz (6 * t) Wb C x = TP at *
  have Hsz := hideR hsz
  clear hsz
  obtain ⟨nK, hnK⟩ : ∃ m, K.length = m := ⟨_, rfl⟩
  have HnK := hideR hnK
  clear hS hsb h H HM hd hrec hq hC hnK
  go_enter Tryz.func57, Tryz.ntmps57
  go_wp2_with fail
  refine hnf.mono ?_
  rintro r W1 ⟨⟨v, M, rfl, hrow, hdn, hpm, hcap⟩, hb1⟩
  clear hnf
  have S1 : SeaSt W0 p b d gE gT cE cT Inv Wb x W1 := ((unhideR HS).bel (unhideR HH) hb1)
  have HK1 := hideR S1.kp
  have HS1 : HeldR (SeaSt W0 p b d gE gT cE cT Inv W1 x W1 ∧ Cv lv K d en tk ((M.take 0).map (·.s)) x x ∧ siz x ≤ siz x + 0 * t) := hideR ⟨⟨S1.inv, S1.low, S1.sb, KeepP.refl W1⟩, Cv.nil x, by omega⟩
  obtain ⟨ad1, cap1, ev, hat⟩ := prow_at hrow
  subst ev
  have Hat := hideR hat
  -- the parts' cells: apart, of the level
  have hmem : ∀ q ∈ M, q.s ∈ C ∧ hasB lv K q.s = true := fun q hq => by
    have := hpm.mem_iff.1 (List.mem_map_of_mem hq)
    exact List.mem_filter.1 this
  have hnd : (M.map (·.s)).Nodup := hpm.nodup_iff.2 (hCn.filter _)
  have HEnd : HeldR (∀ y w', SeaSt W0 p b d gE gT cE cT Inv W1 y w' → Cv lv K d en tk (M.map (·.s)) x y → siz y ≤ siz x + 6 * t → TP (.returned (.tuple #[])) w') := hideR (fun y w' h1 h2 h3 => unhideR HP y w' (h1.base (unhideR HK1)) (h2.same (fun s hs => by
      obtain ⟨q, hq, rfl⟩ := List.mem_map.1 hs
      exact (hmem q hq).1) (fun s hs => by
      cases hh : hasB lv K s
      · right
        have := of_decide_eq_false hh
        exact List.length_eq_zero_iff.1 (by omega)
      · left
        exact hpm.mem_iff.2 (List.mem_filter.2 ⟨hs, hh⟩))) h3)
  have HNo : HeldR (∀ k y w', k < M.length → SeaSt W0 p b d gE gT cE cT Inv W1 y w' → Cv lv K d en tk ((M.take k).map (·.s)) x y → siz y ≤ siz x + 6 * t → en y (M.getD k pt0).c = false → TP (.returned (.tuple #[])) w') := hideR (fun k y w' hk h1 h2 h3 he => by
    refine unhideR HEnd y w' h1 ?_ h3
    have e : M.map (·.s) = (M.take k).map (·.s) ++ (M.drop k).map (·.s) := by rw [← List.map_append, List.take_append_drop]
    rw [e]
    refine Cv.app (unhideR HMo) (unhideR HD) (unhideR HR).dir h2 (Cv.none ?_) ?_
    · intro s hs z hz
      obtain ⟨q, hq, rfl⟩ := List.mem_map.1 hs
      obtain ⟨j, hj, rfl⟩ := List.getElem_of_mem hq
      rw [List.length_drop] at hj
      rw [List.getElem_drop] at hz
      have hqm : M[k + j] ∈ M := List.getElem_mem _
      have hc := hcap _ hqm
      have hsv := unhideR HC _ (hmem _ hqm).1
      have hz2 := gof_in hz
      have hzd := getD_dir (unhideR HR).dir (show z.toNat < K.length by omega)
      have hle := hc.2 _ hzd (gof_cell hsv hz)
      cases hb : en y (coTo d (K.getD z.toNat en0).d)
      · rfl
      · have gz := coTo_gd (unhideR HD) hzd
        have h5 := (unhideR HMo).anti y _ _ gz hc.1 hle hb
        have gk : (cAt M k).Gd := by
          have : M.getD k pt0 ∈ M := by
            rw [List.getD_eq_getElem?_getD, List.getElem?_eq_getElem hk]
            exact List.getElem_mem hk
          exact (hcap _ this).1
        have e2 : M[k + j] = M.getD (k + j) pt0 := by rw [List.getD_eq_getElem?_getD, List.getElem?_eq_getElem (by omega)]; rfl
        rw [e2] at h5 hc
        have h6 : (cAt M (k + j)).le (cAt M k) := by
          rcases Nat.eq_zero_or_pos j with q0 | q0
          · rw [q0]; exact Co.le_refl _
          · exact hdn k (k + j) (by omega) (by omega)
        have h7 := (unhideR HMo).anti y _ _ hc.1 gk h6 h5
        rw [he] at h7
        cases h7
    · intro s hs t ht z hz1 hz2
      obtain ⟨q1, hq1, rfl⟩ := List.mem_map.1 hs
      obtain ⟨q2, hq2, rfl⟩ := List.mem_map.1 ht
      have m1 := unhideR HC _ (hmem _ (List.mem_of_mem_take hq1)).1
      have m2 := unhideR HC _ (hmem _ (List.mem_of_mem_drop hq2)).1
      refine gof_apart m1 m2 (fun e3 => ?_) hz1 hz2
      rw [e] at hnd
      rw [List.nodup_append] at hnd
      exact hnd.2.2 _ hs _ ht e3)
  have HGo : HeldR (∀ k y y', k < M.length → Cv lv K d en tk ((M.take k).map (·.s)) x y → Cv lv K d en tk [(M.getD k pt0).s] y y' → Cv lv K d en tk ((M.take (k + 1)).map (·.s)) x y') := hideR (fun k y y' hk h1 h2 => by
    rw [take_map hk]
    refine Cv.app (unhideR HMo) (unhideR HD) (unhideR HR).dir h1 h2 (fun s hs t ht z hz1 hz2 => ?_)
    rw [List.mem_singleton] at ht
    have hkm : M.getD k pt0 ∈ M := by
      rw [List.getD_eq_getElem?_getD, List.getElem?_eq_getElem hk]
      exact List.getElem_mem hk
    obtain ⟨q1, hq1, rfl⟩ := List.mem_map.1 hs
    have m1 := unhideR HC _ (hmem _ (List.mem_of_mem_take hq1)).1
    subst ht
    have m2 := unhideR HC _ (hmem _ hkm).1
    refine gof_apart m1 m2 (fun e3 => ?_) hz1 hz2
    have e : M.map (·.s) = (M.take (k + 1)).map (·.s) ++ (M.drop (k + 1)).map (·.s) := by rw [← List.map_append, List.take_append_drop]
    rw [e, take_map hk, List.nodup_append, List.nodup_append] at hnd
    exact hnd.1.2.2 _ hs _ (List.mem_singleton.2 rfl) e3)
  have HPt : HeldR (∀ k, k < M.length → Cap d (M.getD k pt0).s n (M.getD k pt0).c ∧ SqV (M.getD k pt0).s n) := hideR (fun k hk => by
    have hkm : M.getD k pt0 ∈ M := by
      rw [List.getD_eq_getElem?_getD, List.getElem?_eq_getElem hk]
      exact List.getElem_mem hk
    exact ⟨hcap _ hkm, unhideR HC _ (hmem _ hkm).1⟩)
  have HEn2 : HeldR (∀ y w', SeaSt W0 p b d gE gT cE cT Inv W1 y w' → Cv lv K d en tk ((M.take M.length).map (·.s)) x y → siz y ≤ siz x + 6 * t → TP (.returned (.tuple #[])) w') := hideR (fun y w' h1 h2 h3 => unhideR HEnd y w' h1 (by rwa [List.take_length] at h2) h3)
  have hMl : M.length ≤ 6 := by
    have h1 := hpm.length_eq
    rw [List.length_map] at h1
    have h2 := List.length_filter_le (hasB lv K) C
    omega
  obtain ⟨m, hm⟩ : ∃ m, M.length = m := ⟨_, rfl⟩
  have Hm := hideR hm
  rw [hm] at hMl HEn2 HNo HGo HPt Hat ⊢
  clear hrow hdn hpm hcap hb1 S1 hat hmem hnd HEnd HP HS HK1 hm
  go_wp2_with fail
  go_loopw [10] (fun iv wl => ∃ (k : Nat) (y : σ), k ≤ m ∧ iv = .int .i64 (k : Nat) ∧ HeldR (SeaSt W0 p b d gE gT cE cT Inv W1 y wl ∧ Cv lv K d en tk ((M.take k).map (·.s)) x y ∧ siz y ≤ siz x + k * t)) (fun iv _ => m + 1 - (intOf iv).toNat)
  case atStart => exact ⟨0, x, by omega, rfl, HS1⟩
  case round =>
    clear HS1
    obtain ⟨k, y, hk, rfl, HS⟩ := hrel
    have hkt : k * t ≤ 6 * t := Nat.mul_le_mul_right t (by omega)
    have hkt1 : (k + 1) * t = k * t + t := Nat.succ_mul k t
    have hsk := (unhideR HS).2.2
    have hsl := unhideR Hsz
    by_cases q : k < m
    case neg =>
      obtain rfl : k = m := by omega
      have ti : decide ((k : Int) < (k : Int)) = false := decide_eq_false (by omega)
      have tin : decide (k < k) = false := decide_eq_false (by omega)
      have HQ := hideR (unhideR HEn2 y wr (unhideR HS).1 (unhideR HS).2.1 (by omega))
      clear HS HNo HGo HEn2 hkt hkt1 hsk hsl
      go_wp2
      simp [bodyPost, results, Tryz.results57, go_sem]
      exact unhideR HQ
    have ti : decide ((k : Int) < (m : Int)) = true := decide_eq_true (by omega)
    have tin : decide (k < m) = true := decide_eq_true q
    have wi : IntKind.i64.wrap ((k : Int) + 1) = (k : Int) + 1 := iwrap (by omega) (by omega)
    have hkm : (k : Int) < (m : Int) := by omega
    obtain ⟨g, had, hce⟩ := unhideR Hat wr (unhideR HS).1.kp k q
    subst had
    obtain ⟨hcp, hsv⟩ := unhideR HPt k q
    have HNk : HeldR (∀ w', Below wr.heap.size wr w' → en y (M.getD k pt0).c = false → TP (.returned (.tuple #[])) w') := hideR (fun w' hw he => unhideR HNo k y w' q ((unhideR HS).1.bel (unhideR HH) hw) (unhideR HS).2.1 (by omega) he)
    have HGk : HeldR (∀ y' w', SeaSt W0 p b d gE gT cE cT Inv W1 y' w' → Cv lv K d en tk [(M.getD k pt0).s] y y' → siz y' ≤ siz y + t → SeaSt W0 p b d gE gT cE cT Inv W1 y' w' ∧ Cv lv K d en tk ((M.take (k + 1)).map (·.s)) x y' ∧ siz y' ≤ siz x + (k + 1) * t) := hideR (fun y' w' h1 h2 h3 => ⟨h1, unhideR HGo k y y' q (unhideR HS).2.1 h2, by omega⟩)
    have hky : siz y + t ≤ 8000000000000 := by
      have : (k + 1) * t ≤ 6 * t := Nat.mul_le_mul_right t (by omega)
      omega
    have HKy := hideR hky
    clear hkt hkt1 hsk hsl hky
    obtain ⟨adz, capz, hzk, hlk⟩ := (unhideR HR).cl _ hsv.ok
    generalize M.getD k pt0 = P at *
    obtain ⟨s, c⟩ := P
    simp only at hcp hsv HNk HGk hzk hlk
    have y0 := hce 0 _ rfl
    have y1 := hce 1 _ rfl
    have y2 := hce 2 _ rfl
    have y3 := hce 3 _ rfl
    have y4 := hce 4 _ rfl
    have y5 := hce 5 _ rfl
    have y6 := hce 6 _ rfl
    have y7 := hce 7 _ rfl
    rw [Nat.add_zero] at y0
    simp only at y0 y1 y2 y3 y4 y5 y6 y7
    clear hce
    go_upto_region 3 with fail
    clear y0 y1 y2 y3 y4 y5 y6 y7
    obtain ⟨lk2, hsb⟩ := (unhideR HS).1.sb
    have hp2 := ((unhideR HS).1.low.block p (ltB (unhideR HR).hp)).trans (unhideR HR).hp
    rw [unhideR HnK] at hp2
    have hb2 := ((unhideR HS).1.low.block bc (ltB (unhideR HR).hb)).trans (unhideR HR).hb
    have HB0 := hideR (below_a wr (.cells #[.int .i64 s.f, .int .i64 s.l, .int .i64 s.c, .int .i64 s.r, .int .i64 c.sg, .int .u64 (ohV c), .int .u64 (olV c), .int .i64 c.un] 139))
    have HY : HeldR (∀ v, Below (wr.alloc (.cells #[.int .i64 s.f, .int .i64 s.l, .int .i64 s.c, .int .i64 s.r, .int .i64 c.sg, .int .u64 (ohV c), .int .u64 (olV c), .int .i64 c.un] 139)).heap.size (wr.alloc (.cells #[.int .i64 s.f, .int .i64 s.l, .int .i64 s.c, .int .i64 s.r, .int .i64 c.sg, .int .u64 (ohV c), .int .u64 (olV c), .int .i64 c.un] 139)) v → v.heap[b]? = some (.cells #[.pointer (some ⟨p, 0, none⟩), .int .i64 d.x, .int .i64 d.y, .int .i64 d.z, .func (.func gE) #[] cE, .func (.func gT) #[] cT, .int .i64 lk2] 111) ∧ v.heap[p]? = some (.cells #[.int .i64 lv, .slice ad nK cap, .map (some bn), .map (some bc), .int .i64 sn] 82) ∧ v.heap[bc]? = some (.map es clock) ∧ v.heap[wr.heap.size]? = some (.cells #[.int .i64 s.f, .int .i64 s.l, .int .i64 s.c, .int .i64 s.r, .int .i64 c.sg, .int .u64 (ohV c), .int .u64 (olV c), .int .i64 c.un] 139)) := hideR (fun v hv => by
      have h0 := (unhideR HB0).trans (hv.mono (unhideR HB0).size)
      exact ⟨keepB hsb h0, keepB hp2 h0, keepB hb2 h0, keepB (alloc_last wr _) hv⟩)
    have HG : HeldR (∀ v, Below (wr.alloc (.cells #[.int .i64 s.f, .int .i64 s.l, .int .i64 s.c, .int .i64 s.r, .int .i64 c.sg, .int .u64 (ohV c), .int .u64 (olV c), .int .i64 c.un] 139)).heap.size (wr.alloc (.cells #[.int .i64 s.f, .int .i64 s.l, .int .i64 s.c, .int .i64 s.r, .int .i64 c.sg, .int .u64 (ohV c), .int .u64 (olV c), .int .i64 c.un] 139)) v → SeaSt W0 p b d gE gT cE cT Inv W1 y v) := hideR (fun v hv => (unhideR HS).1.bel (unhideR HH) ((unhideR HB0).trans (hv.mono (unhideR HB0).size)))
    have HNo2 : HeldR (∀ v, Below (wr.alloc (.cells #[.int .i64 s.f, .int .i64 s.l, .int .i64 s.c, .int .i64 s.r, .int .i64 c.sg, .int .u64 (ohV c), .int .u64 (olV c), .int .i64 c.un] 139)).heap.size (wr.alloc (.cells #[.int .i64 s.f, .int .i64 s.l, .int .i64 s.c, .int .i64 s.r, .int .i64 c.sg, .int .u64 (ohV c), .int .u64 (olV c), .int .i64 c.un] 139)) v → en y c = false → TP (.returned (.tuple #[])) v) := hideR (fun v hv he => unhideR HNk v ((unhideR HB0).trans (hv.mono (unhideR HB0).size)) he)
    clear hsb hp2 hb2 HB0 HS HNk HNo HGo
    generalize wr.alloc (.cells #[.int .i64 s.f, .int .i64 s.l, .int .i64 s.c, .int .i64 s.r, .int .i64 c.sg, .int .u64 (ohV c), .int .u64 (olV c), .int .i64 c.un] 139) = u1 at *
    generalize wr.heap.size = Z at *
    have hen := fun {W : World} (hI : Inv y W) hl => (unhideR HH).enough (x := y) (W := W) c hI hcp.1 hl
    simp only [coV_is] at hen
    refine wp_region_made 1 #[true, true, true, true, true, true, false, false] [.lets (· = .pointer (some ⟨b, 0, none⟩)),
      .lets (· = .pointer (some ⟨b, 0, none⟩)),
      .lets (· = .pointer (some ⟨b, 4, none⟩)),
      .lets (· = .func (.func gE) #[] cE),
      .lets (· = .pointer (some ⟨Z, 4, none⟩)),
      .lets (· = .agg #[.int .i64 c.sg, .int .u64 (ohV c), .int .u64 (olV c), .int .i64 c.un])] [] [] (by kernel_rfl) (by kernel_rfl) rfl ?kinds (by kernel_rfl) (by kernel_rfl) (by kernel_rfl) ?_
    case kinds =>
      constructor
      · intro i h
        rcases i with _ | _ | _ | _ | _ | _ | i <;> simp [Kx.isMade] at h
      · intro i h
        rcases i with _ | _ | _ | _ | _ | _ | i <;> simp [Kx.isUse] at h
    refine lexX_step (fun K hK => ⟨by kernel_rfl, ⟨_, rfl⟩, fun v hv => ?_, fun v hv => ?_⟩)
    · go_simp
      exact mUpon_b
    subst hv
    go_simp
    refine hK _ ?_
    clear hK K
    refine lexX_step (fun K hK => ⟨by kernel_rfl, ⟨_, rfl⟩, fun v hv => ?_, fun v hv => ?_⟩)
    · go_simp
      exact mUpon_b
    subst hv
    go_simp
    refine hK _ ?_
    clear hK K
    refine lexX_step (fun K hK => ⟨by kernel_rfl, ⟨_, rfl⟩, fun v hv => ?_, fun v hv => ?_⟩)
    · go_simp
      exact mUpon_b
    subst hv
    go_simp
    refine hK _ ?_
    clear hK K
    refine lexX_step (fun K hK => ⟨by kernel_rfl, ⟨_, rfl⟩, fun v hv => ?_, fun v hv => ?_⟩)
    · have y9 := (unhideR HY v hv).1
      have y0 := (cells_at y9 4 (by simp)).1
      go_simp
      exact mUpon_b
    subst hv
    go_simp
    refine hK _ ?_
    clear hK K
    refine lexX_step (fun K hK => ⟨by kernel_rfl, ⟨_, rfl⟩, fun v hv => ?_, fun v hv => ?_⟩)
    · go_simp
      exact mUpon_b
    subst hv
    go_simp
    refine hK _ ?_
    clear hK K
    refine lexX_step (fun K hK => ⟨by kernel_rfl, ⟨_, rfl⟩, fun v hv => ?_, fun v hv => ?_⟩)
    · have y9 := (unhideR HY v hv).2.2.2
      have y0 := (cells_at y9 4 (by simp)).1
      have y1 := (cells_at y9 5 (by simp)).1
      have y2 := (cells_at y9 6 (by simp)).1
      have y3 := (cells_at y9 7 (by simp)).1
      go_simp
      exact mUpon_b
    subst hv
    go_simp
    refine hK _ ?_
    clear hK K
    refine lexX_end (fun v5 hv => ?_)
    have HV := hideR hv.low
    have S5 := unhideR HG v5 hv.low
    have hc5 := hen S5.inv S5.low
    clear hv S5 hen
    refine wpAny_step (i := 6) (by kernel_rfl) rfl (by kernel_rfl) (fun K9 hK => ?_)
    unfold Oper.wp
    go_simp
    refine hc5.mono ?_
    rintro r v6 ⟨rfl, k6⟩
    go_simp
    refine hK _ _ ?_
    clear hK K9 hc5
    refine wpAny_step (i := 7) (by kernel_rfl) rfl (by kernel_rfl) (fun K hK => ?_)
    unfold Oper.wp
    go_simp
    refine hK _ _ ?_
    clear hK K
    refine wpAny_end (by kernel_rfl) ?_
    have HV7 := hideR ((unhideR HV).trans (k6.mono (unhideR HV).size))
    clear HV k6
    cases he : en y c
    case false =>
      have HQ := hideR (unhideR HNo2 v6 (unhideR HV7) he)
      clear HY HG HV7 HNo2 HGk
      go_wp2
      simp [bodyPost, results, Tryz.results57, go_sem]
      exact unhideR HQ
    have HY2 : HeldR (∀ v, Below v6.heap.size v6 v → v.heap[b]? = some (.cells #[.pointer (some ⟨p, 0, none⟩), .int .i64 d.x, .int .i64 d.y, .int .i64 d.z, .func (.func gE) #[] cE, .func (.func gT) #[] cT, .int .i64 lk2] 111) ∧ v.heap[p]? = some (.cells #[.int .i64 lv, .slice ad nK cap, .map (some bn), .map (some bc), .int .i64 sn] 82) ∧ v.heap[bc]? = some (.map es clock) ∧ v.heap[Z]? = some (.cells #[.int .i64 s.f, .int .i64 s.l, .int .i64 s.c, .int .i64 s.r, .int .i64 c.sg, .int .u64 (ohV c), .int .u64 (olV c), .int .i64 c.un] 139)) := hideR (fun v hv => unhideR HY v ((unhideR HV7).trans (hv.mono (unhideR HV7).size)))
    have HG2 : HeldR (∀ v, Below v6.heap.size v6 v → SeaSt W0 p b d gE gT cE cT Inv W1 y v) := hideR (fun v hv => unhideR HG v ((unhideR HV7).trans (hv.mono (unhideR HV7).size)))
    clear HY HG HV7 HNo2 he
    have hsml := fun {w : World} (hw : Below W0.heap.size W0 w) => psmall_any (unhideR HR) hw s hsv.ok
    unfold Sq.val at hsml
    go_upto_region 4 with fail
    refine wp_region_made 0 #[true, true, true, true, true, true, false] [.lets (· = .pointer (some ⟨b, 0, none⟩)),
      .lets (· = .pointer (some ⟨b, 0, none⟩)),
      .lets (· = .pointer (some ⟨b, 0, none⟩)),
      .lets (· = .pointer (some ⟨p, 0, none⟩)),
      .lets (· = .pointer (some ⟨Z, 0, none⟩)),
      .lets (· = .agg #[.int .i64 s.f, .int .i64 s.l, .int .i64 s.c, .int .i64 s.r])] [] [] (by kernel_rfl) (by kernel_rfl) rfl ?kinds (by kernel_rfl) (by kernel_rfl) (by kernel_rfl) ?_
    case kinds =>
      constructor
      · intro i h
        rcases i with _ | _ | _ | _ | _ | _ | i <;> simp [Kx.isMade] at h
      · intro i h
        rcases i with _ | _ | _ | _ | _ | _ | i <;> simp [Kx.isUse] at h
    refine lexX_step (fun K hK => ⟨by kernel_rfl, ⟨_, rfl⟩, fun v hv => ?_, fun v hv => ?_⟩)
    · go_simp
      exact mUpon_b
    subst hv
    go_simp
    refine hK _ ?_
    clear hK K
    refine lexX_step (fun K hK => ⟨by kernel_rfl, ⟨_, rfl⟩, fun v hv => ?_, fun v hv => ?_⟩)
    · go_simp
      exact mUpon_b
    subst hv
    go_simp
    refine hK _ ?_
    clear hK K
    refine lexX_step (fun K hK => ⟨by kernel_rfl, ⟨_, rfl⟩, fun v hv => ?_, fun v hv => ?_⟩)
    · go_simp
      exact mUpon_b
    subst hv
    go_simp
    refine hK _ ?_
    clear hK K
    refine lexX_step (fun K hK => ⟨by kernel_rfl, ⟨_, rfl⟩, fun v hv => ?_, fun v hv => ?_⟩)
    · have y9 := (unhideR HY2 v hv).1
      have y0 := (cells_at y9 0 (by simp)).1
      go_simp
      exact mUpon_b
    subst hv
    go_simp
    refine hK _ ?_
    clear hK K
    refine lexX_step (fun K hK => ⟨by kernel_rfl, ⟨_, rfl⟩, fun v hv => ?_, fun v hv => ?_⟩)
    · go_simp
      exact mUpon_b
    subst hv
    go_simp
    refine hK _ ?_
    clear hK K
    refine lexX_step (fun K hK => ⟨by kernel_rfl, ⟨_, rfl⟩, fun v hv => ?_, fun v hv => ?_⟩)
    · have y9 := (unhideR HY2 v hv).2.2.2
      have y0 := (cells_at y9 0 (by simp)).1
      have y1 := (cells_at y9 1 (by simp)).1
      have y2 := (cells_at y9 2 (by simp)).1
      have y3 := (cells_at y9 3 (by simp)).1
      go_simp
      exact mUpon_b
    subst hv
    go_simp
    refine hK _ ?_
    clear hK K
    refine lexX_end (fun v7 hv => ?_)
    have HV := hideR hv.low
    have hc7 := hsml (unhideR HG2 v7 hv.low).low
    clear hv hsml
    refine wpAny_step (i := 6) (by kernel_rfl) rfl (by kernel_rfl) (fun K9 hK => ?_)
    unfold Oper.wp
    go_simp
    refine hc7.mono ?_
    rintro r v8 ⟨rfl, k8⟩
    go_simp
    refine hK _ _ ?_
    clear hK K9 hc7
    refine wpAny_end (by kernel_rfl) ?_
    have HV9 := hideR ((unhideR HV).trans (k8.mono (unhideR HV).size))
    clear HV k8
    have HY3 : HeldR (∀ v, Below v8.heap.size v8 v → v.heap[b]? = some (.cells #[.pointer (some ⟨p, 0, none⟩), .int .i64 d.x, .int .i64 d.y, .int .i64 d.z, .func (.func gE) #[] cE, .func (.func gT) #[] cT, .int .i64 lk2] 111) ∧ v.heap[p]? = some (.cells #[.int .i64 lv, .slice ad nK cap, .map (some bn), .map (some bc), .int .i64 sn] 82) ∧ v.heap[bc]? = some (.map es clock) ∧ v.heap[Z]? = some (.cells #[.int .i64 s.f, .int .i64 s.l, .int .i64 s.c, .int .i64 s.r, .int .i64 c.sg, .int .u64 (ohV c), .int .u64 (olV c), .int .i64 c.un] 139)) := hideR (fun v hv => unhideR HY2 v ((unhideR HV9).trans (hv.mono (unhideR HV9).size)))
    have HG3 : HeldR (∀ v, Below v8.heap.size v8 v → SeaSt W0 p b d gE gT cE cT Inv W1 y v) := hideR (fun v hv => unhideR HG2 v ((unhideR HV9).trans (hv.mono (unhideR HV9).size)))
    clear HY2 HG2 HV9
    cases hsm : smB lv K s
    case false =>
      have hlt : (n : Int) < lv := by
        have h1 := hsv.l
        unfold smB at hsm
        rw [Bool.or_eq_false_iff] at hsm
        have := of_decide_eq_false hsm.1
        omega
      have hpa := fun u => pparts_any s hsv u
      unfold Sq.val at hpa
      have y9 := (unhideR HY3 v8 (Below.refl _ _)).2.2.2
      have z0 := (cells_at y9 0 (by simp)).1
      have z1 := (cells_at y9 1 (by simp)).1
      have z2 := (cells_at y9 2 (by simp)).1
      have z3 := (cells_at y9 3 (by simp)).1
      clear y9 hsm
      go_wp2_with fail
      refine (hpa _).mono ?_
      rintro r v9 ⟨⟨vq, rfl, hqr⟩, k9⟩
      obtain ⟨adq, cq, eq, _, hqa⟩ := hqr.at
      obtain ⟨b9, hb9, _, hlt9, _⟩ := hqa 0 (by show 0 < 4; omega)
      subst hb9
      have hcr := unhideR Hrec s y W1 v9 b9 cq hsv hlt (unhideR HG3 v9 k9) (unhideR HKy) hlt9 (fun j hj => by
        obtain ⟨b', e', _, _, h'⟩ := hqa j hj
        cases e'
        exact h')
      rw [show (prtV s).length = 4 from rfl] at eq
      subst eq
      clear hqr k9 hqa hpa z0 z1 z2 z3 HY3 HG3
      go_wp2_with fail
      refine hcr.mono ?_
      rintro r v10 ⟨rfl, y', hS', hC', hz'⟩
      have HQ := hideR (unhideR HGk y' v10 hS' (Cv.deep (unhideR HR).dir hsv (by have := (unhideR HR).lvl; omega) hlt hC') hz')
      clear hcr hS' hC' hz' HGk
      go_wp2
      exact ⟨⟨k + 1, y', by omega, by go_num, HQ⟩, by simp [intOf]; omega⟩
    clear hsm
    have HZb : HeldR (∀ k, k < (GOf lv K s).length → 0 ≤ (GOf lv K s).getD k 0 ∧ (GOf lv K s).getD k 0 < (K.length : Int)) := hideR (fun k hk => gof_in (by
      rw [List.getD_eq_getElem?_getD, List.getElem?_eq_getElem hk]
      exact List.getElem_mem hk))
    have HZl : HeldR ((GOf lv K s).length ≤ 200) := hideR (Nat.le_trans (ixL_len _ _ _) hKl)
    have hlo := fun {w : World} (hw : SeaSt W0 p b d gE gT cE cT Inv W1 y w) => plook_any (capz := capz) (unhideR HR) (unhideR HD) (unhideR HH) hb (by omega) (unhideR HZb) hzk (by have := unhideR HZl; omega) (by have := unhideR HZl; have := unhideR HKy; omega) hw
    have HGs : HeldR (∀ w', SeaSt W0 p b d gE gT cE cT Inv W1 ((GOf lv K s).foldl (stp K d en tk) y) w' → SeaSt W0 p b d gE gT cE cT Inv W1 ((GOf lv K s).foldl (stp K d en tk) y) w' ∧ Cv lv K d en tk ((M.take (k + 1)).map (·.s)) x ((GOf lv K s).foldl (stp K d en tk) y) ∧ siz ((GOf lv K s).foldl (stp K d en tk) y) ≤ siz x + (k + 1) * t) := hideR (fun w' hw => unhideR HGk _ w' hw (Cv.small s y) (by
      have h1 := fold_siz (K := K) (d := d) (en := en) (unhideR HH).szk (GOf lv K s) y
      have := unhideR HZl
      omega))
    generalize (GOf lv K s).foldl (stp K d en tk) y = yf at *
    obtain ⟨zl, hzl⟩ : ∃ zl, (GOf lv K s).length = zl := ⟨_, rfl⟩
    rw [hzl] at hlo hlk
    clear hzk hzl HZb HZl HGk
    unfold Sq.val at hlk
    go_upto_region 5 with fail
    refine wp_region_made 0 #[true, true, true, true, true, true, true, true, true, true, true, false] [.lets (· = .pointer (some ⟨b, 0, none⟩)),
      .lets (· = .pointer (some ⟨b, 0, none⟩)),
      .lets (· = .pointer (some ⟨b, 0, none⟩)),
      .lets (· = .pointer (some ⟨b, 0, none⟩)),
      .lets (· = .pointer (some ⟨p, 0, none⟩)),
      .lets (· = .pointer (some ⟨p, 0, none⟩)),
      .lets (· = .pointer (some ⟨p, 3, none⟩)),
      .lets (· = .map (some bc)),
      .lets (· = .pointer (some ⟨Z, 0, none⟩)),
      .lets (· = .agg #[.int .i64 s.f, .int .i64 s.l, .int .i64 s.c, .int .i64 s.r]),
      .lets (· = .slice adz zl capz)] [] [] (by kernel_rfl) (by kernel_rfl) rfl ?kinds (by kernel_rfl) (by kernel_rfl) (by kernel_rfl) ?_
    case kinds =>
      constructor
      · intro i h
        rcases i with _ | _ | _ | _ | _ | _ | _ | _ | _ | _ | _ | i <;> simp [Kx.isMade] at h
      · intro i h
        rcases i with _ | _ | _ | _ | _ | _ | _ | _ | _ | _ | _ | i <;> simp [Kx.isUse] at h
    refine lexX_step (fun K hK => ⟨by kernel_rfl, ⟨_, rfl⟩, fun v hv => ?_, fun v hv => ?_⟩)
    · go_simp
      exact mUpon_b
    subst hv
    go_simp
    refine hK _ ?_
    clear hK K
    refine lexX_step (fun K hK => ⟨by kernel_rfl, ⟨_, rfl⟩, fun v hv => ?_, fun v hv => ?_⟩)
    · go_simp
      exact mUpon_b
    subst hv
    go_simp
    refine hK _ ?_
    clear hK K
    refine lexX_step (fun K hK => ⟨by kernel_rfl, ⟨_, rfl⟩, fun v hv => ?_, fun v hv => ?_⟩)
    · go_simp
      exact mUpon_b
    subst hv
    go_simp
    refine hK _ ?_
    clear hK K
    refine lexX_step (fun K hK => ⟨by kernel_rfl, ⟨_, rfl⟩, fun v hv => ?_, fun v hv => ?_⟩)
    · go_simp
      exact mUpon_b
    subst hv
    go_simp
    refine hK _ ?_
    clear hK K
    refine lexX_step (fun K hK => ⟨by kernel_rfl, ⟨_, rfl⟩, fun v hv => ?_, fun v hv => ?_⟩)
    · have y9 := (unhideR HY3 v hv).1
      have y0 := (cells_at y9 0 (by simp)).1
      go_simp
      exact mUpon_b
    subst hv
    go_simp
    refine hK _ ?_
    clear hK K
    refine lexX_step (fun K hK => ⟨by kernel_rfl, ⟨_, rfl⟩, fun v hv => ?_, fun v hv => ?_⟩)
    · go_simp
      exact mUpon_b
    subst hv
    go_simp
    refine hK _ ?_
    clear hK K
    refine lexX_step (fun K hK => ⟨by kernel_rfl, ⟨_, rfl⟩, fun v hv => ?_, fun v hv => ?_⟩)
    · go_simp
      exact mUpon_b
    subst hv
    go_simp
    refine hK _ ?_
    clear hK K
    refine lexX_step (fun K hK => ⟨by kernel_rfl, ⟨_, rfl⟩, fun v hv => ?_, fun v hv => ?_⟩)
    · have y9 := (unhideR HY3 v hv).2.1
      have y0 := (cells_at y9 3 (by simp)).1
      go_simp
      exact mUpon_b
    subst hv
    go_simp
    refine hK _ ?_
    clear hK K
    refine lexX_step (fun K hK => ⟨by kernel_rfl, ⟨_, rfl⟩, fun v hv => ?_, fun v hv => ?_⟩)
    · go_simp
      exact mUpon_b
    subst hv
    go_simp
    refine hK _ ?_
    clear hK K
    refine lexX_step (fun K hK => ⟨by kernel_rfl, ⟨_, rfl⟩, fun v hv => ?_, fun v hv => ?_⟩)
    · have y9 := (unhideR HY3 v hv).2.2.2
      have y0 := (cells_at y9 0 (by simp)).1
      have y1 := (cells_at y9 1 (by simp)).1
      have y2 := (cells_at y9 2 (by simp)).1
      have y3 := (cells_at y9 3 (by simp)).1
      go_simp
      exact mUpon_b
    subst hv
    go_simp
    refine hK _ ?_
    clear hK K
    refine lexX_step (fun K hK => ⟨by kernel_rfl, ⟨_, rfl⟩, fun v hv => ?_, fun v hv => ?_⟩)
    · have y9 := hlk v (unhideR HY3 v hv).2.2.1
      go_simp
      exact mUpon_b
    subst hv
    go_simp
    refine hK _ ?_
    clear hK K
    refine lexX_end (fun v9 hv => ?_)
    have hc9 := hlo (unhideR HG3 v9 hv.low)
    clear hv hlo HY3 HG3 hlk
    refine wpAny_step (i := 11) (by kernel_rfl) rfl (by kernel_rfl) (fun K9 hK => ?_)
    unfold Oper.wp
    go_simp
    refine hc9.mono ?_
    rintro r v10 ⟨rfl, hS'⟩
    have HQ := hideR (unhideR HGs v10 hS')
    clear hS' HGs
    go_simp
    refine hK _ _ ?_
    clear hK K9 hc9
    refine wpAny_end (by kernel_rfl) ?_
    go_wp2
    exact ⟨⟨k + 1, yf, by omega, by go_num, HQ⟩, by simp [intOf]; omega⟩
/-- how many may be taken. -/
def capN : Nat → Nat
  | 0 => 6 * 200
  | r + 1 => 6 * capN r
theorem capN_le : ∀ r, 200 ≤ capN r
  | 0 => by decide
  | r + 1 => by
    have := capN_le r
    show 200 ≤ 6 * capN r
    omega
theorem pthru_any {σ : Type} {W0 : World} {p b : Nat} {lv : Int} {K : List En} {ad : Option Addr} {cap bn bc : Nat} {es : Array MapEntry} {clock : Nat} {sn : Int} (h : RO W0 p lv K ad cap bn bc es clock sn) {d : Dr} (hd : dirB d = true) {gE gT : Nat} {cE cT : Array Value} {en : σ → Co → Bool} {tk : σ → Nat → σ} {Inv : σ → World → Prop} {siz : σ → Nat} (H : SeaOk W0 p b K d gE gT cE cT en tk Inv siz) (HM : SeaMo K d en tk) (hb : W0.heap.size ≤ b) (hKl : K.length ≤ 200) : ∀ (r n : Nat), (n : Int) + r = lv → ∀ {bq capq : Nat} {C : List Sq} (_ : ∀ s ∈ C, SqV s n) (_ : C.Nodup) (_ : C.length ≤ 6) {W Wb : World} {x : σ} (_ : bq < W.heap.size) (_ : ∀ k, k < C.length → QAt W bq (k * 4) (C.getD k sq0)) (_ : SeaSt W0 p b d gE gT cE cT Inv Wb x W) (_ : siz x + capN r ≤ 8000000000000),
    Calls Tryz.prog 57 #[.pointer (some ⟨b, 0, none⟩), .slice (some ⟨bq, 0, none⟩) C.length capq] W (ThPost W0 p b lv K d gE gT cE cT en tk Inv siz (capN r) Wb C x)
  | 0, n, hr => fun hC hCn hCl _ _ _ hbq hq hS hsz => pthru_step h hd H HM hb hKl (by omega) (t := 200) (Nat.le_refl _) (fun _ _ _ _ _ _ _ hlt _ _ _ _ => absurd hlt (by omega)) hC hCn hCl hbq hq hS hsz
  | r + 1, n, hr => fun hC hCn hCl _ _ _ hbq hq hS hsz => pthru_step h hd H HM hb hKl (by omega) (t := capN r) (capN_le r) (fun s y Wx Wy bq' capq' hs _ hS' hsz' hbq' hq' => by
      have hl := h.lvl
      exact pthru_any h hd H HM hb hKl r (n + 1) (by omega) (prt_v hs (by omega)) (prt_nodup s) (by show 4 ≤ 6; omega) hbq' hq' hS' hsz') hC hCn hCl hbq hq hS hsz
end Go.Proofs.YtfonpobdnhifgamGreatDoor
