/-
  The law FrameFiles: its walk, out of the program's calls by contracts.
-/
import Derived.Test.YtncbmkflilcdgaiGreatDoorFfLw
import Derived.Test.YtncbmkflilcdgaiGreatDoorFrSmA
import Derived.Test.YtncbmkflilcdgaiGreatDoorDG0
import Derived.Laws.BytesArg
namespace Go.Proofs.YtncbmkflilcdgaiGreatDoor
open Go Go.RowKit

/-- bytes in memory. -/
structure BAt (w : World) (ad : Option Addr) (l : Bs) : Prop where
  at_ : ∀ k, k < l.length → ∃ b off, ad = some ⟨b, off, none⟩ ∧ b < w.heap.size ∧ w.cell? ⟨b, off + k, none⟩ = some (.int .u8 ((l.getD k 0).toNat : Nat))
theorem BAt.below {w v : World} {ad : Option Addr} {l : Bs} (h : BAt w ad l) (k : Below w.heap.size w v) : BAt v ad l := ⟨fun j hj => by
  obtain ⟨b, off, e, hb, h1⟩ := h.at_ j hj
  exact ⟨b, off, e, Nat.lt_of_lt_of_le hb k.size, (k.cell (p := ⟨b, off + j, none⟩) hb).trans h1⟩⟩
theorem BOwn.bytes {w : World} {B : Nat} {v : Value} {l : Bs} (h : BOwn w B v l) : ∃ ad cap, v = .slice ad l.length cap ∧ BAt w ad l := by
  rcases h.2 with ⟨h1, h2⟩ | ⟨g, cap, cur, e, hB, hg, hc, _, hs, ht⟩
  · have e : l = [] := List.length_eq_zero_iff.1 h2
    subst e
    exact ⟨none, 0, h1, ⟨fun k hk => absurd hk (Nat.not_lt_zero k)⟩⟩
  · subst e
    refine ⟨_, cap, rfl, ⟨fun k hk => ⟨g, 0, rfl, (Array.getElem?_eq_some_iff.1 hg).1, ?_⟩⟩⟩
    have q : (byCells l)[k]? = some (.int .u8 ((l.getD k 0).toNat : Nat)) := by
      unfold byCells
      rw [List.getElem?_map, List.getElem?_eq_getElem hk, List.getD_eq_getElem?_getD, List.getElem?_eq_getElem hk]
      rfl
    rw [← ht, List.getElem?_take, if_pos (by omega)] at q
    rw [Nat.zero_add]
    simp only [World.cell?, hg]
    simpa using q
theorem conv_bytes {w : World} {ad : Option Addr} {l : Bs} {cap : Nat} (h : BAt w ad l) : (convert 27 9 (.slice ad l.length cap)).run Tryz.prog w = .ok (.string (strB l)) w := by
  cases l with
  | nil =>
    cases ad with
    | none => exact run_convert_bytes_nil w 27 5 Tryz.underlying27 Tryz.underlying5 0 cap 9 Tryz.underlying9
    | some a0 => exact run_convert_bytes_back w 27 9 5 a0 cap [] Tryz.underlying27 Tryz.underlying5 Tryz.underlying9 (fun j hj => absurd hj (Nat.not_lt_zero j))
  | cons x r =>
    obtain ⟨b, off, e, _, _⟩ := h.at_ 0 (Nat.succ_pos _)
    subst e
    refine run_convert_bytes_back w 27 9 5 ⟨b, off, none⟩ cap (x :: r) Tryz.underlying27 Tryz.underlying5 Tryz.underlying9 (fun j hj => ?_)
    obtain ⟨b', off', e', _, hc⟩ := h.at_ j hj
    cases e'
    rw [add_pl2, hc, List.getD_eq_getElem?_getD, List.getElem?_eq_getElem hj]
    rfl
theorem bytes_same {a b : ByteArray} (h : a.data.toList = b.data.toList) : a = b := ByteArray.ext (Array.ext' h)
theorem CCame.ne {w : World} {al : Option Addr} {L : List CrdS} {g : Nat} {i0 i1 : Int} {ax : Option Addr} {n c : Nat} {ty : TypeId} (h : CCame w al L) (hg : w.heap[g]? = some (.cells #[.int .i64 i0, .int .i64 i1, .slice ax n c] ty)) {k : Nat} (hk : k < L.length) : ∀ b off, al = some ⟨b, off, none⟩ → b ≠ g := by
  intro b off e q
  obtain ⟨b', off', e', _, hc, _⟩ := h.at_ k hk
  rw [e] at e'
  cases e'
  subst q
  simp only [World.cell?, hg] at hc
  generalize off + k * 2 = j at hc
  rcases j with _ | _ | _ | j
  · cases hc
  · cases hc
  · cases hc
  · simp at hc
theorem CCame.other {w : World} {al : Option Addr} {L : List CrdS} {g i : Nat} {x : Value} (h : CCame w al L) (hg : ∀ k, k < L.length → ∀ b off, al = some ⟨b, off, none⟩ → b ≠ g) : CCame (w.setCell ⟨g, i, none⟩ x) al L := ⟨fun k hk => by
  obtain ⟨b, off, e, hb, h1, h2, h3⟩ := h.at_ k hk
  have hn := hg k hk b off e
  refine ⟨b, off, e, by simpa [World.setCell] using hb, ?_, ?_, h3⟩
  · rw [World.cell?_setCell_other]
    · exact h1
    · intro q
      injection q with q1
      exact hn q1.symm
  · rw [World.cell?_setCell_other]
    · exact h2
    · intro q
      injection q with q1
      exact hn q1.symm⟩
theorem file_len {p : Pic} {L : List Crd} (h : fileE p L = 0) : (fileV p L).length ≤ 400010 := by
  have := read_file h
  unfold readV at this
  split at this
  · cases this
  · omega
theorem fileE_pos {p : Pic} {L : List Crd} (h : fileE p L ≠ 0) : 0 < fileE p L := by
  unfold fileE at *
  split
  · rename_i q
    rw [if_pos q] at h
    exact cardsE_pos h
  · rename_i q
    exact picE_pos q
theorem crd_inj : ∀ {A B : List CrdS}, A.map CrdS.crd = B.map CrdS.crd → A = B := by
  intro A
  induction A with
  | nil => intro B h; cases B with
    | nil => rfl
    | cons _ _ => cases h
  | cons x A ih =>
    intro B h
    cases B with
    | nil => cases h
    | cons y B =>
      rw [List.map_cons, List.map_cons] at h
      injection h with h1 h2
      rw [ih h2]
      obtain ⟨xn, xv⟩ := x
      obtain ⟨yn, yv⟩ := y
      injection h1 with h3 h4
      rw [show xn = yn from bytes_same h3, show xv = yv from bytes_same h4]
def WritePost (a : Nat → Addr) (p : Pic) (L : List CrdS) (w : World) (e : Ending) (w' : World) : Prop := ∃ (l : Bs) (ab : Option Addr) (cb : Nat) (er : Value), e = .returned (.tuple #[.slice ab l.length cb, er]) ∧ ErrIs a (fileE p (L.map CrdS.crd)) er ∧ BAt w' ab l ∧
  (fileE p (L.map CrdS.crd) = 0 → l = fileV p (L.map CrdS.crd)) ∧ (fileE p (L.map CrdS.crd) ≠ 0 → l = []) ∧ l.length ≤ cb ∧ Below w.heap.size w w'
/-- what the program's Write must answer. -/
def WriteOK (a : Nat → Addr) : Prop := ∀ {w : World} {ad ac : Option Addr} {cap cc : Nat} {p : Pic} {L : List CrdS}, SentsF w a → ICame w ad p.L → p.L.length ≤ 700 → CCame w ac L → L.length ≤ 110 → L.length ≤ cc →
  Calls Tryz.prog 7 #[.agg #[.int .i64 p.wide, .int .i64 p.high, .slice ad p.L.length cap], .slice ac L.length cc] w (WritePost a p L w)
def ReadPost (a : Nat → Addr) (l : Bs) (w : World) (e : Ending) (w' : World) : Prop := ∃ (L : List CrdS) (ax al : Option Addr) (cx cl : Nat) (er : Value),
  e = .returned (.tuple #[.agg #[.int .i64 (readV l).2.1.wide, .int .i64 (readV l).2.1.high, .slice ax (readV l).2.1.L.length cx], .slice al L.length cl, er]) ∧ L.map CrdS.crd = (readV l).2.2 ∧ ErrIs a (readV l).1 er ∧ ITyped w' ax (readV l).2.1.L ∧ CCame w' al L ∧ Below w.heap.size w w'
/-- what the program's Read and Parts must answer. -/
def ReadOK (a : Nat → Addr) : Prop := ∀ {w : World} {ab : Option Addr} {cb : Nat} {l : Bs}, SentsF w a → BAt w ab l → l.length ≤ 400010 → l.length ≤ cb → Calls Tryz.prog 10 #[.slice ab l.length cb] w (ReadPost a l w)
def PartsOK (a : Nat → Addr) : Prop := ∀ {w : World} {ab ai : Option Addr} {cb ci : Nat} {l : Bs} {P : List Int}, SentsF w a → BAt w ab l → l.length ≤ 400010 → l.length ≤ cb → ICame w ai P → P.length ≤ 60 → Calls Tryz.prog 13 #[.slice ab l.length cb, .slice ai P.length ci] w (ReadPost a l w)
set_option maxRecDepth 100000 in
set_option maxHeartbeats 6400000 in
theorem files_walk {a : Nat → Addr} (hF : FrOne a) (hWr : WriteOK a) (hRd : ReadOK a) (hPt : PartsOK a) {vp : Value} {qp : Option Pic} {ac ai : Option Addr} {cc ci : Nat} {L : List CrdS} {P : List Int} (w : World) (hS : SentsF w a) (hcc : L.length ≤ cc) (h1 : PicArg w vp qp) (h2 : CCame w ac L) (h3 : ICame w ai P) (hLn : L.length ≤ 140737488355328) (hPn : P.length ≤ 140737488355328) :
    Calls Tryz.prog 3 #[vp, .slice ac L.length cc, .slice ai P.length ci] w fun e w' => e = .returned (.bool true) ∧ Below w.heap.size w w' := by
  have HS := hideR hS
  have H1 := hideR h1
  have H2 := hideR h2
  have H3 := hideR h3
  have hfr := framed_any hF w hS.s
  clear hS h1 h2 h3
  go_enter Tryz.func3, Tryz.ntmps3
  go_wp2_with fail
  refine hfr.mono ?_
  rintro e w1 ⟨rfl, k1⟩
  have HW := hideR k1
  replace HS := hideR ((unhideR HS).below k1)
  replace H1 := hideR ((unhideR H1).below k1)
  replace H2 := hideR ((unhideR H2).below k1)
  replace H3 := hideR ((unhideR H3).below k1)
  have s1 := small_any (unhideR H1)
  clear k1 hfr
  go_wp2_with fail
  refine s1.mono ?_
  rintro e u1 ⟨q1, rfl, z1, rfl⟩
  clear s1
  cases q1
  case' false =>
    clear z1
    go_wp2
    go_ret
    exact ⟨rfl, unhideR HW⟩
  obtain ⟨p, rfl, n1⟩ := z1 rfl
  clear z1
  obtain ⟨b, o, cap, ad, rfl, hp, hl⟩ := picArg_is (unhideR H1)
  have HP := hideR hp
  clear H1 hp
  by_cases hL : L.length ≤ 110
  case' neg =>
    have t1 : decide ((110 : Int) < (L.length : Nat)) = true := decide_eq_true (by omega)
    go_wp2
    go_ret
    exact ⟨rfl, unhideR HW⟩
  have t1 : decide ((110 : Int) < (L.length : Nat)) = false := decide_eq_false (by omega)
  by_cases hP : P.length ≤ 60
  case' neg =>
    have t2 : decide ((60 : Int) < (P.length : Nat)) = true := decide_eq_true (by omega)
    go_wp2
    go_ret
    exact ⟨rfl, unhideR HW⟩
  have t2 : decide ((60 : Int) < (P.length : Nat)) = false := decide_eq_false (by omega)
  have c0 := (unhideR HP).c0
  have c1 := (unhideR HP).c1
  have c2 := (unhideR HP).c2
  have hwr := hWr (cap := cap) (cc := cc) (unhideR HS) (unhideR HP).row n1 (unhideR H2) hL hcc
  go_wp2_with fail
  refine hwr.mono ?_
  rintro e w2 ⟨l, ab, cb, er, rfl, her, hB, hv0, hv1, hcb, k2⟩
  have HER := hideR her
  have HB := hideR hB
  replace HS := hideR ((unhideR HS).below k2)
  replace HP := hideR ((unhideR HP).below k2)
  replace H2 := hideR ((unhideR H2).below k2)
  replace H3 := hideR ((unhideR H3).below k2)
  replace HW := hideR (below_go (unhideR HW) k2)
  have hfo := fileOf_any (ccap := cc) (unhideR HP) hl (unhideR H2) (by omega)
  clear hwr her hB k2 c0 c1 c2
  go_wp2_with fail
  refine hfo.mono ?_
  rintro e w3 ⟨v, rfl, hx0, hx1, k3⟩
  have HV : HeldR (∃ ad2 cap2, v = .slice ad2 l.length cap2 ∧ BAt w3 ad2 l) := by
    by_cases q0 : fileE p (L.map CrdS.crd) = 0
    · rw [hv0 q0]
      exact (hx0 q0).bytes
    · rw [hv1 q0, hx1 q0]
      exact ⟨none, 0, rfl, ⟨fun k hk => absurd hk (Nat.not_lt_zero k)⟩⟩
  obtain ⟨ad2, cap2, rfl, hB2⟩ := unhideR HV
  replace HB := hideR ((unhideR HB).below k3)
  replace HS := hideR ((unhideR HS).below k3)
  replace HP := hideR ((unhideR HP).below k3)
  replace H2 := hideR ((unhideR H2).below k3)
  replace H3 := hideR ((unhideR H3).below k3)
  replace HW := hideR (below_go (unhideR HW) k3)
  have HB2 := hideR hB2
  have hco := coded_err (unhideR HS).s (unhideR HER)
  have HV0 := hideR hv0
  clear HV hB2 hx0 hx1 k3 hfo hv0 hv1
  by_cases q0 : fileE p (L.map CrdS.crd) = 0
  case' neg =>
    have t3 : decide (0 < fileE p (L.map CrdS.crd)) = true := decide_eq_true (fileE_pos q0)
    clear q0 HV0
    generalize fileE p (L.map CrdS.crd) = E at *
    go_wp2_with fail
    refine hco.mono ?_
    rintro e w4 ⟨rfl, k4⟩
    have x1 := conv_bytes (cap := cb) ((unhideR HB).below k4)
    have x2 := conv_bytes (cap := cap2) ((unhideR HB2).below k4)
    replace HW := hideR (below_go (unhideR HW) k4)
    clear hco k4
    generalize l.length = nl at *
    go_wp2
    go_ret
    exact ⟨rfl, unhideR HW⟩
  have hrv := read_file q0
  have hln := file_len q0
  have hln0 := file_len q0
  have t3 : decide (0 < fileE p (L.map CrdS.crd)) = false := by rw [q0]; rfl
  obtain rfl := unhideR HV0 q0
  rw [q0] at hco t3 ⊢
  clear HV0 HER q0
  have HRV := hideR hrv
  generalize fileV p (L.map CrdS.crd) = l at *
  clear hrv
  go_wp2_with fail
  refine hco.mono ?_
  rintro e w4 ⟨rfl, k4⟩
  have x1 := conv_bytes (cap := cb) ((unhideR HB).below k4)
  have x2 := conv_bytes (cap := cap2) ((unhideR HB2).below k4)
  replace HB := hideR ((unhideR HB).below k4)
  replace HS := hideR ((unhideR HS).below k4)
  replace HP := hideR ((unhideR HP).below k4)
  replace H2 := hideR ((unhideR H2).below k4)
  replace H3 := hideR ((unhideR H3).below k4)
  replace HW := hideR (below_go (unhideR HW) k4)
  have hrd := hRd (cb := cb) (unhideR HS) (unhideR HB) hln (by omega)
  unfold ReadPost at hrd
  rw [unhideR HRV] at hrd
  clear hco k4 HB2
  go_wp2_with fail
  clear x1 x2
  refine hrd.mono ?_
  rintro e w5 ⟨L5, ax, al, cx, cl, er5, rfl, hL5, her5, hT, hC5, k5⟩
  obtain rfl := crd_inj hL5
  obtain ⟨_, rfl⟩ | ⟨j, _, hj, _⟩ := her5
  case' inr => exact absurd hj (by omega)
  have kA := below_a w5 (.cells #[.int .i64 p.wide, .int .i64 p.high, .slice ax p.L.length cx] 33)
  have HG := hideR (alloc_last w5 (.cells #[.int .i64 p.wide, .int .i64 p.high, .slice ax p.L.length cx] 33))
  replace HB := hideR (((unhideR HB).below k5).below kA)
  replace HS := hideR (((unhideR HS).below k5).below kA)
  have HPz := hideR ((unhideR HP).below k5)
  have H2z := hideR ((unhideR H2).below k5)
  replace HP := hideR ((unhideR HPz).below kA)
  replace H2 := hideR ((unhideR H2z).below kA)
  replace H3 := hideR (((unhideR H3).below k5).below kA)
  have HWz := hideR (below_go (unhideR HW) k5)
  replace HW := hideR (below_go (unhideR HWz) kA)
  have HC := hideR (hC5.below kA)
  have KZ := hideR kA
  have hsp := samePicture_any (cx := cx) (hT.row.below kA) (unhideR HP) hl
  clear hrd hT hC5 k5 kA hL5 hln
  have hg : w5.heap.size < (w5.alloc (.cells #[.int .i64 p.wide, .int .i64 p.high, .slice ax p.L.length cx] 33)).heap.size := ltB (unhideR HG)
  go_wp2_with fail
  generalize w5.alloc (.cells #[.int .i64 p.wide, .int .i64 p.high, .slice ax p.L.length cx] 33) = W6 at *
  refine hsp.mono ?_
  rintro e w7 ⟨rfl, k7⟩
  replace HB := hideR ((unhideR HB).below k7)
  replace HS := hideR ((unhideR HS).below k7)
  replace H2 := hideR ((unhideR H2).below k7)
  replace H3 := hideR ((unhideR H3).below k7)
  replace HW := hideR (below_go (unhideR HW) k7)
  replace HC := hideR ((unhideR HC).below k7)
  replace HG := hideR (keepB (unhideR HG) k7)
  replace KZ := hideR (below_go (unhideR KZ) k7)
  have hsc := sameCards_any (c1 := cl) (c2 := cc) (unhideR HC) (unhideR H2) (by omega)
  clear k7 hsp HP hg
  go_wp2_with fail
  refine hsc.mono ?_
  rintro e w8 ⟨rfl, k8⟩
  replace HB := hideR ((unhideR HB).below k8)
  replace HS := hideR ((unhideR HS).below k8)
  replace H3 := hideR ((unhideR H3).below k8)
  replace HW := hideR (below_go (unhideR HW) k8)
  replace HG := hideR (keepB (unhideR HG) k8)
  replace KZ := hideR (below_go (unhideR KZ) k8)
  have hpt := hPt (cb := cb) (ci := ci) (unhideR HS) (unhideR HB) (by have := hln0; omega) (by omega) (unhideR H3) hP
  unfold ReadPost at hpt
  rw [unhideR HRV] at hpt
  clear hsc k8 HC H2
  go_wp2_with fail
  refine hpt.mono ?_
  rintro e w9 ⟨L9, ay, am, cy, cm, er9, rfl, hL9, her9, hT9, hC9, k9⟩
  obtain rfl := crd_inj hL9
  obtain ⟨_, rfl⟩ | ⟨j, _, hj, _⟩ := her9
  case' inr => exact absurd hj (by omega)
  replace HG := hideR (keepB (unhideR HG) k9)
  replace KZ := hideR (below_go (unhideR KZ) k9)
  replace HW := hideR (below_go (unhideR HW) k9)
  obtain ⟨f0, f1, f2⟩ := pic_open (unhideR HG)
  obtain ⟨g0, g1, g2⟩ : w9.cell? ⟨w5.heap.size, 0, none⟩ = some (.int .i64 p.wide) ∧ w9.cell? ⟨w5.heap.size, 1, none⟩ = some (.int .i64 p.high) ∧ w9.cell? ⟨w5.heap.size, 2, none⟩ = some (.slice ax p.L.length cx) := ⟨(cells_at (unhideR HG) 0 (by simp)).1, (cells_at (unhideR HG) 1 (by simp)).1, (cells_at (unhideR HG) 2 (by simp)).1⟩
  have hne := hT9.ne (unhideR HG) (by decide)
  have hcn := fun k (hk : k < L9.length) => hC9.ne (unhideR HG) hk
  have HI := hideR (((hT9.row.other (i := 0) (x := .int .i64 p.wide) hne).other (i := 1) (x := .int .i64 p.high) hne).other (i := 2) (x := .slice ay p.L.length cy) hne)
  have HC := hideR (((hC9.other (i := 0) (x := .int .i64 p.wide) hcn).other (i := 1) (x := .int .i64 p.high) hcn).other (i := 2) (x := .slice ay p.L.length cy) hcn)
  have KS := hideR ((((unhideR KZ).setCell (p := ⟨w5.heap.size, 0, none⟩) (Nat.le_refl _) (.int .i64 p.wide)).setCell (p := ⟨w5.heap.size, 1, none⟩) (Nat.le_refl _) (.int .i64 p.high)).setCell (p := ⟨w5.heap.size, 2, none⟩) (Nat.le_refl _) (.slice ay p.L.length cy))
  have HP := hideR ((unhideR HPz).below (unhideR KS))
  have H2 := hideR ((unhideR H2z).below (unhideR KS))
  replace HW := hideR (below_go (unhideR HWz) (unhideR KS))
  have hsp := samePicture_any (cx := cy) (unhideR HI) (unhideR HP) hl
  clear hpt hT9 hC9 k9 hL9 HG KZ hne hcn HPz H2z HWz KS
  go_wp2_with fail
  clear f0 f1 f2 g0 g1 g2
  generalize ((w9.setCell ⟨w5.heap.size, 0, none⟩ (.int .i64 p.wide)).setCell ⟨w5.heap.size, 1, none⟩ (.int .i64 p.high)).setCell ⟨w5.heap.size, 2, none⟩ (.slice ay p.L.length cy) = WA at *
  refine hsp.mono ?_
  rintro e wb ⟨rfl, kb⟩
  replace HW := hideR (below_go (unhideR HW) kb)
  have hsc := sameCards_any (c1 := cm) (c2 := cc) ((unhideR HC).below kb) ((unhideR H2).below kb) (by omega)
  clear kb hsp HP HI HC H2
  go_wp2_with fail
  refine hsc.mono ?_
  rintro e wc ⟨rfl, kc⟩
  replace HW := hideR (below_go (unhideR HW) kc)
  clear kc hsc
  go_wp2
  go_ret
  exact ⟨rfl, unhideR HW⟩
end Go.Proofs.YtncbmkflilcdgaiGreatDoor
