/-
  Pairs that are each other's nearest: what the program's Cross must answer. The law of pairs, walked.
-/
import Derived.Test.YtfonpobdnhifgamGreatDoorAtXw
namespace Go.Proofs.YtfonpobdnhifgamGreatDoor
open Go Go.RowKit

abbrev Pr2 := ByteArray × ByteArray
def pr0 : Pr2 := (ByteArray.empty, ByteArray.empty)
def prK (L M : List En) (i : Nat) : Int := nbV (L.getD i en0).d M M.length
def prB (L M : List En) (num den : Int) (i : Nat) : Bool := decide (0 ≤ prK L M i) && (decide (nbV (M.getD (prK L M i).toNat en0).d L L.length = (i : Int)) && coB (L.getD i en0).d (M.getD (prK L M i).toNat en0).d num den)
def prP (L M : List En) (i : Nat) : Pr2 := ((L.getD i en0).nm, (M.getD (prK L M i).toNat en0).nm)
/-- the pairs of the first i. -/
def prL (L M : List En) (num den : Int) : Nat → List Pr2
  | 0 => []
  | i + 1 => if prB L M num den i then prL L M num den i ++ [prP L M i] else prL L M num den i
theorem prL_len (L M : List En) (num den : Int) : ∀ i, (prL L M num den i).length ≤ i
  | 0 => Nat.le_refl _
  | i + 1 => by
    have := prL_len L M num den i
    show (if prB L M num den i then prL L M num den i ++ [prP L M i] else prL L M num den i).length ≤ i + 1
    split
    · simp; omega
    · omega
def flat2 : List Pr2 → List ByteArray
  | [] => []
  | x :: l => x.1 :: x.2 :: flat2 l
theorem flat2_len : ∀ l : List Pr2, (flat2 l).length = 2 * l.length
  | [] => rfl
  | x :: l => by
    show (flat2 l).length + 1 + 1 = 2 * (l.length + 1)
    rw [flat2_len l]
    omega
theorem flat2_app : ∀ (l : List Pr2) (x : Pr2), flat2 (l ++ [x]) = flat2 l ++ [x.1, x.2]
  | [], _ => rfl
  | y :: l, x => by
    show y.1 :: y.2 :: flat2 (l ++ [x]) = y.1 :: y.2 :: (flat2 l ++ [x.1, x.2])
    rw [flat2_app l x]
theorem flat2_at : ∀ (l : List Pr2) (j : Nat), j < l.length → (flat2 l).getD (2 * j) ByteArray.empty = (l.getD j pr0).1 ∧ (flat2 l).getD (2 * j + 1) ByteArray.empty = (l.getD j pr0).2
  | [], j, h => absurd h (Nat.not_lt_zero j)
  | x :: l, 0, _ => ⟨rfl, rfl⟩
  | x :: l, j + 1, h => by
    have := flat2_at l j (by simpa using h)
    have e1 : 2 * (j + 1) = 2 * j + 1 + 1 := by omega
    constructor
    · rw [e1]
      show (x.1 :: x.2 :: flat2 l).getD (2 * j + 1 + 1) ByteArray.empty = _
      simpa using this.1
    · rw [e1]
      show (x.1 :: x.2 :: flat2 l).getD (2 * j + 1 + 1 + 1) ByteArray.empty = _
      simpa using this.2
theorem less_asym : ∀ x y : List UInt8, Op.bytesLess y x = true → (Op.bytesLess x y || x == y) = false
  | [], [], h => by simp [Op.bytesLess] at h
  | [], _ :: _, h => by simp [Op.bytesLess] at h
  | _ :: _, [], _ => by simp [Op.bytesLess]
  | a :: x, b :: y, h => by
    have ih := less_asym x y
    simp only [Op.bytesLess, Bool.or_eq_true, decide_eq_true_eq, Bool.and_eq_true, beq_iff_eq] at h
    rcases h with h | ⟨e, h⟩
    · have n1 : ¬ a < b := by
        rw [UInt8.lt_iff_toNat_lt] at h ⊢
        omega
      have n2 : ¬ a = b := by
        intro e
        rw [e, UInt8.lt_iff_toNat_lt] at h
        omega
      simp [Op.bytesLess, n1, n2]
    · subst e
      have n1 : ¬ b < b := by
        rw [UInt8.lt_iff_toNat_lt]
        omega
      have i2 := ih h
      simp only [Bool.or_eq_false_iff] at i2
      simp [Op.bytesLess, i2.1]
      have := i2.2
      simpa using this
/-- is a pair among the first j? -/
def fdV (W : List Pr2) (x : Pr2) : Nat → Bool
  | 0 => false
  | j + 1 => fdV W x j || (((W.getD j pr0).1.toList == x.1.toList) && ((W.getD j pr0).2.toList == x.2.toList))
theorem fd_of {W : List Pr2} {x : Pr2} {i : Nat} (h : W.getD i pr0 = x) : ∀ j, i < j → fdV W x j = true
  | j + 1, hj => by
    show (fdV W x j || _) = true
    by_cases q : i < j
    · rw [fd_of h j q, Bool.true_or]
    · obtain rfl : i = j := by omega
      rw [h]
      simp
theorem fd_mem {W : List Pr2} {x : Pr2} (h : x ∈ W) : fdV W x W.length = true := by
  obtain ⟨i, hi, e⟩ := List.mem_iff_getElem.1 h
  refine fd_of (i := i) ?_ _ hi
  rw [List.getD_eq_getElem?_getD, List.getElem?_eq_getElem hi]
  exact e
theorem getD_memP {W : List Pr2} {i : Nat} (h : i < W.length) : W.getD i pr0 ∈ W := by
  rw [List.getD_eq_getElem?_getD, List.getElem?_eq_getElem h]
  exact List.getElem_mem h
/-- pairs in memory. -/
structure P2Came (w : World) (ad : Option Addr) (PP : List Pr2) : Prop where
  at_ : ∀ k, k < PP.length → ∃ b off, ad = some ⟨b, off, none⟩ ∧ b < w.heap.size ∧ w.cell? ⟨b, off + k * 2, none⟩ = some (.string (PP.getD k pr0).1) ∧ w.cell? ⟨b, off + k * 2 + 1, none⟩ = some (.string (PP.getD k pr0).2)
theorem P2Came.below {w v : World} {ad : Option Addr} {PP : List Pr2} (h : P2Came w ad PP) (k : Below w.heap.size w v) : P2Came v ad PP := ⟨fun j hj => by
  obtain ⟨b, off, e, hb, h1, h2⟩ := h.at_ j hj
  exact ⟨b, off, e, Nat.lt_of_lt_of_le hb k.size, (k.cell (p := ⟨b, off + j * 2, none⟩) hb).trans h1, (k.cell (p := ⟨b, off + j * 2 + 1, none⟩) hb).trans h2⟩⟩
structure PrOK (L M : List En) (num den : Int) (PP : List Pr2) : Prop where
  len : PP.length = (prL L M num den L.length).length
  up : ∀ i, i + 1 < PP.length → lessB (PP.getD i pr0).1 (PP.getD (i + 1) pr0).1 = true
  mem : ∀ x ∈ PP, x ∈ prL L M num den L.length
def CrIs (w : World) (v : Value) (L M : List En) (num den : Int) : Prop := ∃ ad cap PP, v = .slice ad (PP : List Pr2).length cap ∧ P2Came w ad PP ∧ (if coE ⟨1, 0, 0⟩ num den = 0 then PrOK L M num den PP else PP = [])
structure CrProg (a : Nat → Addr) (Rep : RepT) : Prop where
  cross : ∀ {w : World} {p q : Nat} {lv lv2 : Int} {L M : List En} {O Q : Nat → Prop} {sn sm : Int}, Rep w p lv L O sn → Rep w q lv2 M Q sm → (∀ k, O k → ¬ Q k) → Sents w a → L.length ≤ 200 → M.length ≤ 200 → ∀ num den : Int, Calls Tryz.prog 17 #[.pointer (some ⟨p, 0, none⟩), .pointer (some ⟨q, 0, none⟩), .int .i64 num, .int .i64 den] w fun r w' => ∃ v E, r = .returned (.tuple #[v, E]) ∧ ErrIs a (coE ⟨1, 0, 0⟩ num den) E ∧ CrIs w' v L M num den ∧ Oth (fun k => O k ∨ Q k) w w'
theorem AtB.oth {O : Nat → Prop} {w w' : World} {g : Nat} {lv : Int} {ad : Option Addr} {cap : Nat} {L : List En} (h : AtB w g lv ad cap L) (hg : ¬ O g) (ha : ∀ a0, ad = some a0 → ¬ O a0.block) (k : Oth O w w') : AtB w' g lv ad cap L := by
  refine ⟨k.heap h.b hg, ⟨fun j hj => ?_⟩⟩
  obtain ⟨b, off, e, hb, hE⟩ := h.e.at_ j hj
  have hn := ha _ e
  have c := fun i => k.cell (p := ⟨b, i, none⟩) hb hn
  exact ⟨b, off, e, Nat.lt_of_lt_of_le hb k.size, ⟨(c _).trans hE.c0, (c _).trans hE.c1, (c _).trans hE.c2, (c _).trans hE.c3, (c _).trans hE.c4⟩⟩
theorem EDoc.row {w0 w : World} {g : Nat} {lv : Int} {L : List En} {O : Nat → Prop} {ad : Option Addr} {cap : Nat} (h : EDoc w0 w g lv L O ad cap) : ∀ a0, ad = some a0 → w0.heap.size ≤ a0.block ∧ a0.block < w.heap.size := by
  intro a0 ha
  rcases h.own.2 with ⟨h1, h2⟩ | ⟨q, c1, cur, e, hB, hq, _⟩
  · simp only [Value.slice.injEq] at h1
    rw [h1.1] at ha
    cases ha
  · simp only [Value.slice.injEq] at e
    rw [e.1] at ha
    injection ha with ha
    rw [← ha]
    exact ⟨hB, ltB hq⟩
/-- two atlases of the program, two of the document: behind Cross the document's are as they were. -/
theorem both_oth {a : Nat → Addr} {Rep : RepT} (hP : EnProg a Rep) {w0 w1 w w' : World} {p g q h : Nat} {lv : Int} {L M : List En} {O Q : Nat → Prop} {ad ae : Option Addr} {cap cb : Nat} {sn sm sn0 : Int} (A : EInv Rep w0 w p g lv L O ad cap sn) (B : EInv Rep w1 w q h lv M Q ae cb sm) (hA : EInv Rep w0 w1 p g lv L O ad cap sn0) (k : Oth (fun k => O k ∨ Q k) w w') : (∀ j, O j → ¬ Q j) ∧ AtB w' g lv ad cap L ∧ AtB w' h lv ae cb M ∧ Below w0.heap.size w0 w' := by
  have hlo := hP.low hA.rep
  have hs := hA.d.bel.size
  refine ⟨fun j h1 h2 => absurd (hlo j h1) (by have := B.d.new j h2; omega), A.d.doc.oth (fun c => ?_) (fun a0 ha c => ?_) k, B.d.doc.oth (fun c => ?_) (fun a0 ha c => ?_) k, k.below (fun j c => ?_) A.d.bel (Nat.le_refl _)⟩
  · rcases c with c | c
    · exact A.d.apg c
    · have h1 := B.d.new _ c
      have h2 := ltB hA.d.doc.b
      omega
  · rcases c with c | c
    · exact A.d.apr a0 ha c
    · have h1 := B.d.new _ c
      have h2 := (hA.d.row a0 ha).2
      omega
  · rcases c with c | c
    · have h1 := hlo _ c
      have h2 := B.d.gnw
      omega
    · exact B.d.apg c
  · rcases c with c | c
    · have h1 := hlo _ c
      have h2 := (B.d.row a0 ha).1
      omega
    · exact B.d.apr a0 ha c
  · rcases c with c | c
    · exact A.d.new j c
    · have h1 := B.d.new j c
      omega
end Go.Proofs.YtfonpobdnhifgamGreatDoor
namespace Go.Proofs.YtfonpobdnhifgamGreatDoor
open Go Go.RowKit

def Sl2 (v : Value) : Prop := ∃ g : Nat, v = .slice (some ⟨g, 0, none⟩) 2 2
def On2 (s t : ByteArray) (v : Value) (w : World) : Prop := ∀ g : Nat, v = .slice (some ⟨g, 0, none⟩) 2 2 → w.heap[g]? = some (.cells #[.string s, .string t] 9)
theorem on2_stb (s t : ByteArray) (v : Value) : Stb (On2 s t v) := fun _ _ h k g q => keepB (h g q) k
set_option maxRecDepth 1000000 in
set_option maxHeartbeats 6400000 in
theorem pairs_walk {a : Nat → Addr} {Rep : RepT} (hP : EnProg a Rep) (hC : CeProg a) (hX : CrProg a Rep) {w : World} (hS : Sents w a) {ad0 : Option Addr} {cap0 : Nat} {l : List En} (hl : EnCame w ad0 l) (hll : l.length ≤ 140737488355328) (hls : ∀ k, k < l.length → (l.getD k en0).nm.size ≤ 140737488355328) {ad1 : Option Addr} {cap1 : Nat} {m : List En} (hm : EnCame w ad1 m) (hml : m.length ≤ 140737488355328) (hms : ∀ k, k < m.length → (m.getD k en0).nm.size ≤ 140737488355328) (lv num den : Int) :
    Calls Tryz.prog 4 #[.slice ad0 l.length cap0, .slice ad1 m.length cap1, .int .i64 lv, .int .i64 num, .int .i64 den] w fun e w' => e = .returned (.bool true) ∧ Below w.heap.size w w' := by
  have HL : HeldR (∀ u, Below w.heap.size w u → EnCame u ad0 l) := hideR (fun u q => hl.below q)
  have HM : HeldR (∀ u, Below w.heap.size w u → EnCame u ad1 m) := hideR (fun u q => hm.below q)
  have HS : HeldR (∀ u, Below w.heap.size w u → Sents u a) := hideR (fun u q => hS.below q (Nat.le_refl _))
  have hFw := fun u (q : Below w.heap.size w u) => fewEntries_any (cap := cap0) (unhideR HL u q) hll hls
  have hFm := fun u (q : Below w.heap.size w u) => fewEntries_any (cap := cap1) (unhideR HM u q) hml hms
  have hli := fun u (q : Below w.heap.size w u) => listed_any hC (unhideR HS u q)
  have hen := fun u (q : Below w.heap.size w u) (f : fewB l = true) => entries_any (cap0 := cap0) hP (unhideR HS u q) (unhideR HL u q) f lv
  have hem := fun u (q : Below w.heap.size w u) (f : fewB m = true) => entries_any (cap0 := cap1) hP (unhideR HS u q) (unhideR HM u q) f lv
  have hce := fun u => coneError_any ⟨1, 0, 0⟩ num den u
  unfold Dr.val at hce
  have HX := hideR hX
  obtain ⟨i0, hi0, hz0, hz1, hz2⟩ := info_parts infoS
  clear hl hls hS hC hX hm hms
  obtain ⟨F, hF⟩ : ∃ F, fewB l = F := ⟨_, rfl⟩
  have HF := hideR hF
  rw [hF] at hFw hen
  obtain ⟨G, hG⟩ : ∃ G, fewB m = G := ⟨_, rfl⟩
  have HG := hideR hG
  rw [hG] at hFm hem
  clear hF hG
  go_enter Tryz.func4, Tryz.ntmps4
  go_wp2_with fail
  refine (hli _ (Below.refl _ _)).mono ?_
  rintro e u1 ⟨rfl, k1⟩
  have HB := hideR k1
  clear k1 hli
  go_wp2_with fail
  refine (hFw _ (unhideR HB)).mono ?_
  rintro e v ⟨rfl, rfl⟩
  go_wp2_with fail
  refine (hFm _ (unhideR HB)).mono ?_
  rintro e v ⟨rfl, rfl⟩
  clear hFw hFm
  by_cases qF : F = true ∧ G = true ∧ l.length ≤ 40 ∧ m.length ≤ 40
  case neg =>
    cases F with
    | false =>
      go_wp2
      go_ret
      exact ⟨rfl, unhideR HB⟩
    | true =>
      cases G with
      | false =>
        go_wp2
        go_ret
        exact ⟨rfl, unhideR HB⟩
      | true =>
        by_cases q1 : 40 < l.length
        · have t1 : decide ((40 : Int) < (l.length : Int)) = true := decide_eq_true (by omega)
          clear qF
          go_wp2
          go_ret
          exact ⟨rfl, unhideR HB⟩
        · have t1 : decide ((40 : Int) < (l.length : Int)) = false := decide_eq_false (by omega)
          have t2 : decide ((40 : Int) < (m.length : Int)) = true := decide_eq_true (by
            rcases Nat.lt_or_ge 40 m.length with h | h
            · omega
            · exact absurd ⟨rfl, rfl, by omega, h⟩ qF)
          clear qF
          go_wp2
          go_ret
          exact ⟨rfl, unhideR HB⟩
  obtain ⟨rfl, rfl, ql, qm⟩ := qF
  have t1 : decide ((40 : Int) < (l.length : Int)) = false := decide_eq_false (by omega)
  have t2 : decide ((40 : Int) < (m.length : Int)) = false := decide_eq_false (by omega)
  replace hen := fun u (q : Below w.heap.size w u) => hen u q rfl
  replace hem := fun u (q : Below w.heap.size w u) => hem u q rfl
  go_wp2_with fail
  refine (hen _ (unhideR HB)).mono ?_
  intro e v1 hpo
  unfold EsPost at hpo
  by_cases qv : lvB lv = true
  case neg =>
    rw [if_neg qv] at hpo
    obtain ⟨rfl, k1⟩ := hpo
    have HB1 := hideR (below_go (unhideR HB) k1)
    clear hen k1
    go_wp2_with fail
    refine (hem _ (unhideR HB1)).mono ?_
    intro e v2 hpo
    unfold EsPost at hpo
    rw [if_neg qv] at hpo
    obtain ⟨rfl, k2⟩ := hpo
    have HB2 := hideR (below_go (unhideR HB1) k2)
    clear hem k2 HB1
    go_wp2
    go_ret
    exact ⟨rfl, unhideR HB2⟩
  rw [if_pos qv] at hpo
  obtain ⟨p, g, O, ad, cap, sn, rfl, hEI⟩ := hpo
  have HI := hideR hEI
  have HB1 := hideR (below_go (unhideR HB) hEI.d.bel)
  clear hen hEI
  go_wp2_with fail
  refine (hem _ (unhideR HB1)).mono ?_
  intro e v2 hpo
  unfold EsPost at hpo
  rw [if_pos qv] at hpo
  obtain ⟨q, h, Q, ae, cb, sm, rfl, hEJ⟩ := hpo
  have HJ := hideR hEJ
  have HI2 := hideR ((unhideR HI).below hP hEJ.d.bel)
  have hl1 : (adL l l.length).length ≤ 40 := Nat.le_trans (adL_len l _) ql
  have hl2 : (adL m m.length).length ≤ 40 := Nat.le_trans (adL_len m _) qm
  clear hem hEJ qv ql qm t1 t2
  obtain ⟨A, hA⟩ : ∃ A, adL l l.length = A := ⟨_, rfl⟩
  obtain ⟨B, hB⟩ : ∃ B, adL m m.length = B := ⟨_, rfl⟩
  rw [hA] at HI HI2 hl1
  rw [hB] at HJ hl2
  clear hA hB
  have hcr := (unhideR HX).cross (unhideR HI2).rep (unhideR HJ).rep (both_oth (w' := v2) hP (unhideR HI2) (unhideR HJ) (unhideR HI) ⟨rfl, rfl, rfl, Nat.le_refl _, fun _ _ _ => rfl⟩).1 (unhideR HS _ (below_go (unhideR HB) (unhideR HI2).d.bel)) (by omega) (by omega) num den
  go_wp2_with fail
  refine hcr.mono ?_
  rintro e v3 ⟨pv, E, rfl, hE, hpr, hoth⟩
  obtain ⟨_, hd1, hd2, hbw⟩ := both_oth hP (unhideR HI2) (unhideR HJ) (unhideR HI) hoth
  have HD1 := hideR hd1
  have HD2 := hideR hd2
  have hdir1 := (unhideR HI).d.dir
  have hdir2 := (unhideR HJ).d.dir
  have HR1 := hideR hdir1
  have HR2 := hideR hdir2
  replace HB := hideR (below_go (unhideR HB) hbw)
  have HEr := hideR hE
  have HPr := hideR hpr
  clear hcr hd1 hd2 hbw hE hpr hoth hdir1 hdir2 HI HI2 HJ HB1 HX
  rcases coE_or ⟨1, 0, 0⟩ num den with qe | qe
  case' inr =>
    have h5 := unhideR HEr
    obtain ⟨adp, capp, PP, rfl, _, hif⟩ := unhideR HPr
    rw [qe, if_neg (by decide)] at hif
    subst hif
    rw [qe] at hce h5
    simp only [List.length_nil]
    clear HPr HEr HD1 HD2 HR1 HR2
    go_wp2_with fail
    refine (hce _).mono ?_
    rintro e v4 ⟨rfl, k4⟩
    replace HB := hideR (below_go (unhideR HB) k4)
    have hco := coded_err (unhideR HS _ (unhideR HB)) h5
    clear k4 hce h5
    go_wp2_with fail
    refine hco.mono ?_
    rintro e v5 ⟨rfl, k5⟩
    replace HB := hideR (below_go (unhideR HB) k5)
    clear k5 hco
    go_wp2
    go_ret
    exact ⟨rfl, unhideR HB⟩
  case' inl =>
    obtain ⟨_, d1, d2, n1, n2⟩ := coE_zero qe
    have hEn : E = .nilIface := by
      rcases unhideR HEr with ⟨_, h⟩ | ⟨k, _, h, _⟩
      · exact h
      · rw [qe] at h
        exact absurd h (by omega)
    subst hEn
    obtain ⟨adp, capp, PP, rfl, hp2, hif⟩ := unhideR HPr
    rw [if_pos qe] at hif
    rw [qe] at hce
    have HOK := hideR hif
    have HP2 := hideR hp2
    clear HPr HEr hif hp2 qe
    go_wp2_with fail
    refine (hce _).mono ?_
    rintro e v4 ⟨rfl, k4⟩
    replace HB := hideR (below_go (unhideR HB) k4)
    have HD1u : HeldR (∀ u, Below v4.heap.size v4 u → AtB u g lv ad cap A) := hideR (fun u k => ((unhideR HD1).below k4).below k)
    have HD2u : HeldR (∀ u, Below v4.heap.size v4 u → AtB u h lv ae cb B) := hideR (fun u k => ((unhideR HD2).below k4).below k)
    have HP2u : HeldR (∀ u, Below v4.heap.size v4 u → P2Came u adp PP) := hideR (fun u k => ((unhideR HP2).below k4).below k)
    clear k4 hce HD1 HD2 HP2
    have HCo : HeldR (∀ (x y : Dr) u, dirB x = true → dirB y = true → Calls Tryz.prog 18 #[x.val, y.val, .int .i64 num, .int .i64 den] u fun r w' => r = .returned (.bool (coB x y num den)) ∧ Below u.heap.size u w') := hideR (fun x y u hx hy => cosine_any x y num den u hx hy n1 n2 d1 d2)
    have HPL : HeldR (∀ i, prL A B num den (i + 1) = if prB A B num den i then prL A B num den i ++ [prP A B i] else prL A B num den i) := hideR (fun _ => rfl)
    have HPn : HeldR (∀ i, (prL A B num den i).length ≤ i) := hideR (prL_len A B num den)
    have HO0 : HeldR (v4.ownsRow v4.heap.size 9 1 (.slice none 0 0) (2 * (prL A B num den 0).length) ((flat2 (prL A B num den 0)).map Value.string)) := hideR (World.ownsRow_nil _ _ _ _)
    have HOK2 : HeldR (PP.length = (prL A B num den A.length).length ∧ (∀ i, i + 1 < PP.length → lessB (PP.getD i pr0).1 (PP.getD (i + 1) pr0).1 = true) ∧ ∀ x ∈ PP, x ∈ prL A B num den A.length) := hideR ⟨(unhideR HOK).len, (unhideR HOK).up, (unhideR HOK).mem⟩
    generalize hPq : prL A B num den = P at *
    clear hPq HOK d1 d2 n1 n2
    go_wp2_with fail
    go_loopw [22, 23] (fun wv iv wl => ∃ i : Nat, i ≤ A.length ∧ iv = .int .i64 (i : Nat) ∧ HeldR (wl.ownsRow v4.heap.size 9 1 wv (2 * (P i).length) ((flat2 (P i)).map Value.string)) ∧ HeldR (Below v4.heap.size v4 wl)) (fun _ iv _ => A.length + 1 - (intOf iv).toNat)
    case atStart => exact ⟨0, by omega, rfl, HO0, hideR (Below.refl _ _)⟩
    case round =>
      clear HO0
      obtain ⟨i, hi, rfl, HO, HB4⟩ := hrel
      obtain ⟨adw, capw, hw22⟩ := own_slice (unhideR HO)
      subst hw22
      by_cases hin : i < A.length
      · have ti : decide ((i : Int) < (A.length : Int)) = true := decide_eq_true (by omega)
        have tin : decide (i < A.length) = true := decide_eq_true hin
        have wi : IntKind.i64.wrap ((i : Int) + 1) = (i : Int) + 1 := iwrap (by omega) (by omega)
        have hii : (i : Int) < (A.length : Int) := by omega
        have hdA := unhideR HD1u wr (unhideR HB4)
        have hdB := unhideR HD2u wr (unhideR HB4)
        obtain ⟨b1, o1, had, hb1, hE1⟩ := hdA.e.at_ i hin
        subst had
        have hn1 := nearest_any (A.getD i en0).d hdB (by omega) (unhideR HR1 i hin) (unhideR HR2)
        have hkl := nb_lt (A.getD i en0).d B B.length
        have HPi : HeldR (P (i + 1) = if (decide (0 ≤ nbV (A.getD i en0).d B B.length) && (decide (nbV (B.getD (nbV (A.getD i en0).d B B.length).toNat en0).d A A.length = (i : Int)) && coB (A.getD i en0).d (B.getD (nbV (A.getD i en0).d B B.length).toNat en0).d num den)) then P i ++ [((A.getD i en0).nm, (B.getD (nbV (A.getD i en0).d B B.length).toNat en0).nm)] else P i) := hideR (unhideR HPL i)
        have HE1 := hideR hE1
        have Hdi := hideR (unhideR HR1 i hin)
        generalize nbV (A.getD i en0).d B B.length = k at *
        have a1 := (cells_at hdA.b 1 (by simp)).1
        generalize A.getD i en0 = e1 at *
        obtain ⟨nm1, ⟨x1, y1, z1⟩, li1⟩ := e1
        unfold Dr.val at hn1
        simp only at hn1
        obtain ⟨_, c1, c2, c3, _⟩ := hE1
        simp only at c1 c2 c3
        go_wp2_with fail
        refine hn1.mono ?_
        rintro e v5 ⟨rfl, k5⟩
        have HB5 := hideR (below_go (unhideR HB4) k5)
        have HO5 := hideR (own_below2 (unhideR HO) k5)
        have HE15 := hideR ((unhideR HE1).below k5 hb1)
        replace hb1 := Nat.lt_of_lt_of_le hb1 k5.size
        clear hn1 c1 c2 c3 a1 k5 HB4 HO hdA hdB HE1
        by_cases qk : k < 0
        · have tk : decide (k < 0) = true := decide_eq_true qk
          have e2 : P (i + 1) = P i := by
            rw [unhideR HPi, if_neg]
            rw [decide_eq_false (show ¬ 0 ≤ k by omega)]
            simp
          have He2 := hideR e2
          clear e2 qk hkl HPi
          go_wp2
          exact ⟨⟨i + 1, by omega, by go_num, by rw [unhideR He2]; exact HO5, HB5⟩, by simp [intOf]; omega⟩
        · have tk : decide (k < 0) = false := decide_eq_false qk
          obtain ⟨j, rfl⟩ : ∃ j : Nat, k = (j : Int) := ⟨k.toNat, by omega⟩
          have HPj : HeldR (P (i + 1) = if (decide (0 ≤ (j : Int)) && (decide (nbV (B.getD j en0).d A A.length = (i : Int)) && coB ⟨x1, y1, z1⟩ (B.getD j en0).d num den)) then P i ++ [(nm1, (B.getD j en0).nm)] else P i) := hideR (unhideR HPi)
          clear HPi qk
          have hdA := unhideR HD1u v5 (unhideR HB5)
          have hdB := unhideR HD2u v5 (unhideR HB5)
          obtain ⟨b2, o2, hae, hb2, hE2⟩ := hdB.e.at_ j (by omega)
          subst hae
          have hjj : (j : Int) < (B.length : Int) := hkl
          have HE2 := hideR hE2
          have hn2 := nearest_any (B.getD j en0).d hdA (by omega) (unhideR HR2 j (by omega)) (unhideR HR1)
          have Hdj := hideR (unhideR HR2 j (by omega))
          obtain ⟨k2, hk2⟩ : ∃ k2, nbV (B.getD j en0).d A A.length = k2 := ⟨_, rfl⟩
          rw [hk2] at HPj hn2
          clear hk2
          have a1 := (cells_at hdB.b 1 (by simp)).1
          generalize B.getD j en0 = e2 at HPj hn2 hE2 Hdj HE2
          obtain ⟨nm2, ⟨x2, y2, z2⟩, li2⟩ := e2
          unfold Dr.val at hn2
          simp only at hn2 HPj
          obtain ⟨_, c1, c2, c3, _⟩ := hE2
          simp only at c1 c2 c3
          go_wp2_with fail
          refine hn2.mono ?_
          rintro e v6 ⟨rfl, k6⟩
          have HB6 := hideR (below_go (unhideR HB5) k6)
          have HO6 := hideR (own_below2 (unhideR HO5) k6)
          have hE1 := (unhideR HE15).below k6 hb1
          have hE2 := (unhideR HE2).below k6 hb2
          replace hb1 := Nat.lt_of_lt_of_le hb1 k6.size
          replace hb2 := Nat.lt_of_lt_of_le hb2 k6.size
          have HE1f := hideR hE1
          have HE2f := hideR hE2
          clear hn2 c1 c2 c3 a1 k6 HB5 HO5 hdA hdB hkl hE1 hE2 HE2 HE15
          by_cases q2 : k2 = (i : Int)
          case neg =>
            have tn : (k2 != (i : Int)) = true := by simpa using q2
            have e2 : P (i + 1) = P i := by
              rw [unhideR HPj, if_neg]
              rw [decide_eq_false q2]
              simp
            have He2 := hideR e2
            clear e2 q2 HPj
            go_wp2
            exact ⟨⟨i + 1, by omega, by go_num, by rw [unhideR He2]; exact HO6, HB6⟩, by simp [intOf]; omega⟩
          case pos =>
            have tn : (k2 != (i : Int)) = false := by simp [q2]
            have HPc : HeldR (P (i + 1) = if coB ⟨x1, y1, z1⟩ ⟨x2, y2, z2⟩ num den then P i ++ [(nm1, nm2)] else P i) := hideR (by
              rw [unhideR HPj, q2]
              simp)
            have hcs := fun u => unhideR HCo ⟨x1, y1, z1⟩ ⟨x2, y2, z2⟩ u (unhideR Hdi) (unhideR Hdj)
            unfold Dr.val at hcs
            simp only at hcs
            generalize coB ⟨x1, y1, z1⟩ ⟨x2, y2, z2⟩ num den = C at *
            clear HPj q2
            have hdA6 := unhideR HD1u v6 (unhideR HB6)
            have hdB6 := unhideR HD2u v6 (unhideR HB6)
            have HA6 := hideR hdA6
            have HB6d := hideR hdB6
            clear hdA6 hdB6
            go_upto_region 20 with fail
            refine wp_region_made 0 #[true, true, true, true, true, true, true, true, true, true, true, true, true, true, true, true, true, true, true, false] [.lets (· = .pointer (some ⟨g, 0, none⟩)),
              .lets (· = .pointer (some ⟨g, 0, none⟩)),
              .lets (· = .pointer (some ⟨g, 1, none⟩)),
              .lets (· = .slice (some ⟨b1, o1, none⟩) A.length cap),
              .lets (· = .int .i64 (i : Nat)),
              .lets (· = .pointer (some ⟨b1, o1 + i * 5, none⟩)),
              .lets (· = .pointer (some ⟨b1, o1 + i * 5 + 1, none⟩)),
              .lets (· = .agg #[.int .i64 x1, .int .i64 y1, .int .i64 z1]),
              .lets (· = .pointer (some ⟨h, 0, none⟩)),
              .lets (· = .pointer (some ⟨h, 0, none⟩)),
              .lets (· = .pointer (some ⟨h, 1, none⟩)),
              .lets (· = .slice (some ⟨b2, o2, none⟩) B.length cb),
              .lets (· = .int .i64 (j : Nat)),
              .lets (· = .pointer (some ⟨b2, o2 + j * 5, none⟩)),
              .lets (· = .pointer (some ⟨b2, o2 + j * 5 + 1, none⟩)),
              .lets (· = .agg #[.int .i64 x2, .int .i64 y2, .int .i64 z2]),
              .lets (· = .int .i64 num),
              .lets (· = .int .i64 den),
              .lets (· = .bool C)] [] [] (by kernel_rfl) (by kernel_rfl) rfl ?kinds (by kernel_rfl) (by kernel_rfl) (by kernel_rfl) ?_
            case kinds =>
              constructor
              · intro i h
                rcases i with _ | _ | _ | _ | _ | _ | _ | _ | _ | _ | _ | _ | _ | _ | _ | _ | _ | _ | _ | i <;> simp [Kx.isMade] at h
              · intro i h
                rcases i with _ | _ | _ | _ | _ | _ | _ | _ | _ | _ | _ | _ | _ | _ | _ | _ | _ | _ | _ | i <;> simp [Kx.isUse] at h
            refine lexX_step (fun K hK => ⟨by kernel_rfl, ⟨_, rfl⟩, fun v hv => ?_, fun v hv => ?_⟩)
            · go_simp
              exact mUpon_b
            subst hv
            go_simp
            refine hK _ ?_
            clear hK K
            refine lexX_step (fun K hK => ⟨by kernel_rfl, ⟨_, rfl⟩, fun v hv => ?_, fun v hv => ?_⟩)
            · go_simp
              exact mUpon_b
            subst hv
            go_simp
            refine hK _ ?_
            clear hK K
            refine lexX_step (fun K hK => ⟨by kernel_rfl, ⟨_, rfl⟩, fun v hv => ?_, fun v hv => ?_⟩)
            · go_simp
              exact mUpon_b
            subst hv
            go_simp
            refine hK _ ?_
            clear hK K
            refine lexX_step (fun K hK => ⟨by kernel_rfl, ⟨_, rfl⟩, fun v hv => ?_, fun v hv => ?_⟩)
            · have q9 := (cells_at ((unhideR HA6).below hv).b 1 (by simp)).1
              go_simp
              exact mUpon_b
            subst hv
            go_simp
            refine hK _ ?_
            clear hK K
            refine lexX_step (fun K hK => ⟨by kernel_rfl, ⟨_, rfl⟩, fun v hv => ?_, fun v hv => ?_⟩)
            · go_simp
              exact mUpon_b
            subst hv
            go_simp
            refine hK _ ?_
            clear hK K
            refine lexX_step (fun K hK => ⟨by kernel_rfl, ⟨_, rfl⟩, fun v hv => ?_, fun v hv => ?_⟩)
            · go_simp
              exact mUpon_b
            subst hv
            go_simp
            refine hK _ ?_
            clear hK K
            refine lexX_step (fun K hK => ⟨by kernel_rfl, ⟨_, rfl⟩, fun v hv => ?_, fun v hv => ?_⟩)
            · go_simp
              exact mUpon_b
            subst hv
            go_simp
            refine hK _ ?_
            clear hK K
            refine lexX_step (fun K hK => ⟨by kernel_rfl, ⟨_, rfl⟩, fun v hv => ?_, fun v hv => ?_⟩)
            · have q9 := (unhideR HE1f).below hv hb1
              have q1 := q9.c1
              have q2 := q9.c2
              have q3 := q9.c3
              go_simp
              exact mUpon_b
            subst hv
            go_simp
            refine hK _ ?_
            clear hK K
            refine lexX_step (fun K hK => ⟨by kernel_rfl, ⟨_, rfl⟩, fun v hv => ?_, fun v hv => ?_⟩)
            · go_simp
              exact mUpon_b
            subst hv
            go_simp
            refine hK _ ?_
            clear hK K
            refine lexX_step (fun K hK => ⟨by kernel_rfl, ⟨_, rfl⟩, fun v hv => ?_, fun v hv => ?_⟩)
            · go_simp
              exact mUpon_b
            subst hv
            go_simp
            refine hK _ ?_
            clear hK K
            refine lexX_step (fun K hK => ⟨by kernel_rfl, ⟨_, rfl⟩, fun v hv => ?_, fun v hv => ?_⟩)
            · go_simp
              exact mUpon_b
            subst hv
            go_simp
            refine hK _ ?_
            clear hK K
            refine lexX_step (fun K hK => ⟨by kernel_rfl, ⟨_, rfl⟩, fun v hv => ?_, fun v hv => ?_⟩)
            · have q9 := (cells_at ((unhideR HB6d).below hv).b 1 (by simp)).1
              go_simp
              exact mUpon_b
            subst hv
            go_simp
            refine hK _ ?_
            clear hK K
            refine lexX_step (fun K hK => ⟨by kernel_rfl, ⟨_, rfl⟩, fun v hv => ?_, fun v hv => ?_⟩)
            · go_simp
              exact mUpon_b
            subst hv
            go_simp
            refine hK _ ?_
            clear hK K
            refine lexX_step (fun K hK => ⟨by kernel_rfl, ⟨_, rfl⟩, fun v hv => ?_, fun v hv => ?_⟩)
            · go_simp
              exact mUpon_b
            subst hv
            go_simp
            refine hK _ ?_
            clear hK K
            refine lexX_step (fun K hK => ⟨by kernel_rfl, ⟨_, rfl⟩, fun v hv => ?_, fun v hv => ?_⟩)
            · go_simp
              exact mUpon_b
            subst hv
            go_simp
            refine hK _ ?_
            clear hK K
            refine lexX_step (fun K hK => ⟨by kernel_rfl, ⟨_, rfl⟩, fun v hv => ?_, fun v hv => ?_⟩)
            · have q9 := (unhideR HE2f).below hv hb2
              have q1 := q9.c1
              have q2 := q9.c2
              have q3 := q9.c3
              go_simp
              exact mUpon_b
            subst hv
            go_simp
            refine hK _ ?_
            clear hK K
            refine lexX_step (fun K hK => ⟨by kernel_rfl, ⟨_, rfl⟩, fun v hv => ?_, fun v hv => ?_⟩)
            · go_simp
              exact mUpon_b
            subst hv
            go_simp
            refine hK _ ?_
            clear hK K
            refine lexX_step (fun K hK => ⟨by kernel_rfl, ⟨_, rfl⟩, fun v hv => ?_, fun v hv => ?_⟩)
            · go_simp
              exact mUpon_b
            subst hv
            go_simp
            refine hK _ ?_
            clear hK K
            refine lexX_step (fun K hK => ⟨by kernel_rfl, ⟨_, rfl⟩, fun v hv => ?_, fun v hv => ?_⟩)
            · go_simp
              refine (hcs _).mono ?_
              rintro e w9 ⟨rfl, k⟩
              exact ⟨_, rfl, rfl, k⟩
            subst hv
            go_simp
            refine hK _ ?_
            clear hK K
            refine lexX_end (fun v7 hv => ?_)
            have k7 := hv.low
            clear hv hcs
            refine wpAny_step (i := 19) (by kernel_rfl) rfl (by kernel_rfl) (fun K hK => ?_)
            unfold Oper.wp
            go_simp
            refine hK _ _ ?_
            clear hK K
            refine wpAny_end (by kernel_rfl) ?_
            have HA7 := hideR ((unhideR HA6).below k7)
            have HB7d := hideR ((unhideR HB6d).below k7)
            have HE17 := hideR ((unhideR HE1f).below k7 hb1)
            have HE27 := hideR ((unhideR HE2f).below k7 hb2)
            have HB7 := hideR (below_go (unhideR HB6) k7)
            have HO7 := hideR (own_below2 (unhideR HO6) k7)
            replace hb1 := Nat.lt_of_lt_of_le hb1 k7.size
            replace hb2 := Nat.lt_of_lt_of_le hb2 k7.size
            clear k7 HA6 HB6d HE1f HE2f HB6 HO6
            cases C with
            | false =>
              have He2 : HeldR (P (i + 1) = P i) := hideR (unhideR HPc)
              clear HPc
              go_wp2
              exact ⟨⟨i + 1, by omega, by go_num, by rw [unhideR He2]; exact HO7, HB7⟩, by simp [intOf]; omega⟩
            | true =>
            have He2 : HeldR (P (i + 1) = P i ++ [(nm1, nm2)]) := hideR (unhideR HPc)
            clear HPc
            go_upto_region 22 with fail
            refine wp_region_made 1 #[true, true, true, true, true, true, true, true, true, true, true, true, true, true, true, true, true, true, false, false] [.lets (· = .slice adw (2 * (P i).length) capw),
              .lets (· = .pointer (some ⟨g, 0, none⟩)),
              .lets (· = .pointer (some ⟨g, 0, none⟩)),
              .lets (· = .pointer (some ⟨g, 1, none⟩)),
              .lets (· = .slice (some ⟨b1, o1, none⟩) A.length cap),
              .lets (· = .int .i64 (i : Nat)),
              .lets (· = .pointer (some ⟨b1, o1 + i * 5, none⟩)),
              .lets (· = .pointer (some ⟨b1, o1 + i * 5, none⟩)),
              .lets (· = .string nm1),
              .lets (· = .pointer (some ⟨h, 0, none⟩)),
              .lets (· = .pointer (some ⟨h, 0, none⟩)),
              .lets (· = .pointer (some ⟨h, 1, none⟩)),
              .lets (· = .slice (some ⟨b2, o2, none⟩) B.length cb),
              .lets (· = .int .i64 (j : Nat)),
              .lets (· = .pointer (some ⟨b2, o2 + j * 5, none⟩)),
              .lets (· = .pointer (some ⟨b2, o2 + j * 5, none⟩)),
              .lets (· = .string nm2),
              .made Sl2 (On2 nm1 nm2)] [17] [] (by kernel_rfl) (by kernel_rfl) rfl ?kinds (by kernel_rfl) (by kernel_rfl) (by kernel_rfl) ?_
            case kinds =>
              constructor
              · intro i h
                rcases i with _ | _ | _ | _ | _ | _ | _ | _ | _ | _ | _ | _ | _ | _ | _ | _ | _ | _ | i <;> simp [Kx.isMade] at h ⊢
              · intro i h
                rcases i with _ | _ | _ | _ | _ | _ | _ | _ | _ | _ | _ | _ | _ | _ | _ | _ | _ | _ | i <;> simp [Kx.isUse] at h
            refine lexX_step (fun K hK => ⟨by kernel_rfl, ⟨_, rfl⟩, fun v hv => ?_, fun v hv => ?_⟩)
            · go_simp
              exact mUpon_b
            subst hv
            go_simp
            refine hK _ ?_
            clear hK K
            refine lexX_step (fun K hK => ⟨by kernel_rfl, ⟨_, rfl⟩, fun v hv => ?_, fun v hv => ?_⟩)
            · go_simp
              exact mUpon_b
            subst hv
            go_simp
            refine hK _ ?_
            clear hK K
            refine lexX_step (fun K hK => ⟨by kernel_rfl, ⟨_, rfl⟩, fun v hv => ?_, fun v hv => ?_⟩)
            · go_simp
              exact mUpon_b
            subst hv
            go_simp
            refine hK _ ?_
            clear hK K
            refine lexX_step (fun K hK => ⟨by kernel_rfl, ⟨_, rfl⟩, fun v hv => ?_, fun v hv => ?_⟩)
            · go_simp
              exact mUpon_b
            subst hv
            go_simp
            refine hK _ ?_
            clear hK K
            refine lexX_step (fun K hK => ⟨by kernel_rfl, ⟨_, rfl⟩, fun v hv => ?_, fun v hv => ?_⟩)
            · have q9 := (cells_at ((unhideR HA7).below hv).b 1 (by simp)).1
              go_simp
              exact mUpon_b
            subst hv
            go_simp
            refine hK _ ?_
            clear hK K
            refine lexX_step (fun K hK => ⟨by kernel_rfl, ⟨_, rfl⟩, fun v hv => ?_, fun v hv => ?_⟩)
            · go_simp
              exact mUpon_b
            subst hv
            go_simp
            refine hK _ ?_
            clear hK K
            refine lexX_step (fun K hK => ⟨by kernel_rfl, ⟨_, rfl⟩, fun v hv => ?_, fun v hv => ?_⟩)
            · go_simp
              exact mUpon_b
            subst hv
            go_simp
            refine hK _ ?_
            clear hK K
            refine lexX_step (fun K hK => ⟨by kernel_rfl, ⟨_, rfl⟩, fun v hv => ?_, fun v hv => ?_⟩)
            · go_simp
              exact mUpon_b
            subst hv
            go_simp
            refine hK _ ?_
            clear hK K
            refine lexX_step (fun K hK => ⟨by kernel_rfl, ⟨_, rfl⟩, fun v hv => ?_, fun v hv => ?_⟩)
            · have q9 := (unhideR HE17).below hv hb1
              have q0 := q9.c0
              go_simp
              exact mUpon_b
            subst hv
            go_simp
            refine hK _ ?_
            clear hK K
            refine lexX_step (fun K hK => ⟨by kernel_rfl, ⟨_, rfl⟩, fun v hv => ?_, fun v hv => ?_⟩)
            · go_simp
              exact mUpon_b
            subst hv
            go_simp
            refine hK _ ?_
            clear hK K
            refine lexX_step (fun K hK => ⟨by kernel_rfl, ⟨_, rfl⟩, fun v hv => ?_, fun v hv => ?_⟩)
            · go_simp
              exact mUpon_b
            subst hv
            go_simp
            refine hK _ ?_
            clear hK K
            refine lexX_step (fun K hK => ⟨by kernel_rfl, ⟨_, rfl⟩, fun v hv => ?_, fun v hv => ?_⟩)
            · go_simp
              exact mUpon_b
            subst hv
            go_simp
            refine hK _ ?_
            clear hK K
            refine lexX_step (fun K hK => ⟨by kernel_rfl, ⟨_, rfl⟩, fun v hv => ?_, fun v hv => ?_⟩)
            · have q9 := (cells_at ((unhideR HB7d).below hv).b 1 (by simp)).1
              go_simp
              exact mUpon_b
            subst hv
            go_simp
            refine hK _ ?_
            clear hK K
            refine lexX_step (fun K hK => ⟨by kernel_rfl, ⟨_, rfl⟩, fun v hv => ?_, fun v hv => ?_⟩)
            · go_simp
              exact mUpon_b
            subst hv
            go_simp
            refine hK _ ?_
            clear hK K
            refine lexX_step (fun K hK => ⟨by kernel_rfl, ⟨_, rfl⟩, fun v hv => ?_, fun v hv => ?_⟩)
            · go_simp
              exact mUpon_b
            subst hv
            go_simp
            refine hK _ ?_
            clear hK K
            refine lexX_step (fun K hK => ⟨by kernel_rfl, ⟨_, rfl⟩, fun v hv => ?_, fun v hv => ?_⟩)
            · go_simp
              exact mUpon_b
            subst hv
            go_simp
            refine hK _ ?_
            clear hK K
            refine lexX_step (fun K hK => ⟨by kernel_rfl, ⟨_, rfl⟩, fun v hv => ?_, fun v hv => ?_⟩)
            · have q9 := (unhideR HE27).below hv hb2
              have q0 := q9.c0
              go_simp
              exact mUpon_b
            subst hv
            go_simp
            refine hK _ ?_
            clear hK K
            refine lexX_made ⟨by kernel_rfl, ⟨_, 0, rfl⟩, on2_stb _ _, fun v hv => ?_, ?_⟩
            · go_simp
              exact ⟨below_a v _, ⟨_, rfl⟩, fun q hq => by cases hq; exact alloc_last v _⟩
            rintro _ ⟨u9, rfl⟩ K9 hK9
            go_simp
            refine hK9 _ ?_
            clear hK9 K9
            refine lexX_end (fun v8 hv => ?_)
            have HO9 := hideR (hv.fact.2 _ rfl)
            have k8 := hv.low
            clear hv
            have HO8 := hideR (own_below2 (unhideR HO7) k8)
            have HB8 := hideR (below_go (unhideR HB7) k8)
            have hB8 : v4.heap.size ≤ v8.heap.size := (unhideR HB8).size
            have hPn := unhideR HPn i
            clear k8 HA7 HB7d HE17 HE27 HO7 HB7
            refine wpAny_step (i := 18) (by kernel_rfl) rfl (by kernel_rfl) (fun K9 hK9 => ?_)
            refine wp_append_own _ _ _ 32 rfl v4.heap.size 9 i0 (.string ByteArray.empty) 1 16 Tryz.underlying32 hi0 hz0 hz1 hz2 rfl (by decide) _ (2 * (P i).length) ((flat2 (P i)).map Value.string) rfl (unhideR HO8) ⟨u9, 0, none⟩ 2 2 [.string nm1, .string nm2] rfl rfl ?q1 ?q2 ?q3 ?q4 ?q5 ?_
            case q1 =>
              intro k u hu
              rw [add_pl2, Nat.zero_add]
              rcases k with _ | _ | k
              · rw [← hu]; exact (cells_at (unhideR HO9) 0 (by simp)).1
              · rw [← hu]; exact (cells_at (unhideR HO9) 1 (by simp)).1
              · simp at hu
            case q2 =>
              intro u hu
              simp only [List.mem_cons, List.not_mem_nil, or_false] at hu
              rcases hu with rfl | rfl <;> rfl
            case q3 => unfold maxLen; omega
            case q4 => omega
            case q5 => exact hB8
            intro wv9 w9 hown hgrow _
            have HBn := hideR ((unhideR HB8).grown hgrow hB8 (fun k e => ((unhideR HO8).lt k e).1))
            have HOn : HeldR (w9.ownsRow v4.heap.size 9 1 wv9 (2 * (P (i + 1)).length) ((flat2 (P (i + 1))).map Value.string)) := hideR (by
              rw [unhideR He2, flat2_app, List.map_append, List.length_append]
              exact hown)
            clear hown hgrow HO8 HB8 HO9 He2 hPn hB8
            go_simp
            refine hK9 _ _ ?_
            clear hK9 K9
            refine wpAny_step (i := 19) (by kernel_rfl) rfl (by kernel_rfl) (fun K hK => ?_)
            unfold Oper.wp
            go_simp
            refine hK _ _ ?_
            clear hK K
            refine wpAny_end (by kernel_rfl) ?_
            go_wp2
            exact ⟨⟨i + 1, by omega, by go_num, HOn, HBn⟩, by simp [intOf]; omega⟩
      · obtain rfl : i = A.length := by omega
        have hdA := unhideR HD1u wr (unhideR HB4)
        have a1 := (cells_at hdA.b 1 (by simp)).1
        have ti : decide ((A.length : Int) < (A.length : Int)) = false := decide_eq_false (by omega)
        have tin : decide (A.length < A.length) = false := decide_eq_false (by omega)
        have hPn := unhideR HPn A.length
        obtain ⟨hok1, hok2, hok3⟩ := unhideR HOK2
        have HU := hideR hok2
        have HMm := hideR hok3
        have HBf := hideR (below_go (unhideR HB) (unhideR HB4))
        obtain ⟨ad9, cap9, e9, hsc9, _⟩ := own_str (w := wr) (B := v4.heap.size) (v := .slice adw (2 * (P A.length).length) capw) (L := flat2 (P A.length)) (by rw [flat2_len]; exact unhideR HO)
        obtain ⟨rfl, _, rfl⟩ : adw = ad9 ∧ 2 * (P A.length).length = (flat2 (P A.length)).length ∧ capw = cap9 := by simpa using e9
        have HSc := hideR hsc9
        have Hp := hideR (unhideR HP2u wr (unhideR HB4))
        generalize P A.length = W at *
        obtain ⟨N9, hN9⟩ : ∃ N9, 2 * W.length = N9 := ⟨_, rfl⟩
        have HN9 := hideR hN9
        have t5 : IntKind.i64.wrap (2 * (PP.length : Int)) = (N9 : Nat) := by rw [show (2 * (PP.length : Int)) = (N9 : Nat) by omega]; exact iwrap (by omega) (by omega)
        rw [hN9]
        have hPl : PP.length ≤ 40 := by omega
        have HWl := hideR hok1
        clear hok1 hok2 hok3 hN9 hPn HOK2 HPn HPL HO e9 hsc9 HCo HR1 HR2 HD1u HD2u HP2u HB4 hdA
        have t6 : ((N9 : Int) != (N9 : Int)) = false := by simp
        obtain ⟨OK, hOK⟩ : ∃ OK : World → Prop, OK = fun u => Below wr.heap.size wr u := ⟨_, rfl⟩
        have HScu : HeldR (∀ u, OK u → SCm u adw (flat2 W)) := hideR (fun u k => by rw [hOK] at k; exact (unhideR HSc).below k)
        have Hpu : HeldR (∀ u, OK u → P2Came u adp PP) := hideR (fun u k => by rw [hOK] at k; exact (unhideR Hp).below k)
        have HBfu : HeldR (∀ u, OK u → Below w.heap.size w u) := hideR (fun u k => by rw [hOK] at k; exact below_go (unhideR HBf) k)
        have HOd : HeldR (∀ u n, OK u → OK (u.drewN n)) := hideR (fun u n k => by rw [hOK] at k ⊢; exact below_go k (drawn_below u n))
        have HK0 : HeldR (OK wr) := hideR (by rw [hOK]; exact Below.refl _ _)
        clear hOK HSc Hp HBf HB HF HG
        go_wp2_with fail
        go_loopw [26] (fun iv wl => ∃ i : Nat, i ≤ PP.length ∧ iv = .int .i64 (i : Nat) ∧ HeldR (OK wl)) (fun iv _ => PP.length + 1 - (intOf iv).toNat)
        case atStart => exact ⟨0, by omega, rfl, HK0⟩
        case round =>
          clear HK0 a1
          obtain ⟨i, hi, rfl, HK⟩ := hrel
          by_cases hin : i < PP.length
          case neg =>
            obtain rfl : i = PP.length := by omega
            have tp : decide ((PP.length : Int) < (PP.length : Int)) = false := decide_eq_false (by omega)
            go_wp2
            go_ret
            exact ⟨rfl, unhideR HBfu _ (unhideR HK)⟩
          case pos =>
            have tp : decide ((i : Int) < (PP.length : Int)) = true := decide_eq_true (by omega)
            have tpn : decide (i < PP.length) = true := decide_eq_true hin
            have wi : IntKind.i64.wrap ((i : Int) + 1) = (i : Int) + 1 := iwrap (by omega) (by omega)
            have hii : (i : Int) < (PP.length : Int) := by omega
            obtain ⟨bp, op, hadp, hbp, x0, x1⟩ := (unhideR Hpu wr (unhideR HK)).at_ i hin
            subst hadp
            have Hfd : HeldR (fdV W (PP.getD i pr0) W.length = true) := hideR (fd_mem (unhideR HMm _ (getD_memP hin)))
            have Hst : HeldR (∀ j, fdV W (PP.getD i pr0) (j + 1) = (fdV W (PP.getD i pr0) j || (((W.getD j pr0).1.toList == (PP.getD i pr0).1.toList) && ((W.getD j pr0).2.toList == (PP.getD i pr0).2.toList)))) := hideR (fun _ => rfl)
            have Hs0 : HeldR (fdV W (PP.getD i pr0) 0 = false) := hideR rfl
            generalize fdV W (PP.getD i pr0) = FD at *
            go_upto_region 28 with fail
            go_cut [220] from 205 to 221 (fun s220 wx => s220 = .bool false ∧ HeldR (OK wx))
            case' first =>
              rcases i with _ | i1
              case' zero =>
                refine wp_region_lets [(· = .int .i64 ((0 : Nat) : Int)),
                  (· = .bool false),
                  (· = .bool false),
                  (· = undef),
                  (· = undef),
                  (· = undef),
                  (· = undef),
                  (· = undef),
                  (· = undef),
                  (· = undef),
                  (· = undef),
                  (· = undef),
                  (· = undef),
                  (· = undef),
                  (· = undef),
                  (· = .bool false)] (by kernel_rfl) (by kernel_rfl) ?_
                refine lexL_step (fun K hK => ⟨by kernel_rfl, ⟨_, rfl⟩, fun n => ?_, fun v hv => ?_⟩)
                · go_simp
                  exact lUpon_one
                subst hv
                go_simp
                refine hK _ ?_
                clear hK K
                refine lexL_step (fun K hK => ⟨by kernel_rfl, ⟨_, rfl⟩, fun n => ?_, fun v hv => ?_⟩)
                · go_simp
                  exact lUpon_one
                subst hv
                go_simp
                refine hK _ ?_
                clear hK K
                refine lexL_step (fun K hK => ⟨by kernel_rfl, ⟨_, rfl⟩, fun n => ?_, fun v hv => ?_⟩)
                · go_simp
                  exact lUpon_one
                subst hv
                go_simp
                refine hK _ ?_
                clear hK K
                refine lexL_skip (fun K hK => ⟨by kernel_rfl, ?_⟩)
                go_simp
                refine hK _ ?_
                clear hK K
                refine lexL_skip (fun K hK => ⟨by kernel_rfl, ?_⟩)
                go_simp
                refine hK _ ?_
                clear hK K
                refine lexL_skip (fun K hK => ⟨by kernel_rfl, ?_⟩)
                go_simp
                refine hK _ ?_
                clear hK K
                refine lexL_skip (fun K hK => ⟨by kernel_rfl, ?_⟩)
                go_simp
                refine hK _ ?_
                clear hK K
                refine lexL_skip (fun K hK => ⟨by kernel_rfl, ?_⟩)
                go_simp
                refine hK _ ?_
                clear hK K
                refine lexL_skip (fun K hK => ⟨by kernel_rfl, ?_⟩)
                go_simp
                refine hK _ ?_
                clear hK K
                refine lexL_skip (fun K hK => ⟨by kernel_rfl, ?_⟩)
                go_simp
                refine hK _ ?_
                clear hK K
                refine lexL_skip (fun K hK => ⟨by kernel_rfl, ?_⟩)
                go_simp
                refine hK _ ?_
                clear hK K
                refine lexL_skip (fun K hK => ⟨by kernel_rfl, ?_⟩)
                go_simp
                refine hK _ ?_
                clear hK K
                refine lexL_skip (fun K hK => ⟨by kernel_rfl, ?_⟩)
                go_simp
                refine hK _ ?_
                clear hK K
                refine lexL_skip (fun K hK => ⟨by kernel_rfl, ?_⟩)
                go_simp
                refine hK _ ?_
                clear hK K
                refine lexL_skip (fun K hK => ⟨by kernel_rfl, ?_⟩)
                go_simp
                refine hK _ ?_
                clear hK K
                refine lexL_step (fun K hK => ⟨by kernel_rfl, ⟨_, rfl⟩, fun n => ?_, fun v hv => ?_⟩)
                · go_simp
                  exact lUpon_one
                subst hv
                go_simp
                refine hK _ ?_
                clear hK K
                refine lexL_end ?_
                intro n9
                have HK2 := hideR (unhideR HOd _ n9 (unhideR HK))
                generalize wr.drewN n9 = v8 at *
                go_wp2
                go_meet
                exact ⟨rfl, HK2⟩
              case' succ =>
                obtain ⟨b', o', e', _, y0, _⟩ := (unhideR Hpu wr (unhideR HK)).at_ i1 (by omega)
                cases e'
                have hlt := unhideR HU i1 hin
                unfold lessB at hlt
                generalize (PP.getD (i1 + 1) pr0).1 = X0 at x0 hlt
                generalize (PP.getD i1 pr0).1 = Y0 at y0 hlt
                replace hlt := less_asym _ _ hlt
                have wi1 : IntKind.i64.wrap (((i1 + 1 : Nat) : Int) - 1) = (i1 : Int) := by rw [show ((i1 + 1 : Nat) : Int) - 1 = (i1 : Int) by omega]; exact iwrap (by omega) (by omega)
                have wi2 : IntKind.i64.wrap ((i1 : Int) + 1 - 1) = (i1 : Int) := by rw [show (i1 : Int) + 1 - 1 = (i1 : Int) by omega]; exact iwrap (by omega) (by omega)
                have wi3 : IntKind.i64.wrap (i1 : Int) = (i1 : Int) := iwrap (by omega) (by omega)
                have t0 : decide ((0 : Int) < ((i1 + 1 : Nat) : Int)) = true := decide_eq_true (by omega)
                have t1 : decide ((0 : Int) < (i1 : Int) + 1) = true := decide_eq_true (by omega)
                have hj1 : (i1 : Int) + 1 < (PP.length : Int) := by omega
                have hj2 : (i1 : Int) < (PP.length : Int) := by omega
                have hj3 : ((i1 : Int) + 1).toNat = i1 + 1 := by omega
                have hj4 : (0 : Int) ≤ (i1 : Int) + 1 := by omega
                clear x1 Hfd Hst Hs0
                refine wp_region_lets [(· = .int .i64 ((i1 + 1 : Nat) : Int)),
                  (· = .bool true),
                  (· = .bool true),
                  (· = .slice (some ⟨bp, op, none⟩) PP.length capp),
                  (· = .int .i64 ((i1 + 1 : Nat) : Int)),
                  (· = .pointer (some ⟨bp, op + (i1 + 1) * 2, none⟩)),
                  (· = .pointer (some ⟨bp, op + (i1 + 1) * 2, none⟩)),
                  (· = .string X0),
                  (· = .slice (some ⟨bp, op, none⟩) PP.length capp),
                  (· = .int .i64 ((i1 + 1 : Nat) : Int)),
                  (· = .int .i64 (i1 : Nat)),
                  (· = .pointer (some ⟨bp, op + i1 * 2, none⟩)),
                  (· = .pointer (some ⟨bp, op + i1 * 2, none⟩)),
                  (· = .string Y0),
                  (· = .bool false),
                  (· = .bool false)] (by kernel_rfl) (by kernel_rfl) ?_
                refine lexL_step (fun K hK => ⟨by kernel_rfl, ⟨_, rfl⟩, fun n => ?_, fun v hv => ?_⟩)
                · go_simp
                  exact lUpon_one
                subst hv
                go_simp
                refine hK _ ?_
                clear hK K
                refine lexL_step (fun K hK => ⟨by kernel_rfl, ⟨_, rfl⟩, fun n => ?_, fun v hv => ?_⟩)
                · go_simp
                  exact lUpon_one
                subst hv
                go_simp
                refine hK _ ?_
                clear hK K
                refine lexL_step (fun K hK => ⟨by kernel_rfl, ⟨_, rfl⟩, fun n => ?_, fun v hv => ?_⟩)
                · go_simp
                  exact lUpon_one
                subst hv
                go_simp
                refine hK _ ?_
                clear hK K
                refine lexL_step (fun K hK => ⟨by kernel_rfl, ⟨_, rfl⟩, fun n => ?_, fun v hv => ?_⟩)
                · go_simp
                  exact lUpon_one
                subst hv
                go_simp
                refine hK _ ?_
                clear hK K
                refine lexL_step (fun K hK => ⟨by kernel_rfl, ⟨_, rfl⟩, fun n => ?_, fun v hv => ?_⟩)
                · go_simp
                  exact lUpon_one
                subst hv
                go_simp
                refine hK _ ?_
                clear hK K
                refine lexL_step (fun K hK => ⟨by kernel_rfl, ⟨_, rfl⟩, fun n => ?_, fun v hv => ?_⟩)
                · go_simp
                  exact lUpon_one
                subst hv
                go_simp
                refine hK _ ?_
                clear hK K
                refine lexL_step (fun K hK => ⟨by kernel_rfl, ⟨_, rfl⟩, fun n => ?_, fun v hv => ?_⟩)
                · go_simp
                  exact lUpon_one
                subst hv
                go_simp
                refine hK _ ?_
                clear hK K
                refine lexL_step (fun K hK => ⟨by kernel_rfl, ⟨_, rfl⟩, fun n => ?_, fun v hv => ?_⟩)
                · have q9 : (wr.drewN n).cell? ⟨bp, op + (i1 + 1) * 2, none⟩ = some (.string X0) := x0
                  go_simp
                  exact lUpon_one
                subst hv
                go_simp
                refine hK _ ?_
                clear hK K
                refine lexL_step (fun K hK => ⟨by kernel_rfl, ⟨_, rfl⟩, fun n => ?_, fun v hv => ?_⟩)
                · go_simp
                  exact lUpon_one
                subst hv
                go_simp
                refine hK _ ?_
                clear hK K
                refine lexL_step (fun K hK => ⟨by kernel_rfl, ⟨_, rfl⟩, fun n => ?_, fun v hv => ?_⟩)
                · go_simp
                  exact lUpon_one
                subst hv
                go_simp
                refine hK _ ?_
                clear hK K
                refine lexL_step (fun K hK => ⟨by kernel_rfl, ⟨_, rfl⟩, fun n => ?_, fun v hv => ?_⟩)
                · go_simp
                  exact lUpon_one
                subst hv
                go_simp
                refine hK _ ?_
                clear hK K
                refine lexL_step (fun K hK => ⟨by kernel_rfl, ⟨_, rfl⟩, fun n => ?_, fun v hv => ?_⟩)
                · go_simp
                  exact lUpon_one
                subst hv
                go_simp
                refine hK _ ?_
                clear hK K
                refine lexL_step (fun K hK => ⟨by kernel_rfl, ⟨_, rfl⟩, fun n => ?_, fun v hv => ?_⟩)
                · go_simp
                  exact lUpon_one
                subst hv
                go_simp
                refine hK _ ?_
                clear hK K
                refine lexL_step (fun K hK => ⟨by kernel_rfl, ⟨_, rfl⟩, fun n => ?_, fun v hv => ?_⟩)
                · have q9 : (wr.drewN n).cell? ⟨bp, op + i1 * 2, none⟩ = some (.string Y0) := y0
                  go_simp
                  exact lUpon_one
                subst hv
                go_simp
                refine hK _ ?_
                clear hK K
                refine lexL_step (fun K hK => ⟨by kernel_rfl, ⟨_, rfl⟩, fun n => ?_, fun v hv => ?_⟩)
                · go_simp
                  exact lUpon_one
                subst hv
                go_simp
                refine hK _ ?_
                clear hK K
                refine lexL_step (fun K hK => ⟨by kernel_rfl, ⟨_, rfl⟩, fun n => ?_, fun v hv => ?_⟩)
                · go_simp
                  exact lUpon_one
                subst hv
                go_simp
                refine hK _ ?_
                clear hK K
                refine lexL_end ?_
                intro n9
                have HK2 := hideR (unhideR HOd _ n9 (unhideR HK))
                generalize wr.drewN n9 = v8 at *
                go_wp2
                go_meet
                exact ⟨rfl, HK2⟩
            obtain ⟨rfl, HK2⟩ := hcut
            clear x0 x1 hbp
            go_wp2_with fail
            go_loopw [27, 28] (fun fv kv wl => ∃ (j kk : Nat), j ≤ W.length ∧ HeldR (kk = 2 * j) ∧ kv = .int .i64 (kk : Nat) ∧ fv = .bool (FD j) ∧ HeldR (OK wl)) (fun _ kv _ => N9 + 2 - (intOf kv).toNat)
            case atStart => exact ⟨0, 0, by omega, hideR rfl, rfl, by rw [unhideR Hs0], HK2⟩
            case round =>
              clear HK2
              obtain ⟨j, kk, hj, Hkk, rfl, rfl, HK3⟩ := hrel
              have hkk := unhideR Hkk
              have hN9 := unhideR HN9
              have hWq : W.length ≤ 40 := by have := unhideR HWl; omega
              by_cases hjn : j < W.length
              case neg =>
                obtain rfl : j = W.length := by omega
                have tk : decide ((kk : Int) < (N9 : Int)) = false := decide_eq_false (by omega)
                have tkn : decide (kk < N9) = false := decide_eq_false (by omega)
                have ef := unhideR Hfd
                rw [ef]
                clear hkk hN9 ef Hst Hs0
                go_wp2
                exact ⟨⟨i + 1, by omega, by go_num, HK3⟩, by simp [intOf]; omega⟩
              case pos =>
                have tk : decide ((kk : Int) < (N9 : Int)) = true := decide_eq_true (by omega)
                have tkn : decide (kk < N9) = true := decide_eq_true (by omega)
                have w2 : IntKind.i64.wrap ((kk : Int) + 1) = (kk : Int) + 1 := iwrap (by omega) (by omega)
                have w3 : IntKind.i64.wrap ((kk : Int) + 2) = (kk : Int) + 2 := iwrap (by omega) (by omega)
                have hk1 : (kk : Int) < (N9 : Int) := by omega
                have hk2 : (kk : Int) + 1 < (N9 : Int) := by omega
                have hk3 : (0 : Int) ≤ (kk : Int) + 1 := by omega
                have hk4 : ((kk : Int) + 1).toNat = kk + 1 := by omega
                have hku := unhideR HOd _ 1 (unhideR HK3)
                have hsc := unhideR HScu _ hku
                obtain ⟨b', o', e', _, x0, x1⟩ := (unhideR Hpu _ hku).at_ i hin
                cases e'
                obtain ⟨bw, ow, hadw, _, s0⟩ := hsc.at_ kk (by rw [flat2_len]; omega)
                subst hadw
                obtain ⟨b', o', e', _, s1⟩ := hsc.at_ (kk + 1) (by rw [flat2_len]; omega)
                cases e'
                rw [hkk, (flat2_at W j hjn).1] at s0
                rw [hkk, (flat2_at W j hjn).2] at s1
                rw [← hkk] at s0 s1
                have HFj := hideR (unhideR Hst j)
                have HKn : HeldR (OK wr.drew) := hideR hku
                replace x0 : wr.drew.cell? ⟨bp, op + i * 2, none⟩ = _ := x0
                replace x1 : wr.drew.cell? ⟨bp, op + i * 2 + 1, none⟩ = _ := x1
                replace s0 : wr.drew.cell? ⟨bw, ow + kk, none⟩ = _ := s0
                replace s1 : wr.drew.cell? ⟨bw, ow + (kk + 1), none⟩ = _ := s1
                generalize (PP.getD i pr0).1 = X0 at x0 HFj
                generalize (PP.getD i pr0).2 = X1 at x1 HFj
                generalize (W.getD j pr0).1 = S0 at s0 HFj
                generalize (W.getD j pr0).2 = S1 at s1 HFj
                have Hk' : HeldR (kk + 2 = 2 * (j + 1)) := hideR (by omega)
                clear hkk hN9 hku hsc Hst Hs0 Hfd HK3 Hkk HU HMm
                go_upto_region 34 with fail
                cases qF : FD j with
                | true =>
                  rw [qF] at HFj
                  go_region
                  clear x0 x1 s0 s1
                  generalize wr.drew = v9 at *
                  go_wp2
                  exact ⟨⟨j + 1, kk + 2, by omega, Hk', by go_num, by rw [unhideR HFj]; rfl, HKn⟩, by simp [intOf]; omega⟩
                | false =>
                  rw [qF] at HFj
                  cases q0 : (S0.toList == X0.toList) with
                  | false =>
                    rw [q0] at HFj
                    go_region
                    clear x0 x1 s0 s1
                    generalize wr.drew = v9 at *
                    go_wp2
                    exact ⟨⟨j + 1, kk + 2, by omega, Hk', by go_num, by rw [unhideR HFj]; rfl, HKn⟩, by simp [intOf]; omega⟩
                  | true =>
                    rw [q0] at HFj
                    cases q1 : (S1.toList == X1.toList) with
                    | false =>
                      rw [q1] at HFj
                      go_region
                      clear x0 x1 s0 s1
                      generalize wr.drew = v9 at *
                      go_wp2
                      exact ⟨⟨j + 1, kk + 2, by omega, Hk', by go_num, by rw [unhideR HFj]; rfl, HKn⟩, by simp [intOf]; omega⟩
                    | true =>
                      rw [q1] at HFj
                      go_region
                      clear x0 x1 s0 s1
                      generalize wr.drew = v9 at *
                      go_wp2
                      exact ⟨⟨j + 1, kk + 2, by omega, Hk', by go_num, by rw [unhideR HFj]; rfl, HKn⟩, by simp [intOf]; omega⟩
end Go.Proofs.YtfonpobdnhifgamGreatDoor
