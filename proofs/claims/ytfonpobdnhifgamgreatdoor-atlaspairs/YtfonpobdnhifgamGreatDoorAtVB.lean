/-
  Pairs put in order by slices.SortFunc: the program's, by contract. Pairs that are each other's nearest: the program's Cross, by contract.
-/
import Derived.Test.YtfonpobdnhifgamGreatDoorAtVA
namespace Go.Proofs.YtfonpobdnhifgamGreatDoor
open Go Go.RowKit Go.Sort Go.Shelf

theorem gotR (L : List Pr2) {t : Nat} (h : t < L.length) : L.toArray[t]! = L.getD t pr0 := by
  rw [List.getD_eq_getElem?_getD, List.getElem?_eq_getElem h]
  simp [h]
theorem holdsR {w : World} {g : Nat} {L : List Pr2} (h : P2Came w (some ⟨g, 0, none⟩) L) (hf : ∀ o, w.frozen? ⟨g, o, none⟩ = false) : HoldsK valPr 2 w g 0 L.toArray := by
  intro j hj
  rw [size_flatK] at hj
  simp only [List.size_toArray] at hj
  have ht : j / 2 < L.length := by omega
  obtain ⟨b, off, e, _, h0, h1⟩ := h.at_ (j / 2) ht
  cases e
  refine ⟨?_, hf _⟩
  rw [get_flatK _ _ _ _ (by simpa using hj), gotR L ht]
  rcases (show j % 2 = 0 ∨ j % 2 = 1 by omega) with q | q
  · rw [show 0 + j / 2 * 2 = 0 + j by omega] at h0
    rw [q, h0]
    generalize L.getD (j / 2) pr0 = s
    rfl
  · rw [show 0 + j / 2 * 2 + 1 = 0 + j by omega] at h1
    rw [q, h1]
    generalize L.getD (j / 2) pr0 = s
    rfl
theorem cameR {w : World} {g : Nat} {L : List Pr2} (h : HoldsK valPr 2 w g 0 L.toArray) (hg : g < w.heap.size) : P2Came w (some ⟨g, 0, none⟩) L := by
  have key : ∀ k i, k < L.length → i < 2 → w.cell? ⟨g, 0 + (k * 2 + i), none⟩ = (valPr (L.getD k pr0))[i]? := fun k i hk hi => by
    have hj : k * 2 + i < (flatK valPr 2 L.toArray).size := by
      rw [size_flatK]
      simp only [List.size_toArray]
      omega
    have := (h (k * 2 + i) hj).1
    rw [size_flatK] at hj
    rw [get_flatK _ _ _ _ hj, show (k * 2 + i) / 2 = k by omega, show (k * 2 + i) % 2 = i by omega, gotR L hk] at this
    rw [this]
    generalize L.getD k pr0 = s
    rcases (show i = 0 ∨ i = 1 by omega) with q | q <;> rw [q] <;> rfl
  exact ⟨fun k hk => ⟨g, 0, rfl, hg, key k 0 hk (by decide), key k 1 hk (by decide)⟩⟩
theorem sortedR_below (w : World) (g n B : Nat) (d : Array Pr2) (os : Array Obj) (hB : B ≤ g) (hg : g < w.heap.size) : Below B w (sortWorldK valPr 2 w g 0 n d os) := by
  refine ⟨rfl, rfl, rfl, ?_, fun k hk => ?_⟩
  · simp [sortWorldK, grow, putRowK]
  · simp only [sortWorldK, grow, putRowK, putRow, mapBlock, heap_ahead]
    rw [Array.getElem?_append_left (by simp; omega), Array.getElem?_modify, if_neg (by omega)]
def SrPost (L : List Pr2) (u : Value) (B : Nat) (w : World) (e : Ending) (w' : World) : Prop := e = .returned (.tuple #[]) ∧ ∃ (D : List Pr2) (ad : Option Addr) (cap : Nat), u = .slice ad L.length cap ∧ D.Perm L ∧ D.Pairwise (fun a b => ¬ b.1.data.toList < a.1.data.toList) ∧ P2Came w' ad D ∧ Below B w w'
set_option maxHeartbeats 1000000 in
theorem sortPr_any {w : World} {B : Nat} {u : Value} {L : List Pr2} (h : w.ownsRow B 53 2 u L.length (flatPr L)) (hz : 0 < L.length) (hl : L.length ≤ 100000) :
    Calls Tryz.prog 39 #[u, .func (.func 40) #[] #[]] w (SrPost L u B w) := by
  obtain ⟨ad, cap, e, hcm⟩ := pr_came h
  rcases h.2 with ⟨h1, h2⟩ | ⟨g, cap', cur, e', hB, hg, hc, _, hs, ht⟩
  · omega
  · rw [e'] at e
    injection e with e1 e2 e3
    subst e1
    rw [e']
    have hgl : g < w.heap.size := (Array.getElem?_eq_some_iff.1 hg).1
    have hf : ∀ o, w.frozen? ⟨g, o, none⟩ = false := fun o => by simp [World.frozen?, hg]
    have hH := holdsR hcm hf
    have eg : ∀ args w, (callFunc 40 args).run Tryz.prog w = .ok (.enter 40 args) w := enters_of Tryz.func40 (by kernel_rfl) rfl
    have hcon := AnyQ.slices_SortFunc Tryz.sortPr 2 Tryz.isAgg53 Tryz.sizeOf53 valPr (fun _ => rfl) (fun x v hv => flatPr_one [x] v (by simpa [flatPr] using hv)) cfR swoR 40 #[] g 0 cap' L.toArray w eg
      (fun _m _os _dk _ x y => prcmp_any x y _) hH hgl (by simp; omega)
    change Calls Tryz.prog 39 _ _ _ at hcon
    simp only [List.size_toArray] at hcon
    refine hcon.mono fun x w' ⟨h1, d', n, os, hp, hso, hw⟩ => ⟨h1, d'.toList, _, _, rfl, ?_, ?_, ?_, ?_⟩
    · have h3 := hp.2.2
      have hsz : d'.size = L.length := by have := hp.1; simpa using this
      rw [← hsz, Array.extract_size] at h3
      rw [hsz] at h3
      have e5 : (L.toArray.extract 0 L.length).toList = L := by simp
      rw [e5] at h3
      exact h3
    · have hsz : d'.size = L.length := by have := hp.1; simpa using this
      refine List.pairwise_iff_getElem.2 (fun i j hi hj hij => ?_)
      have hj' : j < d'.size := by simpa using hj
      have hi' : i < d'.size := by simpa using hi
      have := hso i j (Nat.zero_le _) hij (by omega)
      rw [ltR', getElem!_pos d' i hi', getElem!_pos d' j hj'] at this
      simp only [Array.getElem_toList]
      exact this
    · refine cameR (L := d'.toList) ?_ ?_
      · have hsz : d'.size = L.toArray.size := hp.1
        exact SWK.holds ⟨n, os, hw⟩ hgl hH hsz
      · rw [hw]
        exact Nat.lt_of_lt_of_le hgl (sortedR_below w g n B _ os hB hgl).size
    · rw [hw]
      exact sortedR_below w g n B _ os hB hgl
/-- no pairs: nothing is put in order. -/
theorem sortPr_none (ad : Option Addr) (cap : Nat) (w : World) : Calls Tryz.prog 39 #[.slice ad 0 cap, .func (.func 40) #[] #[]] w fun e w' => e = .returned (.tuple #[]) ∧ w' = w := by
  have hcon := AnyF.slices_SortFunc_none Tryz.sortPr ad cap (.func (.func 40) #[] #[]) w
  change Calls Tryz.prog 39 _ _ _ at hcon
  exact hcon
end Go.Proofs.YtfonpobdnhifgamGreatDoor
namespace Go.Proofs.YtfonpobdnhifgamGreatDoor
open Go Go.RowKit

theorem prL_none {L M : List En} (h : M.length = 0) (num den : Int) : ∀ i, prL L M num den i = []
  | 0 => rfl
  | i + 1 => by
    have e : prK L M i = -1 := by unfold prK; rw [h]; rfl
    show (if prB L M num den i then prL L M num den i ++ [prP L M i] else prL L M num den i) = []
    unfold prB
    rw [e, show decide ((0 : Int) ≤ -1) = false from rfl, Bool.false_and, if_neg (by decide)]
    exact prL_none h num den i
theorem prL_mem {L M : List En} {num den : Int} {x : Pr2} : ∀ i, x ∈ prL L M num den i → ∃ k, k < i ∧ prB L M num den k = true ∧ x = prP L M k
  | 0, h => nomatch h
  | i + 1, h => by
    have h : x ∈ (if prB L M num den i then prL L M num den i ++ [prP L M i] else prL L M num den i) := h
    split at h
    · rename_i q
      rcases List.mem_append.1 h with h | h
      · obtain ⟨k, a, b, c⟩ := prL_mem i h
        exact ⟨k, by omega, b, c⟩
      · rw [List.mem_singleton] at h
        exact ⟨i, by omega, q, h⟩
    · obtain ⟨k, a, b, c⟩ := prL_mem i h
      exact ⟨k, by omega, b, c⟩
/-- no name is the first one of two pairs. -/
theorem prL_fst {L M : List En} {num den : Int} (hU : Uni L) : ∀ i, i ≤ L.length → ((prL L M num den i).map (·.1)).Nodup
  | 0, _ => List.nodup_nil
  | i + 1, hi => by
    have ih := prL_fst (M := M) (num := num) (den := den) hU i (by omega)
    show ((if prB L M num den i then prL L M num den i ++ [prP L M i] else prL L M num den i).map (·.1)).Nodup
    split
    · rw [List.map_append, List.nodup_append]
      refine ⟨ih, by simp, fun a ha b hb e => ?_⟩
      simp only [List.map_cons, List.map_nil, List.mem_singleton] at hb
      obtain ⟨x, hx, rfl⟩ := List.mem_map.1 ha
      obtain ⟨k, h1, _, rfl⟩ := prL_mem i hx
      rw [hb] at e
      have := hU k i (by omega) (by omega) e
      omega
    · exact ih
theorem pr_ok {L M : List En} {num den : Int} (hU : Uni L) {D : List Pr2} (hp : D.Perm (prL L M num den L.length)) (hs : D.Pairwise (fun a b => ¬ b.1.data.toList < a.1.data.toList)) : PrOK L M num den D := by
  refine ⟨hp.length_eq, fun i hi => ?_, fun x hx => hp.mem_iff.1 hx⟩
  have hn : (D.map (·.1)).Nodup := ((hp.map (·.1)).nodup_iff).2 (prL_fst hU L.length (Nat.le_refl _))
  have h1 := List.pairwise_iff_getElem.1 hs i (i + 1) (by omega) hi (by omega)
  have e1 : D.getD i pr0 = D[i] := by rw [List.getD_eq_getElem?_getD, List.getElem?_eq_getElem (by omega)]; rfl
  have e2 : D.getD (i + 1) pr0 = D[i + 1] := by rw [List.getD_eq_getElem?_getD, List.getElem?_eq_getElem hi]; rfl
  rw [e1, e2, less_is, decide_eq_true_iff]
  have h2 := List.not_lt.1 h1
  rcases List.le_iff_lt_or_eq.1 h2 with h3 | h3
  · exact h3
  · exfalso
    have h4 : D[i].1 = D[i + 1].1 := by
      have e : D[i].1.data = D[i + 1].1.data := Array.toList_inj.1 h3
      generalize D[i].1 = a at *
      generalize D[i + 1].1 = b at *
      cases a
      cases b
      exact congrArg ByteArray.mk e
    have h5 := List.pairwise_iff_getElem.1 hn i (i + 1) (by simp; omega) (by simpa using hi) (by omega)
    simp only [List.getElem_map] at h5
    exact h5 h4
def CrPost (a : Nat → Addr) (L M : List En) (num den : Int) (O : Nat → Prop) (w : World) (r : Ending) (w' : World) : Prop := ∃ v E, r = .returned (.tuple #[v, E]) ∧ ErrIs a (coE ⟨1, 0, 0⟩ num den) E ∧ CrIs w' v L M num den ∧ Oth O w w'
theorem oth_below {O : Nat → Prop} {w w' : World} (g : Below w.heap.size w w') : Oth O w w' := ⟨g.os, g.tape, g.output, g.size, fun k hk _ => g.block k hk⟩
theorem cr_err {a : Nat → Addr} {L M : List En} {num den : Int} {O : Nat → Prop} {w w' : World} (e : coE ⟨1, 0, 0⟩ num den = 5) (g : Below w.heap.size w w') : CrPost a L M num den O w (.returned (.tuple #[.slice none 0 0, .iface 224 (.pointer (some (a 4)))])) w' :=
  ⟨_, _, rfl, .inr ⟨4, by decide, e, rfl⟩, ⟨none, 0, [], rfl, ⟨fun k hk => absurd hk (Nat.not_lt_zero k)⟩, by rw [e, if_neg (by decide)]⟩, oth_below g⟩
theorem cr_nil {a : Nat → Addr} {L M : List En} {num den : Int} {O : Nat → Prop} {w w' : World} {ad : Option Addr} {cap : Nat} (e : coE ⟨1, 0, 0⟩ num den = 0) (h : prL L M num den L.length = []) (g : Below w.heap.size w w') : CrPost a L M num den O w (.returned (.tuple #[.slice ad 0 cap, .nilIface])) w' :=
  ⟨_, _, rfl, .inl ⟨e, rfl⟩, ⟨ad, cap, [], rfl, ⟨fun k hk => absurd hk (Nat.not_lt_zero k)⟩, by rw [e, if_pos rfl]; exact ⟨by rw [h], fun i hi => absurd hi (by simp), fun x hx => nomatch hx⟩⟩, oth_below g⟩
theorem cr_ok {a : Nat → Addr} {L M : List En} {num den : Int} {O : Nat → Prop} {w w' : World} (e : coE ⟨1, 0, 0⟩ num den = 0) (hU : Uni L) {D : List Pr2} (hp : D.Perm (prL L M num den L.length)) (hs : D.Pairwise (fun a b => ¬ b.1.data.toList < a.1.data.toList)) {ad : Option Addr} {n cap : Nat} (hn : D.length = n) (hc : P2Came w' ad D) (g : Below w.heap.size w w') : CrPost a L M num den O w (.returned (.tuple #[.slice ad n cap, .nilIface])) w' :=
  ⟨_, _, rfl, .inl ⟨e, rfl⟩, ⟨ad, cap, D, by rw [hn], hc, by rw [e, if_pos rfl]; exact pr_ok hU hp hs⟩, oth_below g⟩
def PtS (v : Value) : Prop := ∃ g : Nat, v = .pointer (some ⟨g, 0, none⟩)
def ZSt (N : Nat) (v : Value) (w : World) : Prop := ∀ g : Nat, v = .pointer (some ⟨g, 0, none⟩) → w.heap[g]? = some (.cells #[.string ByteArray.empty, .int .i64 0, .int .i64 0, .int .i64 0] 89) ∧ N ≤ g
theorem zst_stb (N : Nat) (v : Value) : Stb (ZSt N v) := fun _ _ h k g e => ⟨keepB (h g e).1 k, (h g e).2⟩
theorem row_slice {w : World} {B n s : Nat} {e : TypeId} {v : Value} {xs : List Value} (h : w.ownsRow B e s v n xs) : ∃ ad cap, v = .slice ad n cap := by
  rcases h.2 with ⟨e1, e2⟩ | ⟨g, cap, cur, e1, _⟩
  · exact ⟨none, 0, by rw [e1, e2]⟩
  · exact ⟨_, cap, e1⟩
theorem row_drew {w : World} {B n s : Nat} {e : TypeId} {v : Value} {xs : List Value} (h : w.ownsRow B e s v n xs) : w.drew.ownsRow B e s v n xs := h
theorem info2S : (Tryz.prog.info? 53).map (fun i => (i.zero, i.size, i.bytes)) = some (some (.agg #[.string ByteArray.empty, .string ByteArray.empty]), 2, 32) := by kernel_rfl
/-- what lies in memory while pairs are looked for. -/
structure CrMem (L M : List En) (p q ba bb g1 g2 : Nat) (A B : Obj) (u : World) : Prop where
  hp : u.heap[p]? = some A
  hq : u.heap[q]? = some B
  sa : ∀ k, k < L.length → StAt u ba (k * 4) (L.getD k en0)
  sb : ∀ k, k < M.length → StAt u bb (k * 4) (M.getD k en0)
  there : ∀ k, k < L.length → u.cell? ⟨g1, k, none⟩ = some (.int .i64 (prK L M k))
  back : ∀ k, k < M.length → u.cell? ⟨g2, k, none⟩ = some (.int .i64 (prK M L k))
set_option maxRecDepth 1000000 in
set_option maxHeartbeats 12800000 in
theorem pcross_any {a : Nat → Addr} {w : World} {p q : Nat} {lv lv2 : Int} {L M : List En} {O Q : Nat → Prop} {sn sm : Int} (hA : URep w p lv L O sn) (hB : URep w q lv2 M Q sm) (hS : Sents w a) (hL : L.length ≤ 200) (hM : M.length ≤ 200) (num den : Int) :
    Calls Tryz.prog 17 #[.pointer (some ⟨p, 0, none⟩), .pointer (some ⟨q, 0, none⟩), .int .i64 num, .int .i64 den] w (CrPost a L M num den (fun k => O k ∨ Q k) w) := by
  have hic := fun u => piscos_any num den u
  have HSu : HeldR (∀ u, Below w.heap.size w u → Sents u a) := hideR (fun u g => hS.below g (Nat.le_refl _))
  have HA : HeldR (∀ u, Below w.heap.size w u → ARep u p lv L O sn) := hideR (fun u g => arep_keep hA.1 (fun j hj => g.block j (arep_low hA.1 j hj)))
  have HB : HeldR (∀ u, Below w.heap.size w u → ARep u q lv2 M Q sm) := hideR (fun u g => arep_keep hB.1 (fun j hj => g.block j (arep_low hB.1 j hj)))
  have HUL := hideR hA.2
  have HUM := hideR hB.2
  have hE : coE ⟨1, 0, 0⟩ num den = if dirB ⟨1, 0, 0⟩ = false ∨ den < 1 ∨ 1048576 < den ∨ den < num ∨ num < -den then 5 else 0 := rfl
  have hd1 : dirB ⟨1, 0, 0⟩ = true := by decide
  have H5 : HeldR (coE ⟨1, 0, 0⟩ num den = 5 → ∀ w', Below w.heap.size w w' → CrPost a L M num den (fun k => O k ∨ Q k) w (.returned (.tuple #[.slice none 0 0, .iface 224 (.pointer (some (a 4)))])) w') := hideR (fun e w' g => cr_err e g)
  have H0 : HeldR (coE ⟨1, 0, 0⟩ num den = 0 → prL L M num den L.length = [] → ∀ w' ad cap, Below w.heap.size w w' → CrPost a L M num den (fun k => O k ∨ Q k) w (.returned (.tuple #[.slice ad 0 cap, .nilIface])) w') := hideR (fun e h w' ad cap g => cr_nil e h g)
  have HOk : HeldR (coE ⟨1, 0, 0⟩ num den = 0 → ∀ D ad n cap w', D.Perm (prL L M num den L.length) → D.Pairwise (fun a b => ¬ b.1.data.toList < a.1.data.toList) → D.length = n → P2Came w' ad D → Below w.heap.size w w' → CrPost a L M num den (fun k => O k ∨ Q k) w (.returned (.tuple #[.slice ad n cap, .nilIface])) w') := hideR (fun e D ad n cap w' h1 h2 h3 h4 g => cr_ok e hA.2 h1 h2 h3 h4 g)
  generalize CrPost a L M num den (fun k => O k ∨ Q k) w = CP at *
  have s4 := (unhideR HSu w (Below.refl _ _)).g4
  clear hS hA hB
  obtain ⟨b, hb⟩ : ∃ b, decide (1 ≤ den ∧ den ≤ 1048576 ∧ -den ≤ num ∧ num ≤ den) = b := ⟨_, rfl⟩
  rw [hb] at hic
  cases b
  · have HR := hideR (unhideR H5 (by
      have := of_decide_eq_false hb
      rw [hE, if_pos (by omega)]) w.drew (drewF (Below.refl _ _)))
    clear hE H5 H0 HOk hb HUL HUM
    go_enter Tryz.func17, Tryz.ntmps17
    go_wp2_with fail
    refine (hic _).mono ?_
    rintro r u2 ⟨rfl, rfl⟩
    clear hic
    go_wp2_with fail
    go_region
    go_wp2
    exact unhideR HR
  have hq := of_decide_eq_true hb
  have HE0 : HeldR (coE ⟨1, 0, 0⟩ num den = 0) := hideR (by rw [hE, if_neg (by rw [hd1]; simp; omega)])
  clear hE H5 s4 hd1
  have hsa := fun u (g : Below w.heap.size w u) => psize2_any (unhideR HA u g)
  have hsb := fun u (g : Below w.heap.size w u) => psize2_any (unhideR HB u g)
  obtain ⟨n, hn⟩ : ∃ n, L.length = n := ⟨_, rfl⟩
  have Hn := hideR hn
  obtain ⟨m, hm⟩ : ∃ m, M.length = m := ⟨_, rfl⟩
  have Hm := hideR hm
  rw [hn] at hsa hL
  rw [hm] at hsb hM
  go_enter Tryz.func17, Tryz.ntmps17
  go_wp2_with fail
  refine (hic _).mono ?_
  rintro r u2 ⟨rfl, rfl⟩
  clear hic
  go_wp2_with fail
  refine (hsa _ (Below.refl _ _)).mono ?_
  rintro r u2 ⟨rfl, rfl⟩
  by_cases h0 : n = 0
  · subst h0
    have HQ := hideR (unhideR H0 (unhideR HE0) (by rw [hn]; rfl) u2 none 0 (Below.refl _ _))
    clear H0 HOk HA HB HUL HUM hsa hsb
    go_wp2
    exact unhideR HQ
  have tb : ((n : Int) == 0) = false := beq_eq_false_iff_ne.2 (by omega)
  have tbn : (n == 0) = false := beq_eq_false_iff_ne.2 h0
  go_wp2_with fail
  refine (hsb _ (Below.refl _ _)).mono ?_
  rintro r u2 ⟨rfl, rfl⟩
  by_cases h1 : m = 0
  · subst h1
    have HQ := hideR (unhideR H0 (unhideR HE0) (prL_none hm num den _) u2 none 0 (Below.refl _ _))
    clear H0 HOk HA HB HUL HUM hsa hsb
    go_wp2
    exact unhideR HQ
  have tc : ((m : Int) == 0) = false := beq_eq_false_iff_ne.2 (by omega)
  have tcn : (m == 0) = false := beq_eq_false_iff_ne.2 h1
  have hni := pnin_any (unhideR HA u2 (Below.refl _ _)) (unhideR HB u2 (Below.refl _ _)) (unhideR HUM) (by omega) (by omega) (by omega)
  clear hsa hsb
  go_wp2_with fail
  refine hni.mono ?_
  rintro r u3 ⟨⟨g1, C1, rfl, hc1, hj1, hp1⟩, k3⟩
  have hnb := pnin_any (unhideR HB u3 k3) (unhideR HA u3 k3) (unhideR HUL) (by omega) (by omega) (by omega)
  have HJ1 := hideR hj1
  have HP1 := hideR hp1
  have HK3 := hideR k3
  clear hni hj1 hp1 k3
  go_wp2_with fail
  refine hnb.mono ?_
  rintro r u4 ⟨⟨g2, C2, rfl, hc2, hj2, hp2⟩, k4⟩
  obtain ⟨sva, bna, bca, esa, cka, hxa, hOa⟩ := unhideR HA u4 (below_go (unhideR HK3) k4)
  obtain ⟨ada, capa, eva, hra⟩ := hxa.ro
  subst eva
  obtain ⟨svb, bnb, bcb, esb, ckb, hxb, hOb⟩ := unhideR HB u4 (below_go (unhideR HK3) k4)
  obtain ⟨adb, capb, evb, hrb⟩ := hxb.ro
  subst evb
  obtain ⟨ba, eba, hlba, _⟩ := hra.st 0 (by omega)
  obtain ⟨bb, ebb, hlbb, _⟩ := hrb.st 0 (by omega)
  subst eba
  subst ebb
  have HU : HeldR (∀ u, Below u4.heap.size u4 u → CrMem L M p q ba bb g1 g2 (.cells #[.int .i64 lv, .slice (some ⟨ba, 0, none⟩) L.length capa, .map (some bna), .map (some bca), .int .i64 sn] 82) (.cells #[.int .i64 lv2, .slice (some ⟨bb, 0, none⟩) M.length capb, .map (some bnb), .map (some bcb), .int .i64 sm] 82) u) := hideR (fun u hu => by
    have j1 := ((unhideR HJ1).below k4).below hu
    have j2 := hj2.below hu
    refine ⟨keepB hxa.hp hu, keepB hxb.hp hu, fun k hk => ?_, fun k hk => ?_, fun k hk => ?_, fun k hk => ?_⟩
    · obtain ⟨b', e', hb', hs'⟩ := hra.st k hk
      cases e'
      have c := fun o => World.cell?_of_block (a := ⟨ba, o, none⟩) (hu.block ba hb')
      exact ⟨(c _).trans hs'.c0, (c _).trans hs'.c1, (c _).trans hs'.c2, (c _).trans hs'.c3⟩
    · obtain ⟨b', e', hb', hs'⟩ := hrb.st k hk
      cases e'
      have c := fun o => World.cell?_of_block (a := ⟨bb, o, none⟩) (hu.block bb hb')
      exact ⟨(c _).trans hs'.c0, (c _).trans hs'.c1, (c _).trans hs'.c2, (c _).trans hs'.c3⟩
    · have := (j1.has hc1 hk).1
      rwa [unhideR HP1 k hk] at this
    · have := (j2.has hc2 hk).1
      rwa [hp2 k hk] at this)
  have HDL : HeldR (∀ k, k < n → dirB (L.getD k en0).d = true) := hideR (fun k hk => getD_dir hra.dir (by omega))
  have HDM : HeldR (∀ k, k < m → dirB (M.getD k en0).d = true) := hideR (fun k hk => getD_dir hrb.dir (by omega))
  have HRg : HeldR (∀ k, k < n → 0 ≤ prK L M k ∧ prK L M k < (m : Int)) := hideR (fun k _ => by
    have h1 := nb_best (d := (L.getD k en0).d) hrb.dir M.length (Nat.le_refl _)
    have h2 := h1.1 (by omega)
    have h3 := h1.2.1
    unfold prK
    omega)
  have HB4 := hideR (below_go (unhideR HK3) k4)
  rw [hn, hm] at HU
  have HU2 : HeldR (∀ u, Below u4.heap.size u4 u → CrMem L M p q ba bb g1 g2 (.cells #[.int .i64 lv, .slice (some ⟨ba, 0, none⟩) n capa, .map (some bna), .map (some bca), .int .i64 sn] 82) (.cells #[.int .i64 lv2, .slice (some ⟨bb, 0, none⟩) m capb, .map (some bnb), .map (some bcb), .int .i64 sm] 82) u) := HU
  have c1 := (cells_at (unhideR HU2 u4 (Below.refl _ _)).hp 1 (by simp)).1
  clear hnb hj2 hp2 k4 hxa hxb hra hrb hOa hOb HJ1 HP1 HK3 HA HB hlba hlbb hc1 hc2 HU
  have HO4 : HeldR (u4.ownsRow u4.heap.size 53 2 (.slice none 0 0) (prL L M num den 0).length (flatPr (prL L M num den 0))) := hideR (World.ownsRow_nil _ _ _ _)
  have HPl : HeldR (∀ i, (prL L M num den i).length ≤ i) := hideR (prL_len L M num den)
  obtain ⟨i0, hi0, hz0, hz1, hz2⟩ := info_parts info2S
  go_upto_region 7 with fail
  go_wp2_with fail
  clear c1
  go_loopw [12, 40] (fun pv iv wl => ∃ (i : Nat), i ≤ n ∧ iv = .int .i64 (i : Nat) ∧ HeldR (wl.ownsRow u4.heap.size 53 2 pv (prL L M num den i).length (flatPr (prL L M num den i))) ∧ HeldR (Below u4.heap.size u4 wl)) (fun _ iv _ => n + 1 - (intOf iv).toNat)
  case atStart => exact ⟨0, by omega, rfl, HO4, hideR (Below.refl _ _)⟩
  case round =>
    clear HO4
    obtain ⟨i, hi, rfl, HO, HB⟩ := hrel
    by_cases q1 : i < n
    case neg =>
      obtain rfl : i = n := by omega
      have ti : decide ((i : Int) < (i : Int)) = false := decide_eq_false (by omega)
      have tin : decide (i < i) = false := decide_eq_false (by omega)
      have hpl := unhideR HPl i
      rcases Nat.eq_zero_or_pos (prL L M num den i).length with hz | hz
      · obtain ⟨ap, cp, ep⟩ := row_slice (unhideR HO)
        rw [hz] at ep
        subst ep
        have hso := sortPr_none ap cp wr
        have HQ := hideR (unhideR H0 (unhideR HE0) (by rw [unhideR Hn]; exact List.length_eq_zero_iff.1 hz) wr ap cp (below_go (unhideR HB4) (unhideR HB)))
        clear HO HB HU2 HOk H0 HDL HDM HRg HB4 HPl hz hpl
        go_wp2_with fail
        refine hso.mono ?_
        rintro r u5 ⟨rfl, rfl⟩
        clear hso
        go_wp2
        exact unhideR HQ
      · have hso := sortPr_any (unhideR HO) hz (by omega)
        obtain ⟨ap, cp, ep⟩ := row_slice (unhideR HO)
        subst ep
        have HFin : HeldR (∀ u5 D ad cap, (.slice ap (prL L M num den i).length cp : Value) = .slice ad (prL L M num den i).length cap → D.Perm (prL L M num den i) → D.Pairwise (fun a b => ¬ b.1.data.toList < a.1.data.toList) → P2Came u5 ad D → Below u4.heap.size wr u5 → CP (.returned (.tuple #[.slice ap (prL L M num den i).length cp, .nilIface])) u5) := hideR (fun u5 D ad cap e h1 h2 h3 h4 => by
          simp only [Value.slice.injEq] at e
          obtain ⟨rfl, _, rfl⟩ := e
          refine unhideR HOk (unhideR HE0) D ap _ cp u5 ?_ h2 h1.length_eq h3 ?_
          · rw [unhideR Hn]; exact h1
          · have hb := unhideR HB
            exact (unhideR HB4).trans ((hb.trans h4).mono (unhideR HB4).size))
        generalize prL L M num den i = PL at *
        obtain ⟨nl, hnl⟩ : ∃ nl, PL.length = nl := ⟨_, rfl⟩
        rw [hnl] at hso HFin ⊢
        clear HO HB HU2 HOk H0 HDL HDM HRg HB4 HPl hz
        go_wp2_with fail
        refine hso.mono ?_
        rintro r u5 ⟨rfl, D, ad, cap, e, h1, h2, h3, h4⟩
        rw [hnl] at e
        have HQ := hideR (unhideR HFin u5 D ad cap e h1 h2 h3 h4)
        clear hso HFin e h1 h2 h3 h4 hnl
        go_wp2
        exact unhideR HQ
    have ti : decide ((i : Int) < (n : Int)) = true := decide_eq_true (by omega)
    have tin : decide (i < n) = true := decide_eq_true q1
    have wi : IntKind.i64.wrap ((i : Int) + 1) = (i : Int) + 1 := iwrap (by omega) (by omega)
    have hii : (i : Int) < (n : Int) := by omega
    have hCM := unhideR HU2 wr (unhideR HB)
    have hSt := hCM.sa i (by have := unhideR Hn; omega)
    have s0 := hSt.c0
    have s1 := hSt.c1
    have s2 := hSt.c2
    have s3 := hSt.c3
    have hyr := unhideR HRg i q1
    have hdi := unhideR HDL i q1
    have HB5 : HeldR (prB L M num den i = (decide (0 ≤ prK L M i) && (decide (nbV (M.getD (prK L M i).toNat en0).d L L.length = (i : Int)) && coB (L.getD i en0).d (M.getD (prK L M i).toNat en0).d num den))) := hideR rfl
    have HP5 : HeldR (prP L M i = ((L.getD i en0).nm, (M.getD (prK L M i).toNat en0).nm)) := hideR rfl
    have HL5 : HeldR (prL L M num den (i + 1) = if prB L M num den i then prL L M num den i ++ [prP L M i] else prL L M num den i) := hideR rfl
    have HT5 : HeldR (∀ u, Below u4.heap.size u4 u → u.cell? ⟨g1, i, none⟩ = some (.int .i64 (prK L M i))) := hideR (fun u hu => (unhideR HU2 u hu).there i (by have := unhideR Hn; omega))
    obtain ⟨y, hy⟩ : ∃ y : Nat, prK L M i = y := ⟨(prK L M i).toNat, by omega⟩
    rw [hy, Int.toNat_natCast] at HB5 HP5
    rw [hy] at HT5 hyr
    have hym : y < m := by omega
    have hymi : (y : Int) < (m : Int) := by omega
    have hdy := unhideR HDM y hym
    have HK5 : HeldR (prK M L y = nbV (M.getD y en0).d L L.length) := hideR rfl
    have HM5 : HeldR (∀ u, Below u4.heap.size u4 u → u.heap[q]? = some (.cells #[.int .i64 lv2, .slice (some ⟨bb, 0, none⟩) m capb, .map (some bnb), .map (some bcb), .int .i64 sm] 82) ∧ StAt u bb (y * 4) (M.getD y en0) ∧ u.cell? ⟨g2, y, none⟩ = some (.int .i64 (prK M L y))) := hideR (fun u hu => ⟨(unhideR HU2 u hu).hq, (unhideR HU2 u hu).sb y (by have := unhideR Hm; omega), (unhideR HU2 u hu).back y (by have := unhideR Hm; omega)⟩)
    rw [decide_eq_true (show (0 : Int) ≤ ((y : Nat) : Int) by omega), Bool.true_and, ← unhideR HK5, coB_is hdi hdy (by omega)] at HB5
    generalize prK M L y = zb at *
    generalize L.getD i en0 = e at *
    generalize M.getD y en0 = f at *
    obtain ⟨PL, hPL⟩ : ∃ PL, prL L M num den i = PL := ⟨_, rfl⟩
    have hpl : PL.length ≤ i := by rw [← hPL]; exact unhideR HPl i
    rw [hPL] at HO HL5
    clear hCM hSt hy hPL HK5 hyr HDL HDM HRg HPl
    obtain ⟨ap, cp, ep⟩ := row_slice (unhideR HO)
    subst ep
    obtain ⟨nl, hnl⟩ : ∃ nl, PL.length = nl := ⟨_, rfl⟩
    have Hnl := hideR hnl
    rw [hnl] at HO hpl ⊢
    clear hnl
    have HZ0 := hideR (alloc_last wr (.cells #[.string e.nm, .int .i64 e.d.x, .int .i64 e.d.y, .int .i64 e.d.z] 89))
    have hba := below_a wr (.cells #[.string e.nm, .int .i64 e.d.x, .int .i64 e.d.y, .int .i64 e.d.z] 89)
    have HB6 := hideR ((unhideR HB).trans (hba.mono (unhideR HB).size))
    have HO6 := hideR (own_below2 (unhideR HO) hba)
    clear hba
    go_upto_region 10 with fail
    generalize wr.alloc (.cells #[.string e.nm, .int .i64 e.d.x, .int .i64 e.d.y, .int .i64 e.d.z] 89) = u5 at *
    obtain ⟨Z, hZ⟩ : ∃ Z, wr.heap.size = Z := ⟨_, rfl⟩
    rw [hZ] at HZ0 ⊢
    clear hZ s0 s1 s2 s3 HO HB
    have HY : HeldR (∀ v, Below u5.heap.size u5 v → v.heap[q]? = some (.cells #[.int .i64 lv2, .slice (some ⟨bb, 0, none⟩) m capb, .map (some bnb), .map (some bcb), .int .i64 sm] 82) ∧ v.cell? ⟨g1, i, none⟩ = some (.int .i64 (y : Nat)) ∧ StAt v bb (y * 4) f) := hideR (fun v hv => by
      have g := (unhideR HB6).trans (hv.mono (unhideR HB6).size)
      exact ⟨(unhideR HM5 v g).1, unhideR HT5 v g, (unhideR HM5 v g).2.1⟩)
    obtain ⟨Z5, hZ5⟩ : ∃ Z, u5.heap.size = Z := ⟨_, rfl⟩
    have HZ5 := hideR hZ5
    clear hZ5
    refine wp_region_made 0 #[true, true, true, true, true, true, true, true, true, true, true, false] [.lets (· = .pointer (some ⟨q, 0, none⟩)),
      .lets (· = .pointer (some ⟨q, 0, none⟩)),
      .lets (· = .pointer (some ⟨q, 1, none⟩)),
      .lets (· = .slice (some ⟨bb, 0, none⟩) m capb),
      .lets (· = .slice (some ⟨g1, 0, none⟩) n n),
      .lets (· = .int .i64 (i : Nat)),
      .lets (· = .pointer (some ⟨g1, i, none⟩)),
      .lets (· = .int .i64 (y : Nat)),
      .lets (· = .pointer (some ⟨bb, y * 4, none⟩)),
      .lets (· = .agg #[.string f.nm, .int .i64 f.d.x, .int .i64 f.d.y, .int .i64 f.d.z]),
      .made PtS (ZSt Z5)] [10] [] (by kernel_rfl) (by kernel_rfl) rfl ?kinds (by kernel_rfl) (by kernel_rfl) (by kernel_rfl) ?_
    case kinds =>
      constructor
      · intro i h
        rcases i with _ | _ | _ | _ | _ | _ | _ | _ | _ | _ | _ | i <;> simp [Kx.isMade] at h ⊢
      · intro i h
        rcases i with _ | _ | _ | _ | _ | _ | _ | _ | _ | _ | _ | i <;> simp [Kx.isUse] at h
    refine lexX_step (fun K hK => ⟨by kernel_rfl, ⟨_, rfl⟩, fun v hv => ?_, fun v hv => ?_⟩)
    · go_simp
      exact mUpon_b
    subst hv
    go_simp
    refine hK _ ?_
    clear hK K
    refine lexX_step (fun K hK => ⟨by kernel_rfl, ⟨_, rfl⟩, fun v hv => ?_, fun v hv => ?_⟩)
    · go_simp
      exact mUpon_b
    subst hv
    go_simp
    refine hK _ ?_
    clear hK K
    refine lexX_step (fun K hK => ⟨by kernel_rfl, ⟨_, rfl⟩, fun v hv => ?_, fun v hv => ?_⟩)
    · go_simp
      exact mUpon_b
    subst hv
    go_simp
    refine hK _ ?_
    clear hK K
    refine lexX_step (fun K hK => ⟨by kernel_rfl, ⟨_, rfl⟩, fun v hv => ?_, fun v hv => ?_⟩)
    · have y0 := (cells_at (unhideR HY v hv).1 1 (by simp)).1
      go_simp
      exact mUpon_b
    subst hv
    go_simp
    refine hK _ ?_
    clear hK K
    refine lexX_step (fun K hK => ⟨by kernel_rfl, ⟨_, rfl⟩, fun v hv => ?_, fun v hv => ?_⟩)
    · go_simp
      exact mUpon_b
    subst hv
    go_simp
    refine hK _ ?_
    clear hK K
    refine lexX_step (fun K hK => ⟨by kernel_rfl, ⟨_, rfl⟩, fun v hv => ?_, fun v hv => ?_⟩)
    · go_simp
      exact mUpon_b
    subst hv
    go_simp
    refine hK _ ?_
    clear hK K
    refine lexX_step (fun K hK => ⟨by kernel_rfl, ⟨_, rfl⟩, fun v hv => ?_, fun v hv => ?_⟩)
    · go_simp
      exact mUpon_b
    subst hv
    go_simp
    refine hK _ ?_
    clear hK K
    refine lexX_step (fun K hK => ⟨by kernel_rfl, ⟨_, rfl⟩, fun v hv => ?_, fun v hv => ?_⟩)
    · have y0 := (unhideR HY v hv).2.1
      go_simp
      exact mUpon_b
    subst hv
    go_simp
    refine hK _ ?_
    clear hK K
    refine lexX_step (fun K hK => ⟨by kernel_rfl, ⟨_, rfl⟩, fun v hv => ?_, fun v hv => ?_⟩)
    · go_simp
      exact mUpon_b
    subst hv
    go_simp
    refine hK _ ?_
    clear hK K
    refine lexX_step (fun K hK => ⟨by kernel_rfl, ⟨_, rfl⟩, fun v hv => ?_, fun v hv => ?_⟩)
    · obtain ⟨y0, y1, y2, y3⟩ := (unhideR HY v hv).2.2
      go_simp
      exact mUpon_b
    subst hv
    go_simp
    refine hK _ ?_
    clear hK K
    refine lexX_made ⟨by kernel_rfl, ⟨_, 0, rfl⟩, zst_stb _, fun v hv => ?_, ?_⟩
    · go_simp
      exact ⟨below_a v _, ⟨_, rfl⟩, fun q' hq' => by cases hq'; exact ⟨alloc_last v _, by have := hv.size; rw [unhideR HZ5] at this; exact this⟩⟩
    rintro _ ⟨u9, rfl⟩ K9 hK
    go_simp
    refine hK _ ?_
    clear hK K9
    refine lexX_end (fun v5 hv => ?_)
    obtain ⟨z9, n9⟩ := hv.fact.2 _ rfl
    have HV := hideR hv.low
    clear hv HY
    have HV6 := hideR (set4_bl4 (unhideR HV) (show u5.heap.size ≤ u9 by rw [unhideR HZ5]; exact n9) (.string f.nm) (.int .i64 f.d.x) (.int .i64 f.d.y) (.int .i64 f.d.z))
    have HC6 := hideR (set4_at4 z9 (.string f.nm) (.int .i64 f.d.x) (.int .i64 f.d.y) (.int .i64 f.d.z))
    have d0 := (cells_at z9 0 (by simp)).1
    have f0 := (cells_at z9 0 (by simp)).2
    have d1 := (cells_at z9 1 (by simp)).1
    have f1 := (cells_at z9 1 (by simp)).2
    have d2 := (cells_at z9 2 (by simp)).1
    have f2 := (cells_at z9 2 (by simp)).2
    have d3 := (cells_at z9 3 (by simp)).1
    have f3 := (cells_at z9 3 (by simp)).2
    refine wpAny_step (i := 11) (by kernel_rfl) rfl (by kernel_rfl) (fun K hK => ?_)
    unfold Oper.wp
    go_simp
    refine hK _ _ ?_
    clear hK K
    refine wpAny_end (by kernel_rfl) ?_
    clear d0 d1 d2 d3 f0 f1 f2 f3 z9 HV
    generalize (((v5.setCell ⟨u9, 0, none⟩ (.string f.nm)).setCell ⟨u9, 1, none⟩ (.int .i64 f.d.x)).setCell ⟨u9, 2, none⟩ (.int .i64 f.d.y)).setCell ⟨u9, 3, none⟩ (.int .i64 f.d.z) = u6 at *
    have HB7 := hideR ((unhideR HB6).trans ((unhideR HV6).mono (unhideR HB6).size))
    have HO7 := hideR (own_below2 (unhideR HO6) (unhideR HV6))
    have HY : HeldR (∀ v, Below u6.heap.size u6 v → v.cell? ⟨g1, i, none⟩ = some (.int .i64 (y : Nat)) ∧ v.cell? ⟨g2, y, none⟩ = some (.int .i64 zb) ∧ v.heap[Z]? = some (.cells #[.string e.nm, .int .i64 e.d.x, .int .i64 e.d.y, .int .i64 e.d.z] 89) ∧ v.heap[u9]? = some (.cells #[.string f.nm, .int .i64 f.d.x, .int .i64 f.d.y, .int .i64 f.d.z] 89)) := hideR (fun v hv => by
      have g := (unhideR HB7).trans (hv.mono (unhideR HB7).size)
      exact ⟨unhideR HT5 v g, (unhideR HM5 v g).2.2, keepB (unhideR HZ0) ((unhideR HV6).trans (hv.mono (unhideR HV6).size)), keepB (unhideR HC6) hv⟩)
    clear HB6 HO6 HV6 HZ0 HC6 v5 HM5 HT5 n9
    have hct := fun u => pcosTo_any e.d f.d hdi hdy u
    have hcf := fun u => pcosFrom_any e.d hdi num den (by omega) (by omega) u
    have hg1 := coTo_gd hdi hdy
    have hg2 : (coFrom e.d num den).Gd := by
      have hb := dir_is hdi
      have h1 := dtB hdi hdi
      have ok : (coFrom e.d num den).Ok := coFrom_ok (dt_pos (by omega)) (by omega)
      have k1 := sq_toNat (x := num) (A := 1048576) ⟨by omega, by omega⟩ (by omega)
      have k2 := sq_toNat (x := den) (A := 1048576) ⟨by omega, by omega⟩ (by omega)
      have k3 := mulP (x := num * num) (y := dtV e.d e.d) (A := 1099511627776) (B := 3298534883328) ⟨by omega, by omega⟩ h1 (by omega) (by omega)
      exact ⟨ok, ok.sm (by show num * num * dtV e.d e.d ≤ _; omega) (by show den * den ≤ _; omega)⟩
    have hcm := fun u => pcmp_any (coTo e.d f.d) (coFrom e.d num den) hg1.sm hg2.sm u
    generalize coTo e.d f.d = ct at *
    generalize coFrom e.d num den = cf at *
    generalize coCmp ct cf = cz at *
    simp only [coV_is] at hct hcf hcm
    unfold Dr.val at hct hcf
    clear hg1 hg2 hdi hdy
    have HF : HeldR (prB L M num den i = false → ∀ v, Below u6.heap.size u6 v → (v.ownsRow u4.heap.size 53 2 (.slice ap nl cp) (prL L M num den (i + 1)).length (flatPr (prL L M num den (i + 1))) ∧ Below u4.heap.size u4 v)) := hideR (fun hb v hv => by
      rw [unhideR HL5, hb, if_neg (by decide), unhideR Hnl]
      exact ⟨own_below2 (unhideR HO7) hv, (unhideR HB7).trans (hv.mono (unhideR HB7).size)⟩)
    by_cases qe : zb = (i : Int)
    case neg =>
      have te : (zb == (i : Int)) = false := beq_eq_false_iff_ne.2 qe
      have HFn := hideR (unhideR HF (by rw [unhideR HB5, decide_eq_false qe, Bool.false_and]))
      clear HB5 HF HP5 HL5 HO7 HB7 qe hct hcf hcm
      go_upto_region 11 with fail
      refine wp_region_made 0 #[true, true, true, true, true, true, true, true, true, true, true, true, true, true, true, true, true, true, true, true, true, true, false] [.lets (· = .slice (some ⟨g2, 0, none⟩) m m),
        .lets (· = .slice (some ⟨g1, 0, none⟩) n n),
        .lets (· = .int .i64 (i : Nat)),
        .lets (· = .pointer (some ⟨g1, i, none⟩)),
        .lets (· = .int .i64 (y : Nat)),
        .lets (· = .pointer (some ⟨g2, y, none⟩)),
        .lets (· = .int .i64 zb),
        .lets (· = .int .i64 (i : Nat)),
        .lets (· = .bool false),
        .lets (· = .bool false),
        .lets (· = undef),
        .lets (· = undef),
        .lets (· = undef),
        .lets (· = undef),
        .lets (· = undef),
        .lets (· = undef),
        .lets (· = undef),
        .lets (· = undef),
        .lets (· = undef),
        .lets (· = undef),
        .lets (· = undef),
        .lets (· = undef)] [] [] (by kernel_rfl) (by kernel_rfl) rfl ?kinds (by kernel_rfl) (by kernel_rfl) (by kernel_rfl) ?_
      case kinds =>
        constructor
        · intro i h
          rcases i with _ | _ | _ | _ | _ | _ | _ | _ | _ | _ | _ | _ | _ | _ | _ | _ | _ | _ | _ | _ | _ | _ | i <;> simp [Kx.isMade] at h
        · intro i h
          rcases i with _ | _ | _ | _ | _ | _ | _ | _ | _ | _ | _ | _ | _ | _ | _ | _ | _ | _ | _ | _ | _ | _ | i <;> simp [Kx.isUse] at h
      refine lexX_step (fun K hK => ⟨by kernel_rfl, ⟨_, rfl⟩, fun v hv => ?_, fun v hv => ?_⟩)
      · go_simp
        exact mUpon_b
      subst hv
      go_simp
      refine hK _ ?_
      clear hK K
      refine lexX_step (fun K hK => ⟨by kernel_rfl, ⟨_, rfl⟩, fun v hv => ?_, fun v hv => ?_⟩)
      · go_simp
        exact mUpon_b
      subst hv
      go_simp
      refine hK _ ?_
      clear hK K
      refine lexX_step (fun K hK => ⟨by kernel_rfl, ⟨_, rfl⟩, fun v hv => ?_, fun v hv => ?_⟩)
      · go_simp
        exact mUpon_b
      subst hv
      go_simp
      refine hK _ ?_
      clear hK K
      refine lexX_step (fun K hK => ⟨by kernel_rfl, ⟨_, rfl⟩, fun v hv => ?_, fun v hv => ?_⟩)
      · go_simp
        exact mUpon_b
      subst hv
      go_simp
      refine hK _ ?_
      clear hK K
      refine lexX_step (fun K hK => ⟨by kernel_rfl, ⟨_, rfl⟩, fun v hv => ?_, fun v hv => ?_⟩)
      · have y0 := (unhideR HY v hv).1
        go_simp
        exact mUpon_b
      subst hv
      go_simp
      refine hK _ ?_
      clear hK K
      refine lexX_step (fun K hK => ⟨by kernel_rfl, ⟨_, rfl⟩, fun v hv => ?_, fun v hv => ?_⟩)
      · go_simp
        exact mUpon_b
      subst hv
      go_simp
      refine hK _ ?_
      clear hK K
      refine lexX_step (fun K hK => ⟨by kernel_rfl, ⟨_, rfl⟩, fun v hv => ?_, fun v hv => ?_⟩)
      · have y0 := (unhideR HY v hv).2.1
        go_simp
        exact mUpon_b
      subst hv
      go_simp
      refine hK _ ?_
      clear hK K
      refine lexX_step (fun K hK => ⟨by kernel_rfl, ⟨_, rfl⟩, fun v hv => ?_, fun v hv => ?_⟩)
      · go_simp
        exact mUpon_b
      subst hv
      go_simp
      refine hK _ ?_
      clear hK K
      refine lexX_step (fun K hK => ⟨by kernel_rfl, ⟨_, rfl⟩, fun v hv => ?_, fun v hv => ?_⟩)
      · go_simp
        exact mUpon_b
      subst hv
      go_simp
      refine hK _ ?_
      clear hK K
      refine lexX_step (fun K hK => ⟨by kernel_rfl, ⟨_, rfl⟩, fun v hv => ?_, fun v hv => ?_⟩)
      · go_simp
        exact mUpon_b
      subst hv
      go_simp
      refine hK _ ?_
      clear hK K
      refine lexX_skip (fun K hK => ⟨by kernel_rfl, ?_⟩)
      go_simp
      refine hK _ ?_
      clear hK K
      refine lexX_skip (fun K hK => ⟨by kernel_rfl, ?_⟩)
      go_simp
      refine hK _ ?_
      clear hK K
      refine lexX_skip (fun K hK => ⟨by kernel_rfl, ?_⟩)
      go_simp
      refine hK _ ?_
      clear hK K
      refine lexX_skip (fun K hK => ⟨by kernel_rfl, ?_⟩)
      go_simp
      refine hK _ ?_
      clear hK K
      refine lexX_skip (fun K hK => ⟨by kernel_rfl, ?_⟩)
      go_simp
      refine hK _ ?_
      clear hK K
      refine lexX_skip (fun K hK => ⟨by kernel_rfl, ?_⟩)
      go_simp
      refine hK _ ?_
      clear hK K
      refine lexX_skip (fun K hK => ⟨by kernel_rfl, ?_⟩)
      go_simp
      refine hK _ ?_
      clear hK K
      refine lexX_skip (fun K hK => ⟨by kernel_rfl, ?_⟩)
      go_simp
      refine hK _ ?_
      clear hK K
      refine lexX_skip (fun K hK => ⟨by kernel_rfl, ?_⟩)
      go_simp
      refine hK _ ?_
      clear hK K
      refine lexX_skip (fun K hK => ⟨by kernel_rfl, ?_⟩)
      go_simp
      refine hK _ ?_
      clear hK K
      refine lexX_skip (fun K hK => ⟨by kernel_rfl, ?_⟩)
      go_simp
      refine hK _ ?_
      clear hK K
      refine lexX_skip (fun K hK => ⟨by kernel_rfl, ?_⟩)
      go_simp
      refine hK _ ?_
      clear hK K
      refine lexX_end (fun v5 hv => ?_)
      have HQ := hideR (unhideR HFn v5 hv.low)
      clear hv HFn HY
      refine wpAny_step (i := 22) (by kernel_rfl) rfl (by kernel_rfl) (fun K hK => ?_)
      unfold Oper.wp
      go_simp
      refine hK _ _ ?_
      clear hK K
      refine wpAny_end (by kernel_rfl) ?_
      have HQ1 := hideR (unhideR HQ).1
      have HQ2 := hideR (unhideR HQ).2
      clear HQ
      go_wp2
      exact ⟨⟨i + 1, by omega, by go_num, HQ1, HQ2⟩, by simp [intOf]; omega⟩
    obtain ⟨cb, hcb⟩ : ∃ cb, decide (0 ≤ cz) = cb := ⟨_, rfl⟩
    have te : (zb == (i : Int)) = true := beq_iff_eq.2 qe
    rw [hcb, decide_eq_true qe, Bool.true_and] at HB5
    have ti2 : ((i : Int) == (i : Int)) = true := beq_self_eq_true _
    clear qe
    go_upto_region 11 with fail
    refine wp_region_made 0 #[true, true, true, true, true, true, true, true, true, true, true, true, true, true, true, true, true, true, true, true, true, true, false] [.lets (· = .slice (some ⟨g2, 0, none⟩) m m),
      .lets (· = .slice (some ⟨g1, 0, none⟩) n n),
      .lets (· = .int .i64 (i : Nat)),
      .lets (· = .pointer (some ⟨g1, i, none⟩)),
      .lets (· = .int .i64 (y : Nat)),
      .lets (· = .pointer (some ⟨g2, y, none⟩)),
      .lets (· = .int .i64 zb),
      .lets (· = .int .i64 (i : Nat)),
      .lets (· = .bool true),
      .lets (· = .bool true),
      .lets (· = .pointer (some ⟨Z, 1, none⟩)),
      .lets (· = .agg #[.int .i64 e.d.x, .int .i64 e.d.y, .int .i64 e.d.z]),
      .lets (· = .pointer (some ⟨u9, 1, none⟩)),
      .lets (· = .agg #[.int .i64 f.d.x, .int .i64 f.d.y, .int .i64 f.d.z]),
      .lets (· = .agg #[.int .i64 ct.sg, .int .u64 (ohV ct), .int .u64 (olV ct), .int .i64 ct.un]),
      .lets (· = .pointer (some ⟨Z, 1, none⟩)),
      .lets (· = .agg #[.int .i64 e.d.x, .int .i64 e.d.y, .int .i64 e.d.z]),
      .lets (· = .int .i64 num),
      .lets (· = .int .i64 den),
      .lets (· = .agg #[.int .i64 cf.sg, .int .u64 (ohV cf), .int .u64 (olV cf), .int .i64 cf.un]),
      .lets (· = .int .i64 cz),
      .lets (· = .bool cb)] [] [] (by kernel_rfl) (by kernel_rfl) rfl ?kinds (by kernel_rfl) (by kernel_rfl) (by kernel_rfl) ?_
    case kinds =>
      constructor
      · intro i h
        rcases i with _ | _ | _ | _ | _ | _ | _ | _ | _ | _ | _ | _ | _ | _ | _ | _ | _ | _ | _ | _ | _ | _ | i <;> simp [Kx.isMade] at h
      · intro i h
        rcases i with _ | _ | _ | _ | _ | _ | _ | _ | _ | _ | _ | _ | _ | _ | _ | _ | _ | _ | _ | _ | _ | _ | i <;> simp [Kx.isUse] at h
    refine lexX_step (fun K hK => ⟨by kernel_rfl, ⟨_, rfl⟩, fun v hv => ?_, fun v hv => ?_⟩)
    · go_simp
      exact mUpon_b
    subst hv
    go_simp
    refine hK _ ?_
    clear hK K
    refine lexX_step (fun K hK => ⟨by kernel_rfl, ⟨_, rfl⟩, fun v hv => ?_, fun v hv => ?_⟩)
    · go_simp
      exact mUpon_b
    subst hv
    go_simp
    refine hK _ ?_
    clear hK K
    refine lexX_step (fun K hK => ⟨by kernel_rfl, ⟨_, rfl⟩, fun v hv => ?_, fun v hv => ?_⟩)
    · go_simp
      exact mUpon_b
    subst hv
    go_simp
    refine hK _ ?_
    clear hK K
    refine lexX_step (fun K hK => ⟨by kernel_rfl, ⟨_, rfl⟩, fun v hv => ?_, fun v hv => ?_⟩)
    · go_simp
      exact mUpon_b
    subst hv
    go_simp
    refine hK _ ?_
    clear hK K
    refine lexX_step (fun K hK => ⟨by kernel_rfl, ⟨_, rfl⟩, fun v hv => ?_, fun v hv => ?_⟩)
    · have y0 := (unhideR HY v hv).1
      go_simp
      exact mUpon_b
    subst hv
    go_simp
    refine hK _ ?_
    clear hK K
    refine lexX_step (fun K hK => ⟨by kernel_rfl, ⟨_, rfl⟩, fun v hv => ?_, fun v hv => ?_⟩)
    · go_simp
      exact mUpon_b
    subst hv
    go_simp
    refine hK _ ?_
    clear hK K
    refine lexX_step (fun K hK => ⟨by kernel_rfl, ⟨_, rfl⟩, fun v hv => ?_, fun v hv => ?_⟩)
    · have y0 := (unhideR HY v hv).2.1
      go_simp
      exact mUpon_b
    subst hv
    go_simp
    refine hK _ ?_
    clear hK K
    refine lexX_step (fun K hK => ⟨by kernel_rfl, ⟨_, rfl⟩, fun v hv => ?_, fun v hv => ?_⟩)
    · go_simp
      exact mUpon_b
    subst hv
    go_simp
    refine hK _ ?_
    clear hK K
    refine lexX_step (fun K hK => ⟨by kernel_rfl, ⟨_, rfl⟩, fun v hv => ?_, fun v hv => ?_⟩)
    · go_simp
      exact mUpon_b
    subst hv
    go_simp
    refine hK _ ?_
    clear hK K
    refine lexX_step (fun K hK => ⟨by kernel_rfl, ⟨_, rfl⟩, fun v hv => ?_, fun v hv => ?_⟩)
    · go_simp
      exact mUpon_b
    subst hv
    go_simp
    refine hK _ ?_
    clear hK K
    refine lexX_step (fun K hK => ⟨by kernel_rfl, ⟨_, rfl⟩, fun v hv => ?_, fun v hv => ?_⟩)
    · go_simp
      exact mUpon_b
    subst hv
    go_simp
    refine hK _ ?_
    clear hK K
    refine lexX_step (fun K hK => ⟨by kernel_rfl, ⟨_, rfl⟩, fun v hv => ?_, fun v hv => ?_⟩)
    · have y9 := (unhideR HY v hv).2.2.1
      have y1 := (cells_at y9 1 (by simp)).1
      have y2 := (cells_at y9 2 (by simp)).1
      have y3 := (cells_at y9 3 (by simp)).1
      go_simp
      exact mUpon_b
    subst hv
    go_simp
    refine hK _ ?_
    clear hK K
    refine lexX_step (fun K hK => ⟨by kernel_rfl, ⟨_, rfl⟩, fun v hv => ?_, fun v hv => ?_⟩)
    · go_simp
      exact mUpon_b
    subst hv
    go_simp
    refine hK _ ?_
    clear hK K
    refine lexX_step (fun K hK => ⟨by kernel_rfl, ⟨_, rfl⟩, fun v hv => ?_, fun v hv => ?_⟩)
    · have y9 := (unhideR HY v hv).2.2.2
      have y1 := (cells_at y9 1 (by simp)).1
      have y2 := (cells_at y9 2 (by simp)).1
      have y3 := (cells_at y9 3 (by simp)).1
      go_simp
      exact mUpon_b
    subst hv
    go_simp
    refine hK _ ?_
    clear hK K
    refine lexX_step (fun K hK => ⟨by kernel_rfl, ⟨_, rfl⟩, fun v hv => ?_, fun v hv => ?_⟩)
    · go_simp
      refine (hct v).mono ?_
      rintro e w9 ⟨rfl, k⟩
      exact ⟨_, rfl, rfl, k⟩
    subst hv
    go_simp
    refine hK _ ?_
    clear hK K
    refine lexX_step (fun K hK => ⟨by kernel_rfl, ⟨_, rfl⟩, fun v hv => ?_, fun v hv => ?_⟩)
    · go_simp
      exact mUpon_b
    subst hv
    go_simp
    refine hK _ ?_
    clear hK K
    refine lexX_step (fun K hK => ⟨by kernel_rfl, ⟨_, rfl⟩, fun v hv => ?_, fun v hv => ?_⟩)
    · have y9 := (unhideR HY v hv).2.2.1
      have y1 := (cells_at y9 1 (by simp)).1
      have y2 := (cells_at y9 2 (by simp)).1
      have y3 := (cells_at y9 3 (by simp)).1
      go_simp
      exact mUpon_b
    subst hv
    go_simp
    refine hK _ ?_
    clear hK K
    refine lexX_step (fun K hK => ⟨by kernel_rfl, ⟨_, rfl⟩, fun v hv => ?_, fun v hv => ?_⟩)
    · go_simp
      exact mUpon_b
    subst hv
    go_simp
    refine hK _ ?_
    clear hK K
    refine lexX_step (fun K hK => ⟨by kernel_rfl, ⟨_, rfl⟩, fun v hv => ?_, fun v hv => ?_⟩)
    · go_simp
      exact mUpon_b
    subst hv
    go_simp
    refine hK _ ?_
    clear hK K
    refine lexX_step (fun K hK => ⟨by kernel_rfl, ⟨_, rfl⟩, fun v hv => ?_, fun v hv => ?_⟩)
    · go_simp
      refine (hcf v).mono ?_
      rintro e w9 ⟨rfl, k⟩
      exact ⟨_, rfl, rfl, k⟩
    subst hv
    go_simp
    refine hK _ ?_
    clear hK K
    refine lexX_step (fun K hK => ⟨by kernel_rfl, ⟨_, rfl⟩, fun v hv => ?_, fun v hv => ?_⟩)
    · go_simp
      refine (hcm v).mono ?_
      rintro e w9 ⟨rfl, k⟩
      exact ⟨_, rfl, rfl, k⟩
    subst hv
    go_simp
    refine hK _ ?_
    clear hK K
    refine lexX_step (fun K hK => ⟨by kernel_rfl, ⟨_, rfl⟩, fun v hv => ?_, fun v hv => ?_⟩)
    · go_simp
      exact mUpon_b
    subst hv
    go_simp
    refine hK _ ?_
    clear hK K
    refine lexX_end (fun v5 hv => ?_)
    have HV := hideR hv.low
    clear hv hct hcf hcm
    refine wpAny_step (i := 22) (by kernel_rfl) rfl (by kernel_rfl) (fun K hK => ?_)
    unfold Oper.wp
    go_simp
    refine hK _ _ ?_
    clear hK K
    refine wpAny_end (by kernel_rfl) ?_
    cases cb
    case false =>
      have HQ := hideR (unhideR HF (unhideR HB5) v5 (unhideR HV))
      have HQ1 := hideR (unhideR HQ).1
      have HQ2 := hideR (unhideR HQ).2
      clear HQ HF HB5 HV HY HP5 HL5 HO7 HB7
      go_wp2
      exact ⟨⟨i + 1, by omega, by go_num, HQ1, HQ2⟩, by simp [intOf]; omega⟩
    have hY5 := unhideR HY v5 (unhideR HV)
    have e0 := (cells_at hY5.2.2.1 0 (by simp)).1
    have f0 := (cells_at hY5.2.2.2 0 (by simp)).1
    have HO8 := hideR (own_below2 (unhideR HO7) (unhideR HV))
    have HB8 := hideR ((unhideR HB7).trans ((unhideR HV).mono (unhideR HB7).size))
    have HL8 : HeldR (prL L M num den (i + 1) = PL ++ [(e.nm, f.nm)]) := hideR (by rw [unhideR HL5, unhideR HB5, if_pos rfl, unhideR HP5])
    clear hY5 HF HB5 HV HY HP5 HL5 HO7 HB7
    have hz9 := alloc_last v5 (.cells #[.string e.nm, .string f.nm] 53)
    go_wp2_with (first
      | (at_builtin; refine wpList_append_own _ rfl _ _ 49 rfl u4.heap.size 53 i0 (.agg #[.string ByteArray.empty, .string ByteArray.empty]) 2 32 Tryz.underlying49 hi0 hz0 hz1 hz2 rfl (by decide) _ nl _ rfl ((unhideR HO8).alloc _) ⟨v5.heap.size, 0, none⟩ 1 1 (valPr (e.nm, f.nm)) rfl rfl ?c1 ?c2 ?c3 ?c4 ?c5 ?_))
    case c1 =>
      intro j u hu
      rw [add_plS, Nat.zero_add]
      rcases j with _ | _ | j
      · rw [← hu]; exact (cells_at hz9 0 (by simp)).1
      · rw [← hu]; exact (cells_at hz9 1 (by simp)).1
      · simp [valPr] at hu
    case c2 =>
      intro u hu
      simp only [valPr, List.mem_cons, List.not_mem_nil, or_false] at hu
      rcases hu with rfl | rfl <;> rfl
    case c3 => unfold maxLen; omega
    case c4 => omega
    case c5 =>
      have := (unhideR HB8).size
      simp
      omega
    intro v6 w6 hown hgrow _
    have HB9 := hideR (((unhideR HB8).alloc (unhideR HB8).size (.cells #[.string e.nm, .string f.nm] 53)).grown hgrow (by have := (unhideR HB8).size; simp; omega) (fun k e => ((unhideR HO8).lt k e).1))
    have HO9 : HeldR (w6.ownsRow u4.heap.size 53 2 v6 (prL L M num den (i + 1)).length (flatPr (prL L M num den (i + 1)))) := hideR (by
      rw [unhideR HL8, List.length_append, unhideR Hnl, flatPr_append]
      have e1 : flatPr [(e.nm, f.nm)] = valPr (e.nm, f.nm) := List.append_nil _
      rw [e1]
      exact hown)
    clear hown hgrow HO8 HB8 HL8 hz9 e0 f0
    go_wp2
    exact ⟨⟨i + 1, by omega, by go_num, HO9, HB9⟩, by simp [intOf]; omega⟩
theorem cr_prog (a : Nat → Addr) : CrProg a URep where
  cross := fun hA hB _ hS hL hM num den => pcross_any hA hB hS hL hM num den
end Go.Proofs.YtfonpobdnhifgamGreatDoor
