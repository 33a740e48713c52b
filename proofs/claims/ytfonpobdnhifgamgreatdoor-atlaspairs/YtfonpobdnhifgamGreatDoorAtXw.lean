/-
  The law of cones, walked: what the program's Cone and Nearest must answer.
-/
import Derived.Test.YtfonpobdnhifgamGreatDoorAtSp0
import Derived.Test.YtfonpobdnhifgamGreatDoorAtCA
import Derived.Test.YtfonpobdnhifgamGreatDoorAtRA
namespace Go.Proofs.YtfonpobdnhifgamGreatDoor
open Go Go.RowKit

/-- the name of the nearest one; none. -/
def nnV (d : Dr) (L : List En) : ByteArray := if 0 ≤ nbV d L L.length then (L.getD (nbV d L L.length).toNat en0).nm else ByteArray.empty
structure CnProg (a : Nat → Addr) (Rep : RepT) : Prop where
  cone : ∀ {w p lv L O sn}, Rep w p lv L O sn → Sents w a → L.length ≤ 200 → ∀ (d : Dr) (num den : Int), Calls Tryz.prog 10 #[.pointer (some ⟨p, 0, none⟩), d.val, .int .i64 num, .int .i64 den] w fun r w' => ∃ v E O' sn', r = .returned (.tuple #[v, E]) ∧ ErrIs a (coE d num den) E ∧ NmIs w' v (if coE d num den = 0 then cnV d num den L L.length else []) ∧ Rep w' p lv L O' sn' ∧ (∀ k, O' k → O k ∨ w.heap.size ≤ k) ∧ Oth O w w'
  nearest : ∀ {w p lv L O sn}, Rep w p lv L O sn → L.length ≤ 200 → ∀ d : Dr, dirB d = true → Calls Tryz.prog 15 #[.pointer (some ⟨p, 0, none⟩), d.val] w fun r w' => ∃ O' sn', r = .returned (.tuple #[.string (nnV d L), .bool (decide (0 ≤ nbV d L L.length)), .nilIface]) ∧ Rep w' p lv L O' sn' ∧ (∀ k, O' k → O k ∨ w.heap.size ≤ k) ∧ Oth O w w'
theorem coE_zero {d : Dr} {num den : Int} (h : coE d num den = 0) : dirB d = true ∧ 1 ≤ den ∧ den ≤ 1048576 ∧ -1048576 ≤ num ∧ num ≤ 1048576 := by
  unfold coE at h
  split at h
  · cases h
  · rename_i q
    refine ⟨?_, by omega, by omega, by omega, by omega⟩
    cases e : dirB d
    · exact absurd (.inl e) q
    · rfl
theorem coE_or (d : Dr) (num den : Int) : coE d num den = 0 ∨ coE d num den = 5 := by
  unfold coE
  split
  · exact .inr rfl
  · exact .inl rfl
theorem nb_lt (d : Dr) (L : List En) : ∀ i, nbV d L i < (i : Nat)
  | 0 => by show (-1 : Int) < _; omega
  | i + 1 => by
    have := nb_lt d L i
    show (if nbV d L i < 0 then ((i : Nat) : Int) else if btB d (L.getD i en0) (L.getD (nbV d L i).toNat en0) then ((i : Nat) : Int) else nbV d L i) < _
    split
    · omega
    · split <;> omega
set_option maxRecDepth 1000000 in
set_option maxHeartbeats 6400000 in
theorem cones_walk {a : Nat → Addr} {Rep : RepT} (hP : EnProg a Rep) (hC : CeProg a) (hX : CnProg a Rep) {w : World} (hS : Sents w a) {ad0 : Option Addr} {cap0 : Nat} {l : List En} (hl : EnCame w ad0 l) (hll : l.length ≤ 140737488355328) (hls : ∀ k, k < l.length → (l.getD k en0).nm.size ≤ 140737488355328) (lv : Int) (d : Dr) (num den : Int) :
    Calls Tryz.prog 3 #[.slice ad0 l.length cap0, .int .i64 lv, d.val, .int .i64 num, .int .i64 den] w fun e w' => e = .returned (.bool true) ∧ Below w.heap.size w w' := by
  have HL : HeldR (∀ u, Below w.heap.size w u → EnCame u ad0 l) := hideR (fun u q => hl.below q)
  have HS : HeldR (∀ u, Below w.heap.size w u → Sents u a) := hideR (fun u q => hS.below q (Nat.le_refl _))
  have hFw := fun u (q : Below w.heap.size w u) => fewEntries_any (cap := cap0) (unhideR HL u q) hll hls
  have hli := fun u (q : Below w.heap.size w u) => listed_any hC (unhideR HS u q)
  have hen := fun u (q : Below w.heap.size w u) (f : fewB l = true) => entries_any (cap0 := cap0) hP (unhideR HS u q) (unhideR HL u q) f lv
  have hhx := fun u => huge_any d.x u
  have hhy := fun u => huge_any d.y u
  have hhz := fun u => huge_any d.z u
  have hce := fun u => coneError_any d num den u
  have z1 := alloc_last w (.cells #[.int .i64 d.x, .int .i64 d.y, .int .i64 d.z] 24)
  have HB := hideR (below_a w (.cells #[.int .i64 d.x, .int .i64 d.y, .int .i64 d.z] 24))
  have HX := hideR hX
  unfold Dr.val
  unfold Dr.val at hce
  clear hl hls hS hC hX
  obtain ⟨F, hF⟩ : ∃ F, fewB l = F := ⟨_, rfl⟩
  have HF := hideR hF
  rw [hF] at hFw hen
  clear hF
  generalize hugeB d.x = X at *
  generalize hugeB d.y = Y at *
  generalize hugeB d.z = Z at *
  go_enter Tryz.func3, Tryz.ntmps3
  go_upto_region 1 with fail
  generalize w.alloc (.cells #[.int .i64 d.x, .int .i64 d.y, .int .i64 d.z] 24) = u0 at *
  obtain ⟨K, hK⟩ : ∃ K, w.heap.size = K := ⟨_, rfl⟩
  have HK := hideR hK
  rw [hK] at z1 ⊢
  clear hK
  go_wp2_with fail
  refine (hli _ (unhideR HB)).mono ?_
  rintro e u1 ⟨rfl, k1⟩
  have y1 := keepB z1 k1
  replace HB := hideR (below_go (unhideR HB) k1)
  clear z1 k1 hli u0
  have x0 := (cells_at y1 0 (by simp)).1
  have x1 := (cells_at y1 1 (by simp)).1
  have x2 := (cells_at y1 2 (by simp)).1
  go_wp2_with fail
  refine (hFw _ (unhideR HB)).mono ?_
  rintro e v ⟨rfl, rfl⟩
  go_wp2_with fail
  refine (hhx _).mono ?_
  rintro e v ⟨rfl, rfl⟩
  go_wp2_with fail
  refine (hhy _).mono ?_
  rintro e v ⟨rfl, rfl⟩
  go_wp2_with fail
  refine (hhz _).mono ?_
  rintro e v ⟨rfl, rfl⟩
  clear hFw hhx hhy hhz x0 x1 x2
  by_cases qF : F = true ∧ X = false ∧ Y = false ∧ Z = false
  case neg =>
    cases F <;> cases X <;> cases Y <;> cases Z <;> first
      | exact absurd ⟨rfl, rfl, rfl, rfl⟩ qF
      | (go_wp2; go_ret; exact ⟨rfl, unhideR HB⟩)
  obtain ⟨rfl, rfl, rfl, rfl⟩ := qF
  replace hen := fun u (q : Below w.heap.size w u) => hen u q rfl
  go_wp2_with fail
  refine (hen _ (unhideR HB)).mono ?_
  intro e v1 hpo
  unfold EsPost at hpo
  by_cases qv : lvB lv = true
  case neg =>
    rw [if_neg qv] at hpo
    obtain ⟨rfl, k1⟩ := hpo
    replace HB := hideR (below_go (unhideR HB) k1)
    clear hen k1 y1
    go_wp2
    go_ret
    exact ⟨rfl, unhideR HB⟩
  rw [if_pos qv] at hpo
  obtain ⟨p, g, O, ad, cap, sn, rfl, hEI⟩ := hpo
  have hml : (adL l l.length).length ≤ 200 := Nat.le_trans (adL_len l _) (few_is (unhideR HF)).2
  generalize adL l l.length = M at *
  -- the block of d is no block of the program's atlas
  have hKO : ¬ O K := fun q => absurd (hEI.d.new K q) (by have := ltB y1; omega)
  replace y1 := keepB y1 hEI.d.bel
  have HBv := hideR (unhideR HB)
  have HI := hideR hEI
  clear hen hEI qv
  have x0 := (cells_at y1 0 (by simp)).1
  have x1 := (cells_at y1 1 (by simp)).1
  have x2 := (cells_at y1 2 (by simp)).1
  have hcn := (unhideR HX).cone (unhideR HI).rep (unhideR HS _ (below_go (unhideR HB) (unhideR HI).d.bel)) hml d num den
  unfold Dr.val at hcn
  go_wp2_with fail
  refine hcn.mono ?_
  rintro e v2 ⟨nv, E, O2, sn2, rfl, hE, hnm, hR2, hO2, hoth⟩
  have hlt := ltB y1
  replace y1 := hoth.heap y1 hKO
  have hKO2 : ¬ O2 K := fun q => (hO2 K q).elim hKO (fun h => by omega)
  replace HI := hideR (EInv.mk hR2 ((unhideR HI).d.wrote hO2 hoth))
  have HEr := hideR hE
  obtain ⟨adn, capn, rfl, hsc⟩ := hnm
  have HSc := hideR hsc
  clear hcn hE hsc hR2 hO2 hoth x0 x1 x2 hKO hlt
  rcases coE_or d num den with qe | qe
  case' inr =>
    have h5 := unhideR HEr
    rw [qe] at hce h5
    rw [if_neg (by rw [qe]; decide)]
    simp only [List.length_nil]
    have x0 := (cells_at y1 0 (by simp)).1
    have x1 := (cells_at y1 1 (by simp)).1
    have x2 := (cells_at y1 2 (by simp)).1
    go_wp2_with fail
    refine (hce _).mono ?_
    rintro e v3 ⟨rfl, k3⟩
    replace y1 := keepB y1 k3
    replace HI := hideR ((unhideR HI).below hP k3)
    replace HSc := hideR ((unhideR HSc).below k3)
    clear k3 x0 x1 x2 hce
    have hco := coded_err (unhideR HS _ (below_go (unhideR HB) (unhideR HI).d.bel)) h5
    clear HSc y1
    go_wp2_with fail
    refine hco.mono ?_
    rintro e v4 ⟨rfl, k4⟩
    replace HI := hideR ((unhideR HI).below hP k4)
    clear k4 hco
    go_wp2
    go_ret
    exact ⟨rfl, below_go (unhideR HB) (unhideR HI).d.bel⟩
  case' inl =>
    obtain ⟨hd, d1, d2, n1, n2⟩ := coE_zero qe
    have HSc2 := unhideR HSc
    rw [if_pos qe] at HSc2
    rw [if_pos qe]
    rw [qe] at hce
    have hEn : E = .nilIface := by
      rcases unhideR HEr with ⟨_, h⟩ | ⟨k, _, h, _⟩
      · exact h
      · rw [qe] at h
        exact absurd h (by omega)
    subst hEn
    have HCd : HeldR (∀ u ad cap, AtB u g lv ad cap M → (∀ k, k < M.length → dirB (M.getD k en0).d = true) → Calls Tryz.prog 14 #[.pointer (some ⟨g, 0, none⟩), d.val, .int .i64 num, .int .i64 den] u fun r w' => (∃ v, r = .returned v ∧ NmOwn w' v (cnV d num den M M.length)) ∧ Below u.heap.size u w') := hideR (fun u ad cap h h2 => cone_any d num den h (by omega) hd h2 n1 n2 d1 d2)
    have HLe : HeldR ((cnV d num den M M.length).length ≤ 4000) := hideR (Nat.le_trans (cn_len d num den M _) (by omega))
    have HSc3 := hideR HSc2
    have Hd := hideR hd
    generalize cnV d num den M M.length = NN at *
    clear HSc HSc2 HEr qe hd d1 d2 n1 n2
    have x0 := (cells_at y1 0 (by simp)).1
    have x1 := (cells_at y1 1 (by simp)).1
    have x2 := (cells_at y1 2 (by simp)).1
    go_wp2_with fail
    refine (hce _).mono ?_
    rintro e v3 ⟨rfl, k3⟩
    replace y1 := keepB y1 k3
    replace HI := hideR ((unhideR HI).below hP k3)
    replace HSc3 := hideR ((unhideR HSc3).below k3)
    clear k3 x0 x1 x2 hce
    have hcd := unhideR HCd _ _ _ (unhideR HI).d.doc (unhideR HI).d.dir
    unfold Dr.val at hcd
    clear HCd
    have x0 := (cells_at y1 0 (by simp)).1
    have x1 := (cells_at y1 1 (by simp)).1
    have x2 := (cells_at y1 2 (by simp)).1
    go_wp2_with fail
    refine hcd.mono ?_
    rintro e v6 ⟨⟨dv, rfl, hnw⟩, k6⟩
    obtain ⟨BB, hnw⟩ := hnw
    obtain ⟨ad6, cap6, rfl, hs6, _⟩ := own_str hnw
    have hsn := sameNames_any (c1 := capn) (c2 := cap6) ((unhideR HSc3).below k6) hs6 (unhideR HLe)
    replace HI := hideR ((unhideR HI).below hP k6)
    replace y1 := keepB y1 k6
    clear hcd k6 hnw hs6 x0 x1 x2 HSc3
    go_wp2_with fail
    refine hsn.mono ?_
    rintro e v7 ⟨rfl, k7⟩
    replace HI := hideR ((unhideR HI).below hP k7)
    replace y1 := keepB y1 k7
    clear k7 hsn HLe
    have hnr := (unhideR HX).nearest (unhideR HI).rep hml d (unhideR Hd)
    unfold Dr.val at hnr
    have x0 := (cells_at y1 0 (by simp)).1
    have x1 := (cells_at y1 1 (by simp)).1
    have x2 := (cells_at y1 2 (by simp)).1
    go_wp2_with fail
    refine hnr.mono ?_
    rintro e v8 ⟨O8, sn8, rfl, hR8, hO8, hoth⟩
    replace y1 := hoth.heap y1 hKO2
    replace HI := hideR (EInv.mk hR8 ((unhideR HI).d.wrote hO8 hoth))
    clear hnr x0 x1 x2 hR8 hO8 hoth hKO2
    have hnd := nearest_any d (unhideR HI).d.doc (by omega) (unhideR Hd) (unhideR HI).d.dir
    unfold Dr.val at hnd
    have hkl := nb_lt d M M.length
    have HNn : HeldR (nnV d M = if 0 ≤ nbV d M M.length then (M.getD (nbV d M M.length).toNat en0).nm else ByteArray.empty) := hideR rfl
    generalize nnV d M = nm at *
    generalize nbV d M M.length = k at *
    have x0 := (cells_at y1 0 (by simp)).1
    have x1 := (cells_at y1 1 (by simp)).1
    have x2 := (cells_at y1 2 (by simp)).1
    go_wp2_with fail
    refine hnd.mono ?_
    rintro e v9 ⟨rfl, k9⟩
    replace HI := hideR ((unhideR HI).below hP k9)
    clear k9 hnd x0 x1 x2 y1
    by_cases qk : k < 0
    case' pos =>
      have tk : decide (k < 0) = true := decide_eq_true qk
      have tk2 : decide (0 ≤ k) = false := decide_eq_false (by omega)
      have en : nm = ByteArray.empty := by rw [unhideR HNn, if_neg (by omega)]
      subst en
      clear HNn qk hkl
      go_wp2
      all_goals go_ret
      all_goals exact ⟨rfl, below_go (unhideR HB) (unhideR HI).d.bel⟩
    case' neg =>
      have tk : decide (k < 0) = false := decide_eq_false qk
      have tk2 : decide (0 ≤ k) = true := decide_eq_true (by omega)
      obtain ⟨j, rfl⟩ : ∃ j : Nat, k = (j : Int) := ⟨k.toNat, by omega⟩
      have en : nm = (M.getD j en0).nm := by rw [unhideR HNn, if_pos (by omega)]; rfl
      subst en
      obtain ⟨b, off, had, hbl, hE⟩ := (unhideR HI).d.doc.e.at_ j (by omega)
      subst had
      have hab := (unhideR HI).d.doc.b
      have a1 := (cells_at hab 1 (by simp)).1
      have e0 := hE.c0
      have hjl : (j : Int) < (M.length : Int) := hkl
      generalize (M.getD j en0).nm = nm at *
      clear HNn qk hkl hE hab
      go_wp2
      go_ret
      exact ⟨rfl, below_go (unhideR HB) (unhideR HI).d.bel⟩
end Go.Proofs.YtfonpobdnhifgamGreatDoor
