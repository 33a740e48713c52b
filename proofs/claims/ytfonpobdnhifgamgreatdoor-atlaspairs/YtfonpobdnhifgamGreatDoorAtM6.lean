/-
  The program's Add; what the program's atlas does.
-/
import Derived.Test.YtfonpobdnhifgamGreatDoorAtMB
namespace Go.Proofs.YtfonpobdnhifgamGreatDoor
open Go Go.RowKit
open Go.Maps (Keyed)

theorem ba_eq (a b : ByteArray) : (a.toList == b.toList) = decide (a = b) := by
  rw [ByteArray.toList_eq, ByteArray.toList_eq]
  by_cases q : a = b
  · subst q
    simp
  · rw [decide_eq_false q]
    refine beq_eq_false_iff_ne.2 (fun e => q (ByteArray.ext (Array.ext' e)))
theorem ba_empty (a : ByteArray) : a.toList.isEmpty = decide (a.size = 0) := by
  rw [ByteArray.toList_eq]
  cases hq : a.data.toList with
  | nil =>
    have h1 := congrArg List.length hq
    simp at h1
    have h2 : a.size = 0 := by show a.data.size = 0; rw [h1]; rfl
    simp [h2]
  | cons x l =>
    have h1 : a.data.toList.length = l.length + 1 := by rw [hq]; rfl
    rw [Array.length_toList] at h1
    have h2 : a.size ≠ 0 := by show a.data.size ≠ 0; omega
    simp [h2]
theorem had_is (e : En) (L : List En) : ∀ i, i ≤ L.length → hadV e L i = (!decide (0 < e.nm.size ∧ e.nm.size ≤ 40) || hasN e.nm (L.take i))
  | 0, _ => by
    show (e.nm.toList.isEmpty || decide (40 < e.nm.size)) = _
    have h0 : hasN e.nm (L.take 0) = false := by unfold hasN; rw [List.take_zero]; exact decide_eq_false (fun ⟨x, hx, _⟩ => by cases hx)
    rw [h0, ba_empty, Bool.or_false, Bool.eq_iff_iff]
    simp
  | i + 1, h => by
    have ih := had_is e L i (by omega)
    show (hadV e L i || ((L.getD i en0).nm.toList == e.nm.toList)) = _
    rw [ih, ba_eq]
    have h1 : hasN e.nm (L.take (i + 1)) = (hasN e.nm (L.take i) || decide ((L.getD i en0).nm = e.nm)) := by
      unfold hasN
      rw [Bool.eq_iff_iff, Bool.or_eq_true, decide_eq_true_eq, decide_eq_true_eq, decide_eq_true_eq]
      have hg : L.getD i en0 = L[i] := by rw [List.getD_eq_getElem?_getD, List.getElem?_eq_getElem (by omega)]; rfl
      have ht : L.take (i + 1) = L.take i ++ [L.getD i en0] := by rw [hg, List.take_append_getElem]
      rw [ht]
      constructor
      · rintro ⟨x, hx, hq⟩
        rcases List.mem_append.1 hx with hx | hx
        · exact .inl ⟨x, hx, hq⟩
        · rw [List.mem_singleton] at hx
          subst hx
          exact .inr hq
      · rintro (⟨x, hx, hq⟩ | hq)
        · exact ⟨x, List.mem_append_left _ hx, hq⟩
        · exact ⟨_, by simp, hq⟩
    rw [h1, Bool.or_assoc]
def AddPost (a : Nat → Addr) (e : En) (w : World) (p : Nat) (lv : Int) (L : List En) (O : Nat → Prop) (sn : Int) (r : Ending) (w' : World) : Prop := ∃ E O', r = .returned E ∧ ErrIs a (adE e L) E ∧ ARep w' p lv (if adE e L = 0 then L ++ [e] else L) O' sn ∧ (∀ k, O' k → O k ∨ w.heap.size ≤ k) ∧ Oth O w w'
theorem add_err {a : Nat → Addr} {e : En} {w w' : World} {p : Nat} {lv : Int} {L : List En} {O : Nat → Prop} {sn : Int} {k : Nat} (h : ARep w p lv L O sn) (hk : adE e L = (k : Int) + 1) (hk2 : k < 10) (g : Below w.heap.size w w') : AddPost a e w p lv L O sn (.returned (.iface 224 (.pointer (some (a k))))) w' := by
  refine ⟨_, O, rfl, by rw [hk]; exact err_at k hk2, ?_, fun _ q => .inl q, (Oth.refl O w).bel g⟩
  rw [if_neg (by omega)]
  exact arep_keep h (fun j hj => g.block j (arep_low h j hj))
set_option maxRecDepth 100000 in
set_option maxHeartbeats 3200000 in
theorem padd_any {a : Nat → Addr} {w : World} {p : Nat} {lv : Int} {L : List En} {O : Nat → Prop} {sn : Int} (h : ARep w p lv L O sn) (hS : Sents w a) (hL : L.length ≤ 200) (e : En) (hsz : e.nm.size ≤ 100) :
    Calls Tryz.prog 24 #[.pointer (some ⟨p, 0, none⟩), e.val] w (AddPost a e w p lv L O sn) := by
  have had := had_is e L L.length (Nat.le_refl _)
  rw [List.take_length] at had
  have hE : adE e L = if hadV e L L.length then 10 else if dirB e.d = false then 5 else if 4000 ≤ L.length then 2 else 0 := rfl
  rw [had] at hE
  have H10 : HeldR (adE e L = 10 → ∀ w', Below w.heap.size w w' → AddPost a e w p lv L O sn (.returned (.iface 224 (.pointer (some (a 9))))) w') := hideR (fun q w' g => add_err (k := 9) h q (by decide) g)
  have H5 : HeldR (adE e L = 5 → ∀ w', Below w.heap.size w w' → AddPost a e w p lv L O sn (.returned (.iface 224 (.pointer (some (a 4))))) w') := hideR (fun q w' g => add_err (k := 4) h q (by decide) g)
  have hin := fun u => pisName_any e.nm (by omega) u
  have hdi := fun u => pdir_any e.d u
  have hhas := fun u (g : Below w.heap.size w u) => phas_any (arep_keep h (fun j hj => g.block j (arep_low h j hj))) e.nm (by omega)
  have hful := fun u (g : Below w.heap.size w u) => pfull_any (arep_keep h (fun j hj => g.block j (arep_low h j hj)))
  rw [decide_eq_false (show ¬ (4000 ≤ (L.length : Int)) by omega)] at hful
  have HSu : HeldR (∀ u, Below w.heap.size w u → Sents u a) := hideR (fun u g => hS.below g (Nat.le_refl _))
  have HPu : HeldR (adE e L = 0 → dirB e.d = true → e.nm.size ≤ 40 → ∀ u, Below w.heap.size w u → Calls Tryz.prog 54 #[.pointer (some ⟨p, 0, none⟩), .agg #[.string e.nm, .int .i64 e.d.x, .int .i64 e.d.y, .int .i64 e.d.z]] u fun r w' => r = .returned (.tuple #[]) ∧ AddPost a e w p lv L O sn (.returned .nilIface) w') := hideR (fun q0 qd qs u g => by
    refine (put_any (arep_keep h (fun j hj => g.block j (arep_low h j hj))) e qd qs (by omega)).mono ?_
    rintro r w' ⟨rfl, O', hR, hO, ho⟩
    refine ⟨rfl, _, O', rfl, .inl ⟨q0, rfl⟩, by rw [if_pos q0]; exact hR, fun k hk => (hO k hk).imp id (fun q => Nat.le_trans g.size q), ?_⟩
    exact ⟨ho.os.trans g.os, ho.tape.trans g.tape, ho.output.trans g.output, Nat.le_trans g.size ho.size, fun k hk hn => (ho.block k (Nat.lt_of_lt_of_le hk g.size) hn).trans (g.block k hk)⟩)
  have z0 := alloc_last w (.cells #[.string e.nm, .int .i64 e.d.x, .int .i64 e.d.y, .int .i64 e.d.z, .int .i64 e.li] 67)
  have HB := hideR (below_a w (.cells #[.string e.nm, .int .i64 e.d.x, .int .i64 e.d.y, .int .i64 e.d.z, .int .i64 e.li] 67))
  generalize AddPost a e w p lv L O sn = AP at *
  unfold En.val
  unfold Dr.val at hdi
  generalize hasN e.nm L = HN at *
  clear h had hS
  obtain ⟨NB, hNB⟩ : ∃ NB, decide (0 < e.nm.size ∧ e.nm.size ≤ 40) = NB := ⟨_, rfl⟩
  rw [hNB] at hE hin
  have x0 := (cells_at z0 0 (by simp)).1
  cases NB
  · have HR := hideR (unhideR H10 (by rw [hE]; simp))
    clear hE H10 H5 hhas hful HPu hdi hNB
    go_enter Tryz.func24, Tryz.ntmps24
    go_wp2_with fail
    refine (hin _).mono ?_
    rintro r u1 ⟨rfl, rfl⟩
    have s9 := (unhideR HSu _ (unhideR HB)).g9
    clear hin
    go_wp2
    exact unhideR HR _ (unhideR HB)
  have hs40 : e.nm.size ≤ 40 := (of_decide_eq_true hNB).2
  cases HN
  case true =>
    have HR := hideR (unhideR H10 (by rw [hE]; simp))
    clear hE H10 H5 hful HPu hdi hNB
    go_enter Tryz.func24, Tryz.ntmps24
    go_wp2_with fail
    refine (hin _).mono ?_
    rintro r u1 ⟨rfl, rfl⟩
    go_wp2_with fail
    refine (hhas _ (unhideR HB)).mono ?_
    rintro r u2 ⟨rfl, k2⟩
    replace HB := hideR (below_go (unhideR HB) k2)
    have s9 := (unhideR HSu _ (unhideR HB)).g9
    clear hin hhas k2 x0 z0
    go_wp2
    exact unhideR HR _ (unhideR HB)
  rw [Bool.not_true, Bool.false_or, if_neg (by decide)] at hE
  cases hd : dirB e.d
  · have HR := hideR (unhideR H5 (by rw [hE, if_pos hd]))
    rw [hd] at hdi
    clear hE H10 H5 hful HPu hNB hd
    go_enter Tryz.func24, Tryz.ntmps24
    go_wp2_with fail
    refine (hin _).mono ?_
    rintro r u1 ⟨rfl, rfl⟩
    go_wp2_with fail
    refine (hhas _ (unhideR HB)).mono ?_
    rintro r u2 ⟨rfl, k2⟩
    replace HB := hideR (below_go (unhideR HB) k2)
    have z2 := keepB z0 k2
    clear hin hhas k2 x0 z0
    have x1 := (cells_at z2 1 (by simp)).1
    have x2 := (cells_at z2 2 (by simp)).1
    have x3 := (cells_at z2 3 (by simp)).1
    go_wp2_with fail
    refine (hdi _).mono ?_
    rintro r u3 ⟨rfl, k3⟩
    replace HB := hideR (below_go (unhideR HB) k3)
    have s4 := (unhideR HSu _ (unhideR HB)).g4
    clear hdi k3 x1 x2 x3 z2
    go_wp2
    exact unhideR HR _ (unhideR HB)
  rw [if_neg (by rw [hd]; decide)] at hE
  have e0 : adE e L = 0 := by rw [hE, if_neg (by omega)]
  have hpu := fun u g => unhideR HPu e0 hd hs40 u g
  rw [hd] at hdi
  clear hE H10 H5 HPu hNB hd e0 HSu
  go_enter Tryz.func24, Tryz.ntmps24
  go_wp2_with fail
  refine (hin _).mono ?_
  rintro r u1 ⟨rfl, rfl⟩
  go_wp2_with fail
  refine (hhas _ (unhideR HB)).mono ?_
  rintro r u2 ⟨rfl, k2⟩
  replace HB := hideR (below_go (unhideR HB) k2)
  have z2 := keepB z0 k2
  clear hin hhas k2 x0 z0
  have x1 := (cells_at z2 1 (by simp)).1
  have x2 := (cells_at z2 2 (by simp)).1
  have x3 := (cells_at z2 3 (by simp)).1
  go_wp2_with fail
  refine (hdi _).mono ?_
  rintro r u3 ⟨rfl, k3⟩
  replace HB := hideR (below_go (unhideR HB) k3)
  have z3 := keepB z2 k3
  clear hdi k3 x1 x2 x3 z2
  go_wp2_with fail
  refine (hful _ (unhideR HB)).mono ?_
  rintro r u4 ⟨rfl, rfl⟩
  have x0 := (cells_at z3 0 (by simp)).1
  have x1 := (cells_at z3 1 (by simp)).1
  have x2 := (cells_at z3 2 (by simp)).1
  have x3 := (cells_at z3 3 (by simp)).1
  clear hful
  go_wp2_with fail
  refine (hpu _ (unhideR HB)).mono ?_
  rintro r u5 ⟨rfl, hAP⟩
  have HA := hideR hAP
  clear hAP hpu x0 x1 x2 x3 z3
  go_wp2
  exact unhideR HA
theorem en_prog (a : Nat → Addr) : EnProg a ARep where
  low := fun h => arep_low h
  keep := fun h k => arep_keep h k
  typ := fun h => arep_typ h
  new := fun hS l => pnew_any hS l
  add := fun h hS hL e he => padd_any h hS hL e he
  size := fun h _ => (psize2_any h).mono (by rintro r w' ⟨rfl, rfl⟩; exact ⟨rfl, Below.refl _ _⟩)
end Go.Proofs.YtfonpobdnhifgamGreatDoor
