/-
  An entry more in an atlas: the document's Add, by contract. An entry more in an atlas: the document's Add where it takes it, by contract. Rows of names.
-/
import Derived.Test.YtfonpobdnhifgamGreatDoorAtIA
import Derived.Test.YtfonpobdnhifgamGreatDoorAtPA
import Derived.Test.YtfonpobdnhifgamGreatDoorLooseA
namespace Go.Proofs.YtfonpobdnhifgamGreatDoor
open Go Go.RowKit

/-- is a name wrong, or there among the first i? -/
def hadV (e : En) (L : List En) : Nat → Bool
  | 0 => e.nm.toList.isEmpty || decide (40 < e.nm.size)
  | i + 1 => hadV e L i || ((L.getD i en0).nm.toList == e.nm.toList)
def adE (e : En) (L : List En) : Int := if hadV e L L.length then 10 else if dirB e.d = false then 5 else if 4000 ≤ L.length then 2 else 0
def En.val (e : En) : Value := .agg #[.string e.nm, .int .i64 e.d.x, .int .i64 e.d.y, .int .i64 e.d.z, .int .i64 e.li]
theorem drewBlA {B : Nat} {w u : World} (h : Below B w u) : Below B w u.drew := ⟨h.os, h.tape, h.output, h.size, h.block⟩
set_option maxRecDepth 100000 in
set_option maxHeartbeats 6400000 in
theorem add_no (e : En) {w : World} {g : Nat} {lv : Int} {ad : Option Addr} {cap : Nat} {L : List En} (hA0 : AtB w g lv ad cap L) (hl : L.length ≤ 4000) (hE : adE e L ≠ 0) (hsz : e.nm.size ≤ 140737488355328) :
    Calls Tryz.prog 25 #[.pointer (some ⟨g, 0, none⟩), e.val] w fun r w' => r = .returned (.int .i64 (adE e L)) ∧ Below w.heap.size w w' := by
  have hdi := fun u => isDir_any e.d u
  have HH : HeldR (∀ i, hadV e L (i + 1) = (hadV e L i || ((L.getD i en0).nm.toList == e.nm.toList))) := hideR (fun i => rfl)
  have HH0 : HeldR (hadV e L 0 = (e.nm.toList.isEmpty || decide (40 < e.nm.size))) := hideR rfl
  have hadE : adE e L = if hadV e L L.length then 10 else if dirB e.d = false then 5 else if 4000 ≤ L.length then 2 else 0 := rfl
  obtain ⟨n, hn⟩ : ∃ n, L.length = n := ⟨_, rfl⟩
  have Hn := hideR hn
  rw [hn] at hadE
  generalize hadV e L = H at *
  generalize adE e L = EE at *
  generalize dirB e.d = DB at *
  obtain ⟨en, ⟨ex, ey, ez⟩, el⟩ := e
  unfold En.val Dr.val at *
  simp only at *
  have z1 := alloc_last w (.cells #[.string en, .int .i64 ex, .int .i64 ey, .int .i64 ez, .int .i64 el] 45)
  have HB := hideR (below_a w (.cells #[.string en, .int .i64 ex, .int .i64 ey, .int .i64 ez, .int .i64 el] 45))
  have HA := hideR (hA0.below (below_a w (.cells #[.string en, .int .i64 ex, .int .i64 ey, .int .i64 ez, .int .i64 el] 45)))
  have HadE := hideR (And.intro hadE hE)
  rw [hn] at hl
  clear hA0 hn hadE hE
  go_enter Tryz.func25, Tryz.ntmps25
  go_upto_region 1 with fail
  generalize w.alloc (.cells #[.string en, .int .i64 ex, .int .i64 ey, .int .i64 ez, .int .i64 el] 45) = u0 at *
  generalize w.heap.size = K at z1 ⊢
  have x0 := (cells_at z1 0 (by simp)).1
  go_cut [5] from 5 to 16 (fun s5 wx => s5 = .bool (H 0) ∧ wx = u0)
  case' first =>
    go_wp2
    all_goals
      go_meet
      refine ⟨congrArg Value.bool ?_, rfl⟩
      rw [unhideR HH0]
      first | (congr 1; rw [decide_eq_decide]; omega) | (rename_i h; rw [h]; rfl)
  obtain ⟨rfl, rfl⟩ := hcut
  clear x0 HH0
  go_wp2_with fail
  go_loopw [5, 6] (fun hv iv wl => ∃ (i : Nat), i ≤ n ∧ iv = .int .i64 (i : Nat) ∧ hv = .bool (H i) ∧ HeldR (AtB wl g lv ad cap L) ∧ wl.heap[K]? = some (.cells #[.string en, .int .i64 ex, .int .i64 ey, .int .i64 ez, .int .i64 el] 45) ∧ HeldR (Below w.heap.size w wl)) (fun _ iv _ => n + 1 - (intOf iv).toNat)
  case atStart => exact ⟨0, by omega, rfl, rfl, HA, z1, HB⟩
  case round =>
    clear HA z1 HB
    obtain ⟨i, hin, rfl, rfl, HA, z1, HB⟩ := hrel
    have hab := (unhideR HA).b
    rw [unhideR Hn] at hab
    have a1 := (cells_at hab 1 (by simp)).1
    clear hab
    by_cases q : i < n
    · have ti : decide ((i : Int) < (n : Int)) = true := decide_eq_true (by omega)
      have tin : decide (i < n) = true := decide_eq_true q
      have wi : IntKind.i64.wrap ((i : Int) + 1) = (i : Int) + 1 := iwrap (by omega) (by omega)
      have hin2 : (i : Int) < (n : Int) := by omega
      obtain ⟨b, off, had, hbl, hei⟩ := (unhideR HA).e.at_ i (by rw [unhideR Hn]; exact q)
      subst had
      have hhi := unhideR HH i
      go_upto_region 5 with fail
      clear a1
      have hab : wr.drew.heap[g]? = some (.cells #[.int .i64 lv, .slice (some ⟨b, off, none⟩) L.length cap] 47) := (unhideR HA).b
      rw [unhideR Hn] at hab
      have a1 := (cells_at hab 1 (by simp)).1
      have ni : wr.drew.cell? ⟨b, off + i * 5, none⟩ = some (.string (L.getD i en0).nm) := hei.c0
      have x0 := (cells_at (show wr.drew.heap[K]? = some (.cells #[.string en, .int .i64 ex, .int .i64 ey, .int .i64 ez, .int .i64 el] 45) from z1) 0 (by simp)).1
      obtain ⟨si, hsi⟩ : ∃ s, (L.getD i en0).nm = s := ⟨_, rfl⟩
      rw [hsi] at ni hhi
      replace HB := hideR (drewBlA (unhideR HB))
      replace z1 : wr.drew.heap[K]? = some (.cells #[.string en, .int .i64 ex, .int .i64 ey, .int .i64 ez, .int .i64 el] 45) := z1
      replace HA : HeldR (AtB wr.drew g lv (some ⟨b, off, none⟩) cap L) := hideR ⟨(unhideR HA).b, (unhideR HA).e.below (drewBlA (Below.refl _ _))⟩
      have HHi := hideR hhi
      clear hab hei hbl hsi hhi
      cases qH : H i with
      | true =>
        rw [qH] at HHi
        go_region
        generalize wr.drew = v6 at *
        clear a1 ni x0
        go_wp2
        exact ⟨⟨i + 1, by omega, by go_num, by rw [unhideR HHi]; rfl, HA, z1, HB⟩, by simp [intOf]; omega⟩
      | false =>
        rw [qH] at HHi
        go_region
        generalize wr.drew = v6 at *
        clear a1 ni x0
        go_wp2
        exact ⟨⟨i + 1, by omega, by go_num, by rw [unhideR HHi]; rfl, HA, z1, HB⟩, by simp [intOf]; omega⟩
    · obtain rfl : i = n := by omega
      have ti : decide ((i : Int) < (i : Int)) = false := decide_eq_false (by omega)
      have tin : decide (i < i) = false := decide_eq_false (by omega)
      have hEE := (unhideR HadE).1
      cases qH : H i with
      | true =>
        rw [qH] at hEE
        have e1 : EE = 10 := hEE
        subst e1
        clear HadE HH hdi HA z1 hEE
        go_wp2
        go_ret
        exact ⟨rfl, unhideR HB⟩
      | false =>
        rw [qH] at hEE
        have HEE := hideR hEE
        clear hEE
        have x1 := (cells_at z1 1 (by simp)).1
        have x2 := (cells_at z1 2 (by simp)).1
        have x3 := (cells_at z1 3 (by simp)).1
        go_wp2_with fail
        refine (hdi _).mono ?_
        rintro r v7 ⟨rfl, k7⟩
        replace HA := hideR ((unhideR HA).below k7)
        replace HB := hideR (below_go (unhideR HB) k7)
        clear k7 hdi x1 x2 x3 a1 z1
        have hab := (unhideR HA).b
        rw [unhideR Hn] at hab
        have a1 := (cells_at hab 1 (by simp)).1
        clear hab
        cases DB with
        | false =>
          have e1 : EE = 5 := unhideR HEE
          subst e1
          clear HadE HH HA HEE
          go_wp2
          go_ret
          exact ⟨rfl, unhideR HB⟩
        | true =>
          have e1 : EE = 2 ∧ 4000 ≤ i := by
            have hne := (unhideR HadE).2
            by_cases q4 : 4000 ≤ i
            · exact ⟨by rw [unhideR HEE]; simp [q4], q4⟩
            · exact absurd (by rw [unhideR HEE]; simp [q4]) hne
          obtain ⟨e1, q4⟩ := e1
          have t4 : decide ((4000 : Int) ≤ (i : Int)) = true := decide_eq_true (by omega)
          have t4n : decide (4000 ≤ i) = true := decide_eq_true q4
          subst e1
          clear HadE HH HA HEE
          go_wp2
          go_ret
          exact ⟨rfl, unhideR HB⟩
end Go.Proofs.YtfonpobdnhifgamGreatDoor
namespace Go.Proofs.YtfonpobdnhifgamGreatDoor
open Go Go.RowKit

theorem infoE : (Tryz.prog.info? 45).map (fun i => (i.zero, i.size, i.bytes)) = some (some (.agg #[.string ByteArray.empty, .int .i64 0, .int .i64 0, .int .i64 0, .int .i64 0]), 5, 48) := by kernel_rfl
def SlO (v : Value) : Prop := ∃ g : Nat, v = .slice (some ⟨g, 0, none⟩) 1 1
def OnE (e : En) (v : Value) (w : World) : Prop := ∀ g : Nat, v = .slice (some ⟨g, 0, none⟩) 1 1 → w.heap[g]? = some (.cells #[.string e.nm, .int .i64 e.d.x, .int .i64 e.d.y, .int .i64 e.d.z, .int .i64 e.li] 45)
theorem onE_stb (e : En) (v : Value) : Stb (OnE e v) := fun _ _ h k g q => keepB (h g q) k
theorem one_ent {w : World} {g : Nat} {e : En} (h : w.heap[g]? = some (.cells #[.string e.nm, .int .i64 e.d.x, .int .i64 e.d.y, .int .i64 e.d.z, .int .i64 e.li] 45)) : ∀ k u, (valEn e)[k]? = some u → w.cell? ((⟨g, 0, none⟩ : Addr).add k) = some u := by
  intro k u hu
  rw [add_pl2, Nat.zero_add]
  rcases k with _ | _ | _ | _ | _ | k
  · rw [← hu]; exact (cells_at h 0 (by simp)).1
  · rw [← hu]; exact (cells_at h 1 (by simp)).1
  · rw [← hu]; exact (cells_at h 2 (by simp)).1
  · rw [← hu]; exact (cells_at h 3 (by simp)).1
  · rw [← hu]; exact (cells_at h 4 (by simp)).1
  · simp [valEn] at hu
theorem own_slice {w : World} {B n s : Nat} {t : TypeId} {v : Value} {xs : List Value} (h : w.ownsRow B t s v n xs) : ∃ ad cap, v = .slice ad n cap := by
  rcases h.2 with ⟨h1, h2⟩ | ⟨g, cap, cur, e, _⟩
  · exact ⟨none, 0, by rw [h1, h2]⟩
  · exact ⟨_, cap, e⟩
theorem own_ne {w : World} {B n s g : Nat} {t t2 : TypeId} {v : Value} {xs : List Value} {cs : Array Value} (h : w.ownsRow B t s v n xs) (hg : w.heap[g]? = some (.cells cs t2)) (ht : t ≠ t2) : some g ≠ v.ownBlock := by
  intro q
  rcases h.2 with ⟨e1, _⟩ | ⟨k, c1, cur, e1, _, hh, _⟩
  · rw [e1] at q
    cases q
  · rw [e1] at q
    simp only [Value.ownBlock] at q
    injection q with q
    rw [← q, hg] at hh
    injection hh with hh
    injection hh with _ hh
    exact ht hh.symm
theorem own_setA {w : World} {B n s g i : Nat} {e : TypeId} {v x : Value} {xs : List Value} (h : w.ownsRow B e s v n xs) (hg : some g ≠ v.ownBlock) : (w.setCell ⟨g, i, none⟩ x).ownsRow B e s v n xs := by
  obtain ⟨a1, a2⟩ := h
  refine ⟨a1, ?_⟩
  rcases a2 with a2 | ⟨k, cap, cur, hv, hB, hh, r⟩
  · exact Or.inl a2
  · refine Or.inr ⟨k, cap, cur, hv, hB, ?_, r⟩
    rw [Below.heap_setCell _ _ _ _ (fun q => hg ?_)]
    · exact hh
    · subst hv
      simp only [Value.ownBlock]
      exact congrArg some q.symm
/-- behind Add: the row with one more; other blocks are as they were. -/
structure AdPost (w : World) (g : Nat) (lv : Int) (ad : Option Addr) (B : Nat) (L : List En) (w' : World) : Prop where
  row : ∃ ad' cap', w'.heap[g]? = some (.cells #[.int .i64 lv, .slice ad' L.length cap'] 47) ∧ w'.ownsRow B 45 5 (.slice ad' L.length cap') L.length (flatEn L)
  size : w.heap.size ≤ w'.heap.size
  os : w'.os = w.os
  tape : w'.tape = w.tape
  output : w'.output = w.output
  block : ∀ k, k < w.heap.size → k ≠ g → (∀ a0, ad = some a0 → k ≠ a0.block) → w'.heap[k]? = w.heap[k]?
theorem ad_post {w v5 w6 : World} {g n cap cap6 B : Nat} {lv : Int} {ad ad6 : Option Addr} {L : List En} {xs : List Value} (hlen : L.length = n + 1) (hb : Below w.heap.size w v5) (_hO : v5.ownsRow B 45 5 (.slice ad n cap) n xs) (hgrow : v5.grownBy w6 (Value.slice ad n cap).ownBlock) (hab6 : w6.heap[g]? = some (.cells #[.int .i64 lv, .slice ad n cap] 47)) (hown : w6.ownsRow B 45 5 (.slice ad6 (n + 1) cap6) (n + 1) (flatEn L)) : AdPost w g lv ad B L (w6.setCell ⟨g, 1, none⟩ (.slice ad6 (n + 1) cap6)) := by
  refine ⟨⟨ad6, cap6, ?_, ?_⟩, ?_, ?_, ?_, ?_, fun k hk h1 h2 => ?_⟩
  · rw [hlen]
    simp [World.setCell, Array.getElem?_modify, hab6]
  · rw [hlen]
    exact own_setA hown (own_ne hown hab6 (by decide))
  · have h3 := hgrow.size
    have h4 := hb.size
    simp [World.setCell]
    omega
  · exact hgrow.os.trans hb.os
  · exact hgrow.tape.trans hb.tape
  · exact hgrow.output.trans hb.output
  · rw [Below.heap_setCell _ _ _ _ h1, hgrow.block k (Nat.lt_of_lt_of_le hk hb.size) ?_, hb.block k hk]
    intro q
    cases ad with
    | none => cases q
    | some a0 =>
      simp only [Value.ownBlock] at q
      injection q with q
      exact h2 a0 rfl q
set_option maxRecDepth 100000 in
set_option maxHeartbeats 6400000 in
theorem add_yes (e : En) {w : World} {g : Nat} {lv : Int} {ad : Option Addr} {cap : Nat} {L : List En} (hA0 : AtB w g lv ad cap L) (hl : L.length ≤ 4000) (hE : adE e L = 0) {B : Nat} (hO : w.ownsRow B 45 5 (.slice ad L.length cap) L.length (flatEn L)) (hBw : B ≤ w.heap.size) (hsz : e.nm.size ≤ 140737488355328) :
    Calls Tryz.prog 25 #[.pointer (some ⟨g, 0, none⟩), e.val] w fun r w' => r = .returned (.int .i64 0) ∧ AdPost w g lv ad B (L ++ [e]) w' := by
  have HPost : HeldR (∀ w', AdPost w g lv ad B (L ++ [e]) w' → AdPost w g lv ad B (L ++ [e]) w') := hideR (fun _ h => h)
  obtain ⟨i0, hi0, hz0, hz1, hz2⟩ := info_parts infoE
  have HO0 := hideR hO
  have HFl : HeldR (flatEn (L ++ [e]) = flatEn L ++ valEn e) := hideR (by rw [flatEn_append]; simp [flatEn])
  have HLl : HeldR ((L ++ [e]).length = L.length + 1) := hideR (by simp)
  have hdi := fun u => isDir_any e.d u
  have HH : HeldR (∀ i, hadV e L (i + 1) = (hadV e L i || ((L.getD i en0).nm.toList == e.nm.toList))) := hideR (fun i => rfl)
  have HH0 : HeldR (hadV e L 0 = (e.nm.toList.isEmpty || decide (40 < e.nm.size))) := hideR rfl
  have hadE : adE e L = if hadV e L L.length then 10 else if dirB e.d = false then 5 else if 4000 ≤ L.length then 2 else 0 := rfl
  obtain ⟨n, hn⟩ : ∃ n, L.length = n := ⟨_, rfl⟩
  have Hn := hideR hn
  rw [hn] at hadE
  generalize hadV e L = H at *
  generalize adE e L = EE at *
  generalize dirB e.d = DB at *
  obtain ⟨en, ⟨ex, ey, ez⟩, el⟩ := e
  unfold En.val Dr.val at *
  simp only at *
  have z1 := alloc_last w (.cells #[.string en, .int .i64 ex, .int .i64 ey, .int .i64 ez, .int .i64 el] 45)
  have HB := hideR (below_a w (.cells #[.string en, .int .i64 ex, .int .i64 ey, .int .i64 ez, .int .i64 el] 45))
  have HA := hideR (hA0.below (below_a w (.cells #[.string en, .int .i64 ex, .int .i64 ey, .int .i64 ez, .int .i64 el] 45)))
  have HadE := hideR (And.intro hadE hE)
  rw [hn] at hl
  clear hA0 hn hadE hE
  go_enter Tryz.func25, Tryz.ntmps25
  go_upto_region 1 with fail
  generalize w.alloc (.cells #[.string en, .int .i64 ex, .int .i64 ey, .int .i64 ez, .int .i64 el] 45) = u0 at *
  generalize w.heap.size = K at z1 ⊢
  have x0 := (cells_at z1 0 (by simp)).1
  go_cut [5] from 5 to 16 (fun s5 wx => s5 = .bool (H 0) ∧ wx = u0)
  case' first =>
    go_wp2
    all_goals
      go_meet
      refine ⟨congrArg Value.bool ?_, rfl⟩
      rw [unhideR HH0]
      first | (congr 1; rw [decide_eq_decide]; omega) | (rename_i h; rw [h]; rfl)
  obtain ⟨rfl, rfl⟩ := hcut
  clear x0 HH0
  go_wp2_with fail
  go_loopw [5, 6] (fun hv iv wl => ∃ (i : Nat), i ≤ n ∧ iv = .int .i64 (i : Nat) ∧ hv = .bool (H i) ∧ HeldR (AtB wl g lv ad cap L) ∧ wl.heap[K]? = some (.cells #[.string en, .int .i64 ex, .int .i64 ey, .int .i64 ez, .int .i64 el] 45) ∧ HeldR (Below w.heap.size w wl)) (fun _ iv _ => n + 1 - (intOf iv).toNat)
  case atStart => exact ⟨0, by omega, rfl, rfl, HA, z1, HB⟩
  case round =>
    clear HA z1 HB
    obtain ⟨i, hin, rfl, rfl, HA, z1, HB⟩ := hrel
    have hab := (unhideR HA).b
    rw [unhideR Hn] at hab
    have a1 := (cells_at hab 1 (by simp)).1
    clear hab
    by_cases q : i < n
    · have ti : decide ((i : Int) < (n : Int)) = true := decide_eq_true (by omega)
      have tin : decide (i < n) = true := decide_eq_true q
      have wi : IntKind.i64.wrap ((i : Int) + 1) = (i : Int) + 1 := iwrap (by omega) (by omega)
      have hin2 : (i : Int) < (n : Int) := by omega
      obtain ⟨b, off, had, hbl, hei⟩ := (unhideR HA).e.at_ i (by rw [unhideR Hn]; exact q)
      subst had
      have hhi := unhideR HH i
      go_upto_region 5 with fail
      clear a1
      have hab : wr.drew.heap[g]? = some (.cells #[.int .i64 lv, .slice (some ⟨b, off, none⟩) L.length cap] 47) := (unhideR HA).b
      rw [unhideR Hn] at hab
      have a1 := (cells_at hab 1 (by simp)).1
      have ni : wr.drew.cell? ⟨b, off + i * 5, none⟩ = some (.string (L.getD i en0).nm) := hei.c0
      have x0 := (cells_at (show wr.drew.heap[K]? = some (.cells #[.string en, .int .i64 ex, .int .i64 ey, .int .i64 ez, .int .i64 el] 45) from z1) 0 (by simp)).1
      obtain ⟨si, hsi⟩ : ∃ s, (L.getD i en0).nm = s := ⟨_, rfl⟩
      rw [hsi] at ni hhi
      replace HB := hideR (drewBlA (unhideR HB))
      replace z1 : wr.drew.heap[K]? = some (.cells #[.string en, .int .i64 ex, .int .i64 ey, .int .i64 ez, .int .i64 el] 45) := z1
      replace HA : HeldR (AtB wr.drew g lv (some ⟨b, off, none⟩) cap L) := hideR ⟨(unhideR HA).b, (unhideR HA).e.below (drewBlA (Below.refl _ _))⟩
      have HHi := hideR hhi
      clear hab hei hbl hsi hhi
      cases qH : H i with
      | true =>
        rw [qH] at HHi
        go_region
        generalize wr.drew = v6 at *
        clear a1 ni x0
        go_wp2
        exact ⟨⟨i + 1, by omega, by go_num, by rw [unhideR HHi]; rfl, HA, z1, HB⟩, by simp [intOf]; omega⟩
      | false =>
        rw [qH] at HHi
        go_region
        generalize wr.drew = v6 at *
        clear a1 ni x0
        go_wp2
        exact ⟨⟨i + 1, by omega, by go_num, by rw [unhideR HHi]; rfl, HA, z1, HB⟩, by simp [intOf]; omega⟩
    · obtain rfl : i = n := by omega
      have ti : decide ((i : Int) < (i : Int)) = false := decide_eq_false (by omega)
      have tin : decide (i < i) = false := decide_eq_false (by omega)
      have hEE := (unhideR HadE).1
      cases qH : H i with
      | true =>
        rw [qH] at hEE
        exact absurd ((show EE = 10 from hEE).symm.trans (unhideR HadE).2) (by decide)
      | false =>
        rw [qH] at hEE
        have HEE := hideR hEE
        clear hEE
        have x1 := (cells_at z1 1 (by simp)).1
        have x2 := (cells_at z1 2 (by simp)).1
        have x3 := (cells_at z1 3 (by simp)).1
        go_wp2_with fail
        refine (hdi _).mono ?_
        rintro r v7 ⟨rfl, k7⟩
        replace HA := hideR ((unhideR HA).below k7)
        replace HB := hideR (below_go (unhideR HB) k7)
        replace z1 := keepB z1 k7
        clear k7 hdi x1 x2 x3 a1
        have hab := (unhideR HA).b
        rw [unhideR Hn] at hab
        have a1 := (cells_at hab 1 (by simp)).1
        clear hab
        cases DB with
        | false =>
          exact absurd ((show EE = 5 from unhideR HEE).symm.trans (unhideR HadE).2) (by decide)
        | true =>
          have q4 : ¬ 4000 ≤ i := by
            intro q4
            exact absurd ((show EE = 2 by rw [unhideR HEE]; simp [q4]).symm.trans (unhideR HadE).2) (by decide)
          have t4 : decide ((4000 : Int) ≤ (i : Int)) = false := decide_eq_false (by omega)
          have t4n : decide (4000 ≤ i) = false := decide_eq_false q4
          clear HadE HH HEE
          go_upto_region 13 with fail
          refine Y.wp_region_pure 3 #[true, true, true, true, true, true, true, false, false, false, false] [.pure (.pointer (some ⟨g, 0, none⟩)),
            .lets (· = .pointer (some ⟨g, 0, none⟩)),
            .lets (· = .pointer (some ⟨g, 0, none⟩)),
            .lets (· = .pointer (some ⟨g, 1, none⟩)),
            .lets (· = .slice ad i cap),
            .lets (· = .agg #[.string en, .int .i64 ex, .int .i64 ey, .int .i64 ez, .int .i64 el]),
            .made SlO (OnE ⟨en, ⟨ex, ey, ez⟩, el⟩)] [0] (by kernel_rfl) (by kernel_rfl) rfl ?pures (fun d _ _ _ _ h => by cases d <;> exact h) (by kernel_rfl) (by kernel_rfl) ?_
          case pures =>
            intro i h
            rcases i with _ | _ | _ | _ | _ | _ | _ | i <;> first | exact ⟨_, rfl⟩ | (simp at h)
          refine Y.lexX_pure (fun K hK => ⟨.inl ⟨by kernel_rfl, fun v => ?_⟩, ?_⟩)
          · go_simp
          go_simp
          refine hK _ ?_
          clear hK K
          refine Y.lexX_step (fun K hK => ⟨by kernel_rfl, ⟨_, rfl⟩, fun v hv => ?_, fun v hv => ?_⟩)
          · go_simp
            exact mUpon_b
          subst hv
          go_simp
          refine hK _ ?_
          clear hK K
          refine Y.lexX_step (fun K hK => ⟨by kernel_rfl, ⟨_, rfl⟩, fun v hv => ?_, fun v hv => ?_⟩)
          · go_simp
            exact mUpon_b
          subst hv
          go_simp
          refine hK _ ?_
          clear hK K
          refine Y.lexX_step (fun K hK => ⟨by kernel_rfl, ⟨_, rfl⟩, fun v hv => ?_, fun v hv => ?_⟩)
          · go_simp
            exact mUpon_b
          subst hv
          go_simp
          refine hK _ ?_
          clear hK K
          refine Y.lexX_step (fun K hK => ⟨by kernel_rfl, ⟨_, rfl⟩, fun v hv => ?_, fun v hv => ?_⟩)
          · have q9 := (cells_at (keepB (unhideR HA).b hv) 1 (by simp)).1
            rw [unhideR Hn] at q9
            go_simp
            exact mUpon_b
          subst hv
          go_simp
          refine hK _ ?_
          clear hK K
          refine Y.lexX_step (fun K hK => ⟨by kernel_rfl, ⟨_, rfl⟩, fun v hv => ?_, fun v hv => ?_⟩)
          · have q9 := keepB z1 hv
            have q0 := (cells_at q9 0 (by simp)).1
            have q1 := (cells_at q9 1 (by simp)).1
            have q2 := (cells_at q9 2 (by simp)).1
            have q3 := (cells_at q9 3 (by simp)).1
            have q4 := (cells_at q9 4 (by simp)).1
            go_simp
            exact mUpon_b
          subst hv
          go_simp
          refine hK _ ?_
          clear hK K
          refine Y.lexX_made ⟨by kernel_rfl, ⟨_, 0, rfl⟩, onE_stb _, fun v hv => ?_, ?_⟩
          · go_simp
            exact ⟨below_a v _, ⟨_, rfl⟩, fun q hq => by cases hq; exact alloc_last v _⟩
          rintro _ ⟨u9, rfl⟩ K9 hK9
          go_simp
          refine hK9 _ ?_
          clear hK9 K9
          refine Y.lexX_end (fun v5 hv => ?_)
          have HO9 := hideR (hv.fact.2 _ rfl)
          have k5 := hv.low
          clear hv
          have HB5 := hideR (below_go (unhideR HB) k5)
          have HA5 := hideR (keepB (unhideR HA).b k5)
          clear k5 z1 HB HA a1
          have hO5 : v5.ownsRow B 45 5 (.slice ad i cap) i (flatEn L) := by
            have := own_below2 (unhideR HO0) (unhideR HB5)
            rw [unhideR Hn] at this
            exact this
          have hB5 : B ≤ v5.heap.size := Nat.le_trans hBw (unhideR HB5).size
          have hab : v5.heap[g]? = some (.cells #[.int .i64 lv, .slice ad i cap] 47) := by
            have := unhideR HA5
            rw [unhideR Hn] at this
            exact this
          refine wpAny_step (i := 7) (by kernel_rfl) rfl (by kernel_rfl) (fun K9 hK9 => ?_)
          refine wp_append_own _ _ _ 22 rfl B 45 i0 (.agg #[.string ByteArray.empty, .int .i64 0, .int .i64 0, .int .i64 0, .int .i64 0]) 5 48 Tryz.underlying22 hi0 hz0 hz1 hz2 rfl (by decide) _ i (flatEn L) rfl hO5 ⟨u9, 0, none⟩ 1 1 (valEn ⟨en, ⟨ex, ey, ez⟩, el⟩) rfl rfl ?q1 ?q2 ?q3 ?q4 ?q5 ?_
          case q1 => exact one_ent (unhideR HO9)
          case q2 =>
            intro u hu
            simp only [valEn, List.mem_cons, List.not_mem_nil, or_false] at hu
            rcases hu with rfl | rfl | rfl | rfl | rfl <;> rfl
          case q3 => unfold maxLen; omega
          case q4 => omega
          case q5 => exact hB5
          intro v6 w6 hown hgrow _
          obtain ⟨ad6, cap6, e6⟩ := own_slice hown
          subst e6
          have hab6 : w6.heap[g]? = some (.cells #[.int .i64 lv, .slice ad i cap] 47) := (hgrow.block g (Array.getElem?_eq_some_iff.1 hab).1 (own_ne hO5 hab (by decide))).trans hab
          have d1 := (cells_at hab6 1 (by simp)).1
          have f1 := (cells_at hab6 1 (by simp)).2
          have HX : HeldR (AdPost w g lv ad B (L ++ [⟨en, ⟨ex, ey, ez⟩, el⟩]) (w6.setCell ⟨g, 1, none⟩ (.slice ad6 (i + 1) cap6))) := hideR (by
            refine ad_post (n := i) (unhideR HLl |>.trans (by rw [unhideR Hn])) (unhideR HB5) hO5 hgrow hab6 ?_
            rw [unhideR HFl]
            exact hown)
          clear hown hgrow hO5 hab hab6 HA5 HB5
          go_simp
          refine hK9 _ _ ?_
          clear hK9 K9
          refine wpAny_step (i := 8) (by kernel_rfl) rfl (by kernel_rfl) (fun K hK => ?_)
          unfold Oper.wp
          go_simp
          refine hK _ _ ?_
          clear hK K
          refine wpAny_step (i := 9) (by kernel_rfl) rfl (by kernel_rfl) (fun K hK => ?_)
          unfold Oper.wp
          go_simp
          refine hK _ _ ?_
          clear hK K
          refine wpAny_step (i := 10) (by kernel_rfl) rfl (by kernel_rfl) (fun K hK => ?_)
          unfold Oper.wp
          go_simp
          refine hK _ _ ?_
          clear hK K
          refine wpAny_end (by kernel_rfl) ?_
          go_wp2
          go_ret
          exact ⟨rfl, unhideR HX⟩
end Go.Proofs.YtfonpobdnhifgamGreatDoor
namespace Go.Proofs.YtfonpobdnhifgamGreatDoor
open Go Go.RowKit

theorem own_belowC {w w' : World} {B n s : Nat} {e : TypeId} {v : Value} {xs : List Value} (h : w.ownsRow B e s v n xs) (hb : Below w.heap.size w w') : w'.ownsRow B e s v n xs := own_below2 h hb
theorem insV_len (L : List ByteArray) (s : ByteArray) : (insV L s).length = L.length + 1 := by
  have h : (L.takeWhile (fun a => lessB a s) ++ L.dropWhile (fun a => lessB a s)).length = L.length := by rw [List.takeWhile_append_dropWhile]
  rw [List.length_append] at h
  unfold insV
  rw [List.length_append, List.length_cons]
  omega
/-- a row of names that is owned. -/
def NmOwn (w : World) (v : Value) (L : List ByteArray) : Prop := ∃ B, w.ownsRow B 9 1 v L.length (L.map Value.string)
theorem own_below2N {w w' : World} {v : Value} {L : List ByteArray} (h : NmOwn w v L) (k : Below w.heap.size w w') : NmOwn w' v L := by
  obtain ⟨B, h⟩ := h
  exact ⟨B, own_below2 h k⟩
end Go.Proofs.YtfonpobdnhifgamGreatDoor
