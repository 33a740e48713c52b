/-
  The pictures of an instrument; which fittings are in the way: the program's, by contract.
-/
import Derived.Test.YtoacdaemhcbbhaaDoorNsJ
namespace Go.Proofs.YtoacdaemhcbbhaaDoor
open Go Go.RowKit

theorem anyN_list {α : Type} (d : α) (q : α → Bool) : ∀ L : List α, anyN (fun k => q (L.getD k d)) L.length = L.any q := fun L => by
  rw [Bool.eq_iff_iff, anyN_iff, List.any_eq_true]
  constructor
  · rintro ⟨k, hk, h⟩
    refine ⟨L.getD k d, ?_, h⟩
    rw [List.getD_eq_getElem?_getD, List.getElem?_eq_getElem hk]
    exact List.getElem_mem _
  · rintro ⟨x, hx, h⟩
    obtain ⟨k, hk, rfl⟩ := List.mem_iff_getElem.1 hx
    refine ⟨k, hk, ?_⟩
    rw [List.getD_eq_getElem?_getD, List.getElem?_eq_getElem hk]
    exact h
theorem opV_is (L : List Spn) (x : Int) : opV L x = inV L x := anyN_list sp0 (fun s => decide (s.f ≤ x) && decide (x < s.t)) L
set_option maxRecDepth 100000 in
set_option maxHeartbeats 3200000 in
theorem pidxF_any {w : World} {ad : Option Addr} {cap : Nat} {X : List Fg} (hl : FgCame w ad X) (hn : X.length ≤ 4000) {fn : Nat} {caps : Array Value} {P : Nat → Bool} (eg : ∀ args w, (callFunc fn args).run Tryd.prog w = .ok (.enter fn args) w)
    (hf : ∀ k, k < X.length → ∀ u, Below w.heap.size w u → Calls Tryd.prog fn (#[.agg #[.string (X.getD k fg0).t.nm, .iface (X.getD k fg0).ty (X.getD k fg0).pv]] ++ caps) u fun e w' => e = .returned (.bool (P k)) ∧ Below u.heap.size u w') :
    Calls Tryd.prog 65 #[.slice ad X.length cap, .func (.func fn) #[] caps] w fun e w' => (∃ r, e = .returned (.int .i64 r) ∧ IsFst P X.length r) ∧ Below w.heap.size w w' := by
  have HL : HeldR (∀ u, Below w.heap.size w u → FgCame u ad X) := hideR (fun u q => hl.below q)
  have HF := hideR hf
  obtain ⟨n, hn0⟩ : ∃ n, X.length = n := ⟨_, rfl⟩
  have Hn := hideR hn0
  rw [hn0] at hn ⊢
  clear hl hf hn0
  go_enter Tryd.func65, Tryd.ntmps65
  go_wp2
  go_loopw [8] (fun iv wl => ∃ i : Nat, i ≤ n ∧ iv = .int .i64 (i : Nat) ∧ HeldR (∀ j, j < i → P j = false) ∧ HeldR (Below w.heap.size w wl)) (fun iv _ => n + 1 - (intOf iv).toNat)
  case atStart => exact ⟨0, by omega, rfl, hideR (fun j hj => absurd hj (Nat.not_lt_zero j)), hideR (Below.refl _ _)⟩
  case round =>
    obtain ⟨i, hi, rfl, HA, HB⟩ := hrel
    by_cases q : i < n
    · have ti : decide ((i : Int) < (n : Int)) = true := decide_eq_true (by omega)
      have tin : decide (i < n) = true := decide_eq_true q
      have wi : IntKind.i64.wrap ((i : Int) + 1) = (i : Int) + 1 := iwrap (by omega) (by omega)
      have hii : (i : Int) < (n : Int) := by omega
      obtain ⟨bb, had, hbb, h0, h1⟩ := (unhideR HL wr (unhideR HB)).at_ i (by rw [unhideR Hn]; exact q)
      subst had
      have hc := unhideR HF i (by rw [unhideR Hn]; exact q) wr (unhideR HB)
      generalize X.getD i fg0 = f at *
      clear HF
      go_wp2_with fail
      refine hc.mono ?_
      rintro e u ⟨rfl, k⟩
      have HB2 := hideR ((unhideR HB).trans (k.mono (unhideR HB).size))
      clear hc k h0 h1 HB
      cases hp : P i
      · have HA2 : HeldR (∀ j, j < i + 1 → P j = false) := hideR (fun j hj => by
          by_cases e : j = i
          · subst e; exact hp
          · exact unhideR HA j (by omega))
        clear HA hp
        go_wp2
        exact ⟨⟨i + 1, by omega, by go_num, HA2, HB2⟩, by simp [intOf]; omega⟩
      · have HR : HeldR (IsFst P n (i : Int)) := hideR (.inr ⟨i, q, rfl, hp, unhideR HA⟩)
        clear HA hp
        go_wp2
        go_ret
        exact ⟨⟨_, rfl, unhideR HR⟩, unhideR HB2⟩
    · obtain rfl : i = n := by omega
      have ti : decide ((i : Int) < (i : Int)) = false := decide_eq_false (by omega)
      have tin : decide (i < i) = false := decide_eq_false (by omega)
      have HR : HeldR (IsFst P i (-1)) := hideR (.inl ⟨rfl, unhideR HA⟩)
      clear HA
      go_wp2
      go_ret
      exact ⟨⟨_, rfl, unhideR HR⟩, unhideR HB⟩
set_option maxRecDepth 100000 in
set_option maxHeartbeats 3200000 in
theorem pconF_any {w : World} {ad : Option Addr} {cap : Nat} {X : List Fg} (hl : FgCame w ad X) (hn : X.length ≤ 4000) {fn : Nat} {caps : Array Value} {P : Nat → Bool} (eg : ∀ args w, (callFunc fn args).run Tryd.prog w = .ok (.enter fn args) w)
    (hf : ∀ k, k < X.length → ∀ u, Below w.heap.size w u → Calls Tryd.prog fn (#[.agg #[.string (X.getD k fg0).t.nm, .iface (X.getD k fg0).ty (X.getD k fg0).pv]] ++ caps) u fun e w' => e = .returned (.bool (P k)) ∧ Below u.heap.size u w') :
    Calls Tryd.prog 41 #[.slice ad X.length cap, .func (.func fn) #[] caps] w fun e w' => e = .returned (.bool (anyN P X.length)) ∧ Below w.heap.size w w' := by
  have hi := pidxF_any (cap := cap) hl hn eg hf
  clear hl hf
  generalize X.length = n at *
  obtain ⟨A, hA⟩ : ∃ A, anyN P n = A := ⟨_, rfl⟩
  rw [hA]
  go_enter Tryd.func41, Tryd.ntmps41
  go_wp2_with fail
  refine hi.mono ?_
  rintro e u ⟨⟨r, rfl, hr⟩, k⟩
  have hd := hr.any
  rw [hA] at hd
  have HK := hideR k
  clear hi hr k hA
  go_wp2
  go_ret
  exact ⟨rfl, unhideR HK⟩
set_option maxRecDepth 100000 in
set_option maxHeartbeats 3200000 in
theorem pshoot1_any {W : World} {B ga : Nat} {x : Int} {f : Fg} (ha : W.heap[ga]? = some (.cells #[.int .i64 x] 3)) (h : InsR W B f.t (.iface f.ty f.pv)) (hL : f.t.op.length ≤ 4000) (hk : 1 ≤ f.t.kd ∧ f.t.kd ≤ 4) :
    Calls Tryd.prog 42 #[.agg #[.string f.t.nm, .iface f.ty f.pv], .pointer (some ⟨ga, 0, none⟩)] W fun e w' => e = .returned (.bool (wayV f.t x)) ∧ Below W.heap.size W w' := by
  have z := alloc_last W (.cells #[.string f.t.nm, .iface f.ty f.pv] 104)
  have hb := below_a W (.cells #[.string f.t.nm, .iface f.ty f.pv] 104)
  have HB := hideR hb
  have x1 := (cells_at z 1 (by simp)).1
  have y0 := (cells_at (keepA (o' := .cells #[.string f.t.nm, .iface f.ty f.pv] 104) ha) 0 (by simp)).1
  have hw := pway_any (h.keep (Kf.of hb)) hL hk x
  generalize wayV f.t x = q at *
  generalize f.t.nm = nm at *
  generalize f.ty = ty at *
  generalize f.pv = pv at *
  clear z ha hb h
  go_enter Tryd.func42, Tryd.ntmps42
  go_wp2_with fail
  refine hw.mono ?_
  rintro e u ⟨rfl, k⟩
  have HK := hideR (below_go (unhideR HB) k)
  clear hw k x1 y0 HB
  go_wp2
  go_ret
  exact ⟨rfl, unhideR HK⟩
set_option maxRecDepth 100000 in
set_option maxHeartbeats 3200000 in
theorem ppic_any {w : World} {ad : Option Addr} {cap : Nat} {L : List Int} (wd hi : Int) (h : ICame w ad L) (hnil : ad = none → cap = 0) (hL : L.length ≤ 4000) :
    Calls Tryd.prog 107 #[valP wd hi ad L.length cap] w (CoPost wd hi L w) := by
  obtain ⟨z1, z2, hb⟩ := two_allocN w (.cells #[.int .i64 wd, .int .i64 hi, .slice ad L.length cap] 130) (.cells #[.int .i64 0, .int .i64 0, .slice none 0 0] 54)
  have hc := pcopied_any (cap := cap) wd hi (h.below hb) hnil hL
  have HP : HeldR (∀ ad cap w', w'.ownsRow w.heap.size 3 1 (.slice ad L.length cap) L.length (L.map (Value.int .i64)) → Below w.heap.size w w' → CoPost wd hi L w (.returned (valP wd hi ad L.length cap)) w') := hideR (fun ad cap w' h1 h2 => ⟨⟨ad, cap, rfl, h1⟩, h2⟩)
  generalize hCo : CoPost wd hi L w = POST at *
  have hCo2 := hideR hCo
  clear hCo
  unfold CoPost at hc
  unfold valP at HP hc ⊢
  have x0 := (cells_at z1 0 (by simp)).1
  have x1 := (cells_at z1 1 (by simp)).1
  have x2 := (cells_at z1 2 (by simp)).1
  have hsz : ((w.alloc (.cells #[.int .i64 wd, .int .i64 hi, .slice ad L.length cap] 130)).alloc (.cells #[.int .i64 0, .int .i64 0, .slice none 0 0] 54)).heap.size = w.heap.size + 2 := by simp
  generalize (L.map (Value.int .i64)) = XS at *
  generalize L.length = n at *
  clear h hnil
  go_enter Tryd.func107, Tryd.ntmps107
  go_wp2_with fail
  refine hc.mono ?_
  rintro e u1 ⟨⟨ad1, c1, rfl, ho⟩, k1⟩
  rw [hsz] at ho
  have z4 := keepB z2 k1
  have HB := hideR (below_go hb k1)
  have HO := hideR ho
  clear hc x0 x1 x2 z1 z2 k1 hb ho hsz
  generalize w.heap.size = K at *
  have a0 := (cells_at z4 0 (by simp)).1
  have a1 := (cells_at z4 1 (by simp)).1
  have a2 := (cells_at z4 2 (by simp)).1
  have g0 := (cells_at z4 0 (by simp)).2
  have g1 := (cells_at z4 1 (by simp)).2
  have g2 := (cells_at z4 2 (by simp)).2
  have HQ := hideR (fun x y z => unhideR HP ad1 c1 (((u1.setCell ⟨K + 1, 0, none⟩ x).setCell ⟨K + 1, 1, none⟩ y).setCell ⟨K + 1, 2, none⟩ z) (own_lowerG (set_own (set_own (set_own (unhideR HO) ⟨K + 1, 0, none⟩ (by show K + 1 < K + 2; omega) _) ⟨K + 1, 1, none⟩ (by show K + 1 < K + 2; omega) _) ⟨K + 1, 2, none⟩ (by show K + 1 < K + 2; omega) _) (by omega))
    ((((unhideR HB).setCell (p := ⟨K + 1, 0, none⟩) (Nat.le_succ _) _).setCell (p := ⟨K + 1, 1, none⟩) (Nat.le_succ _) _).setCell (p := ⟨K + 1, 2, none⟩) (Nat.le_succ _) _))
  have n12 : (⟨K + 1, 0, none⟩ : Addr) ≠ ⟨K + 1, 1, none⟩ := fun e => by injection e; omega
  have n13 : (⟨K + 1, 0, none⟩ : Addr) ≠ ⟨K + 1, 2, none⟩ := fun e => by injection e; omega
  have n23 : (⟨K + 1, 1, none⟩ : Addr) ≠ ⟨K + 1, 2, none⟩ := fun e => by injection e; omega
  have d0 : (u1.setCell ⟨K + 1, 0, none⟩ (.int .i64 wd)).cell? ⟨K + 1, 0, none⟩ = some (.int .i64 wd) := World.cell?_setCell_same _ _ _ a0
  have d1 : ((u1.setCell ⟨K + 1, 0, none⟩ (.int .i64 wd)).setCell ⟨K + 1, 1, none⟩ (.int .i64 hi)).cell? ⟨K + 1, 1, none⟩ = some (.int .i64 hi) := World.cell?_setCell_same _ _ _ ((World.cell?_setCell_other _ _ _ _ n12).trans a1)
  have d2 : (((u1.setCell ⟨K + 1, 0, none⟩ (.int .i64 wd)).setCell ⟨K + 1, 1, none⟩ (.int .i64 hi)).setCell ⟨K + 1, 2, none⟩ (.slice ad1 n c1)).cell? ⟨K + 1, 2, none⟩ = some (.slice ad1 n c1) := World.cell?_setCell_same _ _ _ ((World.cell?_setCell_other _ _ _ _ n23).trans ((World.cell?_setCell_other _ _ _ _ n13).trans a2))
  clear HP HO HB z4 n12 n13 n23 hCo2
  go_wp2
  try simp [bodyPost, results, Tryd.results107, go_sem, d0, d1, d2]
  exact unhideR HQ _ _ _
/-- what pictures there are of an instrument: one of a camera. -/
def PoPost (t : Tl) (w : World) (e : Ending) (w' : World) : Prop :=
  ((t.kd = 1 ∧ ∃ g ad cap, e = .returned (.slice (some ⟨g, 0, none⟩) 1 1) ∧ w'.heap[g]? = some (.cells #[.int .i64 t.wd, .int .i64 t.hi, .slice ad t.cs.length cap] 54) ∧ w'.ownsRow w.heap.size 3 1 (.slice ad t.cs.length cap) t.cs.length (t.cs.map (Value.int .i64))) ∨ (t.kd ≠ 1 ∧ e = .returned (.slice none 0 0))) ∧ Below w.heap.size w w'
set_option maxRecDepth 100000 in
set_option maxHeartbeats 3200000 in
theorem ppics_any {w : World} {B : Nat} {t : Tl} {v : Value} (h : InsR w B t v) (hL : t.cs.length ≤ 4000) (hk : 1 ≤ t.kd ∧ t.kd ≤ 4) :
    Calls Tryd.prog 44 #[v] w (PoPost t w) := by
  have HN : HeldR (t.kd ≠ 1 → PoPost t w (.returned (.slice none 0 0)) w) := hideR (fun q => ⟨.inr ⟨q, rfl⟩, Below.refl _ _⟩)
  have HY : HeldR (∀ g ad cap w', t.kd = 1 → w'.heap[g]? = some (.cells #[.int .i64 t.wd, .int .i64 t.hi, .slice ad t.cs.length cap] 54) → w'.ownsRow w.heap.size 3 1 (.slice ad t.cs.length cap) t.cs.length (t.cs.map (Value.int .i64)) → Below w.heap.size w w' → PoPost t w (.returned (.slice (some ⟨g, 0, none⟩) 1 1)) w') := hideR (fun g ad cap w' h1 h2 h3 h4 => ⟨.inl ⟨h1, g, ad, cap, rfl, h2, h3⟩, h4⟩)
  generalize PoPost t w = POST at *
  rcases h with ⟨h1, ad, cap, rfl, ho⟩ | ⟨h1, ad, cap, rfl, ho⟩ | ⟨h1, rfl⟩ | ⟨h1, ad, cap, rfl, ho⟩ | ⟨h1, rfl⟩
  · obtain ⟨ad', cap', e', hi, _⟩ := own_ints ho
    cases e'
    have hp := ppic_any (cap := cap) t.wd t.hi hi (own_nil ho) hL
    unfold CoPost at hp
    have HY1 := hideR (fun g ad cap w' => unhideR HY g ad cap w' h1)
    unfold valP at hp ⊢
    have a0 := asStillCam
    have m0 := methStP
    clear ho hi HN HY
    generalize t.cs.map (Value.int .i64) = XS at *
    generalize t.cs.length = n at *
    go_enter Tryd.func44, Tryd.ntmps44
    go_wp2_with fail
    refine hp.mono ?_
    rintro e u ⟨⟨a1, c1, rfl, o1⟩, k⟩
    have HQ := hideR (unhideR HY1 u.heap.size a1 c1 (u.alloc (.cells #[.int .i64 t.wd, .int .i64 t.hi, .slice a1 n c1] 54)) (alloc_last u _) (own_below2 o1 (below_a u _)) (below_go k (below_a u _)))
    clear hp HY1 o1 k
    go_wp2
    exact unhideR HQ
  · have HQ := hideR (unhideR HN (by omega))
    have a0 := asHoursCam
    clear ho HN HY
    go_enter Tryd.func44, Tryd.ntmps44
    go_wp2
    exact unhideR HQ
  · have HQ := hideR (unhideR HN (by omega))
    have a0 := asFixedCam
    clear HN HY
    go_enter Tryd.func44, Tryd.ntmps44
    go_wp2
    exact unhideR HQ
  · have HQ := hideR (unhideR HN (by omega))
    have a0 := asRoofCam
    clear ho HN HY
    go_enter Tryd.func44, Tryd.ntmps44
    go_wp2
    exact unhideR HQ
  · omega
end Go.Proofs.YtoacdaemhcbbhaaDoor
