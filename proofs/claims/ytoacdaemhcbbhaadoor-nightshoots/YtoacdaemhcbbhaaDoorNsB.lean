/-
  Instruments: the program's copied, Still, Hours, Fixed, Roof, by contract.
-/
import Derived.Test.YtoacdaemhcbbhaaDoorNsA
namespace Go.Proofs.YtoacdaemhcbbhaaDoor
open Go Go.RowKit

def valP (wd hi : Int) (ad : Option Addr) (n cap : Nat) : Value := .agg #[.int .i64 wd, .int .i64 hi, .slice ad n cap]
def CoPost (wd hi : Int) (L : List Int) (w : World) (e : Ending) (w' : World) : Prop := (∃ ad cap, e = .returned (valP wd hi ad L.length cap) ∧ w'.ownsRow w.heap.size 3 1 (.slice ad L.length cap) L.length (L.map (Value.int .i64))) ∧ Below w.heap.size w w'
theorem set_own {w : World} {B n s : Nat} {e : TypeId} {v : Value} {xs : List Value} (h : w.ownsRow B e s v n xs) (p : Addr) (hp : p.block < B) (x : Value) : (w.setCell p x).ownsRow B e s v n xs :=
  row_keep h (fun k hk => heap_setCell_other _ _ _ _ (by have := (row_block h hk).1; omega))
set_option maxRecDepth 100000 in
set_option maxHeartbeats 3200000 in
theorem pcopied_any {w : World} {ad : Option Addr} {cap : Nat} {L : List Int} (wd hi : Int) (h : ICame w ad L) (hnil : ad = none → cap = 0) (hL : L.length ≤ 4000) :
    Calls Tryd.prog 58 #[valP wd hi ad L.length cap] w (CoPost wd hi L w) := by
  obtain ⟨z1, z2, hb⟩ := two_allocN w (.cells #[.int .i64 wd, .int .i64 hi, .slice ad L.length cap] 54) (.cells #[.int .i64 0, .int .i64 0, .slice none 0 0] 54)
  have hc := pcloneI_any (cap := cap) (h.below hb) hnil hL
  have HP : HeldR (∀ ad cap w', w'.ownsRow w.heap.size 3 1 (.slice ad L.length cap) L.length (L.map (Value.int .i64)) → Below w.heap.size w w' → CoPost wd hi L w (.returned (valP wd hi ad L.length cap)) w') := hideR (fun ad cap w' h1 h2 => ⟨⟨ad, cap, rfl, h1⟩, h2⟩)
  generalize CoPost wd hi L w = POST at *
  unfold valP at HP ⊢
  have x2 := (cells_at z1 2 (by simp)).1
  have hsz : ((w.alloc (.cells #[.int .i64 wd, .int .i64 hi, .slice ad L.length cap] 54)).alloc (.cells #[.int .i64 0, .int .i64 0, .slice none 0 0] 54)).heap.size = w.heap.size + 2 := by simp
  unfold CiPost at hc
  generalize (L.map (Value.int .i64)) = XS at *
  generalize L.length = n at *
  clear h hnil
  go_enter Tryd.func58, Tryd.ntmps58
  go_wp2_with fail
  refine hc.mono ?_
  rintro e u1 ⟨⟨ad1, c1, rfl, ho⟩, k1⟩
  rw [hsz] at ho
  have z3 := keepB z1 k1
  have z4 := keepB z2 k1
  have HB := hideR (below_go hb k1)
  have HO := hideR ho
  clear hc x2 z1 z2 k1 hb ho hsz
  generalize w.heap.size = K at *
  have y0 := (cells_at z3 0 (by simp)).1
  have y1 := (cells_at z3 1 (by simp)).1
  have y2 := (cells_at z3 2 (by simp)).1
  have f2 := (cells_at z3 2 (by simp)).2
  have a0 := (cells_at z4 0 (by simp)).1
  have a1 := (cells_at z4 1 (by simp)).1
  have a2 := (cells_at z4 2 (by simp)).1
  have g0 := (cells_at z4 0 (by simp)).2
  have g1 := (cells_at z4 1 (by simp)).2
  have g2 := (cells_at z4 2 (by simp)).2
  have HQ := hideR (fun x y z => unhideR HP ad1 c1 ((((u1.setCell ⟨K, 2, none⟩ (.slice ad1 n c1)).setCell ⟨K + 1, 0, none⟩ x).setCell ⟨K + 1, 1, none⟩ y).setCell ⟨K + 1, 2, none⟩ z) (own_lowerG (set_own (set_own (set_own (set_own (unhideR HO) ⟨K, 2, none⟩ (by show K < K + 2; omega) _) ⟨K + 1, 0, none⟩ (by show K + 1 < K + 2; omega) _) ⟨K + 1, 1, none⟩ (by show K + 1 < K + 2; omega) _) ⟨K + 1, 2, none⟩ (by show K + 1 < K + 2; omega) _) (by omega))
    (((((unhideR HB).setCell (p := ⟨K, 2, none⟩) (Nat.le_refl _) _).setCell (p := ⟨K + 1, 0, none⟩) (Nat.le_succ _) _).setCell (p := ⟨K + 1, 1, none⟩) (Nat.le_succ _) _).setCell (p := ⟨K + 1, 2, none⟩) (Nat.le_succ _) _))
  have n01 : (⟨K, 2, none⟩ : Addr) ≠ ⟨K + 1, 0, none⟩ := fun e => by injection e; omega
  have n02 : (⟨K, 2, none⟩ : Addr) ≠ ⟨K + 1, 1, none⟩ := fun e => by injection e; omega
  have n03 : (⟨K, 2, none⟩ : Addr) ≠ ⟨K + 1, 2, none⟩ := fun e => by injection e; omega
  have n12 : (⟨K + 1, 0, none⟩ : Addr) ≠ ⟨K + 1, 1, none⟩ := fun e => by injection e; omega
  have n13 : (⟨K + 1, 0, none⟩ : Addr) ≠ ⟨K + 1, 2, none⟩ := fun e => by injection e; omega
  have n23 : (⟨K + 1, 1, none⟩ : Addr) ≠ ⟨K + 1, 2, none⟩ := fun e => by injection e; omega
  have d0 : ((u1.setCell ⟨K, 2, none⟩ (.slice ad1 n c1)).setCell ⟨K + 1, 0, none⟩ (.int .i64 wd)).cell? ⟨K + 1, 0, none⟩ = some (.int .i64 wd) := World.cell?_setCell_same _ _ _ ((World.cell?_setCell_other _ _ _ _ n01).trans a0)
  have d1 : (((u1.setCell ⟨K, 2, none⟩ (.slice ad1 n c1)).setCell ⟨K + 1, 0, none⟩ (.int .i64 wd)).setCell ⟨K + 1, 1, none⟩ (.int .i64 hi)).cell? ⟨K + 1, 1, none⟩ = some (.int .i64 hi) := World.cell?_setCell_same _ _ _ ((World.cell?_setCell_other _ _ _ _ n12).trans ((World.cell?_setCell_other _ _ _ _ n02).trans a1))
  have d2 : ((((u1.setCell ⟨K, 2, none⟩ (.slice ad1 n c1)).setCell ⟨K + 1, 0, none⟩ (.int .i64 wd)).setCell ⟨K + 1, 1, none⟩ (.int .i64 hi)).setCell ⟨K + 1, 2, none⟩ (.slice ad1 n c1)).cell? ⟨K + 1, 2, none⟩ = some (.slice ad1 n c1) := World.cell?_setCell_same _ _ _ ((World.cell?_setCell_other _ _ _ _ n23).trans ((World.cell?_setCell_other _ _ _ _ n13).trans ((World.cell?_setCell_other _ _ _ _ n03).trans a2)))
  clear HP HO HB z3 z4 n01 n02 n03 n12 n13 n23
  go_wp2
  try simp [bodyPost, results, Tryd.results58, go_sem, d0, d1, d2]
  exact unhideR HQ _ _ _
set_option maxRecDepth 100000 in
set_option maxHeartbeats 3200000 in
theorem pstill_any {w : World} {ad : Option Addr} {cap : Nat} {L : List Int} (wd hi : Int) (h : ICame w ad L) (hnil : ad = none → cap = 0) (hL : L.length ≤ 4000) :
    Calls Tryd.prog 35 #[valP wd hi ad L.length cap] w fun e w' => (∃ ad cap, e = .returned (.iface 130 (valP wd hi ad L.length cap)) ∧ w'.ownsRow w.heap.size 3 1 (.slice ad L.length cap) L.length (L.map (Value.int .i64))) ∧ Below w.heap.size w w' := by
  have z := alloc_last w (.cells #[.int .i64 wd, .int .i64 hi, .slice ad L.length cap] 54)
  have hb := below_a w (.cells #[.int .i64 wd, .int .i64 hi, .slice ad L.length cap] 54)
  have hc := pcopied_any (cap := cap) wd hi (h.below hb) hnil hL
  unfold CoPost at hc
  unfold valP at hc ⊢
  have x0 := (cells_at z 0 (by simp)).1
  have x1 := (cells_at z 1 (by simp)).1
  have x2 := (cells_at z 2 (by simp)).1
  generalize (L.map (Value.int .i64)) = XS at *
  generalize L.length = n at *
  have HB := hideR hb
  clear h hnil hb z
  go_enter Tryd.func35, Tryd.ntmps35
  go_wp2_with fail
  refine hc.mono ?_
  rintro e u1 ⟨⟨ad1, c1, rfl, ho⟩, k1⟩
  have HO := hideR (own_lowerG ho (unhideR HB).size)
  have HK := hideR (below_go (unhideR HB) k1)
  clear hc x0 x1 x2 ho k1
  go_wp2
  go_ret
  exact ⟨⟨ad1, c1, rfl, unhideR HO⟩, unhideR HK⟩
set_option maxRecDepth 100000 in
set_option maxHeartbeats 3200000 in
theorem phours_any {w : World} {ad : Option Addr} {cap : Nat} {L : List Spn} (h : SpCame w ad L) (hnil : ad = none → cap = 0) (hL : L.length ≤ 4000) :
    Calls Tryd.prog 36 #[.slice ad L.length cap] w fun e w' => (∃ ad cap, e = .returned (.iface 133 (.agg #[.slice ad L.length cap])) ∧ w'.ownsRow w.heap.size 69 2 (.slice ad L.length cap) L.length (flatSp L)) ∧ Below w.heap.size w w' := by
  have hc := pcloneS_any (cap := cap) h hnil hL
  unfold CsPost at hc
  generalize flatSp L = XS at *
  generalize L.length = n at *
  clear h hnil
  go_enter Tryd.func36, Tryd.ntmps36
  go_wp2_with fail
  refine hc.mono ?_
  rintro e u1 ⟨⟨ad1, c1, rfl, ho⟩, k1⟩
  have HO := hideR ho
  have HK := hideR k1
  clear hc ho k1
  go_wp2
  go_ret
  exact ⟨⟨ad1, c1, rfl, unhideR HO⟩, unhideR HK⟩
set_option maxRecDepth 100000 in
set_option maxHeartbeats 3200000 in
theorem proof_any {w : World} {ad : Option Addr} {cap : Nat} {L : List Spn} (al az : Int) (h : SpCame w ad L) (hnil : ad = none → cap = 0) (hL : L.length ≤ 4000) :
    Calls Tryd.prog 37 #[.slice ad L.length cap, .int .i64 al, .int .i64 az] w fun e w' => (∃ ad cap, e = .returned (.iface 135 (.agg #[.slice ad L.length cap, .int .i64 al])) ∧ w'.ownsRow w.heap.size 69 2 (.slice ad L.length cap) L.length (flatSp L)) ∧ Below w.heap.size w w' := by
  have hc := pcloneS_any (cap := cap) h hnil hL
  unfold CsPost at hc
  generalize flatSp L = XS at *
  generalize L.length = n at *
  clear h hnil
  go_enter Tryd.func37, Tryd.ntmps37
  go_wp2_with fail
  refine hc.mono ?_
  rintro e u1 ⟨⟨ad1, c1, rfl, ho⟩, k1⟩
  have HO := hideR ho
  have HK := hideR k1
  clear hc ho k1
  go_wp2
  go_ret
  exact ⟨⟨ad1, c1, rfl, unhideR HO⟩, unhideR HK⟩
set_option maxRecDepth 100000 in
set_option maxHeartbeats 3200000 in
theorem pfixed_any (w : World) (al az : Int) :
    Calls Tryd.prog 17 #[.int .i64 al, .int .i64 az] w fun e w' => e = .returned (.iface 93 (.agg #[.int .i64 al])) ∧ w' = w := by
  go_enter Tryd.func17, Tryd.ntmps17
  go_wp2
  go_ret
  exact ⟨rfl, rfl⟩
end Go.Proofs.YtoacdaemhcbbhaaDoor
