/-
  An entry more in an atlas: the document's Add, by contract.
-/
import Derived.Test.YtkdmeclbnnjdgalDoorAtEn
import Derived.Test.YtkdmeclbnnjdgalDoorAtSt
import Derived.Test.YtkdmeclbnnjdgalDoorLooseA
namespace Go.Proofs.YtkdmeclbnnjdgalDoor
open Go Go.RowKit

/-- is a name wrong, or there among the first i? -/
def hadV (e : En) (L : List En) : Nat → Bool
  | 0 => e.nm.toList.isEmpty || decide (40 < e.nm.size)
  | i + 1 => hadV e L i || ((L.getD i en0).nm.toList == e.nm.toList)
def adE (e : En) (L : List En) : Int := if hadV e L L.length then 10 else if dirB e.d = false then 5 else if 4000 ≤ L.length then 2 else 0
def En.val (e : En) : Value := .agg #[.string e.nm, .int .i64 e.d.x, .int .i64 e.d.y, .int .i64 e.d.z, .int .i64 e.li]
theorem drewBlA {B : Nat} {w u : World} (h : Below B w u) : Below B w u.drew := ⟨h.os, h.tape, h.output, h.size, h.block⟩
set_option maxRecDepth 100000 in
set_option maxHeartbeats 6400000 in
theorem add_no (e : En) {w : World} {g : Nat} {lv : Int} {ad : Option Addr} {cap : Nat} {L : List En} (hA0 : AtB w g lv ad cap L) (hl : L.length ≤ 4000) (hE : adE e L ≠ 0) (hsz : e.nm.size ≤ 140737488355328) :
    Calls Tryd.prog 53 #[.pointer (some ⟨g, 0, none⟩), e.val] w fun r w' => r = .returned (.int .i64 (adE e L)) ∧ Below w.heap.size w w' := by
  have hdi := fun u => isDir_any e.d u
  have HH : HeldR (∀ i, hadV e L (i + 1) = (hadV e L i || ((L.getD i en0).nm.toList == e.nm.toList))) := hideR (fun i => rfl)
  have HH0 : HeldR (hadV e L 0 = (e.nm.toList.isEmpty || decide (40 < e.nm.size))) := hideR rfl
  have hadE : adE e L = if hadV e L L.length then 10 else if dirB e.d = false then 5 else if 4000 ≤ L.length then 2 else 0 := rfl
  obtain ⟨n, hn⟩ : ∃ n, L.length = n := ⟨_, rfl⟩
  have Hn := hideR hn
  rw [hn] at hadE
  generalize hadV e L = H at *
  generalize adE e L = EE at *
  generalize dirB e.d = DB at *
  obtain ⟨en, ⟨ex, ey, ez⟩, el⟩ := e
  unfold En.val Dr.val at *
  simp only at *
  have z1 := alloc_last w (.cells #[.string en, .int .i64 ex, .int .i64 ey, .int .i64 ez, .int .i64 el] 92)
  have HB := hideR (below_a w (.cells #[.string en, .int .i64 ex, .int .i64 ey, .int .i64 ez, .int .i64 el] 92))
  have HA := hideR (hA0.below (below_a w (.cells #[.string en, .int .i64 ex, .int .i64 ey, .int .i64 ez, .int .i64 el] 92)))
  have HadE := hideR (And.intro hadE hE)
  rw [hn] at hl
  clear hA0 hn hadE hE
  go_enter Tryd.func53, Tryd.ntmps53
  go_upto_region 1 with fail
  generalize w.alloc (.cells #[.string en, .int .i64 ex, .int .i64 ey, .int .i64 ez, .int .i64 el] 92) = u0 at *
  generalize w.heap.size = K at z1 ⊢
  have x0 := (cells_at z1 0 (by simp)).1
  go_cut [5] from 5 to 16 (fun s5 wx => s5 = .bool (H 0) ∧ wx = u0)
  case' first =>
    go_wp2
    all_goals
      go_meet
      refine ⟨congrArg Value.bool ?_, rfl⟩
      rw [unhideR HH0]
      first | (congr 1; rw [decide_eq_decide]; omega) | (rename_i h; rw [h]; rfl)
  obtain ⟨rfl, rfl⟩ := hcut
  clear x0 HH0
  go_wp2_with fail
  go_loopw [5, 6] (fun hv iv wl => ∃ (i : Nat), i ≤ n ∧ iv = .int .i64 (i : Nat) ∧ hv = .bool (H i) ∧ HeldR (AtB wl g lv ad cap L) ∧ wl.heap[K]? = some (.cells #[.string en, .int .i64 ex, .int .i64 ey, .int .i64 ez, .int .i64 el] 92) ∧ HeldR (Below w.heap.size w wl)) (fun _ iv _ => n + 1 - (intOf iv).toNat)
  case atStart => exact ⟨0, by omega, rfl, rfl, HA, z1, HB⟩
  case round =>
    clear HA z1 HB
    obtain ⟨i, hin, rfl, rfl, HA, z1, HB⟩ := hrel
    have hab := (unhideR HA).b
    rw [unhideR Hn] at hab
    have a1 := (cells_at hab 1 (by simp)).1
    clear hab
    by_cases q : i < n
    · have ti : decide ((i : Int) < (n : Int)) = true := decide_eq_true (by omega)
      have tin : decide (i < n) = true := decide_eq_true q
      have wi : IntKind.i64.wrap ((i : Int) + 1) = (i : Int) + 1 := iwrap (by omega) (by omega)
      have hin2 : (i : Int) < (n : Int) := by omega
      obtain ⟨b, off, had, hbl, hei⟩ := (unhideR HA).e.at_ i (by rw [unhideR Hn]; exact q)
      subst had
      have hhi := unhideR HH i
      go_upto_region 5 with fail
      clear a1
      have hab : wr.drew.heap[g]? = some (.cells #[.int .i64 lv, .slice (some ⟨b, off, none⟩) L.length cap] 101) := (unhideR HA).b
      rw [unhideR Hn] at hab
      have a1 := (cells_at hab 1 (by simp)).1
      have ni : wr.drew.cell? ⟨b, off + i * 5, none⟩ = some (.string (L.getD i en0).nm) := hei.c0
      have x0 := (cells_at (show wr.drew.heap[K]? = some (.cells #[.string en, .int .i64 ex, .int .i64 ey, .int .i64 ez, .int .i64 el] 92) from z1) 0 (by simp)).1
      obtain ⟨si, hsi⟩ : ∃ s, (L.getD i en0).nm = s := ⟨_, rfl⟩
      rw [hsi] at ni hhi
      replace HB := hideR (drewBlA (unhideR HB))
      replace z1 : wr.drew.heap[K]? = some (.cells #[.string en, .int .i64 ex, .int .i64 ey, .int .i64 ez, .int .i64 el] 92) := z1
      replace HA : HeldR (AtB wr.drew g lv (some ⟨b, off, none⟩) cap L) := hideR ⟨(unhideR HA).b, (unhideR HA).e.below (drewBlA (Below.refl _ _))⟩
      have HHi := hideR hhi
      clear hab hei hbl hsi hhi
      cases qH : H i with
      | true =>
        rw [qH] at HHi
        go_region
        generalize wr.drew = v6 at *
        clear a1 ni x0
        go_wp2
        exact ⟨⟨i + 1, by omega, by go_num, by rw [unhideR HHi]; rfl, HA, z1, HB⟩, by simp [intOf]; omega⟩
      | false =>
        rw [qH] at HHi
        go_region
        generalize wr.drew = v6 at *
        clear a1 ni x0
        go_wp2
        exact ⟨⟨i + 1, by omega, by go_num, by rw [unhideR HHi]; rfl, HA, z1, HB⟩, by simp [intOf]; omega⟩
    · obtain rfl : i = n := by omega
      have ti : decide ((i : Int) < (i : Int)) = false := decide_eq_false (by omega)
      have tin : decide (i < i) = false := decide_eq_false (by omega)
      have hEE := (unhideR HadE).1
      cases qH : H i with
      | true =>
        rw [qH] at hEE
        have e1 : EE = 10 := hEE
        subst e1
        clear HadE HH hdi HA z1 hEE
        go_wp2
        go_ret
        exact ⟨rfl, unhideR HB⟩
      | false =>
        rw [qH] at hEE
        have HEE := hideR hEE
        clear hEE
        have x1 := (cells_at z1 1 (by simp)).1
        have x2 := (cells_at z1 2 (by simp)).1
        have x3 := (cells_at z1 3 (by simp)).1
        go_wp2_with fail
        refine (hdi _).mono ?_
        rintro r v7 ⟨rfl, k7⟩
        replace HA := hideR ((unhideR HA).below k7)
        replace HB := hideR (below_go (unhideR HB) k7)
        clear k7 hdi x1 x2 x3 a1 z1
        have hab := (unhideR HA).b
        rw [unhideR Hn] at hab
        have a1 := (cells_at hab 1 (by simp)).1
        clear hab
        cases DB with
        | false =>
          have e1 : EE = 5 := unhideR HEE
          subst e1
          clear HadE HH HA HEE
          go_wp2
          go_ret
          exact ⟨rfl, unhideR HB⟩
        | true =>
          have e1 : EE = 2 ∧ 4000 ≤ i := by
            have hne := (unhideR HadE).2
            by_cases q4 : 4000 ≤ i
            · exact ⟨by rw [unhideR HEE]; simp [q4], q4⟩
            · exact absurd (by rw [unhideR HEE]; simp [q4]) hne
          obtain ⟨e1, q4⟩ := e1
          have t4 : decide ((4000 : Int) ≤ (i : Int)) = true := decide_eq_true (by omega)
          have t4n : decide (4000 ≤ i) = true := decide_eq_true q4
          subst e1
          clear HadE HH HA HEE
          go_wp2
          go_ret
          exact ⟨rfl, unhideR HB⟩
end Go.Proofs.YtkdmeclbnnjdgalDoor
