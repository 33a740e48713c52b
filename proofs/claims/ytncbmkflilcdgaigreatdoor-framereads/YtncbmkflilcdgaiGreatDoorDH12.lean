/-
  The program's reading: a block of counts.
-/
import Derived.Test.YtncbmkflilcdgaiGreatDoorDH10A
namespace Go.Proofs.YtncbmkflilcdgaiGreatDoor
open Go Go.RowKit

theorem own_two {w : World} {B1 B2 n1 n2 s1 s2 : Nat} {T1 T2 : TypeId} {v1 v2 : Value} {x1 x2 : List Value} (h1 : w.ownsRow B1 T1 s1 v1 n1 x1) (h2 : w.ownsRow B2 T2 s2 v2 n2 x2) (hT : T1 ≠ T2) {k : Nat} (hk : v1.ownBlock = some k) : some k ≠ v2.ownBlock := by
  intro e
  rcases h1.2 with ⟨b1, _⟩ | ⟨g, cap, cur, hv, _, hh, _⟩
  · subst b1; cases hk
  · rcases h2.2 with ⟨b2, _⟩ | ⟨g', cap', cur', hv', _, hh', _⟩
    · subst b2; cases e
    · subst hv
      subst hv'
      simp only [Value.ownBlock, Option.some.injEq] at hk e
      subst hk
      subst e
      rw [hh] at hh'
      cases hh'
      exact hT rfl
theorem RdIs.setCount {w : World} {B g co kk cap n : Nat} {b : Bs} {s : St} {LS : List CrdS} {cv : Value} (h : RdIs w B g b co s LS cv (.slice (some ⟨kk, 0, none⟩) n cap)) (hn : s.C.length = n) (t : Nat) (x : Int) : RdIs (w.setCell ⟨kk, t, none⟩ (.int .i64 x)) B g b co { s with C := s.C.set t x } LS cv (.slice (some ⟨kk, 0, none⟩) n cap) := by
  have hc := h.cnt
  unfold NOwn at hc
  rw [hn] at hc
  refine ⟨h.rd.other ?_, h.hB, own_other h.cards (own_two h.cnt h.cards (by decide) rfl), h.crd, ?_⟩
  · intro e
    exact h.neN (by rw [e]; rfl)
  · have := (hc.stored t (.int .i64 x)).1
    unfold NOwn
    show World.ownsRow _ _ _ _ _ (s.C.set t x).length ((s.C.set t x).map (Value.int .i64))
    rw [List.length_set, hn, List.map_set]
    exact this
theorem below_goB {w v u : World} {B : Nat} (h : Below B w v) (hB : B ≤ v.heap.size) (k : Below v.heap.size v u) : Below B w u := h.trans (k.mono hB)
def numsG (b : Bs) (s : St) : Option St := if s.next = s.C.length then none else numsE b s 1440
def NmPost (B g : Nat) (b : Bs) (co : Nat) (s : St) (w : World) (e : Ending) (w' : World) : Prop := ∃ q : Bool, e = .returned (.bool q) ∧ Below B w w' ∧ (q = true → ∃ u, numsG b s = some u ∧ RdAt w' B g b co u) ∧ (q = false → numsG b s = none)
def NmIn (B g : Nat) (b : Bs) (co : Nat) (s : St) (j : Nat) (w : World) : Prop := ∃ u, numsE b s j = some u ∧ RdAt w B g b co u
theorem sg_zero {m : Nat} (hm : m < 65536) : (sg16 m != 0) = decide (m ≠ 0) := by
  unfold sg16
  by_cases e : m = 0
  · subst e; rfl
  · rw [decide_eq_true e]
    split
    · simp; omega
    · simp; omega
set_option maxRecDepth 100000 in
set_option maxHeartbeats 6400000 in
theorem numbers_any {w : World} {B g co : Nat} {b : Bs} {s : St} (h : RdAt w B g b co s) (hBw : B ≤ w.heap.size) (hok : StOk s) (hhd : s.headed = true) :
    Calls Tryz.prog 59 #[.pointer (some ⟨g, 0, none⟩)] w (NmPost B g b co s w) := by
  have H0 : HeldR (NmIn B g b co s 0 w) := hideR ⟨s, rfl, h⟩
  have HOk := hideR hok
  have HHd := hideR hhd
  have HPos := hideR (hok.pos hhd)
  obtain ⟨LS, cv, pv, h⟩ := h
  have HBl := hideR h.rd.len
  obtain ⟨ad, cap, e⟩ := h.cnt.slice
  subst e
  have c5 := h.rd.tail 5 _ rfl
  have c6 := h.rd.tail 6 _ rfl
  simp only [Nat.reduceAdd] at c5 c6
  obtain ⟨n, hn⟩ : ∃ n, s.C.length = n := ⟨_, rfl⟩
  obtain ⟨nx, hnx⟩ : ∃ nx, s.next = nx := ⟨_, rfl⟩
  rw [hn] at c5
  rw [hnx] at c6
  by_cases e0 : nx = n
  · have HX : HeldR (∀ u, Below B w u → NmPost B g b co s w (.returned (.bool false)) u) := hideR (fun u k => ⟨false, rfl, k, fun q => (by cases q), fun _ => by unfold numsG; rw [if_pos (by rw [hn, hnx]; exact e0)]⟩)
    have tq : ((nx : Int) == (n : Int)) = true := by simp [e0]
    clear h hok hhd hn hnx e0
    go_enter Tryz.func59, Tryz.ntmps59
    go_wp2_with fail
    refine wp_region_lets [(· = .pointer (some ⟨g, 0, none⟩)),
      (· = .pointer (some ⟨g, 0, none⟩)),
      (· = .pointer (some ⟨g, 2886, none⟩)),
      (· = .int .i64 (nx : Nat)),
      (· = .pointer (some ⟨g, 0, none⟩)),
      (· = .pointer (some ⟨g, 0, none⟩)),
      (· = .pointer (some ⟨g, 2883, none⟩)),
      (· = .pointer (some ⟨g, 2885, none⟩)),
      (· = .slice ad n cap),
      (· = .int .i64 (n : Nat)),
      (· = .bool true)] (by kernel_rfl) (by kernel_rfl) ?_
    refine lexL_step (fun K hK => ⟨by kernel_rfl, ⟨_, rfl⟩, fun n => ?_, fun v hv => ?_⟩)
    · go_simp
      exact lUpon_one
    subst hv
    go_simp
    refine hK _ ?_
    clear hK K
    refine lexL_step (fun K hK => ⟨by kernel_rfl, ⟨_, rfl⟩, fun n => ?_, fun v hv => ?_⟩)
    · go_simp
      exact lUpon_one
    subst hv
    go_simp
    refine hK _ ?_
    clear hK K
    refine lexL_step (fun K hK => ⟨by kernel_rfl, ⟨_, rfl⟩, fun n => ?_, fun v hv => ?_⟩)
    · go_simp
      exact lUpon_one
    subst hv
    go_simp
    refine hK _ ?_
    clear hK K
    refine lexL_step (fun K hK => ⟨by kernel_rfl, ⟨_, rfl⟩, fun n => ?_, fun v hv => ?_⟩)
    · go_simp
      exact lUpon_one
    subst hv
    go_simp
    refine hK _ ?_
    clear hK K
    refine lexL_step (fun K hK => ⟨by kernel_rfl, ⟨_, rfl⟩, fun n => ?_, fun v hv => ?_⟩)
    · go_simp
      exact lUpon_one
    subst hv
    go_simp
    refine hK _ ?_
    clear hK K
    refine lexL_step (fun K hK => ⟨by kernel_rfl, ⟨_, rfl⟩, fun n => ?_, fun v hv => ?_⟩)
    · go_simp
      exact lUpon_one
    subst hv
    go_simp
    refine hK _ ?_
    clear hK K
    refine lexL_step (fun K hK => ⟨by kernel_rfl, ⟨_, rfl⟩, fun n => ?_, fun v hv => ?_⟩)
    · go_simp
      exact lUpon_one
    subst hv
    go_simp
    refine hK _ ?_
    clear hK K
    refine lexL_step (fun K hK => ⟨by kernel_rfl, ⟨_, rfl⟩, fun n => ?_, fun v hv => ?_⟩)
    · go_simp
      exact lUpon_one
    subst hv
    go_simp
    refine hK _ ?_
    clear hK K
    refine lexL_step (fun K hK => ⟨by kernel_rfl, ⟨_, rfl⟩, fun n => ?_, fun v hv => ?_⟩)
    · go_simp
      exact lUpon_one
    subst hv
    go_simp
    refine hK _ ?_
    clear hK K
    refine lexL_step (fun K hK => ⟨by kernel_rfl, ⟨_, rfl⟩, fun n => ?_, fun v hv => ?_⟩)
    · go_simp
      exact lUpon_one
    subst hv
    go_simp
    refine hK _ ?_
    clear hK K
    refine lexL_step (fun K hK => ⟨by kernel_rfl, ⟨_, rfl⟩, fun n => ?_, fun v hv => ?_⟩)
    · go_simp
      exact lUpon_one
    subst hv
    go_simp
    refine hK _ ?_
    clear hK K
    refine lexL_end ?_
    intro n9
    have HX2 := hideR (unhideR HX _ ((drawn_below w n9).mono hBw))
    go_wp2
    go_ret
    exact unhideR HX2
  have tq : ((nx : Int) == (n : Int)) = false := beq_eq_false_iff_ne.2 (by omega)
  have HG : HeldR (numsG b s = numsE b s 1440) := hideR (by unfold numsG; rw [if_neg (by rw [hn, hnx]; exact e0)])
  clear h hok hhd hn hnx e0
  go_enter Tryz.func59, Tryz.ntmps59
  go_wp2_with fail
  refine wp_region_lets [(· = .pointer (some ⟨g, 0, none⟩)),
    (· = .pointer (some ⟨g, 0, none⟩)),
    (· = .pointer (some ⟨g, 2886, none⟩)),
    (· = .int .i64 (nx : Nat)),
    (· = .pointer (some ⟨g, 0, none⟩)),
    (· = .pointer (some ⟨g, 0, none⟩)),
    (· = .pointer (some ⟨g, 2883, none⟩)),
    (· = .pointer (some ⟨g, 2885, none⟩)),
    (· = .slice ad n cap),
    (· = .int .i64 (n : Nat)),
    (· = .bool false)] (by kernel_rfl) (by kernel_rfl) ?_
  refine lexL_step (fun K hK => ⟨by kernel_rfl, ⟨_, rfl⟩, fun n => ?_, fun v hv => ?_⟩)
  · go_simp
    exact lUpon_one
  subst hv
  go_simp
  refine hK _ ?_
  clear hK K
  refine lexL_step (fun K hK => ⟨by kernel_rfl, ⟨_, rfl⟩, fun n => ?_, fun v hv => ?_⟩)
  · go_simp
    exact lUpon_one
  subst hv
  go_simp
  refine hK _ ?_
  clear hK K
  refine lexL_step (fun K hK => ⟨by kernel_rfl, ⟨_, rfl⟩, fun n => ?_, fun v hv => ?_⟩)
  · go_simp
    exact lUpon_one
  subst hv
  go_simp
  refine hK _ ?_
  clear hK K
  refine lexL_step (fun K hK => ⟨by kernel_rfl, ⟨_, rfl⟩, fun n => ?_, fun v hv => ?_⟩)
  · go_simp
    exact lUpon_one
  subst hv
  go_simp
  refine hK _ ?_
  clear hK K
  refine lexL_step (fun K hK => ⟨by kernel_rfl, ⟨_, rfl⟩, fun n => ?_, fun v hv => ?_⟩)
  · go_simp
    exact lUpon_one
  subst hv
  go_simp
  refine hK _ ?_
  clear hK K
  refine lexL_step (fun K hK => ⟨by kernel_rfl, ⟨_, rfl⟩, fun n => ?_, fun v hv => ?_⟩)
  · go_simp
    exact lUpon_one
  subst hv
  go_simp
  refine hK _ ?_
  clear hK K
  refine lexL_step (fun K hK => ⟨by kernel_rfl, ⟨_, rfl⟩, fun n => ?_, fun v hv => ?_⟩)
  · go_simp
    exact lUpon_one
  subst hv
  go_simp
  refine hK _ ?_
  clear hK K
  refine lexL_step (fun K hK => ⟨by kernel_rfl, ⟨_, rfl⟩, fun n => ?_, fun v hv => ?_⟩)
  · go_simp
    exact lUpon_one
  subst hv
  go_simp
  refine hK _ ?_
  clear hK K
  refine lexL_step (fun K hK => ⟨by kernel_rfl, ⟨_, rfl⟩, fun n => ?_, fun v hv => ?_⟩)
  · go_simp
    exact lUpon_one
  subst hv
  go_simp
  refine hK _ ?_
  clear hK K
  refine lexL_step (fun K hK => ⟨by kernel_rfl, ⟨_, rfl⟩, fun n => ?_, fun v hv => ?_⟩)
  · go_simp
    exact lUpon_one
  subst hv
  go_simp
  refine hK _ ?_
  clear hK K
  refine lexL_step (fun K hK => ⟨by kernel_rfl, ⟨_, rfl⟩, fun n => ?_, fun v hv => ?_⟩)
  · go_simp
    exact lUpon_one
  subst hv
  go_simp
  refine hK _ ?_
  clear hK K
  refine lexL_end ?_
  intro n9
  replace H0 : HeldR (NmIn B g b co s 0 (w.drewN n9)) := by
    obtain ⟨u, h1, h2⟩ := unhideR H0
    exact hideR ⟨u, h1, h2.below (drawn_below w n9)⟩
  have HW0 := hideR ((drawn_below w n9).mono hBw)
  generalize w.drewN n9 = w1 at *
  clear c5 c6 tq
  go_wp2
  go_loopw [3] (fun av wl => ∃ A j : Nat, HeldR (A = 2 * j) ∧ A ≤ 2880 ∧ av = .int .i64 (A : Nat) ∧ HeldR (NmIn B g b co s j wl) ∧ HeldR (Below B w wl)) (fun av _ => 2881 - (intOf av).toNat)
  case atStart => exact ⟨0, 0, hideR rfl, by omega, rfl, H0, HW0⟩
  case round =>
    obtain ⟨A, j, HA, hA, rfl, HI, HW⟩ := hrel
    by_cases hlt : A < 2880
    · have hj : j < 1440 ∧ A + 2 ≤ 2880 := by have := unhideR HA; omega
      have hA2 := hj.2
      obtain ⟨u, hu1, hu2⟩ := unhideR HI
      obtain ⟨k1, k2, k3, k4, k5⟩ := numsE_ok (unhideR HOk) (unhideR HHd) hu1
      obtain ⟨LS, cv, pv, hr⟩ := hu2
      obtain ⟨ad, cap, e⟩ := hr.cnt.slice
      subst e
      have b0 := hr.rd.byte (k := A) (by omega)
      have b1 := hr.rd.byte (k := A + 1) (by omega)
      have c5 := hr.rd.tail 5 _ rfl
      have c6 := hr.rd.tail 6 _ rfl
      simp only [Nat.reduceAdd] at c5 c6
      obtain ⟨n, hn⟩ : ∃ n, u.C.length = n := ⟨_, rfl⟩
      obtain ⟨nx, hnx⟩ : ∃ nx, u.next = nx := ⟨_, rfl⟩
      rw [hn] at c5 hr
      rw [hnx] at c6
      have HN : HeldR (numsE b s (j + 1) = numE u (pairN b j)) := hideR (by show (numsE b s j).bind _ = _; rw [hu1]; rfl)
      have hX := (b.getD A 0).toNat_lt
      have hY := (b.getD (A + 1) 0).toNat_lt
      have hor := or16_any (b.getD A 0) (b.getD (A + 1) 0)
      have hpn : pairN b j = (b.getD A 0).toNat * 256 + (b.getD (A + 1) 0).toNat := by unfold pairN; rw [← unhideR HA]
      unfold byV at b0 b1
      generalize (b.getD A 0).toNat = X at *
      generalize (b.getD (A + 1) 0).toNat = Y at *
      have hshl := shl16 X hX
      have HPn := hideR hpn
      have hm : X * 256 + Y < 65536 := by omega
      have HZ := hideR (sg_zero hm)
      have HCn0 := hideR (fun v => counted_any (X * 256 + Y) hm v)
      obtain ⟨Z, hZ⟩ : ∃ Z, sg16 (X * 256 + Y) = Z := ⟨_, rfl⟩
      rw [hZ] at hor HZ HCn0
      have HR := hideR hr
      have HU := hideR k1
      have HLn := hideR hn
      have HNx := hideR hnx
      have HW4 := hideR k4
      have HH5 := hideR k5
      have HBr : HeldR (B ≤ wr.heap.size) := hideR (Nat.le_trans hBw (unhideR HW).size)
      have hw0 : (A : Int) + 1 < 2880 := by omega
      have hwX : IntKind.i16.wrap (X : Int) = (X : Int) := by unfold IntKind.wrap; simp [IntKind.signed, IntKind.bits]; omega
      have hwY : IntKind.i16.wrap (Y : Int) = (Y : Int) := by unfold IntKind.wrap; simp [IntKind.signed, IntKind.bits]; omega
      have hwA : IntKind.i64.wrap ((A : Int) + 1) = (A : Int) + 1 := iwrap (by omega) (by omega)
      clear hu1 k1 k2 k3 k4 k5 hr HI hn hnx hZ hpn
      go_wp2_with fail
      refine wp_region_lets [(· = .pointer (some ⟨g, 0, none⟩)),
        (· = .int .i64 (A : Nat)),
        (· = .pointer (some ⟨g, 0, none⟩)),
        (· = .pointer (some ⟨g, 0, none⟩)),
        (· = .pointer (some ⟨g, A, none⟩)),
        (· = .int .u8 (X : Nat)),
        (· = .int .i16 (X : Nat)),
        (· = .int .i16 (sg16 (X * 256))),
        (· = .pointer (some ⟨g, 0, none⟩)),
        (· = .int .i64 (A : Nat)),
        (· = .int .i64 ((A : Int) + 1)),
        (· = .pointer (some ⟨g, 0, none⟩)),
        (· = .pointer (some ⟨g, 0, none⟩)),
        (· = .pointer (some ⟨g, (A + 1), none⟩)),
        (· = .int .u8 (Y : Nat)),
        (· = .int .i16 (Y : Nat)),
        (· = .int .i16 Z),
        (· = .int .i16 Z)] (by kernel_rfl) (by kernel_rfl) ?_
      refine lexL_step (fun K hK => ⟨by kernel_rfl, ⟨_, rfl⟩, fun n => ?_, fun v hv => ?_⟩)
      · go_simp
        exact lUpon_one
      subst hv
      go_simp
      refine hK _ ?_
      clear hK K
      refine lexL_step (fun K hK => ⟨by kernel_rfl, ⟨_, rfl⟩, fun n => ?_, fun v hv => ?_⟩)
      · go_simp
        exact lUpon_one
      subst hv
      go_simp
      refine hK _ ?_
      clear hK K
      refine lexL_step (fun K hK => ⟨by kernel_rfl, ⟨_, rfl⟩, fun n => ?_, fun v hv => ?_⟩)
      · go_simp
        exact lUpon_one
      subst hv
      go_simp
      refine hK _ ?_
      clear hK K
      refine lexL_step (fun K hK => ⟨by kernel_rfl, ⟨_, rfl⟩, fun n => ?_, fun v hv => ?_⟩)
      · go_simp
        exact lUpon_one
      subst hv
      go_simp
      refine hK _ ?_
      clear hK K
      refine lexL_step (fun K hK => ⟨by kernel_rfl, ⟨_, rfl⟩, fun n => ?_, fun v hv => ?_⟩)
      · go_simp
        exact lUpon_one
      subst hv
      go_simp
      refine hK _ ?_
      clear hK K
      refine lexL_step (fun K hK => ⟨by kernel_rfl, ⟨_, rfl⟩, fun n => ?_, fun v hv => ?_⟩)
      · go_simp
        exact lUpon_one
      subst hv
      go_simp
      refine hK _ ?_
      clear hK K
      refine lexL_step (fun K hK => ⟨by kernel_rfl, ⟨_, rfl⟩, fun n => ?_, fun v hv => ?_⟩)
      · go_simp
        exact lUpon_one
      subst hv
      go_simp
      refine hK _ ?_
      clear hK K
      refine lexL_step (fun K hK => ⟨by kernel_rfl, ⟨_, rfl⟩, fun n => ?_, fun v hv => ?_⟩)
      · go_simp
        exact lUpon_one
      subst hv
      go_simp
      refine hK _ ?_
      clear hK K
      refine lexL_step (fun K hK => ⟨by kernel_rfl, ⟨_, rfl⟩, fun n => ?_, fun v hv => ?_⟩)
      · go_simp
        exact lUpon_one
      subst hv
      go_simp
      refine hK _ ?_
      clear hK K
      refine lexL_step (fun K hK => ⟨by kernel_rfl, ⟨_, rfl⟩, fun n => ?_, fun v hv => ?_⟩)
      · go_simp
        exact lUpon_one
      subst hv
      go_simp
      refine hK _ ?_
      clear hK K
      refine lexL_step (fun K hK => ⟨by kernel_rfl, ⟨_, rfl⟩, fun n => ?_, fun v hv => ?_⟩)
      · go_simp
        exact lUpon_one
      subst hv
      go_simp
      refine hK _ ?_
      clear hK K
      refine lexL_step (fun K hK => ⟨by kernel_rfl, ⟨_, rfl⟩, fun n => ?_, fun v hv => ?_⟩)
      · go_simp
        exact lUpon_one
      subst hv
      go_simp
      refine hK _ ?_
      clear hK K
      refine lexL_step (fun K hK => ⟨by kernel_rfl, ⟨_, rfl⟩, fun n => ?_, fun v hv => ?_⟩)
      · go_simp
        exact lUpon_one
      subst hv
      go_simp
      refine hK _ ?_
      clear hK K
      refine lexL_step (fun K hK => ⟨by kernel_rfl, ⟨_, rfl⟩, fun n => ?_, fun v hv => ?_⟩)
      · go_simp
        exact lUpon_one
      subst hv
      go_simp
      refine hK _ ?_
      clear hK K
      refine lexL_step (fun K hK => ⟨by kernel_rfl, ⟨_, rfl⟩, fun n => ?_, fun v hv => ?_⟩)
      · go_simp
        exact lUpon_one
      subst hv
      go_simp
      refine hK _ ?_
      clear hK K
      refine lexL_step (fun K hK => ⟨by kernel_rfl, ⟨_, rfl⟩, fun n => ?_, fun v hv => ?_⟩)
      · go_simp
        exact lUpon_one
      subst hv
      go_simp
      refine hK _ ?_
      clear hK K
      refine lexL_step (fun K hK => ⟨by kernel_rfl, ⟨_, rfl⟩, fun n => ?_, fun v hv => ?_⟩)
      · go_simp
        exact lUpon_one
      subst hv
      go_simp
      refine hK _ ?_
      clear hK K
      refine lexL_step (fun K hK => ⟨by kernel_rfl, ⟨_, rfl⟩, fun n => ?_, fun v hv => ?_⟩)
      · go_simp
        exact lUpon_one
      subst hv
      go_simp
      refine hK _ ?_
      clear hK K
      refine lexL_end ?_
      intro n9
      have HR1 := hideR ((unhideR HR).below (drawn_below wr n9))
      have HW1 := hideR (below_goB (unhideR HW) (unhideR HBr) (drawn_below wr n9))
      have HS1 : HeldR (B ≤ (wr.drewN n9).heap.size) := HBr
      generalize wr.drewN n9 = W1 at *
      clear hor hshl hwX hwY hwA b0 b1 hw0 HR HW HBr c5 c6
      have c5 := (unhideR HR1).rd.tail 5 _ rfl
      have c6 := (unhideR HR1).rd.tail 6 _ rfl
      simp only [Nat.reduceAdd] at c5 c6
      rw [unhideR HNx] at c6
      have HA2 : HeldR (A + 2 = 2 * (j + 1)) := hideR (by have := unhideR HA; omega)
      have hwA : IntKind.i64.wrap ((A : Int) + 2) = (A : Int) + 2 := iwrap (by omega) (by omega)
      by_cases hlt2 : nx < n
      · have td : decide ((nx : Int) < (n : Int)) = true := decide_eq_true (by omega)
        go_wp2_with fail
        refine wp_region_lets [(· = .pointer (some ⟨g, 0, none⟩)),
          (· = .pointer (some ⟨g, 0, none⟩)),
          (· = .pointer (some ⟨g, 2886, none⟩)),
          (· = .int .i64 (nx : Nat)),
          (· = .pointer (some ⟨g, 0, none⟩)),
          (· = .pointer (some ⟨g, 0, none⟩)),
          (· = .pointer (some ⟨g, 2883, none⟩)),
          (· = .pointer (some ⟨g, 2885, none⟩)),
          (· = .slice ad n cap),
          (· = .int .i64 (n : Nat)),
          (· = .bool true)] (by kernel_rfl) (by kernel_rfl) ?_
        refine lexL_step (fun K hK => ⟨by kernel_rfl, ⟨_, rfl⟩, fun n => ?_, fun v hv => ?_⟩)
        · go_simp
          exact lUpon_one
        subst hv
        go_simp
        refine hK _ ?_
        clear hK K
        refine lexL_step (fun K hK => ⟨by kernel_rfl, ⟨_, rfl⟩, fun n => ?_, fun v hv => ?_⟩)
        · go_simp
          exact lUpon_one
        subst hv
        go_simp
        refine hK _ ?_
        clear hK K
        refine lexL_step (fun K hK => ⟨by kernel_rfl, ⟨_, rfl⟩, fun n => ?_, fun v hv => ?_⟩)
        · go_simp
          exact lUpon_one
        subst hv
        go_simp
        refine hK _ ?_
        clear hK K
        refine lexL_step (fun K hK => ⟨by kernel_rfl, ⟨_, rfl⟩, fun n => ?_, fun v hv => ?_⟩)
        · go_simp
          exact lUpon_one
        subst hv
        go_simp
        refine hK _ ?_
        clear hK K
        refine lexL_step (fun K hK => ⟨by kernel_rfl, ⟨_, rfl⟩, fun n => ?_, fun v hv => ?_⟩)
        · go_simp
          exact lUpon_one
        subst hv
        go_simp
        refine hK _ ?_
        clear hK K
        refine lexL_step (fun K hK => ⟨by kernel_rfl, ⟨_, rfl⟩, fun n => ?_, fun v hv => ?_⟩)
        · go_simp
          exact lUpon_one
        subst hv
        go_simp
        refine hK _ ?_
        clear hK K
        refine lexL_step (fun K hK => ⟨by kernel_rfl, ⟨_, rfl⟩, fun n => ?_, fun v hv => ?_⟩)
        · go_simp
          exact lUpon_one
        subst hv
        go_simp
        refine hK _ ?_
        clear hK K
        refine lexL_step (fun K hK => ⟨by kernel_rfl, ⟨_, rfl⟩, fun n => ?_, fun v hv => ?_⟩)
        · go_simp
          exact lUpon_one
        subst hv
        go_simp
        refine hK _ ?_
        clear hK K
        refine lexL_step (fun K hK => ⟨by kernel_rfl, ⟨_, rfl⟩, fun n => ?_, fun v hv => ?_⟩)
        · go_simp
          exact lUpon_one
        subst hv
        go_simp
        refine hK _ ?_
        clear hK K
        refine lexL_step (fun K hK => ⟨by kernel_rfl, ⟨_, rfl⟩, fun n => ?_, fun v hv => ?_⟩)
        · go_simp
          exact lUpon_one
        subst hv
        go_simp
        refine hK _ ?_
        clear hK K
        refine lexL_step (fun K hK => ⟨by kernel_rfl, ⟨_, rfl⟩, fun n => ?_, fun v hv => ?_⟩)
        · go_simp
          exact lUpon_one
        subst hv
        go_simp
        refine hK _ ?_
        clear hK K
        refine lexL_end ?_
        intro n8
        have hc1 := (unhideR HR1).cnt
        unfold NOwn at hc1
        rw [unhideR HLn] at hc1
        obtain ⟨kk, e⟩ := own_first hc1 (by omega)
        clear hc1
        subst e
        have HR9 := hideR ((unhideR HR1).below (drawn_below W1 n8))
        have HB9 := hideR (below_goB (unhideR HW1) (unhideR HS1) (drawn_below W1 n8))
        have hBr9 : B ≤ (W1.drewN n8).heap.size := unhideR HS1
        generalize W1.drewN n8 = W2 at *
        clear c5 c6 td HR1 HW1 HS1
        have hpos := unhideR HPos
        have hlen : n = u.W * u.H := by rw [← unhideR HLn]; exact (unhideR HU).len
        have hW2 := (unhideR HU).w2
        have hH2 := (unhideR HU).h2
        have hturn := turn_lt (W := u.W) (H := u.H) (i := nx) (by rw [unhideR HW4]; exact hpos.1) (by omega)
        have HFb0 := hideR (fun v => fromBelow_any (ap := some ⟨kk, 0, none⟩) (n := n) (cp := cap) (W := u.W) (H := u.H) (i := nx) v ⟨by rw [unhideR HW4]; exact hpos.1, hW2⟩ ⟨by rw [unhideR HH5]; exact hpos.2.1, hH2⟩ (by omega))
        have HNum : HeldR (numE u (pairN b j) = some { u with C := u.C.set (turnI u.W u.H nx) (((X * 256 + Y + 32768) % 65536 : Nat) : Int), next := nx + 1 }) := by
          refine hideR ?_
          unfold numE
          rw [if_pos (by rw [unhideR HLn, unhideR HNx]; exact hlt2), unhideR HPn, unhideR HNx]
        obtain ⟨t, ht⟩ : ∃ t, turnI u.W u.H nx = t := ⟨_, rfl⟩
        obtain ⟨cn, hcn⟩ : ∃ cn, (X * 256 + Y + 32768) % 65536 = cn := ⟨_, rfl⟩
        rw [ht] at HFb0 HNum hturn
        rw [hcn] at HNum HCn0
        have HFb := HFb0
        have HCn := HCn0
        have htn : t < n := by rw [hlen]; exact hturn
        have HCl : HeldR (∀ v, Below W2.heap.size W2 v → v.cell? ⟨g, 2883, none⟩ = some (.int .i64 (u.W : Nat)) ∧ v.cell? ⟨g, 2884, none⟩ = some (.int .i64 (u.H : Nat)) ∧ v.cell? ⟨g, 2885, none⟩ = some (.slice (some ⟨kk, 0, none⟩) n cap) ∧ v.cell? ⟨g, 2886, none⟩ = some (.int .i64 (nx : Nat))) := by
          refine hideR (fun v hv => ?_)
          have hr := ((unhideR HR9).below hv).rd
          refine ⟨hr.tail 3 _ rfl, hr.tail 4 _ rfl, hr.tail 5 _ rfl, ?_⟩
          rw [← unhideR HNx]
          exact hr.tail 6 _ rfl
        have i1 : (t : Int) < (n : Int) := by omega
        have hn65 : n ≤ 65536 := by have := Nat.mul_le_mul hW2 hH2; omega
        clear hpos hlen hW2 hH2 hturn ht hcn HFb0 HCn0
        generalize hWv : u.W = W at *
        generalize hHv : u.H = H at *
        go_wp2_with fail
        refine wp_region_made 0 #[true, true, true, true, true, true, true, true, true, true, true, true, true, true, true, true, true, false] [.lets (· = .pointer (some ⟨g, 0, none⟩)),
          .lets (· = .pointer (some ⟨g, 0, none⟩)),
          .lets (· = .pointer (some ⟨g, 2883, none⟩)),
          .lets (· = .pointer (some ⟨g, 2885, none⟩)),
          .lets (· = .slice (some ⟨kk, 0, none⟩) n cap),
          .lets (· = .pointer (some ⟨g, 0, none⟩)),
          .lets (· = .pointer (some ⟨g, 0, none⟩)),
          .lets (· = .pointer (some ⟨g, 2883, none⟩)),
          .lets (· = .agg #[.int .i64 (W : Nat), .int .i64 (H : Nat), .slice (some ⟨kk, 0, none⟩) n cap]),
          .lets (· = .pointer (some ⟨g, 0, none⟩)),
          .lets (· = .pointer (some ⟨g, 0, none⟩)),
          .lets (· = .pointer (some ⟨g, 2886, none⟩)),
          .lets (· = .int .i64 (nx : Nat)),
          .lets (· = .int .i64 (t : Nat)),
          .lets (· = .int .i16 Z),
          .lets (· = .int .i64 (cn : Nat)),
          .lets (· = .pointer (some ⟨kk, t, none⟩))] [] [] (by kernel_rfl) (by kernel_rfl) rfl ?kinds (by kernel_rfl) (by kernel_rfl) (by kernel_rfl) ?_
        case kinds =>
          constructor
          · intro i h
            rcases i with _ | _ | _ | _ | _ | _ | _ | _ | _ | _ | _ | _ | _ | _ | _ | _ | _ | i <;> simp [Kx.isMade] at h
          · intro i h
            rcases i with _ | _ | _ | _ | _ | _ | _ | _ | _ | _ | _ | _ | _ | _ | _ | _ | _ | i <;> simp [Kx.isUse] at h
        refine lexX_step (fun K hK => ⟨by kernel_rfl, ⟨_, rfl⟩, fun v hv => ?_, fun v hv => ?_⟩)
        · go_simp
          exact mUpon_b
        subst hv
        go_simp
        refine hK _ ?_
        clear hK K
        refine lexX_step (fun K hK => ⟨by kernel_rfl, ⟨_, rfl⟩, fun v hv => ?_, fun v hv => ?_⟩)
        · go_simp
          exact mUpon_b
        subst hv
        go_simp
        refine hK _ ?_
        clear hK K
        refine lexX_step (fun K hK => ⟨by kernel_rfl, ⟨_, rfl⟩, fun v hv => ?_, fun v hv => ?_⟩)
        · go_simp
          exact mUpon_b
        subst hv
        go_simp
        refine hK _ ?_
        clear hK K
        refine lexX_step (fun K hK => ⟨by kernel_rfl, ⟨_, rfl⟩, fun v hv => ?_, fun v hv => ?_⟩)
        · go_simp
          exact mUpon_b
        subst hv
        go_simp
        refine hK _ ?_
        clear hK K
        refine lexX_step (fun K hK => ⟨by kernel_rfl, ⟨_, rfl⟩, fun v hv => ?_, fun v hv => ?_⟩)
        · obtain ⟨q3, q4, q5, q6⟩ := unhideR HCl v hv
          go_simp
          exact mUpon_b
        subst hv
        go_simp
        refine hK _ ?_
        clear hK K
        refine lexX_step (fun K hK => ⟨by kernel_rfl, ⟨_, rfl⟩, fun v hv => ?_, fun v hv => ?_⟩)
        · go_simp
          exact mUpon_b
        subst hv
        go_simp
        refine hK _ ?_
        clear hK K
        refine lexX_step (fun K hK => ⟨by kernel_rfl, ⟨_, rfl⟩, fun v hv => ?_, fun v hv => ?_⟩)
        · go_simp
          exact mUpon_b
        subst hv
        go_simp
        refine hK _ ?_
        clear hK K
        refine lexX_step (fun K hK => ⟨by kernel_rfl, ⟨_, rfl⟩, fun v hv => ?_, fun v hv => ?_⟩)
        · go_simp
          exact mUpon_b
        subst hv
        go_simp
        refine hK _ ?_
        clear hK K
        refine lexX_step (fun K hK => ⟨by kernel_rfl, ⟨_, rfl⟩, fun v hv => ?_, fun v hv => ?_⟩)
        · obtain ⟨q3, q4, q5, q6⟩ := unhideR HCl v hv
          go_simp
          exact mUpon_b
        subst hv
        go_simp
        refine hK _ ?_
        clear hK K
        refine lexX_step (fun K hK => ⟨by kernel_rfl, ⟨_, rfl⟩, fun v hv => ?_, fun v hv => ?_⟩)
        · go_simp
          exact mUpon_b
        subst hv
        go_simp
        refine hK _ ?_
        clear hK K
        refine lexX_step (fun K hK => ⟨by kernel_rfl, ⟨_, rfl⟩, fun v hv => ?_, fun v hv => ?_⟩)
        · go_simp
          exact mUpon_b
        subst hv
        go_simp
        refine hK _ ?_
        clear hK K
        refine lexX_step (fun K hK => ⟨by kernel_rfl, ⟨_, rfl⟩, fun v hv => ?_, fun v hv => ?_⟩)
        · go_simp
          exact mUpon_b
        subst hv
        go_simp
        refine hK _ ?_
        clear hK K
        refine lexX_step (fun K hK => ⟨by kernel_rfl, ⟨_, rfl⟩, fun v hv => ?_, fun v hv => ?_⟩)
        · obtain ⟨q3, q4, q5, q6⟩ := unhideR HCl v hv
          go_simp
          exact mUpon_b
        subst hv
        go_simp
        refine hK _ ?_
        clear hK K
        refine lexX_step (fun K hK => ⟨by kernel_rfl, ⟨_, rfl⟩, fun v hv => ?_, fun v hv => ?_⟩)
        · go_simp
          refine (unhideR HFb v).mono ?_
          rintro e w9 ⟨rfl, k⟩
          exact ⟨_, rfl, rfl, k⟩
        subst hv
        go_simp
        refine hK _ ?_
        clear hK K
        refine lexX_step (fun K hK => ⟨by kernel_rfl, ⟨_, rfl⟩, fun v hv => ?_, fun v hv => ?_⟩)
        · go_simp
          exact mUpon_b
        subst hv
        go_simp
        refine hK _ ?_
        clear hK K
        refine lexX_step (fun K hK => ⟨by kernel_rfl, ⟨_, rfl⟩, fun v hv => ?_, fun v hv => ?_⟩)
        · go_simp
          refine (unhideR HCn v).mono ?_
          rintro e w9 ⟨rfl, rfl⟩
          exact ⟨_, rfl, rfl, Below.refl _ _⟩
        subst hv
        go_simp
        refine hK _ ?_
        clear hK K
        refine lexX_step (fun K hK => ⟨by kernel_rfl, ⟨_, rfl⟩, fun v hv => ?_, fun v hv => ?_⟩)
        · go_simp
          exact mUpon_b
        subst hv
        go_simp
        refine hK _ ?_
        clear hK K
        refine lexX_end (fun v5 hv => ?_)
        have HR5 := hideR ((unhideR HR9).below hv.low)
        have HB5 := hideR (below_goB (unhideR HB9) hBr9 hv.low)
        clear hv
        have hc5 := (unhideR HR5).cnt
        unfold NOwn at hc5
        rw [unhideR HLn] at hc5
        have m5 := hc5.cellAt t (by rw [Nat.mul_one]; exact htn)
        have f5 := hc5.frozenAt t
        clear hc5
        have m6 : v5.cell? ⟨kk, t, none⟩ = some (.int .i64 (u.C.getD t 0)) := by
          rw [m5, List.getElem?_map, List.getElem?_eq_getElem (by rw [unhideR HLn]; exact htn), List.getD_eq_getElem?_getD, List.getElem?_eq_getElem (by rw [unhideR HLn]; exact htn)]
          rfl
        have HR6 := hideR ((unhideR HR5).setCount (unhideR HLn) t (cn : Nat))
        have HkB : HeldR (B ≤ kk) := hideR (own_at2 (unhideR HR5).cnt kk rfl)
        have HB6 : HeldR (Below B w (v5.setCell ⟨kk, t, none⟩ (.int .i64 (cn : Nat)))) := hideR ((unhideR HB5).setCell (by simpa using unhideR HkB) _)
        clear m5
        refine wpAny_step (i := 17) (by kernel_rfl) rfl (by kernel_rfl) (fun K hK => ?_)
        unfold Oper.wp
        go_simp
        refine hK _ _ ?_
        clear hK K
        refine wpAny_end (by kernel_rfl) ?_
        generalize v5.setCell ⟨kk, t, none⟩ (.int .i64 (cn : Nat)) = W3 at *
        clear m6 f5 HR5 HB5 HFb HCn HCl HR9 HB9
        have c6 := (unhideR HR6).rd.tail 6 _ rfl
        have f6 := (unhideR HR6).rd.frozen 2886
        simp only [Nat.reduceAdd] at c6
        rw [show ({ u with C := u.C.set t (cn : Nat) } : St).next = nx from unhideR HNx] at c6
        have hwn : IntKind.i64.wrap ((nx : Int) + 1) = (nx : Int) + 1 := iwrap (by omega) (by omega)
        have HR7 := hideR ((unhideR HR6).setNext (nx + 1))
        have HB7 := hideR ((unhideR HR6).low (i := 2886) (x := .int .i64 ((nx + 1 : Nat) : Int)) (unhideR HB6))
        rw [show ((nx + 1 : Nat) : Int) = (nx : Int) + 1 from rfl] at HR7 HB7
        have HI2 : HeldR (NmIn B g b co s (j + 1) (W3.setCell ⟨g, 2886, none⟩ (.int .i64 ((nx : Int) + 1)))) := by
          subst hWv
          subst hHv
          exact hideR ⟨_, by rw [unhideR HN]; exact unhideR HNum, LS, cv, _, unhideR HR7⟩
        clear HR6 HB6 HR7 HNum
        go_wp2
        exact ⟨⟨A + 2, j + 1, HA2, by omega, by go_num, HI2, HB7⟩, by simp [intOf]; omega⟩
      · have td : decide ((nx : Int) < (n : Int)) = false := decide_eq_false (by omega)
        go_wp2_with fail
        refine wp_region_lets [(· = .pointer (some ⟨g, 0, none⟩)),
          (· = .pointer (some ⟨g, 0, none⟩)),
          (· = .pointer (some ⟨g, 2886, none⟩)),
          (· = .int .i64 (nx : Nat)),
          (· = .pointer (some ⟨g, 0, none⟩)),
          (· = .pointer (some ⟨g, 0, none⟩)),
          (· = .pointer (some ⟨g, 2883, none⟩)),
          (· = .pointer (some ⟨g, 2885, none⟩)),
          (· = .slice ad n cap),
          (· = .int .i64 (n : Nat)),
          (· = .bool false)] (by kernel_rfl) (by kernel_rfl) ?_
        refine lexL_step (fun K hK => ⟨by kernel_rfl, ⟨_, rfl⟩, fun n => ?_, fun v hv => ?_⟩)
        · go_simp
          exact lUpon_one
        subst hv
        go_simp
        refine hK _ ?_
        clear hK K
        refine lexL_step (fun K hK => ⟨by kernel_rfl, ⟨_, rfl⟩, fun n => ?_, fun v hv => ?_⟩)
        · go_simp
          exact lUpon_one
        subst hv
        go_simp
        refine hK _ ?_
        clear hK K
        refine lexL_step (fun K hK => ⟨by kernel_rfl, ⟨_, rfl⟩, fun n => ?_, fun v hv => ?_⟩)
        · go_simp
          exact lUpon_one
        subst hv
        go_simp
        refine hK _ ?_
        clear hK K
        refine lexL_step (fun K hK => ⟨by kernel_rfl, ⟨_, rfl⟩, fun n => ?_, fun v hv => ?_⟩)
        · go_simp
          exact lUpon_one
        subst hv
        go_simp
        refine hK _ ?_
        clear hK K
        refine lexL_step (fun K hK => ⟨by kernel_rfl, ⟨_, rfl⟩, fun n => ?_, fun v hv => ?_⟩)
        · go_simp
          exact lUpon_one
        subst hv
        go_simp
        refine hK _ ?_
        clear hK K
        refine lexL_step (fun K hK => ⟨by kernel_rfl, ⟨_, rfl⟩, fun n => ?_, fun v hv => ?_⟩)
        · go_simp
          exact lUpon_one
        subst hv
        go_simp
        refine hK _ ?_
        clear hK K
        refine lexL_step (fun K hK => ⟨by kernel_rfl, ⟨_, rfl⟩, fun n => ?_, fun v hv => ?_⟩)
        · go_simp
          exact lUpon_one
        subst hv
        go_simp
        refine hK _ ?_
        clear hK K
        refine lexL_step (fun K hK => ⟨by kernel_rfl, ⟨_, rfl⟩, fun n => ?_, fun v hv => ?_⟩)
        · go_simp
          exact lUpon_one
        subst hv
        go_simp
        refine hK _ ?_
        clear hK K
        refine lexL_step (fun K hK => ⟨by kernel_rfl, ⟨_, rfl⟩, fun n => ?_, fun v hv => ?_⟩)
        · go_simp
          exact lUpon_one
        subst hv
        go_simp
        refine hK _ ?_
        clear hK K
        refine lexL_step (fun K hK => ⟨by kernel_rfl, ⟨_, rfl⟩, fun n => ?_, fun v hv => ?_⟩)
        · go_simp
          exact lUpon_one
        subst hv
        go_simp
        refine hK _ ?_
        clear hK K
        refine lexL_step (fun K hK => ⟨by kernel_rfl, ⟨_, rfl⟩, fun n => ?_, fun v hv => ?_⟩)
        · go_simp
          exact lUpon_one
        subst hv
        go_simp
        refine hK _ ?_
        clear hK K
        refine lexL_end ?_
        intro n8
        have HR9 := hideR ((unhideR HR1).below (drawn_below W1 n8))
        have HB9 := hideR (below_goB (unhideR HW1) (unhideR HS1) (drawn_below W1 n8))
        generalize W1.drewN n8 = W2 at *
        clear c5 c6 td HR1 HW1 HS1
        have hz := unhideR HZ
        by_cases m0 : X * 256 + Y = 0
        · rw [decide_eq_false (by simpa using m0)] at hz
          have HI2 : HeldR (NmIn B g b co s (j + 1) W2) := by
            refine hideR ⟨u, ?_, LS, cv, _, unhideR HR9⟩
            rw [unhideR HN]
            unfold numE
            rw [if_neg (by rw [unhideR HLn, unhideR HNx]; exact hlt2), if_pos (by rw [unhideR HPn]; exact m0)]
          clear m0 HZ HCn0 HR9
          go_wp2
          exact ⟨⟨A + 2, j + 1, HA2, by omega, by go_num, HI2, HB9⟩, by simp [intOf]; omega⟩
        · rw [decide_eq_true m0] at hz
          have HX : HeldR (NmPost B g b co s w (.returned (.bool false)) W2) := by
            refine hideR ⟨false, rfl, unhideR HB9, fun q => (by cases q), fun _ => ?_⟩
            rw [unhideR HG]
            refine numsE_stop (k := j + 1) ?_ (by have := unhideR HA; omega)
            rw [unhideR HN]
            unfold numE
            rw [if_neg (by rw [unhideR HLn, unhideR HNx]; exact hlt2), if_neg (by rw [unhideR HPn]; exact m0)]
          clear m0 HZ HCn0 HR9
          go_wp2
          go_ret
          exact unhideR HX
    · obtain rfl : A = 2880 := by omega
      obtain rfl : j = 1440 := by have := unhideR HA; omega
      have HX : HeldR (NmPost B g b co s w (.returned (.bool true)) wr) := by
        obtain ⟨u, h1, h4⟩ := unhideR HI
        exact hideR ⟨true, rfl, unhideR HW, fun _ => ⟨u, by rw [unhideR HG]; exact h1, h4⟩, fun q => (by cases q)⟩
      clear HI HA
      go_wp2
      go_ret
      exact unhideR HX
end Go.Proofs.YtncbmkflilcdgaiGreatDoor
