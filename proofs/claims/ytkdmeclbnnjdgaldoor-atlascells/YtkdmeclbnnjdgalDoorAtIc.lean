/-
  The names in a cell: the document's In, by contract.
-/
import Derived.Test.YtkdmeclbnnjdgalDoorAtCn0
import Derived.Test.YtkdmeclbnnjdgalDoorAtCe
import Derived.Test.YtkdmeclbnnjdgalDoorAtEq
import Derived.Test.YtkdmeclbnnjdgalDoorLooseA
namespace Go.Proofs.YtkdmeclbnnjdgalDoor
open Go Go.RowKit

def MdQ (v : Value) : Prop := ∃ b, v = .pointer (some ⟨b, 0, none⟩)
def Q4At (N : Nat) (v : Value) (w : World) : Prop := ∀ b, v = .pointer (some ⟨b, 0, none⟩) → w.heap[b]? = some (.cells #[.int .i64 0, .int .i64 0, .int .i64 0, .int .i64 0] 56) ∧ N ≤ b
theorem q4_stb (N : Nat) (v : Value) : Stb (Q4At N v) := fun _ _ h hb b e => ⟨keepB (h b e).1 hb, (h b e).2⟩
/-- the names in a cell, of the first i. -/
def icV (s : Sq) (L : List En) : Nat → List ByteArray
  | 0 => []
  | i + 1 => if (sqE (L.getD i en0).d s.l == 0) && sqEq (sqA (L.getD i en0).d s.l) s then insV (icV s L i) (L.getD i en0).nm else icV s L i
theorem ic_len (s : Sq) (L : List En) : ∀ i, (icV s L i).length ≤ i
  | 0 => Nat.le_refl _
  | i + 1 => by
    have := ic_len s L i
    show (if (sqE (L.getD i en0).d s.l == 0) && sqEq (sqA (L.getD i en0).d s.l) s then insV (icV s L i) (L.getD i en0).nm else icV s L i).length ≤ i + 1
    split
    · rw [insV_len]; omega
    · omega
theorem one_cellQ {v : World} {g b i k : Nat} {x : Value} (h : b ≠ g) : (v.setCell ⟨g, i, none⟩ x).cell? ⟨b, k, none⟩ = v.cell? ⟨b, k, none⟩ := World.cell?_of_block (a := ⟨b, k, none⟩) (Below.heap_setCell _ _ _ _ h)
theorem set4_cellQ {v : World} {g b k : Nat} {x y z t : Value} (h : b ≠ g) : ((((v.setCell ⟨g, 0, none⟩ x).setCell ⟨g, 1, none⟩ y).setCell ⟨g, 2, none⟩ z).setCell ⟨g, 3, none⟩ t).cell? ⟨b, k, none⟩ = v.cell? ⟨b, k, none⟩ := by
  rw [one_cellQ h, one_cellQ h, one_cellQ h, one_cellQ h]
theorem set4_heapQ {v : World} {g b : Nat} {x y z t : Value} (h : b ≠ g) : ((((v.setCell ⟨g, 0, none⟩ x).setCell ⟨g, 1, none⟩ y).setCell ⟨g, 2, none⟩ z).setCell ⟨g, 3, none⟩ t).heap[b]? = v.heap[b]? := by
  rw [Below.heap_setCell _ _ _ _ h, Below.heap_setCell _ _ _ _ h, Below.heap_setCell _ _ _ _ h, Below.heap_setCell _ _ _ _ h]
theorem set4_sizeQ {v : World} {g : Nat} {x y z t : Value} : ((((v.setCell ⟨g, 0, none⟩ x).setCell ⟨g, 1, none⟩ y).setCell ⟨g, 2, none⟩ z).setCell ⟨g, 3, none⟩ t).heap.size = v.heap.size := by
  simp [World.setCell]
theorem drewBlQ {B : Nat} {w u : World} (h : Below B w u) : Below B w u.drew := ⟨h.os, h.tape, h.output, h.size, h.block⟩
theorem own_setQ {w : World} {B n s g i : Nat} {e : TypeId} {v x : Value} {xs : List Value} (h : w.ownsRow B e s v n xs) (hg : some g ≠ v.ownBlock) : (w.setCell ⟨g, i, none⟩ x).ownsRow B e s v n xs := by
  obtain ⟨a1, a2⟩ := h
  refine ⟨a1, ?_⟩
  rcases a2 with a2 | ⟨k, cap, cur, hv, hB, hh, r⟩
  · exact Or.inl a2
  · refine Or.inr ⟨k, cap, cur, hv, hB, ?_, r⟩
    rw [Below.heap_setCell _ _ _ _ (fun q => hg ?_)]
    · exact hh
    · subst hv
      simp only [Value.ownBlock]
      exact congrArg some q.symm
theorem fresh4 {v : World} {g b off K G o B nn : Nat} {lv : Int} {cap : Nat} {L : List En} {sv cs : Array Value} {e : En} {vO : Value} {xs : List Value} (hA : AtB v g lv (some ⟨b, off, none⟩) cap L) (hz : v.heap[K]? = some (.cells sv 56)) (hE : EnAt v b o e) (hO : v.ownsRow B 9 1 vO nn xs) (hN : v.heap[G]? = some (.cells cs 56)) (x y z t : Value) (h1 : b < G) (h2 : g < G) (h3 : K < G) :
    AtB ((((v.setCell ⟨G, 0, none⟩ x).setCell ⟨G, 1, none⟩ y).setCell ⟨G, 2, none⟩ z).setCell ⟨G, 3, none⟩ t) g lv (some ⟨b, off, none⟩) cap L ∧ ((((v.setCell ⟨G, 0, none⟩ x).setCell ⟨G, 1, none⟩ y).setCell ⟨G, 2, none⟩ z).setCell ⟨G, 3, none⟩ t).heap[K]? = some (.cells sv 56) ∧ EnAt ((((v.setCell ⟨G, 0, none⟩ x).setCell ⟨G, 1, none⟩ y).setCell ⟨G, 2, none⟩ z).setCell ⟨G, 3, none⟩ t) b o e ∧ ((((v.setCell ⟨G, 0, none⟩ x).setCell ⟨G, 1, none⟩ y).setCell ⟨G, 2, none⟩ z).setCell ⟨G, 3, none⟩ t).ownsRow B 9 1 vO nn xs := by
  have nb : b ≠ G := by omega
  have up : ∀ {o : Nat} {e : En}, EnAt v b o e → EnAt ((((v.setCell ⟨G, 0, none⟩ x).setCell ⟨G, 1, none⟩ y).setCell ⟨G, 2, none⟩ z).setCell ⟨G, 3, none⟩ t) b o e := fun h => ⟨(set4_cellQ nb).trans h.c0, (set4_cellQ nb).trans h.c1, (set4_cellQ nb).trans h.c2, (set4_cellQ nb).trans h.c3, (set4_cellQ nb).trans h.c4⟩
  have ho : some G ≠ vO.ownBlock := by
    intro q
    rcases hO.2 with ⟨e1, _⟩ | ⟨k, c1, cur, e1, _, hh, _⟩
    · rw [e1] at q
      cases q
    · rw [e1] at q
      simp only [Value.ownBlock] at q
      injection q with q
      rw [← q, hN] at hh
      injection hh with hh
      injection hh with _ hh
      exact absurd hh (by decide)
  refine ⟨⟨(set4_heapQ (by omega)).trans hA.b, ⟨fun k hk => ?_⟩⟩, (set4_heapQ (by omega)).trans hz, up hE, own_setQ (own_setQ (own_setQ (own_setQ hO ho) ho) ho) ho⟩
  obtain ⟨b', off', e1, hb', h4⟩ := hA.e.at_ k hk
  cases e1
  exact ⟨b, off, rfl, by rw [set4_sizeQ]; exact hb', up h4⟩
def inV (s : Sq) (lv : Int) (L : List En) : List ByteArray := if lv < s.l then [] else icV s L L.length
set_option maxRecDepth 100000 in
set_option maxHeartbeats 6400000 in
theorem in_any (s : Sq) {w : World} {g : Nat} {lv : Int} {ad : Option Addr} {cap : Nat} {L : List En} (hA0 : AtB w g lv ad cap L) (hl : L.length ≤ 4000) :
    Calls Tryd.prog 28 #[.pointer (some ⟨g, 0, none⟩), s.val] w fun r w' => (∃ v, r = .returned v ∧ NmOwn w' v (inV s lv L)) ∧ Below w.heap.size w w' := by
  have HCe : HeldR (∀ a u, Calls Tryd.prog 21 #[(L.getD a en0).d.val, .int .i64 s.l] u fun r w' => r = .returned (.tuple #[(sqA (L.getD a en0).d s.l).val, .int .i64 (sqE (L.getD a en0).d s.l)]) ∧ Below u.heap.size u w') := hideR (fun a u => cellAt_any _ s.l u)
  have HC : HeldR (∀ i, icV s L (i + 1) = if (sqE (L.getD i en0).d s.l == 0) && sqEq (sqA (L.getD i en0).d s.l) s then insV (icV s L i) (L.getD i en0).nm else icV s L i) := hideR (fun i => rfl)
  have HLn : HeldR (∀ i, (icV s L i).length ≤ i) := hideR (ic_len s L)
  have H0 : HeldR (∀ u : World, NmOwn u (.slice none 0 0) (icV s L 0)) := hideR (fun u => ⟨0, World.ownsRow_nil u 0 9 1⟩)
  have heq := fun t u => eql_sq t s u
  have hgd := guard_sq .eql
  unfold inV
  obtain ⟨n, hn⟩ : ∃ n, L.length = n := ⟨_, rfl⟩
  have Hn := hideR hn
  obtain ⟨C, hC⟩ : ∃ C, icV s L = C := ⟨_, rfl⟩
  rw [hC] at HC HLn H0 ⊢
  clear hC
  obtain ⟨sf, sl, sc, sr⟩ := s
  unfold Sq.val at *
  simp only at *
  have z1 := alloc_last w (.cells #[.int .i64 sf, .int .i64 sl, .int .i64 sc, .int .i64 sr] 56)
  have HB := hideR (below_a w (.cells #[.int .i64 sf, .int .i64 sl, .int .i64 sc, .int .i64 sr] 56))
  have HA := hideR (hA0.below (below_a w (.cells #[.int .i64 sf, .int .i64 sl, .int .i64 sc, .int .i64 sr] 56)))
  rw [hn] at hl ⊢
  clear hA0 hn
  by_cases q0 : lv < sl
  · have t0 : decide (lv < sl) = true := decide_eq_true q0
    rw [if_pos q0]
    have HE : HeldR (∀ u : World, NmOwn u (.slice none 0 0) []) := hideR (fun u => ⟨0, World.ownsRow_nil u 0 9 1⟩)
    clear HCe HC HLn H0 heq hgd q0
    go_enter Tryd.func28, Tryd.ntmps28
    go_upto_region 2 with fail
    generalize w.alloc (.cells #[.int .i64 sf, .int .i64 sl, .int .i64 sc, .int .i64 sr] 56) = u0 at *
    generalize w.heap.size = K at z1 ⊢
    have x1 := (cells_at (show u0.drew.heap[K]? = some (.cells #[.int .i64 sf, .int .i64 sl, .int .i64 sc, .int .i64 sr] 56) from z1) 1 (by simp)).1
    have a0 := (cells_at (show u0.drew.heap[g]? = some (.cells #[.int .i64 lv, .slice ad L.length cap] 101) from (unhideR HA).b) 0 (by simp)).1
    go_region
    go_wp2
    go_ret
    exact ⟨⟨_, rfl, unhideR HE _⟩, drewBlQ (unhideR HB)⟩
  have t0 : decide (lv < sl) = false := decide_eq_false q0
  rw [if_neg q0]
  clear q0
  go_enter Tryd.func28, Tryd.ntmps28
  go_upto_region 2 with fail
  generalize w.alloc (.cells #[.int .i64 sf, .int .i64 sl, .int .i64 sc, .int .i64 sr] 56) = u0 at *
  generalize w.heap.size = K at z1 ⊢
  have x1 := (cells_at (show u0.drew.heap[K]? = some (.cells #[.int .i64 sf, .int .i64 sl, .int .i64 sc, .int .i64 sr] 56) from z1) 1 (by simp)).1
  have a0 := (cells_at (show u0.drew.heap[g]? = some (.cells #[.int .i64 lv, .slice ad L.length cap] 101) from (unhideR HA).b) 0 (by simp)).1
  replace HB := hideR (drewBlQ (unhideR HB))
  replace z1 : u0.drew.heap[K]? = some (.cells #[.int .i64 sf, .int .i64 sl, .int .i64 sc, .int .i64 sr] 56) := z1
  replace HA : HeldR (AtB u0.drew g lv ad cap L) := hideR ⟨(unhideR HA).b, (unhideR HA).e.below (drewBlQ (Below.refl _ _))⟩
  go_region
  generalize u0.drew = u1 at *
  clear x1 a0
  go_wp2_with fail
  go_loopw [5, 6] (fun ov iv wl => ∃ (i : Nat), i ≤ n ∧ iv = .int .i64 (i : Nat) ∧ HeldR (NmOwn wl ov (C i)) ∧ HeldR (AtB wl g lv ad cap L) ∧ wl.heap[K]? = some (.cells #[.int .i64 sf, .int .i64 sl, .int .i64 sc, .int .i64 sr] 56) ∧ HeldR (Below w.heap.size w wl)) (fun _ iv _ => n + 1 - (intOf iv).toNat)
  case atStart => exact ⟨0, by omega, rfl, hideR (unhideR H0 _), HA, z1, HB⟩
  case round =>
    clear HA z1 HB H0
    obtain ⟨i, hin, rfl, HO, HA, z1, HB⟩ := hrel
    have hab := (unhideR HA).b
    rw [unhideR Hn] at hab
    have a1 := (cells_at hab 1 (by simp)).1
    clear hab
    by_cases q : i < n
    case neg =>
      obtain rfl : i = n := by omega
      have ti : decide ((i : Int) < (i : Int)) = false := decide_eq_false (by omega)
      have tin : decide (i < i) = false := decide_eq_false (by omega)
      clear HC HCe HLn HA z1 heq hgd
      go_wp2
      go_ret
      exact ⟨⟨_, rfl, unhideR HO⟩, unhideR HB⟩
    case pos =>
      have ti : decide ((i : Int) < (n : Int)) = true := decide_eq_true (by omega)
      have tin : decide (i < n) = true := decide_eq_true q
      have wi : IntKind.i64.wrap ((i : Int) + 1) = (i : Int) + 1 := iwrap (by omega) (by omega)
      have hin2 : (i : Int) < (n : Int) := by omega
      have hce := unhideR HCe i
      have hci := unhideR HC i
      have hli := unhideR HLn i
      obtain ⟨B0, hO⟩ := unhideR HO
      obtain ⟨adO, capO, rfl, hSC, hcp, hnl⟩ := own_str hO
      obtain ⟨b, off, had, hbl, hei⟩ := (unhideR HA).e.at_ i (by rw [unhideR Hn]; exact q)
      subst had
      have HEi := hideR hei
      have Hbl := hideR hbl
      have HSC := hideR hSC
      generalize sqE (L.getD i en0).d sl = ce at *
      have heq2 := heq (sqA (L.getD i en0).d sl)
      generalize sqA (L.getD i en0).d sl = ca at *
      obtain ⟨cf, cl, cc, cr⟩ := ca
      obtain ⟨ei, hEi⟩ : ∃ e, L.getD i en0 = e := ⟨_, rfl⟩
      rw [hEi] at hce HEi hci
      obtain ⟨si, pi, li⟩ := ei
      simp only at *
      generalize sqEq ⟨cf, cl, cc, cr⟩ ⟨sf, sl, sc, sr⟩ = eqq at *
      have HCi := hideR hci
      have Hcp := hideR (And.intro hli (And.intro hcp hnl))
      replace HO := hideR hO
      clear hEi hei hbl hSC hci hO hli hcp hnl HC HCe HLn heq
      go_upto_region 7 with fail
      clear a1
      refine Y.wp_region_pure 1 #[true, true, true, true, true, true, true, true, true, true, true, true, true, true, true, false, false] [.lets (· = .pointer (some ⟨g, 0, none⟩)),
        .lets (· = .pointer (some ⟨g, 0, none⟩)),
        .lets (· = .pointer (some ⟨g, 1, none⟩)),
        .lets (· = .slice (some ⟨b, off, none⟩) n cap),
        .lets (· = .int .i64 (i : Nat)),
        .lets (· = .pointer (some ⟨b, off + i * 5, none⟩)),
        .lets (· = .pointer (some ⟨b, off + i * 5 + 1, none⟩)),
        .lets (· = .agg #[.int .i64 pi.x, .int .i64 pi.y, .int .i64 pi.z]),
        .lets (· = .pointer (some ⟨K, 1, none⟩)),
        .lets (· = .int .i64 sl),
        .lets (· = .tuple #[.agg #[.int .i64 cf, .int .i64 cl, .int .i64 cc, .int .i64 cr], .int .i64 ce]),
        .lets (· = .tuple #[.agg #[.int .i64 cf, .int .i64 cl, .int .i64 cc, .int .i64 cr], .int .i64 ce]),
        .lets (· = .agg #[.int .i64 cf, .int .i64 cl, .int .i64 cc, .int .i64 cr]),
        .pure (.int .i64 ce),
        .made MdQ (Q4At wr.heap.size)] [13] (by kernel_rfl) (by kernel_rfl) rfl ?pures (fun d _ _ _ _ h => by cases d <;> exact h) (by kernel_rfl) (by kernel_rfl) ?_
      case pures =>
        intro i h
        rcases i with _ | _ | _ | _ | _ | _ | _ | _ | _ | _ | _ | _ | _ | _ | _ | i <;> first | exact ⟨_, rfl⟩ | (simp at h)
      refine Y.lexX_step (fun K hK => ⟨by kernel_rfl, ⟨_, rfl⟩, fun v hv => ?_, fun v hv => ?_⟩)
      · go_simp
        exact mUpon_b
      subst hv
      go_simp
      refine hK _ ?_
      clear hK K
      refine Y.lexX_step (fun K hK => ⟨by kernel_rfl, ⟨_, rfl⟩, fun v hv => ?_, fun v hv => ?_⟩)
      · go_simp
        exact mUpon_b
      subst hv
      go_simp
      refine hK _ ?_
      clear hK K
      refine Y.lexX_step (fun K hK => ⟨by kernel_rfl, ⟨_, rfl⟩, fun v hv => ?_, fun v hv => ?_⟩)
      · go_simp
        exact mUpon_b
      subst hv
      go_simp
      refine hK _ ?_
      clear hK K
      refine Y.lexX_step (fun K hK => ⟨by kernel_rfl, ⟨_, rfl⟩, fun v hv => ?_, fun v hv => ?_⟩)
      · have q9 := (cells_at (keepB (unhideR HA).b hv) 1 (by simp)).1
        rw [unhideR Hn] at q9
        go_simp
        exact mUpon_b
      subst hv
      go_simp
      refine hK _ ?_
      clear hK K
      refine Y.lexX_step (fun K hK => ⟨by kernel_rfl, ⟨_, rfl⟩, fun v hv => ?_, fun v hv => ?_⟩)
      · go_simp
        exact mUpon_b
      subst hv
      go_simp
      refine hK _ ?_
      clear hK K
      refine Y.lexX_step (fun K hK => ⟨by kernel_rfl, ⟨_, rfl⟩, fun v hv => ?_, fun v hv => ?_⟩)
      · go_simp
        exact mUpon_b
      subst hv
      go_simp
      refine hK _ ?_
      clear hK K
      refine Y.lexX_step (fun K hK => ⟨by kernel_rfl, ⟨_, rfl⟩, fun v hv => ?_, fun v hv => ?_⟩)
      · go_simp
        exact mUpon_b
      subst hv
      go_simp
      refine hK _ ?_
      clear hK K
      refine Y.lexX_step (fun K hK => ⟨by kernel_rfl, ⟨_, rfl⟩, fun v hv => ?_, fun v hv => ?_⟩)
      · have q9 := (unhideR HEi).below hv (unhideR Hbl)
        have q0 := q9.c1
        have q1 := q9.c2
        have q2 := q9.c3
        go_simp
        exact mUpon_b
      subst hv
      go_simp
      refine hK _ ?_
      clear hK K
      refine Y.lexX_step (fun K hK => ⟨by kernel_rfl, ⟨_, rfl⟩, fun v hv => ?_, fun v hv => ?_⟩)
      · go_simp
        exact mUpon_b
      subst hv
      go_simp
      refine hK _ ?_
      clear hK K
      refine Y.lexX_step (fun K hK => ⟨by kernel_rfl, ⟨_, rfl⟩, fun v hv => ?_, fun v hv => ?_⟩)
      · have q9 := (cells_at (keepB z1 hv) 1 (by simp)).1
        go_simp
        exact mUpon_b
      subst hv
      go_simp
      refine hK _ ?_
      clear hK K
      refine Y.lexX_step (fun K hK => ⟨by kernel_rfl, ⟨_, rfl⟩, fun v hv => ?_, fun v hv => ?_⟩)
      · go_simp
        refine (hce _).mono ?_
        rintro e w9 ⟨rfl, k⟩
        exact ⟨_, rfl, rfl, k⟩
      subst hv
      go_simp
      refine hK _ ?_
      clear hK K
      refine Y.lexX_step (fun K hK => ⟨by kernel_rfl, ⟨_, rfl⟩, fun v hv => ?_, fun v hv => ?_⟩)
      · go_simp
        exact mUpon_b
      subst hv
      go_simp
      refine hK _ ?_
      clear hK K
      refine Y.lexX_step (fun K hK => ⟨by kernel_rfl, ⟨_, rfl⟩, fun v hv => ?_, fun v hv => ?_⟩)
      · go_simp
        exact mUpon_b
      subst hv
      go_simp
      refine hK _ ?_
      clear hK K
      refine Y.lexX_pure (fun K hK => ⟨.inl ⟨by kernel_rfl, fun v => ?_⟩, ?_⟩)
      · go_simp
      go_simp
      refine hK _ ?_
      clear hK K
      refine Y.lexX_made ⟨by kernel_rfl, ⟨_, 0, rfl⟩, q4_stb _, fun v hv => ?_, ?_⟩
      · go_simp
        refine ⟨below_a v _, ⟨_, rfl⟩, fun b' e => ?_⟩
        cases e
        exact ⟨alloc_last v _, hv.size⟩
      rintro _ ⟨G, rfl⟩ K9 hK9
      go_simp
      refine hK9 _ ?_
      clear hK9 K9
      refine Y.lexX_end (fun v5 hv => ?_)
      have hn5 := hv.fact.2 G rfl
      have k5 := hv.low
      clear hv hce
      have HG : HeldR (b < G ∧ g < G ∧ K < G ∧ w.heap.size ≤ G) := hideR (by
        have q1 := hn5.2
        have q2 := (Array.getElem?_eq_some_iff.1 z1).1
        have q3 := (Array.getElem?_eq_some_iff.1 (unhideR HA).b).1
        have q4 := unhideR Hbl
        have q5 := (unhideR HB).size
        omega)
      replace z1 := keepB z1 k5
      replace HA := hideR ((unhideR HA).below k5)
      replace HEi := hideR ((unhideR HEi).below k5 (unhideR Hbl))
      replace HB := hideR (below_go (unhideR HB) k5)
      have HO2 := hideR (own_belowC (unhideR HO) k5)
      replace HSC := hideR ((unhideR HSC).below k5)
      have zN := hn5.1
      clear hn5 k5 HO
      have o0 := (cells_at zN 0 (by simp)).1
      have f0 := (cells_at zN 0 (by simp)).2
      have o1 := (cells_at zN 1 (by simp)).1
      have f1 := (cells_at zN 1 (by simp)).2
      have o2 := (cells_at zN 2 (by simp)).1
      have f2 := (cells_at zN 2 (by simp)).2
      have o3 := (cells_at zN 3 (by simp)).1
      have f3 := (cells_at zN 3 (by simp)).2
      have HX := hideR (fresh4 (unhideR HA) z1 (unhideR HEi) (unhideR HO2) zN (.int .i64 cf) (.int .i64 cl) (.int .i64 cc) (.int .i64 cr) (unhideR HG).1 (unhideR HG).2.1 (unhideR HG).2.2.1)
      have zG : ((((v5.setCell ⟨G, 0, none⟩ (.int .i64 cf)).setCell ⟨G, 1, none⟩ (.int .i64 cl)).setCell ⟨G, 2, none⟩ (.int .i64 cc)).setCell ⟨G, 3, none⟩ (.int .i64 cr)).heap[G]? = some (.cells #[.int .i64 cf, .int .i64 cl, .int .i64 cc, .int .i64 cr] 56) := by simp [World.setCell, Array.getElem?_modify, zN]
      have hB5 := hideR (set4_blA (unhideR HB) (unhideR HG).2.2.2 (.int .i64 cf) (.int .i64 cl) (.int .i64 cc) (.int .i64 cr))
      clear zN z1 HA HEi HO2 HSC HB Hbl
      refine wpAny_step (i := 15) (by kernel_rfl) rfl (by kernel_rfl) (fun K hK => ?_)
      unfold Oper.wp
      go_simp
      refine hK _ _ ?_
      clear hK K
      refine wpAny_step (i := 16) (by kernel_rfl) rfl (by kernel_rfl) (fun K hK => ?_)
      unfold Oper.wp
      go_simp
      refine hK _ _ ?_
      clear hK K
      refine wpAny_end (by kernel_rfl) ?_
      clear o0 f0 o1 f1 o2 f2 o3 f3
      generalize ((((v5.setCell ⟨G, 0, none⟩ (.int .i64 cf)).setCell ⟨G, 1, none⟩ (.int .i64 cl)).setCell ⟨G, 2, none⟩ (.int .i64 cc)).setCell ⟨G, 3, none⟩ (.int .i64 cr)) = v6 at *
      obtain ⟨HA', z1, HEi', HO2'⟩ := unhideR HX
      have HA := hideR HA'
      have HEi := hideR HEi'
      have HO2 := hideR HO2'
      clear HX HA' HEi' HO2' HG
      have HKeep : HeldR (((ce == 0) && eqq) = false → NmOwn v6 (.slice adO (C i).length capO) (C (i + 1))) := hideR (fun q => by
        rw [unhideR HCi, q]
        exact ⟨_, unhideR HO2⟩)
      have hSC2 : SCm v6 adO (C i) := by
        obtain ⟨ad', cap', e1, h1, _, _⟩ := own_str (unhideR HO2)
        cases e1
        exact h1
      have HSC := hideR hSC2
      clear hSC2
      have x0 := (cells_at zG 0 (by simp)).1
      have x1 := (cells_at zG 1 (by simp)).1
      have x2 := (cells_at zG 2 (by simp)).1
      have x3 := (cells_at zG 3 (by simp)).1
      have y0 := (cells_at z1 0 (by simp)).1
      have y1 := (cells_at z1 1 (by simp)).1
      have y2 := (cells_at z1 2 (by simp)).1
      have y3 := (cells_at z1 3 (by simp)).1
      have HB := hB5
      clear hB5 zG
      by_cases qe : ce = 0
      · have te : (ce == 0) = true := by simp [qe]
        rw [te] at HKeep HCi
        cases eqq with
        | false =>
          have HO3 := hideR (unhideR HKeep rfl)
          clear HKeep HCi HO2 HSC Hcp HEi
          go_wp2
          exact ⟨⟨i + 1, by omega, by go_num, HO3, HA, z1, HB⟩, by simp [intOf]; omega⟩
        | true =>
          have hin3 := insert_any (cap := capO) si (unhideR HSC) (by have := (unhideR Hcp).1; omega) (unhideR Hcp).2.1 (unhideR Hcp).2.2
          have hab := (unhideR HA).b
          rw [unhideR Hn] at hab
          have a1 := (cells_at hab 1 (by simp)).1
          have ni := (unhideR HEi).c0
          clear hab HKeep
          go_wp2_with fail
          refine hin3.mono ?_
          rintro r v8 ⟨v7, rfl, hO7, k7⟩
          have HO3 : HeldR (NmOwn v8 v7 (C (i + 1))) := hideR (by rw [unhideR HCi]; exact ⟨_, hO7⟩)
          replace z1 := keepB z1 k7
          replace HA := hideR ((unhideR HA).below k7)
          replace HB := hideR (below_go (unhideR HB) k7)
          clear HO2 HCi HSC Hcp HEi hO7 k7 hin3 a1 ni x0 x1 x2 x3 y0 y1 y2 y3
          go_wp2
          exact ⟨⟨i + 1, by omega, by go_num, HO3, HA, z1, HB⟩, by simp [intOf]; omega⟩
      · have te : (ce == 0) = false := by simp [qe]
        rw [te] at HKeep
        have HO3 := hideR (unhideR HKeep rfl)
        clear HKeep HCi HO2 HSC Hcp HEi
        go_wp2
        exact ⟨⟨i + 1, by omega, by go_num, HO3, HA, z1, HB⟩, by simp [intOf]; omega⟩
end Go.Proofs.YtkdmeclbnnjdgalDoor
