/-
  The search for what lies within: what it asks for, what it takes: the program's, by contract. What lies within: the program's, by contract.
-/
import Derived.Test.YtfonpobdnhifgamGreatDoorAtT1
namespace Go.Proofs.YtfonpobdnhifgamGreatDoor
open Go Go.RowKit

set_option maxRecDepth 100000 in
set_option maxHeartbeats 3200000 in
theorem pwenough_any {W : World} {bl : Nat} {lc : Co} (hl : W.heap[bl]? = some (.cells #[.int .i64 lc.sg, .int .u64 (ohV lc), .int .u64 (olV lc), .int .i64 lc.un] 76)) (hlc : lc.Sm) (c : Co) (hc : c.Sm) :
    Calls Tryz.prog 55 #[coV c, .pointer (some ⟨bl, 0, none⟩)] W fun r w' => r = .returned (.bool (decide (0 ≤ coCmp c lc))) ∧ Below W.heap.size W w' := by
  have hcm := fun x => pcmp_any c lc hc hlc x
  simp only [coV_is] at hcm
  rw [coV_is]
  generalize coCmp c lc = z at *
  have z1 := alloc_last W (.cells #[.int .i64 c.sg, .int .u64 (ohV c), .int .u64 (olV c), .int .i64 c.un] 76)
  have HB := hideR (below_a W (.cells #[.int .i64 c.sg, .int .u64 (ohV c), .int .u64 (olV c), .int .i64 c.un] 76))
  have hl1 := keepA (o' := .cells #[.int .i64 c.sg, .int .u64 (ohV c), .int .u64 (olV c), .int .i64 c.un] 76) hl
  have a0 := (cells_at z1 0 (by simp)).1
  have a1 := (cells_at z1 1 (by simp)).1
  have a2 := (cells_at z1 2 (by simp)).1
  have a3 := (cells_at z1 3 (by simp)).1
  have b0 := (cells_at hl1 0 (by simp)).1
  have b1 := (cells_at hl1 1 (by simp)).1
  have b2 := (cells_at hl1 2 (by simp)).1
  have b3 := (cells_at hl1 3 (by simp)).1
  clear hl hlc hc z1 hl1
  go_enter Tryz.func55, Tryz.ntmps55
  go_wp2_with fail
  refine (hcm _).mono ?_
  rintro r u1 ⟨rfl, k1⟩
  have HB2 := hideR (below_go (unhideR HB) k1)
  clear k1 HB a0 a1 a2 a3 b0 b1 b2 b3 hcm
  go_wp2
  go_ret
  exact ⟨rfl, unhideR HB2⟩
/-- what the search within keeps. -/
structure WiInv (W0 : World) (p : Nat) (K : List En) (lc : Co) (x : List Nat) (W : World) : Prop where
  a : Boxed W W0.heap.size 28 (.pointer (some ⟨p, 0, none⟩))
  l : W.heap[W0.heap.size + 2]? = some (.cells #[.int .i64 lc.sg, .int .u64 (ohV lc), .int .u64 (olV lc), .int .i64 lc.un] 76)
  r : ∃ v, Boxed W (W0.heap.size + 3) 32 v ∧ W.ownsRow W0.heap.size 9 1 v x.length (x.map fun i => .string (K.getD i en0).nm) ∧ v.ownBlock ≠ some (W0.heap.size + 4)
  s : W0.heap.size + 4 < W.heap.size
theorem WiInv.stab {W0 : World} {p : Nat} {K : List En} {lc : Co} {x : List Nat} {W W' : World} (h : WiInv W0 p K lc x W) (o : Oth (· = W0.heap.size + 4) W W') : WiInv W0 p K lc x W' := by
  obtain ⟨v, h1, h2, h3⟩ := h.r
  refine ⟨o.heap h.a (by omega), o.heap h.l (by omega), ⟨v, o.heap h1 (by omega), row_keep h2 (fun k hk => o.block k ((h2.lt k hk).2) (fun e => h3 (by rw [hk, e]))), h3⟩, Nat.lt_of_lt_of_le h.s o.size⟩
def OneN (s : ByteArray) (v : Value) (w : World) : Prop := ∀ g : Nat, v = .slice (some ⟨g, 0, none⟩) 1 1 → w.heap[g]? = some (.cells #[.string s] 9)
theorem oneN_stb (s : ByteArray) (v : Value) : Stb (OneN s v) := fun _ _ h k g q => keepB (h g q) k
def WtPost (W0 : World) (p : Nat) (K : List En) (lc : Co) (d : Dr) (fe ft : Value) (lk : Int) (y : List Nat) (W : World) (r : Ending) (w' : World) : Prop := r = .returned (.tuple #[]) ∧ WiInv W0 p K lc y w' ∧ Below W0.heap.size W0 w' ∧ SB w' (W0.heap.size + 4) p d fe ft lk ∧ KeepP W w'
set_option maxRecDepth 1000000 in
set_option maxHeartbeats 6400000 in
theorem pwtake_any {W0 : World} {p : Nat} {lv : Int} {K : List En} {ad : Option Addr} {cap bn bc : Nat} {es : Array MapEntry} {clock : Nat} {sn : Int} (h : RO W0 p lv K ad cap bn bc es clock sn) (_hKl : K.length ≤ 4000) {lc : Co} {x : List Nat} {W : World} {d : Dr} {fe ft : Value} {lk : Int} (hI : WiInv W0 p K lc x W) (hxl : x.length < 8000000000000) {i : Nat} (hi : i < K.length) (c : Co) (hB : Below W0.heap.size W0 W) (hs : SB W (W0.heap.size + 4) p d fe ft lk) :
    Calls Tryz.prog 56 #[.int .i64 (i : Nat), coV c, .pointer (some ⟨W0.heap.size + 3, 0, none⟩), .pointer (some ⟨W0.heap.size, 0, none⟩)] W (WtPost W0 p K lc d fe ft lk (x ++ [i]) W) := by
  obtain ⟨i0, hi0, hz0, hz1, hz2⟩ := info_parts infoS
  obtain ⟨v, h1, h2, h3⟩ := hI.r
  obtain ⟨adn, capn, ev⟩ : ∃ adn capn, v = .slice adn x.length capn := by
    rcases h2.2 with ⟨e, e0⟩ | ⟨g, cap, cur, e, _⟩
    · exact ⟨none, 0, by rw [e, e0]⟩
    · exact ⟨_, _, e⟩
  subst ev
  obtain ⟨b2, had2, hbl2, hSt⟩ := h.st i hi
  subst had2
  have hp2 := (hB.block p (ltB h.hp)).trans h.hp
  have hbb := hB.block b2 hbl2
  have hnm := (World.cell?_of_block (a := ⟨b2, i * 4, none⟩) hbb).trans hSt.c0
  obtain ⟨nK, hnK⟩ : ∃ m, K.length = m := ⟨_, rfl⟩
  rw [hnK] at hp2 hi
  have hin : (i : Int) < (nK : Int) := by omega
  rw [coV_is]
  have HB0 := hideR (below_a W (.cells #[.int .i64 c.sg, .int .u64 (ohV c), .int .u64 (olV c), .int .i64 c.un] 76))
  have HI := hideR (WiInv.stab hI (oth_of_below (below_a W (.cells #[.int .i64 c.sg, .int .u64 (ohV c), .int .u64 (olV c), .int .i64 c.un] 76))))
  have Hr := hideR (own_belowC h2 (below_a W (.cells #[.int .i64 c.sg, .int .u64 (ohV c), .int .u64 (olV c), .int .i64 c.un] 76)))
  have Hb3 := hideR (keepA (o' := .cells #[.int .i64 c.sg, .int .u64 (ohV c), .int .u64 (olV c), .int .i64 c.un] 76) h1)
  have Hs := hideR (keepA (o' := .cells #[.int .i64 c.sg, .int .u64 (ohV c), .int .u64 (olV c), .int .i64 c.un] 76) hs)
  have HBW := hideR (hB.alloc hB.size (.cells #[.int .i64 c.sg, .int .u64 (ohV c), .int .u64 (olV c), .int .i64 c.un] 76))
  have HP : HeldR (∀ v' w6 u, u.grownBy w6 (Value.slice adn x.length capn).ownBlock → KeepP W u → Below W0.heap.size W0 u → u.heap[W0.heap.size + 4]? = some (.cells #[.pointer (some ⟨p, 0, none⟩), .int .i64 d.x, .int .i64 d.y, .int .i64 d.z, fe, ft, .int .i64 lk] 111) → WiInv W0 p K lc x u → Boxed u (W0.heap.size + 3) 32 (.slice adn x.length capn) → u.ownsRow W0.heap.size 9 1 (.slice adn x.length capn) x.length (x.map fun i => .string (K.getD i en0).nm) → w6.ownsRow W0.heap.size 9 1 v' (x.length + 1) ((x.map fun i => .string (K.getD i en0).nm) ++ [.string (K.getD i en0).nm]) → (v'.ownBlock = (Value.slice adn x.length capn).ownBlock ∨ v'.ownBlock = some u.heap.size) → w6.heap[W0.heap.size + 3]? = some (.cells #[.slice adn x.length capn] 32) ∧ WtPost W0 p K lc d fe ft lk (x ++ [i]) W (.returned (.tuple #[])) (w6.setCell ⟨W0.heap.size + 3, 0, none⟩ v')) := hideR (by
    intro v' w6 u hg hkp hbu hsu hIu hbx hru hr6 hloc
    have key : ∀ (b : Nat) (o : Obj), u.heap[b]? = some o → (∀ cs, o ≠ .cells cs 9) → w6.heap[b]? = some o := fun b o hb hne => (hg.block b (ltB hb) (fun e => by
      obtain ⟨_, cur, hh⟩ := row_block hru e.symm
      exact hne cur (by have := hb.symm.trans hh; simpa using this))).trans hb
    have keyS : ∀ (b : Nat) (o : Obj), b ≠ W0.heap.size + 3 → w6.heap[b]? = some o → (w6.setCell ⟨W0.heap.size + 3, 0, none⟩ v').heap[b]? = some o := fun b o hb ho => (Below.heap_setCell _ _ _ _ hb).trans ho
    have hb6 := key _ _ hbx (fun cs e => by injection e with _ e; exact absurd e (by decide))
    have hnb : v'.ownBlock ≠ some (W0.heap.size + 3) := fun e => by
      obtain ⟨_, cur, hh⟩ := row_block hr6 e
      have := hb6.symm.trans hh
      simp at this
    have hs6 := hIu.s
    refine ⟨hb6, rfl, ⟨?_, ?_, ⟨v', Boxed.set v' hb6, ?_, ?_⟩, ?_⟩, ?_, ?_, fun k cs hk => ?_⟩
    · exact keyS _ _ (by omega) (key _ _ hIu.a (fun cs e => by injection e with _ e; exact absurd e (by decide)))
    · exact keyS _ _ (by omega) (key _ _ hIu.l (fun cs e => by injection e with _ e; exact absurd e (by decide)))
    · rw [List.length_append, List.map_append]
      exact row_keep hr6 (fun k hk => Below.heap_setCell _ _ _ _ (fun e => hnb (by rw [hk]; exact congrArg some e)))
    · rcases hloc with e | e
      · rw [e]
        intro e2
        obtain ⟨_, cur, hh⟩ := row_block hru e2
        have := hsu.symm.trans hh
        simp at this
      · rw [e]
        intro e2
        injection e2 with e2
        omega
    · have := hg.size
      show _ < (w6.heap.modify _ _).size
      rw [Array.size_modify]
      omega
    · exact (hbu.grown hg hbu.size (fun k e => (hru.lt k e).1)).setCell (p := ⟨W0.heap.size + 3, 0, none⟩) (by show _ ≤ _ + 3; omega) _
    · exact keyS _ _ (by omega) (key _ _ hsu (fun cs e => by injection e with _ e; exact absurd e (by decide)))
    · have hk1 := hkp k cs hk
      refine keyS _ _ (fun e => ?_) (key _ _ hk1 (fun cs e => by injection e with _ e; exact absurd e (by decide)))
      subst e
      have := hk1.symm.trans hbx
      simp at this)
  generalize WtPost W0 p K lc d fe ft lk (x ++ [i]) W = WP at *
  obtain ⟨N, hN⟩ : ∃ N, W0.heap.size = N := ⟨_, rfl⟩
  have HN := hideR hN
  have hNW : N ≤ W.heap.size := by rw [← hN]; exact hB.size
  rw [hN] at Hr Hb3 Hs HP ⊢
  have Ha := hideR (unhideR HI).a
  rw [hN] at Ha
  clear h1 h2 h3 h hI hB hs hSt hbb hN
  obtain ⟨nm, hnm2⟩ : ∃ nm, (K.getD i en0).nm = nm := ⟨_, rfl⟩
  rw [hnm2] at hnm HP
  have HY : HeldR (∀ v, Below (W.alloc (.cells #[.int .i64 c.sg, .int .u64 (ohV c), .int .u64 (olV c), .int .i64 c.un] 76)).heap.size (W.alloc (.cells #[.int .i64 c.sg, .int .u64 (ohV c), .int .u64 (olV c), .int .i64 c.un] 76)) v → v.heap[N + 3]? = some (.cells #[.slice adn x.length capn] 32) ∧ v.heap[N]? = some (.cells #[.pointer (some ⟨p, 0, none⟩)] 28) ∧ v.heap[p]? = some (.cells #[.int .i64 lv, .slice (some ⟨b2, 0, none⟩) nK cap, .map (some bn), .map (some bc), .int .i64 sn] 82) ∧ v.cell? ⟨b2, i * 4, none⟩ = some (.string nm)) := hideR (fun v hv => by
    have h0 := (unhideR HB0).trans (hv.mono (unhideR HB0).size)
    refine ⟨keepB (unhideR Hb3) hv, keepB (unhideR Ha) hv, keepB hp2 h0, ?_⟩
    refine (World.cell?_of_block (a := ⟨b2, i * 4, none⟩) (h0.block b2 ?_)).trans hnm
    have := hbl2
    have := unhideR HN
    omega)
  have HPu : HeldR (∀ v, Below (W.alloc (.cells #[.int .i64 c.sg, .int .u64 (ohV c), .int .u64 (olV c), .int .i64 c.un] 76)).heap.size (W.alloc (.cells #[.int .i64 c.sg, .int .u64 (ohV c), .int .u64 (olV c), .int .i64 c.un] 76)) v → KeepP W v ∧ Below N W0 v ∧ v.heap[N + 4]? = some (.cells #[.pointer (some ⟨p, 0, none⟩), .int .i64 d.x, .int .i64 d.y, .int .i64 d.z, fe, ft, .int .i64 lk] 111) ∧ WiInv W0 p K lc x v ∧ Boxed v (N + 3) 32 (.slice adn x.length capn) ∧ v.ownsRow N 9 1 (.slice adn x.length capn) x.length (x.map fun i => .string (K.getD i en0).nm)) := hideR (fun v hv => ⟨KeepP.of_below ((unhideR HB0).trans (hv.mono (unhideR HB0).size)), (by have := (unhideR HBW).trans (hv.mono (unhideR HBW).size); rwa [unhideR HN] at this), keepB (unhideR Hs) hv, WiInv.stab (unhideR HI) (oth_of_below hv), keepB (unhideR Hb3) hv, own_belowC (unhideR Hr) hv⟩)
  have hsz1 : N + 1 ≤ (W.alloc (.cells #[.int .i64 c.sg, .int .u64 (ohV c), .int .u64 (olV c), .int .i64 c.un] 76)).heap.size := by simp; omega
  clear hp2 hnm HB0 HI Hr Hb3 Hs HBW Ha hnm2 hbl2
  go_enter Tryz.func56, Tryz.ntmps56
  go_upto_region 1 with fail
  generalize W.alloc (.cells #[.int .i64 c.sg, .int .u64 (ohV c), .int .u64 (olV c), .int .i64 c.un] 76) = u0 at *
  refine wp_region_made 1 #[true, true, true, true, true, true, true, true, true, true, false, false] [.lets (· = .slice adn x.length capn),
    .lets (· = .pointer (some ⟨p, 0, none⟩)),
    .lets (· = .pointer (some ⟨p, 0, none⟩)),
    .lets (· = .pointer (some ⟨p, 1, none⟩)),
    .lets (· = .slice (some ⟨b2, 0, none⟩) nK cap),
    .lets (· = .int .i64 (i : Nat)),
    .lets (· = .pointer (some ⟨b2, i * 4, none⟩)),
    .lets (· = .pointer (some ⟨b2, i * 4, none⟩)),
    .lets (· = .string nm),
    .made Sl1S (OneN nm)] [9] [] (by kernel_rfl) (by kernel_rfl) rfl ?kinds (by kernel_rfl) (by kernel_rfl) (by kernel_rfl) ?_
  case kinds =>
    constructor
    · intro i h
      rcases i with _ | _ | _ | _ | _ | _ | _ | _ | _ | _ | i <;> simp [Kx.isMade] at h ⊢
    · intro i h
      rcases i with _ | _ | _ | _ | _ | _ | _ | _ | _ | _ | i <;> simp [Kx.isUse] at h
  refine lexX_step (fun K hK => ⟨by kernel_rfl, ⟨_, rfl⟩, fun v hv => ?_, fun v hv => ?_⟩)
  · have y9 := (unhideR HY v hv).1
    have y0 := (cells_at y9 0 (by simp)).1
    go_simp
    exact mUpon_b
  subst hv
  go_simp
  refine hK _ ?_
  clear hK K
  refine lexX_step (fun K hK => ⟨by kernel_rfl, ⟨_, rfl⟩, fun v hv => ?_, fun v hv => ?_⟩)
  · have y9 := (unhideR HY v hv).2.1
    have y0 := (cells_at y9 0 (by simp)).1
    go_simp
    exact mUpon_b
  subst hv
  go_simp
  refine hK _ ?_
  clear hK K
  refine lexX_step (fun K hK => ⟨by kernel_rfl, ⟨_, rfl⟩, fun v hv => ?_, fun v hv => ?_⟩)
  · go_simp
    exact mUpon_b
  subst hv
  go_simp
  refine hK _ ?_
  clear hK K
  refine lexX_step (fun K hK => ⟨by kernel_rfl, ⟨_, rfl⟩, fun v hv => ?_, fun v hv => ?_⟩)
  · go_simp
    exact mUpon_b
  subst hv
  go_simp
  refine hK _ ?_
  clear hK K
  refine lexX_step (fun K hK => ⟨by kernel_rfl, ⟨_, rfl⟩, fun v hv => ?_, fun v hv => ?_⟩)
  · have y9 := (unhideR HY v hv).2.2.1
    have y0 := (cells_at y9 1 (by simp)).1
    go_simp
    exact mUpon_b
  subst hv
  go_simp
  refine hK _ ?_
  clear hK K
  refine lexX_step (fun K hK => ⟨by kernel_rfl, ⟨_, rfl⟩, fun v hv => ?_, fun v hv => ?_⟩)
  · go_simp
    exact mUpon_b
  subst hv
  go_simp
  refine hK _ ?_
  clear hK K
  refine lexX_step (fun K hK => ⟨by kernel_rfl, ⟨_, rfl⟩, fun v hv => ?_, fun v hv => ?_⟩)
  · go_simp
    exact mUpon_b
  subst hv
  go_simp
  refine hK _ ?_
  clear hK K
  refine lexX_step (fun K hK => ⟨by kernel_rfl, ⟨_, rfl⟩, fun v hv => ?_, fun v hv => ?_⟩)
  · go_simp
    exact mUpon_b
  subst hv
  go_simp
  refine hK _ ?_
  clear hK K
  refine lexX_step (fun K hK => ⟨by kernel_rfl, ⟨_, rfl⟩, fun v hv => ?_, fun v hv => ?_⟩)
  · have y9 := (unhideR HY v hv).2.2.2
    go_simp
    exact mUpon_b
  subst hv
  go_simp
  refine hK _ ?_
  clear hK K
  refine lexX_made ⟨by kernel_rfl, ⟨_, 0, rfl⟩, oneN_stb _, fun v hv => ?_, ?_⟩
  · go_simp
    exact ⟨below_a v _, ⟨_, rfl⟩, fun q' hq' => by cases hq'; exact alloc_last v _⟩
  rintro _ ⟨u9, rfl⟩ K9 hK
  go_simp
  refine hK _ ?_
  clear hK K9
  refine lexX_end (fun v5 hv => ?_)
  have ho9 := hv.fact.2 _ rfl
  obtain ⟨p1, p2, p3, p4, p5, p6⟩ := unhideR HPu v5 hv.low
  have hsz5 : N + 1 ≤ v5.heap.size := Nat.le_trans hsz1 hv.low.size
  clear hv HY HPu
  refine wpAny_step (i := 10) (by kernel_rfl) rfl (by kernel_rfl) (fun K9 hK => ?_)
  refine wp_append_at _ _ 32 rfl N 9 i0 (.string ByteArray.empty) 1 16 Tryz.underlying32 hi0 hz0 hz1 hz2 rfl (by decide) _ x.length _ rfl p6 ⟨u9, 0, none⟩ 1 1 [.string nm] rfl rfl ?q1 ?q2 ?q3 ?q4 ?q5 ?_
  case q1 =>
    intro j u hu
    rw [add_plS, Nat.zero_add]
    rcases j with _ | j
    · rw [← hu]; exact (cells_at ho9 0 (by simp)).1
    · simp at hu
  case q2 => intro u hu; simp at hu; subst hu; rfl
  case q3 => unfold maxLen; omega
  case q4 => omega
  case q5 => omega
  intro v6 w6 hown hgrow hloc
  obtain ⟨hb6, hq6⟩ := unhideR HP v6 w6 v5 hgrow p1 p2 p3 p4 p5 p6 hown hloc
  obtain ⟨g6, cap6, rfl⟩ := ownsRow_succ hown
  have HQ := hideR hq6
  have d0 := (cells_at hb6 0 (by simp)).1
  have f0 := (cells_at hb6 0 (by simp)).2
  clear hown hgrow hloc p1 p2 p3 p4 p5 p6 HP hq6 hb6 ho9
  go_simp
  refine hK _ _ ?_
  clear hK K9
  refine wpAny_step (i := 11) (by kernel_rfl) rfl (by kernel_rfl) (fun K hK => ?_)
  unfold Oper.wp
  go_simp
  refine hK _ _ ?_
  clear hK K
  refine wpAny_end (by kernel_rfl) ?_
  go_wp2
  simp [bodyPost, results, Tryz.results56, go_sem]
  exact unhideR HQ
end Go.Proofs.YtfonpobdnhifgamGreatDoor
namespace Go.Proofs.YtfonpobdnhifgamGreatDoor
open Go Go.RowKit

def enW (lc : Co) (_ : List Nat) (c : Co) : Bool := decide (0 ≤ coCmp c lc)
def tkW (x : List Nat) (i : Nat) : List Nat := x ++ [i]
theorem entersW1 : ∀ args w, (callFunc 55 args).run Tryz.prog w = .ok (.enter 55 args) w := enters_of Tryz.func55 (by kernel_rfl) rfl
theorem entersW2 : ∀ args w, (callFunc 56 args).run Tryz.prog w = .ok (.enter 56 args) w := enters_of Tryz.func56 (by kernel_rfl) rfl
theorem sea_within {W0 : World} {p : Nat} {lv : Int} {K : List En} {ad : Option Addr} {cap bn bc : Nat} {es : Array MapEntry} {clock : Nat} {sn : Int} (h : RO W0 p lv K ad cap bn bc es clock sn) (hKl : K.length ≤ 4000) (d : Dr) {lc : Co} (hlc : lc.Gd) :
    SeaOk W0 p (W0.heap.size + 4) K d 55 56 #[.pointer (some ⟨W0.heap.size + 2, 0, none⟩)] #[.pointer (some ⟨W0.heap.size + 3, 0, none⟩), .pointer (some ⟨W0.heap.size, 0, none⟩)] (enW lc) tkW (WiInv W0 p K lc) List.length where
  szk := fun x i => by
    show (x ++ [i]).length ≤ _
    rw [List.length_append]
    exact Nat.le_refl _
  egE := entersW1
  egT := entersW2
  stab := fun hI o => hI.stab o
  enough := fun c hI hc _ => pwenough_any hI.l hlc.sm c hc.sm
  take := fun i hI hsz hi _ hB hs => pwtake_any h hKl hI hsz hi _ hB hs
theorem mo_within {K : List En} {d : Dr} {lc : Co} (hlc : lc.Gd) : SeaMo K d (enW lc) tkW where
  mono := fun _ _ _ _ _ _ h => h
  anti := fun _ c c' hc hc' hle h => by
    have h1 := (coCmp_nn hc.ok hlc.ok).1 (of_decide_eq_true h)
    exact decide_eq_true ((coCmp_nn hc'.ok hlc.ok).2 (h1.trans hle hlc.ok hc.ok hc'.ok))
theorem capN_12 : ∀ {r : Nat}, r ≤ 12 → capN r ≤ 8000000000000 := by
  intro r hr
  have : r = 0 ∨ r = 1 ∨ r = 2 ∨ r = 3 ∨ r = 4 ∨ r = 5 ∨ r = 6 ∨ r = 7 ∨ r = 8 ∨ r = 9 ∨ r = 10 ∨ r = 11 ∨ r = 12 := by omega
  rcases this with rfl | rfl | rfl | rfl | rfl | rfl | rfl | rfl | rfl | rfl | rfl | rfl | rfl <;> decide
theorem five_alloc (w : World) (o1 o2 o3 o4 o5 : Obj) : (((((w.alloc o1).alloc o2).alloc o3).alloc o4).alloc o5).heap[w.heap.size]? = some o1 ∧ (((((w.alloc o1).alloc o2).alloc o3).alloc o4).alloc o5).heap[w.heap.size + 1]? = some o2 ∧ (((((w.alloc o1).alloc o2).alloc o3).alloc o4).alloc o5).heap[w.heap.size + 2]? = some o3 ∧ (((((w.alloc o1).alloc o2).alloc o3).alloc o4).alloc o5).heap[w.heap.size + 3]? = some o4 ∧ (((((w.alloc o1).alloc o2).alloc o3).alloc o4).alloc o5).heap[w.heap.size + 4]? = some o5 ∧ Below w.heap.size w (((((w.alloc o1).alloc o2).alloc o3).alloc o4).alloc o5) := by
  obtain ⟨z1, z2, hb⟩ := two_allocW w o1 o2
  have z3 := alloc_last ((w.alloc o1).alloc o2) o3
  have z4 := alloc_last (((w.alloc o1).alloc o2).alloc o3) o4
  have z5 := alloc_last ((((w.alloc o1).alloc o2).alloc o3).alloc o4) o5
  simp only [World.size_alloc] at z3 z4 z5
  have b3 := hb.alloc hb.size o3
  have b4 := b3.alloc b3.size o4
  exact ⟨keepA (keepA (keepA z1)), keepA (keepA (keepA z2)), keepA (keepA z3), keepA z4, z5, b4.alloc b4.size o5⟩
def WnPost (lv : Int) (K : List En) (d : Dr) (lc : Co) (w : World) (r : Ending) (w' : World) : Prop := (∃ v lk x, r = .returned (.tuple #[v, .int .i64 lk]) ∧ w'.ownsRow w.heap.size 9 1 v x.length (x.map fun i => .string (K.getD i en0).nm) ∧ Cv lv K d (enW lc) tkW (facL 6) [] x) ∧ Below w.heap.size w w'
set_option maxRecDepth 1000000 in
set_option maxHeartbeats 6400000 in
theorem pwithin_all {w : World} {p : Nat} {lv : Int} {K : List En} {ad : Option Addr} {cap bn bc : Nat} {es : Array MapEntry} {clock : Nat} {sn : Int} (h : RO w p lv K ad cap bn bc es clock sn) (hKl : K.length ≤ 200) {d : Dr} (hd : dirB d = true) {lc : Co} (hlc : lc.Gd) :
    Calls Tryz.prog 29 #[.pointer (some ⟨p, 0, none⟩), d.val, coV lc] w (WnPost lv K d lc w) := by
  have H := sea_within h (by omega) d hlc
  have hl := h.lvl
  obtain ⟨r, hr⟩ : ∃ r : Nat, (0 : Nat) + (r : Int) = lv := ⟨lv.toNat, by omega⟩
  have hth := fun {bq capq : Nat} {W : World} h1 h2 h3 => pthru_any h hd H (mo_within hlc) (show w.heap.size ≤ w.heap.size + 4 by omega) hKl r 0 hr (bq := bq) (capq := capq) (C := facL 6) (W := W) (Wb := W) (x := []) fac_v (fac_nodup 6) (by rw [facL_len]; omega) h1 h2 h3 (by rw [show ([] : List Nat).length = 0 from rfl, Nat.zero_add]; exact capN_12 (by omega))
  simp only [facL_len 6] at hth
  have hfa := fun u => pfaces_any u
  have HP : HeldR (∀ v lk x w', w'.ownsRow w.heap.size 9 1 v x.length (x.map fun i => .string (K.getD i en0).nm) → Cv lv K d (enW lc) tkW (facL 6) [] x → Below w.heap.size w w' → WnPost lv K d lc w (.returned (.tuple #[v, .int .i64 lk])) w') := hideR (fun v lk x w' h1 h2 h3 => ⟨⟨v, lk, x, rfl, h1, h2⟩, h3⟩)
  generalize WnPost lv K d lc w = WP at *
  rw [coV_is]
  unfold Dr.val
  have HH := hideR H
  have Hth : HeldR (∀ (bq capq : Nat) (W : World), bq < W.heap.size → (∀ k, k < 6 → QAt W bq (k * 4) ((facL 6).getD k sq0)) → SeaSt w p (w.heap.size + 4) d 55 56 #[.pointer (some ⟨w.heap.size + 2, 0, none⟩)] #[.pointer (some ⟨w.heap.size + 3, 0, none⟩), .pointer (some ⟨w.heap.size, 0, none⟩)] (WiInv w p K lc) W [] W → Calls Tryz.prog 57 #[.pointer (some ⟨w.heap.size + 4, 0, none⟩), .slice (some ⟨bq, 0, none⟩) 6 capq] W (ThPost w p (w.heap.size + 4) lv K d 55 56 #[.pointer (some ⟨w.heap.size + 2, 0, none⟩)] #[.pointer (some ⟨w.heap.size + 3, 0, none⟩), .pointer (some ⟨w.heap.size, 0, none⟩)] (enW lc) tkW (WiInv w p K lc) List.length (capN r) W (facL 6) [])) := hideR (fun bq capq W h1 h2 h3 => hth h1 h2 h3)
  have hn1 := fun (u : World) (a : Addr) => run_store Tryz.prog u a .nilFunc .plain rfl
  have hn2 := fun (u : World) (a : Addr) (f : Fn) (x y : Array Value) => run_store Tryz.prog u a (.func f x y) .plain rfl
  clear hth H h hl hr
  have HS0 : HeldR (∀ u1, Below (((((w.alloc (.cells #[.pointer (some ⟨p, 0, none⟩)] 28)).alloc (.cells #[.int .i64 d.x, .int .i64 d.y, .int .i64 d.z] 24)).alloc (.cells #[.int .i64 lc.sg, .int .u64 (ohV lc), .int .u64 (olV lc), .int .i64 lc.un] 76)).alloc (.cells #[.slice none 0 0] 32)).alloc (.cells #[.pointer (some ⟨p, 0, none⟩), .int .i64 d.x, .int .i64 d.y, .int .i64 d.z, .func (.func 55) #[] #[.pointer (some ⟨w.heap.size + 1 + 1, 0, none⟩)], .func (.func 56) #[] #[.pointer (some ⟨w.heap.size + 1 + 1 + 1, 0, none⟩), .pointer (some ⟨w.heap.size, 0, none⟩)], .int .i64 0] 111)).heap.size (((((w.alloc (.cells #[.pointer (some ⟨p, 0, none⟩)] 28)).alloc (.cells #[.int .i64 d.x, .int .i64 d.y, .int .i64 d.z] 24)).alloc (.cells #[.int .i64 lc.sg, .int .u64 (ohV lc), .int .u64 (olV lc), .int .i64 lc.un] 76)).alloc (.cells #[.slice none 0 0] 32)).alloc (.cells #[.pointer (some ⟨p, 0, none⟩), .int .i64 d.x, .int .i64 d.y, .int .i64 d.z, .func (.func 55) #[] #[.pointer (some ⟨w.heap.size + 1 + 1, 0, none⟩)], .func (.func 56) #[] #[.pointer (some ⟨w.heap.size + 1 + 1 + 1, 0, none⟩), .pointer (some ⟨w.heap.size, 0, none⟩)], .int .i64 0] 111)) u1 → SeaSt w p (w.heap.size + 4) d 55 56 #[.pointer (some ⟨w.heap.size + 2, 0, none⟩)] #[.pointer (some ⟨w.heap.size + 3, 0, none⟩), .pointer (some ⟨w.heap.size, 0, none⟩)] (WiInv w p K lc) u1 [] u1) := hideR (fun u1 k1 => by
    obtain ⟨z1, z2, z3, z4, z5, hb⟩ := five_alloc w (.cells #[.pointer (some ⟨p, 0, none⟩)] 28) (.cells #[.int .i64 d.x, .int .i64 d.y, .int .i64 d.z] 24) (.cells #[.int .i64 lc.sg, .int .u64 (ohV lc), .int .u64 (olV lc), .int .i64 lc.un] 76) (.cells #[.slice none 0 0] 32) (.cells #[.pointer (some ⟨p, 0, none⟩), .int .i64 d.x, .int .i64 d.y, .int .i64 d.z, .func (.func 55) #[] #[.pointer (some ⟨w.heap.size + 1 + 1, 0, none⟩)], .func (.func 56) #[] #[.pointer (some ⟨w.heap.size + 1 + 1 + 1, 0, none⟩), .pointer (some ⟨w.heap.size, 0, none⟩)], .int .i64 0] 111)
    have hsz : w.heap.size + 4 < u1.heap.size := Nat.lt_of_lt_of_le (ltB z5) k1.size
    exact ⟨⟨keepB z1 k1, keepB z3 k1, ⟨_, keepB z4 k1, World.ownsRow_nil _ _ _ _, (fun e => nomatch e)⟩, hsz⟩, hb.trans (k1.mono hb.size), ⟨0, keepB z5 k1⟩, KeepP.refl _⟩)
  go_enter Tryz.func29, Tryz.ntmps29
  go_upto_region 4 with fail
  clear hn1 hn2
  generalize (((((w.alloc (.cells #[.pointer (some ⟨p, 0, none⟩)] 28)).alloc (.cells #[.int .i64 d.x, .int .i64 d.y, .int .i64 d.z] 24)).alloc (.cells #[.int .i64 lc.sg, .int .u64 (ohV lc), .int .u64 (olV lc), .int .i64 lc.un] 76)).alloc (.cells #[.slice none 0 0] 32)).alloc (.cells #[.pointer (some ⟨p, 0, none⟩), .int .i64 d.x, .int .i64 d.y, .int .i64 d.z, .func (.func 55) #[] #[.pointer (some ⟨w.heap.size + 1 + 1, 0, none⟩)], .func (.func 56) #[] #[.pointer (some ⟨w.heap.size + 1 + 1 + 1, 0, none⟩), .pointer (some ⟨w.heap.size, 0, none⟩)], .int .i64 0] 111)) = u0 at *
  obtain ⟨N, hN⟩ : ∃ N, w.heap.size = N := ⟨_, rfl⟩
  have HNw := hideR hN
  rw [hN] at Hth HS0 HP ⊢
  clear hN
  go_wp2_with fail
  refine (hfa _).mono ?_
  rintro r0 u1 ⟨⟨vq, rfl, hqr⟩, k1⟩
  obtain ⟨adq, cq, eq, _, hqa⟩ := hqr.at
  rw [facL_len 6] at eq hqa
  obtain ⟨b9, hb9, _, hlt9, _⟩ := hqa 0 (by omega)
  subst hb9
  have hcr := unhideR Hth b9 cq u1 hlt9 (fun j hj => by
    obtain ⟨b', e', _, _, h'⟩ := hqa j hj
    cases e'
    exact h') (unhideR HS0 u1 k1)
  subst eq
  clear hqr k1 hqa Hth HS0 hfa
  go_wp2_with fail
  refine hcr.mono ?_
  rintro r1 u2 ⟨rfl, y, hS, hCv, _⟩
  obtain ⟨lk2, hsb⟩ := hS.sb
  obtain ⟨v, h1, h2, h3⟩ := hS.inv.r
  obtain ⟨adn, capn, ev⟩ : ∃ adn capn, v = .slice adn y.length capn := by
    rcases h2.2 with ⟨e, e0⟩ | ⟨g, cap, cur, e, _⟩
    · exact ⟨none, 0, by rw [e, e0]⟩
    · exact ⟨_, _, e⟩
  subst ev
  have HY : HeldR (∀ v, Below u2.heap.size u2 v → v.heap[N + 4]? = some (.cells #[.pointer (some ⟨p, 0, none⟩), .int .i64 d.x, .int .i64 d.y, .int .i64 d.z, .func (.func 55) #[] #[.pointer (some ⟨N + 2, 0, none⟩)], .func (.func 56) #[] #[.pointer (some ⟨N + 3, 0, none⟩), .pointer (some ⟨N, 0, none⟩)], .int .i64 lk2] 111) ∧ v.heap[N + 3]? = some (.cells #[.slice adn y.length capn] 32)) := hideR (fun v hv => ⟨keepB hsb hv, by have := keepB h1 hv; rwa [unhideR HNw] at this⟩)
  have HE : HeldR (∀ v, Below u2.heap.size u2 v → WP (.returned (.tuple #[.slice adn y.length capn, .int .i64 lk2])) (v.setCell ⟨N + 3, 0, none⟩ (.slice adn y.length capn))) := hideR (fun v hv => by
    have hlow := hS.low.trans (hv.mono hS.low.size)
    rw [unhideR HNw] at hlow
    refine unhideR HP _ lk2 y _ ?_ hCv (hlow.setCell (p := ⟨N + 3, 0, none⟩) (by show N ≤ N + 3; omega) _)
    have hrv := own_belowC h2 hv
    rw [unhideR HNw] at hrv
    refine row_keep hrv (fun k hk => Below.heap_setCell _ _ _ _ (fun e => ?_))
    obtain ⟨_, cur, hh⟩ := row_block hrv hk
    have := ((unhideR HY v hv).2.symm.trans (e ▸ hh : v.heap[N + 3]? = _))
    simp at this)
  clear hcr hS hCv hsb h1 h2 h3 HP
  clear HNw HH
  go_upto_region 5 with fail
  have y9 := (unhideR HY u2 (Below.refl _ _)).2
  have y8 := (unhideR HY u2 (Below.refl _ _)).1
  have d0 := (cells_at y9 0 (by simp)).1
  have f0 := (cells_at y9 0 (by simp)).2
  have d1 := (cells_at y8 6 (by simp)).1
  have HQ := hideR (unhideR HE u2.drew (drewF (Below.refl _ _)))
  have o : (u2.setCell ⟨N + 1 + 1 + 1, 0, none⟩ (.slice adn y.length capn)).heap[N + 1 + 1 + 1]? = some (.cells #[.slice adn y.length capn] 32) := heap_setCell_same _ _ _ _ _ _ y9
  have o0 := (cells_at o 0 (by simp)).1
  clear HE HY y9 y8 o
  go_region
  go_wp2
  simp [bodyPost, results, Tryz.results29, go_sem, o0]
  exact unhideR HQ
end Go.Proofs.YtfonpobdnhifgamGreatDoor
