/-
  The counts in a circle and in a ring around a star: the program's, by contract.
-/
import Derived.Test.YtmgnobeaacjdjajDoorLtRd0
import Derived.Test.YtmgnobeaacjdjajDoorFarC
import Derived.Test.YtmgnobeaacjdjajDoorDT0a
import Derived.Test.YtmgnobeaacjdjajDoorFrA
namespace Go.Proofs.YtmgnobeaacjdjajDoor
open Go Go.RowKit

theorem below_two' (w : World) (A B : Obj) : Below w.heap.size w ((w.alloc A).alloc B) := ((Below.refl w.heap.size w).alloc (Nat.le_refl _) A).alloc (by simp) B
theorem own_base' {w : World} {A B n s : Nat} {e : TypeId} {v : Value} {xs : List Value} (h : w.ownsRow B e s v n xs) (hb : A ≤ B) : w.ownsRow A e s v n xs := by
  rcases h with ⟨h1, h | ⟨g, cap, cur, h2, h3, h4⟩⟩
  · exact ⟨h1, .inl h⟩
  · exact ⟨h1, .inr ⟨g, cap, cur, h2, Nat.le_trans hb h3, h4⟩⟩
theorem one_new {w : World} {g : Nat} {x : Int} {ty : TypeId} (h : w.heap[g]? = some (.cells #[.int .i64 x] ty)) : ∀ k u, ([.int .i64 x] : List Value)[k]? = some u → w.cell? ((⟨g, 0, none⟩ : Addr).add k) = some u := by
  intro k u hu
  have hk : k < 1 := (List.getElem?_eq_some_iff.1 hu).1
  obtain rfl : k = 0 := by omega
  have := (cells_at h 0 (by simp)).1
  rw [add_pl2, Nat.zero_add, this]
  exact hu
def PtPost (p : Pic) (s : Sta) (a b : Int) (w : World) (e : Ending) (w' : World) : Prop := ∃ dv rv, e = .returned (.tuple #[dv, rv]) ∧ IOwn w' w.heap.size dv (discL p.L s p.wide.toNat a (p.high.toNat * p.wide.toNat)) ∧ IOwn w' w.heap.size rv (ringL p.L s p.wide.toNat a b (p.high.toNat * p.wide.toNat)) ∧ Apart2 dv rv ∧ Below w.heap.size w w'
set_option maxRecDepth 100000 in
set_option maxHeartbeats 6400000 in
theorem parted_any {w : World} {v : Value} {p : Pic} (hv : PicC w v p) (hok : PicOk p) (s : Sta) (i o : Int) (hi : 1 ≤ i) (ho : i < o) (ho2 : o ≤ 1048576) (hf1 : farB s.x = false) (hf2 : farB s.y = false) :
    Calls Tryd.prog 28 #[v, .agg #[.int .i64 s.x, .int .i64 s.y, .int .i64 s.lt], .int .i64 i, .int .i64 o] w (PtPost p s (i * i) (o * o) w) := by
  obtain ⟨i0, hi0, hz0, hz1, hz2⟩ := info_parts infoI
  have w1' := hok.w1
  have w2' := hok.w2
  have h1' := hok.h1
  have h2' := hok.h2
  have hpx := hok.len
  obtain ⟨Wi, Hi, Lp⟩ := p
  unfold PtPost
  simp only at *
  obtain ⟨W, rfl⟩ : ∃ W : Nat, Wi = (W : Nat) := ⟨Wi.toNat, by omega⟩
  obtain ⟨H, rfl⟩ : ∃ H : Nat, Hi = (H : Nat) := ⟨Hi.toNat, by omega⟩
  rw [Int.toNat_natCast, Int.toNat_natCast]
  have hLn : Lp.length = H * W := by
    rw [← Int.natCast_mul] at hpx
    have := Int.ofNat.inj hpx
    rw [this, Nat.mul_comm]
  have hfew : Lp.length ≤ 65536 := hok.few
  obtain ⟨ad, cap, rfl, hr, hl, hcc, hcb⟩ := hv
  simp only at *
  have hH : 0 < H * W := Nat.mul_pos (by omega) (by omega)
  obtain ⟨bl, ol, rfl, hbl, _⟩ := hr.at_ 0 (by rw [hLn]; exact hH)
  obtain ⟨aa, haa⟩ : ∃ aa, i * i = aa := ⟨_, rfl⟩
  obtain ⟨bb, hbb⟩ : ∃ bb, o * o = bb := ⟨_, rfl⟩
  have sqA := sq_in (a := i) (by omega) (by omega)
  have sqB := sq_in (a := o) (by omega) (by omega)
  have wa : IntKind.i64.wrap (i * i) = aa := by rw [← haa]; exact iwrap (by omega) (by omega)
  have wb : IntKind.i64.wrap (o * o) = bb := by rw [← hbb]; exact iwrap (by omega) (by omega)
  rw [haa, hbb]
  have HXY : HeldR (∀ k, k < H * W → k % W ≤ 1000 ∧ k / W ≤ 1000) := hideR (fun k hk => by
    have e1 : k % W < W := Nat.mod_lt _ (by omega)
    have e2 : k / W < H := Nat.div_lt_of_lt_mul (by rw [Nat.mul_comm]; exact hk)
    omega)
  obtain ⟨N, hN⟩ : ∃ N, H * W = N := ⟨_, rfl⟩
  rw [hN] at hLn hH HXY
  rw [hN, hLn]
  rw [hLn] at hfew
  have HLn := hideR hLn
  have hg0 := keepA (o' := .cells #[.int .i64 s.x, .int .i64 s.y, .int .i64 s.lt] 35) (alloc_last w (.cells #[.int .i64 (W : Nat), .int .i64 (H : Nat), .slice (some ⟨bl, ol, none⟩) N cap] 28))
  have hg1 : ((w.alloc (.cells #[.int .i64 (W : Nat), .int .i64 (H : Nat), .slice (some ⟨bl, ol, none⟩) N cap] 28)).alloc (.cells #[.int .i64 s.x, .int .i64 s.y, .int .i64 s.lt] 35)).heap[w.heap.size + 1]? = some (.cells #[.int .i64 s.x, .int .i64 s.y, .int .i64 s.lt] 35) := by
    have := alloc_last (w.alloc (.cells #[.int .i64 (W : Nat), .int .i64 (H : Nat), .slice (some ⟨bl, ol, none⟩) N cap] 28)) (.cells #[.int .i64 s.x, .int .i64 s.y, .int .i64 s.lt] 35)
    simpa using this
  have HW := hideR (below_two' w (.cells #[.int .i64 (W : Nat), .int .i64 (H : Nat), .slice (some ⟨bl, ol, none⟩) N cap] 28) (.cells #[.int .i64 s.x, .int .i64 s.y, .int .i64 s.lt] 35))
  have HGp0 := hideR hg0
  have HGs0 := hideR hg1
  have HRow0 := hideR (hr.below (unhideR HW))
  have hW0 : (W : Int) ≠ 0 := by omega
  have hW0n : W ≠ 0 := by omega
  clear hg0 hg1 hr hl hcc hcb haa hbb hok hpx hbl hLn hN
  obtain ⟨c0, c1, c2⟩ := pic_three (unhideR HGp0)
  go_enter Tryd.func28, Tryd.ntmps28
  go_upto_region 1 with fail
  obtain ⟨K, hK⟩ : ∃ K, w.heap.size = K := ⟨_, rfl⟩
  have HKw := hideR hK
  rw [hK] at HGp0 HGs0 c0 c1 c2 ⊢
  generalize (w.alloc (.cells #[.int .i64 (W : Nat), .int .i64 (H : Nat), .slice (some ⟨bl, ol, none⟩) N cap] 28)).alloc (.cells #[.int .i64 s.x, .int .i64 s.y, .int .i64 s.lt] 35) = W1 at *
  have HGp : HeldR (W1.heap[K]? = some (.cells #[.int .i64 (W : Nat), .int .i64 (H : Nat), .slice (some ⟨bl, ol, none⟩) N cap] 28)) := HGp0
  have HGs : HeldR (W1.heap[K + 1]? = some (.cells #[.int .i64 s.x, .int .i64 s.y, .int .i64 s.lt] 35)) := HGs0
  have HRow : HeldR (∀ u, Below W1.heap.size W1 u → ∀ k, k < N → u.cell? ⟨bl, ol + k, none⟩ = some (.int .i64 (Lp.getD k 0))) := hideR (fun u k j hj => by
    obtain ⟨b9, o9, e9, _, x9⟩ := ((unhideR HRow0).below k).at_ j (by rw [unhideR HLn]; exact hj)
    injection e9 with e9
    injection e9 with e1 e2
    subst e1
    subst e2
    exact x9)
  have hKs : K + 1 < W1.heap.size := ltB (unhideR HGs)
  have HKle : HeldR (w.heap.size ≤ W1.heap.size) := hideR (unhideR HW).size
  clear hK HRow0 HGp0 HGs0
  go_wp2
  clear c0 c1 c2
  go_loopw [8, 9, 16] (fun dv rv iv wl => ∃ k : Nat, k ≤ N ∧ iv = .int .i64 (k : Nat) ∧ HeldR (IOwn wl W1.heap.size dv (discL Lp s W aa k)) ∧ HeldR (IOwn wl W1.heap.size rv (ringL Lp s W aa bb k)) ∧ HeldR (Apart2 dv rv) ∧ HeldR (Below W1.heap.size W1 wl)) (fun _ _ iv _ => N + 1 - (intOf iv).toNat)
  case atStart => exact ⟨0, by omega, rfl, hideR (inil _ _), hideR (inil _ _), hideR (Apart2.nil _), hideR (Below.refl _ _)⟩
  case round =>
    obtain ⟨k, hk, rfl, HD, HR, HA, HB⟩ := hrel
    by_cases hlt : k < N
    · have tk : decide (k < N) = true := decide_eq_true hlt
      have tki : decide ((k : Int) < (N : Int)) = true := decide_eq_true (by omega)
      have jk : (k : Int) < (N : Int) := by omega
      have wk : IntKind.i64.wrap ((k : Int) + 1) = ((k + 1 : Nat) : Int) := by rw [show (k : Int) + 1 = ((k + 1 : Nat) : Int) by omega]; exact iwrap (by omega) (by omega)
      obtain ⟨c0, c1, c2⟩ := pic_three (keepB (unhideR HGp) (unhideR HB))
      have xc := unhideR HRow wr (unhideR HB) k hlt
      have hxy := unhideR HXY k hlt
      obtain ⟨x, hx⟩ : ∃ x, k % W = x := ⟨_, rfl⟩
      obtain ⟨y, hy⟩ : ∃ y, k / W = y := ⟨_, rfl⟩
      have hm1 : (k : Int) % (W : Int) = (x : Nat) := by rw [← hx]; exact (Int.natCast_emod k W).symm
      have hm2 : (k : Int).tmod (W : Int) = (x : Nat) := (Int.tmod_eq_emod_of_nonneg (Int.natCast_nonneg k)).trans hm1
      have hd1 : (k : Int) / (W : Int) = (y : Nat) := by rw [← hy]; exact (Int.natCast_ediv k W).symm
      have hd2 : (k : Int).tdiv (W : Int) = (y : Nat) := (Int.tdiv_eq_ediv_of_nonneg (Int.natCast_nonneg k)).trans hd1
      rw [hx, hy] at hxy
      obtain ⟨hx1, hy1⟩ := hxy
      have wd : IntKind.i64.wrap (y : Int) = (y : Int) := by clear hm1 hm2 hd1 hd2; exact iwrap (by omega) (by omega)
      have hfar := fun u => starFar_any s (x : Nat) (y : Nat) (by clear hm1 hm2 hd1 hd2; omega) (by clear hm1 hm2 hd1 hd2; omega) (by clear hm1 hm2 hd1 hd2; omega) (by clear hm1 hm2 hd1 hd2; omega) hf1 hf2 u
      have HDl : HeldR (discL Lp s W aa (k + 1) = discL Lp s W aa k ++ if pxD s W k ≤ aa then [Lp.getD k 0] else []) := hideR rfl
      have HRl : HeldR (ringL Lp s W aa bb (k + 1) = ringL Lp s W aa bb k ++ if ¬ pxD s W k ≤ aa ∧ pxD s W k ≤ bb then [Lp.getD k 0] else []) := hideR rfl
      have hln1 := disc_len_le Lp s W aa k
      have hln2 := ring_len Lp s W aa bb k
      have hpx : pxD s W k = distV s (x : Nat) (y : Nat) := by rw [← hx, ← hy]; rfl
      rw [← hpx] at hfar
      generalize pxD s W k = far at *
      generalize Lp.getD k 0 = c at *
      clear hpx hx hy
      generalize discL Lp s W aa k = D at *
      generalize ringL Lp s W aa bb k = R at *
      obtain ⟨nd, hnd⟩ : ∃ nd, D.length = nd := ⟨_, rfl⟩
      obtain ⟨nr, hnr⟩ : ∃ nr, R.length = nr := ⟨_, rfl⟩
      rw [hnd] at hln1
      rw [hnr] at hln2
      go_upto_region 4 with fail
      clear c0 c1 c2 xc
      go_cut [12] from 21 to 30 (fun s12 wx => s12 = .int .i64 far ∧ HeldR (Below wr.heap.size wr wx))
      case' first =>
        have HGp' : HeldR (wr.heap[K]? = some (.cells #[.int .i64 (W : Nat), .int .i64 (H : Nat), .slice (some ⟨bl, ol, none⟩) N cap] 28)) := hideR (keepB (unhideR HGp) (unhideR HB))
        have HGs' : HeldR (wr.heap[K + 1]? = some (.cells #[.int .i64 s.x, .int .i64 s.y, .int .i64 s.lt] 35)) := hideR (keepB (unhideR HGs) (unhideR HB))
        clear HGp HGs
        have HGp := HGp'
        have HGs := HGs'
        clear HGp' HGs'
        refine wp_region_made 0 #[true, true, true, true, true, true, true, true, true, true, false] [.lets (· = .agg #[.int .i64 s.x, .int .i64 s.y, .int .i64 s.lt]),
          .lets (· = .int .i64 (k : Nat)),
          .lets (· = .pointer (some ⟨K, 0, none⟩)),
          .lets (· = .int .i64 (W : Nat)),
          .lets (· = .int .i64 (x : Nat)),
          .lets (· = .int .i64 (k : Nat)),
          .lets (· = .pointer (some ⟨K, 0, none⟩)),
          .lets (· = .int .i64 (W : Nat)),
          .lets (· = .int .i64 (y : Nat)),
          .lets (· = .int .i64 far)] [] [] (by kernel_rfl) (by kernel_rfl) rfl ?kinds (by kernel_rfl) (by kernel_rfl) (by kernel_rfl) ?_
        case kinds =>
          constructor
          · intro i h
            rcases i with _ | _ | _ | _ | _ | _ | _ | _ | _ | _ | i <;> simp [Kx.isMade] at h
          · intro i h
            rcases i with _ | _ | _ | _ | _ | _ | _ | _ | _ | _ | i <;> simp [Kx.isUse] at h
        refine lexX_step (fun K hK => ⟨by kernel_rfl, ⟨_, rfl⟩, fun v hv => ?_, fun v hv => ?_⟩)
        · obtain ⟨p0, p1, p2⟩ := pic_three (keepB (unhideR HGs) hv)
          go_simp
          exact mUpon_b
        subst hv
        go_simp
        refine hK _ ?_
        clear hK K
        refine lexX_step (fun K hK => ⟨by kernel_rfl, ⟨_, rfl⟩, fun v hv => ?_, fun v hv => ?_⟩)
        · go_simp
          exact mUpon_b
        subst hv
        go_simp
        refine hK _ ?_
        clear hK K
        refine lexX_step (fun K hK => ⟨by kernel_rfl, ⟨_, rfl⟩, fun v hv => ?_, fun v hv => ?_⟩)
        · go_simp
          exact mUpon_b
        subst hv
        go_simp
        refine hK _ ?_
        clear hK K
        refine lexX_step (fun K hK => ⟨by kernel_rfl, ⟨_, rfl⟩, fun v hv => ?_, fun v hv => ?_⟩)
        · obtain ⟨p0, p1, p2⟩ := pic_three (keepB (unhideR HGp) hv)
          go_simp
          exact mUpon_b
        subst hv
        go_simp
        refine hK _ ?_
        clear hK K
        refine lexX_step (fun K hK => ⟨by kernel_rfl, ⟨_, rfl⟩, fun v hv => ?_, fun v hv => ?_⟩)
        · go_simp
          exact mUpon_b
        subst hv
        go_simp
        refine hK _ ?_
        clear hK K
        refine lexX_step (fun K hK => ⟨by kernel_rfl, ⟨_, rfl⟩, fun v hv => ?_, fun v hv => ?_⟩)
        · go_simp
          exact mUpon_b
        subst hv
        go_simp
        refine hK _ ?_
        clear hK K
        refine lexX_step (fun K hK => ⟨by kernel_rfl, ⟨_, rfl⟩, fun v hv => ?_, fun v hv => ?_⟩)
        · go_simp
          exact mUpon_b
        subst hv
        go_simp
        refine hK _ ?_
        clear hK K
        refine lexX_step (fun K hK => ⟨by kernel_rfl, ⟨_, rfl⟩, fun v hv => ?_, fun v hv => ?_⟩)
        · obtain ⟨p0, p1, p2⟩ := pic_three (keepB (unhideR HGp) hv)
          go_simp
          exact mUpon_b
        subst hv
        go_simp
        refine hK _ ?_
        clear hK K
        refine lexX_step (fun K hK => ⟨by kernel_rfl, ⟨_, rfl⟩, fun v hv => ?_, fun v hv => ?_⟩)
        · go_simp
          exact mUpon_b
        subst hv
        go_simp
        refine hK _ ?_
        clear hK K
        refine lexX_step (fun K hK => ⟨by kernel_rfl, ⟨_, rfl⟩, fun v hv => ?_, fun v hv => ?_⟩)
        · go_simp
          refine (hfar _).mono ?_
          rintro e w9 ⟨rfl, k⟩
          exact ⟨_, rfl, rfl, k⟩
        subst hv
        go_simp
        refine hK _ ?_
        clear hK K
        refine lexX_end (fun v5 hv => ?_)
        have K5 := hv.low
        clear hv
        refine wpAny_step (i := 10) (by kernel_rfl) rfl (by kernel_rfl) (fun K hK => ?_)
        unfold Oper.wp
        go_simp
        refine hK _ _ ?_
        clear hK K
        refine wpAny_end (by kernel_rfl) ?_
        go_wp2_with fail
        go_meet
        exact ⟨rfl, hideR K5⟩
      obtain ⟨rfl, HBx⟩ := hcut
      generalize wc = wx at *
      clear hfar hm1 hm2 hd1 hd2 wd hx1 hy1
      have HB3 := hideR (below_go (unhideR HB) (unhideR HBx))
      have HD3 := hideR ((unhideR HD).below (unhideR HBx))
      have HR3 := hideR ((unhideR HR).below (unhideR HBx))
      clear HB HD HR HBx
      have lk := (unhideR HB3).size
      by_cases q1 : far ≤ aa
      · have t1 : decide (far ≤ aa) = true := decide_eq_true q1
        have HO : HeldR (wx.ownsRow W1.heap.size 3 1 u8 nd (D.map (Value.int .i64))) := hideR (by
          have := unhideR HD3
          unfold IOwn at this
          rw [hnd] at this
          exact this)
        rw [if_pos q1] at HDl
        rw [if_neg (fun q => q.1 q1), List.append_nil] at HRl
        have HNd := hideR hnd
        clear hnd hnr
        go_wp2_with (first
          | (at_builtin; refine wpList_append_two rfl _ _ 26 rfl W1.heap.size 3 i0 (.int .i64 0) 1 8 Tryd.underlying26 hi0 hz0 hz1 hz2 rfl (by decide) _ nd _ rfl (own_below2 (unhideR HO) (below_a _ _)) ⟨wx.heap.size, 0, none⟩ 1 1 [.int .i64 c] rfl rfl ?d1 ?d2 ?d3 ?d4 ?d5 (by decide) ?_))
        case d1 => exact one_new (alloc_last wx _)
        case d2 => first | rfl | (intro u hu; rw [List.mem_singleton.1 hu]; rfl)
        case d3 => first | omega | (unfold maxLen; omega)
        case d4 => omega
        case d5 => first | omega | (simp; omega)
        intro v4 w4 hown2 hgrow2 hblk
        have hk2 := two_keep (own_below2 (unhideR HR3) (below_a wx _)) (unhideR HA) hgrow2 hblk (by simp)
        have HR4 : HeldR (IOwn w4 W1.heap.size u9 (ringL Lp s W aa bb (k + 1))) := hideR (by rw [unhideR HRl]; exact hk2.1)
        have HA4 : HeldR (Apart2 v4 u9) := hideR hk2.2
        have HB4 := hideR ((below_go (unhideR HB3) (below_a wx _)).grown hgrow2 (by simp; omega) (fun g h => own_at2 (unhideR HD3) g h))
        have HD4 : HeldR (IOwn w4 W1.heap.size v4 (discL Lp s W aa (k + 1))) := hideR (by rw [unhideR HDl]; exact own_plus (unhideR HNd) hown2)
        clear hown2 hgrow2 hblk hk2 HO HD3 HR3 HB3 HA HDl HRl HNd
        go_wp2
        exact ⟨⟨k + 1, by omega, by first | rfl | go_num, HD4, HR4, HA4, HB4⟩, by simp [intOf]; omega⟩
      · have t1 : decide (far ≤ aa) = false := decide_eq_false q1
        rw [if_neg q1, List.append_nil] at HDl
        by_cases q2 : far ≤ bb
        · have t2 : decide (far ≤ bb) = true := decide_eq_true q2
          have HO : HeldR (wx.ownsRow W1.heap.size 3 1 u9 nr (R.map (Value.int .i64))) := hideR (by
            have := unhideR HR3
            unfold IOwn at this
            rw [hnr] at this
            exact this)
          rw [if_pos ⟨q1, q2⟩] at HRl
          have HNr := hideR hnr
          clear hnd hnr
          go_wp2_with (first
            | (at_builtin; refine wpList_append_two rfl _ _ 26 rfl W1.heap.size 3 i0 (.int .i64 0) 1 8 Tryd.underlying26 hi0 hz0 hz1 hz2 rfl (by decide) _ nr _ rfl (own_below2 (unhideR HO) (below_a _ _)) ⟨wx.heap.size, 0, none⟩ 1 1 [.int .i64 c] rfl rfl ?e1 ?e2 ?e3 ?e4 ?e5 (by decide) ?_))
          (try (case e1 => exact one_new (alloc_last wx _)))
          case e2 => first | rfl | (intro u hu; rw [List.mem_singleton.1 hu]; rfl)
          case e3 => first | omega | (unfold maxLen; omega)
          case e4 => omega
          case e5 => first | omega | (simp; omega)
          intro v4 w4 hown2 hgrow2 hblk
          have hk2 := two_keep (own_below2 (unhideR HD3) (below_a wx _)) (unhideR HA).symm hgrow2 hblk (by simp)
          have HD4 : HeldR (IOwn w4 W1.heap.size u8 (discL Lp s W aa (k + 1))) := hideR (by rw [unhideR HDl]; exact hk2.1)
          have HA4 : HeldR (Apart2 u8 v4) := hideR hk2.2.symm
          have HB4 := hideR ((below_go (unhideR HB3) (below_a wx _)).grown hgrow2 (by simp; omega) (fun g h => own_at2 (unhideR HR3) g h))
          have HR4 : HeldR (IOwn w4 W1.heap.size v4 (ringL Lp s W aa bb (k + 1))) := hideR (by rw [unhideR HRl]; exact own_plus (unhideR HNr) hown2)
          clear hown2 hgrow2 hblk hk2 HO HD3 HR3 HB3 HA HDl HRl HNr
          go_wp2
          exact ⟨⟨k + 1, by omega, by first | rfl | go_num, HD4, HR4, HA4, HB4⟩, by simp [intOf]; omega⟩
        · have t2 : decide (far ≤ bb) = false := decide_eq_false q2
          rw [if_neg (fun q => q2 q.2), List.append_nil] at HRl
          have HD4 : HeldR (IOwn wx W1.heap.size u8 (discL Lp s W aa (k + 1))) := hideR (by rw [unhideR HDl]; exact unhideR HD3)
          have HR4 : HeldR (IOwn wx W1.heap.size u9 (ringL Lp s W aa bb (k + 1))) := hideR (by rw [unhideR HRl]; exact unhideR HR3)
          clear HDl HRl HD3 HR3 hnd hnr
          go_wp2
          exact ⟨⟨k + 1, by omega, by first | rfl | go_num, HD4, HR4, HA, HB3⟩, by simp [intOf]; omega⟩
    · obtain rfl : k = N := by omega
      have tk : decide (k < k) = false := decide_eq_false hlt
      have HF : HeldR (∃ dv rv, Ending.returned (.tuple #[u8, u9]) = .returned (.tuple #[dv, rv]) ∧ IOwn wr w.heap.size dv (discL Lp s W aa k) ∧ IOwn wr w.heap.size rv (ringL Lp s W aa bb k) ∧ Apart2 dv rv ∧ Below w.heap.size w wr) := hideR ⟨_, _, rfl, own_base' (unhideR HD) (unhideR HKle), own_base' (unhideR HR) (unhideR HKle), unhideR HA, below_go (unhideR HW) (unhideR HB)⟩
      clear HD HR HA HB
      go_wp2
      go_ret2
      exact unhideR HF
end Go.Proofs.YtmgnobeaacjdjajDoor
