/-
  Which number is guessed: the document's, by contract.
-/
import Derived.Test.YtngdemhhcablmakDoorShH3
import Derived.Test.YtngdemhhcablmakDoorOwnTwo
namespace Go.Proofs.YtngdemhhcablmakDoor
open Go Go.RowKit

def OneP (x y : Nat × Nat) (v : Value) (w : World) : Prop := ∀ g, v = .slice (some ⟨g, 0, none⟩) 1 1 → ∃ r : Nat × Nat, CPr x y r ∧ w.heap[g]? = some (.cells #[.float .f64 r.1, .float .f64 r.2] 39)
theorem oneP_stb (x y : Nat × Nat) (v : Value) : Stb (OneP x y v) := fun _ _ h k g e => by
  obtain ⟨r, h1, h3⟩ := h g e
  exact ⟨r, h1, keepB h3 k⟩
theorem asW_take {A : List Int} {k : Nat} (h : k < A.length) : (asW A).take (k + 1) = (asW A).take k ++ [(floatOfInt .f64 (A.getD k 0), 0)] := by
  rw [List.take_add_one]
  congr 1
  rw [asW, List.getElem?_map, List.getElem?_eq_getElem h, List.getD_eq_getElem?_getD, List.getElem?_eq_getElem h]
  rfl
theorem flat_take {A : List Int} {k : Nat} (h : k < A.length) : flatPr ((asW A).take (k + 1)) = flatPr ((asW A).take k) ++ valPr (floatOfInt .f64 (A.getD k 0), 0) := by
  rw [asW_take h, flatPr_append]
  rfl
theorem own_all {w : World} {B : Nat} {v : Value} {A : List Int} {n : Nat} (hn : A.length = n) (h : w.ownsRow B 39 2 v n (flatPr ((asW A).take n))) : ∃ ad cap, v = .slice ad (asW A).length cap ∧ PrCame w ad (asW A) := by
  have e : (asW A).take n = asW A := List.take_of_length_le (by rw [asW_len, hn]; exact Nat.le_refl _)
  rw [e] at h
  have hl : (asW A).length = n := by rw [asW_len, hn]
  rw [← hl] at h
  exact Prown h
/-- the first k products. -/
structure GcK (X Y C : List (Nat × Nat)) (k : Nat) : Prop where
  len : C.length = k
  is : ∀ i, i < k → CPr ((X.getD i (0, 0)).1, ngB (X.getD i (0, 0)).2) (Y.getD i (0, 0)) (C.getD i (0, 0))
theorem GcK.next {X Y C : List (Nat × Nat)} {k : Nat} (h : GcK X Y C k) {r : Nat × Nat} (h1 : CPr ((X.getD k (0, 0)).1, ngB (X.getD k (0, 0)).2) (Y.getD k (0, 0)) r) : GcK X Y (C ++ [r]) (k + 1) := by
  refine ⟨by rw [List.length_append, h.len]; rfl, fun j hj => ?_⟩
  rw [List.getD_eq_getElem?_getD (l := C ++ [r])]
  by_cases e : j < k
  · rw [List.getElem?_append_left (by rw [h.len]; exact e), ← List.getD_eq_getElem?_getD]
    exact h.is j e
  · obtain rfl : j = k := by omega
    rw [List.getElem?_append_right (by rw [h.len]; exact Nat.le_refl _), h.len, Nat.sub_self]
    exact h1
def GoPost (A B : List Int) (w : World) (e : Ending) (w' : World) : Prop := ∃ r : Nat, e = .returned (.int .i64 (r : Nat)) ∧ GsN A B r ∧ Below w.heap.size w w'
set_option maxRecDepth 100000 in
set_option maxHeartbeats 6400000 in
theorem guessOf_any {w : World} {a1 a2 : Option Addr} {c1 c2 n d : Nat} {A B : List Int} (hA : ICame w a1 A) (hB : ICame w a2 B) (lA : A.length = n) (lB : B.length = n) (hd : n = 2 ^ d) (hn : n ≤ 256) : Calls Tryd.prog 26 #[.slice a1 n c1, .slice a2 n c2] w (GoPost A B w) := by
  obtain ⟨i0, hi0, hz0, hz1, hz2⟩ := info_parts infoPr
  have hn0 : 0 < n := by rw [hd]; exact Nat.two_pow_pos d
  have HA : HeldR (∀ u, Below w.heap.size w u → ICame u a1 A) := hideR (fun u k => hA.below k)
  have HB : HeldR (∀ u, Below w.heap.size w u → ICame u a2 B) := hideR (fun u k => hB.below k)
  have HD := hideR hd
  have HLA := hideR lA
  have HLB := hideR lB
  have HFo : HeldR (∀ (u : World) (ad : Option Addr) (cap : Nat) (M : List (Nat × Nat)) (back : Bool), PrCame u ad M → M.length = n → Calls Tryd.prog 17 #[.slice ad n cap, .bool back] u (FsPost M d back u)) := hideR (fun u ad cap M back h1 h2 => by
    have := fastOf_any (c1 := cap) (d := d) h1 (by rw [h2]; exact hd) (by omega) back
    rw [h2] at this
    exact this)
  have HTa : HeldR (∀ k, k < n → flatPr ((asW A).take (k + 1)) = flatPr ((asW A).take k) ++ valPr (floatOfInt .f64 (A.getD k 0), 0)) := hideR (fun k hk => flat_take (by omega))
  have HTb : HeldR (∀ k, k < n → flatPr ((asW B).take (k + 1)) = flatPr ((asW B).take k) ++ valPr (floatOfInt .f64 (B.getD k 0), 0)) := hideR (fun k hk => flat_take (by omega))
  have hneg : ∀ x v, (Op.unary UnOp.neg (.float .f64 x)).run Tryd.prog v = .ok (.float .f64 (ngB x)) v := fun _ _ => rfl
  clear hA hB lA lB hd
  go_enter Tryd.func26, Tryd.ntmps26
  go_wp2
  go_loopw [5, 6, 7] (fun xv yv iv wl => ∃ k : Nat, k ≤ n ∧ iv = .int .i64 (k : Nat) ∧ HeldR (wl.ownsRow w.heap.size 39 2 xv k (flatPr ((asW A).take k))) ∧ HeldR (wl.ownsRow w.heap.size 39 2 yv k (flatPr ((asW B).take k))) ∧ HeldR (Apart2 xv yv) ∧ HeldR (Below w.heap.size w wl)) (fun _ _ iv _ => n + 1 - (intOf iv).toNat)
  case atStart => exact ⟨0, by omega, rfl, hideR (World.ownsRow_nil _ _ _ _), hideR (World.ownsRow_nil _ _ _ _), hideR (Apart2.nil _), hideR (Below.refl _ _)⟩
  case round =>
    obtain ⟨k, hk, rfl, HX, HY, HAp, HBw⟩ := hrel
    by_cases hlt : k < n
    · have tk : decide (k < n) = true := decide_eq_true hlt
      have tki : decide ((k : Int) < (n : Int)) = true := decide_eq_true (by omega)
      have jk : (k : Int) < (n : Int) := by omega
      have wk : IntKind.i64.wrap ((k : Int) + 1) = ((k + 1 : Nat) : Int) := by rw [show (k : Int) + 1 = ((k + 1 : Nat) : Int) by omega]; exact iwrap (by omega) (by omega)
      obtain ⟨b1, o1, rfl, _, x1⟩ := (unhideR HA wr (unhideR HBw)).at_ k (by rw [unhideR HLA]; exact hlt)
      obtain ⟨b2, o2, rfl, _, _⟩ := (unhideR HB wr (unhideR HBw)).at_ k (by rw [unhideR HLB]; exact hlt)
      have HTa' := hideR (unhideR HTa k hlt)
      have HTb' := hideR (unhideR HTb k hlt)
      have HX2 : HeldR (∀ u, Below w.heap.size w u → u.cell? ⟨b2, o2 + k, none⟩ = some (.int .i64 (B.getD k 0))) := hideR (fun u hu => by
        obtain ⟨b9, o9, e9, _, x9⟩ := (unhideR HB u hu).at_ k (by rw [unhideR HLB]; exact hlt)
        cases e9
        exact x9)
      obtain ⟨av, hav⟩ : ∃ v, A.getD k 0 = v := ⟨_, rfl⟩
      obtain ⟨bv, hbv⟩ : ∃ v, B.getD k 0 = v := ⟨_, rfl⟩
      rw [hav] at x1 HTa'
      rw [hbv] at HX2 HTb'
      obtain ⟨fa, hfa⟩ : ∃ v, floatOfInt .f64 av = v := ⟨_, rfl⟩
      obtain ⟨fb, hfb⟩ : ∃ v, floatOfInt .f64 bv = v := ⟨_, rfl⟩
      rw [hfa] at HTa'
      rw [hfb] at HTb'
      have lk := (unhideR HBw).size
      clear hav hbv
      go_wp2_with (first
        | (at_builtin; refine wpList_append_two rfl _ _ 22 rfl w.heap.size 39 i0 Przv 2 16 Tryd.underlying22 hi0 hz0 hz1 hz2 rfl (by decide) _ k (flatPr ((asW A).take k)) rfl (own_below2 (unhideR HX) (below_a _ _)) ⟨wr.heap.size, 0, none⟩ 1 1 (valPr (fa, 0)) rfl rfl ?d1 ?d2 ?d3 ?d4 ?d5 (by decide) ?_))
      case d1 => exact two_newF (alloc_last wr _)
      case d2 => exact fun u hu => flatPr_one [(fa, 0)] u (by simpa [flatPr] using hu)
      case d3 => first | omega | (unfold maxLen; omega)
      case d4 => omega
      case d5 => first | omega | (simp; omega)
      intro v4 w4 hown hgrow hblk
      obtain ⟨HY4, HAp4⟩ := two_keep (own_below2 (unhideR HY) (below_a wr _)) (unhideR HAp) hgrow hblk (by simp)
      have hB4 := (below_go (unhideR HBw) (below_a wr (.cells #[.float .f64 fa, .float .f64 0] 39))).grown hgrow (by simp; omega) (fun g h => own_at2 (unhideR HX) g h)
      have x2 := unhideR HX2 w4 hB4
      have HX4 : HeldR (w4.ownsRow w.heap.size 39 2 v4 (k + 1) (flatPr ((asW A).take (k + 1)))) := hideR (by rw [unhideR HTa']; exact hown)
      have HY4' := hideR HY4
      have HAp4' := hideR HAp4
      have HB4 := hideR hB4
      have lk4 := hB4.size
      clear hown hgrow hblk HY4 HAp4 hB4 HX HY HAp HBw x1 hfa
      go_wp2_with (first
        | (at_builtin; refine wpList_append_two rfl _ _ 22 rfl w.heap.size 39 i0 Przv 2 16 Tryd.underlying22 hi0 hz0 hz1 hz2 rfl (by decide) _ k (flatPr ((asW B).take k)) rfl (own_below2 (unhideR HY4') (below_a _ _)) ⟨w4.heap.size, 0, none⟩ 1 1 (valPr (fb, 0)) rfl rfl ?d1 ?d2 ?d3 ?d4 ?d5 (by decide) ?_))
      case d1 => exact two_newF (alloc_last w4 _)
      case d2 => exact fun u hu => flatPr_one [(fb, 0)] u (by simpa [flatPr] using hu)
      case d3 => first | omega | (unfold maxLen; omega)
      case d4 => omega
      case d5 => first | omega | (simp; omega)
      intro v5 w5 hown hgrow hblk
      obtain ⟨HX5, HAp5⟩ := two_keep (own_below2 (unhideR HX4) (below_a w4 _)) (unhideR HAp4').symm hgrow hblk (by simp)
      have HB5 := hideR ((below_go (unhideR HB4) (below_a w4 (.cells #[.float .f64 fb, .float .f64 0] 39))).grown hgrow (by simp; omega) (fun g h => own_at2 (unhideR HY4') g h))
      have HY5 : HeldR (w5.ownsRow w.heap.size 39 2 v5 (k + 1) (flatPr ((asW B).take (k + 1)))) := hideR (by rw [unhideR HTb']; exact hown)
      have HX5' := hideR HX5
      have HAp5' := hideR HAp5.symm
      clear hown hgrow hblk HX5 HAp5 HX4 HY4' HAp4' HB4 x2 hfb
      go_wp2
      exact ⟨⟨k + 1, by omega, by first | rfl | go_num, HX5', HY5, HAp5', HB5⟩, by simp [intOf]; omega⟩
    obtain rfl : n = k := by omega
    have tk : decide (n < n) = false := decide_eq_false hlt
    have tki : decide ((n : Int) < (n : Int)) = false := decide_eq_false (by omega)
    obtain ⟨ax, cx, ex, hcX⟩ := own_all (unhideR HLA) (unhideR HX)
    obtain ⟨ay, cy, ey, hcY⟩ := own_all (unhideR HLB) (unhideR HY)
    rw [asW_len, unhideR HLA] at ex
    rw [asW_len, unhideR HLB] at ey
    subst ex
    subst ey
    have h1 := unhideR HFo wr ax cx (asW A) false hcX (by rw [asW_len]; exact unhideR HLA)
    have HcY := hideR hcY
    clear HX HY HAp hcX hcY HTa HTb HA HB
    go_wp2_with fail
    refine h1.mono ?_
    rintro e w1 ⟨X, ax', cx', rfl, hX, hcX, k1⟩
    have lX := hX.len
    rw [← unhideR HD] at lX
    rw [lX]
    have h2 := unhideR HFo w1 ay cy (asW B) false ((unhideR HcY).below k1) (by rw [asW_len]; exact unhideR HLB)
    have HX := hideR hX
    have HlX := hideR lX
    have HcX := hideR hcX
    have HB1 := hideR (below_go (unhideR HBw) k1)
    clear h1 hX lX hcX k1 HcY HBw
    go_wp2_with fail
    refine h2.mono ?_
    rintro e w2 ⟨Y, ay', cy', rfl, hY, hcY, k2⟩
    have lY := hY.len
    rw [← unhideR HD] at lY
    rw [lY]
    have HY := hideR hY
    have HlY := hideR lY
    have HcX2 : HeldR (∀ u, Below w2.heap.size w2 u → PrCame u ax' X) := hideR (fun u k => ((unhideR HcX).below k2).below k)
    have HcY2 : HeldR (∀ u, Below w2.heap.size w2 u → PrCame u ay' Y) := hideR (fun u k => hcY.below k)
    have HB2 := hideR (below_go (unhideR HB1) k2)
    clear h2 hY lY hcY k2 HcX HB1
    go_wp2
    go_loopw [8, 9] (fun cv kv wl => ∃ (k : Nat) (C : List (Nat × Nat)), k ≤ n ∧ kv = .int .i64 (k : Nat) ∧ HeldR (GcK X Y C k) ∧ HeldR (wl.ownsRow w2.heap.size 39 2 cv C.length (flatPr C)) ∧ HeldR (Below w2.heap.size w2 wl)) (fun _ kv _ => n + 1 - (intOf kv).toNat)
    case atStart => exact ⟨0, [], by omega, rfl, hideR ⟨rfl, fun j hj => absurd hj (Nat.not_lt_zero j)⟩, hideR (World.ownsRow_nil _ _ _ _), hideR (Below.refl _ _)⟩
    case round =>
    obtain ⟨k, C, hk, rfl, HV, HO, HB⟩ := hrel
    by_cases hlt : k < n
    · have tk : decide (k < n) = true := decide_eq_true hlt
      have tki : decide ((k : Int) < (n : Int)) = true := decide_eq_true (by omega)
      have jk : (k : Int) < (n : Int) := by omega
      have wk : IntKind.i64.wrap ((k : Int) + 1) = ((k + 1 : Nat) : Int) := by rw [show (k : Int) + 1 = ((k + 1 : Nat) : Int) by omega]; exact iwrap (by omega) (by omega)
      have hlX : k < X.length := by rw [unhideR HlX]; exact hlt
      have hlY : k < Y.length := by rw [unhideR HlY]; exact hlt
      obtain ⟨b1, o1, rfl, _, _⟩ := (unhideR HcX2 wr (unhideR HB)).at_ k hlX
      obtain ⟨b2, o2, rfl, _, _⟩ := (unhideR HcY2 wr (unhideR HB)).at_ k hlY
      have HXb0 : HeldR (∀ v, Below wr.heap.size wr v → PrAt v b1 (o1 + k * 2) (X.getD k (0, 0))) := hideR (fun v hv => by
        obtain ⟨b9, o9, e9, _, x9⟩ := (unhideR HcX2 v (below_go (unhideR HB) hv)).at_ k hlX
        cases e9
        exact x9)
      have HYb0 : HeldR (∀ v, Below wr.heap.size wr v → PrAt v b2 (o2 + k * 2) (Y.getD k (0, 0))) := hideR (fun v hv => by
        obtain ⟨b9, o9, e9, _, x9⟩ := (unhideR HcY2 v (below_go (unhideR HB) hv)).at_ k hlY
        cases e9
        exact x9)
      have HNx : HeldR (∀ r, CPr ((X.getD k (0, 0)).1, ngB (X.getD k (0, 0)).2) (Y.getD k (0, 0)) r → GcK X Y (C ++ [r]) (k + 1)) := hideR (fun r h => (unhideR HV).next h)
      have HMl := hideR (unhideR HV).len
      obtain ⟨al0, cl0, e0, _⟩ := Prown (unhideR HO)
      have e1 : u8 = .slice al0 k cl0 := by rw [e0, unhideR HMl]
      clear e0
      obtain ⟨al, cl, e2⟩ : ∃ al cl, u8 = .slice al k cl := ⟨_, _, e1⟩
      clear e1
      subst e2
      obtain ⟨re, hre⟩ : ∃ x, (X.getD k (0, 0)).1 = x := ⟨_, rfl⟩
      obtain ⟨im, him⟩ : ∃ x, (X.getD k (0, 0)).2 = x := ⟨_, rfl⟩
      obtain ⟨yr, hyr⟩ : ∃ x, (Y.getD k (0, 0)).1 = x := ⟨_, rfl⟩
      obtain ⟨yi, hyi⟩ : ∃ x, (Y.getD k (0, 0)).2 = x := ⟨_, rfl⟩
      have hxk : X.getD k (0, 0) = (re, im) := by rw [← hre, ← him]
      have hyk : Y.getD k (0, 0) = (yr, yi) := by rw [← hyr, ← hyi]
      rw [hxk, hyk] at HNx
      have HXb : HeldR (∀ v, Below wr.heap.size wr v → PrAt v b1 (o1 + k * 2) (re, im)) := hideR (fun v hv => by
        have := unhideR HXb0 v hv
        rw [hxk] at this
        exact this)
      have HYb : HeldR (∀ v, Below wr.heap.size wr v → PrAt v b2 (o2 + k * 2) (yr, yi)) := hideR (fun v hv => by
        have := unhideR HYb0 v hv
        rw [hyk] at this
        exact this)
      have hpr := fun u => product_any (re, ngB im) (yr, yi) u
      unfold prV at hpr
      clear HXb0 HYb0 hre him hyr hyi hxk hyk hlX hlY
      go_upto_region 14 with fail
      refine wp_region_made 1 #[true, true, true, true, true, true, true, true, true, true, true, true, true, true, true, true, true, true, true, false, false] [.lets (· = .slice al k cl),
        .lets (· = .slice (some ⟨b1, o1, none⟩) n cx'),
        .lets (· = .int .i64 (k : Nat)),
        .lets (· = .pointer (some ⟨b1, o1 + k * 2, none⟩)),
        .lets (· = .pointer (some ⟨b1, o1 + k * 2, none⟩)),
        .lets (· = .float .f64 re),
        .lets (· = .slice (some ⟨b1, o1, none⟩) n cx'),
        .lets (· = .int .i64 (k : Nat)),
        .lets (· = .pointer (some ⟨b1, o1 + k * 2, none⟩)),
        .lets (· = .pointer (some ⟨b1, o1 + k * 2 + 1, none⟩)),
        .lets (· = .float .f64 im),
        .lets (· = .float .f64 (ngB im)),
        .lets (· = .agg #[.float .f64 re, .float .f64 (ngB im)]),
        .lets (· = .slice (some ⟨b2, o2, none⟩) n cy'),
        .lets (· = .int .i64 (k : Nat)),
        .lets (· = .pointer (some ⟨b2, o2 + k * 2, none⟩)),
        .lets (· = .agg #[.float .f64 yr, .float .f64 yi]),
        .lets (PrS (re, ngB im) (yr, yi)),
        .made SlOneC (OneP (re, ngB im) (yr, yi))] [18] [] (by kernel_rfl) (by kernel_rfl) rfl ?kinds (by kernel_rfl) (by kernel_rfl) (by kernel_rfl) ?_
      case kinds =>
        constructor
        · intro i h
          rcases i with _ | _ | _ | _ | _ | _ | _ | _ | _ | _ | _ | _ | _ | _ | _ | _ | _ | _ | _ | i <;> simp [Kx.isMade] at h ⊢
        · intro i h
          rcases i with _ | _ | _ | _ | _ | _ | _ | _ | _ | _ | _ | _ | _ | _ | _ | _ | _ | _ | _ | i <;> simp [Kx.isUse] at h
      refine lexX_step (fun K hK => ⟨by kernel_rfl, ⟨_, rfl⟩, fun v hv => ?_, fun v hv => ?_⟩)
      · go_simp
        exact mUpon_b
      subst hv
      go_simp
      refine hK _ ?_
      clear hK K
      refine lexX_step (fun K hK => ⟨by kernel_rfl, ⟨_, rfl⟩, fun v hv => ?_, fun v hv => ?_⟩)
      · go_simp
        exact mUpon_b
      subst hv
      go_simp
      refine hK _ ?_
      clear hK K
      refine lexX_step (fun K hK => ⟨by kernel_rfl, ⟨_, rfl⟩, fun v hv => ?_, fun v hv => ?_⟩)
      · go_simp
        exact mUpon_b
      subst hv
      go_simp
      refine hK _ ?_
      clear hK K
      refine lexX_step (fun K hK => ⟨by kernel_rfl, ⟨_, rfl⟩, fun v hv => ?_, fun v hv => ?_⟩)
      · go_simp
        exact mUpon_b
      subst hv
      go_simp
      refine hK _ ?_
      clear hK K
      refine lexX_step (fun K hK => ⟨by kernel_rfl, ⟨_, rfl⟩, fun v hv => ?_, fun v hv => ?_⟩)
      · go_simp
        exact mUpon_b
      subst hv
      go_simp
      refine hK _ ?_
      clear hK K
      refine lexX_step (fun K hK => ⟨by kernel_rfl, ⟨_, rfl⟩, fun v hv => ?_, fun v hv => ?_⟩)
      · have q := ((unhideR HXb) v hv)
        have q0 := q.c0
        have q1 := q.c1
        go_simp
        exact mUpon_b
      subst hv
      go_simp
      refine hK _ ?_
      clear hK K
      refine lexX_step (fun K hK => ⟨by kernel_rfl, ⟨_, rfl⟩, fun v hv => ?_, fun v hv => ?_⟩)
      · go_simp
        exact mUpon_b
      subst hv
      go_simp
      refine hK _ ?_
      clear hK K
      refine lexX_step (fun K hK => ⟨by kernel_rfl, ⟨_, rfl⟩, fun v hv => ?_, fun v hv => ?_⟩)
      · go_simp
        exact mUpon_b
      subst hv
      go_simp
      refine hK _ ?_
      clear hK K
      refine lexX_step (fun K hK => ⟨by kernel_rfl, ⟨_, rfl⟩, fun v hv => ?_, fun v hv => ?_⟩)
      · go_simp
        exact mUpon_b
      subst hv
      go_simp
      refine hK _ ?_
      clear hK K
      refine lexX_step (fun K hK => ⟨by kernel_rfl, ⟨_, rfl⟩, fun v hv => ?_, fun v hv => ?_⟩)
      · go_simp
        exact mUpon_b
      subst hv
      go_simp
      refine hK _ ?_
      clear hK K
      refine lexX_step (fun K hK => ⟨by kernel_rfl, ⟨_, rfl⟩, fun v hv => ?_, fun v hv => ?_⟩)
      · have q := ((unhideR HXb) v hv)
        have q0 := q.c0
        have q1 := q.c1
        go_simp
        exact mUpon_b
      subst hv
      go_simp
      refine hK _ ?_
      clear hK K
      refine lexX_step (fun K hK => ⟨by kernel_rfl, ⟨_, rfl⟩, fun v hv => ?_, fun v hv => ?_⟩)
      · go_simp
        exact mUpon_b
      subst hv
      go_simp
      refine hK _ ?_
      clear hK K
      refine lexX_step (fun K hK => ⟨by kernel_rfl, ⟨_, rfl⟩, fun v hv => ?_, fun v hv => ?_⟩)
      · go_simp
        exact mUpon_b
      subst hv
      go_simp
      refine hK _ ?_
      clear hK K
      refine lexX_step (fun K hK => ⟨by kernel_rfl, ⟨_, rfl⟩, fun v hv => ?_, fun v hv => ?_⟩)
      · go_simp
        exact mUpon_b
      subst hv
      go_simp
      refine hK _ ?_
      clear hK K
      refine lexX_step (fun K hK => ⟨by kernel_rfl, ⟨_, rfl⟩, fun v hv => ?_, fun v hv => ?_⟩)
      · go_simp
        exact mUpon_b
      subst hv
      go_simp
      refine hK _ ?_
      clear hK K
      refine lexX_step (fun K hK => ⟨by kernel_rfl, ⟨_, rfl⟩, fun v hv => ?_, fun v hv => ?_⟩)
      · go_simp
        exact mUpon_b
      subst hv
      go_simp
      refine hK _ ?_
      clear hK K
      refine lexX_step (fun K hK => ⟨by kernel_rfl, ⟨_, rfl⟩, fun v hv => ?_, fun v hv => ?_⟩)
      · have q := ((unhideR HYb) v hv)
        have q0 := q.c0
        have q1 := q.c1
        go_simp
        exact mUpon_b
      subst hv
      go_simp
      refine hK _ ?_
      clear hK K
      refine lexX_step (fun K hK => ⟨by kernel_rfl, prS_some _ _, fun v hv => ?_, fun v hv => ?_⟩)
      · go_simp
        refine (hpr _).mono ?_
        rintro e w9 ⟨r, rfl, h1, k⟩
        exact ⟨_, rfl, ⟨r, rfl, h1⟩, k⟩
      obtain ⟨r, rfl, hr⟩ := hv
      unfold prV
      go_simp
      refine hK _ ?_
      clear hK K
      refine lexX_made ⟨by kernel_rfl, ⟨_, 0, rfl⟩, oneP_stb _ _, fun v hv => ?_, ?_⟩
      · go_simp
        exact ⟨below_a v _, ⟨_, rfl⟩, fun q hq => by cases hq; exact ⟨r, hr, alloc_last v _⟩⟩
      clear hr
      rintro _ ⟨u9, rfl⟩ K hK
      go_simp
      refine hK _ ?_
      clear hK K
      refine lexX_end (fun v5 hv => ?_)
      obtain ⟨s, h1, h9⟩ := hv.fact.2 _ rfl
      have HO9 := hideR h9
      have HK5 := hideR hv.low
      have HV' := hideR (unhideR HNx s h1)
      clear hv h1 h9
      have hO5 : v5.ownsRow w2.heap.size 39 2 (.slice al k cl) k (flatPr C) := by
        have := own_below2 (unhideR HO) (unhideR HK5)
        rw [unhideR HMl] at this
        exact this
      have hB5 : w2.heap.size ≤ v5.heap.size := Nat.le_trans (unhideR HB).size (unhideR HK5).size
      refine wpAny_step (i := 19) (by kernel_rfl) rfl (by kernel_rfl) (fun K hK => ?_)
      refine wp_append_own _ _ _ 22 rfl w2.heap.size 39 i0 Przv 2 16 Tryd.underlying22 hi0 hz0 hz1 hz2 rfl (by decide) _ k _ rfl hO5 ⟨u9, 0, none⟩ 1 1 (valPr s) rfl rfl ?q1 ?q2 ?q3 ?q4 ?q5 ?_
      case q1 => exact two_newF (unhideR HO9)
      case q2 =>
        intro u hu
        exact flatPr_one [s] u (by simpa [flatPr] using hu)
      case q3 => unfold maxLen; omega
      case q4 => omega
      case q5 => exact hB5
      intro v6 w6 hown hgrow _
      have O6 : HeldR (w6.ownsRow w2.heap.size 39 2 v6 (C ++ [s]).length (flatPr (C ++ [s]))) := hideR (by
        rw [flatPr_append, List.length_append, unhideR HMl, show flatPr [s] = valPr s from List.append_nil _]
        exact hown)
      have HB6 := hideR ((below_go (unhideR HB) (unhideR HK5)).grown hgrow hB5 (fun q hq => own_at2 hO5 q hq))
      clear hown hgrow hO5
      go_simp
      refine hK _ _ ?_
      clear hK K
      refine wpAny_step (i := 20) (by kernel_rfl) rfl (by kernel_rfl) (fun K hK => ?_)
      unfold Oper.wp
      go_simp
      refine hK _ _ ?_
      clear hK K
      refine wpAny_end (by kernel_rfl) ?_
      clear HO HB HO9 HK5 HXb HYb HV HMl HNx hpr
      go_wp2
      exact ⟨⟨k + 1, _, by omega, by first | rfl | go_num, HV', O6, HB6⟩, by simp [intOf]; omega⟩
    obtain rfl : n = k := by omega
    have tk : decide (n < n) = false := decide_eq_false hlt
    have tki : decide ((n : Int) < (n : Int)) = false := decide_eq_false (by omega)
    obtain ⟨ac, cc, ec, hcC⟩ := Prown (unhideR HO)
    rw [(unhideR HV).len] at ec
    subst ec
    have h3 := unhideR HFo wr ac cc C true hcC (unhideR HV).len
    have HR : HeldR (∀ Z u, FsEnd C d true Z → Below wr.heap.size wr u → GsR A B d Z ∧ Below w.heap.size w u) := hideR (fun Z u h1 h2 => ⟨⟨X, Y, C, unhideR HX, unhideR HY, by rw [(unhideR HV).len]; exact unhideR HD, fun k hk => (unhideR HV).is k (by rw [unhideR HD]; exact hk), h1⟩, below_go (below_go (unhideR HB2) (unhideR HB)) h2⟩)
    clear HX HY HV HB HO HcX2 HcY2 HB2 HlX HlY hcC
    go_wp2_with fail
    refine h3.mono ?_
    rintro e w3 ⟨Z, az, cz, rfl, hZ, hcZ, k3⟩
    have lZ := hZ.len
    rw [← unhideR HD] at lZ
    obtain ⟨hG, hB3⟩ := unhideR HR Z w3 hZ k3
    have HE : HeldR (∀ u, Below w3.heap.size w3 u → GoPost A B w (.returned (.int .i64 (bestN (fun k => (Z.getD k (0, 0)).1) n : Nat))) u) := hideR (fun u hu => ⟨_, rfl, ⟨d, Z, (unhideR HLA).trans (unhideR HD), hG, by rw [← unhideR HD]⟩, below_go hB3 hu⟩)
    have HcZ : HeldR (∀ u, Below w3.heap.size w3 u → PrCame u az Z) := hideR (fun u k => hcZ.below k)
    have HlZ := hideR lZ
    rw [lZ]
    clear h3 hZ hcZ k3 lZ hG hB3 HR HD HLA HLB HFo hneg
    go_wp2
    go_loopw [10, 11] (fun bv sv wl => ∃ s : Nat, s ≤ n ∧ 0 < s ∧ sv = .int .i64 (s : Nat) ∧ bv = .int .i64 (bestN (fun k => (Z.getD k (0, 0)).1) s : Nat) ∧ HeldR (Below w3.heap.size w3 wl)) (fun _ sv _ => n + 1 - (intOf sv).toNat)
    case atStart => exact ⟨1, by omega, by decide, rfl, by rw [show bestN (fun k => (Z.getD k (0, 0)).1) 1 = 0 from ite_self _]; rfl, hideR (Below.refl _ _)⟩
    case round =>
    obtain ⟨s, hs, hs0, rfl, rfl, HB⟩ := hrel
    by_cases hsl : s < n
    · have ts : decide (s < n) = true := decide_eq_true hsl
      have tsi : decide ((s : Int) < (n : Int)) = true := decide_eq_true (by omega)
      have js : (s : Int) < (n : Int) := by omega
      have ws : IntKind.i64.wrap ((s : Int) + 1) = ((s + 1 : Nat) : Int) := by rw [show (s : Int) + 1 = ((s + 1 : Nat) : Int) by omega]; exact iwrap (by omega) (by omega)
      have hb := bestN_lt (fun k => (Z.getD k (0, 0)).1) hn0 s hs
      have HNx : HeldR (bestN (fun k => (Z.getD k (0, 0)).1) (s + 1) = if (FloatKind.f64.format.order (Z.getD s (0, 0)).1 (Z.getD (bestN (fun k => (Z.getD k (0, 0)).1) s) (0, 0)).1 == some .gt) = true then s else bestN (fun k => (Z.getD k (0, 0)).1) s) := hideR rfl
      have hq := unhideR HcZ wr.drew (drew1_go (unhideR HB))
      obtain ⟨b1, o1, rfl, _, p1⟩ := hq.at_ s (by rw [unhideR HlZ]; exact hsl)
      obtain ⟨b2, o2, e2, _, p2⟩ := hq.at_ (bestN (fun k => (Z.getD k (0, 0)).1) s) (by rw [unhideR HlZ]; exact hb)
      injection e2 with e2
      injection e2 with e3 e4
      subst e3
      subst e4
      have x1 := p1.c0
      have x2 := p2.c0
      have HB' := hideR (drew1_go (unhideR HB))
      obtain ⟨b, hbb⟩ : ∃ b, bestN (fun k => (Z.getD k (0, 0)).1) s = b := ⟨_, rfl⟩
      rw [hbb] at hb x2 HNx ⊢
      generalize (Z.getD b (0, 0)).1 = y at x2 HNx
      generalize (Z.getD s (0, 0)).1 = x at x1 HNx
      have jb : (b : Int) < (n : Int) := by omega
      clear hbb hq p1 p2 HB
      cases q : (FloatKind.f64.format.order x y == some .gt) with
      | true =>
        rw [q, if_pos rfl] at HNx
        go_wp2
        go_region
        go_wp2
        exact ⟨⟨s + 1, by omega, by omega, by first | rfl | go_num, by rw [unhideR HNx], HB'⟩, by simp [intOf]; omega⟩
      | false =>
        rw [q, if_neg (by decide)] at HNx
        go_wp2
        go_region
        go_wp2
        exact ⟨⟨s + 1, by omega, by omega, by first | rfl | go_num, by rw [unhideR HNx], HB'⟩, by simp [intOf]; omega⟩
    · obtain rfl : n = s := by omega
      have ts : decide (n < n) = false := decide_eq_false hsl
      have tsi : decide ((n : Int) < (n : Int)) = false := decide_eq_false (by omega)
      have HR := hideR (unhideR HE wr (unhideR HB))
      clear HE HB HcZ
      go_wp2
      go_ret
      exact unhideR HR
end Go.Proofs.YtngdemhhcablmakDoor
