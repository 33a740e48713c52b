/-
  The program's files: the counts, and Write.
-/
import Derived.Test.YtncbmkflilcdgaiGreatDoorDG5
import Derived.Test.YtncbmkflilcdgaiGreatDoorFdPA
namespace Go.Proofs.YtncbmkflilcdgaiGreatDoor
open Go Go.RowKit

theorem wrap64_fit {x : Int} (h1 : -9223372036854775808 ≤ x) (h2 : x ≤ 9223372036854775807) : IntKind.i64.wrap x = x := by
  unfold IntKind.wrap
  simp [IntKind.signed, IntKind.bits]
  omega
set_option maxRecDepth 100000 in
set_option maxHeartbeats 800000 in
theorem fromBelow_any {ap : Option Addr} {n cp W H i : Nat} (w : World) (hW : 1 ≤ W ∧ W ≤ 256) (hH : 1 ≤ H ∧ H ≤ 256) (hi : i < W * H) : Calls Tryz.prog 39 #[.agg #[.int .i64 (W : Nat), .int .i64 (H : Nat), .slice ap n cp], .int .i64 (i : Nat)] w fun e w' => e = .returned (.int .i64 (turnI W H i : Nat)) ∧ Below w.heap.size w w' := by
  have HB := hideR (below_a w (.cells #[.int .i64 (W : Nat), .int .i64 (H : Nat), .slice ap n cp] 33))
  obtain ⟨c0, c1, c2⟩ := pic_three (alloc_last w (.cells #[.int .i64 (W : Nat), .int .i64 (H : Nat), .slice ap n cp] 33))
  have hD : i / W < H := Nat.div_lt_of_lt_mul hi
  have hR : i % W < W := Nat.mod_lt _ (by omega)
  have hmost : W * H ≤ 256 * 256 := Nat.mul_le_mul hW.2 hH.2
  rw [show turnI W H i = (H - 1 - i / W) * W + i % W from rfl]
  have hd1 : (i : Int) / (W : Int) = ((i / W : Nat) : Int) := (Int.natCast_ediv i W).symm
  have hm1 : (i : Int) % (W : Int) = ((i % W : Nat) : Int) := (Int.natCast_emod i W).symm
  have hd2 : (i : Int).tdiv (W : Int) = ((i / W : Nat) : Int) := (Int.tdiv_eq_ediv_of_nonneg (Int.natCast_nonneg i)).trans hd1
  have hm2 : (i : Int).tmod (W : Int) = ((i % W : Nat) : Int) := (Int.tmod_eq_emod_of_nonneg (Int.natCast_nonneg i)).trans hm1
  generalize i / W = D at *
  generalize i % W = R at *
  have hM1 : (H - 1 - D) * W ≤ 256 * 256 := Nat.mul_le_mul (by omega) hW.2
  have hmul : ((H : Int) - 1 - (D : Int)) * (W : Int) = (((H - 1 - D) * W : Nat) : Int) := by
    rw [Int.natCast_mul]
    congr 1
    omega
  have hw : IntKind.i64.wrap (((H : Int) - 1 - (D : Int)) * (W : Int)) = (((H - 1 - D) * W : Nat) : Int) := by rw [hmul]; exact wrap64_fit (by omega) (by omega)
  have hWn : (W : Int) ≠ 0 := by omega
  obtain ⟨hW1, hW2⟩ := hW
  obtain ⟨hH1, hH2⟩ := hH
  clear hmul
  generalize (H - 1 - D) * W = M at *
  have hW0 : W ≠ 0 := by omega
  have wa : IntKind.i64.wrap ((H : Int) - 1) = (H : Int) - 1 := wrap64_fit (by omega) (by omega)
  have wb : IntKind.i64.wrap (D : Int) = (D : Int) := wrap64_fit (by omega) (by omega)
  have wc : IntKind.i64.wrap ((H : Int) - 1 - (D : Int)) = (H : Int) - 1 - (D : Int) := wrap64_fit (by omega) (by omega)
  have wd : IntKind.i64.wrap (R : Int) = (R : Int) := wrap64_fit (by omega) (by omega)
  have we : IntKind.i64.wrap ((M : Int) + (R : Int)) = (M : Int) + (R : Int) := wrap64_fit (by omega) (by omega)
  go_enter Tryz.func39, Tryz.ntmps39
  go_wp2_with fail
  refine wp_region_lets [(· = .pointer (some ⟨w.heap.size, 1, none⟩)),
    (· = .int .i64 (H : Nat)),
    (· = .int .i64 ((H : Int) - 1)),
    (· = .int .i64 (i : Nat)),
    (· = .pointer (some ⟨w.heap.size, 0, none⟩)),
    (· = .int .i64 (W : Nat)),
    (· = .int .i64 (D : Nat)),
    (· = .int .i64 ((H : Int) - 1 - (D : Int))),
    (· = .pointer (some ⟨w.heap.size, 0, none⟩)),
    (· = .int .i64 (W : Nat)),
    (· = .int .i64 (M : Nat)),
    (· = .int .i64 (i : Nat)),
    (· = .pointer (some ⟨w.heap.size, 0, none⟩)),
    (· = .int .i64 (W : Nat)),
    (· = .int .i64 (R : Nat)),
    (· = .int .i64 ((M : Int) + (R : Int))),
    (· = .int .i64 ((M : Int) + (R : Int)))] (by kernel_rfl) (by kernel_rfl) ?_
  refine lexL_step (fun K hK => ⟨by kernel_rfl, ⟨_, rfl⟩, fun n => ?_, fun v hv => ?_⟩)
  · go_simp
    exact lUpon_one
  subst hv
  go_simp
  refine hK _ ?_
  clear hK K
  refine lexL_step (fun K hK => ⟨by kernel_rfl, ⟨_, rfl⟩, fun n => ?_, fun v hv => ?_⟩)
  · go_simp
    exact lUpon_one
  subst hv
  go_simp
  refine hK _ ?_
  clear hK K
  refine lexL_step (fun K hK => ⟨by kernel_rfl, ⟨_, rfl⟩, fun n => ?_, fun v hv => ?_⟩)
  · go_simp
    exact lUpon_one
  subst hv
  go_simp
  refine hK _ ?_
  clear hK K
  refine lexL_step (fun K hK => ⟨by kernel_rfl, ⟨_, rfl⟩, fun n => ?_, fun v hv => ?_⟩)
  · go_simp
    exact lUpon_one
  subst hv
  go_simp
  refine hK _ ?_
  clear hK K
  refine lexL_step (fun K hK => ⟨by kernel_rfl, ⟨_, rfl⟩, fun n => ?_, fun v hv => ?_⟩)
  · go_simp
    exact lUpon_one
  subst hv
  go_simp
  refine hK _ ?_
  clear hK K
  refine lexL_step (fun K hK => ⟨by kernel_rfl, ⟨_, rfl⟩, fun n => ?_, fun v hv => ?_⟩)
  · go_simp
    exact lUpon_one
  subst hv
  go_simp
  refine hK _ ?_
  clear hK K
  refine lexL_step (fun K hK => ⟨by kernel_rfl, ⟨_, rfl⟩, fun n => ?_, fun v hv => ?_⟩)
  · go_simp
    exact lUpon_one
  subst hv
  go_simp
  refine hK _ ?_
  clear hK K
  refine lexL_step (fun K hK => ⟨by kernel_rfl, ⟨_, rfl⟩, fun n => ?_, fun v hv => ?_⟩)
  · go_simp
    exact lUpon_one
  subst hv
  go_simp
  refine hK _ ?_
  clear hK K
  refine lexL_step (fun K hK => ⟨by kernel_rfl, ⟨_, rfl⟩, fun n => ?_, fun v hv => ?_⟩)
  · go_simp
    exact lUpon_one
  subst hv
  go_simp
  refine hK _ ?_
  clear hK K
  refine lexL_step (fun K hK => ⟨by kernel_rfl, ⟨_, rfl⟩, fun n => ?_, fun v hv => ?_⟩)
  · go_simp
    exact lUpon_one
  subst hv
  go_simp
  refine hK _ ?_
  clear hK K
  refine lexL_step (fun K hK => ⟨by kernel_rfl, ⟨_, rfl⟩, fun n => ?_, fun v hv => ?_⟩)
  · go_simp
    exact lUpon_one
  subst hv
  go_simp
  refine hK _ ?_
  clear hK K
  refine lexL_step (fun K hK => ⟨by kernel_rfl, ⟨_, rfl⟩, fun n => ?_, fun v hv => ?_⟩)
  · go_simp
    exact lUpon_one
  subst hv
  go_simp
  refine hK _ ?_
  clear hK K
  refine lexL_step (fun K hK => ⟨by kernel_rfl, ⟨_, rfl⟩, fun n => ?_, fun v hv => ?_⟩)
  · go_simp
    exact lUpon_one
  subst hv
  go_simp
  refine hK _ ?_
  clear hK K
  refine lexL_step (fun K hK => ⟨by kernel_rfl, ⟨_, rfl⟩, fun n => ?_, fun v hv => ?_⟩)
  · go_simp
    exact lUpon_one
  subst hv
  go_simp
  refine hK _ ?_
  clear hK K
  refine lexL_step (fun K hK => ⟨by kernel_rfl, ⟨_, rfl⟩, fun n => ?_, fun v hv => ?_⟩)
  · go_simp
    exact lUpon_one
  subst hv
  go_simp
  refine hK _ ?_
  clear hK K
  refine lexL_step (fun K hK => ⟨by kernel_rfl, ⟨_, rfl⟩, fun n => ?_, fun v hv => ?_⟩)
  · go_simp
    exact lUpon_one
  subst hv
  go_simp
  refine hK _ ?_
  clear hK K
  refine lexL_step (fun K hK => ⟨by kernel_rfl, ⟨_, rfl⟩, fun n => ?_, fun v hv => ?_⟩)
  · go_simp
    exact lUpon_one
  subst hv
  go_simp
  refine hK _ ?_
  clear hK K
  refine lexL_end ?_
  intro n9
  replace HB := hideR (below_go (unhideR HB) (drawn_below _ n9))
  clear c0 c1 c2
  go_wp2
  go_ret
  exact ⟨by rw [Int.natCast_add]; rfl, unhideR HB⟩
theorem pic_no {c1 c2 c3 : Value} : ∀ cs fr, (.cells #[c1, c2, c3] 33 : Obj) ≠ .cells cs 5 fr := fun cs fr q => by
  injection q with _ q2
  revert q2
  decide
theorem hi_is (c : Nat) : (((hi8 c).toNat : Nat) : Int) = (((c + 32768) % 65536 / 256 : Nat) : Int) := by
  unfold hi8
  rw [UInt8.toNat_ofNat', Nat.mod_eq_of_lt (show _ < 2 ^ 8 by omega)]
theorem lo_is (c : Nat) : (((lo8 c).toNat : Nat) : Int) = (((c + 32768) % 65536 % 256 : Nat) : Int) := by
  unfold lo8
  rw [UInt8.toNat_ofNat', Nat.mod_eq_of_lt (show _ < 2 ^ 8 by omega)]
theorem pix_turn {W H k : Nat} {L : List Int} : pixAt ⟨W, H, L⟩ k = (L.getD (turnI W H k) 0).toNat := by
  unfold pixAt turnI
  simp only [Int.toNat_natCast]
set_option maxRecDepth 100000 in
set_option maxHeartbeats 3200000 in
theorem withCounts_any {w : World} {ap : Option Addr} {cp W H B : Nat} {L : List Int} {v : Value} {b : Bs} (hB : B ≤ w.heap.size) (h : BOwn w B v b) (hb : b.length ≤ 500000) (hok : PicOk ⟨W, H, L⟩) (hp : ∀ u, Below B w u → ICame u ap L) :
    Calls Tryz.prog 18 #[v, .agg #[.int .i64 (W : Nat), .int .i64 (H : Nat), .slice ap L.length cp]] w (RowPostT B w (fillV 2880 0 (b ++ dataV ⟨W, H, L⟩ L.length))) := by
  obtain ⟨i0, hi0, hz0, hz1, hz2⟩ := info_parts infoB
  have hbl := below_a w (.cells #[.int .i64 (W : Nat), .int .i64 (H : Nat), .slice ap L.length cp] 33)
  have HG := hideR (alloc_last w (.cells #[.int .i64 (W : Nat), .int .i64 (H : Nat), .slice ap L.length cp] 33))
  have HO := hideR (h.below hbl)
  have HK := hideR (hbl.mono hB)
  have HT := hideR (tk_below hbl)
  have HP := hideR hp
  have HOk := hideR hok
  have w1 := hok.w1
  have w2 := hok.w2
  have h1 := hok.h1
  have h2 := hok.h2
  simp only at w1 w2 h1 h2
  have hlen : L.length = W * H := by
    have := pix_len hok
    simpa using this
  have hfew := hok.few
  simp only at hfew
  have HLen := hideR hlen
  clear hlen
  obtain ⟨p0, p1, p2⟩ := pic_three (unhideR HG)
  clear h hbl hp hok
  go_enter Tryz.func18, Tryz.ntmps18
  go_wp2
  go_loopw [0, 10] (fun bv kv wl => ∃ k : Nat, k ≤ L.length ∧ kv = .int .i64 (k : Nat) ∧ HeldR (BOwn wl B bv (b ++ dataV ⟨W, H, L⟩ k)) ∧ HeldR (Below B w wl) ∧ HeldR (Tkeep w wl) ∧ HeldR (wl.heap[w.heap.size]? = some (.cells #[.int .i64 (W : Nat), .int .i64 (H : Nat), .slice ap L.length cp] 33))) (fun _ kv _ => L.length + 1 - (intOf kv).toNat)
  case atStart => exact ⟨0, by omega, rfl, by rw [show dataV ⟨W, H, L⟩ 0 = [] from rfl, List.append_nil]; exact HO, HK, HT, HG⟩
  case round =>
    clear HO HK HT HG p0 p1 p2
    obtain ⟨k, hk, rfl, HO, HK, HT, HG⟩ := hrel
    have hld : (b ++ dataV ⟨W, H, L⟩ k).length = b.length + 2 * k := by rw [List.length_append, data_length]
    have lsz := Nat.le_trans hB (unhideR HK).size
    by_cases hlt : k < L.length
    · have hkWH : k < W * H := by rw [← unhideR HLen]; exact hlt
      have hT := turn_lt (W := W) (H := H) (i := k) (by omega) hkWH
      rw [← unhideR HLen] at hT
      have hfb := fun u => fromBelow_any (ap := ap) (n := L.length) (cp := cp) (W := W) (H := H) (i := k) u (by omega) (by omega) hkWH
      clear hkWH
      have hx := (unhideR HOk).each (turnI W H k) hT
      obtain ⟨bp, op, rfl, lbp, x1⟩ := (unhideR HP _ (unhideR HK)).at_ (turnI W H k) hT
      have HD := hideR (data_succ ⟨W, H, L⟩ k)
      rw [pix_turn] at HD
      simp only at hx
      generalize L.getD (turnI W H k) 0 = x at *
      obtain ⟨c, rfl⟩ : ∃ c : Nat, x = (c : Nat) := ⟨x.toNat, by omega⟩
      rw [Int.toNat_natCast] at HD
      have hst := fun u => stored_any c (by omega) u
      have hu : IntKind.u16.wrap ((c : Int) - 32768) = (((c + 32768) % 65536 : Nat) : Int) := by unfold IntKind.wrap; simp [IntKind.signed, IntKind.bits]; omega
      have hhi := hi_is c
      have hlo := lo_is c
      generalize turnI W H k = T at *
      generalize hm : (c + 32768) % 65536 = m at *
      have hm16 : m < 65536 := by omega
      clear hm
      go_wp2_with fail
      refine wp_region_letsB wr.heap.size [(· = .pointer (some ⟨w.heap.size, 2, none⟩)), (· = .slice (some ⟨bp, op, none⟩) L.length cp), (· = .agg #[.int .i64 (W : Nat), .int .i64 (H : Nat), .slice (some ⟨bp, op, none⟩) L.length cp]), (· = .int .i64 (k : Nat)), (· = .int .i64 (T : Nat)), (· = .pointer (some ⟨bp, op + T, none⟩)), (· = .int .i64 (c : Nat)), (· = .int .i16 ((c : Int) - 32768)), (· = .int .u16 (m : Nat)), (· = .int .u16 (m : Nat))] (by kernel_rfl) (by kernel_rfl) ?_
      refine lexB_step (fun K hK => ⟨by kernel_rfl, ⟨_, rfl⟩, fun v hv => ?_, fun v hv => ?_⟩)
      · go_simp
        exact lUpon_b hv
      subst hv
      go_simp
      refine hK _ ?_
      clear hK K
      refine lexB_step (fun K hK => ⟨by kernel_rfl, ⟨_, rfl⟩, fun v hv => ?_, fun v hv => ?_⟩)
      · have c' : v.cell? ⟨w.heap.size, 2, none⟩ = some (.slice (some ⟨bp, op, none⟩) L.length cp) := (pic_three (keepB (unhideR HG) hv)).2.2
        go_simp
        exact lUpon_b hv
      subst hv
      go_simp
      refine hK _ ?_
      clear hK K
      refine lexB_step (fun K hK => ⟨by kernel_rfl, ⟨_, rfl⟩, fun v hv => ?_, fun v hv => ?_⟩)
      · have c' : v.cell? ⟨w.heap.size, 0, none⟩ = some (.int .i64 (W : Nat)) := (pic_three (keepB (unhideR HG) hv)).1
        have c' : v.cell? ⟨w.heap.size, 1, none⟩ = some (.int .i64 (H : Nat)) := (pic_three (keepB (unhideR HG) hv)).2.1
        have c' : v.cell? ⟨w.heap.size, 2, none⟩ = some (.slice (some ⟨bp, op, none⟩) L.length cp) := (pic_three (keepB (unhideR HG) hv)).2.2
        go_simp
        exact lUpon_b hv
      subst hv
      go_simp
      refine hK _ ?_
      clear hK K
      refine lexB_step (fun K hK => ⟨by kernel_rfl, ⟨_, rfl⟩, fun v hv => ?_, fun v hv => ?_⟩)
      · go_simp
        exact lUpon_b hv
      subst hv
      go_simp
      refine hK _ ?_
      clear hK K
      refine lexB_step (fun K hK => ⟨by kernel_rfl, ⟨_, rfl⟩, fun v hv => ?_, fun v hv => ?_⟩)
      · go_simp
        refine (hfb _).mono ?_
        rintro e w9 ⟨rfl, k⟩
        exact ⟨_, rfl, rfl, below_on2 hv (Nat.le_refl _) k⟩
      subst hv
      go_simp
      refine hK _ ?_
      clear hK K
      refine lexB_step (fun K hK => ⟨by kernel_rfl, ⟨_, rfl⟩, fun v hv => ?_, fun v hv => ?_⟩)
      · go_simp
        exact lUpon_b hv
      subst hv
      go_simp
      refine hK _ ?_
      clear hK K
      refine lexB_step (fun K hK => ⟨by kernel_rfl, ⟨_, rfl⟩, fun v hv => ?_, fun v hv => ?_⟩)
      · have c' : v.cell? ⟨bp, op + T, none⟩ = some (.int .i64 (c : Nat)) := (hv.cell (p := ⟨bp, op + T, none⟩) lbp).trans x1
        go_simp
        exact lUpon_b hv
      subst hv
      go_simp
      refine hK _ ?_
      clear hK K
      refine lexB_step (fun K hK => ⟨by kernel_rfl, ⟨_, rfl⟩, fun v hv => ?_, fun v hv => ?_⟩)
      · go_simp
        refine (hst _).mono ?_
        rintro e w9 ⟨rfl, rfl⟩
        exact ⟨_, rfl, rfl, hv⟩
      subst hv
      go_simp
      refine hK _ ?_
      clear hK K
      refine lexB_step (fun K hK => ⟨by kernel_rfl, ⟨_, rfl⟩, fun v hv => ?_, fun v hv => ?_⟩)
      · go_simp
        exact lUpon_b hv
      subst hv
      go_simp
      refine hK _ ?_
      clear hK K
      refine lexB_step (fun K hK => ⟨by kernel_rfl, ⟨_, rfl⟩, fun v hv => ?_, fun v hv => ?_⟩)
      · go_simp
        exact lUpon_b hv
      subst hv
      go_simp
      refine hK _ ?_
      clear hK K
      refine lexL_end ?_
      intro v9 hv9
      replace HK := hideR ((unhideR HK).trans (hv9.mono lsz))
      replace HT := hideR ((unhideR HT).trans (tk_below hv9))
      replace HG := hideR (keepB (unhideR HG) hv9)
      replace HO := hideR ((unhideR HO).below hv9)
      clear hfb hst x1 hv9 hu lsz
      have lsz := Nat.le_trans hB (unhideR HK).size
      have HO' : HeldR (v9.ownsRow B 5 1 u0 (b.length + 2 * k) (byCells (b ++ dataV ⟨W, H, L⟩ k))) := by
        have := unhideR HO
        unfold BOwn at this
        rw [hld] at this
        exact this
      have hb1 : byV (hi8 c) = .int .u8 ((m : Int) / 256) := by unfold byV; rw [hhi, Int.natCast_ediv]; rfl
      have hb2 : byV (lo8 c) = .int .u8 ((m : Int) % 256) := by unfold byV; rw [hlo, Int.natCast_emod]; rfl
      have HNx : HeldR (byCells (b ++ dataV ⟨W, H, L⟩ (k + 1)) = byCells (b ++ dataV ⟨W, H, L⟩ k) ++ [.int .u8 ((m : Int) / 256), .int .u8 ((m : Int) % 256)]) := by
        refine hideR ?_
        rw [unhideR HD, ← List.append_assoc]
        unfold byCells
        rw [List.map_append (l₁ := b ++ dataV ⟨W, H, L⟩ k), List.map_cons, List.map_cons, List.map_nil, hb1, hb2]
      have HLx : HeldR ((b ++ dataV ⟨W, H, L⟩ (k + 1)).length = b.length + 2 * k + 2) := hideR (by rw [List.length_append, data_length]; omega)
      clear hb1 hb2 hhi hlo HD HO hld
      generalize byCells (b ++ dataV ⟨W, H, L⟩ k) = A at *
      go_wp2_with (first
        | (at_builtin; refine wpList_append_own _ rfl _ _ 27 rfl B 5 i0 (.int .u8 0) 1 1 Tryz.underlying27 hi0 hz0 hz1 hz2 rfl (by decide) _ (b.length + 2 * k) A rfl (own_below2 (unhideR HO') (below_a _ _)) ⟨v9.heap.size, 0, none⟩ 2 2 [.int .u8 ((m : Int) / 256), .int .u8 ((m : Int) % 256)] rfl rfl ?c1 ?c2 ?c3 ?c4 ?c5 ?_))
      case c1 =>
        intro j u hu
        rcases j with _ | _ | j
        · cases hu
          rw [add_pl2]
          exact (cells_at (alloc_last v9 _) 0 (by simp)).1
        · cases hu
          rw [add_pl2]
          exact (cells_at (alloc_last v9 _) 1 (by simp)).1
        · simp at hu
      case c2 =>
        intro u hu
        simp only [List.mem_cons, List.not_mem_nil, or_false] at hu
        rcases hu with rfl | rfl <;> rfl
      case c3 => unfold maxLen; omega
      case c4 => omega
      case c5 => simp; omega
      intro v3 w3 hown3 hgrow3 _
      have B3 := hideR (((unhideR HK).alloc lsz _).grown hgrow3 (by simp; omega) (fun g h => own_at2 (unhideR HO') g h))
      have T3 := hideR ((unhideR HT).trans ((tk_below (below_a v9 _)).trans (tk_grown (own_below2 (unhideR HO') (below_a v9 _)) hgrow3)))
      have G3 := hideR (tk_grown (own_below2 (unhideR HO') (below_a v9 _)) hgrow3 _ _ (keepA (unhideR HG)) pic_no)
      have O3 : HeldR (BOwn w3 B v3 (b ++ dataV ⟨W, H, L⟩ (k + 1))) := by
        unfold HeldR BOwn
        rw [unhideR HNx, unhideR HLx]
        exact hown3
      clear hown3 hgrow3 HO' HNx HLx HK HT HG
      go_wp2
      exact ⟨⟨k + 1, by omega, by go_num, O3, B3, T3, G3⟩, by simp [intOf]; omega⟩
    · obtain rfl : k = L.length := by omega
      have hp := filled_any 2880 0 lsz (unhideR HO) (by decide) (by decide) (by rw [hld]; omega)
      rw [show (((2880 : Nat) : Nat) : Int) = 2880 from rfl, show (((0 : UInt8).toNat : Nat) : Int) = 0 from rfl] at hp
      clear HO hld HG
      go_wp2_with fail
      refine hp.mono ?_
      rintro e w5 ⟨v5, rfl, hO5, hB5, hT5⟩
      have HF : HeldR (RowPostT B w (fillV 2880 0 (b ++ dataV ⟨W, H, L⟩ L.length)) (.returned v5) w5) := hideR ⟨v5, rfl, hO5, (unhideR HK).trans hB5, (unhideR HT).trans hT5⟩
      clear hp hO5 hB5 hT5
      go_wp2
      go_ret
      exact unhideR HF
end Go.Proofs.YtncbmkflilcdgaiGreatDoor
