/-
  The program's At and Valid, by contract (At asks Valid first).
-/
import Derived.Test.YtncbmkflilcdgaiGreatDoorDF1
namespace Go.Proofs.YtncbmkflilcdgaiGreatDoor
open Go Go.RowKit

theorem wrap_small {x : Int} (h1 : -9223372036854775808 ≤ x) (h2 : x ≤ 9223372036854775807) : IntKind.i64.wrap x = x := by
  unfold IntKind.wrap
  simp [IntKind.signed, IntKind.bits]
  omega
set_option maxRecDepth 100000 in
set_option maxHeartbeats 1600000 in
theorem at_any {a : Nat → Addr} {w : World} {v : Value} {p : Pic} (x y : Int) (hS : Sents w a) (hv : PicV w v p) : Calls Tryz.prog 15 #[v, .int .i64 x, .int .i64 y] w fun e w' => e = .returned (.tuple #[.int .i64 (atV p x y), .bool (atB p x y)]) ∧ Below w.heap.size w w' := by
  obtain ⟨ad, cap, rfl, hc, hl⟩ := hv
  obtain ⟨W, H, L⟩ := p
  simp only at hc hl ⊢
  have hb := below_a w (.cells #[.int .i64 W, .int .i64 H, .slice ad L.length cap] 33)
  have HG := hideR (alloc_last w (.cells #[.int .i64 W, .int .i64 H, .slice ad L.length cap] 33))
  obtain ⟨c0, c1, c2⟩ := pic_three (unhideR HG)
  have hva := valid_any (v := .agg #[.int .i64 W, .int .i64 H, .slice ad L.length cap]) (p := ⟨W, H, L⟩) (hS.below hb (Nat.le_refl _)) ⟨ad, cap, rfl, hc.below hb, hl⟩
  have HC := hideR hc
  have HB := hideR hb
  clear hb hS hc
  have hno : ∀ q : ¬ (picE ⟨W, H, L⟩ = 0 ∧ 0 ≤ x ∧ 0 ≤ y ∧ x < W ∧ y < H), atB ⟨W, H, L⟩ x y = false ∧ atV ⟨W, H, L⟩ x y = 0 := fun q => by
    have hB : atB ⟨W, H, L⟩ x y = false := by
      cases e : atB ⟨W, H, L⟩ x y with
      | false => rfl
      | true => obtain ⟨k, q1, q2, q3, q4, _⟩ := at_in e; exact absurd ⟨pic_right k, q1, q2, q3, q4⟩ q
    exact ⟨hB, by unfold atV; rw [if_neg (by rw [hB]; exact Bool.false_ne_true)]⟩
  by_cases hin : picE ⟨W, H, L⟩ = 0 ∧ 0 ≤ x ∧ 0 ≤ y ∧ x < W ∧ y < H
  · obtain ⟨hE, i1, i2, i3, i4⟩ := hin
    have hB : atB ⟨W, H, L⟩ x y = true := by unfold atB; simp [hE, i1, i2, i3, i4]
    obtain ⟨_, _, _, _, _, a1, a2, a3⟩ := at_in hB
    simp only at a1 a2 a3
    have hV : atV ⟨W, H, L⟩ x y = L.getD (y * W + x).toNat 0 := by unfold atV; rw [if_pos hB]
    obtain ⟨r, hr⟩ : ∃ r, L.getD (y * W + x).toNat 0 = r := ⟨_, rfl⟩
    rw [hB, hV, hr]
    have HRr := hideR hr
    clear hB hV hno hr
    have HE := hideR hE
    clear hE
    have iw : IntKind.i64.wrap (y * W) = y * W := wrap_small (by omega) (by omega)
    have hmL := (pic_ok (unhideR HE)).few
    simp only at hmL
    go_enter Tryz.func15, Tryz.ntmps15
    go_wp2_with fail
    refine hva.mono ?_
    rintro e w1 ⟨er, rfl, her, k1⟩
    obtain rfl : er = .nilIface := by
      rcases her with ⟨_, e⟩ | ⟨k, _, q, _⟩
      · exact e
      · rw [unhideR HE] at q; omega
    obtain ⟨z0, z1, z2⟩ := pic_three (keepB (unhideR HG) k1)
    obtain ⟨b, o, rfl, _, hx⟩ := ((unhideR HC).below (below_go (unhideR HB) k1)).at_ _ a3
    replace HB := hideR (below_go (unhideR HB) k1)
    rw [unhideR HRr] at hx
    generalize hM : y * W = M at iw a1 a2 a3 hx
    have hlx : M + x < (L.length : Int) := by omega
    clear hva her k1 c0 c1 c2 a3
    go_wp2
    go_ret2
    exact ⟨rfl, unhideR HB⟩
  · obtain ⟨hB, hV⟩ := hno hin
    rw [hB, hV]
    clear hB hV hno
    go_enter Tryz.func15, Tryz.ntmps15
    go_wp2_with fail
    refine hva.mono ?_
    rintro e w1 ⟨er, rfl, her, k1⟩
    obtain ⟨z0, z1, z2⟩ := pic_three (keepB (unhideR HG) k1)
    replace HB := hideR (below_go (unhideR HB) k1)
    by_cases hE : picE ⟨W, H, L⟩ = 0
    · obtain rfl : er = .nilIface := by
        rcases her with ⟨_, e⟩ | ⟨k, _, q, _⟩
        · exact e
        · rw [hE] at q; omega
      have hin2 : ¬ (0 ≤ x ∧ 0 ≤ y ∧ x < W ∧ y < H) := fun k => hin ⟨hE, k⟩
      clear hva her k1 c0 c1 c2 hin hE
      by_cases j1 : x < 0
      · clear hin2
        go_wp2
        go_ret2
        exact ⟨rfl, unhideR HB⟩
      · by_cases j2 : W ≤ x
        · clear hin2
          go_wp2
          go_ret2
          exact ⟨rfl, unhideR HB⟩
        · by_cases j3 : y < 0
          · clear hin2
            go_wp2
            go_ret2
            exact ⟨rfl, unhideR HB⟩
          · have j4 : H ≤ y := by omega
            clear hin2
            go_wp2
            go_ret2
            exact ⟨rfl, unhideR HB⟩
    · obtain ⟨k, hk, rfl⟩ : ∃ k : Nat, k < 10 ∧ er = .iface 180 (.pointer (some (a k))) := by
        rcases her with ⟨q, _⟩ | ⟨k, hk, _, e⟩
        · exact absurd q hE
        · exact ⟨k, hk, e⟩
      clear hva her k1 c0 c1 c2 hin hE
      go_wp2
      go_ret2
      exact ⟨rfl, unhideR HB⟩
theorem fr_ok (a : Nat → Addr) : FrOK a := ⟨fun x y hs hv => at_any x y hs hv, fun hs hv => valid_any hs hv⟩
end Go.Proofs.YtncbmkflilcdgaiGreatDoor
