/-
  The program's pictures: means, light, empty ones, and what is wrong with several.
-/
import Derived.Test.YtncbmkflilcdgahDoorDF1
import Derived.Laws.OwnMore
namespace Go.Proofs.YtncbmkflilcdgahDoor
open Go Go.RowKit

theorem wrap_fit {x : Int} (h1 : -9223372036854775808 ≤ x) (h2 : x ≤ 9223372036854775807) : IntKind.i64.wrap x = x := by
  unfold IntKind.wrap
  simp [IntKind.signed, IntKind.bits]
  omega
/-! pictures that should be of one size -/
def wtE (p : Pic) (Ls : List Pic) : Int := if picE p ≠ 0 then picE p else if firstE Ls ≠ 0 then firstE Ls else if (Ls.all fun q => decide (q.wide = p.wide) && decide (q.high = p.high)) = false then 5 else 0
def WtPost (a : Nat → Addr) (E : Int) (w : World) (e : Ending) (w' : World) : Prop := ∃ er, e = .returned er ∧ ErrIs a E er ∧ Below w.heap.size w w'
theorem err_some {a : Nat → Addr} {E : Int} {er : Value} (h : ErrIs a E er) (h0 : E ≠ 0) : ∃ k : Nat, k < 10 ∧ er = .iface 233 (.pointer (some (a k))) := by
  rcases h with ⟨q, _⟩ | ⟨k, hk, _, e⟩
  · exact absurd q h0
  · exact ⟨k, hk, e⟩
theorem err_nil {a : Nat → Addr} {E : Int} {er : Value} (h : ErrIs a E er) (h0 : E = 0) : er = .nilIface := by
  rcases h with ⟨_, e⟩ | ⟨k, hk, q, _⟩
  · exact e
  · omega
theorem pic_val {w : World} {b o cap : Nat} {ad : Option Addr} {p : Pic} (h : PicAt w b o ad cap p) (hl : p.L.length * 8 ≤ 140737488355328) : PicV w (.agg #[.int .i64 p.wide, .int .i64 p.high, .slice ad p.L.length cap]) p := ⟨ad, cap, rfl, h.row, hl⟩
set_option maxRecDepth 100000 in
set_option maxHeartbeats 3200000 in
theorem together_any {a : Nat → Addr} {w : World} {v : Value} {p : Pic} {am : Option Addr} {cm : Nat} {Ls : List Pic} (hS : Sents w a) (hv : PicV w v p) (hm : PCame w am Ls) (hl : Ls.length ≤ 9223372036854775806) :
    Calls Tryd.prog 80 #[v, .slice am Ls.length cm] w (WtPost a (wtE p Ls) w) := by
  obtain ⟨ad, cap, rfl, hc, hlp⟩ := hv
  obtain ⟨W, H, L⟩ := p
  simp only at hc hlp
  have hb := below_a w (.cells #[.int .i64 W, .int .i64 H, .slice ad L.length cap] 94)
  have HG := hideR (alloc_last w (.cells #[.int .i64 W, .int .i64 H, .slice ad L.length cap] 94))
  have HS := hideR (hS.below hb (Nat.le_refl _))
  have hp0 : PicV (w.alloc (.cells #[.int .i64 W, .int .i64 H, .slice ad L.length cap] 94)) (.agg #[.int .i64 W, .int .i64 H, .slice ad L.length cap]) ⟨W, H, L⟩ := ⟨ad, cap, rfl, hc.below hb, hlp⟩
  have HM := hideR (hm.below hb)
  have HB := hideR hb
  have hv1 := valid_any (unhideR HS) hp0
  clear hp0 hb hc hS hm hlp
  have c0 := (pic_three (unhideR HG)).1
  have c1 := (pic_three (unhideR HG)).2.1
  have c2 := (pic_three (unhideR HG)).2.2
  generalize hE : wtE ⟨W, H, L⟩ Ls = E
  have HE := hideR hE
  clear hE
  go_enter Tryd.func80, Tryd.ntmps80
  generalize hW0 : w.alloc (.cells #[.int .i64 W, .int .i64 H, .slice ad L.length cap] 94) = W0 at *
  go_wp2_with fail
  refine hv1.mono ?_
  rintro e w1 ⟨er, rfl, her, k1⟩
  have HW := hideR (Below.refl W0.heap.size W0 |> fun h => below_go h k1)
  clear hv1 c0 c1 c2 k1
  by_cases e1 : picE ⟨W, H, L⟩ = 0
  case neg =>
    obtain ⟨k, hk, rfl⟩ := err_some her e1
    have HX : HeldR (WtPost a E w (.returned (.iface 233 (.pointer (some (a k))))) w1) := by
      refine hideR ⟨_, rfl, ?_, below_go (unhideR HB) (unhideR HW)⟩
      rw [← unhideR HE]
      unfold wtE
      rw [if_pos e1]
      exact her
    clear her e1
    go_wp2
    go_ret
    exact unhideR HX
  case pos =>
    obtain rfl := err_nil her e1
    have HE1 := hideR e1
    clear her e1
    go_wp2
    go_loopw [18] (fun kv wl => ∃ k : Nat, k ≤ Ls.length ∧ kv = .int .i64 (k : Nat) ∧ HeldR (∀ j, j < k → picE (Ls.getD j pic0) = 0) ∧ HeldR (Below W0.heap.size W0 wl)) (fun kv _ => Ls.length + 1 - (intOf kv).toNat)
    case atStart => exact ⟨0, by omega, rfl, hideR (fun j hj => absurd hj (Nat.not_lt_zero j)), HW⟩
    case round =>
      clear HW
      obtain ⟨k, hk, rfl, HZ, HW⟩ := hrel
      by_cases hlt : k < Ls.length
      · obtain ⟨b, off, adk, capk, rfl, hp, hpl⟩ := ((unhideR HM).below (unhideR HW)).at_ k hlt
        generalize hpk : Ls.getD k pic0 = q at hp hpl
        have HQ := hideR hpk
        clear hpk
        obtain ⟨low, x0, x1, x2, row⟩ := hp
        have hb2 := below_a wr (.cells #[.int .i64 q.wide, .int .i64 q.high, .slice adk q.L.length capk] 94)
        obtain ⟨y0, y1, y2⟩ := pic_three (alloc_last wr (.cells #[.int .i64 q.wide, .int .i64 q.high, .slice adk q.L.length capk] 94))
        have hq : PicV (wr.alloc (.cells #[.int .i64 q.wide, .int .i64 q.high, .slice adk q.L.length capk] 94)) (.agg #[.int .i64 q.wide, .int .i64 q.high, .slice adk q.L.length capk]) q := ⟨adk, capk, rfl, row.below hb2, hpl⟩
        have hv2 := valid_any ((unhideR HS).below (below_go (unhideR HW) hb2) (Nat.le_refl _)) hq
        replace HW := hideR (below_go (unhideR HW) hb2)
        clear hq hb2 row low
        go_wp2_with fail
        refine hv2.mono ?_
        rintro e w2 ⟨er, rfl, her, k2⟩
        replace HW := hideR (below_go (unhideR HW) k2)
        clear hv2 k2 y0 y1 y2 x0 x1 x2
        by_cases e2 : picE q = 0
        case neg =>
          obtain ⟨i, hi, rfl⟩ := err_some her e2
          have HX : HeldR (WtPost a E w (.returned (.iface 233 (.pointer (some (a i))))) w2) := by
            refine hideR ⟨_, rfl, ?_, below_go (unhideR HB) (unhideR HW)⟩
            rw [← unhideR HE]
            have e3 : firstE Ls = picE q := by
              have := firstE_at (unhideR HZ) hlt (by rw [unhideR HQ]; exact e2)
              rwa [unhideR HQ] at this
            unfold wtE
            rw [if_neg (fun k => k (unhideR HE1)), e3, if_pos e2]
            exact her
          clear her e2
          go_wp2
          go_ret
          exact unhideR HX
        case pos =>
          obtain rfl := err_nil her e2
          have HE2 := hideR e2
          clear her e2
          go_wp2
          refine ⟨⟨k + 1, by omega, by go_num, hideR (fun j hj => ?_), HW⟩, by simp [intOf]; omega⟩
          by_cases ej : j = k
          · rw [ej, unhideR HQ]; exact unhideR HE2
          · exact (unhideR HZ) j (by omega)
      · obtain rfl : k = Ls.length := by omega
        have HF0 := hideR (firstE_zero (unhideR HZ))
        clear HZ
        go_wp2
        go_loopw [30] (fun kv wl => ∃ k : Nat, k ≤ Ls.length ∧ kv = .int .i64 (k : Nat) ∧ HeldR (∀ j, j < k → (Ls.getD j pic0).wide = W ∧ (Ls.getD j pic0).high = H) ∧ HeldR (Below W0.heap.size W0 wl)) (fun kv _ => Ls.length + 1 - (intOf kv).toNat)
        case atStart => exact ⟨0, by omega, rfl, hideR (fun j hj => absurd hj (Nat.not_lt_zero j)), HW⟩
        case round =>
          clear HW
          obtain ⟨k, hk, rfl, HZ, HW⟩ := hrel
          by_cases hlt : k < Ls.length
          · obtain ⟨b, off, adk, capk, rfl, hp, hpl⟩ := ((unhideR HM).below (unhideR HW)).at_ k hlt
            generalize hpk : Ls.getD k pic0 = q at hp hpl
            have HQ := hideR hpk
            clear hpk
            obtain ⟨low, x0, x1, x2, row⟩ := hp
            have hb2 := below_a wr (.cells #[.int .i64 q.wide, .int .i64 q.high, .slice adk q.L.length capk] 94)
            obtain ⟨y0, y1, y2⟩ := pic_three (alloc_last wr (.cells #[.int .i64 q.wide, .int .i64 q.high, .slice adk q.L.length capk] 94))
            replace HW := hideR (below_go (unhideR HW) hb2)
            obtain ⟨z0, z1, z2⟩ := pic_three (keepB (unhideR HG) (unhideR HW))
            have s4 := ((unhideR HS).below (unhideR HW) (Nat.le_refl _)).g4
            clear hb2 row low hpl
            have HBad : HeldR (¬ (q.wide = W ∧ q.high = H) → E = 5) := by
              refine hideR (fun hno => ?_)
              rw [← unhideR HE]
              unfold wtE
              rw [if_neg (fun k => k (unhideR HE1)), if_neg (fun k => k (unhideR HF0)), if_pos]
              cases hall : (Ls.all fun q => decide (q.wide = W) && decide (q.high = H)) with
              | false => rfl
              | true => exact absurd (by have := size_at.1 hall k hlt; rwa [unhideR HQ] at this) hno
            by_cases d1 : q.wide = W
            · have t1 : (q.wide != W) = false := by simp [d1]
              by_cases d2 : q.high = H
              · have t2 : (q.high != H) = false := by simp [d2]
                have HD := hideR (⟨d1, d2⟩ : q.wide = W ∧ q.high = H)
                clear d1 d2
                go_wp2
                refine ⟨⟨k + 1, by omega, by go_num, hideR (fun j hj => ?_), HW⟩, by simp [intOf]; omega⟩
                by_cases ej : j = k
                · rw [ej, unhideR HQ]; exact unhideR HD
                · exact (unhideR HZ) j (by omega)
              · have t2 : (q.high != H) = true := by simp [d2]
                have HE5 := hideR (unhideR HBad (fun k => d2 k.2))
                clear d1 d2
                go_wp2
                go_ret
                exact ⟨_, rfl, by rw [unhideR HE5]; exact err_at 4 (by decide), below_go (unhideR HB) (unhideR HW)⟩
            · have t1 : (q.wide != W) = true := by simp [d1]
              have HE5 := hideR (unhideR HBad (fun k => d1 k.1))
              clear d1
              go_wp2
              go_ret
              exact ⟨_, rfl, by rw [unhideR HE5]; exact err_at 4 (by decide), below_go (unhideR HB) (unhideR HW)⟩
          · obtain rfl : k = Ls.length := by omega
            have HE0 : HeldR (E = 0) := by
              refine hideR ?_
              rw [← unhideR HE]
              unfold wtE
              rw [if_neg (fun k => k (unhideR HE1)), if_neg (fun k => k (unhideR HF0)), if_neg]
              rw [size_at.2 (unhideR HZ)]
              exact fun k => Bool.noConfusion k
            go_wp2
            go_ret
            exact ⟨_, rfl, by rw [unhideR HE0]; exact .inl ⟨rfl, rfl⟩, below_go (unhideR HB) (unhideR HW)⟩

end Go.Proofs.YtncbmkflilcdgahDoor
