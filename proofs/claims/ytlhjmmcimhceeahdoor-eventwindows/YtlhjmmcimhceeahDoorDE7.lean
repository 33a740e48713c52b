/-
  The program's peaks and dips of a whole track, by contract.
-/
import Derived.Test.YtlhjmmcimhceeahDoorDE6
namespace Go.Proofs.YtlhjmmcimhceeahDoor
open Go Go.RowKit

set_option maxRecDepth 100000 in
set_option maxHeartbeats 1600000 in
theorem turns_any {w : World} {v : Value} {t : Tr} (lev : Int) (h : TrV w v t) (hO : TrOk t) :
    Calls Tryd.prog 35 #[v, .int .i64 lev] w fun e w' => ∃ u, e = .returned u ∧ w'.ownsRow w.heap.size 56 3 u (turns t lev (t.L.length - 2)).length (flatEv (turns t lev (t.L.length - 2))) ∧ Below w.heap.size w w' := by
  obtain ⟨i0, hi0, hz0, hz1, hz2⟩ := info_parts infoEv
  have HV := hideR h
  obtain ⟨ad, cap, rfl, hi⟩ := h
  obtain ⟨b1, o1, rfl, _, _⟩ := hi.at_ 0 (by have := hO.n1; omega)
  have n1 := hO.n1
  have n2 := hO.n2
  have HO := hideR hO
  clear hO
  go_enter Tryd.func35, Tryd.ntmps35
  go_wp2
  have HB := hideR (alloc_last w (.cells #[.int .i64 t.fr, .int .i64 t.st, .slice (some ⟨b1, o1, none⟩) t.L.length cap] 32))
  have HW := hideR (below_a w (.cells #[.int .i64 t.fr, .int .i64 t.st, .slice (some ⟨b1, o1, none⟩) t.L.length cap] 32))
  have hs1 : (w.alloc (.cells #[.int .i64 t.fr, .int .i64 t.st, .slice (some ⟨b1, o1, none⟩) t.L.length cap] 32)).heap.size = w.heap.size + 1 := by simp
  generalize w.alloc (.cells #[.int .i64 t.fr, .int .i64 t.st, .slice (some ⟨b1, o1, none⟩) t.L.length cap] 32) = W1 at *
  have HI := hideR (hi.below (unhideR HW))
  have HV1 := hideR ((unhideR HV).below (unhideR HW))
  clear hi HV
  go_loopw [5, 6] (fun ov iv wl => ∃ i : Nat, 1 ≤ i ∧ i ≤ t.L.length ∧ iv = .int .i64 (i : Nat) ∧ HeldR (wl.ownsRow W1.heap.size 56 3 ov (turns t lev (i - 1)).length (flatEv (turns t lev (i - 1)))) ∧ HeldR (Below W1.heap.size W1 wl)) (fun _ iv _ => t.L.length + 1 - (intOf iv).toNat)
  case atStart => exact ⟨1, by omega, by omega, rfl, World.ownsRow_nil _ _ _ _, hideR (Below.refl _ _)⟩
  case round =>
    obtain ⟨i, hi1, hi2, rfl, HR, HK⟩ := hrel
    obtain ⟨⟨c0, c1, c2⟩, _⟩ := three_cells (keepB (unhideR HB) (unhideR HK))
    by_cases hlt : i < t.L.length
    · have hcl := turns_length t lev (i - 1)
      have hbe := behind_any ((unhideR HV1).below (unhideR HK)) n2 hlt
      go_wp2_with fail
      refine hbe.mono ?_
      rintro e w4 ⟨k, rfl, hE, kk⟩
      replace HR := hideR (own_below2 (unhideR HR) kk)
      replace HK := hideR (below_go (unhideR HK) kk)
      clear kk hbe c0 c1 c2
      obtain ⟨⟨c0, c1, c2⟩, _⟩ := three_cells (keepB (unhideR HB) (unhideR HK))
      have hk1 := (unhideR hE).le
      have hk2 := (unhideR hE).lt
      have htu := turn_any lev ((unhideR HV1).below (unhideR HK)) n2 hi1 (show i < k + 1 by omega) (by omega)
      have HN : HeldR (turns t lev k = turns t lev (i - 1) ++ turnV t lev i k) := turns_row hi1 (unhideR hE)
      have HT : HeldR (turnV t lev i k = if kindV t lev i (k + 1) = 0 then [] else [⟨kindV t lev i (k + 1), t.fr + (i : Int) * t.st, i⟩]) := turn_kind hk2
      rw [show ((k + 1 : Nat) : Int) = (k : Int) + 1 by omega] at htu
      generalize kindV t lev i (k + 1) = d at *
      go_wp2_with fail
      refine htu.mono ?_
      rintro e w5 ⟨rfl, kk⟩
      replace HR := hideR (own_below2 (unhideR HR) kk)
      replace HK := hideR (below_go (unhideR HK) kk)
      clear kk htu c0 c1 c2
      obtain ⟨⟨c0, c1, c2⟩, _⟩ := three_cells (keepB (unhideR HB) (unhideR HK))
      by_cases hd : d = 0
      · have HC : HeldR (turns t lev (k + 1 - 1) = turns t lev (i - 1)) := by
          have q := unhideR HT
          rw [if_pos hd] at q
          unfold HeldR
          rw [Nat.add_sub_cancel, unhideR HN, q, List.append_nil]
        have td : (d == 0) = true := by simp [hd]
        clear HT HN hE
        go_wp2
        exact ⟨⟨k + 1, by omega, by omega, by go_num, by rw [unhideR HC]; exact HR, HK⟩, by simp [intOf]; omega⟩
      · have HC : HeldR (turns t lev (k + 1 - 1) = turns t lev (i - 1) ++ [⟨d, t.fr + (i : Int) * t.st, i⟩]) := by
          have q := unhideR HT
          rw [if_neg hd] at q
          unfold HeldR
          rw [Nat.add_sub_cancel, unhideR HN, q]
        have td : (d == 0) = false := by simp [hd]
        have hin := instant_any ((unhideR HV1).below (unhideR HK)) (i : Int) ((unhideR HO).inst hlt).1 ((unhideR HO).inst hlt).2.1
        obtain ⟨x, hx⟩ : ∃ x : Evt, x = ⟨d, t.fr + (i : Int) * t.st, i⟩ := ⟨_, rfl⟩
        rw [← hx] at HC
        have x1 : d = x.k := by rw [hx]
        have x2 : t.fr + (i : Int) * t.st = x.at_ := by rw [hx]
        have x3 : (i : Int) = x.ix := by rw [hx]
        rw [x2] at hin
        have HX3 := hideR x3
        have HX1 := hideR x1
        clear HT HN hE x1 x2 x3 hx
        go_wp2_with fail
        refine hin.mono ?_
        rintro e w6 ⟨rfl, kk⟩
        replace HR := hideR (own_below2 (unhideR HR) kk)
        replace HK := hideR (below_go (unhideR HK) kk)
        clear kk hin c0 c1 c2
        have lk := (unhideR HK).size
        have hcx : ∀ j u, (valEv x)[j]? = some u → (w6.alloc (.cells #[.int .i64 d, .int .i64 x.at_, .int .i64 (i : Nat)] 56)).cell? ((⟨w6.heap.size, 0, none⟩ : Addr).add j) = some u := by
          have := alloc_last w6 (.cells #[.int .i64 d, .int .i64 x.at_, .int .i64 (i : Nat)] 56)
          rw [unhideR HX1, unhideR HX3] at this ⊢
          exact three_new this
        have HCX := hideR hcx
        clear hcx
        go_wp2_with (first
          | (at_builtin; refine wpList_append_own _ rfl _ _ 52 rfl W1.heap.size 56 i0 Evzv 3 24 Tryd.underlying52 hi0 hz0 hz1 hz2 rfl (by decide) _ (turns t lev (i - 1)).length (flatEv (turns t lev (i - 1))) rfl (own_below2 (unhideR HR) (below_a _ _)) ⟨w6.heap.size, 0, none⟩ 1 1 (valEv x) rfl rfl ?c1 ?c2 ?c3 ?c4 ?c5 ?_))
        case c1 => exact unhideR HCX
        case c2 =>
          intro u hu
          exact flatEv_one [x] u (by simpa [flatEv] using hu)
        case c3 => unfold maxLen; omega
        case c4 => omega
        case c5 => simp; omega
        intro v3 w3 hown2 hgrow2 _
        have B3 := hideR ((below_go (unhideR HK) (below_a w6 _)).grown hgrow2 (by simp; omega) (fun g h => own_at2 (unhideR HR) g h))
        have O3 : HeldR (w3.ownsRow W1.heap.size 56 3 v3 (turns t lev (k + 1 - 1)).length (flatEv (turns t lev (k + 1 - 1)))) := by
          unfold HeldR
          rw [unhideR HC, flatEv_append, List.length_append]
          rw [hs1, show flatEv [x] = valEv x from List.append_nil _]
          exact hown2
        clear hown2 hgrow2 HC HR HK
        go_wp2
        exact ⟨⟨k + 1, by omega, by omega, by go_num, O3, B3⟩, by simp [intOf]; omega⟩
    · obtain rfl : i = t.L.length := by omega
      have HE := hideR (own_base (unhideR HR) (show w.heap.size ≤ W1.heap.size by omega))
      rw [turns_last n1] at HE
      have HF := hideR (below_go (unhideR HW) (unhideR HK))
      go_wp2
      go_ret
      exact ⟨_, rfl, unhideR HE, unhideR HF⟩
end Go.Proofs.YtlhjmmcimhceeahDoor
