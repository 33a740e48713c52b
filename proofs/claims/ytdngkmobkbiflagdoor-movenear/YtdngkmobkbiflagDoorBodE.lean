/-
  Rows of bodies in memory; which are right: the document's, by contract.
-/
import Derived.Test.YtdngkmobkbiflagDoorRowB
namespace Go.Proofs.YtdngkmobkbiflagDoor
open Go Go.RowKit

/-- a body in memory. -/
structure BAt (w : World) (b o : Nat) (s : Bd) : Prop where
  ax : w.cell? ⟨b, o, none⟩ = some (.int .i64 s.at_.x)
  ay : w.cell? ⟨b, o + 1, none⟩ = some (.int .i64 s.at_.y)
  az : w.cell? ⟨b, o + 2, none⟩ = some (.int .i64 s.at_.z)
  sx : w.cell? ⟨b, o + 3, none⟩ = some (.int .i64 s.sp.x)
  sy : w.cell? ⟨b, o + 3 + 1, none⟩ = some (.int .i64 s.sp.y)
  sz : w.cell? ⟨b, o + 3 + 2, none⟩ = some (.int .i64 s.sp.z)
  ms : w.cell? ⟨b, o + 6, none⟩ = some (.int .i64 s.m)
theorem BAt.below {w v : World} {b o B : Nat} {s : Bd} (h : BAt w b o s) (k : Below B w v) (hb : b < B) : BAt v b o s :=
  ⟨(k.cell hb).trans h.ax, (k.cell hb).trans h.ay, (k.cell hb).trans h.az, (k.cell hb).trans h.sx, (k.cell hb).trans h.sy, (k.cell hb).trans h.sz, (k.cell hb).trans h.ms⟩
/-- a row of bodies, or none. -/
structure BCame (w : World) (ad : Option Addr) (L : List Bd) : Prop where
  at_ : ∀ k, k < L.length → ∃ b off, ad = some ⟨b, off, none⟩ ∧ b < w.heap.size ∧ BAt w b (off + k * 7) (L.getD k bd0)
theorem BCame.below {w v : World} {ad : Option Addr} {L : List Bd} (h : BCame w ad L) (k : Below w.heap.size w v) : BCame v ad L := ⟨fun j hj => by
  obtain ⟨b, off, e, hb, h1⟩ := h.at_ j hj
  exact ⟨b, off, e, Nat.lt_of_lt_of_le hb k.size, h1.below k hb⟩⟩
def errV (L : List Bd) : Int := if 12 < L.length then 2 else if mss L = false then 5 else if (ats L && sps L) = false then 6 else 0
theorem take_at {L : List Bd} {k : Nat} (h : k < L.length) : L.take (k + 1) = L.take k ++ [L.getD k bd0] := by
  rw [List.take_add_one, List.getElem?_eq_getElem h, List.getD_eq_getElem?_getD, List.getElem?_eq_getElem h]
  rfl
theorem all_snoc {p : Bd → Bool} {l : List Bd} {b : Bd} : (l ++ [b]).all p = (l.all p && p b) := by
  rw [List.all_append]
  simp
theorem all_take {p : Bd → Bool} {l : List Bd} (n : Nat) (h : l.all p = true) : (l.take n).all p = true := by
  rw [List.all_eq_true] at h ⊢
  exact fun x hx => h x (List.mem_of_mem_take hx)
set_option maxRecDepth 100000 in
set_option maxHeartbeats 800000 in
theorem bodiesError_any (ad : Option Addr) (cap : Nat) (L : List Bd) (w : World) (hr : BCame w ad L) (hl : L.length ≤ 9223372036854775807) :
    Calls Tryd.prog 14 #[.slice ad L.length cap] w fun e w' => e = .returned (.int .i64 (errV L)) ∧ Below w.heap.size w w' := by
  unfold errV
  by_cases h12 : 12 < L.length
  · rw [if_pos h12]
    go_enter Tryd.func14, Tryd.ntmps14
    go_wp2
    go_ret
    exact ⟨rfl, Below.refl _ _⟩
  · rw [if_neg h12]
    obtain ⟨E, hE⟩ : ∃ E : Int, (if mss L = false then 5 else if (ats L && sps L) = false then 6 else 0) = E := ⟨_, rfl⟩
    rw [hE]
    have HE := hideR hE
    have HR := hideR hr
    clear hr hE
    go_enter Tryd.func14, Tryd.ntmps14
    go_wp2
    go_loopw [3, 4] (fun ov kv wl => ∃ k : Nat, k ≤ L.length ∧ kv = .int .i64 (k : Nat) ∧ ov = .bool (!(ats (L.take k) && sps (L.take k))) ∧ HeldR (mss (L.take k) = true) ∧ HeldR (Below w.heap.size w wl)) (fun _ kv _ => L.length + 1 - (intOf kv).toNat)
    case atStart => exact ⟨0, by omega, rfl, rfl, hideR rfl, hideR (Below.refl _ _)⟩
    case round =>
      obtain ⟨k, hk, rfl, rfl, HM, HW⟩ := hrel
      by_cases hlt : k < L.length
      · obtain ⟨b, off, rfl, hb, hat⟩ := ((unhideR HR).below (unhideR HW)).at_ k hlt
        have HAt := hideR hat
        obtain ⟨c0, c1, c2, c3, c4, c5, c6⟩ := hat
        have ht := take_at hlt
        have HA : HeldR (ats (L.take (k + 1)) = (ats (L.take k) && decide ((L.getD k bd0).at_.In 1048576))) := by unfold ats; rw [ht, all_snoc]; rfl
        have HS : HeldR (sps (L.take (k + 1)) = (sps (L.take k) && decide ((L.getD k bd0).sp.In 1048576))) := by unfold sps; rw [ht, all_snoc]; rfl
        have HN : HeldR (mss (L.take (k + 1)) = (mss (L.take k) && decide (0 ≤ (L.getD k bd0).m ∧ (L.getD k bd0).m ≤ 65536))) := by unfold mss; rw [ht, all_snoc]; rfl
        clear ht
        generalize L.getD k bd0 = s at *
        obtain ⟨p, q, m⟩ := s
        simp only at c0 c1 c2 c3 c4 c5 c6
        obtain ⟨out, ho⟩ : ∃ out, (!(ats (L.take k) && sps (L.take k))) = out := ⟨_, rfl⟩
        rw [ho]
        have HO := hideR ho.symm
        clear ho
        by_cases hm : 0 ≤ m ∧ m ≤ 65536
        · obtain ⟨hm1, hm2⟩ := hm
          have hia := fun u => inside_any p 1048576 u (by decide) (by decide)
          have hiq := fun u => inside_any q 1048576 u (by decide) (by decide)
          have HX : HeldR (out = !(ats (L.take k) && sps (L.take k)) → (!(ats (L.take (k + 1)) && sps (L.take (k + 1)))) = (out || !decide (p.In 1048576) || !decide (q.In 1048576))) := by
            intro e
            rw [e, unhideR HA, unhideR HS]
            cases ats (L.take k) <;> cases sps (L.take k) <;> cases decide (p.In 1048576) <;> cases decide (q.In 1048576) <;> rfl
          have HX2 := hideR (unhideR HX (unhideR HO))
          have hM2 : HeldR (mss (L.take (k + 1)) = true) := by
            unfold HeldR
            rw [unhideR HN, unhideR HM, decide_eq_true ⟨hm1, hm2⟩]
            rfl
          clear HX HO HA HS HN HM
          obtain ⟨out2, ho2⟩ : ∃ o, (!(ats (L.take (k + 1)) && sps (L.take (k + 1)))) = o := ⟨_, rfl⟩
          have HF : HeldR (Value.bool out2 = .bool (!(ats (L.take (k + 1)) && sps (L.take (k + 1))))) := by rw [ho2]; rfl
          replace HX2 := hideR (ho2.symm.trans (unhideR HX2))
          clear ho2
          generalize decide (p.In 1048576) = da at *
          generalize decide (q.In 1048576) = dq at *
          go_wp2_with fail
          refine (hia _).mono ?_
          rintro e w1 ⟨rfl, k1⟩
          have HW1 := hideR (below_go (unhideR HW) k1)
          obtain ⟨_, _, _, d3, d4, d5, _⟩ := (unhideR HAt).below k1 hb
          clear k1
          simp only at d3 d4 d5
          go_wp2_with fail
          refine (hiq _).mono ?_
          rintro e w2 ⟨rfl, k2⟩
          replace HW1 := hideR (below_go (unhideR HW1) k2)
          clear k2 d3 d4 d5 c0 c1 c2 c3 c4 c5 c6
          cases out <;> cases da <;> cases dq
          all_goals
            have hx := unhideR HX2
            simp only [Bool.or_false, Bool.not_true, Bool.not_false, Bool.or_true] at hx
            subst hx
            go_wp2
            exact ⟨⟨k + 1, by omega, by go_num, unhideR HF, hM2, HW1⟩, by simp [intOf]; omega⟩
        · have hbad : mss L = false := by
            cases e : mss L with
            | false => rfl
            | true =>
              exfalso
              have e2 := all_take (k + 1) e
              have e3 := unhideR HN
              unfold mss at e3 e2
              rw [e2, decide_eq_false hm, Bool.and_false] at e3
              cases e3
          have h5 := unhideR HE
          rw [if_pos hbad] at h5
          clear hbad HO HA HS HN HM HE
          subst h5
          go_wp2
          all_goals
            go_ret
            exact ⟨rfl, unhideR HW⟩
      · obtain rfl : k = L.length := by omega
        have e1 := unhideR HM
        rw [List.take_length] at e1
        have h5 := unhideR HE
        rw [if_neg (by rw [e1]; exact Bool.noConfusion)] at h5
        obtain ⟨t, ht⟩ : ∃ t, (!(ats (L.take L.length) && sps (L.take L.length))) = t := ⟨_, rfl⟩
        rw [ht]
        rw [List.take_length] at ht
        clear HM HR HE
        cases t
        · have h6 : (ats L && sps L) = true := by simpa using ht
          rw [if_neg (by rw [h6]; exact Bool.noConfusion)] at h5
          subst h5
          clear h6 ht e1
          go_wp2
          go_ret
          exact ⟨rfl, unhideR HW⟩
        · have h6 : (ats L && sps L) = false := by
            cases e : (ats L && sps L) with
            | false => rfl
            | true => rw [e] at ht; cases ht
          rw [if_pos h6] at h5
          subst h5
          clear h6 ht e1
          go_wp2
          go_ret
          exact ⟨rfl, unhideR HW⟩
end Go.Proofs.YtdngkmobkbiflagDoor
