/-
  The document's answer to what light there was, by contract.
-/
import Derived.Test.YtncbmkflilcdgaiDoorFrStk0
import Derived.Test.YtncbmkflilcdgaiDoorFrCn
import Derived.Test.YtncbmkflilcdgaiDoorOwnTwo
import Derived.Deep.CutRange
namespace Go.Proofs.YtncbmkflilcdgaiDoor
open Go Go.RowKit

theorem take_next {l : List Int} {k : Nat} (h : k < l.length) : l.take (k + 1) = l.take k ++ [l.getD k 0] := by
  rw [List.take_add_one, List.getElem?_eq_getElem h]
  simp [List.getD, List.getElem?_eq_getElem h]
theorem sumV_append (a b : List Int) : sumV (a ++ b) = sumV a + sumV b := by
  induction a with
  | nil => show sumV b = 0 + sumV b; omega
  | cons x a ih => show x + sumV (a ++ b) = x + sumV a + sumV b; omega
theorem sum_next {l : List Int} {k : Nat} (h : k < l.length) : sumV (l.take (k + 1)) = sumV (l.take k) + l.getD k 0 := by
  rw [take_next h, sumV_append]
  show sumV (l.take k) + (l.getD k 0 + 0) = _
  omega
theorem some_next {l : List Int} {k : Nat} (h : k < l.length) : someN (l.take (k + 1)) = someN (l.take k) + if l.getD k 0 = 0 then 0 else 1 := by
  unfold someN
  rw [countP_next _ h]
  generalize l.getD k 0 = x
  by_cases q : x = 0 <;> simp [q]
theorem sum_size {f : Pic} (h : PicOk f) : ∀ k, k ≤ f.L.length → 0 ≤ sumV (f.L.take k) ∧ sumV (f.L.take k) ≤ (k : Int) * 65535 ∧ (someN (f.L.take k) : Int) ≤ sumV (f.L.take k)
  | 0, _ => ⟨by simp [sumV], by simp [sumV], by simp [sumV, someN]⟩
  | k + 1, hk => by
    have a := sum_size h k (by omega)
    have b := h.each k (by omega)
    rw [sum_next (by omega), some_next (by omega)]
    refine ⟨by omega, by omega, ?_⟩
    split <;> omega
theorem mean_in {f : Pic} (h : PicOk f) (hn : someN f.L ≠ 0) : 0 ≤ sumV f.L / (someN f.L : Int) ∧ sumV f.L / (someN f.L : Int) ≤ 65535 := by
  have key : ∀ k, k ≤ f.L.length → sumV (f.L.take k) ≤ (someN (f.L.take k) : Int) * 65535 := by
    intro k
    induction k with
    | zero => intro _; simp [sumV, someN]
    | succ k ih =>
      intro hk
      have a := ih (by omega)
      have b := h.each k (by omega)
      rw [sum_next (by omega), some_next (by omega)]
      split <;> omega
  have k1 := key f.L.length (Nat.le_refl _)
  have k2 := (sum_size h f.L.length (Nat.le_refl _)).1
  rw [List.take_length] at k1 k2
  refine ⟨Int.ediv_nonneg k2 (by omega), ?_⟩
  refine Int.le_of_lt_add_one (Int.ediv_lt_of_lt_mul (by omega) ?_)
  have : ((someN f.L : Nat) : Int) ≥ 1 := by omega
  omega
def cleanK (m : Int) (p d f : Pic) (k : Nat) : List Int := (List.range k).map fun i => lightV m (p.L.getD i 0) (d.L.getD i 0) (f.L.getD i 0)
def fullK (p : Pic) (full : Int) (k : Nat) : List Int := (List.range k).filterMap fun i => if full ≤ p.L.getD i 0 then some (i : Int) else none
theorem cleanK_next (m : Int) (p d f : Pic) (k : Nat) : cleanK m p d f (k + 1) = cleanK m p d f k ++ [lightV m (p.L.getD k 0) (d.L.getD k 0) (f.L.getD k 0)] := by
  unfold cleanK
  rw [List.range_succ, List.map_append]
  rfl
theorem cleanK_length (m : Int) (p d f : Pic) (k : Nat) : (cleanK m p d f k).length = k := by simp [cleanK]
theorem fullK_next (p : Pic) (full : Int) (k : Nat) : fullK p full (k + 1) = fullK p full k ++ if full ≤ p.L.getD k 0 then [(k : Int)] else [] := by
  unfold fullK
  rw [List.range_succ, List.filterMap_append]
  congr 1
  by_cases h : full ≤ p.L.getD k 0
  · simp only [List.filterMap_cons, List.filterMap_nil, if_pos h]
  · simp only [List.filterMap_cons, List.filterMap_nil, if_neg h]
theorem fullK_length (p : Pic) (full : Int) (k : Nat) : (fullK p full k).length ≤ k := by
  unfold fullK
  refine Nat.le_trans (List.length_filterMap_le _ _) ?_
  simp
structure SmIs (sm : Bool) (p d f : Pic) : Prop where
  it : sm = true ↔ (p.wide = d.wide ∧ p.high = d.high ∧ p.wide = f.wide ∧ p.high = f.high)
def CleanPost (p d f : Pic) (full : Int) (w : World) (e : Ending) (w' : World) : Prop := ∃ (X Y : List Int) (ax ay : Option Addr) (cx cy : Nat), e = .returned (.tuple #[.slice ax X.length cx, .slice ay Y.length cy, .int .i64 (cleanE p d f full)]) ∧
  (cleanE p d f full = 0 → X = cleanV p d f ∧ Y = fullV p full) ∧ (cleanE p d f full ≠ 0 → X = [] ∧ Y = []) ∧ ICame w' ax X ∧ ICame w' ay Y ∧ Below w.heap.size w w'
theorem clean_none {p d f : Pic} {full : Int} {w w' : World} {E : Int} (h : cleanE p d f full = E) (h0 : E ≠ 0) (k : Below w.heap.size w w') : CleanPost p d f full w (.returned (.tuple #[.slice none 0 0, .slice none 0 0, .int .i64 E])) w' :=
  ⟨[], [], none, none, 0, 0, by rw [h]; rfl, fun q => absurd (h.symm.trans q) h0, fun _ => ⟨rfl, rfl⟩, ⟨fun k hk => absurd hk (Nat.not_lt_zero k)⟩, ⟨fun k hk => absurd hk (Nat.not_lt_zero k)⟩, k⟩
structure LightIn (M x y z Pm q r : Int) : Prop where
  p0 : 0 ≤ Pm
  p1 : Pm ≤ 4294836225
  q0 : 0 ≤ q
  q1 : q ≤ Pm
  r0 : 0 ≤ r
  r1 : r ≤ Pm
theorem light_in {M x y z : Int} (hM : 0 ≤ M ∧ M ≤ 65535) (hx : 0 ≤ x ∧ x ≤ 65535) (hy : 0 ≤ y) (hz : 0 < z) (hd : 0 < x - y) : LightIn M x y z ((x - y) * M) ((x - y) * M / z) ((x - y) * M / z * z) := by
  have a : 0 ≤ (x - y) * M := Int.mul_nonneg (by omega) hM.1
  have b : (x - y) * M ≤ 65535 * 65535 := Int.mul_le_mul (by omega) hM.2 hM.1 (by omega)
  have c : 0 ≤ (x - y) * M / z := Int.ediv_nonneg a (by omega)
  exact ⟨a, by omega, c, Int.ediv_le_self _ a, Int.mul_nonneg c (by omega), Int.ediv_mul_le _ (by omega)⟩
theorem light_is {M x y z Pm q r : Int} (hz : 0 < z) (hd : 0 < x - y) (h1 : (x - y) * M = Pm) (h2 : Pm / z = q) (h3 : q * z = r) :
    lightV M x y z = if 65535 < q + (if z ≤ 2 * (Pm - r) then 1 else 0) then 65535 else q + (if z ≤ 2 * (Pm - r) then 1 else 0) := by
  unfold lightV
  rw [if_pos ⟨hz, hd⟩, h1, h2, h3]
set_option maxRecDepth 100000 in
set_option maxHeartbeats 6400000 in
theorem cleaned_any {w : World} {bp op cp bd od cd bf of cf : Nat} {ap adr af : Option Addr} {p d f : Pic} (full : Int) (hp : PicAt w bp op ap cp p) (hd : PicAt w bd od adr cd d) (hf : PicAt w bf of af cf f)
    (lp : p.L.length * 8 ≤ 140737488355328) (ld : d.L.length * 8 ≤ 140737488355328) (lf : f.L.length * 8 ≤ 140737488355328) :
    Calls Tryd.prog 7 #[.pointer (some ⟨bp, op, none⟩), .pointer (some ⟨bd, od, none⟩), .pointer (some ⟨bf, of, none⟩), .int .i64 full] w (CleanPost p d f full w) := by
  obtain ⟨i0, hi0, hz0, hz1, hz2⟩ := info_parts infoI
  have HP := hideR hp
  have HD := hideR hd
  have HFl := hideR hf
  have HP0 := hideR hp
  have HD0 := hideR hd
  have HF0 := hideR hf
  have h1 := pictureError_any hp lp
  have r1 := picE_range p
  have HN1 : HeldR (picE p ≠ 0 → cleanE p d f full = picE p) := fun q => by unfold cleanE; rw [if_pos q]
  have HN2 : HeldR (picE p = 0 → picE d ≠ 0 → cleanE p d f full = picE d) := fun q1 q => by unfold cleanE; rw [if_neg (fun k => k q1), if_pos q]
  have HN3 : HeldR (picE p = 0 → picE d = 0 → picE f ≠ 0 → cleanE p d f full = picE f) := fun q1 q2 q => by unfold cleanE; rw [if_neg (fun k => k q1), if_neg (fun k => k q2), if_pos q]
  clear hp hd hf
  go_enter Tryd.func7, Tryd.ntmps7
  go_wp2_with fail
  refine h1.mono ?_
  rintro e w1 ⟨rfl, k1⟩
  have HW := hideR k1
  replace HP := hideR ((unhideR HP).below k1)
  replace HD := hideR ((unhideR HD).below k1)
  replace HFl := hideR ((unhideR HFl).below k1)
  clear k1 h1
  by_cases e1 : picE p = 0
  case neg =>
    have HF := hideR (clean_none (unhideR HN1 e1) e1 (unhideR HW))
    have hpos : 0 < picE p := by omega
    have t1 : (picE p == 0) = false := by rw [beq_eq_false_iff_ne]; exact e1
    generalize picE p = E at *
    clear HN1 HN2 HN3 r1
    go_wp2
    go_ret3
    exact unhideR HF
  case pos =>
    have h2 := pictureError_any (unhideR HD) ld
    have r2 := picE_range d
    rw [e1]
    go_wp2_with fail
    refine h2.mono ?_
    rintro e w2 ⟨rfl, k2⟩
    replace HW := hideR (below_go (unhideR HW) k2)
    replace HP := hideR ((unhideR HP).below k2)
    replace HD := hideR ((unhideR HD).below k2)
    replace HFl := hideR ((unhideR HFl).below k2)
    clear k2 h2 r1 HN1
    by_cases e2 : picE d = 0
    case neg =>
      have HF := hideR (clean_none (unhideR HN2 e1 e2) e2 (unhideR HW))
      have hpos : 0 < picE d := by omega
      have t1 : (picE d == 0) = false := by rw [beq_eq_false_iff_ne]; exact e2
      generalize picE d = E at *
      clear HN2 HN3 r2
      go_wp2
      go_ret3
      exact unhideR HF
    case pos =>
      have h3 := pictureError_any (unhideR HFl) lf
      have r3 := picE_range f
      rw [e2]
      go_wp2_with fail
      refine h3.mono ?_
      rintro e w3 ⟨rfl, k3⟩
      replace HW := hideR (below_go (unhideR HW) k3)
      replace HP := hideR ((unhideR HP).below k3)
      replace HD := hideR ((unhideR HD).below k3)
      replace HFl := hideR ((unhideR HFl).below k3)
      clear k3 h3 r2 HN2
      by_cases e3 : picE f = 0
      case neg =>
        have HF := hideR (clean_none (unhideR HN3 e1 e2 e3) e3 (unhideR HW))
        have hpos : 0 < picE f := by omega
        generalize picE f = E at *
        clear HN3 r3
        go_wp2
        go_ret3
        exact unhideR HF
      case pos =>
        have kp := pic_ok e1
        have kd := pic_ok e2
        have kf := pic_ok e3
        have HKp := hideR kp
        have HKd := hideR kd
        have HKf := hideR kf
        have HE : HeldR (cleanE p d f full = if ¬ (p.wide = d.wide ∧ p.high = d.high ∧ p.wide = f.wide ∧ p.high = f.high) ∨ full < 1 ∨ 65535 < full ∨ someN f.L = 0 then 5 else 0) := by
          unfold HeldR cleanE
          rw [if_neg (fun k => k e1), if_neg (fun k => k e2), if_neg (fun k => k e3)]
        rw [e3]
        have hnp := kp.few
        have hnf := kf.few
        clear HN3 r3 kp kd kf
        go_wp2_with fail
        go_cut [12] from 37 to 78 (fun s12 wx => ∃ sm : Bool, s12 = .bool sm ∧ HeldR (SmIs sm p d f) ∧ HeldR (Below w3.heap.size w3 wx))
        case' first =>
          obtain ⟨_, x0, x1, _, _⟩ := unhideR HP
          obtain ⟨_, y0, y1, _, _⟩ := unhideR HD
          obtain ⟨_, z0, z1, _, _⟩ := unhideR HFl
          by_cases s1 : p.wide = d.wide
          · have t1 : (p.wide == d.wide) = true := by simp [s1]
            by_cases s2 : p.high = d.high
            · have t2 : (p.high == d.high) = true := by simp [s2]
              by_cases s3 : p.wide = f.wide
              · have t3 : (p.wide == f.wide) = true := by simp [s3]
                by_cases s4 : p.high = f.high
                · have t4 : (p.high == f.high) = true := by simp [s4]
                  have HX : HeldR (SmIs true p d f) := ⟨⟨fun _ => ⟨s1, s2, s3, s4⟩, fun _ => rfl⟩⟩
                  clear s1 s2 s3 s4
                  refine wp_region_lets [(· = .pointer (some ⟨bp, op, none⟩)),
                    (· = .pointer (some ⟨bp, op, none⟩)),
                    (· = .pointer (some ⟨bp, op, none⟩)),
                    (· = .int .i64 p.wide),
                    (· = .pointer (some ⟨bd, od, none⟩)),
                    (· = .pointer (some ⟨bd, od, none⟩)),
                    (· = .pointer (some ⟨bd, od, none⟩)),
                    (· = .int .i64 d.wide),
                    (· = .bool true),
                    (· = .bool true),
                    (· = .pointer (some ⟨bp, op, none⟩)),
                    (· = .pointer (some ⟨bp, op, none⟩)),
                    (· = .pointer (some ⟨bp, op + 1, none⟩)),
                    (· = .int .i64 p.high),
                    (· = .pointer (some ⟨bd, od, none⟩)),
                    (· = .pointer (some ⟨bd, od, none⟩)),
                    (· = .pointer (some ⟨bd, od + 1, none⟩)),
                    (· = .int .i64 d.high),
                    (· = .bool true),
                    (· = .bool true),
                    (· = .bool true),
                    (· = .pointer (some ⟨bp, op, none⟩)),
                    (· = .pointer (some ⟨bp, op, none⟩)),
                    (· = .pointer (some ⟨bp, op, none⟩)),
                    (· = .int .i64 p.wide),
                    (· = .pointer (some ⟨bf, of, none⟩)),
                    (· = .pointer (some ⟨bf, of, none⟩)),
                    (· = .pointer (some ⟨bf, of, none⟩)),
                    (· = .int .i64 f.wide),
                    (· = .bool true),
                    (· = .bool true),
                    (· = .bool true),
                    (· = .pointer (some ⟨bp, op, none⟩)),
                    (· = .pointer (some ⟨bp, op, none⟩)),
                    (· = .pointer (some ⟨bp, op + 1, none⟩)),
                    (· = .int .i64 p.high),
                    (· = .pointer (some ⟨bf, of, none⟩)),
                    (· = .pointer (some ⟨bf, of, none⟩)),
                    (· = .pointer (some ⟨bf, of + 1, none⟩)),
                    (· = .int .i64 f.high),
                    (· = .bool true),
                    (· = .bool true),
                    (· = .bool true)] (by kernel_rfl) (by kernel_rfl) ?_
                  refine lexL_step (fun K hK => ⟨by kernel_rfl, ⟨_, rfl⟩, fun n => ?_, fun v hv => ?_⟩)
                  · go_simp
                    exact lUpon_one
                  subst hv
                  go_simp
                  refine hK _ ?_
                  clear hK K
                  refine lexL_step (fun K hK => ⟨by kernel_rfl, ⟨_, rfl⟩, fun n => ?_, fun v hv => ?_⟩)
                  · go_simp
                    exact lUpon_one
                  subst hv
                  go_simp
                  refine hK _ ?_
                  clear hK K
                  refine lexL_step (fun K hK => ⟨by kernel_rfl, ⟨_, rfl⟩, fun n => ?_, fun v hv => ?_⟩)
                  · go_simp
                    exact lUpon_one
                  subst hv
                  go_simp
                  refine hK _ ?_
                  clear hK K
                  refine lexL_step (fun K hK => ⟨by kernel_rfl, ⟨_, rfl⟩, fun n => ?_, fun v hv => ?_⟩)
                  · go_simp
                    exact lUpon_one
                  subst hv
                  go_simp
                  refine hK _ ?_
                  clear hK K
                  refine lexL_step (fun K hK => ⟨by kernel_rfl, ⟨_, rfl⟩, fun n => ?_, fun v hv => ?_⟩)
                  · go_simp
                    exact lUpon_one
                  subst hv
                  go_simp
                  refine hK _ ?_
                  clear hK K
                  refine lexL_step (fun K hK => ⟨by kernel_rfl, ⟨_, rfl⟩, fun n => ?_, fun v hv => ?_⟩)
                  · go_simp
                    exact lUpon_one
                  subst hv
                  go_simp
                  refine hK _ ?_
                  clear hK K
                  refine lexL_step (fun K hK => ⟨by kernel_rfl, ⟨_, rfl⟩, fun n => ?_, fun v hv => ?_⟩)
                  · go_simp
                    exact lUpon_one
                  subst hv
                  go_simp
                  refine hK _ ?_
                  clear hK K
                  refine lexL_step (fun K hK => ⟨by kernel_rfl, ⟨_, rfl⟩, fun n => ?_, fun v hv => ?_⟩)
                  · go_simp
                    exact lUpon_one
                  subst hv
                  go_simp
                  refine hK _ ?_
                  clear hK K
                  refine lexL_step (fun K hK => ⟨by kernel_rfl, ⟨_, rfl⟩, fun n => ?_, fun v hv => ?_⟩)
                  · go_simp
                    exact lUpon_one
                  subst hv
                  go_simp
                  refine hK _ ?_
                  clear hK K
                  refine lexL_step (fun K hK => ⟨by kernel_rfl, ⟨_, rfl⟩, fun n => ?_, fun v hv => ?_⟩)
                  · go_simp
                    exact lUpon_one
                  subst hv
                  go_simp
                  refine hK _ ?_
                  clear hK K
                  refine lexL_step (fun K hK => ⟨by kernel_rfl, ⟨_, rfl⟩, fun n => ?_, fun v hv => ?_⟩)
                  · go_simp
                    exact lUpon_one
                  subst hv
                  go_simp
                  refine hK _ ?_
                  clear hK K
                  refine lexL_step (fun K hK => ⟨by kernel_rfl, ⟨_, rfl⟩, fun n => ?_, fun v hv => ?_⟩)
                  · go_simp
                    exact lUpon_one
                  subst hv
                  go_simp
                  refine hK _ ?_
                  clear hK K
                  refine lexL_step (fun K hK => ⟨by kernel_rfl, ⟨_, rfl⟩, fun n => ?_, fun v hv => ?_⟩)
                  · go_simp
                    exact lUpon_one
                  subst hv
                  go_simp
                  refine hK _ ?_
                  clear hK K
                  refine lexL_step (fun K hK => ⟨by kernel_rfl, ⟨_, rfl⟩, fun n => ?_, fun v hv => ?_⟩)
                  · go_simp
                    exact lUpon_one
                  subst hv
                  go_simp
                  refine hK _ ?_
                  clear hK K
                  refine lexL_step (fun K hK => ⟨by kernel_rfl, ⟨_, rfl⟩, fun n => ?_, fun v hv => ?_⟩)
                  · go_simp
                    exact lUpon_one
                  subst hv
                  go_simp
                  refine hK _ ?_
                  clear hK K
                  refine lexL_step (fun K hK => ⟨by kernel_rfl, ⟨_, rfl⟩, fun n => ?_, fun v hv => ?_⟩)
                  · go_simp
                    exact lUpon_one
                  subst hv
                  go_simp
                  refine hK _ ?_
                  clear hK K
                  refine lexL_step (fun K hK => ⟨by kernel_rfl, ⟨_, rfl⟩, fun n => ?_, fun v hv => ?_⟩)
                  · go_simp
                    exact lUpon_one
                  subst hv
                  go_simp
                  refine hK _ ?_
                  clear hK K
                  refine lexL_step (fun K hK => ⟨by kernel_rfl, ⟨_, rfl⟩, fun n => ?_, fun v hv => ?_⟩)
                  · go_simp
                    exact lUpon_one
                  subst hv
                  go_simp
                  refine hK _ ?_
                  clear hK K
                  refine lexL_step (fun K hK => ⟨by kernel_rfl, ⟨_, rfl⟩, fun n => ?_, fun v hv => ?_⟩)
                  · go_simp
                    exact lUpon_one
                  subst hv
                  go_simp
                  refine hK _ ?_
                  clear hK K
                  refine lexL_step (fun K hK => ⟨by kernel_rfl, ⟨_, rfl⟩, fun n => ?_, fun v hv => ?_⟩)
                  · go_simp
                    exact lUpon_one
                  subst hv
                  go_simp
                  refine hK _ ?_
                  clear hK K
                  refine lexL_step (fun K hK => ⟨by kernel_rfl, ⟨_, rfl⟩, fun n => ?_, fun v hv => ?_⟩)
                  · go_simp
                    exact lUpon_one
                  subst hv
                  go_simp
                  refine hK _ ?_
                  clear hK K
                  refine lexL_step (fun K hK => ⟨by kernel_rfl, ⟨_, rfl⟩, fun n => ?_, fun v hv => ?_⟩)
                  · go_simp
                    exact lUpon_one
                  subst hv
                  go_simp
                  refine hK _ ?_
                  clear hK K
                  refine lexL_step (fun K hK => ⟨by kernel_rfl, ⟨_, rfl⟩, fun n => ?_, fun v hv => ?_⟩)
                  · go_simp
                    exact lUpon_one
                  subst hv
                  go_simp
                  refine hK _ ?_
                  clear hK K
                  refine lexL_step (fun K hK => ⟨by kernel_rfl, ⟨_, rfl⟩, fun n => ?_, fun v hv => ?_⟩)
                  · go_simp
                    exact lUpon_one
                  subst hv
                  go_simp
                  refine hK _ ?_
                  clear hK K
                  refine lexL_step (fun K hK => ⟨by kernel_rfl, ⟨_, rfl⟩, fun n => ?_, fun v hv => ?_⟩)
                  · go_simp
                    exact lUpon_one
                  subst hv
                  go_simp
                  refine hK _ ?_
                  clear hK K
                  refine lexL_step (fun K hK => ⟨by kernel_rfl, ⟨_, rfl⟩, fun n => ?_, fun v hv => ?_⟩)
                  · go_simp
                    exact lUpon_one
                  subst hv
                  go_simp
                  refine hK _ ?_
                  clear hK K
                  refine lexL_step (fun K hK => ⟨by kernel_rfl, ⟨_, rfl⟩, fun n => ?_, fun v hv => ?_⟩)
                  · go_simp
                    exact lUpon_one
                  subst hv
                  go_simp
                  refine hK _ ?_
                  clear hK K
                  refine lexL_step (fun K hK => ⟨by kernel_rfl, ⟨_, rfl⟩, fun n => ?_, fun v hv => ?_⟩)
                  · go_simp
                    exact lUpon_one
                  subst hv
                  go_simp
                  refine hK _ ?_
                  clear hK K
                  refine lexL_step (fun K hK => ⟨by kernel_rfl, ⟨_, rfl⟩, fun n => ?_, fun v hv => ?_⟩)
                  · go_simp
                    exact lUpon_one
                  subst hv
                  go_simp
                  refine hK _ ?_
                  clear hK K
                  refine lexL_step (fun K hK => ⟨by kernel_rfl, ⟨_, rfl⟩, fun n => ?_, fun v hv => ?_⟩)
                  · go_simp
                    exact lUpon_one
                  subst hv
                  go_simp
                  refine hK _ ?_
                  clear hK K
                  refine lexL_step (fun K hK => ⟨by kernel_rfl, ⟨_, rfl⟩, fun n => ?_, fun v hv => ?_⟩)
                  · go_simp
                    exact lUpon_one
                  subst hv
                  go_simp
                  refine hK _ ?_
                  clear hK K
                  refine lexL_step (fun K hK => ⟨by kernel_rfl, ⟨_, rfl⟩, fun n => ?_, fun v hv => ?_⟩)
                  · go_simp
                    exact lUpon_one
                  subst hv
                  go_simp
                  refine hK _ ?_
                  clear hK K
                  refine lexL_step (fun K hK => ⟨by kernel_rfl, ⟨_, rfl⟩, fun n => ?_, fun v hv => ?_⟩)
                  · go_simp
                    exact lUpon_one
                  subst hv
                  go_simp
                  refine hK _ ?_
                  clear hK K
                  refine lexL_step (fun K hK => ⟨by kernel_rfl, ⟨_, rfl⟩, fun n => ?_, fun v hv => ?_⟩)
                  · go_simp
                    exact lUpon_one
                  subst hv
                  go_simp
                  refine hK _ ?_
                  clear hK K
                  refine lexL_step (fun K hK => ⟨by kernel_rfl, ⟨_, rfl⟩, fun n => ?_, fun v hv => ?_⟩)
                  · go_simp
                    exact lUpon_one
                  subst hv
                  go_simp
                  refine hK _ ?_
                  clear hK K
                  refine lexL_step (fun K hK => ⟨by kernel_rfl, ⟨_, rfl⟩, fun n => ?_, fun v hv => ?_⟩)
                  · go_simp
                    exact lUpon_one
                  subst hv
                  go_simp
                  refine hK _ ?_
                  clear hK K
                  refine lexL_step (fun K hK => ⟨by kernel_rfl, ⟨_, rfl⟩, fun n => ?_, fun v hv => ?_⟩)
                  · go_simp
                    exact lUpon_one
                  subst hv
                  go_simp
                  refine hK _ ?_
                  clear hK K
                  refine lexL_step (fun K hK => ⟨by kernel_rfl, ⟨_, rfl⟩, fun n => ?_, fun v hv => ?_⟩)
                  · go_simp
                    exact lUpon_one
                  subst hv
                  go_simp
                  refine hK _ ?_
                  clear hK K
                  refine lexL_step (fun K hK => ⟨by kernel_rfl, ⟨_, rfl⟩, fun n => ?_, fun v hv => ?_⟩)
                  · go_simp
                    exact lUpon_one
                  subst hv
                  go_simp
                  refine hK _ ?_
                  clear hK K
                  refine lexL_step (fun K hK => ⟨by kernel_rfl, ⟨_, rfl⟩, fun n => ?_, fun v hv => ?_⟩)
                  · go_simp
                    exact lUpon_one
                  subst hv
                  go_simp
                  refine hK _ ?_
                  clear hK K
                  refine lexL_step (fun K hK => ⟨by kernel_rfl, ⟨_, rfl⟩, fun n => ?_, fun v hv => ?_⟩)
                  · go_simp
                    exact lUpon_one
                  subst hv
                  go_simp
                  refine hK _ ?_
                  clear hK K
                  refine lexL_step (fun K hK => ⟨by kernel_rfl, ⟨_, rfl⟩, fun n => ?_, fun v hv => ?_⟩)
                  · go_simp
                    exact lUpon_one
                  subst hv
                  go_simp
                  refine hK _ ?_
                  clear hK K
                  refine lexL_step (fun K hK => ⟨by kernel_rfl, ⟨_, rfl⟩, fun n => ?_, fun v hv => ?_⟩)
                  · go_simp
                    exact lUpon_one
                  subst hv
                  go_simp
                  refine hK _ ?_
                  clear hK K
                  refine lexL_end ?_
                  intro n9
                  have hb := drawn_below w3 n9
                  go_wp2_with fail
                  go_meet
                  exact ⟨_, rfl, HX, hideR hb⟩
                · have t4 : (p.high == f.high) = false := by rw [beq_eq_false_iff_ne]; exact s4
                  have HX : HeldR (SmIs false p d f) := ⟨⟨(fun e => Bool.noConfusion e), fun e => absurd e.2.2.2 s4⟩⟩
                  clear s1 s2 s3 s4
                  refine wp_region_lets [(· = .pointer (some ⟨bp, op, none⟩)),
                    (· = .pointer (some ⟨bp, op, none⟩)),
                    (· = .pointer (some ⟨bp, op, none⟩)),
                    (· = .int .i64 p.wide),
                    (· = .pointer (some ⟨bd, od, none⟩)),
                    (· = .pointer (some ⟨bd, od, none⟩)),
                    (· = .pointer (some ⟨bd, od, none⟩)),
                    (· = .int .i64 d.wide),
                    (· = .bool true),
                    (· = .bool true),
                    (· = .pointer (some ⟨bp, op, none⟩)),
                    (· = .pointer (some ⟨bp, op, none⟩)),
                    (· = .pointer (some ⟨bp, op + 1, none⟩)),
                    (· = .int .i64 p.high),
                    (· = .pointer (some ⟨bd, od, none⟩)),
                    (· = .pointer (some ⟨bd, od, none⟩)),
                    (· = .pointer (some ⟨bd, od + 1, none⟩)),
                    (· = .int .i64 d.high),
                    (· = .bool true),
                    (· = .bool true),
                    (· = .bool true),
                    (· = .pointer (some ⟨bp, op, none⟩)),
                    (· = .pointer (some ⟨bp, op, none⟩)),
                    (· = .pointer (some ⟨bp, op, none⟩)),
                    (· = .int .i64 p.wide),
                    (· = .pointer (some ⟨bf, of, none⟩)),
                    (· = .pointer (some ⟨bf, of, none⟩)),
                    (· = .pointer (some ⟨bf, of, none⟩)),
                    (· = .int .i64 f.wide),
                    (· = .bool true),
                    (· = .bool true),
                    (· = .bool true),
                    (· = .pointer (some ⟨bp, op, none⟩)),
                    (· = .pointer (some ⟨bp, op, none⟩)),
                    (· = .pointer (some ⟨bp, op + 1, none⟩)),
                    (· = .int .i64 p.high),
                    (· = .pointer (some ⟨bf, of, none⟩)),
                    (· = .pointer (some ⟨bf, of, none⟩)),
                    (· = .pointer (some ⟨bf, of + 1, none⟩)),
                    (· = .int .i64 f.high),
                    (· = .bool false),
                    (· = .bool false),
                    (· = .bool false)] (by kernel_rfl) (by kernel_rfl) ?_
                  refine lexL_step (fun K hK => ⟨by kernel_rfl, ⟨_, rfl⟩, fun n => ?_, fun v hv => ?_⟩)
                  · go_simp
                    exact lUpon_one
                  subst hv
                  go_simp
                  refine hK _ ?_
                  clear hK K
                  refine lexL_step (fun K hK => ⟨by kernel_rfl, ⟨_, rfl⟩, fun n => ?_, fun v hv => ?_⟩)
                  · go_simp
                    exact lUpon_one
                  subst hv
                  go_simp
                  refine hK _ ?_
                  clear hK K
                  refine lexL_step (fun K hK => ⟨by kernel_rfl, ⟨_, rfl⟩, fun n => ?_, fun v hv => ?_⟩)
                  · go_simp
                    exact lUpon_one
                  subst hv
                  go_simp
                  refine hK _ ?_
                  clear hK K
                  refine lexL_step (fun K hK => ⟨by kernel_rfl, ⟨_, rfl⟩, fun n => ?_, fun v hv => ?_⟩)
                  · go_simp
                    exact lUpon_one
                  subst hv
                  go_simp
                  refine hK _ ?_
                  clear hK K
                  refine lexL_step (fun K hK => ⟨by kernel_rfl, ⟨_, rfl⟩, fun n => ?_, fun v hv => ?_⟩)
                  · go_simp
                    exact lUpon_one
                  subst hv
                  go_simp
                  refine hK _ ?_
                  clear hK K
                  refine lexL_step (fun K hK => ⟨by kernel_rfl, ⟨_, rfl⟩, fun n => ?_, fun v hv => ?_⟩)
                  · go_simp
                    exact lUpon_one
                  subst hv
                  go_simp
                  refine hK _ ?_
                  clear hK K
                  refine lexL_step (fun K hK => ⟨by kernel_rfl, ⟨_, rfl⟩, fun n => ?_, fun v hv => ?_⟩)
                  · go_simp
                    exact lUpon_one
                  subst hv
                  go_simp
                  refine hK _ ?_
                  clear hK K
                  refine lexL_step (fun K hK => ⟨by kernel_rfl, ⟨_, rfl⟩, fun n => ?_, fun v hv => ?_⟩)
                  · go_simp
                    exact lUpon_one
                  subst hv
                  go_simp
                  refine hK _ ?_
                  clear hK K
                  refine lexL_step (fun K hK => ⟨by kernel_rfl, ⟨_, rfl⟩, fun n => ?_, fun v hv => ?_⟩)
                  · go_simp
                    exact lUpon_one
                  subst hv
                  go_simp
                  refine hK _ ?_
                  clear hK K
                  refine lexL_step (fun K hK => ⟨by kernel_rfl, ⟨_, rfl⟩, fun n => ?_, fun v hv => ?_⟩)
                  · go_simp
                    exact lUpon_one
                  subst hv
                  go_simp
                  refine hK _ ?_
                  clear hK K
                  refine lexL_step (fun K hK => ⟨by kernel_rfl, ⟨_, rfl⟩, fun n => ?_, fun v hv => ?_⟩)
                  · go_simp
                    exact lUpon_one
                  subst hv
                  go_simp
                  refine hK _ ?_
                  clear hK K
                  refine lexL_step (fun K hK => ⟨by kernel_rfl, ⟨_, rfl⟩, fun n => ?_, fun v hv => ?_⟩)
                  · go_simp
                    exact lUpon_one
                  subst hv
                  go_simp
                  refine hK _ ?_
                  clear hK K
                  refine lexL_step (fun K hK => ⟨by kernel_rfl, ⟨_, rfl⟩, fun n => ?_, fun v hv => ?_⟩)
                  · go_simp
                    exact lUpon_one
                  subst hv
                  go_simp
                  refine hK _ ?_
                  clear hK K
                  refine lexL_step (fun K hK => ⟨by kernel_rfl, ⟨_, rfl⟩, fun n => ?_, fun v hv => ?_⟩)
                  · go_simp
                    exact lUpon_one
                  subst hv
                  go_simp
                  refine hK _ ?_
                  clear hK K
                  refine lexL_step (fun K hK => ⟨by kernel_rfl, ⟨_, rfl⟩, fun n => ?_, fun v hv => ?_⟩)
                  · go_simp
                    exact lUpon_one
                  subst hv
                  go_simp
                  refine hK _ ?_
                  clear hK K
                  refine lexL_step (fun K hK => ⟨by kernel_rfl, ⟨_, rfl⟩, fun n => ?_, fun v hv => ?_⟩)
                  · go_simp
                    exact lUpon_one
                  subst hv
                  go_simp
                  refine hK _ ?_
                  clear hK K
                  refine lexL_step (fun K hK => ⟨by kernel_rfl, ⟨_, rfl⟩, fun n => ?_, fun v hv => ?_⟩)
                  · go_simp
                    exact lUpon_one
                  subst hv
                  go_simp
                  refine hK _ ?_
                  clear hK K
                  refine lexL_step (fun K hK => ⟨by kernel_rfl, ⟨_, rfl⟩, fun n => ?_, fun v hv => ?_⟩)
                  · go_simp
                    exact lUpon_one
                  subst hv
                  go_simp
                  refine hK _ ?_
                  clear hK K
                  refine lexL_step (fun K hK => ⟨by kernel_rfl, ⟨_, rfl⟩, fun n => ?_, fun v hv => ?_⟩)
                  · go_simp
                    exact lUpon_one
                  subst hv
                  go_simp
                  refine hK _ ?_
                  clear hK K
                  refine lexL_step (fun K hK => ⟨by kernel_rfl, ⟨_, rfl⟩, fun n => ?_, fun v hv => ?_⟩)
                  · go_simp
                    exact lUpon_one
                  subst hv
                  go_simp
                  refine hK _ ?_
                  clear hK K
                  refine lexL_step (fun K hK => ⟨by kernel_rfl, ⟨_, rfl⟩, fun n => ?_, fun v hv => ?_⟩)
                  · go_simp
                    exact lUpon_one
                  subst hv
                  go_simp
                  refine hK _ ?_
                  clear hK K
                  refine lexL_step (fun K hK => ⟨by kernel_rfl, ⟨_, rfl⟩, fun n => ?_, fun v hv => ?_⟩)
                  · go_simp
                    exact lUpon_one
                  subst hv
                  go_simp
                  refine hK _ ?_
                  clear hK K
                  refine lexL_step (fun K hK => ⟨by kernel_rfl, ⟨_, rfl⟩, fun n => ?_, fun v hv => ?_⟩)
                  · go_simp
                    exact lUpon_one
                  subst hv
                  go_simp
                  refine hK _ ?_
                  clear hK K
                  refine lexL_step (fun K hK => ⟨by kernel_rfl, ⟨_, rfl⟩, fun n => ?_, fun v hv => ?_⟩)
                  · go_simp
                    exact lUpon_one
                  subst hv
                  go_simp
                  refine hK _ ?_
                  clear hK K
                  refine lexL_step (fun K hK => ⟨by kernel_rfl, ⟨_, rfl⟩, fun n => ?_, fun v hv => ?_⟩)
                  · go_simp
                    exact lUpon_one
                  subst hv
                  go_simp
                  refine hK _ ?_
                  clear hK K
                  refine lexL_step (fun K hK => ⟨by kernel_rfl, ⟨_, rfl⟩, fun n => ?_, fun v hv => ?_⟩)
                  · go_simp
                    exact lUpon_one
                  subst hv
                  go_simp
                  refine hK _ ?_
                  clear hK K
                  refine lexL_step (fun K hK => ⟨by kernel_rfl, ⟨_, rfl⟩, fun n => ?_, fun v hv => ?_⟩)
                  · go_simp
                    exact lUpon_one
                  subst hv
                  go_simp
                  refine hK _ ?_
                  clear hK K
                  refine lexL_step (fun K hK => ⟨by kernel_rfl, ⟨_, rfl⟩, fun n => ?_, fun v hv => ?_⟩)
                  · go_simp
                    exact lUpon_one
                  subst hv
                  go_simp
                  refine hK _ ?_
                  clear hK K
                  refine lexL_step (fun K hK => ⟨by kernel_rfl, ⟨_, rfl⟩, fun n => ?_, fun v hv => ?_⟩)
                  · go_simp
                    exact lUpon_one
                  subst hv
                  go_simp
                  refine hK _ ?_
                  clear hK K
                  refine lexL_step (fun K hK => ⟨by kernel_rfl, ⟨_, rfl⟩, fun n => ?_, fun v hv => ?_⟩)
                  · go_simp
                    exact lUpon_one
                  subst hv
                  go_simp
                  refine hK _ ?_
                  clear hK K
                  refine lexL_step (fun K hK => ⟨by kernel_rfl, ⟨_, rfl⟩, fun n => ?_, fun v hv => ?_⟩)
                  · go_simp
                    exact lUpon_one
                  subst hv
                  go_simp
                  refine hK _ ?_
                  clear hK K
                  refine lexL_step (fun K hK => ⟨by kernel_rfl, ⟨_, rfl⟩, fun n => ?_, fun v hv => ?_⟩)
                  · go_simp
                    exact lUpon_one
                  subst hv
                  go_simp
                  refine hK _ ?_
                  clear hK K
                  refine lexL_step (fun K hK => ⟨by kernel_rfl, ⟨_, rfl⟩, fun n => ?_, fun v hv => ?_⟩)
                  · go_simp
                    exact lUpon_one
                  subst hv
                  go_simp
                  refine hK _ ?_
                  clear hK K
                  refine lexL_step (fun K hK => ⟨by kernel_rfl, ⟨_, rfl⟩, fun n => ?_, fun v hv => ?_⟩)
                  · go_simp
                    exact lUpon_one
                  subst hv
                  go_simp
                  refine hK _ ?_
                  clear hK K
                  refine lexL_step (fun K hK => ⟨by kernel_rfl, ⟨_, rfl⟩, fun n => ?_, fun v hv => ?_⟩)
                  · go_simp
                    exact lUpon_one
                  subst hv
                  go_simp
                  refine hK _ ?_
                  clear hK K
                  refine lexL_step (fun K hK => ⟨by kernel_rfl, ⟨_, rfl⟩, fun n => ?_, fun v hv => ?_⟩)
                  · go_simp
                    exact lUpon_one
                  subst hv
                  go_simp
                  refine hK _ ?_
                  clear hK K
                  refine lexL_step (fun K hK => ⟨by kernel_rfl, ⟨_, rfl⟩, fun n => ?_, fun v hv => ?_⟩)
                  · go_simp
                    exact lUpon_one
                  subst hv
                  go_simp
                  refine hK _ ?_
                  clear hK K
                  refine lexL_step (fun K hK => ⟨by kernel_rfl, ⟨_, rfl⟩, fun n => ?_, fun v hv => ?_⟩)
                  · go_simp
                    exact lUpon_one
                  subst hv
                  go_simp
                  refine hK _ ?_
                  clear hK K
                  refine lexL_step (fun K hK => ⟨by kernel_rfl, ⟨_, rfl⟩, fun n => ?_, fun v hv => ?_⟩)
                  · go_simp
                    exact lUpon_one
                  subst hv
                  go_simp
                  refine hK _ ?_
                  clear hK K
                  refine lexL_step (fun K hK => ⟨by kernel_rfl, ⟨_, rfl⟩, fun n => ?_, fun v hv => ?_⟩)
                  · go_simp
                    exact lUpon_one
                  subst hv
                  go_simp
                  refine hK _ ?_
                  clear hK K
                  refine lexL_step (fun K hK => ⟨by kernel_rfl, ⟨_, rfl⟩, fun n => ?_, fun v hv => ?_⟩)
                  · go_simp
                    exact lUpon_one
                  subst hv
                  go_simp
                  refine hK _ ?_
                  clear hK K
                  refine lexL_step (fun K hK => ⟨by kernel_rfl, ⟨_, rfl⟩, fun n => ?_, fun v hv => ?_⟩)
                  · go_simp
                    exact lUpon_one
                  subst hv
                  go_simp
                  refine hK _ ?_
                  clear hK K
                  refine lexL_step (fun K hK => ⟨by kernel_rfl, ⟨_, rfl⟩, fun n => ?_, fun v hv => ?_⟩)
                  · go_simp
                    exact lUpon_one
                  subst hv
                  go_simp
                  refine hK _ ?_
                  clear hK K
                  refine lexL_end ?_
                  intro n9
                  have hb := drawn_below w3 n9
                  go_wp2_with fail
                  go_meet
                  exact ⟨_, rfl, HX, hideR hb⟩
              · have t3 : (p.wide == f.wide) = false := by rw [beq_eq_false_iff_ne]; exact s3
                have HX : HeldR (SmIs false p d f) := ⟨⟨(fun e => Bool.noConfusion e), fun e => absurd e.2.2.1 s3⟩⟩
                clear s1 s2 s3
                refine wp_region_lets [(· = .pointer (some ⟨bp, op, none⟩)),
                  (· = .pointer (some ⟨bp, op, none⟩)),
                  (· = .pointer (some ⟨bp, op, none⟩)),
                  (· = .int .i64 p.wide),
                  (· = .pointer (some ⟨bd, od, none⟩)),
                  (· = .pointer (some ⟨bd, od, none⟩)),
                  (· = .pointer (some ⟨bd, od, none⟩)),
                  (· = .int .i64 d.wide),
                  (· = .bool true),
                  (· = .bool true),
                  (· = .pointer (some ⟨bp, op, none⟩)),
                  (· = .pointer (some ⟨bp, op, none⟩)),
                  (· = .pointer (some ⟨bp, op + 1, none⟩)),
                  (· = .int .i64 p.high),
                  (· = .pointer (some ⟨bd, od, none⟩)),
                  (· = .pointer (some ⟨bd, od, none⟩)),
                  (· = .pointer (some ⟨bd, od + 1, none⟩)),
                  (· = .int .i64 d.high),
                  (· = .bool true),
                  (· = .bool true),
                  (· = .bool true),
                  (· = .pointer (some ⟨bp, op, none⟩)),
                  (· = .pointer (some ⟨bp, op, none⟩)),
                  (· = .pointer (some ⟨bp, op, none⟩)),
                  (· = .int .i64 p.wide),
                  (· = .pointer (some ⟨bf, of, none⟩)),
                  (· = .pointer (some ⟨bf, of, none⟩)),
                  (· = .pointer (some ⟨bf, of, none⟩)),
                  (· = .int .i64 f.wide),
                  (· = .bool false),
                  (· = .bool false),
                  (· = .bool false),
                  (· = undef),
                  (· = undef),
                  (· = undef),
                  (· = undef),
                  (· = undef),
                  (· = undef),
                  (· = undef),
                  (· = undef),
                  (· = undef),
                  (· = .bool false),
                  (· = .bool false)] (by kernel_rfl) (by kernel_rfl) ?_
                refine lexL_step (fun K hK => ⟨by kernel_rfl, ⟨_, rfl⟩, fun n => ?_, fun v hv => ?_⟩)
                · go_simp
                  exact lUpon_one
                subst hv
                go_simp
                refine hK _ ?_
                clear hK K
                refine lexL_step (fun K hK => ⟨by kernel_rfl, ⟨_, rfl⟩, fun n => ?_, fun v hv => ?_⟩)
                · go_simp
                  exact lUpon_one
                subst hv
                go_simp
                refine hK _ ?_
                clear hK K
                refine lexL_step (fun K hK => ⟨by kernel_rfl, ⟨_, rfl⟩, fun n => ?_, fun v hv => ?_⟩)
                · go_simp
                  exact lUpon_one
                subst hv
                go_simp
                refine hK _ ?_
                clear hK K
                refine lexL_step (fun K hK => ⟨by kernel_rfl, ⟨_, rfl⟩, fun n => ?_, fun v hv => ?_⟩)
                · go_simp
                  exact lUpon_one
                subst hv
                go_simp
                refine hK _ ?_
                clear hK K
                refine lexL_step (fun K hK => ⟨by kernel_rfl, ⟨_, rfl⟩, fun n => ?_, fun v hv => ?_⟩)
                · go_simp
                  exact lUpon_one
                subst hv
                go_simp
                refine hK _ ?_
                clear hK K
                refine lexL_step (fun K hK => ⟨by kernel_rfl, ⟨_, rfl⟩, fun n => ?_, fun v hv => ?_⟩)
                · go_simp
                  exact lUpon_one
                subst hv
                go_simp
                refine hK _ ?_
                clear hK K
                refine lexL_step (fun K hK => ⟨by kernel_rfl, ⟨_, rfl⟩, fun n => ?_, fun v hv => ?_⟩)
                · go_simp
                  exact lUpon_one
                subst hv
                go_simp
                refine hK _ ?_
                clear hK K
                refine lexL_step (fun K hK => ⟨by kernel_rfl, ⟨_, rfl⟩, fun n => ?_, fun v hv => ?_⟩)
                · go_simp
                  exact lUpon_one
                subst hv
                go_simp
                refine hK _ ?_
                clear hK K
                refine lexL_step (fun K hK => ⟨by kernel_rfl, ⟨_, rfl⟩, fun n => ?_, fun v hv => ?_⟩)
                · go_simp
                  exact lUpon_one
                subst hv
                go_simp
                refine hK _ ?_
                clear hK K
                refine lexL_step (fun K hK => ⟨by kernel_rfl, ⟨_, rfl⟩, fun n => ?_, fun v hv => ?_⟩)
                · go_simp
                  exact lUpon_one
                subst hv
                go_simp
                refine hK _ ?_
                clear hK K
                refine lexL_step (fun K hK => ⟨by kernel_rfl, ⟨_, rfl⟩, fun n => ?_, fun v hv => ?_⟩)
                · go_simp
                  exact lUpon_one
                subst hv
                go_simp
                refine hK _ ?_
                clear hK K
                refine lexL_step (fun K hK => ⟨by kernel_rfl, ⟨_, rfl⟩, fun n => ?_, fun v hv => ?_⟩)
                · go_simp
                  exact lUpon_one
                subst hv
                go_simp
                refine hK _ ?_
                clear hK K
                refine lexL_step (fun K hK => ⟨by kernel_rfl, ⟨_, rfl⟩, fun n => ?_, fun v hv => ?_⟩)
                · go_simp
                  exact lUpon_one
                subst hv
                go_simp
                refine hK _ ?_
                clear hK K
                refine lexL_step (fun K hK => ⟨by kernel_rfl, ⟨_, rfl⟩, fun n => ?_, fun v hv => ?_⟩)
                · go_simp
                  exact lUpon_one
                subst hv
                go_simp
                refine hK _ ?_
                clear hK K
                refine lexL_step (fun K hK => ⟨by kernel_rfl, ⟨_, rfl⟩, fun n => ?_, fun v hv => ?_⟩)
                · go_simp
                  exact lUpon_one
                subst hv
                go_simp
                refine hK _ ?_
                clear hK K
                refine lexL_step (fun K hK => ⟨by kernel_rfl, ⟨_, rfl⟩, fun n => ?_, fun v hv => ?_⟩)
                · go_simp
                  exact lUpon_one
                subst hv
                go_simp
                refine hK _ ?_
                clear hK K
                refine lexL_step (fun K hK => ⟨by kernel_rfl, ⟨_, rfl⟩, fun n => ?_, fun v hv => ?_⟩)
                · go_simp
                  exact lUpon_one
                subst hv
                go_simp
                refine hK _ ?_
                clear hK K
                refine lexL_step (fun K hK => ⟨by kernel_rfl, ⟨_, rfl⟩, fun n => ?_, fun v hv => ?_⟩)
                · go_simp
                  exact lUpon_one
                subst hv
                go_simp
                refine hK _ ?_
                clear hK K
                refine lexL_step (fun K hK => ⟨by kernel_rfl, ⟨_, rfl⟩, fun n => ?_, fun v hv => ?_⟩)
                · go_simp
                  exact lUpon_one
                subst hv
                go_simp
                refine hK _ ?_
                clear hK K
                refine lexL_step (fun K hK => ⟨by kernel_rfl, ⟨_, rfl⟩, fun n => ?_, fun v hv => ?_⟩)
                · go_simp
                  exact lUpon_one
                subst hv
                go_simp
                refine hK _ ?_
                clear hK K
                refine lexL_step (fun K hK => ⟨by kernel_rfl, ⟨_, rfl⟩, fun n => ?_, fun v hv => ?_⟩)
                · go_simp
                  exact lUpon_one
                subst hv
                go_simp
                refine hK _ ?_
                clear hK K
                refine lexL_step (fun K hK => ⟨by kernel_rfl, ⟨_, rfl⟩, fun n => ?_, fun v hv => ?_⟩)
                · go_simp
                  exact lUpon_one
                subst hv
                go_simp
                refine hK _ ?_
                clear hK K
                refine lexL_step (fun K hK => ⟨by kernel_rfl, ⟨_, rfl⟩, fun n => ?_, fun v hv => ?_⟩)
                · go_simp
                  exact lUpon_one
                subst hv
                go_simp
                refine hK _ ?_
                clear hK K
                refine lexL_step (fun K hK => ⟨by kernel_rfl, ⟨_, rfl⟩, fun n => ?_, fun v hv => ?_⟩)
                · go_simp
                  exact lUpon_one
                subst hv
                go_simp
                refine hK _ ?_
                clear hK K
                refine lexL_step (fun K hK => ⟨by kernel_rfl, ⟨_, rfl⟩, fun n => ?_, fun v hv => ?_⟩)
                · go_simp
                  exact lUpon_one
                subst hv
                go_simp
                refine hK _ ?_
                clear hK K
                refine lexL_step (fun K hK => ⟨by kernel_rfl, ⟨_, rfl⟩, fun n => ?_, fun v hv => ?_⟩)
                · go_simp
                  exact lUpon_one
                subst hv
                go_simp
                refine hK _ ?_
                clear hK K
                refine lexL_step (fun K hK => ⟨by kernel_rfl, ⟨_, rfl⟩, fun n => ?_, fun v hv => ?_⟩)
                · go_simp
                  exact lUpon_one
                subst hv
                go_simp
                refine hK _ ?_
                clear hK K
                refine lexL_step (fun K hK => ⟨by kernel_rfl, ⟨_, rfl⟩, fun n => ?_, fun v hv => ?_⟩)
                · go_simp
                  exact lUpon_one
                subst hv
                go_simp
                refine hK _ ?_
                clear hK K
                refine lexL_step (fun K hK => ⟨by kernel_rfl, ⟨_, rfl⟩, fun n => ?_, fun v hv => ?_⟩)
                · go_simp
                  exact lUpon_one
                subst hv
                go_simp
                refine hK _ ?_
                clear hK K
                refine lexL_step (fun K hK => ⟨by kernel_rfl, ⟨_, rfl⟩, fun n => ?_, fun v hv => ?_⟩)
                · go_simp
                  exact lUpon_one
                subst hv
                go_simp
                refine hK _ ?_
                clear hK K
                refine lexL_step (fun K hK => ⟨by kernel_rfl, ⟨_, rfl⟩, fun n => ?_, fun v hv => ?_⟩)
                · go_simp
                  exact lUpon_one
                subst hv
                go_simp
                refine hK _ ?_
                clear hK K
                refine lexL_step (fun K hK => ⟨by kernel_rfl, ⟨_, rfl⟩, fun n => ?_, fun v hv => ?_⟩)
                · go_simp
                  exact lUpon_one
                subst hv
                go_simp
                refine hK _ ?_
                clear hK K
                refine lexL_skip (fun K hK => ⟨by kernel_rfl, ?_⟩)
                go_simp
                refine hK _ ?_
                clear hK K
                refine lexL_skip (fun K hK => ⟨by kernel_rfl, ?_⟩)
                go_simp
                refine hK _ ?_
                clear hK K
                refine lexL_skip (fun K hK => ⟨by kernel_rfl, ?_⟩)
                go_simp
                refine hK _ ?_
                clear hK K
                refine lexL_skip (fun K hK => ⟨by kernel_rfl, ?_⟩)
                go_simp
                refine hK _ ?_
                clear hK K
                refine lexL_skip (fun K hK => ⟨by kernel_rfl, ?_⟩)
                go_simp
                refine hK _ ?_
                clear hK K
                refine lexL_skip (fun K hK => ⟨by kernel_rfl, ?_⟩)
                go_simp
                refine hK _ ?_
                clear hK K
                refine lexL_skip (fun K hK => ⟨by kernel_rfl, ?_⟩)
                go_simp
                refine hK _ ?_
                clear hK K
                refine lexL_skip (fun K hK => ⟨by kernel_rfl, ?_⟩)
                go_simp
                refine hK _ ?_
                clear hK K
                refine lexL_skip (fun K hK => ⟨by kernel_rfl, ?_⟩)
                go_simp
                refine hK _ ?_
                clear hK K
                refine lexL_step (fun K hK => ⟨by kernel_rfl, ⟨_, rfl⟩, fun n => ?_, fun v hv => ?_⟩)
                · go_simp
                  exact lUpon_one
                subst hv
                go_simp
                refine hK _ ?_
                clear hK K
                refine lexL_step (fun K hK => ⟨by kernel_rfl, ⟨_, rfl⟩, fun n => ?_, fun v hv => ?_⟩)
                · go_simp
                  exact lUpon_one
                subst hv
                go_simp
                refine hK _ ?_
                clear hK K
                refine lexL_end ?_
                intro n9
                have hb := drawn_below w3 n9
                go_wp2_with fail
                go_meet
                exact ⟨_, rfl, HX, hideR hb⟩
            · have t2 : (p.high == d.high) = false := by rw [beq_eq_false_iff_ne]; exact s2
              have HX : HeldR (SmIs false p d f) := ⟨⟨(fun e => Bool.noConfusion e), fun e => absurd e.2.1 s2⟩⟩
              clear s1 s2
              refine wp_region_lets [(· = .pointer (some ⟨bp, op, none⟩)),
                (· = .pointer (some ⟨bp, op, none⟩)),
                (· = .pointer (some ⟨bp, op, none⟩)),
                (· = .int .i64 p.wide),
                (· = .pointer (some ⟨bd, od, none⟩)),
                (· = .pointer (some ⟨bd, od, none⟩)),
                (· = .pointer (some ⟨bd, od, none⟩)),
                (· = .int .i64 d.wide),
                (· = .bool true),
                (· = .bool true),
                (· = .pointer (some ⟨bp, op, none⟩)),
                (· = .pointer (some ⟨bp, op, none⟩)),
                (· = .pointer (some ⟨bp, op + 1, none⟩)),
                (· = .int .i64 p.high),
                (· = .pointer (some ⟨bd, od, none⟩)),
                (· = .pointer (some ⟨bd, od, none⟩)),
                (· = .pointer (some ⟨bd, od + 1, none⟩)),
                (· = .int .i64 d.high),
                (· = .bool false),
                (· = .bool false),
                (· = .bool false),
                (· = undef),
                (· = undef),
                (· = undef),
                (· = undef),
                (· = undef),
                (· = undef),
                (· = undef),
                (· = undef),
                (· = undef),
                (· = .bool false),
                (· = .bool false),
                (· = undef),
                (· = undef),
                (· = undef),
                (· = undef),
                (· = undef),
                (· = undef),
                (· = undef),
                (· = undef),
                (· = undef),
                (· = .bool false),
                (· = .bool false)] (by kernel_rfl) (by kernel_rfl) ?_
              refine lexL_step (fun K hK => ⟨by kernel_rfl, ⟨_, rfl⟩, fun n => ?_, fun v hv => ?_⟩)
              · go_simp
                exact lUpon_one
              subst hv
              go_simp
              refine hK _ ?_
              clear hK K
              refine lexL_step (fun K hK => ⟨by kernel_rfl, ⟨_, rfl⟩, fun n => ?_, fun v hv => ?_⟩)
              · go_simp
                exact lUpon_one
              subst hv
              go_simp
              refine hK _ ?_
              clear hK K
              refine lexL_step (fun K hK => ⟨by kernel_rfl, ⟨_, rfl⟩, fun n => ?_, fun v hv => ?_⟩)
              · go_simp
                exact lUpon_one
              subst hv
              go_simp
              refine hK _ ?_
              clear hK K
              refine lexL_step (fun K hK => ⟨by kernel_rfl, ⟨_, rfl⟩, fun n => ?_, fun v hv => ?_⟩)
              · go_simp
                exact lUpon_one
              subst hv
              go_simp
              refine hK _ ?_
              clear hK K
              refine lexL_step (fun K hK => ⟨by kernel_rfl, ⟨_, rfl⟩, fun n => ?_, fun v hv => ?_⟩)
              · go_simp
                exact lUpon_one
              subst hv
              go_simp
              refine hK _ ?_
              clear hK K
              refine lexL_step (fun K hK => ⟨by kernel_rfl, ⟨_, rfl⟩, fun n => ?_, fun v hv => ?_⟩)
              · go_simp
                exact lUpon_one
              subst hv
              go_simp
              refine hK _ ?_
              clear hK K
              refine lexL_step (fun K hK => ⟨by kernel_rfl, ⟨_, rfl⟩, fun n => ?_, fun v hv => ?_⟩)
              · go_simp
                exact lUpon_one
              subst hv
              go_simp
              refine hK _ ?_
              clear hK K
              refine lexL_step (fun K hK => ⟨by kernel_rfl, ⟨_, rfl⟩, fun n => ?_, fun v hv => ?_⟩)
              · go_simp
                exact lUpon_one
              subst hv
              go_simp
              refine hK _ ?_
              clear hK K
              refine lexL_step (fun K hK => ⟨by kernel_rfl, ⟨_, rfl⟩, fun n => ?_, fun v hv => ?_⟩)
              · go_simp
                exact lUpon_one
              subst hv
              go_simp
              refine hK _ ?_
              clear hK K
              refine lexL_step (fun K hK => ⟨by kernel_rfl, ⟨_, rfl⟩, fun n => ?_, fun v hv => ?_⟩)
              · go_simp
                exact lUpon_one
              subst hv
              go_simp
              refine hK _ ?_
              clear hK K
              refine lexL_step (fun K hK => ⟨by kernel_rfl, ⟨_, rfl⟩, fun n => ?_, fun v hv => ?_⟩)
              · go_simp
                exact lUpon_one
              subst hv
              go_simp
              refine hK _ ?_
              clear hK K
              refine lexL_step (fun K hK => ⟨by kernel_rfl, ⟨_, rfl⟩, fun n => ?_, fun v hv => ?_⟩)
              · go_simp
                exact lUpon_one
              subst hv
              go_simp
              refine hK _ ?_
              clear hK K
              refine lexL_step (fun K hK => ⟨by kernel_rfl, ⟨_, rfl⟩, fun n => ?_, fun v hv => ?_⟩)
              · go_simp
                exact lUpon_one
              subst hv
              go_simp
              refine hK _ ?_
              clear hK K
              refine lexL_step (fun K hK => ⟨by kernel_rfl, ⟨_, rfl⟩, fun n => ?_, fun v hv => ?_⟩)
              · go_simp
                exact lUpon_one
              subst hv
              go_simp
              refine hK _ ?_
              clear hK K
              refine lexL_step (fun K hK => ⟨by kernel_rfl, ⟨_, rfl⟩, fun n => ?_, fun v hv => ?_⟩)
              · go_simp
                exact lUpon_one
              subst hv
              go_simp
              refine hK _ ?_
              clear hK K
              refine lexL_step (fun K hK => ⟨by kernel_rfl, ⟨_, rfl⟩, fun n => ?_, fun v hv => ?_⟩)
              · go_simp
                exact lUpon_one
              subst hv
              go_simp
              refine hK _ ?_
              clear hK K
              refine lexL_step (fun K hK => ⟨by kernel_rfl, ⟨_, rfl⟩, fun n => ?_, fun v hv => ?_⟩)
              · go_simp
                exact lUpon_one
              subst hv
              go_simp
              refine hK _ ?_
              clear hK K
              refine lexL_step (fun K hK => ⟨by kernel_rfl, ⟨_, rfl⟩, fun n => ?_, fun v hv => ?_⟩)
              · go_simp
                exact lUpon_one
              subst hv
              go_simp
              refine hK _ ?_
              clear hK K
              refine lexL_step (fun K hK => ⟨by kernel_rfl, ⟨_, rfl⟩, fun n => ?_, fun v hv => ?_⟩)
              · go_simp
                exact lUpon_one
              subst hv
              go_simp
              refine hK _ ?_
              clear hK K
              refine lexL_step (fun K hK => ⟨by kernel_rfl, ⟨_, rfl⟩, fun n => ?_, fun v hv => ?_⟩)
              · go_simp
                exact lUpon_one
              subst hv
              go_simp
              refine hK _ ?_
              clear hK K
              refine lexL_step (fun K hK => ⟨by kernel_rfl, ⟨_, rfl⟩, fun n => ?_, fun v hv => ?_⟩)
              · go_simp
                exact lUpon_one
              subst hv
              go_simp
              refine hK _ ?_
              clear hK K
              refine lexL_skip (fun K hK => ⟨by kernel_rfl, ?_⟩)
              go_simp
              refine hK _ ?_
              clear hK K
              refine lexL_skip (fun K hK => ⟨by kernel_rfl, ?_⟩)
              go_simp
              refine hK _ ?_
              clear hK K
              refine lexL_skip (fun K hK => ⟨by kernel_rfl, ?_⟩)
              go_simp
              refine hK _ ?_
              clear hK K
              refine lexL_skip (fun K hK => ⟨by kernel_rfl, ?_⟩)
              go_simp
              refine hK _ ?_
              clear hK K
              refine lexL_skip (fun K hK => ⟨by kernel_rfl, ?_⟩)
              go_simp
              refine hK _ ?_
              clear hK K
              refine lexL_skip (fun K hK => ⟨by kernel_rfl, ?_⟩)
              go_simp
              refine hK _ ?_
              clear hK K
              refine lexL_skip (fun K hK => ⟨by kernel_rfl, ?_⟩)
              go_simp
              refine hK _ ?_
              clear hK K
              refine lexL_skip (fun K hK => ⟨by kernel_rfl, ?_⟩)
              go_simp
              refine hK _ ?_
              clear hK K
              refine lexL_skip (fun K hK => ⟨by kernel_rfl, ?_⟩)
              go_simp
              refine hK _ ?_
              clear hK K
              refine lexL_step (fun K hK => ⟨by kernel_rfl, ⟨_, rfl⟩, fun n => ?_, fun v hv => ?_⟩)
              · go_simp
                exact lUpon_one
              subst hv
              go_simp
              refine hK _ ?_
              clear hK K
              refine lexL_step (fun K hK => ⟨by kernel_rfl, ⟨_, rfl⟩, fun n => ?_, fun v hv => ?_⟩)
              · go_simp
                exact lUpon_one
              subst hv
              go_simp
              refine hK _ ?_
              clear hK K
              refine lexL_skip (fun K hK => ⟨by kernel_rfl, ?_⟩)
              go_simp
              refine hK _ ?_
              clear hK K
              refine lexL_skip (fun K hK => ⟨by kernel_rfl, ?_⟩)
              go_simp
              refine hK _ ?_
              clear hK K
              refine lexL_skip (fun K hK => ⟨by kernel_rfl, ?_⟩)
              go_simp
              refine hK _ ?_
              clear hK K
              refine lexL_skip (fun K hK => ⟨by kernel_rfl, ?_⟩)
              go_simp
              refine hK _ ?_
              clear hK K
              refine lexL_skip (fun K hK => ⟨by kernel_rfl, ?_⟩)
              go_simp
              refine hK _ ?_
              clear hK K
              refine lexL_skip (fun K hK => ⟨by kernel_rfl, ?_⟩)
              go_simp
              refine hK _ ?_
              clear hK K
              refine lexL_skip (fun K hK => ⟨by kernel_rfl, ?_⟩)
              go_simp
              refine hK _ ?_
              clear hK K
              refine lexL_skip (fun K hK => ⟨by kernel_rfl, ?_⟩)
              go_simp
              refine hK _ ?_
              clear hK K
              refine lexL_skip (fun K hK => ⟨by kernel_rfl, ?_⟩)
              go_simp
              refine hK _ ?_
              clear hK K
              refine lexL_step (fun K hK => ⟨by kernel_rfl, ⟨_, rfl⟩, fun n => ?_, fun v hv => ?_⟩)
              · go_simp
                exact lUpon_one
              subst hv
              go_simp
              refine hK _ ?_
              clear hK K
              refine lexL_step (fun K hK => ⟨by kernel_rfl, ⟨_, rfl⟩, fun n => ?_, fun v hv => ?_⟩)
              · go_simp
                exact lUpon_one
              subst hv
              go_simp
              refine hK _ ?_
              clear hK K
              refine lexL_end ?_
              intro n9
              have hb := drawn_below w3 n9
              go_wp2_with fail
              go_meet
              exact ⟨_, rfl, HX, hideR hb⟩
          · have t1 : (p.wide == d.wide) = false := by rw [beq_eq_false_iff_ne]; exact s1
            have HX : HeldR (SmIs false p d f) := ⟨⟨(fun e => Bool.noConfusion e), fun e => absurd e.1 s1⟩⟩
            clear s1
            refine wp_region_lets [(· = .pointer (some ⟨bp, op, none⟩)),
              (· = .pointer (some ⟨bp, op, none⟩)),
              (· = .pointer (some ⟨bp, op, none⟩)),
              (· = .int .i64 p.wide),
              (· = .pointer (some ⟨bd, od, none⟩)),
              (· = .pointer (some ⟨bd, od, none⟩)),
              (· = .pointer (some ⟨bd, od, none⟩)),
              (· = .int .i64 d.wide),
              (· = .bool false),
              (· = .bool false),
              (· = undef),
              (· = undef),
              (· = undef),
              (· = undef),
              (· = undef),
              (· = undef),
              (· = undef),
              (· = undef),
              (· = undef),
              (· = .bool false),
              (· = .bool false),
              (· = undef),
              (· = undef),
              (· = undef),
              (· = undef),
              (· = undef),
              (· = undef),
              (· = undef),
              (· = undef),
              (· = undef),
              (· = .bool false),
              (· = .bool false),
              (· = undef),
              (· = undef),
              (· = undef),
              (· = undef),
              (· = undef),
              (· = undef),
              (· = undef),
              (· = undef),
              (· = undef),
              (· = .bool false),
              (· = .bool false)] (by kernel_rfl) (by kernel_rfl) ?_
            refine lexL_step (fun K hK => ⟨by kernel_rfl, ⟨_, rfl⟩, fun n => ?_, fun v hv => ?_⟩)
            · go_simp
              exact lUpon_one
            subst hv
            go_simp
            refine hK _ ?_
            clear hK K
            refine lexL_step (fun K hK => ⟨by kernel_rfl, ⟨_, rfl⟩, fun n => ?_, fun v hv => ?_⟩)
            · go_simp
              exact lUpon_one
            subst hv
            go_simp
            refine hK _ ?_
            clear hK K
            refine lexL_step (fun K hK => ⟨by kernel_rfl, ⟨_, rfl⟩, fun n => ?_, fun v hv => ?_⟩)
            · go_simp
              exact lUpon_one
            subst hv
            go_simp
            refine hK _ ?_
            clear hK K
            refine lexL_step (fun K hK => ⟨by kernel_rfl, ⟨_, rfl⟩, fun n => ?_, fun v hv => ?_⟩)
            · go_simp
              exact lUpon_one
            subst hv
            go_simp
            refine hK _ ?_
            clear hK K
            refine lexL_step (fun K hK => ⟨by kernel_rfl, ⟨_, rfl⟩, fun n => ?_, fun v hv => ?_⟩)
            · go_simp
              exact lUpon_one
            subst hv
            go_simp
            refine hK _ ?_
            clear hK K
            refine lexL_step (fun K hK => ⟨by kernel_rfl, ⟨_, rfl⟩, fun n => ?_, fun v hv => ?_⟩)
            · go_simp
              exact lUpon_one
            subst hv
            go_simp
            refine hK _ ?_
            clear hK K
            refine lexL_step (fun K hK => ⟨by kernel_rfl, ⟨_, rfl⟩, fun n => ?_, fun v hv => ?_⟩)
            · go_simp
              exact lUpon_one
            subst hv
            go_simp
            refine hK _ ?_
            clear hK K
            refine lexL_step (fun K hK => ⟨by kernel_rfl, ⟨_, rfl⟩, fun n => ?_, fun v hv => ?_⟩)
            · go_simp
              exact lUpon_one
            subst hv
            go_simp
            refine hK _ ?_
            clear hK K
            refine lexL_step (fun K hK => ⟨by kernel_rfl, ⟨_, rfl⟩, fun n => ?_, fun v hv => ?_⟩)
            · go_simp
              exact lUpon_one
            subst hv
            go_simp
            refine hK _ ?_
            clear hK K
            refine lexL_step (fun K hK => ⟨by kernel_rfl, ⟨_, rfl⟩, fun n => ?_, fun v hv => ?_⟩)
            · go_simp
              exact lUpon_one
            subst hv
            go_simp
            refine hK _ ?_
            clear hK K
            refine lexL_skip (fun K hK => ⟨by kernel_rfl, ?_⟩)
            go_simp
            refine hK _ ?_
            clear hK K
            refine lexL_skip (fun K hK => ⟨by kernel_rfl, ?_⟩)
            go_simp
            refine hK _ ?_
            clear hK K
            refine lexL_skip (fun K hK => ⟨by kernel_rfl, ?_⟩)
            go_simp
            refine hK _ ?_
            clear hK K
            refine lexL_skip (fun K hK => ⟨by kernel_rfl, ?_⟩)
            go_simp
            refine hK _ ?_
            clear hK K
            refine lexL_skip (fun K hK => ⟨by kernel_rfl, ?_⟩)
            go_simp
            refine hK _ ?_
            clear hK K
            refine lexL_skip (fun K hK => ⟨by kernel_rfl, ?_⟩)
            go_simp
            refine hK _ ?_
            clear hK K
            refine lexL_skip (fun K hK => ⟨by kernel_rfl, ?_⟩)
            go_simp
            refine hK _ ?_
            clear hK K
            refine lexL_skip (fun K hK => ⟨by kernel_rfl, ?_⟩)
            go_simp
            refine hK _ ?_
            clear hK K
            refine lexL_skip (fun K hK => ⟨by kernel_rfl, ?_⟩)
            go_simp
            refine hK _ ?_
            clear hK K
            refine lexL_step (fun K hK => ⟨by kernel_rfl, ⟨_, rfl⟩, fun n => ?_, fun v hv => ?_⟩)
            · go_simp
              exact lUpon_one
            subst hv
            go_simp
            refine hK _ ?_
            clear hK K
            refine lexL_step (fun K hK => ⟨by kernel_rfl, ⟨_, rfl⟩, fun n => ?_, fun v hv => ?_⟩)
            · go_simp
              exact lUpon_one
            subst hv
            go_simp
            refine hK _ ?_
            clear hK K
            refine lexL_skip (fun K hK => ⟨by kernel_rfl, ?_⟩)
            go_simp
            refine hK _ ?_
            clear hK K
            refine lexL_skip (fun K hK => ⟨by kernel_rfl, ?_⟩)
            go_simp
            refine hK _ ?_
            clear hK K
            refine lexL_skip (fun K hK => ⟨by kernel_rfl, ?_⟩)
            go_simp
            refine hK _ ?_
            clear hK K
            refine lexL_skip (fun K hK => ⟨by kernel_rfl, ?_⟩)
            go_simp
            refine hK _ ?_
            clear hK K
            refine lexL_skip (fun K hK => ⟨by kernel_rfl, ?_⟩)
            go_simp
            refine hK _ ?_
            clear hK K
            refine lexL_skip (fun K hK => ⟨by kernel_rfl, ?_⟩)
            go_simp
            refine hK _ ?_
            clear hK K
            refine lexL_skip (fun K hK => ⟨by kernel_rfl, ?_⟩)
            go_simp
            refine hK _ ?_
            clear hK K
            refine lexL_skip (fun K hK => ⟨by kernel_rfl, ?_⟩)
            go_simp
            refine hK _ ?_
            clear hK K
            refine lexL_skip (fun K hK => ⟨by kernel_rfl, ?_⟩)
            go_simp
            refine hK _ ?_
            clear hK K
            refine lexL_step (fun K hK => ⟨by kernel_rfl, ⟨_, rfl⟩, fun n => ?_, fun v hv => ?_⟩)
            · go_simp
              exact lUpon_one
            subst hv
            go_simp
            refine hK _ ?_
            clear hK K
            refine lexL_step (fun K hK => ⟨by kernel_rfl, ⟨_, rfl⟩, fun n => ?_, fun v hv => ?_⟩)
            · go_simp
              exact lUpon_one
            subst hv
            go_simp
            refine hK _ ?_
            clear hK K
            refine lexL_skip (fun K hK => ⟨by kernel_rfl, ?_⟩)
            go_simp
            refine hK _ ?_
            clear hK K
            refine lexL_skip (fun K hK => ⟨by kernel_rfl, ?_⟩)
            go_simp
            refine hK _ ?_
            clear hK K
            refine lexL_skip (fun K hK => ⟨by kernel_rfl, ?_⟩)
            go_simp
            refine hK _ ?_
            clear hK K
            refine lexL_skip (fun K hK => ⟨by kernel_rfl, ?_⟩)
            go_simp
            refine hK _ ?_
            clear hK K
            refine lexL_skip (fun K hK => ⟨by kernel_rfl, ?_⟩)
            go_simp
            refine hK _ ?_
            clear hK K
            refine lexL_skip (fun K hK => ⟨by kernel_rfl, ?_⟩)
            go_simp
            refine hK _ ?_
            clear hK K
            refine lexL_skip (fun K hK => ⟨by kernel_rfl, ?_⟩)
            go_simp
            refine hK _ ?_
            clear hK K
            refine lexL_skip (fun K hK => ⟨by kernel_rfl, ?_⟩)
            go_simp
            refine hK _ ?_
            clear hK K
            refine lexL_skip (fun K hK => ⟨by kernel_rfl, ?_⟩)
            go_simp
            refine hK _ ?_
            clear hK K
            refine lexL_step (fun K hK => ⟨by kernel_rfl, ⟨_, rfl⟩, fun n => ?_, fun v hv => ?_⟩)
            · go_simp
              exact lUpon_one
            subst hv
            go_simp
            refine hK _ ?_
            clear hK K
            refine lexL_step (fun K hK => ⟨by kernel_rfl, ⟨_, rfl⟩, fun n => ?_, fun v hv => ?_⟩)
            · go_simp
              exact lUpon_one
            subst hv
            go_simp
            refine hK _ ?_
            clear hK K
            refine lexL_end ?_
            intro n9
            have hb := drawn_below w3 n9
            go_wp2_with fail
            go_meet
            exact ⟨_, rfl, HX, hideR hb⟩
        obtain ⟨sm, rfl, HSm, HWc⟩ := hcut
        replace HW := hideR (below_go (unhideR HW) (unhideR HWc))
        replace HP := hideR ((unhideR HP).below (unhideR HWc))
        replace HD := hideR ((unhideR HD).below (unhideR HWc))
        replace HFl := hideR ((unhideR HFl).below (unhideR HWc))
        clear HWc
        obtain ⟨_, _, _, zf, hrf⟩ := unhideR HFl
        have HRf := hideR hrf
        have HSz := hideR (sum_size (unhideR HKf))
        clear hrf
        go_wp2_with fail
        go_loop [13, 14, 15] (fun sv nv kv => ∃ k : Nat, k ≤ f.L.length ∧ sv = .int .i64 (sumV (f.L.take k)) ∧ nv = .int .i64 (someN (f.L.take k) : Nat) ∧ kv = .int .i64 (k : Nat)) (fun _ _ kv => f.L.length + 1 - (intOf kv).toNat)
        case atStart => exact ⟨0, by omega, rfl, rfl, rfl⟩
        case round =>
          obtain ⟨k, hk, rfl, rfl, rfl⟩ := hrel
          obtain ⟨u1, u2, u3⟩ := unhideR HSz k hk
          by_cases hlt : k < f.L.length
          · obtain ⟨bl, ol, rfl, _, cl⟩ := (unhideR HRf).at_ k hlt
            have q1 := (unhideR HKf).each k hlt
            have HS1 := hideR (sum_next hlt)
            have HS2 := hideR (some_next hlt)
            generalize f.L.getD k 0 = x at cl q1 HS1 HS2
            generalize sumV (f.L.take k) = Sm at *
            generalize someN (f.L.take k) = Nn at *
            have wS : IntKind.i64.wrap (Sm + x) = Sm + x := iwrap (by omega) (by omega)
            have wN : IntKind.i64.wrap ((Nn : Int) + 1) = (Nn : Int) + 1 := iwrap (by omega) (by omega)
            by_cases hx : x = 0
            · have t0 : (x != 0) = false := by simp [hx]
              have E2 := unhideR HS2
              rw [if_pos hx] at E2
              have HE2 := hideR E2
              clear E2 HS2 hx
              go_wp2
              exact ⟨⟨k + 1, by omega, by rw [unhideR HS1], by rw [unhideR HE2]; rfl, by go_num⟩, by simp [intOf]; omega⟩
            · have t0 : (x != 0) = true := by simp [hx]
              have E2 := unhideR HS2
              rw [if_neg hx] at E2
              have HE2 := hideR E2
              clear E2 HS2 hx
              go_wp2
              exact ⟨⟨k + 1, by omega, by rw [unhideR HS1], by rw [unhideR HE2]; go_num, by go_num⟩, by simp [intOf]; omega⟩
          · obtain rfl : k = f.L.length := by omega
            rw [List.take_length] at u1 u2 u3 ⊢
            have HMean := hideR (mean_in (unhideR HKf))
            obtain ⟨Sg, hSg⟩ : ∃ Sg, sumV f.L = Sg := ⟨_, rfl⟩
            obtain ⟨Nn, hNn⟩ : ∃ Nn, someN f.L = Nn := ⟨_, rfl⟩
            have HCV : HeldR (cleanV p d f = cleanK (Sg / (Nn : Int)) p d f p.L.length) := by
              unfold HeldR
              rw [← hSg, ← hNn]
              rfl
            rw [hSg] at u1 u2 u3 HMean ⊢
            rw [hNn] at u3 HMean HE ⊢
            clear hSg hNn
            cases sm
            · have e5 : cleanE p d f full = 5 := by
                rw [unhideR HE, if_pos]
                exact .inl (fun k => Bool.noConfusion ((unhideR HSm).it.2 k))
              have HF := hideR (clean_none e5 (by decide) (unhideR HW))
              clear e5 HE HSm HMean HCV
              go_wp2
              go_ret3
              exact unhideR HF
            · have hsz := (unhideR HSm).it.1 rfl
              by_cases g1 : full < 1 ∨ 65535 < full ∨ Nn = 0
              · have e5 : cleanE p d f full = 5 := by
                  rw [unhideR HE, if_pos (.inr g1)]
                have HF := hideR (clean_none e5 (by decide) (unhideR HW))
                clear e5 HE HSm HMean HCV hsz
                have g1' : full < 1 ∨ (1 ≤ full ∧ 65535 < full) ∨ (1 ≤ full ∧ full ≤ 65535 ∧ Nn = 0) := by omega
                rcases g1' with g | ⟨g, g'⟩ | ⟨g, g', rfl⟩
                all_goals
                  clear g1
                  go_wp2
                  go_ret3
                  exact unhideR HF
              · have e0 : cleanE p d f full = 0 := by
                  rw [unhideR HE, if_neg (fun k => k.elim (fun k => k hsz) g1)]
                have f1 : 1 ≤ full := by omega
                have f2 : full ≤ 65535 := by omega
                have f3 : Nn ≠ 0 := by omega
                have hM := unhideR HMean f3
                have tn : ((Nn : Int) == 0) = false := by rw [beq_eq_false_iff_ne]; omega
                have tf1 : decide (full < 1) = false := decide_eq_false (by omega)
                have tf2 : decide (65535 < full) = false := decide_eq_false (by omega)
                have nz : (Nn : Int) ≠ 0 := by omega
                have td : Sg.tdiv (Nn : Int) = Sg / (Nn : Int) := Int.tdiv_eq_ediv_of_nonneg u1
                have Hd : HeldR (p.L.length = d.L.length ∧ p.L.length = f.L.length) := by
                  have a1 := (unhideR HKp).len
                  have a2 := (unhideR HKd).len
                  have a3 := (unhideR HKf).len
                  obtain ⟨s1, s2, s3, s4⟩ := hsz
                  rw [← s1, ← s2] at a2
                  rw [← s3, ← s4] at a3
                  exact ⟨by omega, by omega⟩
                generalize Sg / (Nn : Int) = M at td HCV hM
                have wM : IntKind.i64.wrap M = M := iwrap (by omega) (by omega)
                have HE0 := hideR e0
                clear HE HSm HMean hsz e0 g1
                go_wp2_with fail
                go_loopw [17, 18, 19] (fun ov lv kv wl => ∃ k : Nat, k ≤ p.L.length ∧ kv = .int .i64 (k : Nat) ∧ HeldR (wl.ownsRow w.heap.size 3 1 ov (cleanK M p d f k).length ((cleanK M p d f k).map (Value.int .i64))) ∧ HeldR (wl.ownsRow w.heap.size 3 1 lv (fullK p full k).length ((fullK p full k).map (Value.int .i64))) ∧ HeldR (Apart2 ov lv) ∧ HeldR (Below w.heap.size w wl)) (fun _ _ kv _ => p.L.length + 1 - (intOf kv).toNat)
                case atStart => exact ⟨0, by omega, rfl, World.ownsRow_nil _ _ _ _, World.ownsRow_nil _ _ _ _, hideR (Apart2.nil _), HW⟩
                case round =>
                  clear HW
                  obtain ⟨k, hk, rfl, HO, HL, HA, HW⟩ := hrel
                  obtain ⟨Hd1, Hd2⟩ := unhideR Hd
                  have xp := ((unhideR HP0).below (unhideR HW)).c2
                  by_cases hlt : k < p.L.length
                  · have xd := ((unhideR HD0).below (unhideR HW)).c2
                    have xf := ((unhideR HF0).below (unhideR HW)).c2
                    have kd : k < d.L.length := by omega
                    have kf : k < f.L.length := by omega
                    obtain ⟨b1, o1, rfl, _, y1⟩ := ((unhideR HP0).row.below (unhideR HW)).at_ k hlt
                    obtain ⟨b2, o2, rfl, _, y2⟩ := ((unhideR HD0).row.below (unhideR HW)).at_ k kd
                    obtain ⟨b3, o3, rfl, _, y3⟩ := ((unhideR HF0).row.below (unhideR HW)).at_ k kf
                    have j1 := (unhideR HKp).each k hlt
                    have j2 := (unhideR HKd).each k kd
                    have j3 := (unhideR HKf).each k kf
                    have HC1 := hideR (cleanK_next M p d f k)
                    have HC2 := hideR (fullK_next p full k)
                    generalize p.L.getD k 0 = x at y1 j1 HC1 HC2
                    generalize d.L.getD k 0 = y at y2 j2 HC1
                    generalize f.L.getD k 0 = z at y3 j3 HC1
                    have wxy : IntKind.i64.wrap (x - y) = x - y := iwrap (by omega) (by omega)
                    have lX : (cleanK M p d f k).length ≤ 65536 := by rw [cleanK_length]; omega
                    have lY : (fullK p full k).length ≤ 65536 := by have := fullK_length p full k; omega
                    have HLt : HeldR (lightV M x y z = lightV M x y z) := rfl
                    have HLv : HeldR (∀ Pm q r, 0 < z → 0 < x - y → (x - y) * M = Pm → Pm / z = q → q * z = r → lightV M x y z = if 65535 < q + (if z ≤ 2 * (Pm - r) then 1 else 0) then 65535 else q + (if z ≤ 2 * (Pm - r) then 1 else 0)) := fun Pm q r h1 h2 h3 h4 h5 => light_is h1 h2 h3 h4 h5
                    have HL0 : HeldR (¬ (0 < z ∧ 0 < x - y) → lightV M x y z = 0) := fun q => by unfold lightV; rw [if_neg q]
                    generalize lightV M x y z = V at HC1 HLv HL0
                    generalize cleanK M p d f k = X at HC1 HO lX
                    generalize fullK p full k = Y at HC2 HL lY
                    clear HLt Hd1 Hd2
                    go_upto_region 29 with fail
                    go_cut [161] from 156 to 160 (fun s161 wx => wr = wx ∧ s161 = .bool (decide (0 < z ∧ 0 < x - y)))
                    case' first =>
                      clear y1 y2 y3 xp xd xf
                      by_cases g1 : 0 < z
                      · by_cases g2 : 0 < x - y
                        · have hd1 : decide (0 < z ∧ 0 < x - y) = true := decide_eq_true ⟨g1, g2⟩
                          have hxy : decide (y < x) = true := decide_eq_true (by omega)
                          go_wp2_with fail
                          go_meet
                          exact ⟨rfl, by first | (rw [hd1]; done) | rw [hd1, hxy]⟩
                        · have hd1 : decide (0 < z ∧ 0 < x - y) = false := decide_eq_false (fun k => g2 k.2)
                          have hxy : decide (y < x) = false := decide_eq_false (by omega)
                          go_wp2_with fail
                          go_meet
                          exact ⟨rfl, by first | (rw [hd1]; done) | rw [hd1, hxy]⟩
                      · have hd1 : decide (0 < z ∧ 0 < x - y) = false := decide_eq_false (fun k => g1 k.1)
                        go_wp2_with fail
                        go_meet
                        exact ⟨rfl, by rw [hd1]⟩
                    obtain ⟨rfl, rfl⟩ := hcut
                    clear y1 y2 y3 xp xd xf
                    obtain ⟨tst, htst⟩ : ∃ tst, decide (0 < z ∧ 0 < x - y) = tst := ⟨_, rfl⟩
                    rw [htst]
                    have HTst := hideR htst
                    clear htst
                    go_upto_if 161 with fail
                    go_cut [23] from 124 to 191 (fun s23 wx => wr = wx ∧ s23 = .int .i64 V)
                    case' first =>
                      cases tst
                      case' false =>
                        obtain rfl := unhideR HL0 (of_decide_eq_false (unhideR HTst))
                        go_wp2_with fail
                        go_meet
                        exact ⟨rfl, rfl⟩
                      case' true =>
                          obtain ⟨g1, g2⟩ := of_decide_eq_true (unhideR HTst)
                          have hin := light_in hM j1 j2.1 g1 g2
                          obtain ⟨Pm, hPm⟩ : ∃ Pm, (x - y) * M = Pm := ⟨_, rfl⟩
                          obtain ⟨q, hq⟩ : ∃ q, Pm / z = q := ⟨_, rfl⟩
                          obtain ⟨r, hr⟩ : ∃ r, q * z = r := ⟨_, rfl⟩
                          rw [hPm, hq, hr] at hin
                          obtain ⟨i1, i2, i3, i4, i5, i6⟩ := hin
                          have HV := hideR (unhideR HLv Pm q r g1 g2 hPm hq hr)
                          have w1' : IntKind.i64.wrap ((x - y) * M) = Pm := by rw [hPm]; exact iwrap (by omega) (by omega)
                          have td2 : Pm.tdiv z = q := by rw [Int.tdiv_eq_ediv_of_nonneg i1]; exact hq
                          have w2' : IntKind.i64.wrap q = q := iwrap (by omega) (by omega)
                          have w3' : IntKind.i64.wrap (q * z) = r := by rw [hr]; exact iwrap (by omega) (by omega)
                          have w4' : IntKind.i64.wrap (Pm - r) = Pm - r := iwrap (by omega) (by omega)
                          have w5' : IntKind.i64.wrap (2 * (Pm - r)) = 2 * (Pm - r) := iwrap (by omega) (by omega)
                          have w6' : IntKind.i64.wrap (q + 1) = q + 1 := iwrap (by omega) (by omega)
                          have nz2 : z ≠ 0 := by omega
                          clear HLv HL0 hPm hq hr
                          by_cases g3 : z ≤ 2 * (Pm - r)
                          · have hV := unhideR HV
                            rw [if_pos g3] at hV
                            by_cases g4 : 65535 < q + 1
                            · rw [if_pos g4] at hV
                              subst hV
                              go_wp2_with fail
                              go_meet
                              exact ⟨rfl, rfl⟩
                            · rw [if_neg g4] at hV
                              subst hV
                              go_wp2_with fail
                              go_meet
                              exact ⟨rfl, rfl⟩
                          · have hV := unhideR HV
                            rw [if_neg g3, Int.add_zero] at hV
                            by_cases g4 : 65535 < q
                            · rw [if_pos g4] at hV
                              subst hV
                              go_wp2_with fail
                              go_meet
                              exact ⟨rfl, rfl⟩
                            · rw [if_neg g4] at hV
                              subst hV
                              go_wp2_with fail
                              go_meet
                              exact ⟨rfl, rfl⟩
                    obtain ⟨rfl, rfl⟩ := hcut
                    clear HLv HL0 wxy HTst
                    have lsz := (unhideR HW).size
                    go_wp2_with (first
                      | (at_builtin; refine wpList_append_two rfl _ _ 25 rfl w.heap.size 3 i0 (.int .i64 0) 1 8 Tryd.underlying25 hi0 hz0 hz1 hz2 rfl (by decide) _ (X).length ((X).map (Value.int .i64)) rfl (own_below2 (unhideR HO) (below_a _ _)) ⟨wr.heap.size, 0, none⟩ 1 1 [.int .i64 V] rfl rfl ?c1 ?c2 ?c3 ?c4 ?c5 (by decide) ?_))
                    case c1 => exact one_int wr V
                    case c2 =>
                      intro u hu
                      rw [List.mem_singleton.1 hu]
                      rfl
                    case c3 => unfold maxLen; omega
                    case c4 => omega
                    case c5 => simp; omega
                    intro v5 w5 hown2 hgrow2 hblk2
                    have htw := two_keep (own_below2 (unhideR HL) (below_a _ _)) (unhideR HA) hgrow2 hblk2 (by simp)
                    have B5 := hideR ((below_go (unhideR HW) (below_a wr _)).grown hgrow2 (by have := (unhideR HW).size; simp; omega) (fun g h => own_at2 (unhideR HO) g h))
                    have O5 : HeldR (w5.ownsRow w.heap.size 3 1 v5 (X ++ [V]).length ((X ++ [V]).map (Value.int .i64))) := by
                      unfold HeldR
                      rw [List.map_append, List.length_append]
                      exact hown2
                    have P5 := hideR htw.1
                    have A5 := hideR htw.2
                    clear hown2 hgrow2 lsz hblk2 htw
                    by_cases g : full ≤ x
                    · have HC3 := unhideR HC2
                      rw [if_pos g] at HC3
                      have HC4 := hideR HC3
                      clear HC3 HC2
                      have AS := hideR (unhideR A5).symm
                      have lsz := (unhideR B5).size
                      go_wp2_with (first
                        | (at_builtin; refine wpList_append_two rfl _ _ 25 rfl w.heap.size 3 i0 (.int .i64 0) 1 8 Tryd.underlying25 hi0 hz0 hz1 hz2 rfl (by decide) _ (Y).length ((Y).map (Value.int .i64)) rfl (own_below2 (unhideR P5) (below_a _ _)) ⟨w5.heap.size, 0, none⟩ 1 1 [.int .i64 (k : Int)] rfl rfl ?c1 ?c2 ?c3 ?c4 ?c5 (by decide) ?_))
                      case c1 => exact one_int w5 (k : Int)
                      case c2 =>
                        intro u hu
                        rw [List.mem_singleton.1 hu]
                        rfl
                      case c3 => unfold maxLen; omega
                      case c4 => omega
                      case c5 => simp; omega
                      intro v6 w6 hown2 hgrow2 hblk2
                      have htw := two_keep (own_below2 (unhideR O5) (below_a _ _)) (unhideR AS) hgrow2 hblk2 (by simp)
                      have B6 := hideR ((below_go (unhideR B5) (below_a w5 _)).grown hgrow2 (by have := (unhideR B5).size; simp; omega) (fun g h => own_at2 (unhideR P5) g h))
                      have O6 : HeldR (w6.ownsRow w.heap.size 3 1 v6 (Y ++ [(k : Int)]).length ((Y ++ [(k : Int)]).map (Value.int .i64))) := by
                        unfold HeldR
                        rw [List.map_append, List.length_append]
                        exact hown2
                      have P6 := hideR htw.1
                      have A6 := hideR htw.2
                      clear hown2 hgrow2 lsz hblk2 htw
                      go_wp2
                      exact ⟨⟨k + 1, by omega, by go_num, by rw [unhideR HC1]; exact P6, by rw [unhideR HC4]; exact O6, hideR (unhideR A6).symm, B6⟩, by simp [intOf]; omega⟩
                    · have HC3 := unhideR HC2
                      rw [if_neg g, List.append_nil] at HC3
                      have HC4 := hideR HC3
                      clear HC3 HC2
                      go_wp2
                      exact ⟨⟨k + 1, by omega, by go_num, by rw [unhideR HC1]; exact O5, by rw [unhideR HC4]; exact P5, A5, B5⟩, by simp [intOf]; omega⟩
                  · obtain rfl : k = p.L.length := by omega
                    obtain ⟨ax, cx, eX, hIx, _⟩ := own_ints (unhideR HO)
                    obtain ⟨ay, cy, eY, hIy, _⟩ := own_ints (unhideR HL)
                    have e0 := unhideR HE0
                    have HF : HeldR (CleanPost p d f full w (.returned (.tuple #[.slice ax (cleanK M p d f p.L.length).length cx, .slice ay (fullK p full p.L.length).length cy, .int .i64 0])) wr) := ⟨cleanK M p d f p.L.length, fullK p full p.L.length, ax, ay, cx, cy, by rw [e0], fun _ => ⟨(unhideR HCV).symm, rfl⟩, fun q => absurd e0 q, hIx, hIy, unhideR HW⟩
                    clear hIx hIy e0 HCV
                    generalize cleanK M p d f p.L.length = X at eX HF
                    generalize fullK p full p.L.length = Y at eY HF
                    subst eX
                    subst eY
                    go_wp2
                    go_ret3
                    exact unhideR HF
end Go.Proofs.YtncbmkflilcdgaiDoor
