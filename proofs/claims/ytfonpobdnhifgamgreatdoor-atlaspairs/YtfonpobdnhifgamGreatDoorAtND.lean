/-
  A direction of a cell lies in its window; angles stay as they are. How near a cell comes: the program's, by contract.
-/
import Derived.Test.YtfonpobdnhifgamGreatDoorAtNC
import Derived.Laws.AppendOwnNone
namespace Go.Proofs.YtfonpobdnhifgamGreatDoor
open Go Go.RowKit

theorem tu_dt (d e : Dr) (f : Int) : dtV (tuV d f) (tuV e f) = dtV d e := by
  unfold tuV tuB dtV
  repeat' split
  all_goals (try simp only)
  all_goals grind
theorem tu_co (d e : Dr) (f : Int) : coTo (tuV d f) (tuV e f) = coTo d e := by
  unfold coTo
  rw [tu_dt, tu_dt]
theorem tu_dir {d : Dr} (h : dirB d = true) (f : Int) : dirB (tuV d f) = true := by
  have := dir_is h
  unfold tuV tuB
  refine decide_eq_true ?_
  repeat' split
  all_goals (try simp only)
  all_goals omega
theorem col_bd {u m : Int} (hm : 1 ≤ m) (h1 : -m ≤ u) (h2 : u ≤ m) (n : Nat) : colV u m n * (2 * m) ≤ (u + m) * 2 ^ n ∧ (u + m) * 2 ^ n ≤ (colV u m n + 1) * (2 * m) ∧ 0 ≤ colV u m n ∧ colV u m n < 2 ^ n := by
  have p : (0 : Int) < 2 * m := by omega
  have hp : (0 : Int) < 2 ^ n := Int.pow_pos (by decide)
  have h0 : 0 ≤ (u + m) * 2 ^ n := Int.mul_nonneg (by omega) (by omega)
  have q0 : 0 ≤ (u + m) * 2 ^ n / (2 * m) := Int.ediv_nonneg h0 (by omega)
  have q1 : (u + m) * 2 ^ n / (2 * m) * (2 * m) ≤ (u + m) * 2 ^ n := Int.ediv_mul_le _ (by omega)
  have q2 : (u + m) * 2 ^ n < ((u + m) * 2 ^ n / (2 * m) + 1) * (2 * m) := Int.lt_ediv_add_one_mul_self _ p
  unfold colV
  split
  · refine ⟨q1, by omega, q0, by assumption⟩
  · rename_i h
    have q3 : (2 ^ n - 1) * (2 * m) ≤ (u + m) * 2 ^ n / (2 * m) * (2 * m) := Int.mul_le_mul_of_nonneg_right (by omega) (by omega)
    have q4 : (u + m) * 2 ^ n ≤ 2 * m * 2 ^ n := Int.mul_le_mul_of_nonneg_right (by omega) (by omega)
    refine ⟨by omega, ?_, by omega, by omega⟩
    rw [show (2 : Int) ^ n - 1 + 1 = 2 ^ n by omega, Int.mul_comm (2 ^ n) (2 * m)]
    exact q4
theorem sq_v {e : Dr} (he : dirB e = true) {n : Nat} (hn : n ≤ 12) : SqV (sqV e n) n := by
  have hf := fa_in e
  have hm := dir_m he
  have c1 := col_bd (u := uV e) (m := mV e) (by omega) (by omega) (by omega) n
  have c2 := col_bd (u := vV e) (m := mV e) (by omega) (by omega) (by omega) n
  exact ⟨by show 0 ≤ faV e ∧ faV e < 6; omega, rfl, hn, c1.2.2, c2.2.2⟩
theorem win_in {e : Dr} (he : dirB e = true) (n : Nat) : (winV (sqV e n) n).In (tuV e (sqV e n).f) := by
  have hm := dir_m he
  have c1 := col_bd (u := uV e) (m := mV e) (by omega) (by omega) (by omega) n
  have c2 := col_bd (u := vV e) (m := mV e) (by omega) (by omega) (by omega) n
  show (winV (sqV e n) n).In (tuV e (faV e))
  rw [tu_face]
  unfold winV sqV
  simp only
  generalize colV (uV e) (mV e) n = c at *
  generalize colV (vV e) (mV e) n = r at *
  generalize (2 : Int) ^ n = S at *
  refine ⟨by show 0 < mV e; omega, ?_, ?_, ?_, ?_⟩ <;> simp only <;> grind
theorem coTo_gd {d e : Dr} (hd : dirB d = true) (he : dirB e = true) : (coTo d e).Gd := by
  have h1 := dtB hd he
  have h2 := dtB he he
  have hb := dir_is he
  have ok : (coTo d e).Ok := coTo_ok (dt_pos (by omega))
  refine ⟨ok, ok.sm ?_ (by show dtV e e ≤ _; omega)⟩
  show dtV d e * dtV d e ≤ _
  have := (sq_toNat (x := dtV d e) (A := 3298534883328) h1 (by omega))
  omega
theorem ft_gd {d : Dr} (hd : dirB d = true) {o u lo hi : Int} (ho : 1 ≤ o ∧ o ≤ 4096) (hu : -4096 ≤ u ∧ u ≤ 4096) (hlh : lo < hi) (h : ftB d o u lo hi = true) : (ftV d o u).Gd := by
  have hb := dir_is hd
  have ok := ft_ok (d := d) (u := u) (show 0 < o by omega) hlh h
  have m1 := mulP (x := d.x) (y := o) (A := 1048576) (B := 4096) ⟨by omega, by omega⟩ ⟨by omega, by omega⟩ (by omega) (by omega)
  have m2 := mulP (x := d.y) (y := u) (A := 1048576) (B := 4096) ⟨by omega, by omega⟩ ⟨by omega, by omega⟩ (by omega) (by omega)
  have m3 := sq_toNat (x := o) (A := 4096) ⟨by omega, by omega⟩ (by omega)
  have m4 := sq_toNat (x := u) (A := 4096) hu (by omega)
  have m5 := sq_toNat (x := d.z) (A := 1048576) ⟨by omega, by omega⟩ (by omega)
  refine ⟨ok, ok.sm ?_ (by show o * o + u * u ≤ _; omega)⟩
  show (d.x * o + d.y * u) * (d.x * o + d.y * u) + d.z * d.z * (o * o + u * u) ≤ _
  have k1 := sq_toNat (x := d.x * o + d.y * u) (A := 8589934592) ⟨by omega, by omega⟩ (by omega)
  have k2 := mulP (x := d.z * d.z) (y := o * o + u * u) (A := 1099511627776) (B := 33554432) ⟨by omega, by omega⟩ ⟨by omega, by omega⟩ (by omega) (by omega)
  omega
theorem all_gd {W : Wn} (hW : W.Sm) (hO : W.Ok) {d : Dr} (hd : dirB d = true) : ∀ c ∈ W.all d, c.Gd := by
  have kl : ∀ (d : Dr) (u lo hi : Int), dirB d = true → -4096 ≤ u ∧ u ≤ 4096 → lo < hi → ∀ c ∈ ftL d W.o u lo hi, c.Gd := by
    intro d u lo hi hd hu hlh c hc
    unfold ftL at hc
    split at hc
    · rename_i h
      rw [List.mem_singleton] at hc
      subst hc
      exact ft_gd hd hW.o hu hlh h
    · cases hc
  intro c hc
  unfold Wn.all Wn.corners Wn.feet at hc
  simp only [List.mem_append, List.mem_cons, List.not_mem_nil, or_false] at hc
  rcases hc with (rfl | rfl | rfl | rfl) | ((hc | hc) | hc) | hc
  · exact coTo_gd hd (corner_dir hW hW.l hW.b)
  · exact coTo_gd hd (corner_dir hW hW.l hW.t)
  · exact coTo_gd hd (corner_dir hW hW.r hW.b)
  · exact coTo_gd hd (corner_dir hW hW.r hW.t)
  · exact kl d _ _ _ hd hW.l hO.bt c hc
  · exact kl d _ _ _ hd hW.r hO.bt c hc
  · exact kl (miV d) _ _ _ (mi_dir hd) hW.b hO.lr c hc
  · exact kl (miV d) _ _ _ (mi_dir hd) hW.t hO.lr c hc
/-- no star of the cell is nearer. -/
def Cap (d : Dr) (s : Sq) (n : Nat) (c : Co) : Prop := c.Gd ∧ ∀ e, dirB e = true → sqV e n = s → (coTo d e).le c
theorem cap_held {d : Dr} (hd : dirB d = true) (s : Sq) (n : Nat) : Cap d s n (coTo (tuV d s.f) (tuV d s.f)) := by
  refine ⟨coTo_gd (tu_dir hd _) (tu_dir hd _), fun e he hs => ?_⟩
  rw [tu_co]
  have hb := dir_is hd
  exact near_self (dt_pos (by omega))
theorem cap_max {d : Dr} (hd : dirB d = true) {s : Sq} {n : Nat} (hs : SqV s n) (hh : (winV s n).holdsB (tuV d s.f) = false) {c : Co} (hm : c ∈ (winV s n).all (tuV d s.f)) (hc : ∀ e ∈ (winV s n).all (tuV d s.f), e.le c) : Cap d s n c := by
  have hg := all_gd (win_sm hs) (win_ok hs) (tu_dir hd s.f)
  refine ⟨hg c hm, fun e he es => ?_⟩
  have hi := win_in he n
  rw [es] at hi
  obtain ⟨c1, h1, h2⟩ := (near_all (d := tuV d s.f) (win_ok hs) hi).2 hh
  rw [tu_co] at h2
  exact h2.trans (hc c1 h1) (coTo_gd hd he).ok (hg c1 h1).ok (hg c hm).ok
end Go.Proofs.YtfonpobdnhifgamGreatDoor
namespace Go.Proofs.YtfonpobdnhifgamGreatDoor
open Go Go.RowKit

theorem flatCo_cells {w : World} {B : Nat} {g cap : Nat} {C : List Co} (h : CRow w B (.slice (some ⟨g, 0, none⟩) C.length cap) C) : ∀ j u, (flatCo C)[j]? = some u → w.cell? ((⟨g, 0, none⟩ : Addr).add j) = some u :=
  fun j u hu => h.cells (g := g) rfl j u hu
theorem flatCo_one : ∀ (C : List Co), ∀ u ∈ flatCo C, u.oneCell' = true
  | [], u, h => by cases h
  | c :: C, u, h => by
    rcases List.mem_append.1 (show u ∈ valCo c ++ flatCo C from h) with q | q
    · simp only [valCo, List.mem_cons, List.not_mem_nil, or_false] at q
      rcases q with rfl | rfl | rfl | rfl <;> rfl
    · exact flatCo_one C u q
theorem wp_append_rows {w : World} {o : Oper} {a : Act} {K : Act → World → Prop} {Q : Exit → Act → World → Prop} (s x : Operand) (ho : o.op = .call { callee := .builtin .append, args := #[s, x], argTypes := #[208, 208] })
    {v1 v2 : Value} (hs : a.eval s = v1) (hx : a.eval x = v2) {B1 B2 : Nat} {C1 C2 : List Co} (h1 : CRow w B1 v1 C1) (h2 : CRow w B2 v2 C2) (hl : C1.length + C2.length ≤ 1000) (hb : B1 ≤ w.heap.size)
    (h : ∀ v' w', CRow w' B1 v' (C1 ++ C2) → w.grownBy w' v1.ownBlock → K (a.put o.dst v') w') : o.wp Tryz.prog a w K Q := by
  obtain ⟨i0, hi, hz0, hz1, hz2⟩ := info_parts infoCo
  rcases h2.2 with ⟨e, e0⟩ | ⟨g, cap, cur, e, _⟩
  · have hn : C2 = [] := List.length_eq_zero_iff.1 e0
    subst hn
    have hrun := run_append_owned_none (P := Tryz.prog) (w := w) B1 208 o.type 76 i0 4 Tryz.underlying208 hi v1 _ _ h1
    rw [e] at hx
    unfold Oper.wp execOp
    simp only [ho, resolve, invoke, builtin, Sem.run_bind, Sem.run_pure, Result.andThen_ok, List.map_toArray, List.map_cons, List.map_nil, hs, hx, hrun]
    exact h v1 w (by rw [List.append_nil]; exact h1) ⟨rfl, rfl, rfl, Nat.le_refl _, fun _ _ _ => rfl⟩
  · rw [e] at h2 hx
    refine wp_append_at s x 208 ho B1 76 i0 (.agg #[.int .i64 0, .int .u64 0, .int .u64 0, .int .i64 0]) 4 32 Tryz.underlying208 hi hz0 hz1 hz2 rfl (by decide) v1 C1.length (flatCo C1) hs h1 ⟨g, 0, none⟩ C2.length cap (flatCo C2) hx (flatCo_length C2) (flatCo_cells h2) (flatCo_one C2) (by unfold maxLen; omega) (by omega) hb (fun v' w' k1 k2 _ => h v' w' ?_ k2)
    show World.ownsRow _ B1 76 4 _ (C1 ++ C2).length (flatCo (C1 ++ C2))
    rw [List.length_append, flatCo_append]
    exact k1
theorem own_mono {w : World} {B B' n s : Nat} {e : TypeId} {v : Value} {xs : List Value} (h : w.ownsRow B e s v n xs) (hb : B' ≤ B) : w.ownsRow B' e s v n xs :=
  ⟨h.1, h.2.imp id (fun ⟨g, cap, cur, e, k, q⟩ => ⟨g, cap, cur, e, Nat.le_trans hb k, q⟩)⟩
def SlN (n : Nat) (v : Value) : Prop := ∃ ad cap, v = .slice ad n cap
def RowF (N : Nat) (C : List Co) (v : Value) (w : World) : Prop := CRow w N v C
theorem rowF_stb (N : Nat) (C : List Co) (v : Value) : Stb (RowF N C v) := fun _ _ h k => own_belowC h k
theorem set3_oth {v : World} {g b : Nat} {x y z : Value} (h : b ≠ g) : (((v.setCell ⟨g, 0, none⟩ x).setCell ⟨g, 1, none⟩ y).setCell ⟨g, 2, none⟩ z).heap[b]? = v.heap[b]? := by
  rw [Below.heap_setCell _ _ _ b h, Below.heap_setCell _ _ _ b h, Below.heap_setCell _ _ _ b h]
theorem set3_bl3 {B : Nat} {w u : World} (h : Below B w u) {k : Nat} (hk : B ≤ k) (x y z : Value) : Below B w (((u.setCell ⟨k, 0, none⟩ x).setCell ⟨k, 1, none⟩ y).setCell ⟨k, 2, none⟩ z) := ((h.setCell hk x).setCell hk y).setCell hk z
def NearPost (d : Dr) (s : Sq) (n : Nat) (w : World) (r : Ending) (w' : World) : Prop := (∃ c, r = .returned (coV c) ∧ Cap d s n c) ∧ Below w.heap.size w w'
set_option maxRecDepth 1000000 in
set_option maxHeartbeats 6400000 in
theorem pnear_any (d : Dr) (hd : dirB d = true) (s : Sq) {n : Nat} (hs : SqV s n) (w : World) : Calls Tryz.prog 112 #[s.val, d.val] w (NearPost d s n w) := by
  have hb := dir_is hd
  have hT := fun x => turned_any d (by omega) (by omega) (by omega) s.f hs.f x
  have hwi := fun x => pwin_any s hs x
  have htd := tu_dir hd s.f
  have hho := fun x => pholds_any (winV s n) (tuV d s.f) (win_sm hs) htd x
  have hco := fun x => pcosTo_any (tuV d s.f) (tuV d s.f) htd htd x
  have hcr := fun x => pcorners_any (winV s n) (tuV d s.f) (win_sm hs) htd x
  have hft := fun x => pfeet_any (winV s n) (tuV d s.f) (win_sm hs) (win_ok hs) htd x
  have hgd := all_gd (win_sm hs) (win_ok hs) htd
  have hca := cap_held hd s n
  have hmx := fun (hh : (winV s n).holdsB (tuV d s.f) = false) (c : Co) hm hc => cap_max (c := c) hd hs hh hm hc
  have HP : HeldR (∀ c x, Cap d s n c → Below w.heap.size w x → NearPost d s n w (.returned (.agg #[.int .i64 c.sg, .int .u64 (ohV c), .int .u64 (olV c), .int .i64 c.un])) x) := hideR (fun c x h1 h2 => ⟨⟨c, rfl, h1⟩, h2⟩)
  generalize NearPost d s n w = NP at *
  generalize winV s n = W at *
  generalize tuV d s.f = e at *
  have hlc : (W.corners e).length = 4 := rfl
  have hlf : (W.feet e).length ≤ 4 := by
    have l1 := ftL_len e W.o W.l W.b W.t
    have l2 := ftL_len e W.o W.r W.b W.t
    have l3 := ftL_len (miV e) W.o W.b W.l W.r
    have l4 := ftL_len (miV e) W.o W.t W.l W.r
    unfold Wn.feet
    simp only [List.length_append]
    omega
  unfold Wn.all at hgd hmx
  have HG := hideR hgd
  have HMx := hideR hmx
  have HCa := hideR hca
  unfold wnV at hwi hho hcr hft
  unfold Dr.val at hT hho hco hcr hft ⊢
  unfold Sq.val at hwi ⊢
  simp only [coV_is] at hco
  clear hb hgd hmx hca htd hd hs
  obtain ⟨HZ1, HZ2, HZ3, HB⟩ : HeldR ((((w.alloc (.cells #[.int .i64 s.f, .int .i64 s.l, .int .i64 s.c, .int .i64 s.r] 61)).alloc (.cells #[.int .i64 d.x, .int .i64 d.y, .int .i64 d.z] 24)).alloc (.cells #[.int .i64 0, .int .u64 0, .int .u64 0, .int .i64 0] 76)).heap[w.heap.size]? = some (.cells #[.int .i64 s.f, .int .i64 s.l, .int .i64 s.c, .int .i64 s.r] 61)) ∧ HeldR ((((w.alloc (.cells #[.int .i64 s.f, .int .i64 s.l, .int .i64 s.c, .int .i64 s.r] 61)).alloc (.cells #[.int .i64 d.x, .int .i64 d.y, .int .i64 d.z] 24)).alloc (.cells #[.int .i64 0, .int .u64 0, .int .u64 0, .int .i64 0] 76)).heap[w.heap.size + 1]? = some (.cells #[.int .i64 d.x, .int .i64 d.y, .int .i64 d.z] 24)) ∧ HeldR ((((w.alloc (.cells #[.int .i64 s.f, .int .i64 s.l, .int .i64 s.c, .int .i64 s.r] 61)).alloc (.cells #[.int .i64 d.x, .int .i64 d.y, .int .i64 d.z] 24)).alloc (.cells #[.int .i64 0, .int .u64 0, .int .u64 0, .int .i64 0] 76)).heap[w.heap.size + 2]? = some (.cells #[.int .i64 0, .int .u64 0, .int .u64 0, .int .i64 0] 76)) ∧ HeldR (Below w.heap.size w (((w.alloc (.cells #[.int .i64 s.f, .int .i64 s.l, .int .i64 s.c, .int .i64 s.r] 61)).alloc (.cells #[.int .i64 d.x, .int .i64 d.y, .int .i64 d.z] 24)).alloc (.cells #[.int .i64 0, .int .u64 0, .int .u64 0, .int .i64 0] 76))) := by
    obtain ⟨z1, z2, hbw⟩ := two_allocW w (.cells #[.int .i64 s.f, .int .i64 s.l, .int .i64 s.c, .int .i64 s.r] 61) (.cells #[.int .i64 d.x, .int .i64 d.y, .int .i64 d.z] 24)
    have z3 := alloc_last ((w.alloc (.cells #[.int .i64 s.f, .int .i64 s.l, .int .i64 s.c, .int .i64 s.r] 61)).alloc (.cells #[.int .i64 d.x, .int .i64 d.y, .int .i64 d.z] 24)) (.cells #[.int .i64 0, .int .u64 0, .int .u64 0, .int .i64 0] 76)
    simp only [World.size_alloc] at z3
    exact ⟨hideR (keepA z1), hideR (keepA z2), hideR z3, hideR (hbw.alloc hbw.size _)⟩
  have a0 := (cells_at (unhideR HZ1) 0 (by simp)).1
  have b0 := (cells_at (unhideR HZ2) 0 (by simp)).1
  have b1 := (cells_at (unhideR HZ2) 1 (by simp)).1
  have b2 := (cells_at (unhideR HZ2) 2 (by simp)).1
  go_enter Tryz.func112, Tryz.ntmps112
  go_upto_region 1 with fail
  generalize ((w.alloc (.cells #[.int .i64 s.f, .int .i64 s.l, .int .i64 s.c, .int .i64 s.r] 61)).alloc (.cells #[.int .i64 d.x, .int .i64 d.y, .int .i64 d.z] 24)).alloc (.cells #[.int .i64 0, .int .u64 0, .int .u64 0, .int .i64 0] 76) = u0 at *
  obtain ⟨K, hK⟩ : ∃ K, w.heap.size = K := ⟨_, rfl⟩
  rw [hK] at HZ1 HZ2 HZ3 HB HP a0 b0 b1 b2 ⊢
  clear hK
  go_wp2_with fail
  refine (hT _).mono ?_
  rintro r u1 ⟨rfl, k1⟩
  replace HB := hideR ((unhideR HB).trans (k1.mono (by have := ltB (unhideR HZ1); omega)))
  replace HZ1 := hideR (keepB (unhideR HZ1) k1)
  replace HZ2 := hideR (keepB (unhideR HZ2) k1)
  replace HZ3 := hideR (keepB (unhideR HZ3) k1)
  clear k1 a0 b0 b1 b2 hT u0
  have b0 := (cells_at (unhideR HZ2) 0 (by simp)).1
  have b1 := (cells_at (unhideR HZ2) 1 (by simp)).1
  have b2 := (cells_at (unhideR HZ2) 2 (by simp)).1
  have bf0 := (cells_at (unhideR HZ2) 0 (by simp)).2
  have bf1 := (cells_at (unhideR HZ2) 1 (by simp)).2
  have bf2 := (cells_at (unhideR HZ2) 2 (by simp)).2
  go_upto_region 2 with fail
  replace HB := hideR (set3_bl3 (unhideR HB) (show K ≤ K + 1 by omega) (.int .i64 e.x) (.int .i64 e.y) (.int .i64 e.z))
  replace HZ1 := hideR ((set3_oth (x := .int .i64 e.x) (y := .int .i64 e.y) (z := .int .i64 e.z) (show K ≠ K + 1 by omega)).trans (unhideR HZ1))
  replace HZ3 := hideR ((set3_oth (x := .int .i64 e.x) (y := .int .i64 e.y) (z := .int .i64 e.z) (show K + 2 ≠ K + 1 by omega)).trans (unhideR HZ3))
  replace HZ2 := hideR (set3 (x0 := .int .i64 e.x) (x1 := .int .i64 e.y) (x2 := .int .i64 e.z) (unhideR HZ2))
  clear b0 b1 b2 bf0 bf1 bf2
  generalize ((u1.setCell ⟨K + 1, 0, none⟩ (.int .i64 e.x)).setCell ⟨K + 1, 1, none⟩ (.int .i64 e.y)).setCell ⟨K + 1, 2, none⟩ (.int .i64 e.z) = u2 at *
  clear u1
  have a0 := (cells_at (unhideR HZ1) 0 (by simp)).1
  have a1 := (cells_at (unhideR HZ1) 1 (by simp)).1
  have a2 := (cells_at (unhideR HZ1) 2 (by simp)).1
  have a3 := (cells_at (unhideR HZ1) 3 (by simp)).1
  go_wp2_with fail
  refine (hwi _).mono ?_
  rintro r u3 ⟨rfl, k1⟩
  replace HB := hideR ((unhideR HB).trans (k1.mono (by have := ltB (unhideR HZ1); omega)))
  replace HZ2 := hideR (keepB (unhideR HZ2) k1)
  replace HZ3 := hideR (keepB (unhideR HZ3) k1)
  have hKz : K + 2 < u3.heap.size := ltB (unhideR HZ3)
  clear k1 a0 a1 a2 a3 hwi u2 HZ1
  go_upto_region 3 with fail
  have HW := hideR (alloc_last u3 (.cells #[.int .i64 W.o, .int .i64 W.l, .int .i64 W.r, .int .i64 W.b, .int .i64 W.t] 205))
  replace HB := hideR ((unhideR HB).alloc (by omega) (.cells #[.int .i64 W.o, .int .i64 W.l, .int .i64 W.r, .int .i64 W.b, .int .i64 W.t] 205))
  replace HZ2 := hideR (keepA (o' := .cells #[.int .i64 W.o, .int .i64 W.l, .int .i64 W.r, .int .i64 W.b, .int .i64 W.t] 205) (unhideR HZ2))
  replace HZ3 := hideR (keepA (o' := .cells #[.int .i64 W.o, .int .i64 W.l, .int .i64 W.r, .int .i64 W.b, .int .i64 W.t] 205) (unhideR HZ3))
  generalize u3.alloc (.cells #[.int .i64 W.o, .int .i64 W.l, .int .i64 W.r, .int .i64 W.b, .int .i64 W.t] 205) = u4 at *
  generalize u3.heap.size = M at *
  have a0 := (cells_at (unhideR HW) 0 (by simp)).1
  have a1 := (cells_at (unhideR HW) 1 (by simp)).1
  have a2 := (cells_at (unhideR HW) 2 (by simp)).1
  have a3 := (cells_at (unhideR HW) 3 (by simp)).1
  have a4 := (cells_at (unhideR HW) 4 (by simp)).1
  have b0 := (cells_at (unhideR HZ2) 0 (by simp)).1
  have b1 := (cells_at (unhideR HZ2) 1 (by simp)).1
  have b2 := (cells_at (unhideR HZ2) 2 (by simp)).1
  go_wp2_with fail
  refine (hho _).mono ?_
  rintro r u5 ⟨rfl, k1⟩
  replace HB := hideR ((unhideR HB).trans (k1.mono (by have := ltB (unhideR HW); omega)))
  replace HW := hideR (keepB (unhideR HW) k1)
  replace HZ2 := hideR (keepB (unhideR HZ2) k1)
  replace HZ3 := hideR (keepB (unhideR HZ3) k1)
  clear k1 a0 a1 a2 a3 a4 b0 b1 b2 hho u4 u3
  cases hh : W.holdsB e
  case true =>
    clear hcr hft HMx HG HW
    have b0 := (cells_at (unhideR HZ2) 0 (by simp)).1
    have b1 := (cells_at (unhideR HZ2) 1 (by simp)).1
    have b2 := (cells_at (unhideR HZ2) 2 (by simp)).1
    go_wp2_with fail
    refine (hco _).mono ?_
    rintro r u6 ⟨rfl, k1⟩
    replace HB := hideR ((unhideR HB).trans (k1.mono (by have := ltB (unhideR HZ3); omega)))
    replace HZ3 := hideR (keepB (unhideR HZ3) k1)
    obtain ⟨c, hc⟩ : ∃ c, coTo e e = c := ⟨_, rfl⟩
    rw [hc] at HCa ⊢
    clear k1 b0 b1 b2 hco
    have HQ := hideR (unhideR HP c _ (unhideR HCa) (set4_bl4 (unhideR HB) (show K ≤ K + 2 by omega) (.int .i64 c.sg) (.int .u64 (ohV c)) (.int .u64 (olV c)) (.int .i64 c.un)))
    have d0 := (cells_at (unhideR HZ3) 0 (by simp)).1
    have d1 := (cells_at (unhideR HZ3) 1 (by simp)).1
    have d2 := (cells_at (unhideR HZ3) 2 (by simp)).1
    have d3 := (cells_at (unhideR HZ3) 3 (by simp)).1
    have df0 := (cells_at (unhideR HZ3) 0 (by simp)).2
    have df1 := (cells_at (unhideR HZ3) 1 (by simp)).2
    have df2 := (cells_at (unhideR HZ3) 2 (by simp)).2
    have df3 := (cells_at (unhideR HZ3) 3 (by simp)).2
    have o := set4_at4 (unhideR HZ3) (.int .i64 c.sg) (.int .u64 (ohV c)) (.int .u64 (olV c)) (.int .i64 c.un)
    have o0 := (cells_at o 0 (by simp)).1
    have o1 := (cells_at o 1 (by simp)).1
    have o2 := (cells_at o 2 (by simp)).1
    have o3 := (cells_at o 3 (by simp)).1
    clear o HZ3 HZ2 HB
    go_wp2
    simp [bodyPost, results, Tryz.results112, go_sem, o0, o1, o2, o3]
    exact unhideR HQ
  have HHh := hideR hh
  have HY : HeldR (∀ v, Below u5.heap.size u5 v → v.heap[M]? = some (.cells #[.int .i64 W.o, .int .i64 W.l, .int .i64 W.r, .int .i64 W.b, .int .i64 W.t] 205) ∧ v.heap[K + 1]? = some (.cells #[.int .i64 e.x, .int .i64 e.y, .int .i64 e.z] 24)) := hideR (fun v hv => ⟨keepB (unhideR HW) hv, keepB (unhideR HZ2) hv⟩)
  have hMz : M < u5.heap.size := ltB (unhideR HW)
  obtain ⟨N, hN⟩ : ∃ N, u5.heap.size = N := ⟨_, rfl⟩
  have HN := hideR hN
  rw [hN] at hMz
  obtain ⟨nf, hnf⟩ : ∃ n, (W.feet e).length = n := ⟨_, rfl⟩
  have HF := hideR hnf
  rw [hnf] at hlf
  clear hh hN hnf hco HCa
  go_upto_region 5 with fail
  refine wp_region_made 2 #[true, true, true, true, true, true, false, false, false] [.lets (· = .agg #[.int .i64 W.o, .int .i64 W.l, .int .i64 W.r, .int .i64 W.b, .int .i64 W.t]),
    .lets (· = .agg #[.int .i64 e.x, .int .i64 e.y, .int .i64 e.z]),
    .made (SlN 4) (RowF N (W.corners e)),
    .lets (· = .agg #[.int .i64 W.o, .int .i64 W.l, .int .i64 W.r, .int .i64 W.b, .int .i64 W.t]),
    .lets (· = .agg #[.int .i64 e.x, .int .i64 e.y, .int .i64 e.z]),
    .made (SlN nf) (RowF N (W.feet e))] [2, 5] [] (by kernel_rfl) (by kernel_rfl) rfl ?kinds (by kernel_rfl) (by kernel_rfl) (by kernel_rfl) ?_
  case kinds =>
    constructor
    · intro i h
      rcases i with _ | _ | _ | _ | _ | _ | i <;> simp [Kx.isMade] at h ⊢
    · intro i h
      rcases i with _ | _ | _ | _ | _ | _ | i <;> simp [Kx.isUse] at h
  refine lexX_step (fun K hK => ⟨by kernel_rfl, ⟨_, rfl⟩, fun v hv => ?_, fun v hv => ?_⟩)
  · have y := (unhideR HY v hv).1
    have y0 := (cells_at y 0 (by simp)).1
    have y1 := (cells_at y 1 (by simp)).1
    have y2 := (cells_at y 2 (by simp)).1
    have y3 := (cells_at y 3 (by simp)).1
    have y4 := (cells_at y 4 (by simp)).1
    go_simp
    exact mUpon_b
  subst hv
  go_simp
  refine hK _ ?_
  clear hK K
  refine lexX_step (fun K hK => ⟨by kernel_rfl, ⟨_, rfl⟩, fun v hv => ?_, fun v hv => ?_⟩)
  · have y := (unhideR HY v hv).2
    have y0 := (cells_at y 0 (by simp)).1
    have y1 := (cells_at y 1 (by simp)).1
    have y2 := (cells_at y 2 (by simp)).1
    go_simp
    exact mUpon_b
  subst hv
  go_simp
  refine hK _ ?_
  clear hK K
  refine lexX_made ⟨by kernel_rfl, ⟨_, none, 0, rfl⟩, rowF_stb _ _, fun v hv => ?_, ?_⟩
  · go_simp
    refine (hcr v).mono ?_
    rintro r w9 ⟨⟨v9, rfl, h9⟩, k9⟩
    refine ⟨_, rfl, ⟨?_, own_mono h9 (by have := hv.size; rw [unhideR HN] at this; omega)⟩, k9⟩
    obtain ⟨ad9, cap9, e9, _⟩ := h9.at
    rw [hlc] at e9
    exact ⟨ad9, cap9, e9⟩
  rintro _ ⟨ad1, cap1, rfl⟩ K hK
  go_simp
  refine hK _ ?_
  clear hK K
  refine lexX_step (fun K hK => ⟨by kernel_rfl, ⟨_, rfl⟩, fun v hv => ?_, fun v hv => ?_⟩)
  · have y := (unhideR HY v hv).1
    have y0 := (cells_at y 0 (by simp)).1
    have y1 := (cells_at y 1 (by simp)).1
    have y2 := (cells_at y 2 (by simp)).1
    have y3 := (cells_at y 3 (by simp)).1
    have y4 := (cells_at y 4 (by simp)).1
    go_simp
    exact mUpon_b
  subst hv
  go_simp
  refine hK _ ?_
  clear hK K
  refine lexX_step (fun K hK => ⟨by kernel_rfl, ⟨_, rfl⟩, fun v hv => ?_, fun v hv => ?_⟩)
  · have y := (unhideR HY v hv).2
    have y0 := (cells_at y 0 (by simp)).1
    have y1 := (cells_at y 1 (by simp)).1
    have y2 := (cells_at y 2 (by simp)).1
    go_simp
    exact mUpon_b
  subst hv
  go_simp
  refine hK _ ?_
  clear hK K
  refine lexX_made ⟨by kernel_rfl, ⟨_, none, 0, rfl⟩, rowF_stb _ _, fun v hv => ?_, ?_⟩
  · go_simp
    refine (hft v).mono ?_
    rintro r w9 ⟨⟨v9, rfl, h9⟩, k9⟩
    refine ⟨_, rfl, ⟨?_, own_mono h9 (by have := hv.size; rw [unhideR HN] at this; omega)⟩, k9⟩
    obtain ⟨ad9, cap9, e9, _⟩ := h9.at
    rw [unhideR HF] at e9
    exact ⟨ad9, cap9, e9⟩
  rintro _ ⟨ad2, cap2, rfl⟩ K hK
  go_simp
  refine hK _ ?_
  clear hK K
  refine lexX_end (fun v5 hv => ?_)
  obtain ⟨⟨_, hr1⟩, hr2⟩ := hv.fact
  have HV := hideR hv.low
  clear hv hcr hft
  have HS5 : HeldR (N ≤ v5.heap.size) := hideR (by have := (unhideR HV).size; rw [unhideR HN] at this; exact this)
  replace HB := hideR ((unhideR HB).trans ((unhideR HV).mono (by rw [unhideR HN]; omega)))
  replace HZ3 := hideR (keepB (unhideR HZ3) (unhideR HV))
  refine wpAny_step (i := 6) (by kernel_rfl) rfl (by kernel_rfl) (fun K9 hK => ?_)
  refine wp_append_rows _ _ rfl rfl rfl hr1 hr2 (by rw [hlc, unhideR HF]; omega) (unhideR HS5) ?_
  intro v6 w6 hr6 hgr
  have hlo6 : ∀ k, (Value.slice ad1 4 cap1).ownBlock = some k → N ≤ k := fun k e => (hr1.lt k e).1
  replace HB := hideR ((unhideR HB).grown hgr (by have := unhideR HS5; omega) (fun k e => by have := hlo6 k e; omega))
  replace HZ3 := hideR ((hgr.block _ (ltB (unhideR HZ3)) (fun e => by have := hlo6 _ e.symm; omega)).trans (unhideR HZ3))
  obtain ⟨ad6, cap6, e6, _, hx6⟩ := hr6.at
  have hl6 : (W.corners e ++ W.feet e).length = 4 + nf := by rw [List.length_append, hlc, unhideR HF]
  obtain ⟨b6, had6, _, hb6, _⟩ := hx6 0 (by omega)
  subst e6 had6
  have hmax := pmax_any (w := w6) (b := b6) (cap := cap6) (unhideR HG) (by omega) (by omega) hb6 (fun k hk => by
    obtain ⟨b, h1, _, _, h4⟩ := hx6 k hk
    cases h1
    exact h4)
  clear hr1 hr2 hgr hr6 hx6 hlo6 HV HY HW HZ2 HG
  rw [hl6] at hmax ⊢
  go_simp
  refine hK _ _ ?_
  clear hK K9
  refine wpAny_step (i := 7) (by kernel_rfl) rfl (by kernel_rfl) (fun K9 hK => ?_)
  unfold Oper.wp
  go_simp
  refine hmax.mono ?_
  rintro r w7 ⟨⟨c, hcm, rfl, hca⟩, k7⟩
  rw [coV_is]
  replace HB := hideR ((unhideR HB).trans (k7.mono (by have := ltB (unhideR HZ3); omega)))
  replace HZ3 := hideR (keepB (unhideR HZ3) k7)
  have HQ := hideR (unhideR HP c _ (unhideR HMx (unhideR HHh) c hcm hca) (set4_bl4 (unhideR HB) (show K ≤ K + 2 by omega) (.int .i64 c.sg) (.int .u64 (ohV c)) (.int .u64 (olV c)) (.int .i64 c.un)))
  have d0 := (cells_at (unhideR HZ3) 0 (by simp)).1
  have d1 := (cells_at (unhideR HZ3) 1 (by simp)).1
  have d2 := (cells_at (unhideR HZ3) 2 (by simp)).1
  have d3 := (cells_at (unhideR HZ3) 3 (by simp)).1
  have df0 := (cells_at (unhideR HZ3) 0 (by simp)).2
  have df1 := (cells_at (unhideR HZ3) 1 (by simp)).2
  have df2 := (cells_at (unhideR HZ3) 2 (by simp)).2
  have df3 := (cells_at (unhideR HZ3) 3 (by simp)).2
  have o := set4_at4 (unhideR HZ3) (.int .i64 c.sg) (.int .u64 (ohV c)) (.int .u64 (olV c)) (.int .i64 c.un)
  have o0 := (cells_at o 0 (by simp)).1
  have o1 := (cells_at o 1 (by simp)).1
  have o2 := (cells_at o 2 (by simp)).1
  have o3 := (cells_at o 3 (by simp)).1
  clear o HZ3 HB k7 hca hmax
  go_simp
  refine hK _ _ ?_
  clear hK K9
  refine wpAny_step (i := 8) (by kernel_rfl) rfl (by kernel_rfl) (fun K hK => ?_)
  unfold Oper.wp
  go_simp
  refine hK _ _ ?_
  clear hK K
  refine wpAny_end (by kernel_rfl) ?_
  go_wp2
  simp [bodyPost, results, Tryz.results112, go_sem, o0, o1, o2, o3]
  exact unhideR HQ
end Go.Proofs.YtfonpobdnhifgamGreatDoor
