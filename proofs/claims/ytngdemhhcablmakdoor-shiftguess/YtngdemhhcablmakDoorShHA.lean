/-
  Rows of whole numbers as waves begin, and the first of the greatest: the program's, by contract. What complex numbers guess: the program's, by contract.
-/
import Derived.Test.YtngdemhhcablmakDoorShGA
import Derived.Test.YtngdemhhcablmakDoorShDA
import Derived.Test.YtngdemhhcablmakDoorKitA
namespace Go.Proofs.YtngdemhhcablmakDoor
open Go Go.RowKit

/-- a row of numbers with a point that was made. -/
def GOwn (w : World) (B : Nat) (v : Value) (C : List Nat) : Prop := w.ownsRow B 36 1 v C.length (C.map (Value.float .f64))
theorem infoG : (Tryd.prog.info? 36).map (fun i => (i.zero, i.size, i.bytes)) = some (some (.float .f64 0), 1, 8) := by kernel_rfl
theorem make_zeroG {w : World} {n : Nat} (B : Nat) (hB : B ≤ w.heap.size) (hn : n ≤ 65536) : ∃ w', (Instr.makeSlice 69 (.int .i64 (n : Int)) (.int .i64 (n : Int))).run Tryd.prog w = .ok (.slice (some ⟨w.heap.size, 0, none⟩) n n) w' ∧ GOwn w' B (.slice (some ⟨w.heap.size, 0, none⟩) n n) (List.replicate n 0) ∧ Below w.heap.size w w' := by
  obtain ⟨i0, hi0, hz0, hz1, hz2⟩ := info_parts infoG
  obtain ⟨w', h1, h2, h3⟩ := run_make_full (P := Tryd.prog) w B 69 36 i0 (.float .f64 0) 1 (by kernel_rfl) hi0 hz0 hz1 .i64 .i64 n (by rw [hz2]; omega) (by simp [maxLen]; omega) hB
  refine ⟨w', h1, ?_, (Below.refl _ _).grown h3 (Nat.le_refl _) (fun k hk => by cases hk)⟩
  unfold GOwn
  have e : (madeCells (Value.cells (.float .f64 0)) (n * 1)).toList = (List.replicate n (0 : Nat)).map (Value.float .f64) := by
    rw [Nat.mul_one, show (Value.cells (.float .f64 0)) = #[.float .f64 0] from rfl, toList_madeCells_one, List.map_replicate]
  rw [← e, List.length_replicate]
  exact h2
theorem GOwn.has {w : World} {B g n c : Nat} {C : List Nat} (h : GOwn w B (.slice (some ⟨g, 0, none⟩) n c) C) (hn : C.length = n) {k : Nat} (hk : k < n) : w.cell? ⟨g, k, none⟩ = some (.float .f64 (C.getD k 0)) ∧ w.frozen? ⟨g, k, none⟩ = false := by
  unfold GOwn at h
  rw [hn] at h
  refine ⟨?_, h.frozenAt k⟩
  rw [h.cellAt k (by rw [Nat.mul_one]; exact hk), List.getElem?_map, List.getElem?_eq_getElem (by omega), List.getD_eq_getElem?_getD, List.getElem?_eq_getElem (by omega)]
  rfl
theorem GOwn.put {w : World} {B g n c : Nat} {C : List Nat} (h : GOwn w B (.slice (some ⟨g, 0, none⟩) n c) C) (hn : C.length = n) (k : Nat) (x : Nat) : GOwn (w.setCell ⟨g, k, none⟩ (.float .f64 x)) B (.slice (some ⟨g, 0, none⟩) n c) (C.set k x) := by
  unfold GOwn at h ⊢
  rw [hn] at h
  rw [List.length_set, hn, List.map_set]
  exact (h.stored k (.float .f64 x)).1
theorem GOwn.below {w w' : World} {B : Nat} {v : Value} {C : List Nat} (h : GOwn w B v C) (k : Below w.heap.size w w') : GOwn w' B v C := own_below2 h k
theorem GOwn.low {w : World} {B g n c : Nat} {C : List Nat} (h : GOwn w B (.slice (some ⟨g, 0, none⟩) n c) C) : B ≤ g := own_at2 h g rfl
theorem GOwn.lt0 {w : World} {B g n c : Nat} {C : List Nat} (h : GOwn w B (.slice (some ⟨g, 0, none⟩) n c) C) : g < w.heap.size := by
  unfold GOwn at h
  rcases h.2 with ⟨h1, _⟩ | ⟨g', c, cur, h1, _, hh, _⟩
  · cases h1
  · injection h1 with h1 _ _
    injection h1 with h1
    injection h1 with h1
    subst h1
    exact (Array.getElem?_eq_some_iff.1 hh).1
theorem GOwn.row {w : World} {B g n c : Nat} {C : List Nat} (h : GOwn w B (.slice (some ⟨g, 0, none⟩) n c) C) (hn : C.length = n) : FCame w (some ⟨g, 0, none⟩) C := ⟨fun k hk => ⟨g, 0, rfl, h.lt0, by
  rw [Nat.zero_add]
  exact (h.has hn (by rw [← hn]; exact hk)).1⟩⟩
/-- the first k as waves begin. -/
def AwK (A : List Int) (n : Nat) (X : List (Nat × Nat)) (k : Nat) : Prop := X.length = n ∧ ∀ i, i < k → X.getD i (0, 0) = (floatOfInt .f64 (A.getD i 0), 0)
theorem AwK.next {A : List Int} {n k : Nat} {X : List (Nat × Nat)} (h : AwK A n X k) (hk : k < n) : AwK A n (X.set k (floatOfInt .f64 (A.getD k 0), 0)) (k + 1) := by
  refine ⟨by rw [List.length_set]; exact h.1, fun i hi => ?_⟩
  by_cases e : i = k
  · subst e
    rw [cget_same (by rw [h.1]; exact hk)]
  · rw [cget_other e]
    exact h.2 i (by omega)
theorem AwK.fin {A : List Int} {X : List (Nat × Nat)} {n : Nat} (h : AwK A n X n) (hn : A.length = n) : X = asW A := by
  refine List.ext_getElem? (fun i => ?_)
  by_cases hi : i < n
  · have h1 := h.2 i hi
    have h2 := asW_at (A := A) (i := i) (by rw [hn]; exact hi)
    rw [List.getD_eq_getElem?_getD, List.getElem?_eq_getElem (by rw [h.1]; exact hi)] at h1
    rw [List.getD_eq_getElem?_getD, List.getElem?_eq_getElem (by rw [asW_len, hn]; exact hi)] at h2
    rw [List.getElem?_eq_getElem (by rw [h.1]; exact hi), List.getElem?_eq_getElem (by rw [asW_len, hn]; exact hi)]
    simp only [Option.getD_some] at h1 h2
    rw [h1, h2]
  · rw [List.getElem?_eq_none (by rw [h.1]; omega), List.getElem?_eq_none (by rw [asW_len, hn]; omega)]
def AwPost (A : List Int) (n : Nat) (w : World) (e : Ending) (w' : World) : Prop := ∃ g : Nat, e = .returned (.slice (some ⟨g, 0, none⟩) n n) ∧ CxOwn w' w.heap.size (.slice (some ⟨g, 0, none⟩) n n) (asW A) ∧ Below w.heap.size w w'
set_option maxRecDepth 100000 in
set_option maxHeartbeats 1600000 in
theorem asWaves_any {w : World} {ad : Option Addr} {c n : Nat} {A : List Int} (hA : ICame w ad A) (hn : A.length = n) (hl : n ≤ 256) : Calls Tryd.prog 52 #[.slice ad n c] w (AwPost A n w) := by
  have HA : HeldR (∀ u, Below w.heap.size w u → ICame u ad A) := hideR (fun u k => hA.below k)
  obtain ⟨wm, hmk, hown, hbw⟩ := make_zeroC (w := w) (n := n) w.heap.size (Nat.le_refl _) (by omega)
  have HX : HeldR (∃ X, AwK A n X 0 ∧ CxOwn wm w.heap.size (.slice (some ⟨w.heap.size, 0, none⟩) n n) X) := hideR ⟨_, ⟨List.length_replicate, fun i hi => absurd hi (Nat.not_lt_zero i)⟩, hown⟩
  have HBm := hideR hbw
  have HE : HeldR (∀ X g u, AwK A n X n → CxOwn u w.heap.size (.slice (some ⟨g, 0, none⟩) n n) X → Below w.heap.size w u → AwPost A n w (.returned (.slice (some ⟨g, 0, none⟩) n n)) u) := hideR (fun X g u h1 h2 h3 => ⟨g, rfl, by rw [← h1.fin hn]; exact h2, h3⟩)
  have hsto := fun w a x y m => run_store Tryd.prog w a (.complex .f64 x y) m rfl
  have HN := hideR hn
  clear hA hown hbw hn
  go_enter Tryd.func52, Tryd.ntmps52
  go_wp2
  obtain ⟨g, hg⟩ : ∃ g, w.heap.size = g := ⟨_, rfl⟩
  have HG := hideR hg
  rw [hg] at HX HE ⊢
  clear hg hmk
  go_loopw [11] (fun iv wl => ∃ (k : Nat) (X : List (Nat × Nat)), k ≤ n ∧ iv = .int .i64 (k : Nat) ∧ HeldR (AwK A n X k) ∧ HeldR (CxOwn wl g (.slice (some ⟨g, 0, none⟩) n n) X) ∧ HeldR (Below w.heap.size w wl)) (fun iv _ => n + 1 - (intOf iv).toNat)
  case atStart =>
    obtain ⟨X, h1, h2⟩ := unhideR HX
    exact ⟨0, X, by omega, rfl, hideR h1, hideR h2, HBm⟩
  case round =>
    clear HX HBm
    obtain ⟨k, X, hk, rfl, HT, HO, HB⟩ := hrel
    by_cases hlt : k < n
    · have tk : decide (k < n) = true := decide_eq_true hlt
      have tki : decide ((k : Int) < (n : Int)) = true := decide_eq_true (by omega)
      have jk : (k : Int) < (n : Int) := by omega
      have wk : IntKind.i64.wrap ((k : Int) + 1) = ((k + 1 : Nat) : Int) := by rw [show (k : Int) + 1 = ((k + 1 : Nat) : Int) by omega]; exact iwrap (by omega) (by omega)
      obtain ⟨b1, o1, rfl, _, x1⟩ := (unhideR HA wr (unhideR HB)).at_ k (by rw [unhideR HN]; exact hlt)
      have HT' := hideR ((unhideR HT).next hlt)
      obtain ⟨xc, xf⟩ := (unhideR HO).has (unhideR HT).1 (k := k) hlt
      have HO' := hideR ((unhideR HO).put (unhideR HT).1 k (floatOfInt .f64 (A.getD k 0), 0))
      have HB' : HeldR (Below w.heap.size w (wr.setCell ⟨g, k, none⟩ (.complex .f64 (floatOfInt .f64 (A.getD k 0)) 0))) := hideR ((unhideR HB).setCell (by rw [unhideR HG]; exact Nat.le_refl _) _)
      obtain ⟨fv, hfv⟩ : ∃ fv, floatOfInt .f64 (A.getD k 0) = fv := ⟨_, rfl⟩
      rw [hfv] at HT' HO' HB'
      generalize A.getD k 0 = av at *
      generalize (X.getD k (0, 0)).1 = q1 at *
      generalize (X.getD k (0, 0)).2 = q2 at *
      clear HT HO HB
      go_wp2
      exact ⟨⟨k + 1, _, by omega, by first | rfl | go_num, HT', HO', HB'⟩, by simp [intOf]; omega⟩
    · obtain rfl : n = k := by omega
      have tk : decide (n < n) = false := decide_eq_false hlt
      have tki : decide ((n : Int) < (n : Int)) = false := decide_eq_false (by omega)
      have HR := hideR (unhideR HE X g wr (unhideR HT) (unhideR HO) (unhideR HG ▸ unhideR HB))
      clear HE HT HO
      go_wp2
      go_ret
      exact unhideR HR
set_option maxRecDepth 100000 in
theorem firstGreatestF_any {w : World} {ad : Option Addr} {cap n : Nat} {L : List Nat} (hr : FCame w ad L) (hn : L.length = n) (hl : n ≤ 65536) (h0 : 0 < n) :
    Calls Tryd.prog 41 #[.slice ad n cap] w fun e w' => e = .returned (.int .i64 (bestN (fun k => L.getD k 0) n : Nat)) ∧ w' = w := by
  have HR := hideR hr
  have HN := hideR hn
  clear hr hn
  go_enter Tryd.func41, Tryd.ntmps41
  go_wp2
  go_loop [3, 8] (fun bv iv => ∃ k : Nat, k ≤ n ∧ iv = .int .i64 (k : Nat) ∧ bv = .int .i64 (bestN (fun k => L.getD k 0) k : Nat)) (fun _ iv => n + 1 - (intOf iv).toNat)
  case atStart => exact ⟨0, by omega, rfl, rfl⟩
  case round =>
    obtain ⟨k, hk, rfl, rfl⟩ := hrel
    by_cases hlt : k < n
    · have tk : decide (k < n) = true := decide_eq_true hlt
      have tki : decide ((k : Int) < (n : Int)) = true := decide_eq_true (by omega)
      have jk : (k : Int) < (n : Int) := by omega
      have wk : IntKind.i64.wrap ((k : Int) + 1) = ((k + 1 : Nat) : Int) := by rw [show (k : Int) + 1 = ((k + 1 : Nat) : Int) by omega]; exact iwrap (by omega) (by omega)
      have hb := bestN_lt (fun k => L.getD k 0) h0 k hk
      obtain ⟨b1, o1, rfl, _, x1⟩ := (unhideR HR).at_ k (by rw [unhideR HN]; exact hlt)
      obtain ⟨b2, o2, e2, _, x2⟩ := (unhideR HR).at_ (bestN (fun k => L.getD k 0) k) (by rw [unhideR HN]; exact hb)
      injection e2 with e2
      injection e2 with e3 e4
      subst e3
      subst e4
      have HNx : HeldR (bestN (fun k => L.getD k 0) (k + 1) = if (FloatKind.f64.format.order (L.getD k 0) (L.getD (bestN (fun k => L.getD k 0) k) 0) == some .gt) = true then k else bestN (fun k => L.getD k 0) k) := hideR rfl
      generalize L.getD (bestN (fun k => L.getD k 0) k) 0 = y at *
      obtain ⟨b, hbb⟩ : ∃ b, bestN (fun k => L.getD k 0) k = b := ⟨_, rfl⟩
      rw [hbb] at hb x2 HNx ⊢
      generalize L.getD k 0 = x at x1 HNx
      have jb : (b : Int) < (n : Int) := by omega
      clear hbb
      cases q : (FloatKind.f64.format.order x y == some .gt) with
      | true =>
        rw [q, if_pos rfl] at HNx
        go_wp2
        exact ⟨⟨k + 1, by omega, by first | rfl | go_num, by rw [unhideR HNx]⟩, by simp [intOf]; omega⟩
      | false =>
        rw [q, if_neg (by decide)] at HNx
        go_wp2
        exact ⟨⟨k + 1, by omega, by first | rfl | go_num, by rw [unhideR HNx]⟩, by simp [intOf]; omega⟩
    · obtain rfl : n = k := by omega
      have tk : decide (n < n) = false := decide_eq_false hlt
      have tki : decide ((n : Int) < (n : Int)) = false := decide_eq_false (by omega)
      go_wp2
      go_ret
      exact ⟨rfl, rfl⟩
end Go.Proofs.YtngdemhhcablmakDoor
namespace Go.Proofs.YtngdemhhcablmakDoor
open Go Go.RowKit

/-- products under way: those before k, then the waves. -/
structure GpK (X Y C : List (Nat × Nat)) (n k : Nat) : Prop where
  len : C.length = n
  done : ∀ i, i < k → CPr ((X.getD i (0, 0)).1, ngB (X.getD i (0, 0)).2) (Y.getD i (0, 0)) (C.getD i (0, 0))
  rest : ∀ i, k ≤ i → C.getD i (0, 0) = X.getD i (0, 0)
theorem GpK.next {X Y C : List (Nat × Nat)} {n k : Nat} (h : GpK X Y C n k) (hk : k < n) {r : Nat × Nat} (hr : CPr ((X.getD k (0, 0)).1, ngB (X.getD k (0, 0)).2) (Y.getD k (0, 0)) r) : GpK X Y (C.set k r) n (k + 1) := by
  refine ⟨by rw [List.length_set]; exact h.len, fun i hi => ?_, fun i hi => ?_⟩
  · by_cases e : i = k
    · subst e
      rw [cget_same (by rw [h.len]; exact hk)]
      exact hr
    · rw [cget_other e]
      exact h.done i (by omega)
  · rw [cget_other (by omega)]
    exact h.rest i (by omega)
/-- the real parts of the first k. -/
def ReK (Z : List (Nat × Nat)) (n : Nat) (F : List Nat) (k : Nat) : Prop := F.length = n ∧ ∀ i, i < k → F.getD i 0 = (Z.getD i (0, 0)).1
theorem ReK.next {Z : List (Nat × Nat)} {n k : Nat} {F : List Nat} (h : ReK Z n F k) (hk : k < n) : ReK Z n (F.set k (Z.getD k (0, 0)).1) (k + 1) := by
  refine ⟨by rw [List.length_set]; exact h.1, fun i hi => ?_⟩
  by_cases e : i = k
  · subst e
    rw [List.getD_eq_getElem?_getD, List.getElem?_set_self (by rw [h.1]; exact hk)]
    rfl
  · rw [List.getD_eq_getElem?_getD, List.getElem?_set_ne (by omega), ← List.getD_eq_getElem?_getD]
    exact h.2 i (by omega)
def GdPost (A B : List Int) (d n : Nat) (w : World) (e : Ending) (w' : World) : Prop := ∃ (Z : List (Nat × Nat)) (F : List Nat) (g : Nat), e = .returned (.slice (some ⟨g, 0, none⟩) n n) ∧ GsR A B d Z ∧ ReK Z n F n ∧ FCame w' (some ⟨g, 0, none⟩) F ∧ Below w.heap.size w w'
set_option maxRecDepth 100000 in
set_option maxHeartbeats 3200000 in
theorem guessed_any {w : World} {a1 a2 : Option Addr} {c1 c2 n d : Nat} {A B : List Int} (hA : ICame w a1 A) (hB : ICame w a2 B) (lA : A.length = n) (lB : B.length = n) (hd : n = 2 ^ d) (hn : n ≤ 256) : Calls Tryd.prog 42 #[.slice a1 n c1, .slice a2 n c2] w (GdPost A B d n w) := by
  have hn0 : 0 < n := by rw [hd]; exact Nat.two_pow_pos d
  have HB : HeldR (∀ u, Below w.heap.size w u → ICame u a2 B) := hideR (fun u k => hB.below k)
  have HD := hideR hd
  have HLA := hideR lA
  have HLB := hideR lB
  have HFw : HeldR (∀ (u : World) (g : Nat) (M : List (Nat × Nat)) (back : Bool), CxCame u (some ⟨g, 0, none⟩) M → M.length = n → Calls Tryd.prog 36 #[.slice (some ⟨g, 0, none⟩) n n, .bool back] u (FwPost M d back u)) := hideR (fun u g M back h1 h2 => by
    have := fastWaves_any (c1 := n) (d := d) h1 (by rw [h2]; exact hd) (by omega) back
    rw [h2] at this
    exact this)
  have h1 := asWaves_any (c := c1) hA lA hn
  have hsto := fun w a x y m => run_store Tryd.prog w a (.complex .f64 x y) m rfl
  have hstf := fun w a x m => run_store Tryd.prog w a (.float .f64 x) m rfl
  have hneg : ∀ x v, (Op.unary UnOp.neg (.float .f64 x)).run Tryd.prog v = .ok (.float .f64 (ngB x)) v := fun _ _ => rfl
  clear hA hB lA lB hd
  go_enter Tryd.func42, Tryd.ntmps42
  go_wp2_with fail
  refine h1.mono ?_
  rintro e w1 ⟨g1, rfl, o1, k1⟩
  have HB1 := hideR k1
  have h2 := unhideR HFw w1 g1 (asW A) false o1.row (by rw [asW_len]; exact unhideR HLA)
  clear h1 o1 k1
  go_wp2_with fail
  refine h2.mono ?_
  rintro e w2 ⟨X, gx, n', rfl, hn', lX, fX, oX, k2⟩
  obtain rfl : n = n' := by rw [hn']; exact unhideR HD
  have HB2 := hideR (below_go (unhideR HB1) k2)
  have HfX := hideR fX
  have HlX := hideR lX
  have HoX := hideR (oX.lower (unhideR HB1).size)
  have h3 := asWaves_any (c := c2) (unhideR HB w2 (unhideR HB2)) (unhideR HLB) hn
  clear h2 hn' lX fX oX k2 HB1
  go_wp2_with fail
  refine h3.mono ?_
  rintro e w3 ⟨g3, rfl, o3, k3⟩
  have HB3 := hideR (below_go (unhideR HB2) k3)
  have HoX3 := hideR ((unhideR HoX).below k3)
  have h4 := unhideR HFw w3 g3 (asW B) false o3.row (by rw [asW_len]; exact unhideR HLB)
  clear h3 o3 k3 HoX HB2
  go_wp2_with fail
  refine h4.mono ?_
  rintro e w4 ⟨Y, gy, n', rfl, hn', lY, fY, oY, k4⟩
  obtain rfl : n = n' := by rw [hn']; exact unhideR HD
  have HB4 := hideR (below_go (unhideR HB3) k4)
  have HfY := hideR fY
  have HlY := hideR lY
  have HoY := hideR (oY.lower (unhideR HB3).size)
  have HoX4 := hideR ((unhideR HoX3).below k4)
  have hgxy : gx ≠ gy := by
    have q1 := (unhideR HoX3).lt0
    have q2 := oY.low
    omega
  clear h4 hn' lY fY oY k4 HoX3 HB3
  have HC0 : HeldR (∃ C, GpK X Y C n 0 ∧ CxOwn w4 w.heap.size (.slice (some ⟨gx, 0, none⟩) n n) C) := hideR ⟨X, ⟨unhideR HlX, fun i hi => absurd hi (Nat.not_lt_zero i), fun _ _ => rfl⟩, unhideR HoX4⟩
  clear HoX4
  go_wp2
  go_loopw [20] (fun iv wl => ∃ (k : Nat) (C : List (Nat × Nat)), k ≤ n ∧ iv = .int .i64 (k : Nat) ∧ HeldR (GpK X Y C n k) ∧ HeldR (CxOwn wl w.heap.size (.slice (some ⟨gx, 0, none⟩) n n) C) ∧ HeldR (CxOwn wl w.heap.size (.slice (some ⟨gy, 0, none⟩) n n) Y) ∧ HeldR (Below w.heap.size w wl)) (fun iv _ => n + 1 - (intOf iv).toNat)
  case atStart =>
    obtain ⟨C, q1, q2⟩ := unhideR HC0
    exact ⟨0, C, by omega, rfl, hideR q1, hideR q2, HoY, HB4⟩
  case round =>
    clear HC0 HoY HB4
    obtain ⟨k, C, hk, rfl, HK, HO, HY, HW⟩ := hrel
    by_cases hlt : k < n
    · have tk : decide (k < n) = true := decide_eq_true hlt
      have tki : decide ((k : Int) < (n : Int)) = true := decide_eq_true (by omega)
      have jk : (k : Int) < (n : Int) := by omega
      have wk : IntKind.i64.wrap ((k : Int) + 1) = ((k + 1 : Nat) : Int) := by rw [show (k : Int) + 1 = ((k + 1 : Nat) : Int) by omega]; exact iwrap (by omega) (by omega)
      obtain ⟨xc, _⟩ := (unhideR HO).has (unhideR HK).len (k := k) hlt
      rw [(unhideR HK).rest k (Nat.le_refl _)] at xc
      obtain ⟨yc, _⟩ := (unhideR HY).has (unhideR HlY) (k := k) hlt
      have HNx : HeldR (∀ r : Nat × Nat, CPr ((X.getD k (0, 0)).1, ngB (X.getD k (0, 0)).2) (Y.getD k (0, 0)) r → GpK X Y (C.set k r) n (k + 1)) := hideR (fun r hr => (unhideR HK).next hlt hr)
      have hpr := fun v => sproduct_any ((X.getD k (0, 0)).1, ngB (X.getD k (0, 0)).2) (Y.getD k (0, 0)) v
      have HCl := hideR (unhideR HK).len
      generalize X.getD k (0, 0) = xv at *
      generalize Y.getD k (0, 0) = yv at *
      obtain ⟨x1, x2⟩ := xv
      obtain ⟨y1, y2⟩ := yv
      clear HK
      go_wp2_with fail
      refine (hpr _).mono ?_
      rintro e w5 ⟨r, rfl, hr, k5⟩
      have HK' := hideR (unhideR HNx r hr)
      have HO5 := hideR ((unhideR HO).below k5)
      obtain ⟨xc5, xf5⟩ := (unhideR HO5).has (unhideR HCl) (k := k) hlt
      have HO' := hideR ((unhideR HO5).put (unhideR HCl) k r)
      have HY' := hideR (((unhideR HY).below k5).other (fun e => hgxy e.symm) k (.complex .f64 r.1 r.2))
      have HW' : HeldR (Below w.heap.size w (w5.setCell ⟨gx, k, none⟩ (.complex .f64 r.1 r.2))) := hideR ((below_go (unhideR HW) k5).setCell (unhideR HO).low _)
      clear hpr hr k5 HNx HO HY HW HO5 xc yc HCl
      go_wp2
      exact ⟨⟨k + 1, _, by omega, by first | rfl | go_num, HK', HO', HY', HW'⟩, by simp [intOf]; omega⟩
    · obtain rfl : n = k := by omega
      have tk : decide (n < n) = false := decide_eq_false hlt
      have tki : decide ((n : Int) < (n : Int)) = false := decide_eq_false (by omega)
      have HCl := hideR (unhideR HK).len
      have HCd := hideR (unhideR HK).done
      obtain ⟨wm, hmk, hown, hbw⟩ := make_zeroG (w := wr) (n := n) wr.heap.size (Nat.le_refl _) (by omega)
      have HGo := hideR (hown)
      have HBm := hideR (below_go (unhideR HW) hbw)
      have h6 := unhideR HFw wm gx C true ((unhideR HO).below hbw).row (unhideR HCl)
      obtain ⟨gs, hgs⟩ : ∃ g, wr.heap.size = g := ⟨_, rfl⟩
      have HGs := hideR hgs
      have HWs : HeldR (w.heap.size ≤ gs) := hideR (by rw [← hgs]; exact (unhideR HW).size)
      rw [hgs] at hmk HGo
      clear hown hbw HK HO HY hgs HFw
      go_wp2_with fail
      refine h6.mono ?_
      rintro e w7 ⟨Z, gz, n', rfl, hn', lZ, fZ, oZ, k7⟩
      obtain rfl : n = n' := by rw [hn']; exact unhideR HD
      have HGs7 := hideR ((unhideR HGo).below k7)
      have HB7 := hideR (below_go (unhideR HBm) k7)
      have HlZ := hideR lZ
      have hgzs : gz ≠ gs := by
        have q1 := oZ.low
        have q2 := (unhideR HGo).lt0
        omega
      have HoZ := hideR (oZ.lower (Nat.le_trans (unhideR HW).size (by
        have q := (unhideR HGo).lt0
        have := unhideR HGs
        omega)))
      have HGR : HeldR (GsR A B d Z) := hideR ⟨X, Y, C, unhideR HfX, unhideR HfY, by rw [unhideR HCl]; exact unhideR HD, fun j hj => unhideR HCd j (by rw [unhideR HD]; exact hj), fZ⟩
      have HF0 : HeldR (∃ F, ReK Z n F 0 ∧ GOwn w7 gs (.slice (some ⟨gs, 0, none⟩) n n) F) := hideR ⟨_, ⟨List.length_replicate, fun i hi => absurd hi (Nat.not_lt_zero i)⟩, unhideR HGs7⟩
      clear h6 hn' lZ fZ oZ k7 HGo HBm HGs7 hmk HCl HCd
      go_wp2
      go_loopw [46] (fun iv wl => ∃ (k : Nat) (F : List Nat), k ≤ n ∧ iv = .int .i64 (k : Nat) ∧ HeldR (ReK Z n F k) ∧ HeldR (GOwn wl gs (.slice (some ⟨gs, 0, none⟩) n n) F) ∧ HeldR (CxOwn wl w.heap.size (.slice (some ⟨gz, 0, none⟩) n n) Z) ∧ HeldR (Below w.heap.size w wl)) (fun iv _ => n + 1 - (intOf iv).toNat)
      case atStart =>
        obtain ⟨F, q1, q2⟩ := unhideR HF0
        exact ⟨0, F, by omega, rfl, hideR q1, hideR q2, HoZ, HB7⟩
      case round =>
        clear HF0 HoZ HB7
        obtain ⟨s, F, hs, rfl, HR, HG, HZ, HW2⟩ := hrel
        by_cases hls : s < n
        · have ts : decide (s < n) = true := decide_eq_true hls
          have tsi : decide ((s : Int) < (n : Int)) = true := decide_eq_true (by omega)
          have js : (s : Int) < (n : Int) := by omega
          have ws : IntKind.i64.wrap ((s : Int) + 1) = ((s + 1 : Nat) : Int) := by rw [show (s : Int) + 1 = ((s + 1 : Nat) : Int) by omega]; exact iwrap (by omega) (by omega)
          obtain ⟨zc, _⟩ := (unhideR HZ).has (unhideR HlZ) (k := s) hls
          obtain ⟨fc, ff⟩ := (unhideR HG).has (unhideR HR).1 (k := s) hls
          have HR' := hideR ((unhideR HR).next hls)
          have HG' := hideR ((unhideR HG).put (unhideR HR).1 s (Z.getD s (0, 0)).1)
          have HZ' := hideR ((unhideR HZ).other hgzs s (.float .f64 (Z.getD s (0, 0)).1))
          have HW' : HeldR (Below w.heap.size w (wr.setCell ⟨gs, s, none⟩ (.float .f64 (Z.getD s (0, 0)).1))) := hideR ((unhideR HW2).setCell (unhideR HWs) _)
          generalize (Z.getD s (0, 0)).1 = z1 at *
          generalize (Z.getD s (0, 0)).2 = z2 at *
          generalize F.getD s 0 = f0 at *
          clear HR HG HZ HW2
          go_wp2
          exact ⟨⟨s + 1, _, by omega, by first | rfl | go_num, HR', HG', HZ', HW'⟩, by simp [intOf]; omega⟩
        · obtain rfl : n = s := by omega
          have ts : decide (n < n) = false := decide_eq_false hls
          have tsi : decide ((n : Int) < (n : Int)) = false := decide_eq_false (by omega)
          have HE : HeldR (GdPost A B d n w (.returned (.slice (some ⟨gs, 0, none⟩) n n)) wr) := hideR ⟨Z, F, gs, rfl, unhideR HGR, unhideR HR, (unhideR HG).row (unhideR HR).1, unhideR HW2⟩
          clear HGR HR HG HZ HW2
          go_wp2
          go_ret
          exact unhideR HE
end Go.Proofs.YtngdemhhcablmakDoor
