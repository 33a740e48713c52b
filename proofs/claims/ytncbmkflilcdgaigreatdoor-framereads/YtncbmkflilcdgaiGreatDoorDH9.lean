/-
  The program's reading: the head's end.
-/
import Derived.Test.YtncbmkflilcdgaiGreatDoorDH5A
import Derived.Test.YtncbmkflilcdgaiGreatDoorDG7
namespace Go.Proofs.YtncbmkflilcdgaiGreatDoor
open Go Go.RowKit

theorem own_cap {w : World} {B n s c : Nat} {e : TypeId} {ad : Option Addr} {xs : List Value} (h : w.ownsRow B e s (.slice ad n c) n xs) : n ≤ c := by
  rcases h.2 with ⟨h1, h2⟩ | ⟨g, c', cur, h1, _, _, hn, _⟩
  · rw [h2]; exact Nat.zero_le _
  · injection h1 with _ _ h3
    subst h3
    exact hn
theorem own_first {w : World} {B n s c : Nat} {e : TypeId} {ad : Option Addr} {xs : List Value} (h : w.ownsRow B e s (.slice ad n c) n xs) (hn : 0 < n) : ∃ k, ad = some ⟨k, 0, none⟩ := by
  rcases h.2 with ⟨h1, h2⟩ | ⟨g, c', cur, h1, _⟩
  · omega
  · injection h1 with h1
    exact ⟨g, h1⟩
def OwnZR (B n : Nat) (v : Value) (w : World) : Prop := w.ownsRow B 3 1 v n ((List.replicate n (0 : Int)).map (Value.int .i64))
theorem make_zeroR {w : World} {n : Nat} (B : Nat) (hB : B ≤ w.heap.size) (hn : n ≤ 65536) : ∃ w', (Instr.makeSlice 24 (.int .i64 (n : Int)) (.int .i64 (n : Int))).run Tryz.prog w = .ok (.slice (some ⟨w.heap.size, 0, none⟩) n n) w' ∧ OwnZR B n (.slice (some ⟨w.heap.size, 0, none⟩) n n) w' ∧ Below w.heap.size w w' := by
  obtain ⟨i0, hi0, hz0, hz1, hz2⟩ := info_parts infoI
  obtain ⟨w', h1, h2, h3⟩ := run_make_full (P := Tryz.prog) w B 24 3 i0 (.int .i64 0) 1 (by kernel_rfl) hi0 hz0 hz1 .i64 .i64 n (by rw [hz2]; omega) (by simp [maxLen]; omega) hB
  refine ⟨w', h1, ?_, (Below.refl _ _).grown h3 (Nat.le_refl _) (fun k hk => by cases hk)⟩
  unfold OwnZR
  have e : (madeCells (Value.cells (.int .i64 0)) (n * 1)).toList = (List.replicate n (0 : Int)).map (Value.int .i64) := by
    rw [Nat.mul_one, show (Value.cells (.int .i64 0)) = #[.int .i64 0] from rfl, toList_madeCells_one, List.map_replicate]
  rw [← e]
  exact h2
def Sl6 (v : Value) : Prop := ∃ g : Nat, v = .slice (some ⟨g, 0, none⟩) 6 6
def CamF (L : List CrdS) (v : Value) (w : World) : Prop := ∀ g : Nat, v = .slice (some ⟨g, 0, none⟩) 6 6 → CCame w (some ⟨g, 0, none⟩) L
theorem camF_stb (L : List CrdS) (v : Value) : Stb (CamF L v) := fun _ _ h k g e => (h g e).below k
def EhPost (B g : Nat) (b : Bs) (co : Nat) (s : St) (w : World) (e : Ending) (w' : World) : Prop := ∃ q : Bool, e = .returned (.bool q) ∧ Below B w w' ∧ (q = true → ∃ u, endE s = some u ∧ RdAt w' B g b co u) ∧ (q = false → endE s = none)
theorem eh_no {B g co : Nat} {b : Bs} {s : St} {w u : World} (h : endE s = none) (k : Below B w u) : EhPost B g b co s w (.returned (.bool false)) u := ⟨false, rfl, k, fun q => (by cases q), fun _ => h⟩
theorem crd_size {LS : List CrdS} {s : St} (h : LS.map CrdS.crd = s.cards) (hok : StOk s) : ∀ c ∈ LS, c.name.size ≤ 8 ∧ c.value.size ≤ 72 := by
  intro c hc
  have := hok.cards c.crd (by rw [← h]; exact List.mem_map_of_mem hc)
  exact this
theorem crdS_at {LS : List CrdS} {s : St} (h : LS.map CrdS.crd = s.cards) (i : Nat) (hi : i < LS.length) : (s.cards.getD i crd0).value = (LS.getD i crdS0).value.data.toList := by
  rw [← h, crd_at hi]
  rfl
theorem six_same_crd {LS : List CrdS} {s : St} {W H : Nat} (h : LS.map CrdS.crd = s.cards) : decide (List.map CrdS.crd (List.take 6 LS) = List.map CrdS.crd (sixS W H)) = true ↔ s.cards.take 6 = six ⟨W, H, []⟩ := by
  rw [decide_eq_true_iff, List.map_take, h, six_is]
theorem Rd.ends {w : World} {g co W H nx W' H' : Nat} {b : Bs} {cv pv pv' : Value} {hd : Bool} (h : Rd w g b (rdT co cv hd W H pv nx)) : Rd (((w.setCell ⟨g, 2883, none⟩ (.int .i64 (W' : Nat))).setCell ⟨g, 2884, none⟩ (.int .i64 (H' : Nat))).setCell ⟨g, 2885, none⟩ pv') g b (rdT co cv hd W' H' pv' nx) :=
  ((h.set 3 (.int .i64 (W' : Nat))).set 4 (.int .i64 (H' : Nat))).set 5 pv'
set_option maxRecDepth 100000 in
set_option maxHeartbeats 6400000 in
theorem endHead_any {a : Nat → Addr} {w : World} {B g co : Nat} {b : Bs} {s : St} {LS : List CrdS} {cv pv : Value} (hS : SentsF w a) (h : RdIs w B g b co s LS cv pv) (hBw : B ≤ w.heap.size) (hok : StOk s) (hhd : s.headed = false) (hn : s.cards.length ≤ 10000) :
    Calls Tryz.prog 71 #[.pointer (some ⟨g, 0, none⟩)] w (EhPost B g b co s w) := by
  have hle : LS.length = s.cards.length := by rw [← h.crd, List.length_map]
  have hsz := crd_size h.crd hok
  obtain ⟨ad, cap, rfl, hcam⟩ := h.cards.came (fun c hc => ⟨by have := (hsz c hc).1; omega, by have := (hsz c hc).2; omega⟩)
  have hcap : LS.length ≤ cap := own_cap h.cards
  have c1 := h.rd.tail 1 _ rfl
  simp only [Nat.reduceAdd] at c1
  by_cases h6 : LS.length < 6
  · have HX : HeldR (EhPost B g b co s w (.returned (.bool false)) w) := hideR (eh_no (endE_few (by omega)) (Below.refl _ _))
    have t1 : decide ((LS.length : Int) < 6) = true := decide_eq_true (by omega)
    clear hS h hok hhd hle hsz hcam hn
    go_enter Tryz.func71, Tryz.ntmps71
    go_wp2
    go_ret
    exact unhideR HX
  obtain ⟨k, rfl⟩ := own_first h.cards (by omega)
  have t1 : decide ((LS.length : Int) < 6) = false := decide_eq_false (by omega)
  have i6 : (6 : Int) ≤ (LS.length : Int) := by omega
  obtain ⟨adr, hadr⟩ : ∃ adr : Option Addr, (if cap = 6 then (some ⟨k, 0, none⟩ : Option Addr) else some ⟨k, 12, none⟩) = adr := ⟨_, rfl⟩
  have hcr : CCame w adr (LS.drop 6) := by
    rw [← hadr]
    split
    · exact ⟨fun j hj => absurd hj (by rw [List.length_drop]; omega)⟩
    · have := drop_came hcam 6
      rwa [Nat.zero_add] at this
  have hwc := wrongCards_any (cap := cap - 6) hS hcr (by rw [List.length_drop]; omega) (by rw [List.length_drop]; omega)
  rw [List.length_drop] at hwc
  have HWc : HeldR (cardsE ((LS.drop 6).map CrdS.crd) = cardsE (s.cards.drop 6)) := hideR (by rw [List.map_drop, h.crd])
  rw [unhideR HWc] at hwc
  obtain ⟨s3, hs3⟩ : ∃ x, (LS.getD 3 crdS0).value = x := ⟨_, rfl⟩
  obtain ⟨s4, hs4⟩ : ∃ x, (LS.getD 4 crdS0).value = x := ⟨_, rfl⟩
  have hv3 := crdS_at h.crd 3 (by omega)
  have hv4 := crdS_at h.crd 4 (by omega)
  rw [hs3] at hv3
  rw [hs4] at hv4
  have x3 : w.cell? ⟨k, 7, none⟩ = some (.string s3) ∧ k < w.heap.size ∧ s3.size ≤ 1000 := by
    obtain ⟨b', o', e', hb', _, hc', _⟩ := hcam.at_ 3 (by omega)
    cases e'
    rw [hs3] at hc'
    refine ⟨hc', hb', ?_⟩
    have := (hsz (LS.getD 3 crdS0) (by rw [List.getD_eq_getElem?_getD, List.getElem?_eq_getElem (by omega)]; exact List.getElem_mem _)).2
    rw [hs3] at this
    omega
  have x4 : w.cell? ⟨k, 9, none⟩ = some (.string s4) ∧ s4.size ≤ 1000 := by
    obtain ⟨b', o', e', hb', _, hc', _⟩ := hcam.at_ 4 (by omega)
    cases e'
    rw [hs4] at hc'
    refine ⟨hc', ?_⟩
    have := (hsz (LS.getD 4 crdS0) (by rw [List.getD_eq_getElem?_getD, List.getElem?_eq_getElem (by omega)]; exact List.getElem_mem _)).2
    rw [hs4] at this
    omega
  have hgs := ltB h.rd.blk
  have HS := hideR hS
  have HR := hideR h
  have HOk := hideR hok
  have HHd := hideR hhd
  have HCam := hideR hcam
  have HV3 := hideR hv3
  have HV4 := hideR hv4
  have HLe := hideR hle
  have X3 := hideR x3
  have X4 := hideR x4
  have H6 := hideR h6
  generalize hln : LS.length = n at *
  have HLn := hideR hln
  clear hS h hok hhd hcam hv3 hv4 x3 x4 hsz hcr hs3 hs4 hle hn hln
  go_enter Tryz.func71, Tryz.ntmps71
  go_wp2_with fail
  refine hwc.mono ?_
  rintro e w1 ⟨er, rfl, her, k1⟩
  have HB := hideR k1
  clear hwc k1
  by_cases e1 : cardsE (s.cards.drop 6) = 0
  case neg =>
    obtain ⟨k', hk', rfl⟩ := err_some2 her e1
    have HX := hideR (eh_no (B := B) (g := g) (co := co) (b := b) (endE_wrong e1) ((unhideR HB).mono hBw))
    clear her e1
    go_wp2
    go_ret
    exact unhideR HX
  obtain rfl := err_nil2 her e1
  have HE1 := hideR e1
  clear her e1
  have HC : HeldR (∀ v, Below w1.heap.size w1 v → v.cell? ⟨g, 2881, none⟩ = some (.slice (some ⟨k, 0, none⟩) n cap)) := hideR (fun v hv => (below_go (unhideR HB) hv).cell (p := ⟨g, 2881, none⟩) hgs |>.trans c1)
  have H3 : HeldR (∀ v, Below w1.heap.size w1 v → v.cell? ⟨k, 7, none⟩ = some (.string s3)) := hideR (fun v hv => (below_go (unhideR HB) hv).cell (p := ⟨k, 7, none⟩) (unhideR X3).2.1 |>.trans (unhideR X3).1)
  have H4 : HeldR (∀ v, Below w1.heap.size w1 v → v.cell? ⟨k, 9, none⟩ = some (.string s4)) := hideR (fun v hv => (below_go (unhideR HB) hv).cell (p := ⟨k, 9, none⟩) (unhideR X3).2.1 |>.trans (unhideR X4).1)
  have hsd3 := fun v (hv : Below w1.heap.size w1 v) => side_any s3 (unhideR X3).2.2 ((unhideR HS).below (below_go (unhideR HB) hv))
  have hsd4 := fun v (hv : Below w1.heap.size w1 v) => side_any s4 (unhideR X4).2 ((unhideR HS).below (below_go (unhideR HB) hv))
  have l3 : (3 : Int) < (n : Int) := by omega
  have l4 : (4 : Int) < (n : Int) := by omega
  clear c1
  go_wp2_with fail
  refine wp_region_letsB w1.heap.size [(· = .pointer (some ⟨g, 0, none⟩)), (· = .pointer (some ⟨g, 0, none⟩)), (· = .pointer (some ⟨g, 2881, none⟩)), (· = .slice (some ⟨k, 0, none⟩) n cap), (· = .pointer (some ⟨k, 6, none⟩)), (· = .pointer (some ⟨k, 7, none⟩)), (· = .string s3), (SdV s3), (· = .pointer (some ⟨g, 0, none⟩)), (· = .pointer (some ⟨g, 0, none⟩)), (· = .pointer (some ⟨g, 2881, none⟩)), (· = .slice (some ⟨k, 0, none⟩) n cap), (· = .pointer (some ⟨k, 8, none⟩)), (· = .pointer (some ⟨k, 9, none⟩)), (· = .string s4), (SdV s4), (SdV s3), (SdV s4)] (by kernel_rfl) (by kernel_rfl) ?_
  refine lexB_step (fun K hK => ⟨by kernel_rfl, ⟨_, rfl⟩, fun v hv => ?_, fun v hv => ?_⟩)
  · go_simp
    exact lUpon_b hv
  subst hv
  go_simp
  refine hK _ ?_
  clear hK K
  refine lexB_step (fun K hK => ⟨by kernel_rfl, ⟨_, rfl⟩, fun v hv => ?_, fun v hv => ?_⟩)
  · go_simp
    exact lUpon_b hv
  subst hv
  go_simp
  refine hK _ ?_
  clear hK K
  refine lexB_step (fun K hK => ⟨by kernel_rfl, ⟨_, rfl⟩, fun v hv => ?_, fun v hv => ?_⟩)
  · go_simp
    exact lUpon_b hv
  subst hv
  go_simp
  refine hK _ ?_
  clear hK K
  refine lexB_step (fun K hK => ⟨by kernel_rfl, ⟨_, rfl⟩, fun v hv => ?_, fun v hv => ?_⟩)
  · have cc := unhideR HC v hv
    go_simp
    exact lUpon_b hv
  subst hv
  go_simp
  refine hK _ ?_
  clear hK K
  refine lexB_step (fun K hK => ⟨by kernel_rfl, ⟨_, rfl⟩, fun v hv => ?_, fun v hv => ?_⟩)
  · go_simp
    exact lUpon_b hv
  subst hv
  go_simp
  refine hK _ ?_
  clear hK K
  refine lexB_step (fun K hK => ⟨by kernel_rfl, ⟨_, rfl⟩, fun v hv => ?_, fun v hv => ?_⟩)
  · go_simp
    exact lUpon_b hv
  subst hv
  go_simp
  refine hK _ ?_
  clear hK K
  refine lexB_step (fun K hK => ⟨by kernel_rfl, ⟨_, rfl⟩, fun v hv => ?_, fun v hv => ?_⟩)
  · have cc := unhideR H3 v hv
    go_simp
    exact lUpon_b hv
  subst hv
  go_simp
  refine hK _ ?_
  clear hK K
  refine lexB_step (fun K hK => ⟨by kernel_rfl, sdV_some _, fun v hv => ?_, fun v hv => ?_⟩)
  · go_simp
    refine (hsd3 v hv).mono ?_
    rintro e w9 ⟨r, rfl, kk, h1, h2⟩
    exact ⟨_, rfl, ⟨r, rfl, h1, h2⟩, below_on2 hv (Nat.le_refl _) kk⟩
  obtain ⟨r3, rfl, hr31, hr32⟩ := hv
  go_simp
  refine hK _ ?_
  clear hK K
  refine lexB_step (fun K hK => ⟨by kernel_rfl, ⟨_, rfl⟩, fun v hv => ?_, fun v hv => ?_⟩)
  · go_simp
    exact lUpon_b hv
  subst hv
  go_simp
  refine hK _ ?_
  clear hK K
  refine lexB_step (fun K hK => ⟨by kernel_rfl, ⟨_, rfl⟩, fun v hv => ?_, fun v hv => ?_⟩)
  · go_simp
    exact lUpon_b hv
  subst hv
  go_simp
  refine hK _ ?_
  clear hK K
  refine lexB_step (fun K hK => ⟨by kernel_rfl, ⟨_, rfl⟩, fun v hv => ?_, fun v hv => ?_⟩)
  · go_simp
    exact lUpon_b hv
  subst hv
  go_simp
  refine hK _ ?_
  clear hK K
  refine lexB_step (fun K hK => ⟨by kernel_rfl, ⟨_, rfl⟩, fun v hv => ?_, fun v hv => ?_⟩)
  · have cc := unhideR HC v hv
    go_simp
    exact lUpon_b hv
  subst hv
  go_simp
  refine hK _ ?_
  clear hK K
  refine lexB_step (fun K hK => ⟨by kernel_rfl, ⟨_, rfl⟩, fun v hv => ?_, fun v hv => ?_⟩)
  · go_simp
    exact lUpon_b hv
  subst hv
  go_simp
  refine hK _ ?_
  clear hK K
  refine lexB_step (fun K hK => ⟨by kernel_rfl, ⟨_, rfl⟩, fun v hv => ?_, fun v hv => ?_⟩)
  · go_simp
    exact lUpon_b hv
  subst hv
  go_simp
  refine hK _ ?_
  clear hK K
  refine lexB_step (fun K hK => ⟨by kernel_rfl, ⟨_, rfl⟩, fun v hv => ?_, fun v hv => ?_⟩)
  · have cc := unhideR H4 v hv
    go_simp
    exact lUpon_b hv
  subst hv
  go_simp
  refine hK _ ?_
  clear hK K
  refine lexB_step (fun K hK => ⟨by kernel_rfl, sdV_some _, fun v hv => ?_, fun v hv => ?_⟩)
  · go_simp
    refine (hsd4 v hv).mono ?_
    rintro e w9 ⟨r, rfl, kk, h1, h2⟩
    exact ⟨_, rfl, ⟨r, rfl, h1, h2⟩, below_on2 hv (Nat.le_refl _) kk⟩
  obtain ⟨r4, rfl, hr41, hr42⟩ := hv
  go_simp
  refine hK _ ?_
  clear hK K
  refine lexB_step (fun K hK => ⟨by kernel_rfl, sdV_some _, fun v hv => ?_, fun v hv => ?_⟩)
  · go_simp
    exact ⟨hv, _, rfl, hr31, hr32⟩
  clear hr31 hr32
  obtain ⟨W, rfl, hW1, hW2⟩ := hv
  go_simp
  refine hK _ ?_
  clear hK K
  refine lexB_step (fun K hK => ⟨by kernel_rfl, sdV_some _, fun v hv => ?_, fun v hv => ?_⟩)
  · go_simp
    exact ⟨hv, _, rfl, hr41, hr42⟩
  clear hr41 hr42
  obtain ⟨H, rfl, hH1, hH2⟩ := hv
  go_simp
  refine hK _ ?_
  clear hK K
  refine lexL_end ?_
  intro w2 hw2
  have K2 := hideR hw2
  clear hw2 hsd3 hsd4
  have HSx := hideR (six_side (s := s) hW1 (by rw [unhideR HV3]; exact hW2) hH1 (by rw [unhideR HV4]; exact hH2))
  clear hW2 hH2
  have HNo : HeldR (∀ v, Below w2.heap.size w2 v → ¬ sixOk s → EhPost B g b co s w (.returned (.bool false)) v) := hideR (fun v hv q => eh_no (endE_no q) ((below_go (unhideR HB) (below_go (unhideR K2) hv)).mono hBw))
  by_cases z1 : W = 0
  · have tz : ((W : Int) == 0) = true := by simp [z1]
    have HX := hideR (fun v hv => unhideR HNo v hv (fun q => by have := (unhideR HSx).2 q; have := q.1; omega))
    clear z1 HSx HNo
    go_wp2_with fail
    refine wp_region_lets [(· = .int .i64 (W : Nat)),
      (· = .bool true),
      (· = .bool true),
      (· = undef),
      (· = undef),
      (· = .bool true),
      (· = .bool true),
      (· = undef),
      (· = undef),
      (· = undef),
      (· = undef),
      (· = undef),
      (· = undef),
      (· = undef),
      (· = undef),
      (· = undef),
      (· = undef),
      (· = .bool true)] (by kernel_rfl) (by kernel_rfl) ?_
    refine lexL_step (fun K hK => ⟨by kernel_rfl, ⟨_, rfl⟩, fun n => ?_, fun v hv => ?_⟩)
    · go_simp
      exact lUpon_one
    subst hv
    go_simp
    refine hK _ ?_
    clear hK K
    refine lexL_step (fun K hK => ⟨by kernel_rfl, ⟨_, rfl⟩, fun n => ?_, fun v hv => ?_⟩)
    · go_simp
      exact lUpon_one
    subst hv
    go_simp
    refine hK _ ?_
    clear hK K
    refine lexL_step (fun K hK => ⟨by kernel_rfl, ⟨_, rfl⟩, fun n => ?_, fun v hv => ?_⟩)
    · go_simp
      exact lUpon_one
    subst hv
    go_simp
    refine hK _ ?_
    clear hK K
    refine lexL_skip (fun K hK => ⟨by kernel_rfl, ?_⟩)
    go_simp
    refine hK _ ?_
    clear hK K
    refine lexL_skip (fun K hK => ⟨by kernel_rfl, ?_⟩)
    go_simp
    refine hK _ ?_
    clear hK K
    refine lexL_step (fun K hK => ⟨by kernel_rfl, ⟨_, rfl⟩, fun n => ?_, fun v hv => ?_⟩)
    · go_simp
      exact lUpon_one
    subst hv
    go_simp
    refine hK _ ?_
    clear hK K
    refine lexL_step (fun K hK => ⟨by kernel_rfl, ⟨_, rfl⟩, fun n => ?_, fun v hv => ?_⟩)
    · go_simp
      exact lUpon_one
    subst hv
    go_simp
    refine hK _ ?_
    clear hK K
    refine lexL_skip (fun K hK => ⟨by kernel_rfl, ?_⟩)
    go_simp
    refine hK _ ?_
    clear hK K
    refine lexL_skip (fun K hK => ⟨by kernel_rfl, ?_⟩)
    go_simp
    refine hK _ ?_
    clear hK K
    refine lexL_skip (fun K hK => ⟨by kernel_rfl, ?_⟩)
    go_simp
    refine hK _ ?_
    clear hK K
    refine lexL_skip (fun K hK => ⟨by kernel_rfl, ?_⟩)
    go_simp
    refine hK _ ?_
    clear hK K
    refine lexL_skip (fun K hK => ⟨by kernel_rfl, ?_⟩)
    go_simp
    refine hK _ ?_
    clear hK K
    refine lexL_skip (fun K hK => ⟨by kernel_rfl, ?_⟩)
    go_simp
    refine hK _ ?_
    clear hK K
    refine lexL_skip (fun K hK => ⟨by kernel_rfl, ?_⟩)
    go_simp
    refine hK _ ?_
    clear hK K
    refine lexL_skip (fun K hK => ⟨by kernel_rfl, ?_⟩)
    go_simp
    refine hK _ ?_
    clear hK K
    refine lexL_skip (fun K hK => ⟨by kernel_rfl, ?_⟩)
    go_simp
    refine hK _ ?_
    clear hK K
    refine lexL_skip (fun K hK => ⟨by kernel_rfl, ?_⟩)
    go_simp
    refine hK _ ?_
    clear hK K
    refine lexL_step (fun K hK => ⟨by kernel_rfl, ⟨_, rfl⟩, fun n => ?_, fun v hv => ?_⟩)
    · go_simp
      exact lUpon_one
    subst hv
    go_simp
    refine hK _ ?_
    clear hK K
    refine lexL_end ?_
    intro n9
    have HX2 := hideR (unhideR HX _ (drawn_below _ n9))
    go_wp2
    go_ret
    exact unhideR HX2
  have tz1 : ((W : Int) == 0) = false := by simp [z1]
  by_cases z2 : H = 0
  · have tz : ((H : Int) == 0) = true := by simp [z2]
    have HX := hideR (fun v hv => unhideR HNo v hv (fun q => by have := (unhideR HSx).2 q; have := q.2.2.1; omega))
    clear z1 z2 HSx HNo
    go_wp2_with fail
    refine wp_region_lets [(· = .int .i64 (W : Nat)),
      (· = .bool false),
      (· = .bool false),
      (· = .int .i64 (H : Nat)),
      (· = .bool true),
      (· = .bool true),
      (· = .bool true),
      (· = undef),
      (· = undef),
      (· = undef),
      (· = undef),
      (· = undef),
      (· = undef),
      (· = undef),
      (· = undef),
      (· = undef),
      (· = undef),
      (· = .bool true)] (by kernel_rfl) (by kernel_rfl) ?_
    refine lexL_step (fun K hK => ⟨by kernel_rfl, ⟨_, rfl⟩, fun n => ?_, fun v hv => ?_⟩)
    · go_simp
      exact lUpon_one
    subst hv
    go_simp
    refine hK _ ?_
    clear hK K
    refine lexL_step (fun K hK => ⟨by kernel_rfl, ⟨_, rfl⟩, fun n => ?_, fun v hv => ?_⟩)
    · go_simp
      exact lUpon_one
    subst hv
    go_simp
    refine hK _ ?_
    clear hK K
    refine lexL_step (fun K hK => ⟨by kernel_rfl, ⟨_, rfl⟩, fun n => ?_, fun v hv => ?_⟩)
    · go_simp
      exact lUpon_one
    subst hv
    go_simp
    refine hK _ ?_
    clear hK K
    refine lexL_step (fun K hK => ⟨by kernel_rfl, ⟨_, rfl⟩, fun n => ?_, fun v hv => ?_⟩)
    · go_simp
      exact lUpon_one
    subst hv
    go_simp
    refine hK _ ?_
    clear hK K
    refine lexL_step (fun K hK => ⟨by kernel_rfl, ⟨_, rfl⟩, fun n => ?_, fun v hv => ?_⟩)
    · go_simp
      exact lUpon_one
    subst hv
    go_simp
    refine hK _ ?_
    clear hK K
    refine lexL_step (fun K hK => ⟨by kernel_rfl, ⟨_, rfl⟩, fun n => ?_, fun v hv => ?_⟩)
    · go_simp
      exact lUpon_one
    subst hv
    go_simp
    refine hK _ ?_
    clear hK K
    refine lexL_step (fun K hK => ⟨by kernel_rfl, ⟨_, rfl⟩, fun n => ?_, fun v hv => ?_⟩)
    · go_simp
      exact lUpon_one
    subst hv
    go_simp
    refine hK _ ?_
    clear hK K
    refine lexL_skip (fun K hK => ⟨by kernel_rfl, ?_⟩)
    go_simp
    refine hK _ ?_
    clear hK K
    refine lexL_skip (fun K hK => ⟨by kernel_rfl, ?_⟩)
    go_simp
    refine hK _ ?_
    clear hK K
    refine lexL_skip (fun K hK => ⟨by kernel_rfl, ?_⟩)
    go_simp
    refine hK _ ?_
    clear hK K
    refine lexL_skip (fun K hK => ⟨by kernel_rfl, ?_⟩)
    go_simp
    refine hK _ ?_
    clear hK K
    refine lexL_skip (fun K hK => ⟨by kernel_rfl, ?_⟩)
    go_simp
    refine hK _ ?_
    clear hK K
    refine lexL_skip (fun K hK => ⟨by kernel_rfl, ?_⟩)
    go_simp
    refine hK _ ?_
    clear hK K
    refine lexL_skip (fun K hK => ⟨by kernel_rfl, ?_⟩)
    go_simp
    refine hK _ ?_
    clear hK K
    refine lexL_skip (fun K hK => ⟨by kernel_rfl, ?_⟩)
    go_simp
    refine hK _ ?_
    clear hK K
    refine lexL_skip (fun K hK => ⟨by kernel_rfl, ?_⟩)
    go_simp
    refine hK _ ?_
    clear hK K
    refine lexL_skip (fun K hK => ⟨by kernel_rfl, ?_⟩)
    go_simp
    refine hK _ ?_
    clear hK K
    refine lexL_step (fun K hK => ⟨by kernel_rfl, ⟨_, rfl⟩, fun n => ?_, fun v hv => ?_⟩)
    · go_simp
      exact lUpon_one
    subst hv
    go_simp
    refine hK _ ?_
    clear hK K
    refine lexL_end ?_
    intro n9
    have HX2 := hideR (unhideR HX _ (drawn_below _ n9))
    go_wp2
    go_ret
    exact unhideR HX2
  have tz2 : ((H : Int) == 0) = false := by simp [z2]
  have HFc := hideR (fun v (hv : Below w2.heap.size w2 v) => firstCards_any W H hW1 hH1 ((unhideR HS).below (below_go (unhideR HB) (below_go (unhideR K2) hv))))
  have HZ1 := hideR z1
  have HZ2 := hideR z2
  have HH1 := hideR hH1
  have c6 : (6 : Int) ≤ (cap : Int) := by omega
  go_wp2_with fail
  refine wp_region_made 2 #[true, true, true, true, true, true, true, true, true, true, true, true, true, true, true, false, false, false] [.lets (· = .int .i64 (W : Nat)),
    .lets (· = .bool false),
    .lets (· = .bool false),
    .lets (· = .int .i64 (H : Nat)),
    .lets (· = .bool false),
    .lets (· = .bool false),
    .lets (· = .bool false),
    .lets (· = .pointer (some ⟨g, 0, none⟩)),
    .lets (· = .pointer (some ⟨g, 0, none⟩)),
    .lets (· = .pointer (some ⟨g, 2881, none⟩)),
    .lets (· = .slice (some ⟨k, 0, none⟩) n cap),
    .lets (· = .slice (some ⟨k, 0, none⟩) 6 cap),
    .lets (· = .int .i64 (W : Nat)),
    .lets (· = .int .i64 (H : Nat)),
    .made Sl6 (CamF (sixS W H))] [14] [] (by kernel_rfl) (by kernel_rfl) rfl ?kinds (by kernel_rfl) (by kernel_rfl) (by kernel_rfl) ?_
  case kinds =>
    constructor
    · intro i h
      rcases i with _ | _ | _ | _ | _ | _ | _ | _ | _ | _ | _ | _ | _ | _ | _ | i <;> simp [Kx.isMade] at h ⊢
    · intro i h
      rcases i with _ | _ | _ | _ | _ | _ | _ | _ | _ | _ | _ | _ | _ | _ | _ | i <;> simp [Kx.isUse] at h
  refine lexX_step (fun K hK => ⟨by kernel_rfl, ⟨_, rfl⟩, fun v hv => ?_, fun v hv => ?_⟩)
  · go_simp
    exact mUpon_b
  subst hv
  go_simp
  refine hK _ ?_
  clear hK K
  refine lexX_step (fun K hK => ⟨by kernel_rfl, ⟨_, rfl⟩, fun v hv => ?_, fun v hv => ?_⟩)
  · go_simp
    exact mUpon_b
  subst hv
  go_simp
  refine hK _ ?_
  clear hK K
  refine lexX_step (fun K hK => ⟨by kernel_rfl, ⟨_, rfl⟩, fun v hv => ?_, fun v hv => ?_⟩)
  · go_simp
    exact mUpon_b
  subst hv
  go_simp
  refine hK _ ?_
  clear hK K
  refine lexX_step (fun K hK => ⟨by kernel_rfl, ⟨_, rfl⟩, fun v hv => ?_, fun v hv => ?_⟩)
  · go_simp
    exact mUpon_b
  subst hv
  go_simp
  refine hK _ ?_
  clear hK K
  refine lexX_step (fun K hK => ⟨by kernel_rfl, ⟨_, rfl⟩, fun v hv => ?_, fun v hv => ?_⟩)
  · go_simp
    exact mUpon_b
  subst hv
  go_simp
  refine hK _ ?_
  clear hK K
  refine lexX_step (fun K hK => ⟨by kernel_rfl, ⟨_, rfl⟩, fun v hv => ?_, fun v hv => ?_⟩)
  · go_simp
    exact mUpon_b
  subst hv
  go_simp
  refine hK _ ?_
  clear hK K
  refine lexX_step (fun K hK => ⟨by kernel_rfl, ⟨_, rfl⟩, fun v hv => ?_, fun v hv => ?_⟩)
  · go_simp
    exact mUpon_b
  subst hv
  go_simp
  refine hK _ ?_
  clear hK K
  refine lexX_step (fun K hK => ⟨by kernel_rfl, ⟨_, rfl⟩, fun v hv => ?_, fun v hv => ?_⟩)
  · go_simp
    exact mUpon_b
  subst hv
  go_simp
  refine hK _ ?_
  clear hK K
  refine lexX_step (fun K hK => ⟨by kernel_rfl, ⟨_, rfl⟩, fun v hv => ?_, fun v hv => ?_⟩)
  · go_simp
    exact mUpon_b
  subst hv
  go_simp
  refine hK _ ?_
  clear hK K
  refine lexX_step (fun K hK => ⟨by kernel_rfl, ⟨_, rfl⟩, fun v hv => ?_, fun v hv => ?_⟩)
  · go_simp
    exact mUpon_b
  subst hv
  go_simp
  refine hK _ ?_
  clear hK K
  refine lexX_step (fun K hK => ⟨by kernel_rfl, ⟨_, rfl⟩, fun v hv => ?_, fun v hv => ?_⟩)
  · have cc := unhideR HC v (below_go (unhideR K2) hv)
    go_simp
    exact mUpon_b
  subst hv
  go_simp
  refine hK _ ?_
  clear hK K
  refine lexX_step (fun K hK => ⟨by kernel_rfl, ⟨_, rfl⟩, fun v hv => ?_, fun v hv => ?_⟩)
  · go_simp
    exact mUpon_b
  subst hv
  go_simp
  refine hK _ ?_
  clear hK K
  refine lexX_step (fun K hK => ⟨by kernel_rfl, ⟨_, rfl⟩, fun v hv => ?_, fun v hv => ?_⟩)
  · go_simp
    exact mUpon_b
  subst hv
  go_simp
  refine hK _ ?_
  clear hK K
  refine lexX_step (fun K hK => ⟨by kernel_rfl, ⟨_, rfl⟩, fun v hv => ?_, fun v hv => ?_⟩)
  · go_simp
    exact mUpon_b
  subst hv
  go_simp
  refine hK _ ?_
  clear hK K
  refine lexX_made ⟨by kernel_rfl, ⟨_, 0, rfl⟩, camF_stb _, fun v hv => ?_, ?_⟩
  · go_simp
    refine (unhideR HFc v hv).mono ?_
    rintro e w9 ⟨u9, rfl, hc9, k9, _⟩
    exact ⟨_, rfl, ⟨⟨u9, rfl⟩, fun _ hq => by cases hq; exact hc9⟩, k9⟩
  rintro _ ⟨u9, rfl⟩ K hK
  go_simp
  refine hK _ ?_
  clear hK K
  refine lexX_end (fun v5 hv => ?_)
  have HC5 := hideR (hv.fact.2 _ rfl)
  have HK5 := hideR hv.low
  have heq := equal_any (c1 := cap) (c2 := 6) (m := 6) (take_came (k := 6) ((unhideR HCam).below (below_go (unhideR HB) (below_go (unhideR K2) (unhideR HK5))))) (unhideR HC5) (by rw [List.length_take, unhideR HLn]; omega) rfl (by decide)
  clear hv
  obtain ⟨q, hq⟩ : ∃ q, decide (List.map CrdS.crd (List.take 6 LS) = List.map CrdS.crd (sixS W H)) = q := ⟨_, rfl⟩
  rw [hq] at heq
  have HQ := hideR hq
  clear hq
  refine wpAny_step (i := 15) (by kernel_rfl) rfl (by kernel_rfl) (fun K hK => ?_)
  unfold Oper.wp
  go_simp
  refine heq.mono ?_
  rintro e w6 ⟨rfl, k6⟩
  clear heq
  refine hK _ _ ?_
  clear hK K
  refine wpAny_step (i := 16) (by kernel_rfl) rfl (by kernel_rfl) (fun K hK => ?_)
  unfold Oper.wp
  go_simp
  refine hK _ _ ?_
  clear hK K
  refine wpAny_step (i := 17) (by kernel_rfl) rfl (by kernel_rfl) (fun K hK => ?_)
  unfold Oper.wp
  go_simp
  refine hK _ _ ?_
  clear hK K
  refine wpAny_end (by kernel_rfl) ?_
  have HB6 := hideR (below_go (unhideR HB) (below_go (unhideR K2) (below_go (unhideR HK5) k6)))
  have HNo6 := hideR (fun q => unhideR HNo w6 (below_go (unhideR HK5) k6) q)
  clear k6 HNo
  cases q
  case false =>
    have HX := hideR (unhideR HNo6 (fun q => by
      have e := (unhideR HSx).2 q
      have hd := q.2.2.2.2
      rw [← e.1, ← e.2] at hd
      have := (six_same_crd (unhideR HR).crd).2 hd
      rw [unhideR HQ] at this
      cases this))
    clear HNo6
    go_wp2
    go_ret
    exact unhideR HX
  have HYes := hideR ((unhideR HSx).1 (by omega) (by omega) ((six_same_crd (unhideR HR).crd).1 (unhideR HQ)))
  clear HNo6 HSx
  have HR6 := hideR ((unhideR HR).below (unhideR HB6))
  have b2 := (unhideR HR6).rd.tail 2 _ rfl
  have f2 := (unhideR HR6).rd.frozen 2882
  simp only [Nat.reduceAdd] at b2
  have hWH : W * H ≤ 65536 := Nat.mul_le_mul hW1 (unhideR HH1)
  have hsz7 : B ≤ (w6.setCell ⟨g, 2882, none⟩ (.bool true)).heap.size := by
    have := Nat.le_trans hBw (unhideR HB6).size
    simpa [World.setCell] using this
  obtain ⟨N, hN⟩ : ∃ N, W * H = N := ⟨_, rfl⟩
  have hmul : IntKind.i64.wrap ((W : Int) * (H : Int)) = (N : Int) := by
    have hi : ((W * H : Nat) : Int) ≤ 65536 := by omega
    have hi0 : (0 : Int) ≤ ((W * H : Nat) : Int) := Int.natCast_nonneg _
    rw [← hN]
    rw [Int.natCast_mul] at hi hi0 ⊢
    exact iwrap (by omega) (by omega)
  rw [hN] at hWH
  obtain ⟨w8, hmk, hoz, k8⟩ := make_zeroR (w := w6.setCell ⟨g, 2882, none⟩ (.bool true)) B hsz7 hWH
  have HO8 := hideR hoz
  have HR8 : HeldR (Rd w8 g b (rdT co (.slice (some ⟨k, 0, none⟩) n cap) true s.W s.H pv s.next)) := hideR (((unhideR HR6).rd.set 2 (.bool true)).below k8)
  have HC8 : HeldR (COwn w8 B (.slice (some ⟨k, 0, none⟩) n cap) LS) := hideR (own_below2 (own_other (unhideR HR6).cards (unhideR HR6).neC) k8)
  have HB8 : HeldR (Below B w w8) := hideR (((unhideR HR6).low ((unhideR HB6).mono hBw)).trans (k8.mono hsz7))
  generalize (w6.setCell ⟨g, 2882, none⟩ (.bool true)).heap.size = kz at *
  have q3 := (unhideR HR8).tail 3 _ rfl
  have q4 := (unhideR HR8).tail 4 _ rfl
  have q5 := (unhideR HR8).tail 5 _ rfl
  have f3 := (unhideR HR8).frozen 2883
  have f4 := (unhideR HR8).frozen 2884
  have f5 := (unhideR HR8).frozen 2885
  simp only [Nat.reduceAdd] at q3 q4 q5
  have HX : HeldR (EhPost B g b co s w (.returned (.bool true)) (((w8.setCell ⟨g, 2883, none⟩ (.int .i64 (W : Nat))).setCell ⟨g, 2884, none⟩ (.int .i64 (H : Nat))).setCell ⟨g, 2885, none⟩ (.slice (some ⟨kz, 0, none⟩) N N))) := by
    refine hideR ?_
    obtain ⟨y1, y2, y3⟩ := unhideR HYes
    have hgB := (unhideR HR6).hB
    have hl := unhideR HLe
    refine ⟨true, rfl, (((unhideR HB8).setCell (by simpa using hgB) _).setCell (by simpa using hgB) _).setCell (by simpa using hgB) _, fun _ => ⟨_, endE_yes (by omega) (unhideR HE1) y1, LS, (.slice (some ⟨k, 0, none⟩) n cap), (.slice (some ⟨kz, 0, none⟩) N N), ⟨?_, hgB, ?_, (unhideR HR6).crd, ?_⟩⟩, fun q => (by cases q)⟩
    · have e9 := (unhideR HR8).ends (W' := W) (H' := H) (pv' := .slice (some ⟨kz, 0, none⟩) N N)
      rw [(unhideR HOk).fresh (unhideR HHd)] at e9
      rw [y2, y3]
      exact e9
    · have ne := (unhideR HR8).ne (unhideR HC8) (by decide)
      exact own_other (own_other (own_other (unhideR HC8) ne) ne) ne
    · have ne := (unhideR HR8).ne (unhideR HO8) (by decide)
      have hz : OwnZR B N (.slice (some ⟨kz, 0, none⟩) N N) (((w8.setCell ⟨g, 2883, none⟩ (.int .i64 (W : Nat))).setCell ⟨g, 2884, none⟩ (.int .i64 (H : Nat))).setCell ⟨g, 2885, none⟩ (.slice (some ⟨kz, 0, none⟩) N N)) := own_other (own_other (own_other (unhideR HO8) ne) ne) ne
      unfold NOwn
      rw [y2, y3, hN]
      show World.ownsRow _ _ _ _ _ (List.replicate N (0 : Int)).length ((List.replicate N (0 : Int)).map _)
      rw [List.length_replicate]
      exact hz
  clear hoz k8 hN
  go_wp2
  go_ret
  exact unhideR HX
end Go.Proofs.YtncbmkflilcdgaiGreatDoor
