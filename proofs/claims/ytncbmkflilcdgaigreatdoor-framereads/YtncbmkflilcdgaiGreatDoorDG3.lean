/-
  The program's cards: which are wrong (whole).
-/
import Derived.Test.YtncbmkflilcdgaiGreatDoorDG2
import Derived.Test.YtncbmkflilcdgaiGreatDoorLooseA
namespace Go.Proofs.YtncbmkflilcdgaiGreatDoor
open Go Go.RowKit

def keptB (nm : ByteArray) : Bool := (nm.toList == (⟨#[69, 78, 68]⟩ : ByteArray).toList) || hasN (sixS 0 0) nm
theorem kept_own (nm : ByteArray) : keptB nm = !ownNames.all (fun o => o != nm.data.toList) := by
  unfold keptB hasN sixS ownNames
  simp only [List.any_cons, List.any_nil, List.all_cons, List.all_nil, Bool.and_true, Bool.or_false, ByteArray.toList_eq]
  generalize nm.data.toList = l
  have sw : ∀ x y : List UInt8, (x == y) = (y == x) := fun x y => by
    by_cases e : x = y
    · subst e; rfl
    · rw [beq_eq_false_iff_ne.2 e, beq_eq_false_iff_ne.2 (fun k => e k.symm)]
  simp only [bne, Bool.not_and, Bool.not_not]
  rw [sw l _]
  generalize ([69, 78, 68] == l) = x7
  generalize ([83, 73, 77, 80, 76, 69] == l) = x1
  generalize ([66, 73, 84, 80, 73, 88] == l) = x2
  generalize ([78, 65, 88, 73, 83] == l) = x3
  generalize ([78, 65, 88, 73, 83, 49] == l) = x4
  generalize ([78, 65, 88, 73, 83, 50] == l) = x5
  generalize ([66, 90, 69, 82, 79] == l) = x6
  cases x1 <;> cases x2 <;> cases x3 <;> cases x4 <;> cases x5 <;> cases x6 <;> cases x7 <;> rfl
set_option maxRecDepth 100000 in
set_option maxHeartbeats 800000 in
theorem isKept_any {a : Nat → Addr} {w : World} (nm : ByteArray) (h : SentsF w a) : Calls Tryz.prog 35 #[.string nm] w fun e w' => e = .returned (.bool (keptB nm)) ∧ Below w.heap.size w w' := by
  have hfc := firstCards_any 0 0 (by decide) (by decide) h
  clear h
  unfold keptB
  have e0 : (⟨#[69, 78, 68]⟩ : ByteArray).toList = [69, 78, 68] := by rw [ByteArray.toList_eq]
  rw [e0]
  clear e0
  by_cases hq : nm.toList = [69, 78, 68]
  case neg =>
    have hq0 : (nm.toList == [69, 78, 68]) = false := beq_eq_false_iff_ne.2 hq
    rw [hq0, Bool.false_or]
    obtain ⟨q2, hq2⟩ : ∃ q2, hasN (sixS 0 0) nm = q2 := ⟨_, rfl⟩
    rw [hq2]
    have HQ2 := hideR hq2
    clear hq2
    go_enter Tryz.func35, Tryz.ntmps35
    go_wp2_with fail
    refine hfc.mono ?_
    rintro e u ⟨g, rfl, hc, ku, _⟩
    have hn := named_any (cap := 6) nm hc (by decide)
    have HK := hideR ku
    clear hc ku hfc
    rw [show (sixS 0 0).length = 6 from rfl] at hn
    rw [unhideR HQ2] at hn
    go_wp2_with fail
    refine hn.mono ?_
    rintro e u2 ⟨rfl, ku2⟩
    replace HK := hideR (below_go (unhideR HK) ku2)
    clear ku2 hn
    go_wp2
    go_ret
    exact ⟨rfl, unhideR HK⟩
  case pos =>
    rw [hq, show (([69, 78, 68] : List UInt8) == [69, 78, 68]) = true from rfl, Bool.true_or]
    clear hfc
    go_enter Tryz.func35, Tryz.ntmps35
    go_wp2
    go_ret
    exact ⟨rfl, Below.refl _ _⟩
theorem take_came {w : World} {ad : Option Addr} {L : List CrdS} {k : Nat} (h : CCame w ad L) : CCame w ad (L.take k) := ⟨fun j hj => by
  rw [List.length_take] at hj
  have e : (L.take k).getD j crdS0 = L.getD j crdS0 := by simp only [List.getD, List.getElem?_take, if_pos (show j < k by omega)]
  rw [e]
  exact h.at_ j (by omega)⟩
theorem name_parts (L : List CrdS) (k : Nat) (nm : ByteArray) : nameOk (L.map CrdS.crd) k nm.data.toList = (nameB nm.data.toList && !keptB nm && !hasN (L.take k) nm) := by
  have e : ((L.map CrdS.crd).take k).all (fun c => c.name != nm.data.toList) = !hasN (L.take k) nm := by
    unfold hasN
    rw [List.not_any_eq_all_not, ← List.map_take, List.all_map]
    congr 1
    funext c
    simp only [Function.comp, CrdS.crd, ByteArray.toList_eq]
    rfl
  unfold nameOk
  rw [e, kept_own, Bool.not_not]
  rfl
def WcPost (a : Nat → Addr) (E : Int) (w : World) (e : Ending) (w' : World) : Prop := ∃ er, e = .returned er ∧ ErrIs a E er ∧ Below w.heap.size w w'
set_option maxRecDepth 100000 in
set_option maxHeartbeats 3200000 in
theorem wrongCards_any {a : Nat → Addr} {w : World} {ad : Option Addr} {cap : Nat} {L : List CrdS} (hS : SentsF w a) (hr : CCame w ad L) (hl : L.length ≤ 1000000) (hcap : L.length ≤ cap) :
    Calls Tryz.prog 17 #[.slice ad L.length cap] w (WcPost a (cardsE (L.map CrdS.crd)) w) := by
  have HS := hideR hS
  have HR := hideR hr
  by_cases h100 : 100 < L.length
  · have HE : HeldR (cardsE (L.map CrdS.crd) = 2) := hideR (by unfold cardsE; rw [if_pos (by rw [List.length_map]; exact h100)])
    have g1 := hS.s.g1
    clear hS hr
    go_enter Tryz.func17, Tryz.ntmps17
    go_wp2
    go_ret
    exact ⟨_, rfl, by rw [unhideR HE]; exact err_at 1 (by decide), Below.refl _ _⟩
  have HBad : HeldR (∀ i, i < L.length → nameOk (L.map CrdS.crd) i (L.getD i crdS0).name.data.toList = false → cardsE (L.map CrdS.crd) = 10) := hideR (fun i hi q => names_bad h100 hi q)
  have HBad2 : HeldR ((∀ j, j < L.length → nameOk (L.map CrdS.crd) j (L.getD j crdS0).name.data.toList = true) → ∀ i, i < L.length → valOk (L.getD i crdS0).value.data.toList = false → cardsE (L.map CrdS.crd) = 1) := hideR (fun h i hi q => vals_bad h100 h hi q)
  have HFine : HeldR ((∀ j, j < L.length → nameOk (L.map CrdS.crd) j (L.getD j crdS0).name.data.toList = true) → (∀ j, j < L.length → valOk (L.getD j crdS0).value.data.toList = true) → cardsE (L.map CrdS.crd) = 0) := hideR (fun h1 h2 => cards_fine h100 h1 h2)
  generalize hE : cardsE (L.map CrdS.crd) = E at *
  clear hE hS hr
  go_enter Tryz.func17, Tryz.ntmps17
  go_wp2
  go_loopw [13] (fun kv wl => ∃ k : Nat, k ≤ L.length ∧ kv = .int .i64 (k : Nat) ∧ HeldR (∀ j, j < k → nameOk (L.map CrdS.crd) j (L.getD j crdS0).name.data.toList = true) ∧ HeldR (Below w.heap.size w wl)) (fun kv _ => L.length + 1 - (intOf kv).toNat)
  case atStart => exact ⟨0, by omega, rfl, hideR (fun j hj => absurd hj (Nat.not_lt_zero j)), hideR (Below.refl _ _)⟩
  case round =>
    obtain ⟨k, hk, rfl, HK, HW⟩ := hrel
    by_cases hlt : k < L.length
    · obtain ⟨b1, o1, rfl, _, x1, x2, z1, _⟩ := ((unhideR HR).below (unhideR HW)).at_ k hlt
      have HNm := hideR (name_parts L k (L.getD k crdS0).name)
      have HB1 := hideR (unhideR HBad k hlt)
      generalize hn0 : (L.getD k crdS0).name = n at x1 z1 HNm HB1
      have HN0 := hideR hn0
      generalize (L.getD k crdS0).value = v1 at x2
      clear hn0
      have hb2 := below_a wr (.cells #[.string n, .string v1] 57)
      have HG := hideR (alloc_last wr (.cells #[.string n, .string v1] 57))
      replace HW := hideR (below_go (unhideR HW) hb2)
      have y0 : (wr.alloc (.cells #[.string n, .string v1] 57)).cell? ⟨wr.heap.size, 0, none⟩ = some (.string n) := (cells_at (unhideR HG) 0 (by simp)).1
      clear hb2
      have hn := fun u => isName_any n z1 u
      have hkc : k ≤ cap := by omega
      have hk2 := fun u (k : Below (wr.alloc (.cells #[.string n, .string v1] 57)).heap.size (wr.alloc (.cells #[.string n, .string v1] 57)) u) => isKept_any n ((unhideR HS).below (below_go (unhideR HW) k))
      have hd2 := fun u (k1 : Below (wr.alloc (.cells #[.string n, .string v1] 57)).heap.size (wr.alloc (.cells #[.string n, .string v1] 57)) u) => named_any (cap := cap) n (take_came (k := k) ((unhideR HR).below (below_go (unhideR HW) k1))) (by rw [List.length_take]; omega)
      have el : (L.take k).length = k := by rw [List.length_take]; omega
      simp only [el] at hd2
      clear el
      generalize nameB n.data.toList = nb at *
      generalize keptB n = kb at *
      generalize hasN (L.take k) n = db at *
      have g9 := fun u (k1 : Below (wr.alloc (.cells #[.string n, .string v1] 57)).heap.size (wr.alloc (.cells #[.string n, .string v1] 57)) u) => ((unhideR HS).below (below_go (unhideR HW) k1)).s.g9
      clear y0
      go_wp2_with fail
      generalize wr.alloc (.cells #[.string n, .string v1] 57) = V0 at *
      cases nb
      case false =>
        have HE10 := hideR (unhideR HB1 (by rw [unhideR HNm]; rfl))
        refine wp_region_letsB V0.heap.size [(· = .pointer (some ⟨wr.heap.size, 0, none⟩)), (· = .string n), (· = .bool false), (· = .bool true), (· = .bool true), (· = undef), (· = undef), (· = undef), (· = .bool true), (· = .bool true), (· = undef), (· = undef), (· = undef), (· = undef), (· = undef), (· = undef), (· = .bool true)] (by kernel_rfl) (by kernel_rfl) ?_
        refine lexB_step (fun K hK => ⟨by kernel_rfl, ⟨_, rfl⟩, fun v hv => ?_, fun v hv => ?_⟩)
        · go_simp
          exact lUpon_b hv
        subst hv
        go_simp
        refine hK _ ?_
        clear hK K
        refine lexB_step (fun K hK => ⟨by kernel_rfl, ⟨_, rfl⟩, fun v hv => ?_, fun v hv => ?_⟩)
        · have c : v.cell? ⟨wr.heap.size, 0, none⟩ = some (.string n) := (cells_at (keepB (unhideR HG) hv) 0 (by simp)).1
          go_simp
          exact lUpon_b hv
        subst hv
        go_simp
        refine hK _ ?_
        clear hK K
        refine lexB_step (fun K hK => ⟨by kernel_rfl, ⟨_, rfl⟩, fun v hv => ?_, fun v hv => ?_⟩)
        · go_simp
          refine (hn _).mono ?_
          rintro e w9 ⟨rfl, rfl⟩
          exact ⟨_, rfl, rfl, hv⟩
        subst hv
        go_simp
        refine hK _ ?_
        clear hK K
        refine lexB_step (fun K hK => ⟨by kernel_rfl, ⟨_, rfl⟩, fun v hv => ?_, fun v hv => ?_⟩)
        · go_simp
          exact lUpon_b hv
        subst hv
        go_simp
        refine hK _ ?_
        clear hK K
        refine lexB_step (fun K hK => ⟨by kernel_rfl, ⟨_, rfl⟩, fun v hv => ?_, fun v hv => ?_⟩)
        · go_simp
          exact lUpon_b hv
        subst hv
        go_simp
        refine hK _ ?_
        clear hK K
        refine lexL_skip (fun K hK => ⟨by kernel_rfl, ?_⟩)
        go_simp
        refine hK _ ?_
        clear hK K
        refine lexL_skip (fun K hK => ⟨by kernel_rfl, ?_⟩)
        go_simp
        refine hK _ ?_
        clear hK K
        refine lexL_skip (fun K hK => ⟨by kernel_rfl, ?_⟩)
        go_simp
        refine hK _ ?_
        clear hK K
        refine lexB_step (fun K hK => ⟨by kernel_rfl, ⟨_, rfl⟩, fun v hv => ?_, fun v hv => ?_⟩)
        · go_simp
          exact lUpon_b hv
        subst hv
        go_simp
        refine hK _ ?_
        clear hK K
        refine lexB_step (fun K hK => ⟨by kernel_rfl, ⟨_, rfl⟩, fun v hv => ?_, fun v hv => ?_⟩)
        · go_simp
          exact lUpon_b hv
        subst hv
        go_simp
        refine hK _ ?_
        clear hK K
        refine lexL_skip (fun K hK => ⟨by kernel_rfl, ?_⟩)
        go_simp
        refine hK _ ?_
        clear hK K
        refine lexL_skip (fun K hK => ⟨by kernel_rfl, ?_⟩)
        go_simp
        refine hK _ ?_
        clear hK K
        refine lexL_skip (fun K hK => ⟨by kernel_rfl, ?_⟩)
        go_simp
        refine hK _ ?_
        clear hK K
        refine lexL_skip (fun K hK => ⟨by kernel_rfl, ?_⟩)
        go_simp
        refine hK _ ?_
        clear hK K
        refine lexL_skip (fun K hK => ⟨by kernel_rfl, ?_⟩)
        go_simp
        refine hK _ ?_
        clear hK K
        refine lexL_skip (fun K hK => ⟨by kernel_rfl, ?_⟩)
        go_simp
        refine hK _ ?_
        clear hK K
        refine lexB_step (fun K hK => ⟨by kernel_rfl, ⟨_, rfl⟩, fun v hv => ?_, fun v hv => ?_⟩)
        · go_simp
          exact lUpon_b hv
        subst hv
        go_simp
        refine hK _ ?_
        clear hK K
        refine lexL_end ?_
        intro v9 hv9
        have g := g9 _ hv9
        replace HW := hideR (below_go (unhideR HW) hv9)
        clear g9 hn hk2 hd2 x1 x2 HB1 hv9
        go_wp2
        go_ret
        exact ⟨_, rfl, by rw [unhideR HE10]; exact err_at 9 (by decide), unhideR HW⟩
      cases kb
      case true =>
        have HE10 := hideR (unhideR HB1 (by rw [unhideR HNm]; rfl))
        refine wp_region_letsB V0.heap.size [(· = .pointer (some ⟨wr.heap.size, 0, none⟩)), (· = .string n), (· = .bool true), (· = .bool false), (· = .bool false), (· = .pointer (some ⟨wr.heap.size, 0, none⟩)), (· = .string n), (· = .bool true), (· = .bool true), (· = .bool true), (· = undef), (· = undef), (· = undef), (· = undef), (· = undef), (· = undef), (· = .bool true)] (by kernel_rfl) (by kernel_rfl) ?_
        refine lexB_step (fun K hK => ⟨by kernel_rfl, ⟨_, rfl⟩, fun v hv => ?_, fun v hv => ?_⟩)
        · go_simp
          exact lUpon_b hv
        subst hv
        go_simp
        refine hK _ ?_
        clear hK K
        refine lexB_step (fun K hK => ⟨by kernel_rfl, ⟨_, rfl⟩, fun v hv => ?_, fun v hv => ?_⟩)
        · have c : v.cell? ⟨wr.heap.size, 0, none⟩ = some (.string n) := (cells_at (keepB (unhideR HG) hv) 0 (by simp)).1
          go_simp
          exact lUpon_b hv
        subst hv
        go_simp
        refine hK _ ?_
        clear hK K
        refine lexB_step (fun K hK => ⟨by kernel_rfl, ⟨_, rfl⟩, fun v hv => ?_, fun v hv => ?_⟩)
        · go_simp
          refine (hn _).mono ?_
          rintro e w9 ⟨rfl, rfl⟩
          exact ⟨_, rfl, rfl, hv⟩
        subst hv
        go_simp
        refine hK _ ?_
        clear hK K
        refine lexB_step (fun K hK => ⟨by kernel_rfl, ⟨_, rfl⟩, fun v hv => ?_, fun v hv => ?_⟩)
        · go_simp
          exact lUpon_b hv
        subst hv
        go_simp
        refine hK _ ?_
        clear hK K
        refine lexB_step (fun K hK => ⟨by kernel_rfl, ⟨_, rfl⟩, fun v hv => ?_, fun v hv => ?_⟩)
        · go_simp
          exact lUpon_b hv
        subst hv
        go_simp
        refine hK _ ?_
        clear hK K
        refine lexB_step (fun K hK => ⟨by kernel_rfl, ⟨_, rfl⟩, fun v hv => ?_, fun v hv => ?_⟩)
        · go_simp
          exact lUpon_b hv
        subst hv
        go_simp
        refine hK _ ?_
        clear hK K
        refine lexB_step (fun K hK => ⟨by kernel_rfl, ⟨_, rfl⟩, fun v hv => ?_, fun v hv => ?_⟩)
        · have c : v.cell? ⟨wr.heap.size, 0, none⟩ = some (.string n) := (cells_at (keepB (unhideR HG) hv) 0 (by simp)).1
          go_simp
          exact lUpon_b hv
        subst hv
        go_simp
        refine hK _ ?_
        clear hK K
        refine lexB_step (fun K hK => ⟨by kernel_rfl, ⟨_, rfl⟩, fun v hv => ?_, fun v hv => ?_⟩)
        · go_simp
          refine (hk2 _ hv).mono ?_
          rintro e w9 ⟨rfl, k⟩
          exact ⟨_, rfl, rfl, below_on2 hv (Nat.le_refl _) k⟩
        subst hv
        go_simp
        refine hK _ ?_
        clear hK K
        refine lexB_step (fun K hK => ⟨by kernel_rfl, ⟨_, rfl⟩, fun v hv => ?_, fun v hv => ?_⟩)
        · go_simp
          exact lUpon_b hv
        subst hv
        go_simp
        refine hK _ ?_
        clear hK K
        refine lexB_step (fun K hK => ⟨by kernel_rfl, ⟨_, rfl⟩, fun v hv => ?_, fun v hv => ?_⟩)
        · go_simp
          exact lUpon_b hv
        subst hv
        go_simp
        refine hK _ ?_
        clear hK K
        refine lexL_skip (fun K hK => ⟨by kernel_rfl, ?_⟩)
        go_simp
        refine hK _ ?_
        clear hK K
        refine lexL_skip (fun K hK => ⟨by kernel_rfl, ?_⟩)
        go_simp
        refine hK _ ?_
        clear hK K
        refine lexL_skip (fun K hK => ⟨by kernel_rfl, ?_⟩)
        go_simp
        refine hK _ ?_
        clear hK K
        refine lexL_skip (fun K hK => ⟨by kernel_rfl, ?_⟩)
        go_simp
        refine hK _ ?_
        clear hK K
        refine lexL_skip (fun K hK => ⟨by kernel_rfl, ?_⟩)
        go_simp
        refine hK _ ?_
        clear hK K
        refine lexL_skip (fun K hK => ⟨by kernel_rfl, ?_⟩)
        go_simp
        refine hK _ ?_
        clear hK K
        refine lexB_step (fun K hK => ⟨by kernel_rfl, ⟨_, rfl⟩, fun v hv => ?_, fun v hv => ?_⟩)
        · go_simp
          exact lUpon_b hv
        subst hv
        go_simp
        refine hK _ ?_
        clear hK K
        refine lexL_end ?_
        intro v9 hv9
        have g := g9 _ hv9
        replace HW := hideR (below_go (unhideR HW) hv9)
        clear g9 hn hk2 hd2 x1 x2 HB1 hv9
        go_wp2
        go_ret
        exact ⟨_, rfl, by rw [unhideR HE10]; exact err_at 9 (by decide), unhideR HW⟩
      refine wp_region_letsB V0.heap.size [(· = .pointer (some ⟨wr.heap.size, 0, none⟩)), (· = .string n), (· = .bool true), (· = .bool false), (· = .bool false), (· = .pointer (some ⟨wr.heap.size, 0, none⟩)), (· = .string n), (· = .bool false), (· = .bool false), (· = .bool false), (· = .slice (some ⟨b1, o1, none⟩) L.length cap), (· = .int .i64 (k : Nat)), (· = .slice (some ⟨b1, o1, none⟩) k cap), (· = .pointer (some ⟨wr.heap.size, 0, none⟩)), (· = .string n), (· = .bool db), (· = .bool db)] (by kernel_rfl) (by kernel_rfl) ?_
      refine lexB_step (fun K hK => ⟨by kernel_rfl, ⟨_, rfl⟩, fun v hv => ?_, fun v hv => ?_⟩)
      · go_simp
        exact lUpon_b hv
      subst hv
      go_simp
      refine hK _ ?_
      clear hK K
      refine lexB_step (fun K hK => ⟨by kernel_rfl, ⟨_, rfl⟩, fun v hv => ?_, fun v hv => ?_⟩)
      · have c : v.cell? ⟨wr.heap.size, 0, none⟩ = some (.string n) := (cells_at (keepB (unhideR HG) hv) 0 (by simp)).1
        go_simp
        exact lUpon_b hv
      subst hv
      go_simp
      refine hK _ ?_
      clear hK K
      refine lexB_step (fun K hK => ⟨by kernel_rfl, ⟨_, rfl⟩, fun v hv => ?_, fun v hv => ?_⟩)
      · go_simp
        refine (hn _).mono ?_
        rintro e w9 ⟨rfl, rfl⟩
        exact ⟨_, rfl, rfl, hv⟩
      subst hv
      go_simp
      refine hK _ ?_
      clear hK K
      refine lexB_step (fun K hK => ⟨by kernel_rfl, ⟨_, rfl⟩, fun v hv => ?_, fun v hv => ?_⟩)
      · go_simp
        exact lUpon_b hv
      subst hv
      go_simp
      refine hK _ ?_
      clear hK K
      refine lexB_step (fun K hK => ⟨by kernel_rfl, ⟨_, rfl⟩, fun v hv => ?_, fun v hv => ?_⟩)
      · go_simp
        exact lUpon_b hv
      subst hv
      go_simp
      refine hK _ ?_
      clear hK K
      refine lexB_step (fun K hK => ⟨by kernel_rfl, ⟨_, rfl⟩, fun v hv => ?_, fun v hv => ?_⟩)
      · go_simp
        exact lUpon_b hv
      subst hv
      go_simp
      refine hK _ ?_
      clear hK K
      refine lexB_step (fun K hK => ⟨by kernel_rfl, ⟨_, rfl⟩, fun v hv => ?_, fun v hv => ?_⟩)
      · have c : v.cell? ⟨wr.heap.size, 0, none⟩ = some (.string n) := (cells_at (keepB (unhideR HG) hv) 0 (by simp)).1
        go_simp
        exact lUpon_b hv
      subst hv
      go_simp
      refine hK _ ?_
      clear hK K
      refine lexB_step (fun K hK => ⟨by kernel_rfl, ⟨_, rfl⟩, fun v hv => ?_, fun v hv => ?_⟩)
      · go_simp
        refine (hk2 _ hv).mono ?_
        rintro e w9 ⟨rfl, k⟩
        exact ⟨_, rfl, rfl, below_on2 hv (Nat.le_refl _) k⟩
      subst hv
      go_simp
      refine hK _ ?_
      clear hK K
      refine lexB_step (fun K hK => ⟨by kernel_rfl, ⟨_, rfl⟩, fun v hv => ?_, fun v hv => ?_⟩)
      · go_simp
        exact lUpon_b hv
      subst hv
      go_simp
      refine hK _ ?_
      clear hK K
      refine lexB_step (fun K hK => ⟨by kernel_rfl, ⟨_, rfl⟩, fun v hv => ?_, fun v hv => ?_⟩)
      · go_simp
        exact lUpon_b hv
      subst hv
      go_simp
      refine hK _ ?_
      clear hK K
      refine lexB_step (fun K hK => ⟨by kernel_rfl, ⟨_, rfl⟩, fun v hv => ?_, fun v hv => ?_⟩)
      · go_simp
        exact lUpon_b hv
      subst hv
      go_simp
      refine hK _ ?_
      clear hK K
      refine lexB_step (fun K hK => ⟨by kernel_rfl, ⟨_, rfl⟩, fun v hv => ?_, fun v hv => ?_⟩)
      · go_simp
        exact lUpon_b hv
      subst hv
      go_simp
      refine hK _ ?_
      clear hK K
      refine lexB_step (fun K hK => ⟨by kernel_rfl, ⟨_, rfl⟩, fun v hv => ?_, fun v hv => ?_⟩)
      · go_simp
        exact lUpon_b hv
      subst hv
      go_simp
      refine hK _ ?_
      clear hK K
      refine lexB_step (fun K hK => ⟨by kernel_rfl, ⟨_, rfl⟩, fun v hv => ?_, fun v hv => ?_⟩)
      · go_simp
        exact lUpon_b hv
      subst hv
      go_simp
      refine hK _ ?_
      clear hK K
      refine lexB_step (fun K hK => ⟨by kernel_rfl, ⟨_, rfl⟩, fun v hv => ?_, fun v hv => ?_⟩)
      · have c : v.cell? ⟨wr.heap.size, 0, none⟩ = some (.string n) := (cells_at (keepB (unhideR HG) hv) 0 (by simp)).1
        go_simp
        exact lUpon_b hv
      subst hv
      go_simp
      refine hK _ ?_
      clear hK K
      refine lexB_step (fun K hK => ⟨by kernel_rfl, ⟨_, rfl⟩, fun v hv => ?_, fun v hv => ?_⟩)
      · go_simp
        refine (hd2 _ hv).mono ?_
        rintro e w9 ⟨rfl, k⟩
        exact ⟨_, rfl, rfl, below_on2 hv (Nat.le_refl _) k⟩
      subst hv
      go_simp
      refine hK _ ?_
      clear hK K
      refine lexB_step (fun K hK => ⟨by kernel_rfl, ⟨_, rfl⟩, fun v hv => ?_, fun v hv => ?_⟩)
      · go_simp
        exact lUpon_b hv
      subst hv
      go_simp
      refine hK _ ?_
      clear hK K
      refine lexL_end ?_
      intro v9 hv9
      have g := g9 _ hv9
      replace HW := hideR (below_go (unhideR HW) hv9)
      clear g9 hn hk2 hd2 x1 x2 hv9
      cases db
      case true =>
        have HE10 := hideR (unhideR HB1 (by rw [unhideR HNm]; rfl))
        go_wp2
        go_ret
        exact ⟨_, rfl, by rw [unhideR HE10]; exact err_at 9 (by decide), unhideR HW⟩
      have HK2 : HeldR (∀ j, j < k + 1 → nameOk (L.map CrdS.crd) j (L.getD j crdS0).name.data.toList = true) := hideR (fun j hj => by
        by_cases ej : j = k
        · rw [ej, unhideR HN0, unhideR HNm]; rfl
        · exact (unhideR HK) j (by omega))
      clear HNm HB1 HN0 HK g
      go_wp2
      exact ⟨⟨k + 1, by omega, by go_num, HK2, HW⟩, by simp [intOf]; omega⟩
    · obtain rfl : k = L.length := by omega
      replace HBad2 := hideR (unhideR HBad2 (unhideR HK))
      replace HFine := hideR (unhideR HFine (unhideR HK))
      clear HBad HK
      go_wp2
      go_loopw [39] (fun kv wl => ∃ k : Nat, k ≤ L.length ∧ kv = .int .i64 (k : Nat) ∧ HeldR (∀ j, j < k → valOk (L.getD j crdS0).value.data.toList = true) ∧ HeldR (Below w.heap.size w wl)) (fun kv _ => L.length + 1 - (intOf kv).toNat)
      case atStart => exact ⟨0, by omega, rfl, hideR (fun j hj => absurd hj (Nat.not_lt_zero j)), HW⟩
      case round =>
        clear HW
        obtain ⟨k, hk, rfl, HK, HW⟩ := hrel
        by_cases hlt : k < L.length
        · obtain ⟨b1, o1, rfl, _, x1, x2, _, z1⟩ := ((unhideR HR).below (unhideR HW)).at_ k hlt
          have HB1 := hideR (unhideR HBad2 k hlt)
          generalize hn0 : (L.getD k crdS0).value = v1 at x2 z1 HB1
          have HN0 := hideR hn0
          generalize (L.getD k crdS0).name = n at x1
          clear hn0
          have hb2 := below_a wr (.cells #[.string n, .string v1] 57)
          have y0 : (wr.alloc (.cells #[.string n, .string v1] 57)).cell? ⟨wr.heap.size, 1, none⟩ = some (.string v1) := (cells_at (alloc_last wr (.cells #[.string n, .string v1] 57)) 1 (by simp)).1
          replace HW := hideR (below_go (unhideR HW) hb2)
          have hn := isValue_any v1 z1 (wr.alloc (.cells #[.string n, .string v1] 57))
          have g0 := ((unhideR HS).below (unhideR HW)).s.g0
          clear hb2
          obtain ⟨q, hq⟩ : ∃ q, valOk v1.data.toList = q := ⟨_, rfl⟩
          rw [hq] at hn
          have HQ := hideR hq
          clear hq
          go_wp2_with fail
          refine hn.mono ?_
          rintro e u ⟨rfl, rfl⟩
          clear hn
          cases q
          · have HE1 := hideR (unhideR HB1 (unhideR HQ))
            go_wp2
            go_ret
            exact ⟨_, rfl, by rw [unhideR HE1]; exact err_at 0 (by decide), unhideR HW⟩
          · have HK2 : HeldR (∀ j, j < k + 1 → valOk (L.getD j crdS0).value.data.toList = true) := hideR (fun j hj => by
              by_cases ej : j = k
              · rw [ej, unhideR HN0]; exact unhideR HQ
              · exact (unhideR HK) j (by omega))
            go_wp2
            exact ⟨⟨k + 1, by omega, by go_num, HK2, HW⟩, by simp [intOf]; omega⟩
        · obtain rfl : k = L.length := by omega
          have HE0 := hideR (unhideR HFine (unhideR HK))
          go_wp2
          go_ret
          exact ⟨_, rfl, by rw [unhideR HE0]; exact .inl ⟨rfl, rfl⟩, unhideR HW⟩
end Go.Proofs.YtncbmkflilcdgaiGreatDoor
