/-
  Instruments: their kinds; the law's kindOf, tool, by contract.
-/
import Derived.Test.YtoacdaemhcbbhaaDoorNsB
namespace Go.Proofs.YtoacdaemhcbbhaaDoor
open Go Go.RowKit

def bCam : ByteArray := ⟨#[99, 97, 109, 101, 114, 97]⟩
def bDome : ByteArray := ⟨#[100, 111, 109, 101]⟩
def bPtr : ByteArray := ⟨#[112, 111, 105, 110, 116, 101, 114]⟩
def bRoof : ByteArray := ⟨#[100, 111, 109, 101, 32, 112, 111, 105, 110, 116, 101, 114]⟩
set_option maxRecDepth 100000 in
set_option maxHeartbeats 1600000 in
theorem pkindSt_any (w : World) (wd hi : Int) (ad : Option Addr) (n c : Nat) :
    Calls Tryd.prog 106 #[valP wd hi ad n c] w fun e w' => e = .returned (.string bCam) ∧ Below w.heap.size w w' := by
  unfold valP
  have HB := hideR (below_a w (.cells #[.int .i64 wd, .int .i64 hi, .slice ad n c] 130))
  go_enter Tryd.func106, Tryd.ntmps106
  go_wp2
  go_ret
  exact ⟨rfl, unhideR HB⟩
set_option maxRecDepth 100000 in
set_option maxHeartbeats 1600000 in
theorem pkindHo_any (w : World) (ad : Option Addr) (n c : Nat) :
    Calls Tryd.prog 108 #[.agg #[.slice ad n c]] w fun e w' => e = .returned (.string bDome) ∧ Below w.heap.size w w' := by
  have HB := hideR (below_a w (.cells #[.slice ad n c] 133))
  go_enter Tryd.func108, Tryd.ntmps108
  go_wp2
  go_ret
  exact ⟨rfl, unhideR HB⟩
set_option maxRecDepth 100000 in
set_option maxHeartbeats 1600000 in
theorem pkindFi_any (w : World) (al : Int) :
    Calls Tryd.prog 102 #[.agg #[.int .i64 al]] w fun e w' => e = .returned (.string bPtr) ∧ Below w.heap.size w w' := by
  have HB := hideR (below_a w (.cells #[.int .i64 al] 93))
  go_enter Tryd.func102, Tryd.ntmps102
  go_wp2
  go_ret
  exact ⟨rfl, unhideR HB⟩
theorem methSt (V : Value) (w : World) : (method 329 130 V "Kind").run Tryd.prog w = .ok (106, V) w := by kernel_rfl
theorem methHo (V : Value) (w : World) : (method 329 133 V "Kind").run Tryd.prog w = .ok (108, V) w := by kernel_rfl
theorem methFi (V : Value) (w : World) : (method 329 93 V "Kind").run Tryd.prog w = .ok (102, V) w := by kernel_rfl
theorem methRo (V : Value) (w : World) : (method 329 135 V "Kind").run Tryd.prog w = .ok (111, V) w := by kernel_rfl
theorem methHoO (V : Value) (w : World) : (method 329 133 V "meridian/night.isOpen").run Tryd.prog w = .ok (109, V) w := by kernel_rfl
theorem methFiU (V : Value) (w : World) : (method 329 93 V "meridian/night.isUp").run Tryd.prog w = .ok (103, V) w := by kernel_rfl
theorem methStP (V : Value) (w : World) : (method 329 130 V "meridian/night.picture").run Tryd.prog w = .ok (107, V) w := by kernel_rfl
theorem methRoO (ad : Option Addr) (n c : Nat) (al : Int) (w : World) : (method 329 135 (.agg #[.slice ad n c, .int .i64 al]) "meridian/night.isOpen").run Tryd.prog w = .ok (109, .agg #[.slice ad n c]) w := by kernel_rfl
theorem methRoU (ad : Option Addr) (n c : Nat) (al : Int) (w : World) : (method 329 135 (.agg #[.slice ad n c, .int .i64 al]) "meridian/night.isUp").run Tryd.prog w = .ok (103, .agg #[.int .i64 al]) w := by kernel_rfl
set_option maxRecDepth 100000 in
set_option maxHeartbeats 1600000 in
theorem pkindRo_any (w : World) (ad : Option Addr) (n c : Nat) (al : Int) :
    Calls Tryd.prog 111 #[.agg #[.slice ad n c, .int .i64 al]] w fun e w' => e = .returned (.string bRoof) ∧ Below w.heap.size w w' := by
  have z := alloc_last w (.cells #[.slice ad n c, .int .i64 al] 135)
  have hb := below_a w (.cells #[.slice ad n c, .int .i64 al] 135)
  have HB := hideR hb
  have HY : HeldR (∀ v, Below (w.alloc (.cells #[.slice ad n c, .int .i64 al] 135)).heap.size (w.alloc (.cells #[.slice ad n c, .int .i64 al] 135)) v → v.cell? ⟨w.heap.size, 0, none⟩ = some (.slice ad n c) ∧ v.cell? ⟨w.heap.size, 1, none⟩ = some (.int .i64 al)) := hideR (fun v hv => ⟨(cells_at (keepB z hv) 0 (by simp)).1, (cells_at (keepB z hv) 1 (by simp)).1⟩)
  clear z hb
  go_enter Tryd.func111, Tryd.ntmps111
  go_upto_region 1 with fail
  generalize w.alloc (.cells #[.slice ad n c, .int .i64 al] 135) = u0 at *
  obtain ⟨K, hK0⟩ : ∃ K, w.heap.size = K := ⟨_, rfl⟩
  rw [hK0] at HY ⊢
  clear hK0
  refine wp_region_made 1 #[true, true, true, true, true, true, true, false, false] [.lets (· = .pointer (some ⟨K, 0, none⟩)),
    .lets (· = .agg #[.slice ad n c]),
    .lets (· = .string bDome),
    .lets (· = .string ⟨#[100, 111, 109, 101, 32]⟩),
    .lets (· = .pointer (some ⟨K, 1, none⟩)),
    .lets (· = .agg #[.int .i64 al]),
    .lets (· = .string bPtr)] [] [] (by kernel_rfl) (by kernel_rfl) rfl ?kinds (by kernel_rfl) (by kernel_rfl) (by kernel_rfl) ?_
  case kinds =>
    constructor
    · intro i h
      rcases i with _ | _ | _ | _ | _ | _ | _ | i <;> simp [Kx.isMade] at h
    · intro i h
      rcases i with _ | _ | _ | _ | _ | _ | _ | i <;> simp [Kx.isUse] at h
  refine lexX_step (fun K hK => ⟨by kernel_rfl, ⟨_, rfl⟩, fun v hv => ?_, fun v hv => ?_⟩)
  · go_simp
    exact mUpon_b
  subst hv
  go_simp
  refine hK _ ?_
  clear hK K
  refine lexX_step (fun K hK => ⟨by kernel_rfl, ⟨_, rfl⟩, fun v hv => ?_, fun v hv => ?_⟩)
  · have y9 := (unhideR HY v hv).1
    go_simp
    exact mUpon_b
  subst hv
  go_simp
  refine hK _ ?_
  clear hK K
  refine lexX_step (fun K hK => ⟨by kernel_rfl, ⟨_, rfl⟩, fun v hv => ?_, fun v hv => ?_⟩)
  · go_simp
    refine (pkindHo_any v ad n c).mono ?_
    rintro e w9 ⟨rfl, k⟩
    exact ⟨_, rfl, rfl, k⟩
  subst hv
  go_simp
  refine hK _ ?_
  clear hK K
  refine lexX_step (fun K hK => ⟨by kernel_rfl, ⟨_, rfl⟩, fun v hv => ?_, fun v hv => ?_⟩)
  · go_simp
    exact mUpon_b
  subst hv
  go_simp
  refine hK _ ?_
  clear hK K
  refine lexX_step (fun K hK => ⟨by kernel_rfl, ⟨_, rfl⟩, fun v hv => ?_, fun v hv => ?_⟩)
  · go_simp
    exact mUpon_b
  subst hv
  go_simp
  refine hK _ ?_
  clear hK K
  refine lexX_step (fun K hK => ⟨by kernel_rfl, ⟨_, rfl⟩, fun v hv => ?_, fun v hv => ?_⟩)
  · have y9 := (unhideR HY v hv).2
    go_simp
    exact mUpon_b
  subst hv
  go_simp
  refine hK _ ?_
  clear hK K
  refine lexX_step (fun K hK => ⟨by kernel_rfl, ⟨_, rfl⟩, fun v hv => ?_, fun v hv => ?_⟩)
  · go_simp
    refine (pkindFi_any v al).mono ?_
    rintro e w9 ⟨rfl, k⟩
    exact ⟨_, rfl, rfl, k⟩
  subst hv
  go_simp
  refine hK _ ?_
  clear hK K
  refine lexX_end (fun v5 hv => ?_)
  have HK := hideR ((unhideR HB).trans (hv.low.mono (unhideR HB).size))
  clear hv HY HB
  refine wpAny_step (i := 7) (by kernel_rfl) rfl (by kernel_rfl) (fun K hK => ?_)
  unfold Oper.wp
  go_simp
  refine hK _ _ ?_
  clear hK K
  refine wpAny_step (i := 8) (by kernel_rfl) rfl (by kernel_rfl) (fun K hK => ?_)
  unfold Oper.wp
  go_simp
  refine hK _ _ ?_
  clear hK K
  refine wpAny_end (by kernel_rfl) ?_
  go_wp2
  go_ret
  exact ⟨rfl, unhideR HK⟩
set_option maxRecDepth 100000 in
set_option maxHeartbeats 1600000 in
theorem kindSt_any (w : World) (wd hi : Int) (ad : Option Addr) (n c : Nat) :
    Calls Tryd.prog 16 #[.iface 130 (valP wd hi ad n c)] w fun e w' => e = .returned (.string bCam) ∧ Below w.heap.size w w' := by
  have h := pkindSt_any w wd hi ad n c
  generalize valP wd hi ad n c = V at *
  have hm := methSt
  go_enter Tryd.func16, Tryd.ntmps16
  go_wp2_with fail
  refine h.mono ?_
  rintro e u ⟨rfl, k⟩
  have HK := hideR k
  clear h k
  go_wp2
  go_ret
  exact ⟨rfl, unhideR HK⟩
set_option maxRecDepth 100000 in
set_option maxHeartbeats 1600000 in
theorem kindHo_any (w : World) (ad : Option Addr) (n c : Nat) :
    Calls Tryd.prog 16 #[.iface 133 (.agg #[.slice ad n c])] w fun e w' => e = .returned (.string bDome) ∧ Below w.heap.size w w' := by
  have h := pkindHo_any w ad n c
  generalize (Value.agg #[.slice ad n c]) = V at *
  have hm := methHo
  go_enter Tryd.func16, Tryd.ntmps16
  go_wp2_with fail
  refine h.mono ?_
  rintro e u ⟨rfl, k⟩
  have HK := hideR k
  clear h k
  go_wp2
  go_ret
  exact ⟨rfl, unhideR HK⟩
set_option maxRecDepth 100000 in
set_option maxHeartbeats 1600000 in
theorem kindFi_any (w : World) (al : Int) :
    Calls Tryd.prog 16 #[.iface 93 (.agg #[.int .i64 al])] w fun e w' => e = .returned (.string bPtr) ∧ Below w.heap.size w w' := by
  have h := pkindFi_any w al
  generalize (Value.agg #[.int .i64 al]) = V at *
  have hm := methFi
  go_enter Tryd.func16, Tryd.ntmps16
  go_wp2_with fail
  refine h.mono ?_
  rintro e u ⟨rfl, k⟩
  have HK := hideR k
  clear h k
  go_wp2
  go_ret
  exact ⟨rfl, unhideR HK⟩
set_option maxRecDepth 100000 in
set_option maxHeartbeats 1600000 in
theorem kindRo_any (w : World) (ad : Option Addr) (n c : Nat) (al : Int) :
    Calls Tryd.prog 16 #[.iface 135 (.agg #[.slice ad n c, .int .i64 al])] w fun e w' => e = .returned (.string bRoof) ∧ Below w.heap.size w w' := by
  have h := pkindRo_any w ad n c al
  generalize (Value.agg #[.slice ad n c, .int .i64 al]) = V at *
  have hm := methRo
  go_enter Tryd.func16, Tryd.ntmps16
  go_wp2_with fail
  refine h.mono ?_
  rintro e u ⟨rfl, k⟩
  have HK := hideR k
  clear h k
  go_wp2
  go_ret
  exact ⟨rfl, unhideR HK⟩
set_option maxRecDepth 100000 in
set_option maxHeartbeats 1600000 in
theorem kindNil_any (w : World) : Calls Tryd.prog 16 #[.nilIface] w fun e w' => e = .returned (.string ⟨#[]⟩) ∧ Below w.heap.size w w' := by
  have HB := hideR (Below.refl w.heap.size w)
  go_enter Tryd.func16, Tryd.ntmps16
  go_wp2
  go_ret
  exact ⟨rfl, unhideR HB⟩
end Go.Proofs.YtoacdaemhcbbhaaDoor
