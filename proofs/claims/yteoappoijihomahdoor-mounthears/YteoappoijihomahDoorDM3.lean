/-
  The program's mount: a reply, and a command that is done, by contract.
-/
import Derived.Test.YteoappoijihomahDoorDM2
namespace Go.Proofs.YteoappoijihomahDoor
open Go Go.RowKit

set_option maxRecDepth 100000 in
set_option maxHeartbeats 1600000 in
theorem preply_any {g : Nat} {p : PM} {w : World} {a : Nat → Addr} {E : Int} (hM : PB w g p) (n : Int) (er : Value) (he : ErrIs a E er) : Calls Tryd.prog 67 #[.pointer (some ⟨g, 0, none⟩), .int .i64 n, er] w fun e w' => e = .returned (.agg #[.int .i64 n, er, .int .i64 p.x, .int .i64 p.y, .int .i64 p.st]) ∧ Below w.heap.size w w' := by
  have HM := hideR (hM.keep (below_a w (.cells #[.int .i64 0, .nilIface, .int .i64 0, .int .i64 0, .int .i64 0] 72)))
  have HW := hideR (below_a w (.cells #[.int .i64 0, .nilIface, .int .i64 0, .int .i64 0, .int .i64 0] 72))
  have HZ := hideR (alloc_last w (.cells #[.int .i64 0, .nilIface, .int .i64 0, .int .i64 0, .int .i64 0] 72))
  rcases he with ⟨_, rfl⟩ | ⟨k, _, _, rfl⟩
  all_goals
    go_enter Tryd.func67, Tryd.ntmps67
    go_wp2_with fail
    refine (mat_any (unhideR HM)).mono ?_
    rintro e w1 ⟨rfl, k1⟩
    replace HM := hideR ((unhideR HM).keep k1)
    replace HW := hideR (below_go (unhideR HW) k1)
    replace HZ := hideR (keepB (unhideR HZ) k1)
    clear k1 hM
    have c14 : w1.cell? ⟨g, 14, none⟩ = some (.int .i64 p.st) := ((unhideR HM).cell 14 (by decide)).1
    obtain ⟨⟨y0, y1, y2, y3, y4⟩, y5, y6, y7, y8, y9⟩ := five_cells (unhideR HZ)
    go_wp2
    simp [bodyPost, results, Tryd.results67, go_sem, y0, y1, y2, y3, y4]
    exact below_five (unhideR HW) (Nat.le_refl _) _ _ _ _ _
def stopP (p : PM) : PM × Int := (if p.st = 4 then p else { p with st := 5 }, if p.st = 4 then 7 else 0)
def doP (p : PM) (c : Cmd) : PM × Int :=
  if c.kind = 1 then slewP p c.a c.b else if c.kind = 2 then trackP p c.a c.b else if c.kind = 3 then stopP p
  else if c.kind = 4 then (parkP p, 0) else if c.kind = 5 then (p, 0) else (p, 10)
def PDoPost (g : Nat) (p : PM) (c : CmdS) (a : Nat → Addr) (w : World) (e : Ending) (w' : World) : Prop := ∃ er, ErrIs a (doP p c.cmd).2 er ∧ e = .returned er ∧ PB w' g (doP p c.cmd).1 ∧ Chg g w w'
set_option maxRecDepth 100000 in
set_option maxHeartbeats 3200000 in
theorem pdo_slew {g : Nat} {p : PM} {w : World} {a : Nat → Addr} (hM : PB w g p) (hE : Errs5 w a) (c : CmdS) (hk : (c.s.toList == [115, 108, 101, 119]) = true) :
    Calls Tryd.prog 66 #[.pointer (some ⟨g, 0, none⟩), c.val] w (PDoPost g p c a w) := by
  have HM := hideR (hM.keep (below_a w (.cells #[.int .i64 c.num, .string c.s, .int .i64 c.a, .int .i64 c.b] 74)))
  have HK := hideR ((Chg.refl g w).go (below_a w (.cells #[.int .i64 c.num, .string c.s, .int .i64 c.a, .int .i64 c.b] 74)))
  have HE := hideR (hE.below (below_a w (.cells #[.int .i64 c.num, .string c.s, .int .i64 c.a, .int .i64 c.b] 74)))
  have k1 : (c.s.toList == [115, 108, 101, 119]) = true := hk
  have hkd : c.cmd.kind = 1 := by
    show kindOf c.s.toList = 1
    unfold kindOf
    rw [if_pos k1]
  have hd : doP p c.cmd = slewP p c.a c.b := by
    unfold doP
    rw [hkd]
    rfl
  unfold PDoPost
  rw [hd]
  clear hd hkd hk hM hE
  unfold CmdS.val
  go_enter Tryd.func66, Tryd.ntmps66
  go_wp2_with fail
  refine (slew_any c.a c.b (unhideR HM) (unhideR HE)).mono ?_
  rintro e w1 ⟨er, he, rfl, h1, k1⟩
  replace HK := hideR ((unhideR HK).trans k1)
  have H1 : HeldR (PB w1 g (slewP p c.a c.b).1) := h1
  have HX : HeldR (ErrIs a (slewP p c.a c.b).2 er) := he
  clear HM HE h1 k1 he
  go_wp2
  go_ret
  exact ⟨_, unhideR HX, rfl, unhideR H1, unhideR HK⟩
set_option maxRecDepth 100000 in
set_option maxHeartbeats 3200000 in
theorem pdo_track {g : Nat} {p : PM} {w : World} {a : Nat → Addr} (hM : PB w g p) (hE : Errs5 w a) (c : CmdS) (hfa : 0 ≤ p.A.fast ∧ p.A.fast ≤ 1099511627776) (hfb : 0 ≤ p.B.fast ∧ p.B.fast ≤ 1099511627776) (hk : (c.s.toList == [115, 108, 101, 119]) = false ∧ (c.s.toList == [116, 114, 97, 99, 107]) = true) :
    Calls Tryd.prog 66 #[.pointer (some ⟨g, 0, none⟩), c.val] w (PDoPost g p c a w) := by
  have HM := hideR (hM.keep (below_a w (.cells #[.int .i64 c.num, .string c.s, .int .i64 c.a, .int .i64 c.b] 74)))
  have HK := hideR ((Chg.refl g w).go (below_a w (.cells #[.int .i64 c.num, .string c.s, .int .i64 c.a, .int .i64 c.b] 74)))
  have HE := hideR (hE.below (below_a w (.cells #[.int .i64 c.num, .string c.s, .int .i64 c.a, .int .i64 c.b] 74)))
  have k1 : (c.s.toList == [115, 108, 101, 119]) = false := hk.1
  have k2 : (c.s.toList == [116, 114, 97, 99, 107]) = true := hk.2
  have hkd : c.cmd.kind = 2 := by
    show kindOf c.s.toList = 2
    unfold kindOf
    rw [if_neg (by rw [k1]; exact Bool.noConfusion), if_pos k2]
  have hd : doP p c.cmd = trackP p c.a c.b := by
    unfold doP
    rw [hkd]
    rfl
  unfold PDoPost
  rw [hd]
  clear hd hkd hk hM hE
  unfold CmdS.val
  go_enter Tryd.func66, Tryd.ntmps66
  go_wp2_with fail
  refine (track_any c.a c.b (unhideR HM) (unhideR HE) hfa hfb).mono ?_
  rintro e w1 ⟨er, he, rfl, h1, k1⟩
  replace HK := hideR ((unhideR HK).trans k1)
  have H1 : HeldR (PB w1 g (trackP p c.a c.b).1) := h1
  have HX : HeldR (ErrIs a (trackP p c.a c.b).2 er) := he
  clear HM HE h1 k1 he
  go_wp2
  go_ret
  exact ⟨_, unhideR HX, rfl, unhideR H1, unhideR HK⟩
set_option maxRecDepth 100000 in
set_option maxHeartbeats 3200000 in
theorem pdo_stop {g : Nat} {p : PM} {w : World} {a : Nat → Addr} (hM : PB w g p) (hE : Errs5 w a) (c : CmdS) (hk : (c.s.toList == [115, 108, 101, 119]) = false ∧ (c.s.toList == [116, 114, 97, 99, 107]) = false ∧ (c.s.toList == [115, 116, 111, 112]) = true) :
    Calls Tryd.prog 66 #[.pointer (some ⟨g, 0, none⟩), c.val] w (PDoPost g p c a w) := by
  have HM := hideR (hM.keep (below_a w (.cells #[.int .i64 c.num, .string c.s, .int .i64 c.a, .int .i64 c.b] 74)))
  have HK := hideR ((Chg.refl g w).go (below_a w (.cells #[.int .i64 c.num, .string c.s, .int .i64 c.a, .int .i64 c.b] 74)))
  have HE := hideR (hE.below (below_a w (.cells #[.int .i64 c.num, .string c.s, .int .i64 c.a, .int .i64 c.b] 74)))
  have k1 : (c.s.toList == [115, 108, 101, 119]) = false := hk.1
  have k2 : (c.s.toList == [116, 114, 97, 99, 107]) = false := hk.2.1
  have k3 : (c.s.toList == [115, 116, 111, 112]) = true := hk.2.2
  have hkd : c.cmd.kind = 3 := by
    show kindOf c.s.toList = 3
    unfold kindOf
    rw [if_neg (by rw [k1]; exact Bool.noConfusion), if_neg (by rw [k2]; exact Bool.noConfusion), if_pos k3]
  have hd : doP p c.cmd = stopP p := by
    unfold doP
    rw [hkd]
    rfl
  unfold PDoPost
  rw [hd]
  clear hd hkd hk hM hE
  unfold CmdS.val
  go_enter Tryd.func66, Tryd.ntmps66
  go_wp2_with fail
  refine (stop_any (unhideR HM) (unhideR HE)).mono ?_
  rintro e w1 ⟨er, he, rfl, h1, k1⟩
  replace HK := hideR ((unhideR HK).trans k1)
  have H1 : HeldR (PB w1 g (stopP p).1) := h1
  have HX : HeldR (ErrIs a (stopP p).2 er) := he
  clear HM HE h1 k1 he
  go_wp2
  go_ret
  exact ⟨_, unhideR HX, rfl, unhideR H1, unhideR HK⟩
set_option maxRecDepth 100000 in
set_option maxHeartbeats 3200000 in
theorem pdo_park {g : Nat} {p : PM} {w : World} {a : Nat → Addr} (hM : PB w g p) (hE : Errs5 w a) (c : CmdS) (hk : (c.s.toList == [115, 108, 101, 119]) = false ∧ (c.s.toList == [116, 114, 97, 99, 107]) = false ∧ (c.s.toList == [115, 116, 111, 112]) = false ∧ (c.s.toList == [112, 97, 114, 107]) = true) :
    Calls Tryd.prog 66 #[.pointer (some ⟨g, 0, none⟩), c.val] w (PDoPost g p c a w) := by
  have HM := hideR (hM.keep (below_a w (.cells #[.int .i64 c.num, .string c.s, .int .i64 c.a, .int .i64 c.b] 74)))
  have HK := hideR ((Chg.refl g w).go (below_a w (.cells #[.int .i64 c.num, .string c.s, .int .i64 c.a, .int .i64 c.b] 74)))
  have HE := hideR (hE.below (below_a w (.cells #[.int .i64 c.num, .string c.s, .int .i64 c.a, .int .i64 c.b] 74)))
  have k1 : (c.s.toList == [115, 108, 101, 119]) = false := hk.1
  have k2 : (c.s.toList == [116, 114, 97, 99, 107]) = false := hk.2.1
  have k3 : (c.s.toList == [115, 116, 111, 112]) = false := hk.2.2.1
  have k4 : (c.s.toList == [112, 97, 114, 107]) = true := hk.2.2.2
  have hkd : c.cmd.kind = 4 := by
    show kindOf c.s.toList = 4
    unfold kindOf
    rw [if_neg (by rw [k1]; exact Bool.noConfusion), if_neg (by rw [k2]; exact Bool.noConfusion), if_neg (by rw [k3]; exact Bool.noConfusion), if_pos k4]
  have hd : doP p c.cmd = (parkP p, 0) := by
    unfold doP
    rw [hkd]
    rfl
  unfold PDoPost
  rw [hd]
  clear hd hkd hk hM hE
  unfold CmdS.val
  go_enter Tryd.func66, Tryd.ntmps66
  go_wp2_with fail
  refine (park_any (unhideR HM)).mono ?_
  rintro e w1 ⟨rfl, h1, k1⟩
  replace HK := hideR ((unhideR HK).trans k1)
  have H1 := hideR h1
  clear HM HE h1 k1
  go_wp2
  go_ret
  exact ⟨_, .inl ⟨rfl, rfl⟩, rfl, unhideR H1, unhideR HK⟩
set_option maxRecDepth 100000 in
set_option maxHeartbeats 3200000 in
theorem pdo_hello {g : Nat} {p : PM} {w : World} {a : Nat → Addr} (hM : PB w g p) (hE : Errs5 w a) (c : CmdS) (hk : (c.s.toList == [115, 108, 101, 119]) = false ∧ (c.s.toList == [116, 114, 97, 99, 107]) = false ∧ (c.s.toList == [115, 116, 111, 112]) = false ∧ (c.s.toList == [112, 97, 114, 107]) = false ∧ (c.s.toList == [104, 101, 108, 108, 111]) = true) :
    Calls Tryd.prog 66 #[.pointer (some ⟨g, 0, none⟩), c.val] w (PDoPost g p c a w) := by
  have HM := hideR (hM.keep (below_a w (.cells #[.int .i64 c.num, .string c.s, .int .i64 c.a, .int .i64 c.b] 74)))
  have HK := hideR ((Chg.refl g w).go (below_a w (.cells #[.int .i64 c.num, .string c.s, .int .i64 c.a, .int .i64 c.b] 74)))
  have HE := hideR (hE.below (below_a w (.cells #[.int .i64 c.num, .string c.s, .int .i64 c.a, .int .i64 c.b] 74)))
  have k1 : (c.s.toList == [115, 108, 101, 119]) = false := hk.1
  have k2 : (c.s.toList == [116, 114, 97, 99, 107]) = false := hk.2.1
  have k3 : (c.s.toList == [115, 116, 111, 112]) = false := hk.2.2.1
  have k4 : (c.s.toList == [112, 97, 114, 107]) = false := hk.2.2.2.1
  have k5 : (c.s.toList == [104, 101, 108, 108, 111]) = true := hk.2.2.2.2
  have hkd : c.cmd.kind = 5 := by
    show kindOf c.s.toList = 5
    unfold kindOf
    rw [if_neg (by rw [k1]; exact Bool.noConfusion), if_neg (by rw [k2]; exact Bool.noConfusion), if_neg (by rw [k3]; exact Bool.noConfusion), if_neg (by rw [k4]; exact Bool.noConfusion), if_pos k5]
  have hd : doP p c.cmd = (p, 0) := by
    unfold doP
    rw [hkd]
    rfl
  unfold PDoPost
  rw [hd]
  clear hd hkd hk hM hE
  unfold CmdS.val
  go_enter Tryd.func66, Tryd.ntmps66
  go_wp2
  go_ret
  exact ⟨_, .inl ⟨rfl, rfl⟩, rfl, unhideR HM, unhideR HK⟩
set_option maxRecDepth 100000 in
set_option maxHeartbeats 3200000 in
theorem pdo_other {g : Nat} {p : PM} {w : World} {a : Nat → Addr} (hM : PB w g p) (hE : Errs5 w a) (c : CmdS) (hk : (c.s.toList == [115, 108, 101, 119]) = false ∧ (c.s.toList == [116, 114, 97, 99, 107]) = false ∧ (c.s.toList == [115, 116, 111, 112]) = false ∧ (c.s.toList == [112, 97, 114, 107]) = false ∧ (c.s.toList == [104, 101, 108, 108, 111]) = false) :
    Calls Tryd.prog 66 #[.pointer (some ⟨g, 0, none⟩), c.val] w (PDoPost g p c a w) := by
  have HM := hideR (hM.keep (below_a w (.cells #[.int .i64 c.num, .string c.s, .int .i64 c.a, .int .i64 c.b] 74)))
  have HK := hideR ((Chg.refl g w).go (below_a w (.cells #[.int .i64 c.num, .string c.s, .int .i64 c.a, .int .i64 c.b] 74)))
  have HE := hideR (hE.below (below_a w (.cells #[.int .i64 c.num, .string c.s, .int .i64 c.a, .int .i64 c.b] 74)))
  have k1 : (c.s.toList == [115, 108, 101, 119]) = false := hk.1
  have k2 : (c.s.toList == [116, 114, 97, 99, 107]) = false := hk.2.1
  have k3 : (c.s.toList == [115, 116, 111, 112]) = false := hk.2.2.1
  have k4 : (c.s.toList == [112, 97, 114, 107]) = false := hk.2.2.2.1
  have k5 : (c.s.toList == [104, 101, 108, 108, 111]) = false := hk.2.2.2.2
  have hkd : c.cmd.kind = 0 := by
    show kindOf c.s.toList = 0
    unfold kindOf
    rw [if_neg (by rw [k1]; exact Bool.noConfusion), if_neg (by rw [k2]; exact Bool.noConfusion), if_neg (by rw [k3]; exact Bool.noConfusion), if_neg (by rw [k4]; exact Bool.noConfusion), if_neg (by rw [k5]; exact Bool.noConfusion)]
  have hd : doP p c.cmd = (p, 10) := by
    unfold doP
    rw [hkd]
    rfl
  unfold PDoPost
  rw [hd]
  clear hd hkd hk hM hE
  unfold CmdS.val
  go_enter Tryd.func66, Tryd.ntmps66
  have e9 : (w.alloc (.cells #[.int .i64 c.num, .string c.s, .int .i64 c.a, .int .i64 c.b] 74)).cell? ⟨9, 0, none⟩ = some (.iface 205 (.pointer (some (a 9)))) := (unhideR HE).e9
  go_wp2
  go_ret
  exact ⟨_, err_at 9 (by decide), rfl, unhideR HM, unhideR HK⟩
theorem pdo_any {g : Nat} {p : PM} {w : World} {a : Nat → Addr} (hM : PB w g p) (hE : Errs5 w a) (c : CmdS) (hfa : 0 ≤ p.A.fast ∧ p.A.fast ≤ 1099511627776) (hfb : 0 ≤ p.B.fast ∧ p.B.fast ≤ 1099511627776) :
    Calls Tryd.prog 66 #[.pointer (some ⟨g, 0, none⟩), c.val] w (PDoPost g p c a w) := by
  cases h1 : (c.s.toList == [115, 108, 101, 119])
  case' true => exact pdo_slew hM hE c h1
  cases h2 : (c.s.toList == [116, 114, 97, 99, 107])
  case' true => exact pdo_track hM hE c hfa hfb ⟨h1, h2⟩
  cases h3 : (c.s.toList == [115, 116, 111, 112])
  case' true => exact pdo_stop hM hE c ⟨h1, h2, h3⟩
  cases h4 : (c.s.toList == [112, 97, 114, 107])
  case' true => exact pdo_park hM hE c ⟨h1, h2, h3, h4⟩
  cases h5 : (c.s.toList == [104, 101, 108, 108, 111])
  case' true => exact pdo_hello hM hE c ⟨h1, h2, h3, h4, h5⟩
  exact pdo_other hM hE c ⟨h1, h2, h3, h4, h5⟩
end Go.Proofs.YteoappoijihomahDoor
