/-
  Which job has a name; when a job may begin: the program's numberOf, mayBegin, without, by contract.
-/
import Derived.Test.YtoacdaemhcbbhaaDoorNgF1
namespace Go.Proofs.YtoacdaemhcbbhaaDoor
open Go Go.RowKit

theorem two_allocN (w : World) (o1 o2 : Obj) : ((w.alloc o1).alloc o2).heap[w.heap.size]? = some o1 ∧ ((w.alloc o1).alloc o2).heap[w.heap.size + 1]? = some o2 ∧ Below w.heap.size w ((w.alloc o1).alloc o2) := by
  refine ⟨keepA (alloc_last w o1), ?_, below_go (below_a w o1) (below_a _ o2)⟩
  have := alloc_last (w.alloc o1) o2
  simpa using this
def eqN (x y : ByteArray) : Bool := x.toList == y.toList
set_option maxRecDepth 100000 in
set_option maxHeartbeats 1600000 in
theorem pnum1_any {W : World} {g : Nat} {x : ByteArray} (hg : W.heap[g]? = some (.cells #[.string x] 9)) (j : Jb) (a2 : Option Addr) (c2 : Nat) :
    Calls Tryd.prog 53 #[jbV j a2 c2, .pointer (some ⟨g, 0, none⟩)] W fun e w' => e = .returned (.bool (eqN j.nm x)) ∧ Below W.heap.size W w' := by
  unfold jbV
  have z := alloc_last W (.cells #[.string j.nm, .slice a2 j.ws.length c2, .int .i64 j.lo, .int .i64 j.wo] 72)
  have HB := hideR (below_a W (.cells #[.string j.nm, .slice a2 j.ws.length c2, .int .i64 j.lo, .int .i64 j.wo] 72))
  have x0 := (cells_at z 0 (by simp)).1
  have y0 := (cells_at (keepA (o' := .cells #[.string j.nm, .slice a2 j.ws.length c2, .int .i64 j.lo, .int .i64 j.wo] 72) hg) 0 (by simp)).1
  obtain ⟨b, hb⟩ : ∃ b, eqN j.nm x = b := ⟨_, rfl⟩
  have hb2 : (j.nm.toList == x.toList) = b := hb
  rw [hb]
  clear z hg hb
  go_enter Tryd.func53, Tryd.ntmps53
  go_wp2
  go_ret
  exact ⟨rfl, unhideR HB⟩
/-- the first job of a name. -/
def nmP (l : List Jb) (x : ByteArray) (k : Nat) : Bool := eqN (l.getD k jb0).nm x
set_option maxRecDepth 100000 in
set_option maxHeartbeats 1600000 in
theorem pnum_any {w : World} {ad : Option Addr} {cap : Nat} {l : List Jb} (hl : JbCame w ad l) (hn : l.length ≤ 4000) (x : ByteArray) :
    Calls Tryd.prog 30 #[.slice ad l.length cap, .string x] w fun e w' => (∃ r, e = .returned (.int .i64 r) ∧ IsFst (nmP l x) l.length r) ∧ Below w.heap.size w w' := by
  have z := alloc_last w (.cells #[.string x] 9)
  have hb := below_a w (.cells #[.string x] 9)
  have hc := pidxJ_any (cap := cap) (hl.below hb) hn (fn := 53) (caps := #[.pointer (some ⟨w.heap.size, 0, none⟩)]) (P := nmP l x) (enters_of Tryd.func53 (by kernel_rfl) rfl)
    (fun k _ u hu a2 c2 _ => pnum1_any (keepB z hu) (l.getD k jb0) a2 c2)
  have HB := hideR hb
  clear z hb hl
  generalize nmP l x = P at *
  generalize l.length = n at *
  go_enter Tryd.func30, Tryd.ntmps30
  go_wp2_with fail
  refine hc.mono ?_
  rintro e u ⟨⟨r, rfl, hr⟩, k⟩
  have HR := hideR hr
  have HK := hideR (below_go (unhideR HB) k)
  clear hc hr k
  go_wp2
  go_ret
  exact ⟨⟨_, rfl, unhideR HR⟩, unhideR HK⟩
/-- all of a job lies in a window if it begins then. -/
def inP (j : Jb) (x : Int) (k : Nat) : Bool := decide ((j.ws.getD k sp0).f ≤ x) && decide (x ≤ (j.ws.getD k sp0).t - j.lo)
def inWB (j : Jb) (x : Int) : Bool := anyN (inP j x) j.ws.length
/-- a job that is right. -/
structure Jb.Ok (j : Jb) : Prop where
  l1 : 1 ≤ j.lo
  l2 : j.lo ≤ 1099511627776
  w1 : 1 ≤ j.wo
  w2 : j.wo ≤ 1099511627776
  n : j.ws.length ≤ 4000
  r : ∀ i, i < j.ws.length → Spn.Ok j.ws i
theorem sh_ok {j : Jb} (h : shX j = false) : j.Ok := by
  have h := of_decide_eq_false h
  have h5 : spE j.ws [] = 0 := by
    have : spE j.ws [] = 0 ∨ spE j.ws [] = 2 ∨ spE j.ws [] = 5 := by
      unfold spE
      split
      · exact .inr (.inl rfl)
      · split
        · exact .inr (.inr rfl)
        · exact .inl rfl
    omega
  unfold spE at h5
  split at h5
  · cases h5
  · rename_i q1
    split at h5
    · cases h5
    · rename_i q2
      refine ⟨by omega, by omega, by omega, by omega, by omega, ?_⟩
      cases e : rightV j.ws
      · exact absurd (.inl e) q2
      · exact of_decide_eq_true e
set_option maxRecDepth 100000 in
set_option maxHeartbeats 1600000 in
theorem pmay1_any {W : World} {ga gj : Nat} {x : Int} {j : Jb} {a2 : Option Addr} {c2 : Nat} (ha : W.heap[ga]? = some (.cells #[.int .i64 x] 3)) (hj : W.heap[gj]? = some (.cells #[.string j.nm, .slice a2 j.ws.length c2, .int .i64 j.lo, .int .i64 j.wo] 72)) (hk : j.Ok) (s : Spn) (hs : -1152921504606846976 ≤ s.t ∧ s.t ≤ 1152921504606846976) :
    Calls Tryd.prog 57 #[.agg #[.int .i64 s.f, .int .i64 s.t], .pointer (some ⟨ga, 0, none⟩), .pointer (some ⟨gj, 0, none⟩)] W fun e w' => e = .returned (.bool (decide (s.f ≤ x) && decide (x ≤ s.t - j.lo))) ∧ Below W.heap.size W w' := by
  have z := alloc_last W (.cells #[.int .i64 s.f, .int .i64 s.t] 69)
  have HB := hideR (below_a W (.cells #[.int .i64 s.f, .int .i64 s.t] 69))
  have x0 := (cells_at z 0 (by simp)).1
  have x1 := (cells_at z 1 (by simp)).1
  have y0 := (cells_at (keepA (o' := .cells #[.int .i64 s.f, .int .i64 s.t] 69) ha) 0 (by simp)).1
  have j2 := (cells_at (keepA (o' := .cells #[.int .i64 s.f, .int .i64 s.t] 69) hj) 2 (by simp)).1
  have hl1 := hk.l1
  have hl2 := hk.l2
  have wr : IntKind.i64.wrap (s.t - j.lo) = s.t - j.lo := iwrap (by omega) (by omega)
  obtain ⟨q1, h1⟩ : ∃ q, decide (s.f ≤ x) = q := ⟨_, rfl⟩
  obtain ⟨q2, h2⟩ : ∃ q, decide (x ≤ s.t - j.lo) = q := ⟨_, rfl⟩
  rw [h1, h2]
  clear z ha hj hk
  go_enter Tryd.func57, Tryd.ntmps57
  cases q1
  · go_wp2
    go_ret
    exact ⟨rfl, unhideR HB⟩
  · cases q2
    · go_wp2
      go_ret
      exact ⟨rfl, unhideR HB⟩
    · go_wp2
      go_ret
      exact ⟨rfl, unhideR HB⟩
set_option maxRecDepth 100000 in
set_option maxHeartbeats 1600000 in
theorem pmay_any {w : World} {j : Jb} {a2 : Option Addr} {c2 : Nat} (hs : SpCame w a2 j.ws) (hk : j.Ok) (x : Int) :
    Calls Tryd.prog 34 #[jbV j a2 c2, .int .i64 x] w fun e w' => e = .returned (.bool (inWB j x)) ∧ Below w.heap.size w w' := by
  unfold jbV
  obtain ⟨z1, z2, hb⟩ := two_allocN w (.cells #[.string j.nm, .slice a2 j.ws.length c2, .int .i64 j.lo, .int .i64 j.wo] 72) (.cells #[.int .i64 x] 3)
  have hc := pconS_any (cap := c2) (hs.below hb) hk.n (fn := 57) (caps := #[.pointer (some ⟨w.heap.size + 1, 0, none⟩), .pointer (some ⟨w.heap.size, 0, none⟩)]) (P := inP j x) (enters_of Tryd.func57 (by kernel_rfl) rfl)
    (fun k hkl u hu => pmay1_any (keepB z2 hu) (keepB z1 hu) hk (j.ws.getD k sp0) (by have := hk.r k hkl; unfold Spn.Ok at this; omega))
  have HB := hideR hb
  have x1 := (cells_at z1 1 (by simp)).1
  unfold inWB
  generalize anyN (inP j x) j.ws.length = A at *
  clear z1 z2 hb hs
  go_enter Tryd.func34, Tryd.ntmps34
  go_wp2_with fail
  refine hc.mono ?_
  rintro e u ⟨rfl, k⟩
  have HK := hideR (below_go (unhideR HB) k)
  clear hc k
  go_wp2
  go_ret
  exact ⟨rfl, unhideR HK⟩
end Go.Proofs.YtoacdaemhcbbhaaDoor
