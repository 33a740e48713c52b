/-
  Three corners put in order, the one across the longest side first; those across sides as long stay as they are.
-/
import Derived.Test.YtkdmeclbnnjdgalDoorPdD
import Derived.OwnWalk
import Derived.Laws.Entries
import Derived.Shelf.SlSortCmp.ReverseRangeK
import Derived.BigQuiet
namespace Go.Proofs.YtkdmeclbnnjdgalDoor
open Go Go.RowKit Go.Shelf Go.Lib Go.Sort

/-- a corner, at which of three places it stands, and the square of the side across from it. -/
structure Cor where
  p : Pt
  n : Int
  d : Int
instance : Inhabited Cor := ⟨⟨⟨0, 0, 0⟩, 0, 0⟩⟩
def encC (c : Cor) : List Value := [.int .i64 c.p.x, .int .i64 c.p.y, .int .i64 c.p.z, .int .i64 c.n, .int .i64 c.d]
theorem encC_len (x : Cor) : (encC x).length = 5 := rfl
theorem encC_one (x : Cor) : ∀ v ∈ encC x, v.oneCell' = true := by
  intro u hu
  simp only [encC, List.mem_cons, List.not_mem_nil, or_false] at hu
  rcases hu with rfl | rfl | rfl | rfl | rfl <;> rfl
def swpF (p : Nat → Cor) (i j : Nat) : Nat → Cor := fun k => if k = i then p j else if k = j then p i else p k
theorem isNaN_any (x : Int) (w : World) : Calls Tryd.prog 89 #[.int .i64 x] w fun e w' => e = .returned (.bool false) ∧ w' = w := by
  go_enter Tryd.func89, Tryd.ntmps89
  go_wp2
  go_ret
  exact ⟨rfl, rfl⟩
def cmp2 (x y : Int) : Int := if x < y then -1 else if y < x then 1 else 0
set_option maxHeartbeats 800000 in
theorem compare_any (x y : Int) (w : World) : Calls Tryd.prog 66 #[.int .i64 x, .int .i64 y] w fun e w' => e = .returned (.int .i64 (cmp2 x y)) ∧ w' = w := by
  unfold cmp2
  by_cases h1 : x < y
  · rw [if_pos h1]
    go_enter Tryd.func66, Tryd.ntmps66
    go_wp2_with (go_at_call 89; refine (isNaN_any _ _).mono ?_; rintro e w' ⟨rfl, rfl⟩)
    all_goals
      go_ret
      exact ⟨rfl, rfl⟩
  · rw [if_neg h1]
    by_cases h2 : y < x
    · rw [if_pos h2]
      go_enter Tryd.func66, Tryd.ntmps66
      go_wp2_with (go_at_call 89; refine (isNaN_any _ _).mono ?_; rintro e w' ⟨rfl, rfl⟩)
      all_goals
        go_ret
        exact ⟨rfl, rfl⟩
    · rw [if_neg h2]
      go_enter Tryd.func66, Tryd.ntmps66
      go_wp2_with (go_at_call 89; refine (isNaN_any _ _).mono ?_; rintro e w' ⟨rfl, rfl⟩)
      all_goals
        go_ret
        exact ⟨rfl, rfl⟩
theorem cmp2_neg {x y : Int} : cmp2 x y < 0 ↔ x < y := by unfold cmp2; split <;> (try split) <;> omega
/-- the longer one first. -/
def cfC (x y : Cor) : Int := cmp2 y.d x.d
theorem cfC_neg {x y : Cor} : cfC x y < 0 ↔ y.d < x.d := cmp2_neg
set_option maxRecDepth 100000 in
set_option maxHeartbeats 1600000 in
theorem order_any (x y : Cor) (W : World) : Calls Tryd.prog 65 #[.agg (encC x).toArray, .agg (encC y).toArray] W fun e w' => e = .returned (.int .i64 (cfC x y)) ∧ ∃ q os, w' = grow (W.drewN q) os := by
  have hc := fun u => compare_any y.d x.d u
  unfold cfC
  generalize cmp2 y.d x.d = c at *
  have ex : (encC x).toArray = #[.int .i64 x.p.x, .int .i64 x.p.y, .int .i64 x.p.z, .int .i64 x.n, .int .i64 x.d] := rfl
  have ey : (encC y).toArray = #[.int .i64 y.p.x, .int .i64 y.p.y, .int .i64 y.p.z, .int .i64 y.n, .int .i64 y.d] := rfl
  rw [ex, ey]
  generalize x.p.x = a0
  generalize x.p.y = a1
  generalize x.p.z = a2
  generalize x.n = a4
  generalize x.d = a3 at *
  generalize y.p.x = b0
  generalize y.p.y = b1
  generalize y.p.z = b2
  generalize y.n = b4
  generalize y.d = b3 at *
  clear ex ey
  go_enter Tryd.func65, Tryd.ntmps65
  go_wp2_with (go_at_call 66; refine (hc _).mono ?_; rintro e w' ⟨rfl, rfl⟩)
  go_ret
  exact ⟨rfl, 0, _, by rw [alloc_eq_grow, alloc_eq_grow, grow_grow]; rfl⟩
theorem cmp_laysC {k : Nat} (blk off size : Nat) (w : World) : CmpLays Tryd.prog 65 #[] encC k cfC blk off size w := fun _m _os _dk _ x y => order_any x y _
/-- a row by its places. -/
def pa (d : Array Cor) : Nat → Cor := fun k => d[k]!
theorem pa_swp {d : Array Cor} {i j : Nat} (hi : i < d.size) (hj : j < d.size) : pa (swp d i j) = swpF (pa d) i j := by
  funext k
  unfold pa swpF
  rw [swp_get d hi hj k]
  by_cases e1 : k = i
  · by_cases e2 : k = j
    · rw [if_pos e2, if_pos e1, ← e1, ← e2]
    · rw [if_neg e2, if_pos e1, if_pos e1]
  · by_cases e2 : k = j
    · rw [if_pos e2, if_neg e1, if_pos e2]
    · rw [if_neg e2, if_neg e1, if_neg e1, if_neg e2]
theorem mixedC : Tryd.prog.follows .mixedOrders = true := by kernel_rfl
theorem aggC : ∀ w, (isAgg 84).run Tryd.prog w = .ok true w := fun w => by kernel_rfl
theorem sizC : ∀ w, (Go.sizeOf 84).run Tryd.prog w = .ok 5 w := fun w => by kernel_rfl
/-- a world of the sorting, its row. -/
def Srt (k : Nat) (w0 : World) (blk N : Nat) (p : Nat → Cor) (W : World) : Prop := ∃ d : Array Cor, d.size = N ∧ pa d = p ∧ SWK encC k w0 blk 0 d W
/-- what is known of the row ahead. -/
def Row0 (k : Nat) (w0 : World) (blk N : Nat) : Prop := ∃ d0 : Array Cor, d0.size = N ∧ RowK encC k w0 blk 0 d0
/-- two places are about to change: what is read and written there. -/
theorem exch {k : Nat} {w0 wr : World} {blk N : Nat} {p : Nat → Cor} (R : Row0 k w0 blk N) (S : Srt k w0 blk N p wr) {x y : Nat} (hx : x < N) (hy : y < N) : ∃ cI cJ : List Value,
    Sem.run Tryd.prog (loadCellsFrom ⟨blk, x * k, none⟩ 0 k #[]) wr.drew = .ok cI.toArray wr.drew ∧ Sem.run Tryd.prog (loadCellsFrom ⟨blk, y * k, none⟩ 0 k #[]) wr.drew = .ok cJ.toArray wr.drew ∧
    Sem.run Tryd.prog (storeCells ⟨blk, x * k, none⟩ cJ 0) wr.drew = .ok () (wr.drew.setCells blk (x * k) cJ) ∧ Sem.run Tryd.prog (storeCells ⟨blk, y * k, none⟩ cI 0) (wr.drew.setCells blk (x * k) cJ) = .ok () ((wr.drew.setCells blk (x * k) cJ).setCells blk (y * k) cI) ∧
    cI.length = k ∧ cJ.length = k ∧ HeldR (Srt k w0 blk N (swpF p x y) ((wr.drew.setCells blk (x * k) cJ).setCells blk (y * k) cI)) := by
  obtain ⟨d, hd, hp, S⟩ := S
  obtain ⟨d0, hd0, R⟩ := R
  have l1 := S.ld1 R (by omega) Tryd.prog x (by omega)
  have l2 := S.ld1 R (by omega) Tryd.prog y (by omega)
  have s1 := S.st1 R (by omega) Tryd.prog x (by omega) d[y]!
  have s2 := S.st2 R (by omega) Tryd.prog x y (by omega) (by omega) d[y]! d[x]!
  have S2 := S.swapped R x y (by omega) (by omega)
  rw [Nat.zero_add] at l1 l2 s1
  rw [Nat.zero_add, Nat.zero_add] at s2 S2
  exact ⟨_, _, l1, l2, s1, s2, R.hk _, R.hk _, hideR ⟨swp d x y, by rw [size_swp]; exact hd, by rw [pa_swp (by omega) (by omega), hp], S2⟩⟩
/-- two places are compared: what is read there, what is answered. -/
theorem comp {k : Nat} {w0 wr : World} {blk N : Nat} {p : Nat → Cor} (R : Row0 k w0 blk N) (S : Srt k w0 blk N p wr) {x y : Nat} (hx : x < N) (hy : y < N) : ∃ cI cJ : List Value,
    (∀ n os, Sem.run Tryd.prog (loadCellsFrom ⟨blk, x * k, none⟩ 0 k #[]) (grow (wr.drewN n) os) = .ok cI.toArray (grow (wr.drewN n) os)) ∧ (∀ n os, Sem.run Tryd.prog (loadCellsFrom ⟨blk, y * k, none⟩ 0 k #[]) (grow (wr.drewN n) os) = .ok cJ.toArray (grow (wr.drewN n) os)) ∧
    (∀ n os, Calls Tryd.prog 65 #[.agg cI.toArray, .agg cJ.toArray] (grow (wr.drewN n) os) fun e w' => e = .returned (.int .i64 (cfC (p x) (p y))) ∧ ∃ q os', w' = grow ((grow (wr.drewN n) os).drewN q) os') ∧
    cI.length = k ∧ cJ.length = k ∧ HeldR (∀ n os, Srt k w0 blk N p (grow (wr.drewN n) os)) := by
  obtain ⟨d, hd, hp, S⟩ := S
  obtain ⟨d0, hd0, R⟩ := R
  refine ⟨_, _, fun n os => ?_, fun n os => ?_, fun n os => ?_, R.hk d[x]!, R.hk d[y]!, hideR (fun n os => ⟨d, hd, hp, S.grown n os⟩)⟩
  · have := S.ld R (by omega) Tryd.prog x (by omega) n os
    rwa [Nat.zero_add] at this
  · have := S.ld R (by omega) Tryd.prog y (by omega) n os
    rwa [Nat.zero_add] at this
  · have := S.cmp (P := Tryd.prog) (g := 65) (cb := #[]) (cf := cfC) (size := N) (cmp_laysC blk 0 N w0) hd d[x]! d[y]! n os
    rw [← hp]
    exact this
theorem entersC : ∀ args w, (callFunc 65 args).run Tryd.prog w = .ok (.enter 65 args) w := enters_of Tryd.func65 (by kernel_rfl) rfl
theorem Srt.grown {k : Nat} {w0 wr : World} {blk N : Nat} {p : Nat → Cor} (S : Srt k w0 blk N p wr) (n : Nat) (os : Array Obj) : Srt k w0 blk N p (grow (wr.drewN n) os) := by
  obtain ⟨d, hd, hp, S⟩ := S
  exact ⟨d, hd, hp, S.grown n os⟩
theorem Srt.drew {k : Nat} {w0 wr : World} {blk N : Nat} {p : Nat → Cor} (S : Srt k w0 blk N p wr) : Srt k w0 blk N p wr.drew := by
  obtain ⟨d, hd, hp, S⟩ := S
  exact ⟨d, hd, hp, S.drew⟩
/-- one is put in among those before it. -/
def insF : Nat → (Nat → Cor) → Nat → Cor
  | 0, p => p
  | j + 1, p => if (p j).d < (p (j + 1)).d then insF j (swpF p (j + 1) j) else p
/-- what is left to do from the i-th on. -/
def tdF (i : Nat) (p : Nat → Cor) : Nat → Cor := if i = 1 then insF 2 (insF 1 p) else if i = 2 then insF 2 p else p
set_option maxRecDepth 1000000 in
set_option maxHeartbeats 4000000 in
theorem insert3_any {k : Nat} (zE : ∀ w, (Go.sizeOf 84).run Tryd.prog w = .ok k w) {w0 w : World} {blk cap : Nat} {p : Nat → Cor} (R : Row0 k w0 blk 3) (S : Srt k w0 blk 3 p w) :
    Calls Tryd.prog 108 #[.slice (some ⟨blk, 0, none⟩) 3 cap, .int .i64 0, .int .i64 3, .func (.func 65) #[] #[]] w fun e w' => e = .returned (.tuple #[]) ∧ Srt k w0 blk 3 (insF 2 (insF 1 p)) w' := by
  have HR := hideR R
  have eg := entersC
  have H00 : HeldR (∃ q, tdF 1 q = insF 2 (insF 1 p) ∧ Srt k w0 blk 3 q w) := hideR ⟨p, by unfold tdF; rw [if_pos rfl], S⟩
  have mixed := mixedC
  have aE := aggC
  obtain ⟨F, hF⟩ : ∃ F, insF 2 (insF 1 p) = F := ⟨_, rfl⟩
  rw [hF] at H00
  rw [hF]
  clear R S hF
  go_enter Tryd.func108, Tryd.ntmps108
  go_wp2
  go_loopw [8] (fun iv wl => ∃ i : Nat, 1 ≤ i ∧ i ≤ 3 ∧ iv = .int .i64 (i : Nat) ∧ HeldR (∃ q, tdF i q = F ∧ Srt k w0 blk 3 q wl)) (fun iv _ => 4 - (intOf iv).toNat)
  case atStart => exact ⟨1, by omega, by omega, by go_num, H00⟩
  case round =>
    clear H00
    obtain ⟨i, hi1, hi2, rfl, HS⟩ := hrel
    by_cases hi : i < 3
    · have tin : decide ((i : Int) < 3) = true := decide_eq_true (by omega)
      have tinn : decide (i < 3) = true := decide_eq_true hi
      have wi : IntKind.i64.wrap ((i : Int) + 1) = (i : Int) + 1 := iwrap (by omega) (by omega)
      have HTd : HeldR (∀ q, tdF i q = F → tdF (i + 1) (insF i q) = F) := hideR (fun q h => by
        rcases (show i = 1 ∨ i = 2 by omega) with rfl | rfl
        · unfold tdF at h ⊢
          rw [if_pos rfl] at h
          rw [if_neg (by omega), if_pos rfl]
          exact h
        · unfold tdF at h ⊢
          rw [if_neg (by omega), if_pos rfl] at h
          rw [if_neg (by omega), if_neg (by omega)]
          exact h)
      obtain ⟨q0, hq0, hS0⟩ := unhideR HS
      have HT := hideR (unhideR HTd q0 hq0)
      have HB0 : HeldR (∃ q, insF i q = insF i q0 ∧ Srt k w0 blk 3 q wr) := hideR ⟨q0, rfl, hS0⟩
      generalize insF i q0 = G at *
      clear hq0 hS0 HS HTd
      go_wp2
      go_loopw [9] (fun jv wl => ∃ j : Nat, j ≤ i ∧ jv = .int .i64 (j : Nat) ∧ HeldR (∃ q, insF j q = G ∧ Srt k w0 blk 3 q wl)) (fun jv _ => (intOf jv).toNat)
      case atStart => exact ⟨i, Nat.le_refl _, rfl, HB0⟩
      case round =>
        clear HB0
        obtain ⟨j, hj2, rfl, HB⟩ := hrel
        by_cases hj : 0 < j
        · obtain ⟨jp, rfl⟩ : ∃ jp, j = jp + 1 := ⟨j - 1, by omega⟩
          have tj : decide ((0 : Int) < ((jp + 1 : Nat) : Int)) = true := decide_eq_true (by omega)
          have tj2 : decide ((0 : Int) < (jp : Int) + 1) = true := decide_eq_true (by omega)
          have tjn : decide (0 < jp + 1) = true := decide_eq_true hj
          have wj : IntKind.i64.wrap (((jp + 1 : Nat) : Int) - 1) = (jp : Int) := by rw [show ((jp + 1 : Nat) : Int) - 1 = (jp : Int) by omega]; exact iwrap (by omega) (by omega)
          have wj2 : IntKind.i64.wrap ((jp : Int) + 1 - 1) = (jp : Int) := by rw [show (jp : Int) + 1 - 1 = (jp : Int) by omega]; exact iwrap (by omega) (by omega)
          have wj3 : IntKind.i64.wrap (jp : Int) = (jp : Int) := iwrap (by omega) (by omega)
          have jj1 : (jp : Int) + 1 < 3 := by omega
          have jj2 : (jp : Int) < 3 := by omega
          have p0 : (0 : Int) ≤ (jp : Int) + 1 := by omega
          have e0 : ((jp : Int) + 1).toNat = jp + 1 := by omega
          obtain ⟨q, hq, hS⟩ := unhideR HB
          obtain ⟨cI, cJ, l1, l2, hc, n1, n2, HG⟩ := comp (unhideR HR) hS (x := jp + 1) (y := jp) (by omega) (by omega)
          by_cases hlt : (q jp).d < (q (jp + 1)).d
          · have hneg : cfC (q (jp + 1)) (q jp) < 0 := cfC_neg.2 hlt
            have HQ : HeldR (insF jp (swpF q (jp + 1) jp) = G) := hideR (by
              rw [← hq]
              show _ = if (q jp).d < (q (jp + 1)).d then insF jp (swpF q (jp + 1) jp) else q
              rw [if_pos hlt])
            generalize cfC (q (jp + 1)) (q jp) = c at *
            clear HB hlt hq hS
            go_wp2_with fail
            go_quiet_grown (first | (go_at_fn 65; refine Calls.grown_of (hc _ _)))
            go_wp2_with fail
            have hS2 := unhideR HG nq osq
            obtain ⟨cI', cJ', l1', l2', s1, s2, n1', n2', S3⟩ := exch (unhideR HR) hS2 (x := jp + 1) (y := jp) (by omega) (by omega)
            clear l1 l2 hc n1 n2 HG hS2
            generalize grow (wr.drewN nq) osq = w2 at *
            go_big_region_o
            clear l1' l2' s1 s2
            generalize (w2.drew.setCells blk ((jp + 1) * k) cJ').setCells blk (jp * k) cI' = w3 at S3 ⊢
            have S4 : HeldR (∃ q, insF jp q = G ∧ Srt k w0 blk 3 q w3) := hideR ⟨_, unhideR HQ, unhideR S3⟩
            clear S3 HQ
            go_wp2
            exact ⟨⟨jp, by omega, rfl, S4⟩, by simp [intOf]⟩
          · have hneg : ¬ cfC (q (jp + 1)) (q jp) < 0 := fun h => hlt (cfC_neg.1 h)
            have hqG : q = G := by
              rw [← hq]
              show _ = if (q jp).d < (q (jp + 1)).d then insF jp (swpF q (jp + 1) jp) else q
              rw [if_neg hlt]
            have HQ := hideR hqG
            generalize cfC (q (jp + 1)) (q jp) = c at *
            clear HB hlt hq hS hqG
            go_wp2_with fail
            go_quiet_grown (first | (go_at_fn 65; refine Calls.grown_of (hc _ _)))
            have hS2 := unhideR HG nq osq
            have HS2 : HeldR (∃ q, tdF (i + 1) q = F ∧ Srt k w0 blk 3 q (grow (wr.drewN nq) osq)) := hideR ⟨q, by rw [unhideR HQ]; exact unhideR HT, hS2⟩
            clear l1 l2 hc n1 n2 HG hS2 HQ
            generalize grow (wr.drewN nq) osq = w2 at *
            go_wp2
            exact ⟨⟨i + 1, by omega, by omega, by go_num, HS2⟩, by simp [intOf]; omega⟩
        · obtain rfl : j = 0 := by omega
          have HS3 : HeldR (∃ q, tdF (i + 1) q = F ∧ Srt k w0 blk 3 q wr.drew) := hideR (by
            obtain ⟨q, hq, hS⟩ := unhideR HB
            exact ⟨q, by rw [show q = G from hq]; exact unhideR HT, hS.drew⟩)
          clear HB
          go_wp2_with fail
          go_big_region_o
          generalize wr.drew = w2 at *
          go_wp2
          exact ⟨⟨i + 1, by omega, by omega, by go_num, HS3⟩, by simp [intOf]; omega⟩
    · obtain rfl : i = 3 := by omega
      have HS2 : HeldR (Srt k w0 blk 3 F wr) := hideR (by
        obtain ⟨q, hq, hS⟩ := unhideR HS
        have e : q = F := by
          rw [← hq]
          rfl
        rw [← e]
        exact hS)
      clear HS
      go_wp2
      go_end0
      exact ⟨rfl, unhideR HS2⟩
end Go.Proofs.YtkdmeclbnnjdgalDoor
