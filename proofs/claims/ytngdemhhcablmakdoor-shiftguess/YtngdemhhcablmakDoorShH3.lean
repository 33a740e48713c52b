/-
  The program's Guess, by contract.
-/
import Derived.Test.YtngdemhhcablmakDoorShHA
import Derived.Test.YtngdemhhcablmakDoorShD2
namespace Go.Proofs.YtngdemhhcablmakDoor
open Go Go.RowKit

/-- 0, or what is wrong with two rows for a guess. -/
def gsE (A B : List Int) : Int := if rowsE A B ≠ 0 then rowsE A B else if twoB A.length = true then 0 else 5
/-- which number is guessed. -/
def GsN (A B : List Int) (r : Nat) : Prop := ∃ (d : Nat) (Z : List (Nat × Nat)), A.length = 2 ^ d ∧ GsR A B d Z ∧ r = bestN (fun k => (Z.getD k (0, 0)).1) (2 ^ d)
theorem GsN.same {A B : List Int} {r s : Nat} (h : GsN A B r) (g : GsN A B s) : r = s := by
  obtain ⟨d, Z, h1, h2, rfl⟩ := h
  obtain ⟨d', Z', g1, g2, rfl⟩ := g
  have e : (2 : Nat) ^ d = 2 ^ d' := h1.symm.trans g1
  obtain rfl : d = d' := by
    rcases Nat.lt_trichotomy d d' with q | q | q
    · have := (Nat.pow_lt_pow_iff_right (a := 2) (by decide)).2 q
      omega
    · exact q
    · have := (Nat.pow_lt_pow_iff_right (a := 2) (by decide)).2 q
      omega
  exact bestN_same (Nat.two_pow_pos d) (fun k hk => (h2.same g2 k hk).1) _ (Nat.le_refl _)
theorem GsN.lt {A B : List Int} {r : Nat} (h : GsN A B r) : r < A.length := by
  obtain ⟨d, Z, h1, h2, rfl⟩ := h
  rw [h1]
  exact bestN_lt _ (Nat.two_pow_pos d) _ (Nat.le_refl _)
def GuPost (a : Nat → Addr) (A B : List Int) (w : World) (e : Ending) (w' : World) : Prop := ∃ (r : Nat) (er : Value), e = .returned (.tuple #[.int .i64 (r : Nat), er]) ∧ ErrIs a (gsE A B) er ∧ (gsE A B ≠ 0 → r = 0) ∧ (gsE A B = 0 → GsN A B r) ∧ Below w.heap.size w w'
set_option maxRecDepth 100000 in
set_option maxHeartbeats 3200000 in
theorem guess_ok {a : Nat → Addr} {w : World} {a1 a2 : Option Addr} {c1 c2 : Nat} {A B : List Int} (hS : Sents w a) (hA : ICame w a1 A) (hB : ICame w a2 B) (l1 : A.length ≤ 9223372036854775807) (l2 : B.length ≤ 9223372036854775807) :
    Calls Tryd.prog 25 #[.slice a1 A.length c1, .slice a2 B.length c2] w (GuPost a A B w) := by
  have hwr := wrongRows_any (c1 := c1) (c2 := c2) hS hA hB l1 l2
  by_cases e0 : rowsE A B = 0
  case neg =>
    have eg : gsE A B = rowsE A B := by unfold gsE; rw [if_pos e0]
    have HF : HeldR (∀ er, ErrIs a (rowsE A B) er → GuPost a A B w (.returned (.tuple #[.int .i64 0, er])) w) := hideR (fun er h => ⟨0, er, rfl, by rw [eg]; exact h, fun _ => rfl, fun q => absurd (eg ▸ q) e0, Below.refl _ _⟩)
    have HE := hideR e0
    obtain ⟨nA, hnA⟩ : ∃ n, A.length = n := ⟨_, rfl⟩
    obtain ⟨nB, hnB⟩ : ∃ n, B.length = n := ⟨_, rfl⟩
    rw [hnA] at hwr l1 ⊢
    rw [hnB] at hwr l2 ⊢
    clear hS hA hB e0 hnA hnB eg
    go_enter Tryd.func25, Tryd.ntmps25
    go_wp2_with fail
    refine hwr.mono ?_
    rintro e u ⟨er, rfl, her, rfl⟩
    have HR := hideR (unhideR HF er her)
    obtain ⟨kk, rfl⟩ := errIs_ne her (unhideR HE)
    clear hwr her
    go_wp2
    go_ret2
    exact unhideR HR
  case pos =>
  obtain ⟨n, hO⟩ := rows_ok e0
  unfold WrPost at hwr
  rw [e0] at hwr
  have eg : gsE A B = if twoB n = true then 0 else 5 := by unfold gsE; rw [if_neg (fun q => q e0), hO.la]
  have hfew := hO.few
  have hpos := hO.pos
  have x4 := hS.g4
  have hpw := fun u => isPower_any n hfew u
  have HGd : HeldR (∀ d, n = 2 ^ d → Calls Tryd.prog 42 #[.slice a1 n c1, .slice a2 n c2] w (GdPost A B d n w)) := hideR (fun d hd => guessed_any hA hB hO.la hO.lb hd hfew)
  have hla := hO.la
  rw [hO.la, hO.lb] at hwr ⊢
  cases q : twoB n with
  | false =>
    have HR : HeldR (GuPost a A B w (.returned (.tuple #[.int .i64 0, .iface 120 (.pointer (some (a 4)))])) w.drew) := hideR ⟨0, _, rfl, by rw [eg, q]; exact err_at 4 (by decide), fun _ => rfl, (fun h => absurd h (by rw [eg, q]; decide)), drew1_below w⟩
    rw [q] at hpw
    clear hS hA hB l1 l2 e0 hO eg HGd hla
    go_enter Tryd.func25, Tryd.ntmps25
    go_wp2_with fail
    refine hwr.mono ?_
    rintro e u ⟨er, rfl, her, rfl⟩
    obtain rfl := errIs_0 her
    clear hwr her
    go_wp2_with fail
    refine (hpw _).mono ?_
    rintro e u2 ⟨rfl, rfl⟩
    clear hpw
    go_wp2
    go_region
    go_wp2
    go_ret2
    exact unhideR HR
  | true =>
    obtain ⟨d, hd⟩ := twoB_is q
    have hgd := unhideR HGd d hd
    have HR : HeldR (∀ (Z : List (Nat × Nat)) (F : List Nat) u, GsR A B d Z → ReK Z n F n → Below w.heap.size w u → GuPost a A B w (.returned (.tuple #[.int .i64 (bestN (fun k => F.getD k 0) n : Nat), .nilIface])) u) := hideR (fun Z F u h1 h2 h3 => by
      refine ⟨_, _, rfl, .inl ⟨by rw [eg, q]; rfl, rfl⟩, fun h => absurd (by rw [eg, q]; rfl) h, fun _ => ⟨d, Z, hla.trans hd, h1, ?_⟩, h3⟩
      rw [← hd]
      exact bestN_same hpos (fun k hk => .inl (h2.2 k hk)) n (Nat.le_refl _))
    rw [q] at hpw
    clear hS hA hB l1 l2 e0 hO eg HGd hla x4 hd
    go_enter Tryd.func25, Tryd.ntmps25
    go_wp2_with fail
    refine hwr.mono ?_
    rintro e u ⟨er, rfl, her, rfl⟩
    obtain rfl := errIs_0 her
    clear hwr her
    go_wp2_with fail
    refine (hpw _).mono ?_
    rintro e u2 ⟨rfl, rfl⟩
    clear hpw
    go_wp2_with fail
    refine hgd.mono ?_
    rintro e u3 ⟨Z, F, g, rfl, hZ, hF, hc, hb⟩
    have hfg := firstGreatestF_any (cap := n) hc hF.1 (by omega) hpos
    have HR2 := hideR (unhideR HR Z F u3 hZ hF hb)
    clear hgd hZ hF hc hb HR
    go_wp2_with fail
    refine hfg.mono ?_
    rintro e u4 ⟨rfl, rfl⟩
    clear hfg
    go_wp2
    go_ret2
    exact unhideR HR2
end Go.Proofs.YtngdemhhcablmakDoor
