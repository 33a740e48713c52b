/-
  The program's Both, Either, But, by contract.
-/
import Derived.Test.YthhhomlgcefalahDoorDS2
import Derived.Test.YthhhomlgcefalahDoorDS3
import Derived.Test.YthhhomlgcefalahDoorDS4
import Derived.Test.YthhhomlgcefalahDoorDS6
namespace Go.Proofs.YthhhomlgcefalahDoor
open Go Go.RowKit

def MixOK (a : Nat → Addr) (f : Bool → Bool → Bool) (A B : List Spn) (w : World) (e : Ending) (w' : World) : Prop := ∃ (x : Value) (X : List Spn) (ad : Option Addr) (cap : Nat), e = .returned (.tuple #[.slice ad X.length cap, x]) ∧ ErrIs a (spE A B) x ∧ (spE A B ≠ 0 → X = []) ∧ (spE A B = 0 → riseV X ∧ X.length ≤ 20000 ∧ ∀ y, inV X y = f (inV A y) (inV B y)) ∧ SpCame w' ad X ∧ Below w.heap.size w w'
set_option maxRecDepth 100000 in
set_option maxHeartbeats 1600000 in
theorem mixed_wrong (a : Nat → Addr) (f : Bool → Bool → Bool) (v : Value) (ad1 ad2 : Option Addr) (c1 c2 : Nat) (A B : List Spn) (w : World) (k : Nat) (hk : k < 10) (hE : spE A B = (k : Int) + 1)
    (hv : Calls Tryd.prog 33 #[.slice (some ⟨w.heap.size, 0, none⟩) 2 2] (w.alloc (.cells #[.slice ad1 A.length c1, .slice ad2 B.length c2] 28)) fun e w' => e = .returned (.iface 148 (.pointer (some (a k)))) ∧ Below w.heap.size w w') :
    Calls Tryd.prog 29 #[.slice ad1 A.length c1, .slice ad2 B.length c2, v] w (MixOK a f A B w) := by
  have HX : HeldR (∀ w', Below w.heap.size w w' → MixOK a f A B w (.returned (.tuple #[.slice none 0 0, .iface 148 (.pointer (some (a k)))])) w') := fun w' hw => ⟨_, [], none, 0, rfl, by rw [hE]; exact err_at k hk, fun _ => rfl, fun q => by omega, SpCame.nil _ _, hw⟩
  clear hE
  go_enter Tryd.func29, Tryd.ntmps29
  go_wp2_with fail
  refine hv.mono ?_
  rintro e W1 ⟨rfl, k1⟩
  have HF := hideR (unhideR HX W1 k1)
  clear HX k1 hv
  go_wp2
  go_ret2
  exact unhideR HF
theorem mixed_both_ok (a : Nat → Addr) (ad1 ad2 : Option Addr) (c1 c2 : Nat) (A B : List Spn) (w : World) (hSe : Sents w a) (hr1 : SpCame w ad1 A) (hr2 : SpCame w ad2 B) (l1 : A.length * 16 ≤ 140737488355328) (l2 : B.length * 16 ≤ 140737488355328) :
    Calls Tryd.prog 29 #[.slice ad1 A.length c1, .slice ad2 B.length c2, .func (.func 31) #[] #[]] w (MixOK a (fun x y => x && y) A B w) := by
  have hv := valid_two a ad1 ad2 c1 c2 A B w hSe hr1 hr2 l1 l2
  by_cases h0 : spE A B = 0
  · obtain ⟨_, h1, h2, h3, h4⟩ := spE_alone h0
    refine (mixed_both ad1 ad2 c1 c2 A B w hr1 hr2 h1 h2 h3 h4 (hv.mono ?_)).mono ?_
    · rintro e w' ⟨y, rfl, hy, hw⟩
      rcases hy with ⟨_, rfl⟩ | ⟨k, _, q, _⟩
      · exact ⟨rfl, hw⟩
      · omega
    · rintro e w' ⟨X, ad, cap, rfl, hm, hc, hw⟩
      exact ⟨_, X, ad, cap, rfl, .inl ⟨h0, rfl⟩, fun q => absurd h0 q, fun _ => ⟨hm.rise, hm.few, hm.at_⟩, hc, hw⟩
  · obtain ⟨k, hk, hE⟩ : ∃ k : Nat, k < 10 ∧ spE A B = (k : Int) + 1 := by
      rcases spE_range A B with q | q | q
      · exact absurd q h0
      · exact ⟨1, by decide, by rw [q]; rfl⟩
      · exact ⟨4, by decide, by rw [q]; rfl⟩
    refine mixed_wrong a _ _ ad1 ad2 c1 c2 A B w k hk hE (hv.mono ?_)
    rintro e w' ⟨y, rfl, hy, hw⟩
    rcases hy with ⟨q, _⟩ | ⟨k', _, q, rfl⟩
    · exact absurd q h0
    · obtain rfl : k = k' := by omega
      exact ⟨rfl, hw⟩
set_option maxRecDepth 100000 in
set_option maxHeartbeats 1600000 in
theorem both_ok (a : Nat → Addr) : SpansOK a 15 (fun x y => x && y) := by
  intro ad1 ad2 c1 c2 A B w hSe hr1 hr2 l1 l2
  show Calls _ _ _ _ (MixOK a (fun x y => x && y) A B w)
  have hm := mixed_both_ok a ad1 ad2 c1 c2 A B w hSe hr1 hr2 l1 l2
  clear hSe hr1 hr2
  go_enter Tryd.func15, Tryd.ntmps15
  go_wp2_with fail
  refine hm.mono ?_
  rintro e w1 ⟨x, X, ad, cap, rfl, h1, h2, h3, h4, h5⟩
  have HF : HeldR (MixOK a (fun x y => x && y) A B w (.returned (.tuple #[.slice ad X.length cap, x])) w1) := ⟨x, X, ad, cap, rfl, h1, h2, h3, h4, h5⟩
  clear h1 h2 h3 h4 h5 hm
  go_wp2
  go_ret2
  exact unhideR HF
theorem mixed_either_ok (a : Nat → Addr) (ad1 ad2 : Option Addr) (c1 c2 : Nat) (A B : List Spn) (w : World) (hSe : Sents w a) (hr1 : SpCame w ad1 A) (hr2 : SpCame w ad2 B) (l1 : A.length * 16 ≤ 140737488355328) (l2 : B.length * 16 ≤ 140737488355328) :
    Calls Tryd.prog 29 #[.slice ad1 A.length c1, .slice ad2 B.length c2, .func (.func 30) #[] #[]] w (MixOK a (fun x y => x || y) A B w) := by
  have hv := valid_two a ad1 ad2 c1 c2 A B w hSe hr1 hr2 l1 l2
  by_cases h0 : spE A B = 0
  · obtain ⟨_, h1, h2, h3, h4⟩ := spE_alone h0
    refine (mixed_either ad1 ad2 c1 c2 A B w hr1 hr2 h1 h2 h3 h4 (hv.mono ?_)).mono ?_
    · rintro e w' ⟨y, rfl, hy, hw⟩
      rcases hy with ⟨_, rfl⟩ | ⟨k, _, q, _⟩
      · exact ⟨rfl, hw⟩
      · omega
    · rintro e w' ⟨X, ad, cap, rfl, hm, hc, hw⟩
      exact ⟨_, X, ad, cap, rfl, .inl ⟨h0, rfl⟩, fun q => absurd h0 q, fun _ => ⟨hm.rise, hm.few, hm.at_⟩, hc, hw⟩
  · obtain ⟨k, hk, hE⟩ : ∃ k : Nat, k < 10 ∧ spE A B = (k : Int) + 1 := by
      rcases spE_range A B with q | q | q
      · exact absurd q h0
      · exact ⟨1, by decide, by rw [q]; rfl⟩
      · exact ⟨4, by decide, by rw [q]; rfl⟩
    refine mixed_wrong a _ _ ad1 ad2 c1 c2 A B w k hk hE (hv.mono ?_)
    rintro e w' ⟨y, rfl, hy, hw⟩
    rcases hy with ⟨q, _⟩ | ⟨k', _, q, rfl⟩
    · exact absurd q h0
    · obtain rfl : k = k' := by omega
      exact ⟨rfl, hw⟩
set_option maxRecDepth 100000 in
set_option maxHeartbeats 1600000 in
theorem either_ok (a : Nat → Addr) : SpansOK a 14 (fun x y => x || y) := by
  intro ad1 ad2 c1 c2 A B w hSe hr1 hr2 l1 l2
  show Calls _ _ _ _ (MixOK a (fun x y => x || y) A B w)
  have hm := mixed_either_ok a ad1 ad2 c1 c2 A B w hSe hr1 hr2 l1 l2
  clear hSe hr1 hr2
  go_enter Tryd.func14, Tryd.ntmps14
  go_wp2_with fail
  refine hm.mono ?_
  rintro e w1 ⟨x, X, ad, cap, rfl, h1, h2, h3, h4, h5⟩
  have HF : HeldR (MixOK a (fun x y => x || y) A B w (.returned (.tuple #[.slice ad X.length cap, x])) w1) := ⟨x, X, ad, cap, rfl, h1, h2, h3, h4, h5⟩
  clear h1 h2 h3 h4 h5 hm
  go_wp2
  go_ret2
  exact unhideR HF
theorem mixed_but_ok (a : Nat → Addr) (ad1 ad2 : Option Addr) (c1 c2 : Nat) (A B : List Spn) (w : World) (hSe : Sents w a) (hr1 : SpCame w ad1 A) (hr2 : SpCame w ad2 B) (l1 : A.length * 16 ≤ 140737488355328) (l2 : B.length * 16 ≤ 140737488355328) :
    Calls Tryd.prog 29 #[.slice ad1 A.length c1, .slice ad2 B.length c2, .func (.func 32) #[] #[]] w (MixOK a (fun x y => x && !y) A B w) := by
  have hv := valid_two a ad1 ad2 c1 c2 A B w hSe hr1 hr2 l1 l2
  by_cases h0 : spE A B = 0
  · obtain ⟨_, h1, h2, h3, h4⟩ := spE_alone h0
    refine (mixed_but ad1 ad2 c1 c2 A B w hr1 hr2 h1 h2 h3 h4 (hv.mono ?_)).mono ?_
    · rintro e w' ⟨y, rfl, hy, hw⟩
      rcases hy with ⟨_, rfl⟩ | ⟨k, _, q, _⟩
      · exact ⟨rfl, hw⟩
      · omega
    · rintro e w' ⟨X, ad, cap, rfl, hm, hc, hw⟩
      exact ⟨_, X, ad, cap, rfl, .inl ⟨h0, rfl⟩, fun q => absurd h0 q, fun _ => ⟨hm.rise, hm.few, hm.at_⟩, hc, hw⟩
  · obtain ⟨k, hk, hE⟩ : ∃ k : Nat, k < 10 ∧ spE A B = (k : Int) + 1 := by
      rcases spE_range A B with q | q | q
      · exact absurd q h0
      · exact ⟨1, by decide, by rw [q]; rfl⟩
      · exact ⟨4, by decide, by rw [q]; rfl⟩
    refine mixed_wrong a _ _ ad1 ad2 c1 c2 A B w k hk hE (hv.mono ?_)
    rintro e w' ⟨y, rfl, hy, hw⟩
    rcases hy with ⟨q, _⟩ | ⟨k', _, q, rfl⟩
    · exact absurd q h0
    · obtain rfl : k = k' := by omega
      exact ⟨rfl, hw⟩
set_option maxRecDepth 100000 in
set_option maxHeartbeats 1600000 in
theorem but_ok (a : Nat → Addr) : SpansOK a 17 (fun x y => x && !y) := by
  intro ad1 ad2 c1 c2 A B w hSe hr1 hr2 l1 l2
  show Calls _ _ _ _ (MixOK a (fun x y => x && !y) A B w)
  have hm := mixed_but_ok a ad1 ad2 c1 c2 A B w hSe hr1 hr2 l1 l2
  clear hSe hr1 hr2
  go_enter Tryd.func17, Tryd.ntmps17
  go_wp2_with fail
  refine hm.mono ?_
  rintro e w1 ⟨x, X, ad, cap, rfl, h1, h2, h3, h4, h5⟩
  have HF : HeldR (MixOK a (fun x y => x && !y) A B w (.returned (.tuple #[.slice ad X.length cap, x])) w1) := ⟨x, X, ad, cap, rfl, h1, h2, h3, h4, h5⟩
  clear h1 h2 h3 h4 h5 hm
  go_wp2
  go_ret2
  exact unhideR HF
end Go.Proofs.YthhhomlgcefalahDoor
