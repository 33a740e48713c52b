/-
  A name put into a list that rises: the document's insert, by contract. Entries of an atlas in memory. Nothing of the program's text.
-/
import Derived.Test.YtfonpobdnhifgamGreatDoorKitA
import Derived.Laws.Strings
import Derived.Laws.AppendOwnNone
import Derived.Deep.CutRange
import Derived.Test.YtfonpobdnhifgamGreatDoorAtPA
namespace Go.Proofs.YtfonpobdnhifgamGreatDoor
open Go Go.RowKit

def lessB (a b : ByteArray) : Bool := Op.bytesLess a.toList b.toList
/-- a name put in behind those that are less. -/
def insV (L : List ByteArray) (s : ByteArray) : List ByteArray := L.takeWhile (fun a => lessB a s) ++ s :: L.dropWhile (fun a => lessB a s)
theorem cell_oneS (w : World) (v : Value) (t : TypeId) : ∀ j u, [v][j]? = some u → (w.alloc (.cells #[v] t)).cell? ((⟨w.heap.size, 0, none⟩ : Addr).add j) = some u := by
  intro j u h
  have hj : j = 0 := by
    have := (List.getElem?_eq_some_iff.1 h).1
    simpa using this
  subst hj
  simp at h
  subst h
  rw [add_pl2]
  exact (cells_at (alloc_last w (.cells #[v] t)) 0 (by simp)).1
/-- names that came in. -/
structure SCm (w : World) (ad : Option Addr) (L : List ByteArray) : Prop where
  at_ : ∀ k, k < L.length → ∃ b off, ad = some ⟨b, off, none⟩ ∧ b < w.heap.size ∧ w.cell? ⟨b, off + k, none⟩ = some (.string (L.getD k ByteArray.empty))
theorem SCm.below {w v : World} {ad : Option Addr} {L : List ByteArray} (h : SCm w ad L) (k : Below w.heap.size w v) : SCm v ad L := ⟨fun j hj => by
  obtain ⟨b, off, e, hb, h1⟩ := h.at_ j hj
  exact ⟨b, off, e, Nat.lt_of_lt_of_le hb k.size, (k.cell (p := ⟨b, off + j, none⟩) hb).trans h1⟩⟩
theorem infoS : (Tryz.prog.info? 9).map (fun i => (i.zero, i.size, i.bytes)) = some (some (.string ByteArray.empty), 1, 16) := by kernel_rfl
theorem tw_take {L : List ByteArray} {p : ByteArray → Bool} {i : Nat} (hi : i ≤ L.length) (h1 : ∀ j, j < i → p (L.getD j ByteArray.empty) = true) (h2 : i < L.length → p (L.getD i ByteArray.empty) = false) : L.takeWhile p = L.take i ∧ L.dropWhile p = L.drop i := by
  induction L generalizing i with
  | nil => simp
  | cons a L ih =>
    cases i with
    | zero =>
      have := h2 (by simp)
      simp at this
      simp [this]
    | succ i =>
      have ha := h1 0 (by omega)
      simp at ha
      have := ih (i := i) (by simpa using hi) (fun j hj => by have := h1 (j + 1) (by omega); simpa using this) (fun hj => by have := h2 (by simpa using hj); simpa using this)
      simp [ha, this]
set_option maxRecDepth 100000 in
set_option maxHeartbeats 3200000 in
theorem insert_any {w : World} {ad : Option Addr} {cap : Nat} {L : List ByteArray} (s : ByteArray) (hL : SCm w ad L) (hl : L.length ≤ 4000) (hcap : L.length ≤ cap) (hnil : (ad = none ∧ L.length = 0 ∧ cap = 0) ∨ ∃ g, ad = some ⟨g, 0, none⟩) :
    Calls Tryz.prog 33 #[.slice ad L.length cap, .string s] w fun e w' => ∃ v, e = .returned v ∧ w'.ownsRow w.heap.size 9 1 v (insV L s).length ((insV L s).map Value.string) ∧ Below w.heap.size w w' := by
  obtain ⟨i0, hi, hz0, hz1, hz2⟩ := info_parts infoS
  have HL : HeldR (∀ u, Below w.heap.size w u → SCm u ad L) := hideR (fun u q => hL.below q)
  have HF : HeldR (∀ i, i ≤ L.length → (∀ j, j < i → lessB (L.getD j ByteArray.empty) s = true) → (i < L.length → lessB (L.getD i ByteArray.empty) s = false) → insV L s = L.take i ++ s :: L.drop i) := hideR (fun i h0 h1 h2 => by
    have := tw_take (p := fun a => lessB a s) h0 h1 h2
    unfold insV
    rw [this.1, this.2])
  have H0 : HeldR (w.ownsRow w.heap.size 9 1 (.slice none 0 0) 0 ((L.take 0).map Value.string)) := hideR (by simpa using World.ownsRow_nil w w.heap.size 9 1)
  obtain ⟨n, hn⟩ : ∃ n, L.length = n := ⟨_, rfl⟩
  have Hn := hideR hn
  rw [hn] at hl hcap hnil ⊢
  clear hL hn
  go_enter Tryz.func33, Tryz.ntmps33
  go_wp2_with fail
  go_loopw [5, 6] (fun ov iv wl => ∃ i : Nat, i ≤ n ∧ iv = .int .i64 (i : Nat) ∧ HeldR (∀ j, j < i → lessB (L.getD j ByteArray.empty) s = true) ∧ HeldR (wl.ownsRow w.heap.size 9 1 ov i ((L.take i).map Value.string)) ∧ HeldR (Below w.heap.size w wl)) (fun _ iv _ => n + 1 - (intOf iv).toNat)
  case atStart => exact ⟨0, by omega, rfl, hideR (fun j hj => by omega), H0, hideR (Below.refl _ _)⟩
  case round =>
    clear H0
    obtain ⟨i, hin, rfl, HJ, HO, HB⟩ := hrel
    obtain ⟨xs, hxs⟩ : ∃ xs, (L.take i).map Value.string = xs := ⟨_, rfl⟩
    rw [hxs] at HO
    have HXs := hideR hxs
    clear hxs
    by_cases q : i < n
    · have ti : decide ((i : Int) < (n : Int)) = true := decide_eq_true (by omega)
      have tin : decide (i < n) = true := decide_eq_true q
      have wi : IntKind.i64.wrap ((i : Int) + 1) = (i : Int) + 1 := iwrap (by omega) (by omega)
      have hin2 : (i : Int) < (n : Int) := by omega
      obtain ⟨b, off, e, hb, hc⟩ := (unhideR HL wr (unhideR HB)).at_ i (by rw [unhideR Hn]; exact q)
      subst e
      have HT : HeldR (L.take (i + 1) = L.take i ++ [L.getD i ByteArray.empty]) := hideR (by
        rw [List.take_add_one, List.getElem?_eq_getElem (by rw [unhideR Hn]; exact q), List.getD_eq_getElem?_getD, List.getElem?_eq_getElem (by rw [unhideR Hn]; exact q)]
        rfl)
      by_cases q2 : lessB (L.getD i ByteArray.empty) s = true
      · have HJ2 : HeldR (∀ j, j < i + 1 → lessB (L.getD j ByteArray.empty) s = true) := hideR (fun j hj => by
          by_cases ej : j = i
          · rw [ej]; exact q2
          · exact unhideR HJ j (by omega))
        unfold lessB at q2
        generalize L.getD i ByteArray.empty = x at *
        clear HF HJ HL
        go_wp2_with (first
          | (at_builtin; refine wpList_append_own _ rfl _ _ 32 rfl w.heap.size 9 i0 (.string ByteArray.empty) 1 16 Tryz.underlying32 hi hz0 hz1 hz2 rfl (by decide) _ i _ rfl ((unhideR HO).alloc _) ⟨wr.heap.size, 0, none⟩ 1 1 [.string x] rfl rfl ?c1 ?c2 ?c3 ?c4 ?c5 ?_))
        case c1 => exact cell_oneS _ _ _
        case c2 => intro u hu; simp at hu; subst hu; rfl
        case c3 => unfold maxLen; omega
        case c4 => omega
        case c5 =>
          have := (unhideR HB).size
          simp
          omega
        intro v' w1 hown' hgrow _
        have hB : Below w.heap.size w w1 := ((unhideR HB).alloc (unhideR HB).size _).grown hgrow (by have := (unhideR HB).size; simp; omega) (fun k e => ((unhideR HO).lt k e).1)
        have hO : HeldR (w1.ownsRow w.heap.size 9 1 v' (i + 1) ((L.take (i + 1)).map Value.string)) := hideR (by rw [unhideR HT, List.map_append, unhideR HXs]; exact hown')
        have HB2 := hideR hB
        clear hgrow hown' hB HO HB hc hb
        go_wp2
        exact ⟨⟨i + 1, by omega, by go_num, HJ2, hO, HB2⟩, by simp [intOf]; omega⟩
      · have q3 : Op.bytesLess (L.getD i ByteArray.empty).toList s.toList = false := by
          have : lessB (L.getD i ByteArray.empty) s = false := by simpa using q2
          exact this
        have HI := hideR (unhideR HF i (by rw [unhideR Hn]; exact hin) (unhideR HJ) (fun _ => by simpa using q2))
        generalize L.getD i ByteArray.empty = x at hc q3
        clear HF HJ q2 HT
        go_wp2_with (first
          | (at_builtin; refine wpList_append_own _ rfl _ _ 32 rfl w.heap.size 9 i0 (.string ByteArray.empty) 1 16 Tryz.underlying32 hi hz0 hz1 hz2 rfl (by decide) _ i _ rfl ((unhideR HO).alloc _) ⟨wr.heap.size, 0, none⟩ 1 1 [.string s] rfl rfl ?c1 ?c2 ?c3 ?c4 ?c5 ?_))
        case c1 => exact cell_oneS _ _ _
        case c2 => intro u hu; simp at hu; subst hu; rfl
        case c3 => unfold maxLen; omega
        case c4 => omega
        case c5 =>
          have := (unhideR HB).size
          simp
          omega
        intro v1 w1 hown1 hgrow1 _
        have hB1 : Below w.heap.size w w1 := ((unhideR HB).alloc (unhideR HB).size _).grown hgrow1 (by have := (unhideR HB).size; simp; omega) (fun k e => ((unhideR HO).lt k e).1)
        obtain ⟨ys, hys⟩ : ∃ ys, xs ++ [Value.string s] = ys := ⟨_, rfl⟩
        rw [hys] at hown1
        have HYs := hideR hys
        have HO1 := hideR hown1
        clear hys
        have HB1 := hideR hB1
        clear hgrow1 hown1 hB1 HO HB
        have ci : ¬ cap ≤ i := by omega
        have ci2 : i < cap := by omega
        obtain ⟨ds, hds⟩ : ∃ ds, (L.drop i).map Value.string = ds := ⟨_, rfl⟩
        have HDs := hideR hds
        clear hds
        go_wp2_with (first
          | (at_builtin; refine wpList_append_own _ rfl _ _ 32 rfl w.heap.size 9 i0 (.string ByteArray.empty) 1 16 Tryz.underlying32 hi hz0 hz1 hz2 rfl (by decide) _ (i + 1) _ rfl (unhideR HO1) ⟨b, off + i, none⟩ (n - i) (cap - i) ds rfl ?d0 ?c1 ?c2 ?c3 ?c4 ?c5 ?_))
        case d0 => rw [← unhideR HDs, List.length_map, List.length_drop, unhideR Hn, Nat.mul_one]
        case c1 =>
          intro j u hj
          rw [← unhideR HDs] at hj
          have hlt : j < (L.drop i).length := by
            have h := (List.getElem?_eq_some_iff.1 hj).1
            simpa using h
          rw [List.length_drop, unhideR Hn] at hlt
          obtain ⟨b', off', e, _, h1⟩ := (unhideR HL w1 (unhideR HB1)).at_ (i + j) (by rw [unhideR Hn]; omega)
          cases e
          rw [add_pl2, Nat.add_assoc, h1]
          rw [List.getElem?_map, List.getElem?_drop] at hj
          rw [← hj]
          simp [List.getD, List.getElem?_eq_getElem (show i + j < L.length by rw [unhideR Hn]; omega)]
        case c2 =>
          intro u hu
          rw [← unhideR HDs] at hu
          simp only [List.mem_map] at hu
          obtain ⟨y, _, rfl⟩ := hu
          rfl
        case c3 => unfold maxLen; omega
        case c4 => omega
        case c5 => exact (unhideR HB1).size
        intro v2 w2 hown2 hgrow2 _
        have hB2 : Below w.heap.size w w2 := (unhideR HB1).grown hgrow2 (unhideR HB1).size (fun k e => ((unhideR HO1).lt k e).1)
        have hO2 : w2.ownsRow w.heap.size 9 1 v2 (insV L s).length ((insV L s).map Value.string) := by
          have e1 : (insV L s).map Value.string = ys ++ (L.drop i).map Value.string := by
            rw [unhideR HI, ← unhideR HYs, ← unhideR HXs]
            simp
          have e2 : (insV L s).length = i + 1 + (n - i) := by
            rw [unhideR HI, List.length_append, List.length_cons, List.length_take, List.length_drop, unhideR Hn]
            omega
          rw [e1, e2, unhideR HDs]
          exact hown2
        have HE := hideR (And.intro hO2 hB2)
        clear hown2 hgrow2 hB2 hO2 HO1 HB1
        go_wp2
        go_ret
        exact ⟨_, rfl, unhideR HE⟩
    · obtain rfl : i = n := by omega
      have ti : decide ((i : Int) < (i : Int)) = false := decide_eq_false (by omega)
      have tin : decide (i < i) = false := decide_eq_false (by omega)
      have HI := hideR (unhideR HF i (by rw [unhideR Hn]; exact hin) (unhideR HJ) (fun h => by rw [unhideR Hn] at h; omega))
      clear HF HJ
      go_wp2_with (first
        | (at_builtin; refine wpList_append_own _ rfl _ _ 32 rfl w.heap.size 9 i0 (.string ByteArray.empty) 1 16 Tryz.underlying32 hi hz0 hz1 hz2 rfl (by decide) _ i _ rfl ((unhideR HO).alloc _) ⟨wr.heap.size, 0, none⟩ 1 1 [.string s] rfl rfl ?c1 ?c2 ?c3 ?c4 ?c5 ?_))
      case c1 => exact cell_oneS _ _ _
      case c2 => intro u hu; simp at hu; subst hu; rfl
      case c3 => unfold maxLen; omega
      case c4 => omega
      case c5 =>
        have := (unhideR HB).size
        simp
        omega
      intro v1 w1 hown1 hgrow1 _
      have hB1 : Below w.heap.size w w1 := ((unhideR HB).alloc (unhideR HB).size _).grown hgrow1 (by have := (unhideR HB).size; simp; omega) (fun k e => ((unhideR HO).lt k e).1)
      obtain ⟨ys, hys⟩ : ∃ ys, xs ++ [Value.string s] = ys := ⟨_, rfl⟩
      rw [hys] at hown1
      have HYs := hideR hys
      have HO1 := hideR hown1
      clear hys
      have HB1 := hideR hB1
      clear hgrow1 hown1 hB1 HO HB
      have HLast : HeldR ((insV L s).map Value.string = ys ∧ (insV L s).length = i + 1) := hideR (by
        have e0 : L.drop i = [] := List.drop_eq_nil_iff.2 (by rw [unhideR Hn]; exact Nat.le_refl _)
        constructor
        · rw [unhideR HI, ← unhideR HYs, ← unhideR HXs, e0]
          simp
        · rw [unhideR HI, e0, List.length_append, List.length_take, unhideR Hn]
          simp)
      rcases hnil with ⟨rfl, rfl, rfl⟩ | ⟨g, rfl⟩
      · go_wp2_with (first
          | (at_builtin; refine wpList_append_own_none rfl _ _ 32 rfl w.heap.size 9 i0 1 Tryz.underlying32 hi _ _ _ rfl (unhideR HO1) rfl ?_))
        have HE : HeldR (w1.ownsRow w.heap.size 9 1 v1 (insV L s).length ((insV L s).map Value.string) ∧ Below w.heap.size w w1) := hideR (by
          refine ⟨?_, unhideR HB1⟩
          rw [(unhideR HLast).1, (unhideR HLast).2]
          exact unhideR HO1)
        clear HO1 HB1
        go_wp2
        go_ret
        exact ⟨_, rfl, unhideR HE⟩
      · by_cases qc : cap = i
        · have qc2 : i = cap := qc.symm
          subst qc2
          go_wp2_with (first
            | (at_builtin; refine wpList_append_own _ rfl _ _ 32 rfl w.heap.size 9 i0 (.string ByteArray.empty) 1 16 Tryz.underlying32 hi hz0 hz1 hz2 rfl (by decide) _ (i + 1) _ rfl (unhideR HO1) ⟨g, 0, none⟩ 0 0 [] rfl ?d0 ?c1 ?c2 ?c3 ?c4 ?c5 ?_))
          case c3 => unfold maxLen; omega
          case c4 => omega
          case c5 => exact (unhideR HB1).size
          intro v2 w2 hown2 hgrow2 _
          have hB2 : Below w.heap.size w w2 := (unhideR HB1).grown hgrow2 (unhideR HB1).size (fun k e => ((unhideR HO1).lt k e).1)
          have HE : HeldR (w2.ownsRow w.heap.size 9 1 v2 (insV L s).length ((insV L s).map Value.string) ∧ Below w.heap.size w w2) := hideR (by
            refine ⟨?_, hB2⟩
            rw [(unhideR HLast).1, (unhideR HLast).2]
            simpa using hown2)
          clear hown2 hgrow2 hB2 HO1 HB1
          go_wp2
          go_ret
          exact ⟨_, rfl, unhideR HE⟩
        · have ci : ¬ cap ≤ i := by omega
          have ci2 : i < cap := by omega
          go_wp2_with (first
            | (at_builtin; refine wpList_append_own _ rfl _ _ 32 rfl w.heap.size 9 i0 (.string ByteArray.empty) 1 16 Tryz.underlying32 hi hz0 hz1 hz2 rfl (by decide) _ (i + 1) _ rfl (unhideR HO1) _ 0 _ [] rfl (by rfl) (fun j u hj => by simp at hj) (fun u hu => by cases hu) ?c3 ?c4 ?c5 ?_))
          case c3 => unfold maxLen; omega
          case c4 => omega
          case c5 => exact (unhideR HB1).size
          intro v2 w2 hown2 hgrow2 _
          have hB2 : Below w.heap.size w w2 := (unhideR HB1).grown hgrow2 (unhideR HB1).size (fun k e => ((unhideR HO1).lt k e).1)
          have HE : HeldR (w2.ownsRow w.heap.size 9 1 v2 (insV L s).length ((insV L s).map Value.string) ∧ Below w.heap.size w w2) := hideR (by
            refine ⟨?_, hB2⟩
            rw [(unhideR HLast).1, (unhideR HLast).2]
            simpa using hown2)
          clear hown2 hgrow2 hB2 HO1 HB1
          go_wp2
          go_ret
          exact ⟨_, rfl, unhideR HE⟩
end Go.Proofs.YtfonpobdnhifgamGreatDoor
namespace Go.Proofs.YtfonpobdnhifgamGreatDoor
open Go Go.RowKit

/-- an entry: a name, a direction, a light. -/
structure En where
  nm : ByteArray
  d : Dr
  li : Int
def en0 : En := ⟨ByteArray.empty, dr0, 0⟩
structure EnAt (w : World) (b o : Nat) (s : En) : Prop where
  c0 : w.cell? ⟨b, o, none⟩ = some (.string s.nm)
  c1 : w.cell? ⟨b, o + 1, none⟩ = some (.int .i64 s.d.x)
  c2 : w.cell? ⟨b, o + 2, none⟩ = some (.int .i64 s.d.y)
  c3 : w.cell? ⟨b, o + 3, none⟩ = some (.int .i64 s.d.z)
  c4 : w.cell? ⟨b, o + 4, none⟩ = some (.int .i64 s.li)
theorem EnAt.below {w v : World} {b o B : Nat} {s : En} (h : EnAt w b o s) (k : Below B w v) (hb : b < B) : EnAt v b o s :=
  ⟨(k.cell hb).trans h.c0, (k.cell hb).trans h.c1, (k.cell hb).trans h.c2, (k.cell hb).trans h.c3, (k.cell hb).trans h.c4⟩
structure EnCame (w : World) (ad : Option Addr) (L : List En) : Prop where
  at_ : ∀ k, k < L.length → ∃ b off, ad = some ⟨b, off, none⟩ ∧ b < w.heap.size ∧ EnAt w b (off + k * 5) (L.getD k en0)
theorem EnCame.below {w v : World} {ad : Option Addr} {L : List En} (h : EnCame w ad L) (k : Below w.heap.size w v) : EnCame v ad L := ⟨fun j hj => by
  obtain ⟨b, off, e, hb, h1⟩ := h.at_ j hj
  exact ⟨b, off, e, Nat.lt_of_lt_of_le hb k.size, h1.below k hb⟩⟩
theorem EnCame.nil (w : World) (ad : Option Addr) : EnCame w ad [] := ⟨fun k hk => absurd hk (Nat.not_lt_zero k)⟩
def valEn (s : En) : List Value := [.string s.nm, .int .i64 s.d.x, .int .i64 s.d.y, .int .i64 s.d.z, .int .i64 s.li]
def flatEn : List En → List Value
  | [] => []
  | s :: L => valEn s ++ flatEn L
theorem flatEn_append : ∀ (L M : List En), flatEn (L ++ M) = flatEn L ++ flatEn M
  | [], _ => rfl
  | q :: L, M => by
    show valEn q ++ flatEn (L ++ M) = (valEn q ++ flatEn L) ++ flatEn M
    rw [flatEn_append L M, List.append_assoc]
theorem flatEn_length : ∀ L : List En, (flatEn L).length = L.length * 5
  | [] => rfl
  | q :: L => by
    show (valEn q ++ flatEn L).length = _
    rw [List.length_append, flatEn_length L, List.length_cons]
    simp [valEn]
    omega
theorem flatEn_at : ∀ (L : List En) (j i : Nat), j < L.length → i < 5 → (flatEn L)[j * 5 + i]? = (valEn (L.getD j en0))[i]?
  | [], j, i, h, _ => absurd h (Nat.not_lt_zero j)
  | q :: L, 0, i, _, hi => by
    show (valEn q ++ flatEn L)[0 * 5 + i]? = _
    rw [Nat.zero_mul, Nat.zero_add, List.getElem?_append_left (by simp [valEn]; omega)]
    rfl
  | q :: L, j + 1, i, h, hi => by
    show (valEn q ++ flatEn L)[(j + 1) * 5 + i]? = _
    rw [List.getElem?_append_right (by simp [valEn]; omega)]
    have e : (j + 1) * 5 + i - (valEn q).length = j * 5 + i := by simp [valEn]; omega
    rw [e, flatEn_at L j i (by simpa using h) hi]
    rfl
theorem Enat_of {w : World} {b o : Nat} {s : En} (h : ∀ i, i < 5 → w.cell? ⟨b, o + i, none⟩ = (valEn s)[i]?) : EnAt w b o s :=
  ⟨h 0 (by decide), h 1 (by decide), h 2 (by decide), h 3 (by decide), h 4 (by decide)⟩
theorem Enown {w : World} {B : Nat} {t : TypeId} {v : Value} {L : List En} (h : w.ownsRow B t 5 v L.length (flatEn L)) : ∃ ad cap, v = .slice ad L.length cap ∧ EnCame w ad L := by
  obtain ⟨_, h⟩ := h
  rcases h with ⟨h1, h2⟩ | ⟨g, cap, cur, rfl, hB, hg, hc, _, hs, ht⟩
  · have e : L = [] := List.length_eq_zero_iff.1 h2
    subst e
    exact ⟨none, 0, h1, EnCame.nil _ _⟩
  · refine ⟨_, cap, rfl, ⟨fun j hj => ⟨g, 0, rfl, (Array.getElem?_eq_some_iff.1 hg).1, ?_⟩⟩⟩
    refine Enat_of (fun i hi => ?_)
    rw [← flatEn_at L j i hj hi, ← ht, List.getElem?_take, if_pos (by omega)]
    simp only [World.cell?, hg]
    simp
/-- a row of names that is owned, as one that came in. -/
theorem own_str {w : World} {B : Nat} {v : Value} {L : List ByteArray} (h : w.ownsRow B 9 1 v L.length (L.map Value.string)) : ∃ ad cap, v = .slice ad L.length cap ∧ SCm w ad L ∧ L.length ≤ cap ∧ ((ad = none ∧ L.length = 0 ∧ cap = 0) ∨ ∃ g, ad = some ⟨g, 0, none⟩) := by
  rcases h.2 with ⟨h1, h2⟩ | ⟨g, cap, cur, e, hB, hg, hc, hcap, hs, ht⟩
  · have e : L = [] := List.length_eq_zero_iff.1 h2
    subst e
    exact ⟨none, 0, h1, ⟨fun k hk => absurd hk (Nat.not_lt_zero k)⟩, by simp, .inl ⟨rfl, rfl, rfl⟩⟩
  · subst e
    refine ⟨_, cap, rfl, ⟨fun k hk => ⟨g, 0, rfl, (Array.getElem?_eq_some_iff.1 hg).1, ?_⟩⟩, by omega, .inr ⟨g, rfl⟩⟩
    have q : (L.map Value.string)[k]? = some (.string (L.getD k ByteArray.empty)) := by
      rw [List.getElem?_map, List.getElem?_eq_getElem hk, List.getD_eq_getElem?_getD, List.getElem?_eq_getElem hk]
      rfl
    rw [← ht, List.getElem?_take, if_pos (by omega)] at q
    rw [Nat.zero_add]
    simp only [World.cell?, hg]
    simpa using q
/-- an atlas of the document's: its level, its row. -/
structure AtB (w : World) (g : Nat) (lv : Int) (ad : Option Addr) (cap : Nat) (L : List En) : Prop where
  b : w.heap[g]? = some (.cells #[.int .i64 lv, .slice ad L.length cap] 47)
  e : EnCame w ad L
theorem AtB.below {w v : World} {g : Nat} {lv : Int} {ad : Option Addr} {cap : Nat} {L : List En} (h : AtB w g lv ad cap L) (k : Below w.heap.size w v) : AtB v g lv ad cap L := ⟨keepB h.b k, h.e.below k⟩
end Go.Proofs.YtfonpobdnhifgamGreatDoor
