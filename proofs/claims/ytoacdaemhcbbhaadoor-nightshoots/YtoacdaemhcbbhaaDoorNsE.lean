/-
  Fittings of a house in memory; where a name belongs: the program's placeOf, by contract.
-/
import Derived.Test.YtoacdaemhcbbhaaDoorNsD
import Derived.Test.YtoacdaemhcbbhaaDoorShelfC
namespace Go.Proofs.YtoacdaemhcbbhaaDoor
open Go Go.RowKit

theorem cbn : ∀ x y : List UInt8, Lib.compareBytes x y < 0 ↔ x < y
  | [], [] => by simp [Lib.compareBytes]
  | [], _ :: _ => by simp [Lib.compareBytes]
  | _ :: _, [] => by simp [Lib.compareBytes]
  | a :: x, b :: y => by
    have ih := cbn x y
    unfold Lib.compareBytes
    rw [List.cons_lt_cons_iff]
    split
    · rename_i h
      simp [h]
    · rename_i h
      split
      · rename_i h2
        have : ¬ a = b := fun e => by subst e; exact h h2
        simp [h, this]
      · rename_i h2
        have e : a = b := UInt8.le_antisymm (UInt8.not_lt.1 h2) (UInt8.not_lt.1 h)
        subst e
        rw [ih]
        simp
theorem cbz : ∀ x y : List UInt8, Lib.compareBytes x y = 0 ↔ x = y
  | [], [] => by simp [Lib.compareBytes]
  | [], _ :: _ => by simp [Lib.compareBytes]
  | _ :: _, [] => by simp [Lib.compareBytes]
  | a :: x, b :: y => by
    have ih := cbz x y
    unfold Lib.compareBytes
    split
    · rename_i h
      have : ¬ a = b := fun e => by subst e; exact absurd h (UInt8.lt_irrefl _)
      simp [this]
    · rename_i h
      split
      · rename_i h2
        have : ¬ a = b := fun e => by subst e; exact h h2
        simp [this]
      · rename_i h2
        have e : a = b := UInt8.le_antisymm (UInt8.not_lt.1 h2) (UInt8.not_lt.1 h)
        subst e
        rw [ih]
        simp
/-- the bytes of a name. -/
abbrev nb (x : ByteArray) : List UInt8 := x.data.toList
/-- a fitting: a tool and what the program made of it. -/
structure Fg where
  t : Tl
  ty : TypeId
  pv : Value
def fg0 : Fg := ⟨tl0, 0, .nilIface⟩
def Fg.v (f : Fg) : Value := .iface f.ty f.pv
def valFg (f : Fg) : List Value := [.string f.t.nm, .iface f.ty f.pv]
def flatFg : List Fg → List Value
  | [] => []
  | s :: L => valFg s ++ flatFg L
theorem flatFg_append : ∀ (L M : List Fg), flatFg (L ++ M) = flatFg L ++ flatFg M
  | [], _ => rfl
  | q :: L, M => by
    show valFg q ++ flatFg (L ++ M) = (valFg q ++ flatFg L) ++ flatFg M
    rw [flatFg_append L M, List.append_assoc]
theorem flatFg_length : ∀ L : List Fg, (flatFg L).length = L.length * 2
  | [] => rfl
  | q :: L => by
    show (valFg q ++ flatFg L).length = _
    rw [List.length_append, flatFg_length L, List.length_cons]
    show 2 + L.length * 2 = _
    omega
theorem flatFg_at : ∀ (L : List Fg) (j i : Nat), j < L.length → i < 2 → (flatFg L)[j * 2 + i]? = (valFg (L.getD j fg0))[i]?
  | [], j, _, h, _ => absurd h (Nat.not_lt_zero j)
  | q :: L, 0, i, _, hi => by
    show (valFg q ++ flatFg L)[0 * 2 + i]? = _
    rw [Nat.zero_mul, Nat.zero_add, List.getElem?_append_left (by simp [valFg]; omega)]
    rfl
  | q :: L, j + 1, i, h, hi => by
    have e : (j + 1) * 2 + i = (valFg q).length + (j * 2 + i) := by simp [valFg]; omega
    show (valFg q ++ flatFg L)[(j + 1) * 2 + i]? = _
    rw [e, List.getElem?_append_right (by omega), Nat.add_sub_cancel_left, flatFg_at L j i (by simpa using h) hi]
    rfl
theorem flatFg_one : ∀ (L : List Fg), ∀ u ∈ flatFg L, u.oneCell' = true
  | [], u, h => by cases h
  | q :: L, u, h => by
    rcases List.mem_append.1 (show u ∈ valFg q ++ flatFg L from h) with h | h
    · rcases List.mem_cons.1 h with rfl | h
      · rfl
      · rw [List.mem_singleton] at h
        subst h
        rfl
    · exact flatFg_one L u h
/-- fittings that lie somewhere. -/
structure FgCame (w : World) (ad : Option Addr) (L : List Fg) : Prop where
  at_ : ∀ k, k < L.length → ∃ b, ad = some ⟨b, 0, none⟩ ∧ b < w.heap.size ∧ w.cell? ⟨b, k * 2, none⟩ = some (.string (L.getD k fg0).t.nm) ∧ w.cell? ⟨b, k * 2 + 1, none⟩ = some (.iface (L.getD k fg0).ty (L.getD k fg0).pv)
theorem FgCame.below {w v : World} {ad : Option Addr} {L : List Fg} (h : FgCame w ad L) (k : Below w.heap.size w v) : FgCame v ad L := ⟨fun j hj => by
  obtain ⟨b, e, hb, h1, h2⟩ := h.at_ j hj
  exact ⟨b, e, Nat.lt_of_lt_of_le hb k.size, (k.cell (p := ⟨b, j * 2, none⟩) hb).trans h1, (k.cell (p := ⟨b, j * 2 + 1, none⟩) hb).trans h2⟩⟩
theorem fg_own {w : World} {B : Nat} {t : TypeId} {v : Value} {L : List Fg} (h : w.ownsRow B t 2 v L.length (flatFg L)) : ∃ ad cap, v = .slice ad L.length cap ∧ FgCame w ad L := by
  rcases h.2 with ⟨h1, h2⟩ | ⟨g, cap, cur, e, hB, hg, hc, _, hs, ht⟩
  · exact ⟨none, 0, by rw [h1, h2], ⟨fun k hk => by omega⟩⟩
  · refine ⟨_, cap, e, ⟨fun k hk => ⟨g, rfl, ltB hg, ?_⟩⟩⟩
    have key : ∀ o, o < 2 → w.cell? ⟨g, k * 2 + o, none⟩ = (valFg (L.getD k fg0))[o]? := fun o ho => by
      have q := flatFg_at L k o hk ho
      rw [← ht, List.getElem?_take, if_pos (by omega)] at q
      simp only [World.cell?, hg]
      simpa using q
    exact ⟨key 0 (by decide), key 1 (by decide)⟩
set_option maxRecDepth 100000 in
set_option maxHeartbeats 1600000 in
theorem pplace1_any (W : World) (f : Fg) (x : ByteArray) :
    Calls Tryd.prog 61 #[.agg #[.string f.t.nm, .iface f.ty f.pv], .string x] W fun e w' => e = .returned (.int .i64 (Lib.compareBytes (nb f.t.nm) (nb x))) ∧ Below W.heap.size W w' := by
  have z := alloc_last W (.cells #[.string f.t.nm, .iface f.ty f.pv] 104)
  have HB := hideR (below_a W (.cells #[.string f.t.nm, .iface f.ty f.pv] 104))
  have x0 := (cells_at z 0 (by simp)).1
  have hc := fun u => Tryd.strings_Compare f.t.nm x u
  generalize Lib.compareBytes (nb f.t.nm) (nb x) = c at *
  generalize f.t.nm = nm at *
  generalize f.ty = ty at *
  generalize f.pv = pv at *
  clear z
  go_enter Tryd.func61, Tryd.ntmps61
  go_wp2_with fail
  refine (hc _).mono ?_
  rintro e u ⟨rfl, rfl⟩
  clear hc x0
  go_wp2
  go_ret
  exact ⟨rfl, unhideR HB⟩
/-- where a name belongs among fittings in order. -/
def IsPl (X : List Fg) (x : ByteArray) (k : Nat) : Prop := k ≤ X.length ∧ (∀ j, j < k → nb (X.getD j fg0).t.nm < nb x) ∧ ∀ j, k ≤ j → j < X.length → ¬ nb (X.getD j fg0).t.nm < nb x
def atP (X : List Fg) (x : ByteArray) (k : Nat) : Bool := decide (k < X.length) && decide (nb (X.getD k fg0).t.nm = nb x)
def PlPost (X : List Fg) (x : ByteArray) (w : World) (e : Ending) (w' : World) : Prop := (∃ k : Nat, e = .returned (.tuple #[.int .i64 (k : Nat), .bool (atP X x k)]) ∧ IsPl X x k) ∧ Below w.heap.size w w'
def Ord (X : List Fg) : Prop := X.Pairwise fun a b => nb a.t.nm < nb b.t.nm
theorem Ord.at_ {X : List Fg} (h : Ord X) {i j : Nat} (hij : i < j) (hj : j < X.length) : nb (X.getD i fg0).t.nm < nb (X.getD j fg0).t.nm := by
  have := List.pairwise_iff_getElem.1 h i j (by omega) hj hij
  rw [List.getD_eq_getElem?_getD, List.getD_eq_getElem?_getD, List.getElem?_eq_getElem hj, List.getElem?_eq_getElem (by omega)]
  exact this
set_option maxRecDepth 100000 in
set_option maxHeartbeats 6400000 in
theorem pbsF_any {w : World} {ad : Option Addr} {cap : Nat} {X : List Fg} (hl : FgCame w ad X) (hO : Ord X) (hX : X.length ≤ 4000) (x : ByteArray) :
    Calls Tryd.prog 60 #[.slice ad X.length cap, .string x, .func (.func 61) #[] #[]] w (PlPost X x w) := by
  have eg : ∀ args w, (callFunc 61 args).run Tryd.prog w = .ok (.enter 61 args) w := enters_of Tryd.func61 (by kernel_rfl) rfl
  have HL : HeldR (∀ u, Below w.heap.size w u → FgCame u ad X) := hideR (fun u q => hl.below q)
  have HC : HeldR (∀ u k, Calls Tryd.prog 61 #[.agg #[.string (X.getD k fg0).t.nm, .iface (X.getD k fg0).ty (X.getD k fg0).pv], .string x] u fun e w' => e = .returned (.int .i64 (Lib.compareBytes (nb (X.getD k fg0).t.nm) (nb x))) ∧ Below u.heap.size u w') := hideR (fun u k => pplace1_any u (X.getD k fg0) x)
  obtain ⟨Q, hQ⟩ : ∃ Q : Nat → Bool, Q = fun j => decide (¬ nb (X.getD j fg0).t.nm < nb x) := ⟨_, rfl⟩
  have HM : HeldR (∀ i j, i ≤ j → j < X.length → Q i = true → Q j = true) := hideR (fun i j h1 h2 h3 => by
    rw [hQ] at h3 ⊢
    have h3 := of_decide_eq_true h3
    refine decide_eq_true ?_
    rcases Nat.lt_or_eq_of_le h1 with q | q
    · exact fun z => h3 (List.lt_trans (hO.at_ q h2) z)
    · subst q; exact h3)
  have HP : HeldR (∀ (k : Nat) (b : Bool) w', k ≤ X.length → (∀ j, j < k → Q j = false) → (∀ j, k ≤ j → j < X.length → Q j = true) → b = atP X x k → Below w.heap.size w w' → PlPost X x w (.returned (.tuple #[.int .i64 (k : Nat), .bool b])) w') := hideR (fun k b w' h0 h1 h2 h3 h4 => by
    subst h3
    refine ⟨⟨k, rfl, h0, fun j hj => ?_, fun j hj hj2 => ?_⟩, h4⟩
    · have := h1 j hj
      rw [hQ] at this
      exact Decidable.not_not.1 (of_decide_eq_false this)
    · have := h2 j hj hj2
      rw [hQ] at this
      exact of_decide_eq_true this)
  have HQn : HeldR (∀ j, decide (Lib.compareBytes (nb (X.getD j fg0).t.nm) (nb x) < 0) = !Q j) := hideR (fun j => by
    rw [hQ]
    simp only [cbn, decide_not, Bool.not_not])
  have HA1 : HeldR (∀ k, k < X.length → atP X x k = (Lib.compareBytes (nb (X.getD k fg0).t.nm) (nb x) == 0)) := hideR (fun k hk => by
    unfold atP
    rw [decide_eq_true hk, Bool.true_and, Bool.eq_iff_iff, decide_eq_true_iff, beq_iff_eq, cbz])
  have HA0 : HeldR (atP X x X.length = false) := hideR (by unfold atP; rw [decide_eq_false (Nat.lt_irrefl _), Bool.false_and])
  generalize PlPost X x w = POST at *
  obtain ⟨n, hn⟩ : ∃ n, X.length = n := ⟨_, rfl⟩
  have Hn := hideR hn
  rw [hn] at HM hX HP HA1 HA0 ⊢
  clear hl hO hQ hn
  go_enter Tryd.func60, Tryd.ntmps60
  go_wp2
  go_loopw [9, 10] (fun iv jv wl => ∃ i j : Nat, i ≤ j ∧ j ≤ n ∧ iv = .int .i64 (i : Nat) ∧ jv = .int .i64 (j : Nat) ∧ HeldR (∀ k, k < i → Q k = false) ∧ HeldR (∀ k, j ≤ k → k < n → Q k = true) ∧ HeldR (Below w.heap.size w wl)) (fun iv jv _ => (intOf jv).toNat - (intOf iv).toNat)
  case atStart => exact ⟨0, n, by omega, Nat.le_refl _, rfl, rfl, hideR (fun k hk => absurd hk (Nat.not_lt_zero k)), hideR (fun k h1 h2 => absurd h1 (by omega)), hideR (Below.refl _ _)⟩
  case round =>
    obtain ⟨i, j, hij, hjn, rfl, rfl, HA, HT, HB⟩ := hrel
    by_cases q : i < j
    case neg =>
      obtain rfl : i = j := by omega
      have ti : decide ((i : Int) < (i : Int)) = false := decide_eq_false (by omega)
      have tin : decide (i < i) = false := decide_eq_false (by omega)
      by_cases q2 : i < n
      · have tn : decide ((i : Int) < (n : Int)) = true := decide_eq_true (by omega)
        have tnn : decide (i < n) = true := decide_eq_true q2
        have hii : (i : Int) < (n : Int) := by omega
        obtain ⟨bb, had, hbb, c0, c1⟩ := (unhideR HL wr (unhideR HB)).at_ i (by rw [unhideR Hn]; exact q2)
        subst had
        have hc := unhideR HC wr i
        have HPi := hideR (fun b w' => unhideR HP i b w' hjn (unhideR HA) (unhideR HT))
        have HAi := hideR (unhideR HA1 i q2)
        clear HC HM HQn HL HA HT HA0 HA1 HP
        generalize X.getD i fg0 = s at *
        generalize Lib.compareBytes (nb s.t.nm) (nb x) = z at *
        go_wp2_with fail
        refine hc.mono ?_
        rintro e u ⟨rfl, k⟩
        have HQ2 := hideR (unhideR HPi (z == 0) u (unhideR HAi).symm (below_go (unhideR HB) k))
        clear hc k c0 c1 HB HPi HAi
        go_wp2
        simp [go_sem]
        exact unhideR HQ2
      · have tn : decide ((i : Int) < (n : Int)) = false := decide_eq_false (by omega)
        have tnn : decide (i < n) = false := decide_eq_false q2
        obtain rfl : i = n := by omega
        have HQ2 := hideR (unhideR HP i false wr hjn (unhideR HA) (unhideR HT) (unhideR HA0).symm (unhideR HB))
        clear HC HM HQn HL HA HT HA0 HA1 HB HP
        go_wp2
        simp [go_sem]
        exact unhideR HQ2
    have ti : decide ((i : Int) < (j : Int)) = true := decide_eq_true (by omega)
    have tin : decide (i < j) = true := decide_eq_true q
    obtain ⟨h, hh⟩ : ∃ h, (i + j) / 2 = h := ⟨_, rfl⟩
    have hh1 : i ≤ h := by omega
    have hh2 : h < j := by omega
    have hhn : h < n := by omega
    have hhi : (h : Int) < (n : Int) := by omega
    have w1 : IntKind.i64.wrap ((i : Int) + (j : Int)) = (i : Int) + (j : Int) := iwrap (by omega) (by omega)
    have w4 : IntKind.i64.wrap ((h : Int) + 1) = (h : Int) + 1 := iwrap (by omega) (by omega)
    have e2 : ((i : Int) + (j : Int)) / 2 = (h : Int) := by omega
    obtain ⟨bb, had, hbb, c0, c1⟩ := (unhideR HL wr (unhideR HB)).at_ h (by rw [unhideR Hn]; exact hhn)
    subst had
    have hc := unhideR HC wr h
    have hqz := unhideR HQn h
    clear hh
    generalize X.getD h fg0 = s at *
    generalize Lib.compareBytes (nb s.t.nm) (nb x) = z at *
    go_wp2_with fail
    refine hc.mono ?_
    rintro e u ⟨rfl, k⟩
    have HB2 := hideR (below_go (unhideR HB) k)
    clear hc k c0 c1 HB
    cases hq : Q h
    · have HA2 : HeldR (∀ k, k < h + 1 → Q k = false) := hideR (fun k hk => by
        by_cases e : k = h
        · subst e; exact hq
        · cases z : Q k
          · rfl
          · rw [unhideR HM k h (by omega) hhn z] at hq
            cases hq)
      rw [hq] at hqz
      have hqz2 : decide (z < 0) = true := hqz
      clear HA HC HM HQn HL hq hqz HA0 HA1 HP
      go_wp2
      exact ⟨⟨h + 1, j, by omega, hjn, by go_num, rfl, HA2, HT, HB2⟩, by simp [intOf]; omega⟩
    · have HT2 : HeldR (∀ k, h ≤ k → k < n → Q k = true) := hideR (fun k h1 h2 => unhideR HM h k h1 h2 hq)
      rw [hq] at hqz
      have hqz2 : decide (z < 0) = false := hqz
      clear HT HC HM HQn HL hq hqz HA0 HA1 HP
      go_wp2
      exact ⟨⟨i, h, hh1, by omega, rfl, rfl, HA, HT2, HB2⟩, by simp [intOf]; omega⟩
end Go.Proofs.YtoacdaemhcbbhaaDoor
