/-
  What the program's atlas must do. Two atlases of the same entries, the program's and the document's: the laws' entries, by contract.
-/
import Derived.Test.YtfonpobdnhifgamGreatDoorAtAA
import Derived.Test.YtfonpobdnhifgamGreatDoorAtCe
import Derived.Test.YtfonpobdnhifgamGreatDoorAtLA
import Derived.Test.YtfonpobdnhifgamGreatDoorCodA
namespace Go.Proofs.YtfonpobdnhifgamGreatDoor
open Go Go.RowKit

/-- of the blocks O alone something is changed. -/
structure Oth (O : Nat → Prop) (w w' : World) : Prop where
  os : w'.os = w.os
  tape : w'.tape = w.tape
  output : w'.output = w.output
  size : w.heap.size ≤ w'.heap.size
  block : ∀ k, k < w.heap.size → ¬ O k → w'.heap[k]? = w.heap[k]?
theorem Oth.heap {O : Nat → Prop} {w w' : World} (h : Oth O w w') {b : Nat} {o : Obj} (hb : w.heap[b]? = some o) (hO : ¬ O b) : w'.heap[b]? = some o := (h.block b (ltB hb) hO).trans hb
theorem Oth.cell {O : Nat → Prop} {w w' : World} (h : Oth O w w') {p : Addr} (hb : p.block < w.heap.size) (hO : ¬ O p.block) : w'.cell? p = w.cell? p := World.cell?_of_block (h.block p.block hb hO)
theorem Oth.below {O : Nat → Prop} {w0 w w' : World} {B : Nat} (h : Oth O w w') (hB : ∀ k, O k → B ≤ k) (k : Below B w0 w) (hs : B ≤ w0.heap.size) : Below B w0 w' :=
  ⟨h.os.trans k.os, h.tape.trans k.tape, h.output.trans k.output, Nat.le_trans k.size h.size, fun j hj => (h.block j (Nat.lt_of_lt_of_le hj (Nat.le_trans hs k.size)) (fun q => absurd (hB j q) (by omega))).trans (k.block j hj)⟩
/-- names as they are told. -/
def NmIs (w : World) (v : Value) (N : List ByteArray) : Prop := ∃ ad cap, v = .slice ad N.length cap ∧ SCm w ad N
/-- how an atlas of the program lies in memory: at a pointer's block, with a level, entries in the order as they came, in some blocks; how many were looked at. -/
abbrev RepT := World → Nat → Int → List En → (Nat → Prop) → Int → Prop
def vaB (s : Sq) : Bool := decide (0 ≤ s.f ∧ s.f < 6 ∧ 0 ≤ s.l ∧ s.l ≤ 12 ∧ 0 ≤ s.c ∧ s.c < 2 ^ s.l.toNat ∧ 0 ≤ s.r ∧ s.r < 2 ^ s.l.toNat)
def upB (s : Sq) : Bool := vaB s && decide (0 < s.l)
def upV (s : Sq) : Sq := if upB s then ⟨s.f, s.l - 1, s.c / 2, s.r / 2⟩ else ⟨0, 0, 0, 0⟩
def lvB (l : Int) : Bool := decide (0 ≤ l ∧ l ≤ 12)
def NewPost (a : Nat → Addr) (Rep : RepT) (w : World) (l : Int) (e : Ending) (w' : World) : Prop :=
  if lvB l then ∃ p O, e = .returned (.tuple #[.pointer (some ⟨p, 0, none⟩), .nilIface]) ∧ Rep w' p l [] O 0 ∧ (∀ k, O k → w.heap.size ≤ k) else e = .returned (.tuple #[.pointer none, .iface 224 (.pointer (some (a 1)))])
structure EnProg (a : Nat → Addr) (Rep : RepT) : Prop where
  low : ∀ {w p lv L O sn}, Rep w p lv L O sn → ∀ k, O k → k < w.heap.size
  keep : ∀ {w w' p lv L O sn}, Rep w p lv L O sn → (∀ k, O k → w'.heap[k]? = w.heap[k]?) → Rep w' p lv L O sn
  typ : ∀ {w p lv L O sn}, Rep w p lv L O sn → ∀ k, O k → ∀ cs f, w.heap[k]? ≠ some (.cells cs 45 f)
  new : ∀ {w : World}, Sents w a → ∀ l : Int, Calls Tryz.prog 23 #[.int .i64 l] w fun e w' => NewPost a Rep w l e w' ∧ Below w.heap.size w w'
  add : ∀ {w p lv L O sn}, Rep w p lv L O sn → Sents w a → L.length ≤ 200 → ∀ e : En, e.nm.size ≤ 100 → Calls Tryz.prog 24 #[.pointer (some ⟨p, 0, none⟩), e.val] w fun r w' => ∃ E O', r = .returned E ∧ ErrIs a (adE e L) E ∧ Rep w' p lv (if adE e L = 0 then L ++ [e] else L) O' sn ∧ (∀ k, O' k → O k ∨ w.heap.size ≤ k) ∧ Oth O w w'
  size : ∀ {w p lv L O sn}, Rep w p lv L O sn → L.length ≤ 200 → Calls Tryz.prog 26 #[.pointer (some ⟨p, 0, none⟩)] w fun r w' => r = .returned (.int .i64 L.length) ∧ Below w.heap.size w w'
theorem EnProg.below {a : Nat → Addr} {Rep : RepT} (h : EnProg a Rep) {w w' : World} {p : Nat} {lv : Int} {L : List En} {O : Nat → Prop} {sn : Int} (r : Rep w p lv L O sn) (k : Below w.heap.size w w') : Rep w' p lv L O sn := h.keep r (fun j hj => k.block j (h.low r j hj))
/-- the document's atlas beside the program's, whose blocks are O. -/
structure EDoc (w0 w : World) (g : Nat) (lv : Int) (L : List En) (O : Nat → Prop) (ad : Option Addr) (cap : Nat) : Prop where
  doc : AtB w g lv ad cap L
  own : w.ownsRow w0.heap.size 45 5 (.slice ad L.length cap) L.length (flatEn L)
  apg : ¬ O g
  apr : ∀ a0, ad = some a0 → ¬ O a0.block
  new : ∀ k, O k → w0.heap.size ≤ k
  gnw : w0.heap.size ≤ g
  bel : Below w0.heap.size w0 w
  dir : ∀ k, k < L.length → dirB (L.getD k en0).d = true
theorem EDoc.below {w0 w w' : World} {g : Nat} {lv : Int} {L : List En} {O : Nat → Prop} {ad : Option Addr} {cap : Nat} (h : EDoc w0 w g lv L O ad cap) (k : Below w.heap.size w w') : EDoc w0 w' g lv L O ad cap :=
  ⟨h.doc.below k, own_belowC h.own k, h.apg, h.apr, h.new, h.gnw, below_go h.bel k, h.dir⟩
/-- the program's atlas alone was written. -/
theorem EDoc.wrote {w0 w w' : World} {g : Nat} {lv : Int} {L : List En} {O O' : Nat → Prop} {ad : Option Addr} {cap : Nat} (h : EDoc w0 w g lv L O ad cap) (ho : ∀ k, O' k → O k ∨ w.heap.size ≤ k) (k : Oth O w w') : EDoc w0 w' g lv L O' ad cap := by
  have hs := h.bel.size
  have hg := ltB h.doc.b
  have har : ∀ a0, ad = some a0 → a0.block < w.heap.size := by
    intro a0 ha
    rcases h.own.2 with ⟨h1, h2⟩ | ⟨q, c1, cur, e, hB, hq, _⟩
    · simp only [Value.slice.injEq] at h1
      rw [h1.1] at ha
      cases ha
    · simp only [Value.slice.injEq] at e
      rw [e.1] at ha
      injection ha with ha
      rw [← ha]
      exact ltB hq
  have hrw : w'.ownsRow w0.heap.size 45 5 (.slice ad L.length cap) L.length (flatEn L) := by
    refine ⟨h.own.1, ?_⟩
    rcases h.own.2 with q | ⟨q, c1, cur, e, hB, hq, r2⟩
    · exact .inl q
    · refine .inr ⟨q, c1, cur, e, hB, k.heap hq ?_, r2⟩
      simp only [Value.slice.injEq] at e
      exact h.apr _ e.1
  refine ⟨⟨k.heap h.doc.b h.apg, ?_⟩, hrw, fun q => ?_, fun a0 ha q => ?_, fun j q => ?_, h.gnw, k.below h.new h.bel (Nat.le_refl _), h.dir⟩
  · refine ⟨fun j hj => ?_⟩
    obtain ⟨b, off, e, hb, hE⟩ := h.doc.e.at_ j hj
    have hn := h.apr _ e
    have c := fun i => k.cell (p := ⟨b, i, none⟩) hb hn
    exact ⟨b, off, e, Nat.lt_of_lt_of_le hb k.size, ⟨(c _).trans hE.c0, (c _).trans hE.c1, (c _).trans hE.c2, (c _).trans hE.c3, (c _).trans hE.c4⟩⟩
  · rcases ho g q with q | q
    · exact h.apg q
    · omega
  · rcases ho a0.block q with q | q
    · exact h.apr a0 ha q
    · have := har a0 ha
      omega
  · rcases ho j q with q | q
    · exact h.new j q
    · omega
/-- both atlases side by side, behind the same entries. -/
structure EInv (Rep : RepT) (w0 w : World) (p g : Nat) (lv : Int) (L : List En) (O : Nat → Prop) (ad : Option Addr) (cap : Nat) (sn : Int) : Prop where
  rep : Rep w p lv L O sn
  d : EDoc w0 w g lv L O ad cap
theorem EInv.below {a : Nat → Addr} {Rep : RepT} (hP : EnProg a Rep) {w0 w w' : World} {p g : Nat} {lv : Int} {L : List En} {O : Nat → Prop} {ad : Option Addr} {cap : Nat} {sn : Int} (h : EInv Rep w0 w p g lv L O ad cap sn) (k : Below w.heap.size w w') : EInv Rep w0 w' p g lv L O ad cap sn :=
  ⟨hP.below h.rep k, h.d.below k⟩
/-- the document's atlas got an entry more. -/
theorem EDoc.more {a : Nat → Addr} {Rep : RepT} (hP : EnProg a Rep) {w0 w w' : World} {p g : Nat} {lv : Int} {L M : List En} {O : Nat → Prop} {ad : Option Addr} {cap : Nat} {sn : Int} (h : EDoc w0 w g lv L O ad cap) (r : Rep w p lv M O sn) (k : AdPost w g lv ad w0.heap.size M w') (hd : ∀ j, j < M.length → dirB (M.getD j en0).d = true) : ∃ ad' cap', EInv Rep w0 w' p g lv M O ad' cap' sn := by
  obtain ⟨ad', cap', hb, ho⟩ := k.row
  have hs := h.bel.size
  have hlo := hP.low r
  have hk : ∀ j, j < w.heap.size → O j → w'.heap[j]? = w.heap[j]? := fun j hj q => k.block j hj (fun e => h.apg (e ▸ q)) (fun a0 ha e => h.apr a0 ha (e ▸ q))
  refine ⟨ad', cap', hP.keep r (fun j q => hk j (hlo j q) q), ⟨⟨hb, ?_⟩, ho, h.apg, fun a0 ha q => ?_, h.new, h.gnw, ⟨k.os.trans h.bel.os, k.tape.trans h.bel.tape, k.output.trans h.bel.output, Nat.le_trans h.bel.size k.size, fun j hj => ?_⟩, hd⟩⟩
  · obtain ⟨ad2, cap2, e, he⟩ := Enown ho
    simp only [Value.slice.injEq] at e
    rw [e.1]
    exact he
  · rcases ho.2 with ⟨h1, h2⟩ | ⟨q2, c1, cur, e, hB, hq, _⟩
    · simp only [Value.slice.injEq] at h1
      rw [h1.1] at ha
      cases ha
    · simp only [Value.slice.injEq] at e
      rw [e.1] at ha
      injection ha with ha
      subst ha
      rw [hk _ (hlo _ q) q] at hq
      exact hP.typ r _ q _ _ hq
  · rw [k.block j (Nat.lt_of_lt_of_le hj hs) (fun e => by have := h.gnw; omega) (fun a0 ha e => ?_)]
    · exact h.bel.block j hj
    · rcases h.own.2 with ⟨h1, h2⟩ | ⟨q2, c1, cur, e3, hB, hq, _⟩
      · simp only [Value.slice.injEq] at h1
        rw [h1.1] at ha
        cases ha
      · simp only [Value.slice.injEq] at e3
        rw [e3.1] at ha
        injection ha with ha
        rw [← ha] at e
        simp only at e
        omega
end Go.Proofs.YtfonpobdnhifgamGreatDoor
namespace Go.Proofs.YtfonpobdnhifgamGreatDoor
open Go Go.RowKit

/-- the entries that are taken of the first i. -/
def adL (l : List En) : Nat → List En
  | 0 => []
  | i + 1 => if adE (l.getD i en0) (adL l i) = 0 then adL l i ++ [l.getD i en0] else adL l i
theorem adL_len (l : List En) : ∀ i, (adL l i).length ≤ i
  | 0 => Nat.le_refl _
  | i + 1 => by
    have := adL_len l i
    show (if adE (l.getD i en0) (adL l i) = 0 then adL l i ++ [l.getD i en0] else adL l i).length ≤ i + 1
    split
    · simp; omega
    · omega
theorem ad_dir {e : En} {L : List En} (h : adE e L = 0) : dirB e.d = true := by
  unfold adE at h
  split at h
  · cases h
  · split at h
    · cases h
    · rename_i q
      simpa using q
theorem dir_more {L : List En} {e : En} (h : ∀ j, j < L.length → dirB (L.getD j en0).d = true) (he : dirB e.d = true) : ∀ j, j < (L ++ [e]).length → dirB ((L ++ [e]).getD j en0).d = true := by
  intro j hj
  rw [List.getD_eq_getElem?_getD]
  by_cases q : j < L.length
  · rw [List.getElem?_append_left q]
    have := h j q
    rwa [List.getD_eq_getElem?_getD] at this
  · have e1 : j = L.length := by simp at hj; omega
    subst e1
    simpa using he
def EsPost (Rep : RepT) (w : World) (l : List En) (lv : Int) (e : Ending) (w' : World) : Prop :=
  if lvB lv then ∃ p g O ad cap sn, e = .returned (.tuple #[.pointer (some ⟨p, 0, none⟩), .pointer (some ⟨g, 0, none⟩), .bool true]) ∧ EInv Rep w w' p g lv (adL l l.length) O ad cap sn else e = .returned (.tuple #[.pointer none, .pointer none, .bool true]) ∧ Below w.heap.size w w'
set_option maxRecDepth 1000000 in
set_option maxHeartbeats 6400000 in
theorem entries_any {a : Nat → Addr} {Rep : RepT} (hP : EnProg a Rep) {w : World} (hS : Sents w a) {ad0 : Option Addr} {cap0 : Nat} {l : List En} (hl : EnCame w ad0 l) (hf : fewB l = true) (lv : Int) :
    Calls Tryz.prog 9 #[.slice ad0 l.length cap0, .int .i64 lv] w fun e w' => EsPost Rep w l lv e w' := by
  have HL := hideR hl
  have HS := hideR hS
  have HF := hideR (few_is hf)
  have hn := (few_is hf).2
  have hN := hP.new hS lv
  obtain ⟨n, hn2⟩ : ∃ n, l.length = n := ⟨_, rfl⟩
  have Hn := hideR hn2
  rw [hn2] at hn
  clear hl hS hf
  by_cases qv : lvB lv = true
  case neg =>
    simp only [NewPost, qv] at hN
    simp only [EsPost, qv]
    simp only [Bool.false_eq_true, if_false] at hN ⊢
    rw [hn2]
    clear hn2
    by_cases q0 : lv < 0
    · have t0 : decide (lv < 0) = true := decide_eq_true q0
      clear qv
      go_enter Tryz.func9, Tryz.ntmps9
      go_wp2_with fail
      refine hN.mono ?_
      rintro e w1 ⟨rfl, k1⟩
      have hc := coded_sent ((unhideR HS).below k1 (Nat.le_refl _)) 1 (by decide) 2
      have HK1 := hideR k1
      clear hN k1
      go_wp2_with fail
      refine hc.mono ?_
      rintro e w2 ⟨rfl, k2⟩
      have HK2 := hideR (below_go (unhideR HK1) k2)
      clear hc HK1 k2
      go_wp2
      go_ret3
      exact ⟨rfl, unhideR HK2⟩
    · have t0 : decide (lv < 0) = false := decide_eq_false q0
      have t1 : decide (12 < lv) = true := decide_eq_true (by unfold lvB at qv; simp at qv; omega)
      clear qv q0
      go_enter Tryz.func9, Tryz.ntmps9
      go_wp2_with fail
      refine hN.mono ?_
      rintro e w1 ⟨rfl, k1⟩
      have hc := coded_sent ((unhideR HS).below k1 (Nat.le_refl _)) 1 (by decide) 2
      have HK1 := hideR k1
      clear hN k1
      go_wp2_with fail
      refine hc.mono ?_
      rintro e w2 ⟨rfl, k2⟩
      have HK2 := hideR (below_go (unhideR HK1) k2)
      clear hc HK1 k2
      go_wp2
      go_ret3
      exact ⟨rfl, unhideR HK2⟩
  simp only [NewPost, qv] at hN
  simp only [EsPost, qv]
  simp only [if_true] at hN ⊢
  rw [hn2]
  clear hn2
  have t0 : decide (lv < 0) = false := decide_eq_false (by unfold lvB at qv; simp at qv; omega)
  have t1 : decide (12 < lv) = false := decide_eq_false (by unfold lvB at qv; simp at qv; omega)
  clear qv
  go_enter Tryz.func9, Tryz.ntmps9
  go_wp2_with fail
  refine hN.mono ?_
  rintro e w1 ⟨⟨p, O, rfl, hR, hO⟩, k1⟩
  clear hN
  have HI0 : HeldR (∃ O ad cap sn, EInv Rep w (w1.alloc (.cells #[.int .i64 lv, .slice none 0 0] 47)) p w1.heap.size lv [] O ad cap sn) := hideR ⟨O, none, 0, 0,
    ⟨hP.below hR (below_a _ _), ⟨⟨alloc_last _ _, EnCame.nil _ _⟩, World.ownsRow_nil _ _ _ _, fun q => absurd (hP.low hR _ q) (by omega), fun a0 h => by (cases h), hO, k1.size, below_go k1 (below_a _ _), fun k hk => absurd hk (Nat.not_lt_zero k)⟩⟩⟩
  clear k1 hR hO O
  go_upto_region 8 with fail
  generalize w1.alloc (.cells #[.int .i64 lv, .slice none 0 0] 47) = w2 at *
  generalize w1.heap.size = g at *
  clear w1
  go_loopw [10] (fun iv wl => ∃ i : Nat, i ≤ n ∧ iv = .int .i64 (i : Nat) ∧ HeldR (∃ O ad cap sn, EInv Rep w wl p g lv (adL l i) O ad cap sn)) (fun iv _ => n + 1 - (intOf iv).toNat)
  case atStart => exact ⟨0, by omega, rfl, HI0⟩
  case round =>
    clear HI0 w2
    obtain ⟨i, hi, rfl, HI⟩ := hrel
    obtain ⟨O, ad, cap, sn, hI⟩ := unhideR HI
    clear HI
    have HI := hideR hI
    clear hI
    by_cases hil : i < n
    · have ti : decide ((i : Int) < (n : Nat)) = true := decide_eq_true (by omega)
      have tin : decide (i < n) = true := decide_eq_true hil
      have wi : IntKind.i64.wrap ((i : Int) + 1) = (i : Int) + 1 := iwrap (by omega) (by omega)
      have hii : (i : Int) < (n : Int) := by omega
      obtain ⟨b, off, had, hbl0, hE⟩ := (unhideR HL).at_ i (by rw [unhideR Hn]; exact hil)
      subst had
      have HE0 := hideR hE
      have HB0 := hideR hbl0
      have hbl : b < wr.heap.size := Nat.lt_of_lt_of_le hbl0 (unhideR HI).d.bel.size
      have HEi := hideR (hE.below (unhideR HI).d.bel hbl0)
      have hsz := ((unhideR HF).1 i (by rw [unhideR Hn]; exact hil)).2.2.2
      have HM : HeldR (adL l (i + 1) = if adE (l.getD i en0) (adL l i) = 0 then adL l i ++ [l.getD i en0] else adL l i) := hideR rfl
      have hml : (adL l i).length ≤ 200 := by have := adL_len l i; omega
      obtain ⟨M2, hM2⟩ : ∃ M2, adL l (i + 1) = M2 := ⟨_, rfl⟩
      rw [hM2] at HM
      have HM2 := hideR hM2
      clear hM2
      generalize adL l i = M at *
      generalize l.getD i en0 = en at *
      clear hE hbl0
      obtain ⟨nm, ⟨dx, dy, dz⟩, li⟩ := en
      simp only at hsz
      go_upto_region 10 with fail
      refine wp_region_made 1 #[true, true, true, true, true, true, true, true, true, true, true, true, true, true, true, true, true, false, false] [.lets (· = .pointer (some ⟨p, 0, none⟩)),
        .lets (· = .slice (some ⟨b, off, none⟩) n cap0),
        .lets (· = .int .i64 (i : Nat)),
        .lets (· = .pointer (some ⟨b, off + i * 5, none⟩)),
        .lets (· = .pointer (some ⟨b, off + i * 5, none⟩)),
        .lets (· = .string nm),
        .lets (· = .slice (some ⟨b, off, none⟩) n cap0),
        .lets (· = .int .i64 (i : Nat)),
        .lets (· = .pointer (some ⟨b, off + i * 5, none⟩)),
        .lets (· = .pointer (some ⟨b, off + i * 5 + 1, none⟩)),
        .lets (· = .agg #[.int .i64 dx, .int .i64 dy, .int .i64 dz]),
        .lets (· = .slice (some ⟨b, off, none⟩) n cap0),
        .lets (· = .int .i64 (i : Nat)),
        .lets (· = .pointer (some ⟨b, off + i * 5, none⟩)),
        .lets (· = .pointer (some ⟨b, off + i * 5 + 4, none⟩)),
        .lets (· = .int .i64 li),
        .lets (· = .agg #[.string nm, .int .i64 dx, .int .i64 dy, .int .i64 dz, .int .i64 li])] [] [] (by kernel_rfl) (by kernel_rfl) rfl ?kinds (by kernel_rfl) (by kernel_rfl) (by kernel_rfl) ?_
      case kinds =>
        constructor
        · intro i h
          rcases i with _ | _ | _ | _ | _ | _ | _ | _ | _ | _ | _ | _ | _ | _ | _ | _ | _ | i <;> simp [Kx.isMade] at h
        · intro i h
          rcases i with _ | _ | _ | _ | _ | _ | _ | _ | _ | _ | _ | _ | _ | _ | _ | _ | _ | i <;> simp [Kx.isUse] at h
      refine lexX_step (fun K hK => ⟨by kernel_rfl, ⟨_, rfl⟩, fun v hv => ?_, fun v hv => ?_⟩)
      · go_simp
        exact mUpon_b
      subst hv
      go_simp
      refine hK _ ?_
      clear hK K
      refine lexX_step (fun K hK => ⟨by kernel_rfl, ⟨_, rfl⟩, fun v hv => ?_, fun v hv => ?_⟩)
      · go_simp
        exact mUpon_b
      subst hv
      go_simp
      refine hK _ ?_
      clear hK K
      refine lexX_step (fun K hK => ⟨by kernel_rfl, ⟨_, rfl⟩, fun v hv => ?_, fun v hv => ?_⟩)
      · go_simp
        exact mUpon_b
      subst hv
      go_simp
      refine hK _ ?_
      clear hK K
      refine lexX_step (fun K hK => ⟨by kernel_rfl, ⟨_, rfl⟩, fun v hv => ?_, fun v hv => ?_⟩)
      · go_simp
        exact mUpon_b
      subst hv
      go_simp
      refine hK _ ?_
      clear hK K
      refine lexX_step (fun K hK => ⟨by kernel_rfl, ⟨_, rfl⟩, fun v hv => ?_, fun v hv => ?_⟩)
      · go_simp
        exact mUpon_b
      subst hv
      go_simp
      refine hK _ ?_
      clear hK K
      refine lexX_step (fun K hK => ⟨by kernel_rfl, ⟨_, rfl⟩, fun v hv => ?_, fun v hv => ?_⟩)
      · have q9 := (unhideR HEi).below hv hbl
        have q0 := q9.c0
        go_simp
        exact mUpon_b
      subst hv
      go_simp
      refine hK _ ?_
      clear hK K
      refine lexX_step (fun K hK => ⟨by kernel_rfl, ⟨_, rfl⟩, fun v hv => ?_, fun v hv => ?_⟩)
      · go_simp
        exact mUpon_b
      subst hv
      go_simp
      refine hK _ ?_
      clear hK K
      refine lexX_step (fun K hK => ⟨by kernel_rfl, ⟨_, rfl⟩, fun v hv => ?_, fun v hv => ?_⟩)
      · go_simp
        exact mUpon_b
      subst hv
      go_simp
      refine hK _ ?_
      clear hK K
      refine lexX_step (fun K hK => ⟨by kernel_rfl, ⟨_, rfl⟩, fun v hv => ?_, fun v hv => ?_⟩)
      · go_simp
        exact mUpon_b
      subst hv
      go_simp
      refine hK _ ?_
      clear hK K
      refine lexX_step (fun K hK => ⟨by kernel_rfl, ⟨_, rfl⟩, fun v hv => ?_, fun v hv => ?_⟩)
      · go_simp
        exact mUpon_b
      subst hv
      go_simp
      refine hK _ ?_
      clear hK K
      refine lexX_step (fun K hK => ⟨by kernel_rfl, ⟨_, rfl⟩, fun v hv => ?_, fun v hv => ?_⟩)
      · have q9 := (unhideR HEi).below hv hbl
        have q1 := q9.c1
        have q2 := q9.c2
        have q3 := q9.c3
        go_simp
        exact mUpon_b
      subst hv
      go_simp
      refine hK _ ?_
      clear hK K
      refine lexX_step (fun K hK => ⟨by kernel_rfl, ⟨_, rfl⟩, fun v hv => ?_, fun v hv => ?_⟩)
      · go_simp
        exact mUpon_b
      subst hv
      go_simp
      refine hK _ ?_
      clear hK K
      refine lexX_step (fun K hK => ⟨by kernel_rfl, ⟨_, rfl⟩, fun v hv => ?_, fun v hv => ?_⟩)
      · go_simp
        exact mUpon_b
      subst hv
      go_simp
      refine hK _ ?_
      clear hK K
      refine lexX_step (fun K hK => ⟨by kernel_rfl, ⟨_, rfl⟩, fun v hv => ?_, fun v hv => ?_⟩)
      · go_simp
        exact mUpon_b
      subst hv
      go_simp
      refine hK _ ?_
      clear hK K
      refine lexX_step (fun K hK => ⟨by kernel_rfl, ⟨_, rfl⟩, fun v hv => ?_, fun v hv => ?_⟩)
      · go_simp
        exact mUpon_b
      subst hv
      go_simp
      refine hK _ ?_
      clear hK K
      refine lexX_step (fun K hK => ⟨by kernel_rfl, ⟨_, rfl⟩, fun v hv => ?_, fun v hv => ?_⟩)
      · have q9 := (unhideR HEi).below hv hbl
        have q4 := q9.c4
        go_simp
        exact mUpon_b
      subst hv
      go_simp
      refine hK _ ?_
      clear hK K
      refine lexX_step (fun K hK => ⟨by kernel_rfl, ⟨_, rfl⟩, fun v hv => ?_, fun v hv => ?_⟩)
      · go_simp
        exact mUpon_b
      subst hv
      go_simp
      refine hK _ ?_
      clear hK K
      refine lexX_end (fun v5 hv => ?_)
      have k5 := hv.low
      clear hv
      have HI5 := hideR ((unhideR HI).below hP k5)
      clear HI k5
      refine wpAny_step (i := 17) (by kernel_rfl) rfl (by kernel_rfl) (fun K hK => ?_)
      unfold Oper.wp
      go_simp
      refine ((hP.add (unhideR HI5).rep ((unhideR HS).below (unhideR HI5).d.bel (Nat.le_refl _)) hml ⟨nm, ⟨dx, dy, dz⟩, li⟩ hsz)).mono ?_
      rintro r v6 ⟨E, O6, rfl, hEr, hR6, hO6, hoth⟩
      have HD6 := hideR ((unhideR HI5).d.wrote hO6 hoth)
      have HR6 := hideR hR6
      have HEr := hideR hEr
      clear HI5 hR6 hO6 hoth hEr HEi
      go_simp
      refine hK _ _ ?_
      clear hK K
      refine wpAny_step (i := 18) (by kernel_rfl) rfl (by kernel_rfl) (fun K hK => ?_)
      unfold Oper.wp
      go_simp
      refine hK _ _ ?_
      clear hK K
      refine wpAny_end (by kernel_rfl) ?_
      have hE6 := (unhideR HE0).below (unhideR HD6).bel (unhideR HB0)
      obtain ⟨q0, q1, q2, q3, q4⟩ := hE6
      simp only at q0 q1 q2 q3 q4
      have hA : Calls Tryz.prog 25 #[.pointer (some ⟨g, 0, none⟩), .agg #[.string nm, .int .i64 dx, .int .i64 dy, .int .i64 dz, .int .i64 li]] v6 fun r w' => r = .returned (.int .i64 (adE ⟨nm, ⟨dx, dy, dz⟩, li⟩ M)) ∧ HeldR (∃ ad' cap', EInv Rep w w' p g lv M2 O6 ad' cap' sn) := by
        by_cases qa : adE ⟨nm, ⟨dx, dy, dz⟩, li⟩ M = 0
        · have e1 := unhideR HM
          have r1 := unhideR HR6
          rw [if_pos qa] at e1 r1
          refine (add_yes ⟨nm, ⟨dx, dy, dz⟩, li⟩ (unhideR HD6).doc (by omega) qa (unhideR HD6).own (unhideR HD6).bel.size (show nm.size ≤ _ by omega)).mono ?_
          rintro r w' ⟨rfl, hp⟩
          rw [e1]
          exact ⟨by rw [qa], hideR ((unhideR HD6).more hP r1 hp (dir_more (unhideR HD6).dir (ad_dir qa)))⟩
        · have e1 := unhideR HM
          have r1 := unhideR HR6
          rw [if_neg qa] at e1 r1
          refine (add_no ⟨nm, ⟨dx, dy, dz⟩, li⟩ (unhideR HD6).doc (by omega) qa (show nm.size ≤ _ by omega)).mono ?_
          rintro r w' ⟨rfl, hp⟩
          rw [e1]
          exact ⟨rfl, hideR ⟨_, _, hP.below r1 hp, (unhideR HD6).below hp⟩⟩
      generalize adE ⟨nm, ⟨dx, dy, dz⟩, li⟩ M = EE at *
      clear HR6 HD6 HM
      go_wp2_with fail
      refine hA.mono ?_
      rintro r v7 ⟨rfl, HI7⟩
      obtain ⟨ad7, cap7, hI7⟩ := unhideR HI7
      have hc := coded_err ((unhideR HS).below hI7.d.bel (Nat.le_refl _)) (unhideR HEr)
      clear hA HI7 q0 q1 q2 q3 q4 HEr
      have HI7 := hideR hI7
      clear hI7
      go_wp2_with fail
      refine hc.mono ?_
      rintro r v8 ⟨rfl, k8⟩
      have HI8 : HeldR (∃ O ad cap sn, EInv Rep w v8 p g lv M2 O ad cap sn) := hideR ⟨_, _, _, _, (unhideR HI7).below hP k8⟩
      clear HI7 k8 hc
      go_wp2
      exact ⟨⟨i + 1, by omega, by go_num, by rw [unhideR HM2]; exact HI8⟩, by simp [intOf]; omega⟩
    · obtain rfl : i = n := by omega
      have ti : decide ((i : Int) < (i : Nat)) = false := decide_eq_false (by omega)
      have hml : (adL l i).length ≤ 200 := by have := adL_len l i; omega
      have hz := hP.size ((unhideR HI).below hP (drawn_below wr 1)).rep hml
      have hb : wr.drew.heap[g]? = _ := ((unhideR HI).below hP (drawn_below wr 1)).d.doc.b
      have HI2 := hideR ((unhideR HI).below hP (drawn_below wr 1))
      obtain ⟨M, hMq⟩ : ∃ M, adL l i = M := ⟨_, rfl⟩
      have HMq := hideR hMq
      rw [hMq] at hz hb HI2 hml
      clear hMq
      have a1 := (cells_at hb 1 (by simp)).1
      have tq : ((M.length : Int) == (M.length : Int)) = true := by simp
      clear HI
      go_upto_region 14 with fail
      go_cut [4, 5, 6] from 4 to 82 (fun s4 s5 s6 wx => s4 = .pointer (some ⟨p, 0, none⟩) ∧ s5 = .pointer (some ⟨g, 0, none⟩) ∧ s6 = .bool true ∧ HeldR (EInv Rep w wx p g lv M O ad cap sn))
      case' first =>
        go_region_with ((go_at_call 26; refine hz.mono ?_; rintro e w9 ⟨rfl, k9⟩; have y9 := (cells_at (keepB hb k9) 1 (by simp)).1))
        all_goals
          have HI9 := hideR ((unhideR HI2).below hP k9)
          clear k9 y9 a1 hb hz HI2
          go_wp2
          go_meet
          exact ⟨rfl, rfl, rfl, HI9⟩
      obtain ⟨rfl, rfl, rfl, HI9⟩ := hcut
      clear hz hb a1 HI2
      go_wp2
      go_ret3
      rw [unhideR HMq]
      exact ⟨p, g, O, ad, cap, sn, rfl, unhideR HI9⟩
end Go.Proofs.YtfonpobdnhifgamGreatDoor
