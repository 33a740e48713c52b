/-
  A region that draws its order and makes new memory for variables ('alloc') among operations that yield one of a set of values: the order of the text serves every order; each new block is one that no other is. What comes behind all others (stores, assignments) is walked in whatever world they leave.
-/
import Derived.Test.YtmgnobeaacjdjacLoose4
namespace Go.Proofs.Ytmgnobeaacjdjac
open Go Go.RowKit

section
variable {P : Program} {ops : Array Oper} {md : Region.Mode} {Q' : Exit → Act → World → Prop} {m : Nat} {W : World}

/-- what an operation leaves: one of a set; or a pointer to a new block, which holds that. -/
inductive Kd where
  | lets (S : Value → Prop)
  | new (o : Obj)
/-- blocks that are held. -/
def Hd : Type := Nat → Option Obj
def Hd.put (β : Hd) (b : Nat) (o : Obj) : Hd := fun n => if n = b then some o else β n
def hd0 : Hd := fun _ => none
structure CHd (W : World) (β : Hd) (w : World) : Prop where
  low : Below W.heap.size W w
  held : ∀ b o, β b = some o → w.heap[b]? = some o
def ptr (b : Nat) : Value := .pointer (some ⟨b, 0, none⟩)
structure Free (W : World) (β : Hd) (b : Nat) : Prop where
  ge : W.heap.size ≤ b
  no : β b = none
def Hd.fin (β : Hd) : Prop := ∃ N, ∀ b, N ≤ b → β b = none
theorem fin0 : hd0.fin := ⟨0, fun _ _ => rfl⟩
theorem Hd.fin.put {β : Hd} (h : β.fin) (b : Nat) (o : Obj) : (β.put b o).fin := by
  obtain ⟨N, hN⟩ := h
  refine ⟨N + b + 1, fun c hc => ?_⟩
  unfold Hd.put
  rw [if_neg (by omega)]
  exact hN c (by omega)
theorem Hd.fin.some {β : Hd} (h : β.fin) (W : World) : ∃ b, Free W β b := by
  obtain ⟨N, hN⟩ := h
  exact ⟨N + W.heap.size, by omega, hN _ (by omega)⟩
theorem put_swap {β : Hd} {b c : Nat} {o p : Obj} (h : b ≠ c) : (β.put b o).put c p = (β.put c p).put b o := by
  funext n
  unfold Hd.put
  by_cases h1 : n = c
  · rw [if_pos h1, if_neg (by omega), if_pos h1]
  · rw [if_neg h1]
    by_cases h2 : n = b
    · rw [if_pos h2, if_pos h2]
    · rw [if_neg h2, if_neg h2, if_neg h1]
theorem Free.of_put {W : World} {β : Hd} {b c : Nat} {o : Obj} (h : Free W (β.put c o) b) : Free W β b ∧ b ≠ c := by
  obtain ⟨h1, h2⟩ := h
  unfold Hd.put at h2
  by_cases e : b = c
  · rw [if_pos e] at h2
    cases h2
  · rw [if_neg e] at h2
    exact ⟨⟨h1, h2⟩, e⟩
theorem Free.to_put {W : World} {β : Hd} {b c : Nat} {o : Obj} (h : Free W β b) (e : b ≠ c) : Free W (β.put c o) b := ⟨h.ge, by unfold Hd.put; rw [if_neg e]; exact h.no⟩

def mUpon (P : Program) (S : Value → Prop) (w : World) : Result Next → Prop
  | .ok (.value u) w' => Below w.heap.size w w' ∧ S u
  | .ok .skip w' => Below w.heap.size w w' ∧ S undef
  | .ok (.enter f args) w' => Calls P f args w' fun e w'' => ∃ v, e = .returned v ∧ S v ∧ Below w.heap.size w w''
  | _ => False
def LetsM (P : Program) (ops : Array Oper) (W : World) (S : Value → Prop) (o : Oper) (a : Act) : Prop := wantB ops o a = true → (∃ v, S v) ∧ ∀ w, Below W.heap.size W w → mUpon P S w ((execOp a.eval o).run P w)
def IsNew (P : Program) (ops : Array Oper) (obj : Obj) (o : Oper) (a : Act) : Prop := wantB ops o a = true ∧ ∀ w, (execOp a.eval o).run P w = .ok (.value (ptr w.heap.size)) (w.alloc obj)
def kFst (P : Program) (ops : Array Oper) (W : World) (k : Kd) (β : Hd) (o : Oper) (a : Act) (K : Hd → Act → Prop) : Prop :=
  match k with
  | .lets S => LetsM P ops W S o a ∧ ∀ v, valsOf S (wantB ops o a) v → K β (a.put o.dst v)
  | .new obj => IsNew P ops obj o a ∧ ∀ b, Free W β b → K (β.put b obj) (a.put o.dst (ptr b))
def wpAnyK (P : Program) (md : Region.Mode) (ops : Array Oper) (W : World) (Ks : Nat → Kd) (Q' : Exit → Act → World → Prop) (m : Nat) : Nat → Array Bool → Hd → Act → Prop
  | 0, listed, β, a => Region.ready md ops listed = [] ∧ ∀ w, CHd W β w → Q' .normal a w
  | fuel + 1, listed, β, a => (Region.ready md ops listed = [] → ∀ w, CHd W β w → Q' .normal a w) ∧ ∀ i ∈ Region.ready md ops listed,
      (i < m → ∀ o, ops[i]? = some o → kFst P ops W (Ks i) β o a (wpAnyK P md ops W Ks Q' m fuel (listed.setIfInBounds i true))) ∧ (m ≤ i → ∀ w, CHd W β w → wpOp P ops Q' i (wpAny P md ops Q' fuel (listed.setIfInBounds i true)) a w)
theorem lets_of_M {S : Value → Prop} {o : Oper} {a : Act} {β : Hd} (h : LetsM P ops W S o a) : Lets P ops (CHd W β) S o a := by
  intro hw
  obtain ⟨h1, h2⟩ := h hw
  refine ⟨h1, fun w hc => ?_⟩
  have h3 := h2 w hc.low
  have up : ∀ w', Below w.heap.size w w' → CHd W β w' := fun w' k => ⟨hc.low.trans (k.mono hc.low.size), fun b o hb => (k.block _ (Array.getElem?_eq_some_iff.1 (hc.held b o hb)).1).trans (hc.held b o hb)⟩
  unfold lAt
  generalize (execOp a.eval o).run P w = r at *
  cases r with
  | ok n w' =>
    cases n <;> simp only [mUpon] at h3 <;> simp only [lUpon]
    case value u => exact ⟨up _ h3.1, h3.2⟩
    case skip => exact ⟨up _ h3.1, h3.2⟩
    case enter f args =>
      refine h3.mono ?_
      rintro e w'' ⟨v, rfl, hs, hk⟩
      exact ⟨v, rfl, hs, up _ hk⟩
  | halt x w' => simp only [mUpon] at h3
theorem wpAnyK_sound {Ks : Nat → Kd} : ∀ (fuel : Nat) (listed : Array Bool) (β : Hd) (a : Act) (w : World), CHd W β w → wpAnyK P md ops W Ks Q' m fuel listed β a → wpAny P md ops Q' fuel listed a w
  | 0, _, _, _, w, hw, h => ⟨h.1, h.2 w hw⟩
  | fuel + 1, listed, β, a, w, hw, h => by
    refine ⟨fun h0 => h.1 h0 w hw, fun i hi => ?_⟩
    by_cases him : m ≤ i
    · exact (h.2 i hi).2 him w hw
    · obtain ⟨o, ho⟩ := ready_is hi
      have h1 := (h.2 i hi).1 (by omega) o ho
      cases hk : Ks i with
      | lets S =>
        rw [hk] at h1
        refine wpOp_of_lOp (C := CHd W β) (Ss := fun _ => S) (K := wpAnyK P md ops W Ks Q' m fuel (listed.setIfInBounds i true) β) hw (fun a' w' hw' h' => wpAnyK_sound fuel _ β a' w' hw' h') ⟨o, ho⟩ ?_
        intro o' ho'
        rw [ho] at ho'
        cases ho'
        exact ⟨lets_of_M h1.1, h1.2⟩
      | new obj =>
        rw [hk] at h1
        obtain ⟨⟨hwt, hrun⟩, h2⟩ := h1
        have hno : β w.heap.size = none := by
          cases e : β w.heap.size with
          | none => rfl
          | some o' =>
            have := (Array.getElem?_eq_some_iff.1 (hw.held _ _ e)).1
            omega
        unfold wpOp
        rw [ho]
        have e : Region.wanted o (yielded ops a.tmps) = wantB ops o a := rfl
        simp only [e, hwt, if_true]
        refine .inl ?_
        unfold Oper.wp
        rw [hrun]
        simp only [Oper.upon]
        refine wpAnyK_sound fuel _ _ _ _ ⟨hw.low.alloc hw.low.size obj, fun b o' hb => ?_⟩ (h2 w.heap.size ⟨hw.low.size, hno⟩)
        unfold Hd.put at hb
        by_cases eb : b = w.heap.size
        · rw [if_pos eb] at hb
          cases hb
          rw [eb]
          show (w.heap.push obj)[w.heap.size]? = _
          exact Array.getElem?_push_size
        · rw [if_neg eb] at hb
          have h3 := hw.held b o' hb
          have h4 := (Array.getElem?_eq_some_iff.1 h3).1
          rw [← h3]
          show (w.heap.push obj)[b]? = _
          rw [Array.getElem?_push, if_neg (by omega)]
theorem LetsM.of_put {S : Value → Prop} {o : Oper} {a a' : Act} (he : execOp a'.eval o = execOp a.eval o) (hw : wantB ops o a' = wantB ops o a) (h : LetsM P ops W S o a) : LetsM P ops W S o a' := by
  unfold LetsM at *
  rw [he, hw]
  exact h
theorem IsNew.of_put {obj : Obj} {o : Oper} {a a' : Act} (he : execOp a'.eval o = execOp a.eval o) (hw : wantB ops o a' = wantB ops o a) (h : IsNew P ops obj o a) : IsNew P ops obj o a' := by
  unfold IsNew at *
  rw [he, hw]
  exact h
theorem LetsM.some {S : Value → Prop} {o : Oper} {a : Act} (h : LetsM P ops W S o a) : ∃ v, valsOf S (wantB ops o a) v := by
  unfold valsOf
  cases e : wantB ops o a with
  | false => exact ⟨undef, rfl⟩
  | true => exact (h e).1
/-- two that are apart may change places. -/
theorem kFst_swap {ki kj : Kd} {oi oj : Oper} {β : Hd} {a : Act} {K : Hd → Act → Prop} (hap : oi.apart ops oj = true) (hsi : ∀ cs b, oi.op ≠ .select cs b) (hsj : ∀ cs b, oj.op ≠ .select cs b) (hf : β.fin)
    (h : kFst P ops W ki β oi a fun β' a' => kFst P ops W kj β' oj a' K) : kFst P ops W kj β oj a fun β' a' => kFst P ops W ki β' oi a' K := by
  obtain ⟨h1, h2, h3⟩ := Oper.apart_spec hap
  cases ki with
  | lets S =>
    obtain ⟨hy, h⟩ := h
    obtain ⟨v0, hv0⟩ := hy.some
    cases kj with
    | lets T =>
      refine ⟨LetsM.of_put (execOp_put oj hsj a oi.dst v0 h1).symm (want_put a v0 hap).1.symm (h v0 hv0).1, fun u hu => ⟨LetsM.of_put (execOp_put oi hsi a oj.dst u h3) (want_put a u hap).2 hy, fun v hv => ?_⟩⟩
      rw [(want_put a u hap).2] at hv
      rw [← Act.put_comm a v u h2]
      refine (h v hv).2 u ?_
      rw [(want_put a v hap).1]
      exact hu
    | new obj =>
      refine ⟨IsNew.of_put (execOp_put oj hsj a oi.dst v0 h1).symm (want_put a v0 hap).1.symm (h v0 hv0).1, fun b hb => ⟨LetsM.of_put (execOp_put oi hsi a oj.dst (ptr b) h3) (want_put a (ptr b) hap).2 hy, fun v hv => ?_⟩⟩
      rw [(want_put a (ptr b) hap).2] at hv
      rw [← Act.put_comm a v (ptr b) h2]
      exact (h v hv).2 b hb
  | new obj =>
    obtain ⟨hy, h⟩ := h
    obtain ⟨b0, hb0⟩ := hf.some W
    cases kj with
    | lets T =>
      refine ⟨LetsM.of_put (execOp_put oj hsj a oi.dst (ptr b0) h1).symm (want_put a (ptr b0) hap).1.symm (h b0 hb0).1, fun u hu => ⟨IsNew.of_put (execOp_put oi hsi a oj.dst u h3) (want_put a u hap).2 hy, fun b hb => ?_⟩⟩
      rw [← Act.put_comm a (ptr b) u h2]
      refine (h b hb).2 u ?_
      rw [(want_put a (ptr b) hap).1]
      exact hu
    | new obj' =>
      refine ⟨IsNew.of_put (execOp_put oj hsj a oi.dst (ptr b0) h1).symm (want_put a (ptr b0) hap).1.symm (h b0 hb0).1, fun c hc => ⟨IsNew.of_put (execOp_put oi hsi a oj.dst (ptr c) h3) (want_put a (ptr c) hap).2 hy, fun b hb => ?_⟩⟩
      obtain ⟨hb', hne⟩ := hb.of_put
      rw [← Act.put_comm a (ptr b) (ptr c) h2, ← put_swap hne]
      exact (h b hb').2 c (hc.to_put (Ne.symm hne))
theorem kFst_mono {k : Kd} {o : Oper} {β : Hd} {a : Act} {K K' : Hd → Act → Prop} (hf : β.fin) (h : ∀ β' a', β'.fin → K β' a' → K' β' a') (hk : kFst P ops W k β o a K) : kFst P ops W k β o a K' := by
  cases k with
  | lets S => exact ⟨hk.1, fun v hv => h _ _ hf (hk.2 v hv)⟩
  | new obj => exact ⟨hk.1, fun b hb => h _ _ (hf.put b obj) (hk.2 b hb)⟩
theorem kFst_some {k : Kd} {o : Oper} {β : Hd} {a : Act} {K : Hd → Act → Prop} (hf : β.fin) (hk : kFst P ops W k β o a K) : ∃ β' a', K β' a' := by
  cases k with
  | lets S =>
    obtain ⟨v, hv⟩ := hk.1.some
    exact ⟨_, _, hk.2 v hv⟩
  | new obj =>
    obtain ⟨b, hb⟩ := hf.some W
    exact ⟨_, _, hk.2 b hb⟩
/-- what has been done is closed under what it waits for. -/
def Clo (md : Region.Mode) (ops : Array Oper) (listed : Array Bool) : Prop := ∀ k ok, ops[k]? = some ok → listed.getD k false = true → ∀ e ∈ ok.after, Region.binds md e = true → listed.getD e.on false = true
theorem Clo.put {listed : Array Bool} {j : Nat} (h : Clo md ops listed) (hj : j ∈ Region.ready md ops listed) : Clo md ops (listed.setIfInBounds j true) := by
  intro k ok hk hl e he hb
  by_cases hjk : j = k
  · subst hjk
    obtain ⟨_, o, ho, hall⟩ := mem_ready.1 hj
    rw [ho] at hk
    cases hk
    exact getD_set_true (hall e he hb)
  · rw [getD_set_ne false hjk] at hl
    exact getD_set_true (h k ok hk hl e he hb)
def tailB2 (md : Region.Mode) (ops : Array Oper) (m : Nat) : Bool :=
  (List.range ops.size).all fun t => decide (t < m) || match ops[t]? with
  | none => true
  | some o => (List.range m).all fun j => o.after.any fun e => Region.binds md e && (e.on == j || match ops[e.on]? with
    | none => false
    | some ok => ok.after.any fun e' => Region.binds md e' && e'.on == j)
theorem getD_true {listed : Array Bool} {i : Nat} (h : listed.getD i false = true) : listed.getD i true = true := by
  rcases Nat.lt_or_ge i listed.size with h' | h'
  · simp [h'] at h ⊢; exact h
  · simp [Array.getElem?_eq_none h'] at h
theorem tailB2_spec (h : tailB2 md ops m = true) {i : Nat} (hi : i < m) (t : Nat) (listed : Array Bool) (hc : Clo md ops listed) (ht : m ≤ t) (hr : t ∈ Region.ready md ops listed) : listed.getD i true = true := by
  obtain ⟨_, o, ho, hall⟩ := mem_ready.1 hr
  have hts : t < ops.size := (Array.getElem?_eq_some_iff.1 ho).1
  unfold tailB2 at h
  rw [List.all_eq_true] at h
  have h := h t (List.mem_range.2 hts)
  rw [ho] at h
  simp only [Bool.or_eq_true, decide_eq_true_eq, List.all_eq_true, List.mem_range, Array.any_eq_true'] at h
  rcases h with h | h
  · omega
  · obtain ⟨e, he, h⟩ := h i hi
    rw [Bool.and_eq_true, Bool.or_eq_true, beq_iff_eq] at h
    obtain ⟨hb, h⟩ := h
    have h1 := hall e he hb
    rcases h with h | h
    · rw [h] at h1
      exact getD_true h1
    · cases hk : ops[e.on]? with
      | none => rw [hk] at h; cases h
      | some ok =>
        rw [hk] at h
        simp only [Array.any_eq_true'] at h
        obtain ⟨e', he', h⟩ := h
        rw [Bool.and_eq_true, beq_iff_eq] at h
        have h2 := hc _ ok hk h1 e' he' h.1
        rw [h.2] at h2
        exact getD_true h2
theorem wpAnyK_first {Ks : Nat → Kd} {i : Nat} {oi : Oper} (hi : ops[i]? = some oi) (hlast : ∀ j listed, Clo md ops listed → m ≤ j → j ∈ Region.ready md ops listed → listed.getD i true = true) (hsel : ∀ (j : Nat) (o : Oper) cs b, ops[j]? = some o → o.op ≠ .select cs b) :
    ∀ (fuel : Nat) (listed : Array Bool) (β : Hd) (a : Act), β.fin → Clo md ops listed →
      (∀ j oj, ops[j]? = some oj → j ≠ i → listed.getD j true = false → (∀ e ∈ oj.after, Region.binds md e = true → e.on ≠ i) → oi.apart ops oj = true) →
      i ∈ Region.ready md ops listed → kFst P ops W (Ks i) β oi a (wpAnyK P md ops W Ks Q' m fuel (listed.setIfInBounds i true)) → wpAnyK P md ops W Ks Q' m (fuel + 1) listed β a := by
  intro fuel
  induction fuel with
  | zero =>
    intro listed β a hf hc _ hr H
    refine ⟨fun h => (by rw [h] at hr; cases hr), fun j hj => ⟨fun _ => ?_, fun hjm => ?_⟩⟩
    · by_cases hji : j = i
      · subst hji
        intro o ho
        rw [hi] at ho
        cases ho
        exact H
      · obtain ⟨β', a', hK⟩ := kFst_some hf H
        have h1 := ready_mono hj hji
        rw [hK.1] at h1
        cases h1
    · have h1 := hlast j _ hc hjm hj
      rw [(mem_ready.1 hr).1] at h1
      cases h1
  | succ fuel ih =>
    intro listed β a hf hc hfree hr H
    refine ⟨fun h => (by rw [h] at hr; cases hr), fun j hj => ⟨fun hjm => ?_, fun hjm => ?_⟩⟩
    · by_cases hji : j = i
      · subst hji
        intro o ho
        rw [hi] at ho
        cases ho
        exact H
      · obtain ⟨hjun, oj, hoj, hall⟩ := mem_ready.1 hj
        have hnot : ∀ e ∈ oj.after, Region.binds md e = true → e.on ≠ i := fun e he hb heq => by
          have h1 := hall e he hb
          have h0 := (mem_ready.1 hr).1
          rw [heq] at h1
          rcases Nat.lt_or_ge i listed.size with h' | h'
          · simp [h'] at h0 h1; rw [h0] at h1; cases h1
          · simp [Array.getElem?_eq_none h'] at h1
        have h2 := kFst_swap (hfree j oj hoj hji hjun hnot) (fun cs b => hsel i oi cs b hi) (fun cs b => hsel j oj cs b hoj) hf (kFst_mono hf (fun β' a' _ hK => (hK.2 j (ready_mono hj hji)).1 hjm oj hoj) H)
        have hfree' : ∀ k ok, ops[k]? = some ok → k ≠ i → (listed.setIfInBounds j true).getD k true = false → (∀ e ∈ ok.after, Region.binds md e = true → e.on ≠ i) → oi.apart ops ok = true := fun k ok hk hki hun hno => by
          refine hfree k ok hk hki ?_ hno
          by_cases hjk : j = k
          · subst hjk; exact hjun
          · rw [getD_set_ne true hjk] at hun; exact hun
        intro o ho
        rw [hoj] at ho
        cases ho
        refine kFst_mono hf (fun β' a' hf' h3 => ih (listed.setIfInBounds j true) β' a' hf' (hc.put hj) hfree' (ready_mono hr (Ne.symm hji)) ?_) h2
        rw [Array.setIfInBounds_comm _ _ hji]
        exact h3
    · have h1 := hlast j _ hc hjm hj
      rw [(mem_ready.1 hr).1] at h1
      cases h1
def wpLexK (P : Program) (ops : Array Oper) (W : World) (Q : Hd → Act → Prop) : List Kd → List Oper → Hd → Act → Prop
  | k :: Kl, o :: rest, β, a => kFst P ops W k β o a (wpLexK P ops W Q Kl rest)
  | [], _, β, a => Q β a
  | _ :: _, [], _, _ => False
theorem wpAnyK_lex {Ks : Nat → Kd} (hs : Region.noSelect ops = true) (hl : tailB2 md ops m = true) (r : Nat) (L : Array Bool) (Kl : List Kd) : ∀ (l : List Oper) (k : Nat) (listed : Array Bool) (β : Hd) (a : Act), β.fin → Clo md ops listed → (∀ j, l[j]? = ops[k + j]?) → (∀ j, j < Kl.length → Ks (k + j) = Kl.getD j (.lets fun _ => False)) →
    lexFromT md ops m L Kl.length k listed = true → wpLexK P ops W (fun β a => ∀ w, CHd W β w → wpAny P md ops Q' (r + 1) L a w) Kl l β a → wpAnyK P md ops W Ks Q' m (Kl.length + (r + 1)) listed β a := by
  induction Kl with
  | nil =>
    intro l k listed β a _ _ _ _ hB h
    simp only [List.length_nil, lexFromT, Bool.and_eq_true, beq_iff_eq, List.all_eq_true, decide_eq_true_eq] at hB
    obtain ⟨rfl, hB⟩ := hB
    rw [List.length_nil, Nat.zero_add]
    exact ⟨fun h0 w hw => (h w hw).1 h0, fun i hi => ⟨fun h' => absurd (hB i hi) (by omega), fun _ w hw => (h w hw).2 i hi⟩⟩
  | cons S Kl ih =>
    intro l k listed β a hf hc hl' hs' hB h
    cases l with
    | nil => exact h.elim
    | cons o rest =>
      have h0 : ops[k]? = some o := by simpa using (hl' 0).symm
      simp only [List.length_cons, lexFromT, Bool.and_eq_true, decide_eq_true_eq] at hB
      obtain ⟨⟨⟨hr, hkm⟩, hfr⟩, hB'⟩ := hB
      have e : Ks k = S := by simpa using hs' 0 (by simp)
      have en : (S :: Kl).length + (r + 1) = (Kl.length + (r + 1)) + 1 := by simp; omega
      rw [en]
      refine wpAnyK_first h0 (fun t li hci ht htr => tailB2_spec hl hkm t li hci ht htr) (Region.noSelect_spec hs) (Kl.length + (r + 1)) listed β a hf hc (Region.free_spec h0 hfr) (by simpa using hr) ?_
      rw [e]
      refine kFst_mono hf (fun β' a' hf' hK => ?_) h
      refine ih rest (k + 1) _ β' a' hf' (hc.put (by simpa using hr)) (fun j => by have := hl' (j + 1); simpa [Nat.add_assoc, Nat.add_comm 1 j] using this) (fun j hj => ?_) hB' hK
      have h1 := hs' (j + 1) (by simpa using hj)
      rw [Nat.add_assoc, Nat.add_comm 1 j, h1]
      simp
theorem wp_region_new {id : Nat} {Q : Exit → Act → World → Prop} {a : Act} {w : World} {l : List Oper} (r : Nat) (L : Array Bool) (Kl : List Kd) (hm : P.follows .mixedOrders = true) (hn : Region.noSelect l.toArray = true) (hz : l.length = Kl.length + (r + 1))
    (hl : tailB2 .any l.toArray Kl.length = true) (hB : lexFromT .any l.toArray Kl.length L Kl.length 0 (Array.replicate l.toArray.size false) = true)
    (h : wpLexK P l.toArray w (fun β a => ∀ v, CHd w β v → wpAny P .any l.toArray Q (r + 1) L a v) Kl l hd0 a) : (Code.region id l.toArray true).wp P Q a w := by
  refine wp_region_any hm ?_
  have e : l.toArray.size = Kl.length + (r + 1) := by simpa using hz
  rw [e] at hB ⊢
  exact wpAnyK_sound (Ks := fun k => Kl.getD k (.lets fun _ => False)) (m := Kl.length) _ _ _ _ _ ⟨below_drewN (Below.refl _ w) 1, fun _ _ h => (by cases h)⟩ (wpAnyK_lex hn hl r L Kl l 0 _ hd0 a fin0 (fun k ok _ h => absurd h (by simp [Array.getElem?_replicate]; split <;> rfl)) (by simp) (fun j _ => by rw [Nat.zero_add]) hB h)
theorem lexK_step {Q : Hd → Act → Prop} {S : Value → Prop} {Kl : List Kd} {o : Oper} {rest : List Oper} {β : Hd} {a : Act}
    (h : ∀ K : Act → Prop, (∀ a, wpLexK P ops W Q Kl rest β a → K a) →
      wantB ops o a = true ∧ (∃ v, S v) ∧ (∀ v, Below W.heap.size W v → mUpon P S v ((execOp a.eval o).run P v)) ∧ ∀ v, S v → K (a.put o.dst v)) :
    wpLexK P ops W Q (.lets S :: Kl) (o :: rest) β a := by
  obtain ⟨h1, h2, h3, h4⟩ := h _ (fun _ h => h)
  refine ⟨fun _ => ⟨h2, h3⟩, ?_⟩
  intro v hv
  rw [h1] at hv
  exact h4 v hv
theorem lexK_new {Q : Hd → Act → Prop} {obj : Obj} {Kl : List Kd} {o : Oper} {rest : List Oper} {β : Hd} {a : Act}
    (h : ∀ (b : Nat), Free W β b → ∀ K : Act → Prop, (∀ a, wpLexK P ops W Q Kl rest (β.put b obj) a → K a) → wantB ops o a = true ∧ (∀ v, (execOp a.eval o).run P v = .ok (.value (ptr v.heap.size)) (v.alloc obj)) ∧ K (a.put o.dst (ptr b))) (hf : ∃ b, Free W β b) :
    wpLexK P ops W Q (.new obj :: Kl) (o :: rest) β a := by
  obtain ⟨b0, hb0⟩ := hf
  obtain ⟨h1, h2, _⟩ := h b0 hb0 (fun _ => True) (fun _ _ => trivial)
  exact ⟨⟨h1, h2⟩, fun b hb => (h b hb _ (fun _ h => h)).2.2⟩
theorem lexK_end {Q : Hd → Act → Prop} {rest : List Oper} {β : Hd} {a : Act} (h : Q β a) : wpLexK P ops W Q [] rest β a := h
theorem mUpon_b {v : World} {u : Value} : mUpon P (fun v => v = u) v (.ok (.value u) v) := ⟨Below.refl _ _, rfl⟩
theorem free_some {N : Nat} {W : World} {β : Hd} (h : ∀ b, N ≤ b → β b = none) : ∃ b, Free W β b := (show β.fin from ⟨N, h⟩).some W
end
end Go.Proofs.Ytmgnobeaacjdjac
