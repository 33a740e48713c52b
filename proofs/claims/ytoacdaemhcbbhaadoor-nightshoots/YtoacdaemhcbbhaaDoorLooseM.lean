/-
  A region that draws its order, as Loose6, where what is made may use what was made before.
-/
import Derived.Test.YtoacdaemhcbbhaaDoorLooseA
namespace Go.Proofs.YtoacdaemhcbbhaaDoor.M
open Go Go.RowKit

section
variable {P : Program} {ops : Array Oper} {md : Region.Mode} {Q' : Exit → Act → World → Prop} {m : Nat} {W : World}

/-- what an operation leaves: one of a set; a pointer to a new block; one of a set with a fact on the world that holds on; one of a set, by the facts that others have left. -/
inductive Kx where
  | lets (S : Value → Prop)
  | new (o : Obj)
  | made (T : Value → Prop) (S : Value → World → Prop)
  | uses (S : Value → Prop)
def Rq (P : Program) (ops : Array Oper) (W : World) (k : Kx) (γ : World → Prop) (o : Oper) (a : Act) : Prop :=
  match k with
  | .lets S => LetsM P ops W S o a
  | .new obj => IsNew P ops obj o a
  | .made T S => wantB ops o a = true ∧ (∃ v, T v) ∧ (∀ v, Stb (S v)) ∧ ∀ w, Below W.heap.size W w → γ w → mUponW P (fun v w' => T v ∧ S v w') w ((execOp a.eval o).run P w)
  | .uses S => wantB ops o a = true → (∃ v, S v) ∧ ∀ w, Below W.heap.size W w → γ w → mUpon P S w ((execOp a.eval o).run P w)
def Ef (W : World) (k : Kx) (β : Hd) (γ : World → Prop) (wb : Bool) (v : Value) (β' : Hd) (γ' : World → Prop) : Prop :=
  match k with
  | .lets S => valsOf S wb v ∧ β' = β ∧ γ' = γ
  | .new obj => ∃ b, v = ptr b ∧ Free W β b ∧ β' = β.put b obj ∧ γ' = γ
  | .made T S => T v ∧ β' = β ∧ γ' = fun w => γ w ∧ S v w
  | .uses S => valsOf S wb v ∧ β' = β ∧ γ' = γ
def kF (P : Program) (ops : Array Oper) (W : World) (k : Kx) (β : Hd) (γ : World → Prop) (o : Oper) (a : Act) (K : Hd → (World → Prop) → Act → Prop) : Prop :=
  Rq P ops W k γ o a ∧ ∀ v β' γ', Ef W k β γ (wantB ops o a) v β' γ' → K β' γ' (a.put o.dst v)
def wpAnyX (P : Program) (md : Region.Mode) (ops : Array Oper) (W : World) (Ks : Nat → Kx) (Q' : Exit → Act → World → Prop) (m : Nat) : Nat → Array Bool → Hd → (World → Prop) → Act → Prop
  | 0, listed, β, γ, a => Region.ready md ops listed = [] ∧ ∀ w, CX W β γ w → Q' .normal a w
  | fuel + 1, listed, β, γ, a => (Region.ready md ops listed = [] → ∀ w, CX W β γ w → Q' .normal a w) ∧ ∀ i ∈ Region.ready md ops listed,
      (i < m → ∀ o, ops[i]? = some o → kF P ops W (Ks i) β γ o a (wpAnyX P md ops W Ks Q' m fuel (listed.setIfInBounds i true))) ∧ (m ≤ i → ∀ w, CX W β γ w → wpOp P ops Q' i (wpAny P md ops Q' fuel (listed.setIfInBounds i true)) a w)
theorem ef_stb {k : Kx} {β β' : Hd} {γ γ' : World → Prop} {o : Oper} {a : Act} {wb : Bool} {v : Value} (hr : Rq P ops W k γ o a) (h : Ef W k β γ wb v β' γ') (hs : Stb γ) : Stb γ' := by
  cases k with
  | lets S => rw [h.2.2]; exact hs
  | new obj => obtain ⟨b, _, _, _, e⟩ := h; rw [e]; exact hs
  | made T S => rw [h.2.2]; exact fun w w' hw k => ⟨hs _ _ hw.1 k, hr.2.2.1 v _ _ hw.2 k⟩
  | uses S => rw [h.2.2]; exact hs
theorem ef_fin {k : Kx} {β β' : Hd} {γ γ' : World → Prop} {wb : Bool} {v : Value} (h : Ef W k β γ wb v β' γ') (hf : β.fin) : β'.fin := by
  cases k with
  | lets S => rw [h.2.1]; exact hf
  | new obj => obtain ⟨b, _, _, e, _⟩ := h; rw [e]; exact hf.put b obj
  | made T S => rw [h.2.1]; exact hf
  | uses S => rw [h.2.1]; exact hf
theorem wpAnyX_sound {Ks : Nat → Kx} : ∀ (fuel : Nat) (listed : Array Bool) (β : Hd) (γ : World → Prop) (a : Act) (w : World), Stb γ → CX W β γ w → wpAnyX P md ops W Ks Q' m fuel listed β γ a → wpAny P md ops Q' fuel listed a w
  | 0, _, _, _, _, w, _, hw, h => ⟨h.1, h.2 w hw⟩
  | fuel + 1, listed, β, γ, a, w, hs, hw, h => by
    refine ⟨fun h0 => h.1 h0 w hw, fun i hi => ?_⟩
    by_cases him : m ≤ i
    · exact (h.2 i hi).2 him w hw
    · obtain ⟨o, ho⟩ := ready_is hi
      obtain ⟨hq, h1⟩ := (h.2 i hi).1 (by omega) o ho
      have hstb := fun v β' γ' (e : Ef W (Ks i) β γ (wantB ops o a) v β' γ') => ef_stb hq e hs
      cases hk : Ks i with
      | lets S =>
        rw [hk] at hq h1
        refine wpOp_some ho (fun hwt => ?_) (fun hwt => ?_)
        · refine wp_mUpon hw hs ((hq hwt).2 w hw.low) (fun v w' hv hc => wpAnyX_sound fuel _ β γ _ w' hs hc (h1 v β γ ⟨?_, rfl, rfl⟩))
          rw [hwt]
          exact hv
        · refine wpAnyX_sound fuel _ β γ _ w hs hw (h1 undef β γ ⟨?_, rfl, rfl⟩)
          rw [hwt]
          rfl
      | uses S =>
        rw [hk] at hq h1
        refine wpOp_some ho (fun hwt => ?_) (fun hwt => ?_)
        · refine wp_mUpon hw hs ((hq hwt).2 w hw.low hw.fact) (fun v w' hv hc => wpAnyX_sound fuel _ β γ _ w' hs hc (h1 v β γ ⟨?_, rfl, rfl⟩))
          rw [hwt]
          exact hv
        · refine wpAnyX_sound fuel _ β γ _ w hs hw (h1 undef β γ ⟨?_, rfl, rfl⟩)
          rw [hwt]
          rfl
      | made T S =>
        rw [hk] at hq h1 hstb
        refine wpOp_some ho (fun _ => ?_) (fun hwt => (by rw [hq.1] at hwt; cases hwt))
        refine wp_mUponW hw hs (hq.2.2.2 w hw.low hw.fact) (fun v w' hv hc => ?_)
        exact wpAnyX_sound fuel _ β _ _ w' (hstb v β _ ⟨hv.1, rfl, rfl⟩) ⟨hc.low, hc.held, hc.fact, hv.2⟩ (h1 v β _ ⟨hv.1, rfl, rfl⟩)
      | new obj =>
        rw [hk] at hq h1
        obtain ⟨hwt, hrun⟩ := hq
        have hno : β w.heap.size = none := by
          cases e : β w.heap.size with
          | none => rfl
          | some o' =>
            have := (Array.getElem?_eq_some_iff.1 (hw.held _ _ e)).1
            omega
        refine wpOp_some ho (fun _ => ?_) (fun hwt' => (by rw [hwt] at hwt'; cases hwt'))
        unfold Oper.wp
        rw [hrun]
        simp only [Oper.upon]
        refine wpAnyX_sound fuel _ _ γ _ _ hs ⟨hw.low.alloc hw.low.size obj, fun b o' hb => ?_, hs _ _ hw.fact ((Below.refl _ w).alloc (Nat.le_refl _) obj)⟩ (h1 (ptr w.heap.size) (β.put w.heap.size obj) γ ⟨w.heap.size, rfl, ⟨hw.low.size, hno⟩, rfl, rfl⟩)
        unfold Hd.put at hb
        by_cases eb : b = w.heap.size
        · rw [if_pos eb] at hb
          cases hb
          rw [eb]
          show (w.heap.push obj)[w.heap.size]? = _
          exact Array.getElem?_push_size
        · rw [if_neg eb] at hb
          have h3 := hw.held b o' hb
          have h4 := (Array.getElem?_eq_some_iff.1 h3).1
          rw [← h3]
          show (w.heap.push obj)[b]? = _
          rw [Array.getElem?_push, if_neg (by omega)]
theorem Rq.of_put {k : Kx} {γ : World → Prop} {o : Oper} {a a' : Act} (he : execOp a'.eval o = execOp a.eval o) (hw : wantB ops o a' = wantB ops o a) (h : Rq P ops W k γ o a) : Rq P ops W k γ o a' := by
  cases k with
  | lets S => exact LetsM.of_put he hw h
  | new obj => exact IsNew.of_put he hw h
  | made T S => unfold Rq at *; rw [he, hw]; exact h
  | uses S => unfold Rq at *; rw [he, hw]; exact h
/-- a stronger fact serves as well. -/
theorem Rq.more {k : Kx} {γ γ' : World → Prop} {o : Oper} {a : Act} (hg : ∀ w, γ' w → γ w) (h : Rq P ops W k γ o a) : Rq P ops W k γ' o a := by
  cases k with
  | uses S => exact fun hw => ⟨(h hw).1, fun w hb hf => (h hw).2 w hb (hg w hf)⟩
  | made T S => exact ⟨h.1, h.2.1, h.2.2.1, fun w hb hf => h.2.2.2 w hb (hg w hf)⟩
  | lets S => exact h
  | new obj => exact h
theorem ef_more {k : Kx} {β β' : Hd} {γ γ' : World → Prop} {wb : Bool} {v : Value} (h : Ef W k β γ wb v β' γ') : ∀ w, γ' w → γ w := by
  cases k with
  | lets S => rw [h.2.2]; exact fun _ h => h
  | new obj => obtain ⟨b, _, _, _, e⟩ := h; rw [e]; exact fun _ h => h
  | made T S => rw [h.2.2]; exact fun _ h => h.1
  | uses S => rw [h.2.2]; exact fun _ h => h
theorem ef_some {k : Kx} {β : Hd} {γ : World → Prop} {o : Oper} {a : Act} (hf : β.fin) (h : Rq P ops W k γ o a) : ∃ v β' γ', Ef W k β γ (wantB ops o a) v β' γ' := by
  cases k with
  | lets S =>
    obtain ⟨v, hv⟩ := LetsM.some h
    exact ⟨v, β, γ, hv, rfl, rfl⟩
  | new obj =>
    obtain ⟨b, hb⟩ := hf.some W
    exact ⟨_, _, γ, b, rfl, hb, rfl, rfl⟩
  | made T S =>
    obtain ⟨v, hv⟩ := h.2.1
    exact ⟨v, β, _, hv, rfl, rfl⟩
  | uses S =>
    cases e : wantB ops o a with
    | false => exact ⟨undef, β, γ, rfl, rfl, rfl⟩
    | true =>
      obtain ⟨v, hv⟩ := (h e).1
      exact ⟨v, β, γ, hv, rfl, rfl⟩
theorem ef_diamond {ki kj : Kx} {β β1 β2 : Hd} {γ γ1 γ2 : World → Prop} {wi wj : Bool} {u v : Value} (hj : Ef W kj β γ wj u β1 γ1) (hi : Ef W ki β1 γ1 wi v β2 γ2) : ∃ β' γ', Ef W ki β γ wi v β' γ' ∧ Ef W kj β' γ' wj u β2 γ2 := by
  have swp : ∀ (A B : World → Prop), (fun w => (γ w ∧ A w) ∧ B w) = fun w => (γ w ∧ B w) ∧ A w := fun A B => by
    funext w
    exact propext ⟨fun ⟨⟨h1, h2⟩, h3⟩ => ⟨⟨h1, h3⟩, h2⟩, fun ⟨⟨h1, h2⟩, h3⟩ => ⟨⟨h1, h3⟩, h2⟩⟩
  cases kj with
  | lets S =>
    obtain ⟨hu, rfl, rfl⟩ := hj
    exact ⟨β2, γ2, hi, hu, rfl, rfl⟩
  | uses S =>
    obtain ⟨hu, rfl, rfl⟩ := hj
    exact ⟨β2, γ2, hi, hu, rfl, rfl⟩
  | made T S =>
    obtain ⟨hu, rfl, rfl⟩ := hj
    cases ki with
    | lets S' =>
      obtain ⟨hv, rfl, rfl⟩ := hi
      exact ⟨_, _, ⟨hv, rfl, rfl⟩, hu, rfl, rfl⟩
    | uses S' =>
      obtain ⟨hv, rfl, rfl⟩ := hi
      exact ⟨_, _, ⟨hv, rfl, rfl⟩, hu, rfl, rfl⟩
    | made T' S' =>
      obtain ⟨hv, rfl, rfl⟩ := hi
      exact ⟨_, _, ⟨hv, rfl, rfl⟩, hu, rfl, swp _ _⟩
    | new obj =>
      obtain ⟨b, rfl, hb, rfl, rfl⟩ := hi
      exact ⟨_, _, ⟨b, rfl, hb, rfl, rfl⟩, hu, rfl, rfl⟩
  | new obj =>
    obtain ⟨c, rfl, hc, rfl, rfl⟩ := hj
    cases ki with
    | lets S' =>
      obtain ⟨hv, rfl, rfl⟩ := hi
      exact ⟨_, _, ⟨hv, rfl, rfl⟩, c, rfl, hc, rfl, rfl⟩
    | uses S' =>
      obtain ⟨hv, rfl, rfl⟩ := hi
      exact ⟨_, _, ⟨hv, rfl, rfl⟩, c, rfl, hc, rfl, rfl⟩
    | made T' S' =>
      obtain ⟨hv, rfl, rfl⟩ := hi
      exact ⟨_, _, ⟨hv, rfl, rfl⟩, c, rfl, hc, rfl, rfl⟩
    | new obj' =>
      obtain ⟨b, rfl, hb, rfl, rfl⟩ := hi
      obtain ⟨hb', hne⟩ := hb.of_put
      exact ⟨_, _, ⟨b, rfl, hb', rfl, rfl⟩, c, rfl, hc.to_put (Ne.symm hne), (put_swap hne).symm, rfl⟩
def Kx.isMade : Kx → Bool | .made .. => true | _ => false
def Kx.isUse : Kx → Bool | .uses .. => true | .made .. => true | _ => false
/-- two that are apart may change places. -/
theorem kF_swap {ki kj : Kx} {oi oj : Oper} {β : Hd} {γ : World → Prop} {a : Act} {K : Hd → (World → Prop) → Act → Prop} (hap : oi.apart ops oj = true) (hsi : ∀ cs b, oi.op ≠ .select cs b) (hsj : ∀ cs b, oj.op ≠ .select cs b) (hf : β.fin)
    (hmu : ki.isMade = true → kj.isUse = true → False) (h : kF P ops W ki β γ oi a fun β' γ' a' => kF P ops W kj β' γ' oj a' K) : kF P ops W kj β γ oj a fun β' γ' a' => kF P ops W ki β' γ' oi a' K := by
  obtain ⟨h1, h2, h3⟩ := Oper.apart_spec hap
  obtain ⟨hq, h⟩ := h
  obtain ⟨v0, β0, γ0, e0⟩ := ef_some hf hq
  refine ⟨?_, fun u β1 γ1 e1 => ⟨?_, fun v β2 γ2 e2 => ?_⟩⟩
  · have hqj := Rq.of_put (execOp_put oj hsj a oi.dst v0 h1).symm (want_put a v0 hap).1.symm (h v0 β0 γ0 e0).1
    cases kj with
    | lets S => exact hqj
    | new obj => exact hqj
    | made T S =>
      have hg : γ0 = γ := by
        cases ki with
        | lets S' => exact e0.2.2
        | new obj => obtain ⟨_, _, _, _, e⟩ := e0; exact e
        | made T S' => exact (hmu rfl rfl).elim
        | uses S' => exact e0.2.2
      rw [hg] at hqj
      exact hqj
    | uses S =>
      have hg : γ0 = γ := by
        cases ki with
        | lets S' => exact e0.2.2
        | new obj => obtain ⟨_, _, _, _, e⟩ := e0; exact e
        | made T S' => exact (hmu rfl rfl).elim
        | uses S' => exact e0.2.2
      rw [hg] at hqj
      exact hqj
  · exact Rq.of_put (execOp_put oi hsi a oj.dst u h3) (want_put a u hap).2 (hq.more (ef_more e1))
  · rw [(want_put a u hap).2] at e2
    obtain ⟨β', γ', f1, f2⟩ := ef_diamond e1 e2
    rw [← Act.put_comm a v u h2]
    refine (h v β' γ' f1).2 u β2 γ2 ?_
    rw [(want_put a v hap).1]
    exact f2
theorem kF_mono {k : Kx} {o : Oper} {β : Hd} {γ : World → Prop} {a : Act} {K K' : Hd → (World → Prop) → Act → Prop} (hf : β.fin) (h : ∀ β' γ' a', β'.fin → K β' γ' a' → K' β' γ' a') (hk : kF P ops W k β γ o a K) : kF P ops W k β γ o a K' :=
  ⟨hk.1, fun v β' γ' e => h _ _ _ (ef_fin e hf) (hk.2 v β' γ' e)⟩
theorem wpAnyX_first {Ks : Nat → Kx} {i : Nat} {oi : Oper} (hi : ops[i]? = some oi) (hlast : ∀ j listed, Clo md ops listed → m ≤ j → j ∈ Region.ready md ops listed → listed.getD i true = true) (hsel : ∀ (j : Nat) (o : Oper) cs b, ops[j]? = some o → o.op ≠ .select cs b)
    (hmu : ∀ j oj, ops[j]? = some oj → i < j → (Ks i).isMade = true → (Ks j).isUse = true → reachN md ops ops.size j i = true) :
    ∀ (fuel : Nat) (listed : Array Bool) (β : Hd) (γ : World → Prop) (a : Act), β.fin → Clo md ops listed → (∀ j, listed.getD j true = false → i ≤ j) →
      (∀ j oj, ops[j]? = some oj → j ≠ i → listed.getD j true = false → (∀ e ∈ oj.after, Region.binds md e = true → e.on ≠ i) → oi.apart ops oj = true) →
      i ∈ Region.ready md ops listed → kF P ops W (Ks i) β γ oi a (wpAnyX P md ops W Ks Q' m fuel (listed.setIfInBounds i true)) → wpAnyX P md ops W Ks Q' m (fuel + 1) listed β γ a := by
  intro fuel
  induction fuel with
  | zero =>
    intro listed β γ a hf hc _ _ hr H
    refine ⟨fun h => (by rw [h] at hr; cases hr), fun j hj => ⟨fun _ => ?_, fun hjm => ?_⟩⟩
    · by_cases hji : j = i
      · subst hji
        intro o ho
        rw [hi] at ho
        cases ho
        exact H
      · obtain ⟨v, β', γ', e⟩ := ef_some hf H.1
        have hK := H.2 v β' γ' e
        have h1 := ready_mono hj hji
        rw [hK.1] at h1
        cases h1
    · have h1 := hlast j _ hc hjm hj
      rw [(mem_ready.1 hr).1] at h1
      cases h1
  | succ fuel ih =>
    intro listed β γ a hf hc hlow hfree hr H
    refine ⟨fun h => (by rw [h] at hr; cases hr), fun j hj => ⟨fun hjm => ?_, fun hjm => ?_⟩⟩
    · by_cases hji : j = i
      · subst hji
        intro o ho
        rw [hi] at ho
        cases ho
        exact H
      · obtain ⟨hjun, oj, hoj, hall⟩ := mem_ready.1 hj
        have hnot : ∀ e ∈ oj.after, Region.binds md e = true → e.on ≠ i := fun e he hb heq => by
          have h1 := hall e he hb
          have h0 := (mem_ready.1 hr).1
          rw [heq] at h1
          rcases Nat.lt_or_ge i listed.size with h' | h'
          · simp [h'] at h0 h1; rw [h0] at h1; cases h1
          · simp [Array.getElem?_eq_none h'] at h1
        have hno : (Ks i).isMade = true → (Ks j).isUse = true → False := fun h1 h2 => by
          have hr1 := hmu j oj hoj (by have := hlow j hjun; omega) h1 h2
          have h3 := getD_true (reachN_spec hc _ j hr1 (fun o' ho' e he hb => by rw [hoj] at ho'; cases ho'; exact hall e he hb))
          rw [(mem_ready.1 hr).1] at h3
          cases h3
        have h2 := kF_swap (hfree j oj hoj hji hjun hnot) (fun cs b => hsel i oi cs b hi) (fun cs b => hsel j oj cs b hoj) hf hno (kF_mono hf (fun β' γ' a' _ hK => (hK.2 j (ready_mono hj hji)).1 hjm oj hoj) H)
        have hfree' : ∀ k ok, ops[k]? = some ok → k ≠ i → (listed.setIfInBounds j true).getD k true = false → (∀ e ∈ ok.after, Region.binds md e = true → e.on ≠ i) → oi.apart ops ok = true := fun k ok hk hki hun hno => by
          refine hfree k ok hk hki ?_ hno
          by_cases hjk : j = k
          · subst hjk; exact hjun
          · rw [getD_set_ne true hjk] at hun; exact hun
        have hlow' : ∀ k, (listed.setIfInBounds j true).getD k true = false → i ≤ k := fun k hk => by
          by_cases hjk : j = k
          · subst hjk; exact hlow j hjun
          · rw [getD_set_ne true hjk] at hk; exact hlow k hk
        intro o ho
        rw [hoj] at ho
        cases ho
        refine kF_mono hf (fun β' γ' a' hf' h3 => ih (listed.setIfInBounds j true) β' γ' a' hf' (hc.put hj) hlow' hfree' (ready_mono hr (Ne.symm hji)) ?_) h2
        rw [Array.setIfInBounds_comm _ _ hji]
        exact h3
    · have h1 := hlast j _ hc hjm hj
      rw [(mem_ready.1 hr).1] at h1
      cases h1
def wpLexX (P : Program) (ops : Array Oper) (W : World) (Q : Hd → (World → Prop) → Act → Prop) : List Kx → List Oper → Hd → (World → Prop) → Act → Prop
  | k :: Kl, o :: rest, β, γ, a => kF P ops W k β γ o a (wpLexX P ops W Q Kl rest)
  | [], _, β, γ, a => Q β γ a
  | _ :: _, [], _, _, _ => False
/-- whoever uses waits for all that were made before. -/
def useM (md : Region.Mode) (ops : Array Oper) (ms us : List Nat) : Bool := us.all fun j => ms.all fun i => decide (j ≤ i) || reachN md ops ops.size j i
theorem low_put {listed : Array Bool} {k j : Nat} (h : ∀ j, listed.getD j true = false → k ≤ j) (hj : (listed.setIfInBounds k true).getD j true = false) : k + 1 ≤ j := by
  by_cases e : k = j
  · subst e
    rcases Nat.lt_or_ge k listed.size with q | q
    · simp [q] at hj
    · simp [q] at hj
  · rw [getD_set_ne true e] at hj
    have := h j hj
    omega
theorem wpAnyX_lex {Ks : Nat → Kx} (hs : Region.noSelect ops = true) (hl : tailN md ops m = true) (hmu : ∀ i j oj, ops[j]? = some oj → i < j → (Ks i).isMade = true → (Ks j).isUse = true → reachN md ops ops.size j i = true) (r : Nat) (L : Array Bool) (Kl : List Kx) :
    ∀ (l : List Oper) (k : Nat) (listed : Array Bool) (β : Hd) (γ : World → Prop) (a : Act), β.fin → Clo md ops listed → (∀ j, listed.getD j true = false → k ≤ j) → (∀ j, l[j]? = ops[k + j]?) → (∀ j, j < Kl.length → Ks (k + j) = Kl.getD j (.lets fun _ => False)) →
    lexFromT md ops m L Kl.length k listed = true → wpLexX P ops W (fun β γ a => ∀ w, CX W β γ w → wpAny P md ops Q' (r + 1) L a w) Kl l β γ a → wpAnyX P md ops W Ks Q' m (Kl.length + (r + 1)) listed β γ a := by
  induction Kl with
  | nil =>
    intro l k listed β γ a _ _ _ _ _ hB h
    simp only [List.length_nil, lexFromT, Bool.and_eq_true, beq_iff_eq, List.all_eq_true, decide_eq_true_eq] at hB
    obtain ⟨rfl, hB⟩ := hB
    rw [List.length_nil, Nat.zero_add]
    exact ⟨fun h0 w hw => (h w hw).1 h0, fun i hi => ⟨fun h' => absurd (hB i hi) (by omega), fun _ w hw => (h w hw).2 i hi⟩⟩
  | cons S Kl ih =>
    intro l k listed β γ a hf hc hlo hl' hs' hB h
    cases l with
    | nil => exact h.elim
    | cons o rest =>
      have h0 : ops[k]? = some o := by simpa using (hl' 0).symm
      simp only [List.length_cons, lexFromT, Bool.and_eq_true, decide_eq_true_eq] at hB
      obtain ⟨⟨⟨hr, hkm⟩, hfr⟩, hB'⟩ := hB
      have e : Ks k = S := by simpa using hs' 0 (by simp)
      have en : (S :: Kl).length + (r + 1) = (Kl.length + (r + 1)) + 1 := by simp; omega
      rw [en]
      refine wpAnyX_first h0 (fun t li hci ht htr => tailN_spec hl hkm t li hci ht htr) (Region.noSelect_spec hs) (fun j oj => hmu k j oj) (Kl.length + (r + 1)) listed β γ a hf hc hlo (Region.free_spec h0 hfr) (by simpa using hr) ?_
      rw [e]
      refine kF_mono hf (fun β' γ' a' hf' hK => ?_) h
      refine ih rest (k + 1) _ β' γ' a' hf' (hc.put (by simpa using hr)) (fun j hj => low_put hlo hj) (fun j => by have := hl' (j + 1); simpa [Nat.add_assoc, Nat.add_comm 1 j] using this) (fun j hj => ?_) hB' hK
      have h1 := hs' (j + 1) (by simpa using hj)
      rw [Nat.add_assoc, Nat.add_comm 1 j, h1]
      simp
/-- which are made, which use. -/
def kindsB (Kl : List Kx) (ms us : List Nat) : Prop := (∀ i, (Kl.getD i (.lets fun _ => False)).isMade = true → i ∈ ms) ∧ ∀ i, (Kl.getD i (.lets fun _ => False)).isUse = true → i ∈ us
theorem any_made {Q : Exit → Act → World → Prop} {a : Act} {w : World} {l : List Oper} (r : Nat) (L : Array Bool) (Kl : List Kx) (ms us : List Nat) (hn : Region.noSelect l.toArray = true) (hz : l.length = Kl.length + (r + 1))
    (hk : kindsB Kl ms us) (hu : useM .any l.toArray ms us = true)
    (hl : tailN .any l.toArray Kl.length = true) (hB : lexFromT .any l.toArray Kl.length L Kl.length 0 (Array.replicate l.toArray.size false) = true)
    (h : wpLexX P l.toArray w (fun β γ a => ∀ v, CX w β γ v → wpAny P .any l.toArray Q (r + 1) L a v) Kl l hd0 (fun _ => True) a) : wpAny P .any l.toArray Q l.toArray.size (Array.replicate l.toArray.size false) a (w.drewN 1) := by
  have e : l.toArray.size = Kl.length + (r + 1) := by simpa using hz
  have hmu : ∀ i j oj, l.toArray[j]? = some oj → i < j → (Kl.getD i (.lets fun _ => False)).isMade = true → (Kl.getD j (.lets fun _ => False)).isUse = true → reachN .any l.toArray l.toArray.size j i = true := by
    intro i j oj _ hij h1 h2
    unfold useM at hu
    rw [List.all_eq_true] at hu
    have h3 := hu j (hk.2 j h2)
    rw [List.all_eq_true] at h3
    have h4 := h3 i (hk.1 i h1)
    rw [Bool.or_eq_true, decide_eq_true_eq] at h4
    exact h4.resolve_left (by omega)
  rw [e] at hB ⊢
  exact wpAnyX_sound (Ks := fun k => Kl.getD k (.lets fun _ => False)) (m := Kl.length) _ _ _ _ _ _ (fun _ _ h _ => h) ⟨below_drewN (Below.refl _ w) 1, fun _ _ h => (by cases h), trivial⟩
    (wpAnyX_lex hn hl hmu r L Kl l 0 _ hd0 _ a fin0 (fun k ok _ h => absurd h (by simp [Array.getElem?_replicate]; split <;> rfl)) (fun j _ => Nat.zero_le j) (by simp) (fun j _ => by rw [Nat.zero_add]) hB h)
theorem wp_region_made {id : Nat} {Q : Exit → Act → World → Prop} {a : Act} {w : World} {l : List Oper} (r : Nat) (L : Array Bool) (Kl : List Kx) (ms us : List Nat) (hm : P.follows .mixedOrders = true) (hn : Region.noSelect l.toArray = true) (hz : l.length = Kl.length + (r + 1))
    (hk : kindsB Kl ms us) (hu : useM .any l.toArray ms us = true)
    (hl : tailN .any l.toArray Kl.length = true) (hB : lexFromT .any l.toArray Kl.length L Kl.length 0 (Array.replicate l.toArray.size false) = true)
    (h : wpLexX P l.toArray w (fun β γ a => ∀ v, CX w β γ v → wpAny P .any l.toArray Q (r + 1) L a v) Kl l hd0 (fun _ => True) a) : (Code.region id l.toArray true).wp P Q a w :=
  wp_region_any hm (any_made r L Kl ms us hn hz hk hu hl hB h)
theorem lexX_step {Q : Hd → (World → Prop) → Act → Prop} {S : Value → Prop} {Kl : List Kx} {o : Oper} {rest : List Oper} {β : Hd} {γ : World → Prop} {a : Act}
    (h : ∀ K : Act → Prop, (∀ a, wpLexX P ops W Q Kl rest β γ a → K a) →
      wantB ops o a = true ∧ (∃ v, S v) ∧ (∀ v, Below W.heap.size W v → mUpon P S v ((execOp a.eval o).run P v)) ∧ ∀ v, S v → K (a.put o.dst v)) :
    wpLexX P ops W Q (.lets S :: Kl) (o :: rest) β γ a := by
  obtain ⟨h1, h2, h3, h4⟩ := h _ (fun _ h => h)
  refine ⟨fun _ => ⟨h2, h3⟩, ?_⟩
  rintro v β' γ' ⟨hv, rfl, rfl⟩
  rw [h1] at hv
  exact h4 v hv
theorem lexX_uses {Q : Hd → (World → Prop) → Act → Prop} {S : Value → Prop} {Kl : List Kx} {o : Oper} {rest : List Oper} {β : Hd} {γ : World → Prop} {a : Act}
    (h : ∀ K : Act → Prop, (∀ a, wpLexX P ops W Q Kl rest β γ a → K a) →
      wantB ops o a = true ∧ (∃ v, S v) ∧ (∀ v, Below W.heap.size W v → γ v → mUpon P S v ((execOp a.eval o).run P v)) ∧ ∀ v, S v → K (a.put o.dst v)) :
    wpLexX P ops W Q (.uses S :: Kl) (o :: rest) β γ a := by
  obtain ⟨h1, h2, h3, h4⟩ := h _ (fun _ h => h)
  refine ⟨fun _ => ⟨h2, h3⟩, ?_⟩
  rintro v β' γ' ⟨hv, rfl, rfl⟩
  rw [h1] at hv
  exact h4 v hv
theorem lexX_made {Q : Hd → (World → Prop) → Act → Prop} {T : Value → Prop} {S : Value → World → Prop} {Kl : List Kx} {o : Oper} {rest : List Oper} {β : Hd} {γ : World → Prop} {a : Act}
    (h : wantB ops o a = true ∧ (∃ v, T v) ∧ (∀ v, Stb (S v)) ∧ (∀ v, Below W.heap.size W v → γ v → mUponW P (fun u w' => T u ∧ S u w') v ((execOp a.eval o).run P v)) ∧ ∀ v, T v → ∀ K : Act → Prop, (∀ a, wpLexX P ops W Q Kl rest β (fun w => γ w ∧ S v w) a → K a) → K (a.put o.dst v)) :
    wpLexX P ops W Q (.made T S :: Kl) (o :: rest) β γ a := by
  obtain ⟨h1, h2, h3, h4, h5⟩ := h
  refine ⟨⟨h1, h2, h3, h4⟩, ?_⟩
  rintro v β' γ' ⟨hv, rfl, rfl⟩
  exact h5 v hv _ (fun _ h => h)
theorem lexX_new {Q : Hd → (World → Prop) → Act → Prop} {obj : Obj} {Kl : List Kx} {o : Oper} {rest : List Oper} {β : Hd} {γ : World → Prop} {a : Act} (hf : ∃ b, Free W β b)
    (h : ∀ (b : Nat), Free W β b → ∀ K : Act → Prop, (∀ a, wpLexX P ops W Q Kl rest (β.put b obj) γ a → K a) → wantB ops o a = true ∧ (∀ v, (execOp a.eval o).run P v = .ok (.value (ptr v.heap.size)) (v.alloc obj)) ∧ K (a.put o.dst (ptr b))) :
    wpLexX P ops W Q (.new obj :: Kl) (o :: rest) β γ a := by
  obtain ⟨b0, hb0⟩ := hf
  obtain ⟨h1, h2, _⟩ := h b0 hb0 (fun _ => True) (fun _ _ => trivial)
  refine ⟨⟨h1, h2⟩, ?_⟩
  rintro v β' γ' ⟨b, rfl, hb, rfl, rfl⟩
  exact (h b hb _ (fun _ h => h)).2.2
theorem lexX_end {Q : Hd → (World → Prop) → Act → Prop} {rest : List Oper} {β : Hd} {γ : World → Prop} {a : Act} (h : Q β γ a) : wpLexX P ops W Q [] rest β γ a := h
end
end Go.Proofs.YtoacdaemhcbbhaaDoor.M
