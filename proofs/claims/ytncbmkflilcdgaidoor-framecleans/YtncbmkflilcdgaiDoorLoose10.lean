/-
  A region that draws its order, where a variable's block is made (operation x, which waits for nothing) and a callee may come ahead of it or behind it ('x, l, err := f(..)', x in a block of its own): reads first, in any order; then what follows, the block made ahead (mode A) or not yet (mode B).
-/
import Derived.Test.YtncbmkflilcdgaiDoorLoose7
namespace Go.Proofs.YtncbmkflilcdgaiDoor
open Go Go.RowKit

section
variable {P : Program} {ops : Array Oper} {md : Region.Mode} {Q' : Exit → Act → World → Prop} {m : Nat} {W : World} {x : Nat} {ox : Oper} {obj : Obj}

theorem wpOp_made {Ks : Nat → Kx} {fuel : Nat} {listed : Array Bool} {β : Hd} {γ : World → Prop} {a : Act} {w : World} (hs : Stb γ) (hw : CX W β γ w) (hx : ops[x]? = some ox) (hq : IsNew P ops obj ox a)
    (h : ∀ b, Free W β b → wpAnyX P md ops W Ks Q' m fuel (listed.setIfInBounds x true) (β.put b obj) γ (a.put ox.dst (ptr b))) : wpOp P ops Q' x (wpAny P md ops Q' fuel (listed.setIfInBounds x true)) a w := by
  obtain ⟨hwt, hrun⟩ := hq
  have hno : β w.heap.size = none := by
    cases e : β w.heap.size with
    | none => rfl
    | some o' =>
      have := (Array.getElem?_eq_some_iff.1 (hw.held _ _ e)).1
      omega
  refine wpOp_some hx (fun _ => ?_) (fun hwt' => (by rw [hwt] at hwt'; cases hwt'))
  unfold Oper.wp
  rw [hrun]
  simp only [Oper.upon]
  refine wpAnyX_sound fuel _ _ γ _ _ hs ⟨hw.low.alloc hw.low.size obj, fun b o' hb => ?_, hs _ _ hw.fact ((Below.refl _ w).alloc (Nat.le_refl _) obj)⟩ (h w.heap.size ⟨hw.low.size, hno⟩)
  unfold Hd.put at hb
  by_cases eb : b = w.heap.size
  · rw [if_pos eb] at hb
    cases hb
    rw [eb]
    show (w.heap.push obj)[w.heap.size]? = _
    exact Array.getElem?_push_size
  · rw [if_neg eb] at hb
    have h3 := hw.held b o' hb
    have h4 := (Array.getElem?_eq_some_iff.1 h3).1
    rw [← h3]
    show (w.heap.push obj)[b]? = _
    rw [Array.getElem?_push, if_neg (by omega)]
theorem getD_more {listed : Array Bool} {i j : Nat} (h : listed.getD j true = true) : (listed.setIfInBounds i true).getD j true = true := by
  by_cases hij : i = j
  · subst hij
    rcases Nat.lt_or_ge i listed.size with h' | h'
    · simp [h']
    · simp
  · rw [getD_set_ne true hij]; exact h
/-- mode A: x is listed. -/
theorem first_A {Ks : Nat → Kx} {i : Nat} {oi : Oper} (hi : ops[i]? = some oi) (him : i < m) (hlast : ∀ j listed, Clo md ops listed → m ≤ j → j ≠ x → j ∈ Region.ready md ops listed → listed.getD i true = true) (hsel : ∀ (j : Nat) (o : Oper) cs b, ops[j]? = some o → o.op ≠ .select cs b) (hlets : ∀ j, j < m → ∃ S, Ks j = .lets S) :
    ∀ (fuel : Nat) (listed : Array Bool) (β : Hd) (γ : World → Prop) (a : Act), β.fin → Clo md ops listed → listed.getD x true = true →
      (∀ j oj, ops[j]? = some oj → j ≠ i → listed.getD j true = false → (∀ e ∈ oj.after, Region.binds md e = true → e.on ≠ i) → oi.apart ops oj = true) →
      i ∈ Region.ready md ops listed → kF P ops W (Ks i) β γ oi a (wpAnyX P md ops W Ks Q' m fuel (listed.setIfInBounds i true)) → wpAnyX P md ops W Ks Q' m (fuel + 1) listed β γ a := by
  intro fuel
  induction fuel with
  | zero =>
    intro listed β γ a hf hc hlx _ hr H
    refine ⟨fun h => (by rw [h] at hr; cases hr), fun j hj => ⟨fun _ => ?_, fun hjm => ?_⟩⟩
    · by_cases hji : j = i
      · subst hji
        intro o ho
        rw [hi] at ho
        cases ho
        exact H
      · obtain ⟨v, β', γ', e⟩ := ef_some hf H.1
        have hK := H.2 v β' γ' e
        have h1 := ready_mono hj hji
        rw [hK.1] at h1
        cases h1
    · have hjx : j ≠ x := fun e => by rw [e] at hj; rw [(mem_ready.1 hj).1] at hlx; cases hlx
      have h1 := hlast j _ hc hjm hjx hj
      rw [(mem_ready.1 hr).1] at h1
      cases h1
  | succ fuel ih =>
    intro listed β γ a hf hc hlx hfree hr H
    refine ⟨fun h => (by rw [h] at hr; cases hr), fun j hj => ⟨fun hjm => ?_, fun hjm => ?_⟩⟩
    · by_cases hji : j = i
      · subst hji
        intro o ho
        rw [hi] at ho
        cases ho
        exact H
      · obtain ⟨hjun, oj, hoj, hall⟩ := mem_ready.1 hj
        have hnot : ∀ e ∈ oj.after, Region.binds md e = true → e.on ≠ i := fun e he hb heq => by
          have h1 := hall e he hb
          have h0 := (mem_ready.1 hr).1
          rw [heq] at h1
          rcases Nat.lt_or_ge i listed.size with h' | h'
          · simp [h'] at h0 h1; rw [h0] at h1; cases h1
          · simp [Array.getElem?_eq_none h'] at h1
        have hno : (Ks i).isMade = true → (Ks j).isUse = true → False := fun h1 h2 => by
          obtain ⟨S, e⟩ := hlets i him
          rw [e] at h1
          cases h1
        have h2 := kF_swap (hfree j oj hoj hji hjun hnot) (fun cs b => hsel i oi cs b hi) (fun cs b => hsel j oj cs b hoj) hf hno (kF_mono hf (fun β' γ' a' _ hK => (hK.2 j (ready_mono hj hji)).1 hjm oj hoj) H)
        have hfree' : ∀ k ok, ops[k]? = some ok → k ≠ i → (listed.setIfInBounds j true).getD k true = false → (∀ e ∈ ok.after, Region.binds md e = true → e.on ≠ i) → oi.apart ops ok = true := fun k ok hk hki hun hno => by
          refine hfree k ok hk hki ?_ hno
          by_cases hjk : j = k
          · subst hjk; exact hjun
          · rw [getD_set_ne true hjk] at hun; exact hun
        intro o ho
        rw [hoj] at ho
        cases ho
        refine kF_mono hf (fun β' γ' a' hf' h3 => ih (listed.setIfInBounds j true) β' γ' a' hf' (hc.put hj) (getD_more hlx) hfree' (ready_mono hr (Ne.symm hji)) ?_) h2
        rw [Array.setIfInBounds_comm _ _ hji]
        exact h3
    · have hjx : j ≠ x := fun e => by rw [e] at hj; rw [(mem_ready.1 hj).1] at hlx; cases hlx
      have h1 := hlast j _ hc hjm hjx hj
      rw [(mem_ready.1 hr).1] at h1
      cases h1
/-- mode A holds, whichever block is made now. -/
def ModeA (P : Program) (md : Region.Mode) (ops : Array Oper) (W : World) (Ks : Nat → Kx) (Q' : Exit → Act → World → Prop) (m x : Nat) (ox : Oper) (obj : Obj) (fuel : Nat) (listed : Array Bool) (β : Hd) (γ : World → Prop) (a : Act) : Prop :=
  ∀ b, Free W β b → wpAnyX P md ops W Ks Q' m fuel (listed.setIfInBounds x true) (β.put b obj) γ (a.put ox.dst (ptr b))
theorem ModeA.next {Ks : Nat → Kx} {fuel j : Nat} {listed : Array Bool} {β : Hd} {γ : World → Prop} {a : Act} {oj : Oper} {S : Value → Prop} {u : Value} (hjx : j ≠ x) (hjm : j < m) (hoj : ops[j]? = some oj) (hk : Ks j = .lets S) (hap : ox.apart ops oj = true) (hj : j ∈ Region.ready md ops listed)
    (hu : valsOf S (wantB ops oj a) u) (h : ModeA P md ops W Ks Q' m x ox obj (fuel + 1) listed β γ a) : ModeA P md ops W Ks Q' m x ox obj fuel (listed.setIfInBounds j true) β γ (a.put oj.dst u) := by
  intro b hb
  have h1 := ((h b hb).2 j (ready_mono hj hjx)).1 hjm oj hoj
  rw [hk] at h1
  have h2 := h1.2 u (β.put b obj) γ ⟨by rw [(want_put a (ptr b) hap).1]; exact hu, rfl, rfl⟩
  rw [Array.setIfInBounds_comm _ _ (Ne.symm hjx), Act.put_comm a (ptr b) u (Oper.apart_spec hap).2.1] at h2
  exact h2
/-- mode B: x is not listed. -/
theorem first_B {Ks : Nat → Kx} {i : Nat} {oi : Oper} (hx : ops[x]? = some ox) (hxm : m ≤ x) (hnew : ∀ a, IsNew P ops obj ox a) (hapx : ∀ j oj, j < m → ops[j]? = some oj → ox.apart ops oj = true) (hi : ops[i]? = some oi) (him : i < m) (hlast : ∀ j listed, Clo md ops listed → m ≤ j → j ≠ x → j ∈ Region.ready md ops listed → listed.getD i true = true) (hsel : ∀ (j : Nat) (o : Oper) cs b, ops[j]? = some o → o.op ≠ .select cs b) (hlets : ∀ j, j < m → ∃ S, Ks j = .lets S) :
    ∀ (fuel : Nat) (listed : Array Bool) (β : Hd) (γ : World → Prop) (a : Act), β.fin → Stb γ → Clo md ops listed →
      (∀ j oj, ops[j]? = some oj → j ≠ i → listed.getD j true = false → (∀ e ∈ oj.after, Region.binds md e = true → e.on ≠ i) → oi.apart ops oj = true) →
      i ∈ Region.ready md ops listed → ModeA P md ops W Ks Q' m x ox obj fuel listed β γ a → kF P ops W (Ks i) β γ oi a (wpAnyX P md ops W Ks Q' m fuel (listed.setIfInBounds i true)) → wpAnyX P md ops W Ks Q' m (fuel + 1) listed β γ a := by
  intro fuel
  induction fuel with
  | zero =>
    intro listed β γ a hf hs hc _ hr hA H
    refine ⟨fun h => (by rw [h] at hr; cases hr), fun j hj => ⟨fun _ => ?_, fun hjm => ?_⟩⟩
    · by_cases hji : j = i
      · subst hji
        intro o ho
        rw [hi] at ho
        cases ho
        exact H
      · obtain ⟨v, β', γ', e⟩ := ef_some hf H.1
        have hK := H.2 v β' γ' e
        have h1 := ready_mono hj hji
        rw [hK.1] at h1
        cases h1
    · by_cases hjx : j = x
      · subst hjx
        intro w hw
        exact wpOp_made hs hw hx (hnew a) hA
      · have h1 := hlast j _ hc hjm hjx hj
        rw [(mem_ready.1 hr).1] at h1
        cases h1
  | succ fuel ih =>
    intro listed β γ a hf hs hc hfree hr hA H
    refine ⟨fun h => (by rw [h] at hr; cases hr), fun j hj => ⟨fun hjm => ?_, fun hjm => ?_⟩⟩
    · by_cases hji : j = i
      · subst hji
        intro o ho
        rw [hi] at ho
        cases ho
        exact H
      · obtain ⟨hjun, oj, hoj, hall⟩ := mem_ready.1 hj
        have hnot : ∀ e ∈ oj.after, Region.binds md e = true → e.on ≠ i := fun e he hb heq => by
          have h1 := hall e he hb
          have h0 := (mem_ready.1 hr).1
          rw [heq] at h1
          rcases Nat.lt_or_ge i listed.size with h' | h'
          · simp [h'] at h0 h1; rw [h0] at h1; cases h1
          · simp [Array.getElem?_eq_none h'] at h1
        have hno : (Ks i).isMade = true → (Ks j).isUse = true → False := fun h1 h2 => by
          obtain ⟨S, e⟩ := hlets i him
          rw [e] at h1
          cases h1
        have h2 := kF_swap (hfree j oj hoj hji hjun hnot) (fun cs b => hsel i oi cs b hi) (fun cs b => hsel j oj cs b hoj) hf hno (kF_mono hf (fun β' γ' a' _ hK => (hK.2 j (ready_mono hj hji)).1 hjm oj hoj) H)
        have hfree' : ∀ k ok, ops[k]? = some ok → k ≠ i → (listed.setIfInBounds j true).getD k true = false → (∀ e ∈ ok.after, Region.binds md e = true → e.on ≠ i) → oi.apart ops ok = true := fun k ok hk hki hun hno => by
          refine hfree k ok hk hki ?_ hno
          by_cases hjk : j = k
          · subst hjk; exact hjun
          · rw [getD_set_ne true hjk] at hun; exact hun
        intro o ho
        rw [hoj] at ho
        cases ho
        obtain ⟨S, hk⟩ := hlets j hjm
        have hjx : j ≠ x := by omega
        rw [hk] at h2 ⊢
        refine ⟨h2.1, ?_⟩
        rintro u β' γ' ⟨hu, rfl, rfl⟩
        have h3 := h2.2 u β' γ' ⟨hu, rfl, rfl⟩
        refine ih (listed.setIfInBounds j true) β' γ' _ hf hs (hc.put hj) hfree' (ready_mono hr (Ne.symm hji)) (hA.next hjx hjm hoj hk (hapx j oj hjm hoj) hj hu) ?_
        rw [Array.setIfInBounds_comm _ _ hji]
        exact h3
    · by_cases hjx : j = x
      · subst hjx
        intro w hw
        exact wpOp_made hs hw hx (hnew a) hA
      · have h1 := hlast j _ hc hjm hjx hj
        rw [(mem_ready.1 hr).1] at h1
        cases h1
/-- those of the end, but for x, wait for all reads. -/
def tailX (md : Region.Mode) (ops : Array Oper) (m x : Nat) : Bool := (List.range ops.size).all fun t => decide (t < m) || t == x || (List.range m).all fun j => reachN md ops ops.size t j
theorem tailX_spec (h : tailX md ops m x = true) {i : Nat} (hi : i < m) (t : Nat) (listed : Array Bool) (hc : Clo md ops listed) (ht : m ≤ t) (htx : t ≠ x) (hr : t ∈ Region.ready md ops listed) : listed.getD i true = true := by
  obtain ⟨_, o, ho, hall⟩ := mem_ready.1 hr
  have hts : t < ops.size := (Array.getElem?_eq_some_iff.1 ho).1
  unfold tailX at h
  rw [List.all_eq_true] at h
  have h := h t (List.mem_range.2 hts)
  simp only [Bool.or_eq_true, decide_eq_true_eq, beq_iff_eq, List.all_eq_true, List.mem_range] at h
  rcases h with (h | h) | h
  · omega
  · exact absurd h htx
  · exact getD_true (reachN_spec hc _ t (h i hi) (fun o' ho' e he hb => by rw [ho] at ho'; cases ho'; exact hall e he hb))
theorem lex_A {Ks : Nat → Kx} (hs : Region.noSelect ops = true) (hl : tailX md ops m x = true) (hlets : ∀ j, j < m → ∃ S, Ks j = .lets S) (r : Nat) (L : Array Bool) (Kl : List Kx) :
    ∀ (l : List Oper) (k : Nat) (listed : Array Bool) (β : Hd) (γ : World → Prop) (a : Act), β.fin → Clo md ops listed → listed.getD x true = true → (∀ j, l[j]? = ops[k + j]?) → (∀ j, j < Kl.length → Ks (k + j) = Kl.getD j (.lets fun _ => False)) →
    lexFromT md ops m L Kl.length k listed = true → wpLexX P ops W (fun β γ a => ∀ w, CX W β γ w → wpAny P md ops Q' (r + 1) L a w) Kl l β γ a → wpAnyX P md ops W Ks Q' m (Kl.length + (r + 1)) listed β γ a := by
  induction Kl with
  | nil =>
    intro l k listed β γ a _ _ _ _ _ hB h
    simp only [List.length_nil, lexFromT, Bool.and_eq_true, beq_iff_eq, List.all_eq_true, decide_eq_true_eq] at hB
    obtain ⟨rfl, hB⟩ := hB
    rw [List.length_nil, Nat.zero_add]
    exact ⟨fun h0 w hw => (h w hw).1 h0, fun i hi => ⟨fun h' => absurd (hB i hi) (by omega), fun _ w hw => (h w hw).2 i hi⟩⟩
  | cons S Kl ih =>
    intro l k listed β γ a hf hc hlx hl' hs' hB h
    cases l with
    | nil => exact h.elim
    | cons o rest =>
      have h0 : ops[k]? = some o := by simpa using (hl' 0).symm
      simp only [List.length_cons, lexFromT, Bool.and_eq_true, decide_eq_true_eq] at hB
      obtain ⟨⟨⟨hr, hkm⟩, hfr⟩, hB'⟩ := hB
      have e : Ks k = S := by simpa using hs' 0 (by simp)
      have en : (S :: Kl).length + (r + 1) = (Kl.length + (r + 1)) + 1 := by simp; omega
      rw [en]
      refine first_A h0 hkm (fun t li hci ht htx htr => tailX_spec hl hkm t li hci ht htx htr) (Region.noSelect_spec hs) hlets (Kl.length + (r + 1)) listed β γ a hf hc hlx (Region.free_spec h0 hfr) (by simpa using hr) ?_
      rw [e]
      refine kF_mono hf (fun β' γ' a' hf' hK => ?_) h
      refine ih rest (k + 1) _ β' γ' a' hf' (hc.put (by simpa using hr)) (getD_more hlx) (fun j => by have := hl' (j + 1); simpa [Nat.add_assoc, Nat.add_comm 1 j] using this) (fun j hj => ?_) hB' hK
      have h1 := hs' (j + 1) (by simpa using hj)
      rw [Nat.add_assoc, Nat.add_comm 1 j, h1]
      simp
theorem lex_B {Ks : Nat → Kx} (hx : ops[x]? = some ox) (hxm : m ≤ x) (hnew : ∀ a, IsNew P ops obj ox a) (hapx : ∀ j oj, j < m → ops[j]? = some oj → ox.apart ops oj = true) (hs : Region.noSelect ops = true) (hl : tailX md ops m x = true) (hlets : ∀ j, j < m → ∃ S, Ks j = .lets S) (r : Nat) (L : Array Bool) (Kl : List Kx) :
    ∀ (l : List Oper) (k : Nat) (listed : Array Bool) (β : Hd) (γ : World → Prop) (a : Act), β.fin → Stb γ → Clo md ops listed → (∀ j, l[j]? = ops[k + j]?) → (∀ j, j < Kl.length → Ks (k + j) = Kl.getD j (.lets fun _ => False)) →
    lexFromT md ops m L Kl.length k listed = true → ModeA P md ops W Ks Q' m x ox obj (Kl.length + r) listed β γ a → wpLexX P ops W (fun β γ a => ∀ w, CX W β γ w → wpAny P md ops Q' (r + 1) L a w) Kl l β γ a → wpAnyX P md ops W Ks Q' m (Kl.length + (r + 1)) listed β γ a := by
  induction Kl with
  | nil =>
    intro l k listed β γ a _ _ _ _ _ hB _ h
    simp only [List.length_nil, lexFromT, Bool.and_eq_true, beq_iff_eq, List.all_eq_true, decide_eq_true_eq] at hB
    obtain ⟨rfl, hB⟩ := hB
    rw [List.length_nil, Nat.zero_add]
    exact ⟨fun h0 w hw => (h w hw).1 h0, fun i hi => ⟨fun h' => absurd (hB i hi) (by omega), fun _ w hw => (h w hw).2 i hi⟩⟩
  | cons S Kl ih =>
    intro l k listed β γ a hf hst hc hl' hs' hB hA h
    cases l with
    | nil => exact h.elim
    | cons o rest =>
      have h0 : ops[k]? = some o := by simpa using (hl' 0).symm
      simp only [List.length_cons, lexFromT, Bool.and_eq_true, decide_eq_true_eq] at hB
      obtain ⟨⟨⟨hr, hkm⟩, hfr⟩, hB'⟩ := hB
      have hr' : k ∈ Region.ready md ops listed := by simpa using hr
      have e : Ks k = S := by simpa using hs' 0 (by simp)
      have en : (S :: Kl).length + (r + 1) = (Kl.length + (r + 1)) + 1 := by simp; omega
      have en2 : (S :: Kl).length + r = Kl.length + (r + 1) := by simp; omega
      rw [en]
      rw [en2] at hA
      refine first_B hx hxm hnew hapx h0 hkm (fun t li hci ht htx htr => tailX_spec hl hkm t li hci ht htx htr) (Region.noSelect_spec hs) hlets (Kl.length + (r + 1)) listed β γ a hf hst hc (Region.free_spec h0 hfr) hr' hA ?_
      obtain ⟨S0, hS0⟩ := hlets k hkm
      have eS : S = .lets S0 := e.symm.trans hS0
      rw [e]
      refine ⟨h.1, ?_⟩
      intro u β' γ' hu
      have hu2 := hu
      rw [eS] at hu2
      obtain ⟨hv, rfl, rfl⟩ := hu2
      refine ih rest (k + 1) _ β' γ' _ hf hst (hc.put hr') (fun j => by have := hl' (j + 1); simpa [Nat.add_assoc, Nat.add_comm 1 j] using this) (fun j hj => ?_) hB' (ModeA.next (by omega) hkm h0 hS0 (hapx k o hkm h0) hr' hv hA) (h.2 u β' γ' hu)
      have h1 := hs' (j + 1) (by simpa using hj)
      rw [Nat.add_assoc, Nat.add_comm 1 j, h1]
      simp
def apartB (ops : Array Oper) (m : Nat) (ox : Oper) : Bool := (List.range m).all fun j => match ops[j]? with
  | none => true
  | some o => ox.apart ops o
theorem apartB_spec (h : apartB ops m ox = true) : ∀ j oj, j < m → ops[j]? = some oj → ox.apart ops oj = true := fun j oj hj ho => by
  unfold apartB at h
  rw [List.all_eq_true] at h
  have h := h j (List.mem_range.2 hj)
  rw [ho] at h
  exact h
/-- reads (Kl), then the rest: the block of x made ahead (hA), or not yet (hB). -/
theorem wp_region_box {id : Nat} {Q : Exit → Act → World → Prop} {a : Act} {w : World} {l : List Oper} (r x : Nat) (ox : Oper) (obj : Obj) (LA LB : Array Bool) (Kl : List Kx) (hm : P.follows .mixedOrders = true) (hn : Region.noSelect l.toArray = true) (hz : l.length = Kl.length + (r + 2))
    (hx : l.toArray[x]? = some ox) (hxm : Kl.length ≤ x) (hnew : ∀ a, IsNew P l.toArray obj ox a) (hap : apartB l.toArray Kl.length ox = true) (hlets : ∀ j, j < Kl.length → ∃ S, Kl.getD j (.lets fun _ => False) = .lets S)
    (hl : tailX .any l.toArray Kl.length x = true) (hxa : ox.after = #[])
    (hBA : lexFromT .any l.toArray Kl.length LA Kl.length 0 ((Array.replicate l.toArray.size false).setIfInBounds x true) = true) (hBB : lexFromT .any l.toArray Kl.length LB Kl.length 0 (Array.replicate l.toArray.size false) = true)
    (hA : ∀ b, Free w hd0 b → wpLexX P l.toArray w (fun β γ a => ∀ v, CX w β γ v → wpAny P .any l.toArray Q (r + 1) LA a v) Kl l (hd0.put b obj) (fun _ => True) (a.put ox.dst (ptr b)))
    (hB : wpLexX P l.toArray w (fun β γ a => ∀ v, CX w β γ v → wpAny P .any l.toArray Q (r + 2) LB a v) Kl l hd0 (fun _ => True) a) : (Code.region id l.toArray true).wp P Q a w := by
  refine wp_region_any hm ?_
  have e : l.toArray.size = Kl.length + (r + 2) := by simpa using hz
  have hc0 : Clo .any l.toArray (Array.replicate l.toArray.size false) := fun k ok _ h => absurd h (by simp [Array.getElem?_replicate]; split <;> rfl)
  have hxs : x < l.toArray.size := (Array.getElem?_eq_some_iff.1 hx).1
  have hrx : x ∈ Region.ready .any l.toArray (Array.replicate l.toArray.size false) := by
    rw [mem_ready]
    have hxl : x < l.length := by simpa using hxs
    refine ⟨by simp [hxl], ox, hx, fun e he => ?_⟩
    rw [hxa] at he
    simp at he
  have hA' : ModeA P .any l.toArray w (fun k => Kl.getD k (.lets fun _ => False)) Q Kl.length x ox obj (Kl.length + (r + 1)) (Array.replicate l.toArray.size false) hd0 (fun _ => True) a := fun b hb =>
    lex_A (x := x) hn hl hlets r LA Kl l 0 _ _ _ _ (fin0.put b obj) (hc0.put hrx) (by simp) (by simp) (fun j _ => by rw [Nat.zero_add]) hBA (hA b hb)
  have h1 := lex_B (x := x) hx hxm hnew (apartB_spec hap) hn hl hlets (r + 1) LB Kl l 0 (Array.replicate l.toArray.size false) hd0 (fun _ => True) a fin0 (fun _ _ h _ => h) hc0 (by simp) (fun j _ => by rw [Nat.zero_add]) hBB hA' hB
  rw [e] at h1 ⊢
  exact wpAnyX_sound _ _ _ _ _ _ (fun _ _ h _ => h) ⟨below_drewN (Below.refl _ w) 1, fun _ _ h => (by cases h), trivial⟩ h1
end
end Go.Proofs.YtncbmkflilcdgaiDoor
