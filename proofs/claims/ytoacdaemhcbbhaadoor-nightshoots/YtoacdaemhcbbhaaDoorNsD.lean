/-
  Tools: what the law makes of one; an instrument in memory.
-/
import Derived.Test.YtoacdaemhcbbhaaDoorNsC
import Derived.Test.YtoacdaemhcbbhaaDoorLooseM
namespace Go.Proofs.YtoacdaemhcbbhaaDoor
open Go Go.RowKit

/-- a tool of the law. -/
structure Tl where
  nm : ByteArray
  kd : Int
  wd : Int
  hi : Int
  cs : List Int
  op : List Spn
  al : Int
def tl0 : Tl := ⟨ByteArray.empty, 0, 0, 0, [], [], 0⟩
/-- what the kind of a tool is called. -/
def kindB (k : Int) : ByteArray := if k = 1 then bCam else if k = 2 then bDome else if k = 3 then bPtr else if k = 4 then bRoof else ⟨#[]⟩
/-- where a tool's rows lie. -/
structure TlX where
  ca : Option Addr
  cc : Nat
  oa : Option Addr
  oc : Nat
structure TlX.Ok (w : World) (t : Tl) (x : TlX) : Prop where
  ci : ICame w x.ca t.cs
  cn : x.ca = none → x.cc = 0
  oi : SpCame w x.oa t.op
  on : x.oa = none → x.oc = 0
theorem TlX.Ok.below {w v : World} {t : Tl} {x : TlX} (h : x.Ok w t) (k : Below w.heap.size w v) : x.Ok v t := ⟨h.ci.below k, h.cn, h.oi.below k, h.on⟩
def valT (t : Tl) (x : TlX) : List Value := [.string t.nm, .int .i64 t.kd, .int .i64 t.wd, .int .i64 t.hi, .slice x.ca t.cs.length x.cc, .slice x.oa t.op.length x.oc, .int .i64 t.al]
/-- an instrument of the program that was made of a tool. -/
def InsR (w : World) (B : Nat) (t : Tl) (v : Value) : Prop :=
  (t.kd = 1 ∧ ∃ ad cap, v = .iface 130 (valP t.wd t.hi ad t.cs.length cap) ∧ w.ownsRow B 3 1 (.slice ad t.cs.length cap) t.cs.length (t.cs.map (Value.int .i64))) ∨
  (t.kd = 2 ∧ ∃ ad cap, v = .iface 133 (.agg #[.slice ad t.op.length cap]) ∧ w.ownsRow B 69 2 (.slice ad t.op.length cap) t.op.length (flatSp t.op)) ∨
  (t.kd = 3 ∧ v = .iface 93 (.agg #[.int .i64 t.al])) ∨
  (t.kd = 4 ∧ ∃ ad cap, v = .iface 135 (.agg #[.slice ad t.op.length cap, .int .i64 t.al]) ∧ w.ownsRow B 69 2 (.slice ad t.op.length cap) t.op.length (flatSp t.op)) ∨
  ((t.kd < 1 ∨ 4 < t.kd) ∧ v = .nilIface)
theorem own_nil {w : World} {B n s m cap : Nat} {e : TypeId} {ad : Option Addr} {xs : List Value} (h : w.ownsRow B e s (.slice ad m cap) n xs) (hn : ad = none) : cap = 0 := by
  rcases h.2 with ⟨h1, _⟩ | ⟨g, c, cur, h1, _⟩
  · injection h1
  · injection h1 with h1
    rw [hn] at h1
    cases h1
theorem InsR.lower {w : World} {A B : Nat} {t : Tl} {v : Value} (h : InsR w B t v) (hb : A ≤ B) : InsR w A t v := by
  rcases h with ⟨h1, ad, cap, h2, h3⟩ | ⟨h1, ad, cap, h2, h3⟩ | h | ⟨h1, ad, cap, h2, h3⟩ | h
  · exact .inl ⟨h1, ad, cap, h2, own_lowerG h3 hb⟩
  · exact .inr (.inl ⟨h1, ad, cap, h2, own_lowerG h3 hb⟩)
  · exact .inr (.inr (.inl h))
  · exact .inr (.inr (.inr (.inl ⟨h1, ad, cap, h2, own_lowerG h3 hb⟩)))
  · exact .inr (.inr (.inr (.inr h)))
/-- of blocks that are no rows of fittings and no houses nothing is written. -/
structure Kf (w w' : World) : Prop where
  size : w.heap.size ≤ w'.heap.size
  keep : ∀ (b : Nat) (cur : Array Value) (t : TypeId), w.heap[b]? = some (.cells cur t (0, 0)) → t ≠ 104 → t ≠ 96 → w'.heap[b]? = some (.cells cur t (0, 0))
theorem Kf.refl (w : World) : Kf w w := ⟨Nat.le_refl _, fun _ _ _ h _ _ => h⟩
theorem Kf.trans {w v u : World} (h : Kf w v) (k : Kf v u) : Kf w u := ⟨Nat.le_trans h.size k.size, fun b cur t e h1 h2 => k.keep b cur t (h.keep b cur t e h1 h2) h1 h2⟩
theorem Kf.of {w v : World} (k : Below w.heap.size w v) : Kf w v := ⟨k.size, fun _ _ _ e _ _ => keepB e k⟩
theorem Kf.own {w v : World} (k : Kf w v) {B n s : Nat} {e : TypeId} {z : Value} {xs : List Value} (h : w.ownsRow B e s z n xs) (h1 : e ≠ 104) (h2 : e ≠ 96) : v.ownsRow B e s z n xs :=
  row_keep h (fun b hb => by
    obtain ⟨_, cur, hc⟩ := row_block h hb
    rw [hc]
    exact k.keep b cur e hc h1 h2)
theorem InsR.keep {w v : World} {B : Nat} {t : Tl} {z : Value} (h : InsR w B t z) (k : Kf w v) : InsR v B t z := by
  rcases h with ⟨h1, ad, cap, h2, h3⟩ | ⟨h1, ad, cap, h2, h3⟩ | h | ⟨h1, ad, cap, h2, h3⟩ | h
  · exact .inl ⟨h1, ad, cap, h2, k.own h3 (by decide) (by decide)⟩
  · exact .inr (.inl ⟨h1, ad, cap, h2, k.own h3 (by decide) (by decide)⟩)
  · exact .inr (.inr (.inl h))
  · exact .inr (.inr (.inr (.inl ⟨h1, ad, cap, h2, k.own h3 (by decide) (by decide)⟩)))
  · exact .inr (.inr (.inr (.inr h)))
theorem kindOf_any {w : World} {B : Nat} {t : Tl} {v : Value} (h : InsR w B t v) (u : World) : Calls Tryd.prog 16 #[v] u fun e w' => e = .returned (.string (kindB t.kd)) ∧ Below u.heap.size u w' := by
  rcases h with ⟨h1, ad, cap, rfl, _⟩ | ⟨h1, ad, cap, rfl, _⟩ | ⟨h1, rfl⟩ | ⟨h1, ad, cap, rfl, _⟩ | ⟨h1, rfl⟩
  · rw [h1]; exact kindSt_any u _ _ _ _ _
  · rw [h1]; exact kindHo_any u _ _ _
  · rw [h1]; exact kindFi_any u _
  · rw [h1]; exact kindRo_any u _ _ _ _
  · have e : kindB t.kd = ⟨#[]⟩ := by
      unfold kindB
      rw [if_neg (by omega), if_neg (by omega), if_neg (by omega), if_neg (by omega)]
    rw [e]
    exact kindNil_any u
def ToPost (t : Tl) (w : World) (e : Ending) (w' : World) : Prop := (∃ v, e = .returned (.tuple #[v, .string (kindB t.kd)]) ∧ InsR w' w.heap.size t v) ∧ Below w.heap.size w w'
def SlO (n : Nat) (v : Value) : Prop := ∃ ad cap, v = .slice ad n cap
def IfR (n : Nat) (al : Int) (v : Value) : Prop := ∃ ad cap, v = .iface 135 (.agg #[.slice ad n cap, .int .i64 al])
def IfF (B : Nat) (op : List Spn) (al : Int) (v : Value) (w : World) : Prop := ∀ ad cap, v = .iface 135 (.agg #[.slice ad op.length cap, .int .i64 al]) → w.ownsRow B 69 2 (.slice ad op.length cap) op.length (flatSp op)
theorem ifF_stb (B : Nat) (op : List Spn) (al : Int) (v : Value) : Stb (IfF B op al v) := fun _ _ h k ad cap e => own_below2 (h ad cap e) k
def OwT (B : Nat) (ws : List Spn) (v : Value) (w : World) : Prop := w.ownsRow B 69 2 v ws.length (flatSp ws)
theorem owT_stb (B : Nat) (ws : List Spn) (v : Value) : Stb (OwT B ws v) := fun _ _ h k => own_below2 h k
set_option maxRecDepth 1000000 in
set_option maxHeartbeats 6400000 in
theorem tool_any {w : World} {t : Tl} {x : TlX} (hx : x.Ok w t) (hc : t.cs.length ≤ 4000) (ho : t.op.length ≤ 4000) :
    Calls Tryd.prog 19 #[.agg (valT t x).toArray] w (ToPost t w) := by
  have z := alloc_last w (.cells (valT t x).toArray 57)
  have hb := below_a w (.cells (valT t x).toArray 57)
  have hst := pstill_any (cap := x.cc) t.wd t.hi (hx.ci.below hb) hx.cn hc
  have HX : HeldR (∀ v, Below (w.alloc (.cells (valT t x).toArray 57)).heap.size (w.alloc (.cells (valT t x).toArray 57)) v → SpCame v x.oa t.op) := hideR (fun v hv => (hx.oi.below hb).below hv)
  have HP : HeldR (∀ v w', InsR w' w.heap.size t v → Below w.heap.size w w' → ∀ K, kindB t.kd = K → ToPost t w (.returned (.tuple #[v, .string K])) w') := hideR (fun v w' h1 h2 K e => by subst e; exact ⟨⟨v, rfl, h1⟩, h2⟩)
  generalize ToPost t w = POST at *
  have HB := hideR hb
  unfold valT at z hst HX HB ⊢
  unfold valP at hst
  clear hb hx
  obtain ⟨nm, kd, wd, hi, cs, op, al⟩ := t
  obtain ⟨ca, cc, oa, oc⟩ := x
  simp only at *
  obtain ⟨W, hW⟩ : ∃ W, w.alloc (.cells [.string nm, .int .i64 kd, .int .i64 wd, .int .i64 hi, .slice ca cs.length cc, .slice oa op.length oc, .int .i64 al].toArray 57) = W := ⟨_, rfl⟩
  have hW2 : w.alloc (.cells #[.string nm, .int .i64 kd, .int .i64 wd, .int .i64 hi, .slice ca cs.length cc, .slice oa op.length oc, .int .i64 al] 57) = W := hW
  rw [hW] at z hst HX HB
  clear hW
  have e1 := (cells_at z 1 (by simp)).1
  have e2 := (cells_at z 2 (by simp)).1
  have e3 := (cells_at z 3 (by simp)).1
  have e4 := (cells_at z 4 (by simp)).1
  have e5 := (cells_at z 5 (by simp)).1
  have e6 := (cells_at z 6 (by simp)).1
  have HZ := hideR z
  clear z
  by_cases q1 : kd = 1
  · subst q1
    go_enter Tryd.func19, Tryd.ntmps19
    go_wp2_with fail
    rw [hW2] at *
    refine hst.mono ?_
    rintro e u ⟨⟨a1, c1, rfl, ow⟩, k⟩
    have HQ := hideR (unhideR HP _ u (.inl ⟨rfl, a1, c1, rfl, own_lowerG ow (unhideR HB).size⟩) (below_go (unhideR HB) k) _ rfl)
    clear hst HP HX HB HZ k ow e1 e2 e3 e4 e5 e6
    go_wp2
    try simp [go_sem]
    exact unhideR HQ
  have t1 : (kd == 1) = false := beq_eq_false_iff_ne.2 q1
  clear hst
  by_cases q2 : kd = 2
  · subst q2
    have hsp := lspans_any (c2 := oc) (unhideR HX W (Below.refl _ _)) ho
    unfold LspPost at hsp
    go_enter Tryd.func19, Tryd.ntmps19
    go_wp2_with fail
    rw [hW2] at *
    refine hsp.mono ?_
    rintro e u ⟨⟨v1, rfl, ow⟩, k⟩
    obtain ⟨a1, c1, rfl⟩ := ownsRow_slice ow
    obtain ⟨a1', c1', e', hsc⟩ := Spown ow
    cases e'
    have hho := phours_any (cap := c1) hsc (own_nil ow) ho
    have HK := hideR (below_go (unhideR HB) k)
    clear hsp HX HB HZ k ow hsc e1 e2 e3 e4 e5 e6
    go_wp2_with fail
    refine hho.mono ?_
    rintro e u2 ⟨⟨a2, c2, rfl, ow2⟩, k2⟩
    have HQ := hideR (unhideR HP _ u2 (.inr (.inl ⟨rfl, a2, c2, rfl, own_lowerG ow2 (unhideR HK).size⟩)) (below_go (unhideR HK) k2) _ rfl)
    clear hho HP HK k2 ow2
    go_wp2
    try simp [go_sem]
    exact unhideR HQ
  have t2 : (kd == 2) = false := beq_eq_false_iff_ne.2 q2
  by_cases q3 : kd = 3
  · subst q3
    have hfi := pfixed_any W al 0
    have HQ := hideR (unhideR HP (.iface 93 (.agg #[.int .i64 al])) W (.inr (.inr (.inl ⟨rfl, rfl⟩))) (unhideR HB) _ rfl)
    clear HP HX HB HZ
    go_enter Tryd.func19, Tryd.ntmps19
    go_wp2_with fail
    rw [hW2] at *
    refine hfi.mono ?_
    rintro e u ⟨rfl, rfl⟩
    clear hfi
    go_wp2
    try simp [go_sem]
    exact unhideR HQ
  have t3 : (kd == 3) = false := beq_eq_false_iff_ne.2 q3
  by_cases q4 : kd = 4
  · subst q4
    have HY : HeldR (∀ v, Below W.heap.size W v → v.cell? ⟨w.heap.size, 5, none⟩ = some (.slice oa op.length oc) ∧ v.cell? ⟨w.heap.size, 6, none⟩ = some (.int .i64 al)) := hideR (fun v hv => ⟨(cells_at (keepB (unhideR HZ) hv) 5 (by simp)).1, (cells_at (keepB (unhideR HZ) hv) 6 (by simp)).1⟩)
    have hsp := fun v (hv : Below W.heap.size W v) => lspans_any (c2 := oc) (unhideR HX v hv) ho
    unfold LspPost at hsp
    have hle : w.heap.size ≤ W.heap.size := (unhideR HB).size
    go_enter Tryd.func19, Tryd.ntmps19
    go_upto_region 9 with fail
    obtain ⟨K0, hK0⟩ : ∃ K0, w.heap.size = K0 := ⟨_, rfl⟩
    rw [hK0] at HY hle HP HB ⊢
    clear hW2 hK0 e1 e2 e3 e4 e5 e6 HZ HX
    refine M.wp_region_made 1 #[true, true, true, true, true, true, false, false] [.lets (· = .pointer (some ⟨K0, 5, none⟩)),
      .lets (· = .slice oa op.length oc),
      .made (SlO op.length) (OwT K0 op),
      .lets (· = .pointer (some ⟨K0, 6, none⟩)),
      .lets (· = .int .i64 al),
      .made (IfR op.length al) (IfF K0 op al)] [2, 5] [2, 5] (by kernel_rfl) (by kernel_rfl) rfl ?kinds (by kernel_rfl) (by kernel_rfl) (by kernel_rfl) ?_
    case kinds =>
      constructor
      · intro i h
        rcases i with _ | _ | _ | _ | _ | _ | i <;> simp [M.Kx.isMade] at h ⊢
      · intro i h
        rcases i with _ | _ | _ | _ | _ | _ | i <;> simp [M.Kx.isUse] at h ⊢
    refine M.lexX_step (fun K hK => ⟨by kernel_rfl, ⟨_, rfl⟩, fun v hv => ?_, fun v hv => ?_⟩)
    · go_simp
      exact mUpon_b
    subst hv
    go_simp
    refine hK _ ?_
    clear hK K
    refine M.lexX_step (fun K hK => ⟨by kernel_rfl, ⟨_, rfl⟩, fun v hv => ?_, fun v hv => ?_⟩)
    · have y9 := (unhideR HY v hv).1
      go_simp
      exact mUpon_b
    subst hv
    go_simp
    refine hK _ ?_
    clear hK K
    refine M.lexX_made ⟨by kernel_rfl, ⟨_, none, 0, rfl⟩, owT_stb _ _, fun v hv hγ => ?_, ?_⟩
    · go_simp
      refine (hsp v hv).mono ?_
      rintro e w9 ⟨⟨v9, rfl, h9⟩, k9⟩
      exact ⟨_, rfl, ⟨ownsRow_slice h9, own_lowerG h9 (Nat.le_trans hle hv.size)⟩, k9⟩
    rintro _ ⟨aws, cws, rfl⟩ K9 hK
    go_simp
    refine hK _ ?_
    clear hK K9
    refine M.lexX_step (fun K hK => ⟨by kernel_rfl, ⟨_, rfl⟩, fun v hv => ?_, fun v hv => ?_⟩)
    · go_simp
      exact mUpon_b
    subst hv
    go_simp
    refine hK _ ?_
    clear hK K
    refine M.lexX_step (fun K hK => ⟨by kernel_rfl, ⟨_, rfl⟩, fun v hv => ?_, fun v hv => ?_⟩)
    · have y9 := (unhideR HY v hv).2
      go_simp
      exact mUpon_b
    subst hv
    go_simp
    refine hK _ ?_
    clear hK K
    refine M.lexX_made ⟨by kernel_rfl, ⟨_, none, 0, rfl⟩, ifF_stb _ _ _, fun v hv hγ => ?_, ?_⟩
    · have h9 := hγ.2
      obtain ⟨a', c', e', hsc⟩ := Spown h9
      cases e'
      go_simp
      refine (proof_any (cap := cws) al 0 hsc (own_nil h9) ho).mono ?_
      rintro e w9 ⟨⟨a9, c9, rfl, o9⟩, k9⟩
      exact ⟨_, rfl, ⟨⟨a9, c9, rfl⟩, fun ad cap e => by cases e; exact own_lowerG o9 (Nat.le_trans hle hv.size)⟩, k9⟩
    rintro _ ⟨a9, c9, rfl⟩ K9 hK
    go_simp
    refine hK _ ?_
    clear hK K9
    refine M.lexX_end (fun v5 hv => ?_)
    have HQ := hideR (unhideR HP _ v5 (.inr (.inr (.inr (.inl ⟨rfl, a9, c9, rfl, hv.fact.2 _ _ rfl⟩)))) ((unhideR HB).trans (hv.low.mono hle)) _ rfl)
    clear hv HP HB HY hsp
    refine wpAny_step (i := 6) (by kernel_rfl) rfl (by kernel_rfl) (fun K hK => ?_)
    unfold Oper.wp
    go_simp
    refine hK _ _ ?_
    clear hK K
    refine wpAny_step (i := 7) (by kernel_rfl) rfl (by kernel_rfl) (fun K hK => ?_)
    unfold Oper.wp
    go_simp
    refine hK _ _ ?_
    clear hK K
    refine wpAny_end (by kernel_rfl) ?_
    go_wp2
    try simp [bodyPost, results, Tryd.results19, go_sem]
    exact unhideR HQ
  have t4 : (kd == 4) = false := beq_eq_false_iff_ne.2 q4
  have HQ := hideR (unhideR HP .nilIface W (.inr (.inr (.inr (.inr ⟨by show kd < 1 ∨ 4 < kd; omega, rfl⟩)))) (unhideR HB) ⟨#[]⟩ (by show kindB kd = _; unfold kindB; rw [if_neg q1, if_neg q2, if_neg q3, if_neg q4]))
  clear HP HX HB HZ
  go_enter Tryd.func19, Tryd.ntmps19
  go_wp2
  try simp [go_sem]
  exact unhideR HQ
end Go.Proofs.YtoacdaemhcbbhaaDoor
