/-
  errors.Is BY ITS CONTRACTS, for what the tested code hands it: the sentinels of package api, and an api.Fault that wraps one. After the guide's worked example (errors.Is over sentinels); numbers by tools/gen.py off the dump. errors.As BY ITS CONTRACTS, at the target that package plain gives it (a variable of type *api.Fault): 'as_miss' (a sentinel: false; nothing old turns), 'as_hit' (an api.Fault: true; the variable holds it). After the guide's worked example on errors.As; numbers by tools/gen.py off the dump. THE SENTINELS OF PACKAGE api IN A WORLD ('Sents'), and package plain's Code of them by its contracts: 'code_nil', 'code_sent'. Numbers by tools/gen.py off the dump.
-/
import Derived.Test.YtoacdaemhcbbhaaDoorProg
import Derived.WalkKit
import Derived.LaidEql
import Derived.Stop.Asserts
import Derived.RowKitTokens
import Derived.WalkSpells
import Derived.WalkLawsBesides
namespace Go.Proofs.YtoacdaemhcbbhaaDoor
open Go.RowKit Go.Extern.Stop Go.Stop Go.Extern

theorem isTypeOf (v : Value) (w : World) : (Extern.ReflectliteType.typeOf #[.iface 190 v]).run Tryd.prog w = .ok (.iface 173 (.agg #[.pointer (some ⟨12, 190, none⟩)])) w := by kernel_rfl
def cmpEntry : Array Value → Sem Value := Extern.ReflectliteType.method fun t => do
  Extern.Rtype.noPackHeld "Comparable" t
  pure (.bool (← typeInfo t).comparable)
theorem isComparable (w : World) : (cmpEntry #[.agg #[.pointer (some ⟨12, 190, none⟩)]]).run Tryd.prog w = .ok (.bool true) w := by kernel_rfl
theorem isMethodComparable (v : Value) (w : World) : (Go.method 329 173 v "Comparable").run Tryd.prog w = .ok (117, v) w := by kernel_rfl
theorem isComp : (Tryd.prog.info? 190).map (·.comparable) = some true := by kernel_rfl
theorem isSize : (Tryd.prog.info? 213).map (·.size) = some 1 := by kernel_rfl

theorem noIsE (v : Value) (xT : TypeId) (w : World) : (Instr.typeAssert (.iface 190 v) xT 184 true).run Tryd.prog w = .ok (.tuple #[.nilIface, .bool false]) w := run_typeAssert_lacksB Tryd.underlying184 (by kernel_rfl) (by kernel_rfl) v xT w
theorem noUnwrapE (v : Value) (xT : TypeId) (w : World) : (Instr.typeAssert (.iface 190 v) xT 180 true).run Tryd.prog w = .ok (.tuple #[.nilIface, .bool false]) w := run_typeAssert_lacksB Tryd.underlying180 (by kernel_rfl) (by kernel_rfl) v xT w
theorem noUnwrapsE (v : Value) (xT : TypeId) (w : World) : (Instr.typeAssert (.iface 190 v) xT 182 true).run Tryd.prog w = .ok (.tuple #[.nilIface, .bool false]) w := run_typeAssert_lacksB Tryd.underlying182 (by kernel_rfl) (by kernel_rfl) v xT w
theorem noIsW (v : Value) (xT : TypeId) (w : World) : (Instr.typeAssert (.iface 115 v) xT 184 true).run Tryd.prog w = .ok (.tuple #[.nilIface, .bool false]) w := run_typeAssert_lacksB Tryd.underlying184 (by kernel_rfl) (by kernel_rfl) v xT w
theorem hasUnwrapW (v : Value) (xT : TypeId) (w : World) : (Instr.typeAssert (.iface 115 v) xT 180 true).run Tryd.prog w = .ok (.tuple #[.iface 115 v, .bool true]) w := run_typeAssert_hasB Tryd.underlying180 (by kernel_rfl) v xT w
theorem methodUnwrap (v : Value) (w : World) : (Go.method 329 115 v "Unwrap").run Tryd.prog w = .ok (105, v) w := by kernel_rfl

/-- errors.Is(x, x), x a pointer to an errors.errorString. -/
theorem is_same (a : Addr) (w : World) :
    Calls Tryd.prog 51 #[.iface 190 (.pointer (some a)), .iface 190 (.pointer (some a))] w fun e w' => e = .returned (.bool true) ∧ w' = w := by
  obtain ⟨i, hi, hcmp⟩ := Option.map_eq_some_iff.1 isComp
  obtain ⟨j, hj, hjs⟩ := Option.map_eq_some_iff.1 isSize
  have h8 := @run_callFunc_extern Tryd.prog 72 _ Extern.ReflectliteType.typeOf Tryd.func72 (by kernel_rfl) (by kernel_rfl) (by kernel_rfl) (by kernel_rfl)
  have h32 := @run_callFunc_extern Tryd.prog 117 _ cmpEntry Tryd.func117 (by kernel_rfl) (by kernel_rfl) (by kernel_rfl) (by kernel_rfl)
  have tT := isTypeOf
  have cT := isComparable
  have mR := isMethodComparable
  have heq := run_eql_iface_ptr_same (P := Tryd.prog) w a Tryd.underlying27 Tryd.underlying190 hi hcmp hj
  go_enter Tryd.func51, Tryd.ntmps51
  go_wp2
  refine wp_loop_rounds 1 ?_
  rw [rounds_succ]
  go_wp2
  go_ret
  exact ⟨rfl, rfl⟩

/-- errors.Is(x, y), two different pointers to errors.errorString: neither has Is nor Unwrap: false. -/
theorem is_other (a b : Addr) (ca cb : Array Value) (ta tb : TypeId) (w : World) (hne : a ≠ b) (ha : w.heap[a.block]? = some (.cells ca ta (0, 0))) (hb : w.heap[b.block]? = some (.cells cb tb (0, 0))) :
    Calls Tryd.prog 51 #[.iface 190 (.pointer (some a)), .iface 190 (.pointer (some b))] w fun e w' => e = .returned (.bool false) ∧ w' = w := by
  obtain ⟨i, hi, hcmp⟩ := Option.map_eq_some_iff.1 isComp
  obtain ⟨j, hj, hjs⟩ := Option.map_eq_some_iff.1 isSize
  have h8 := @run_callFunc_extern Tryd.prog 72 _ Extern.ReflectliteType.typeOf Tryd.func72 (by kernel_rfl) (by kernel_rfl) (by kernel_rfl) (by kernel_rfl)
  have h32 := @run_callFunc_extern Tryd.prog 117 _ cmpEntry Tryd.func117 (by kernel_rfl) (by kernel_rfl) (by kernel_rfl) (by kernel_rfl)
  have tT := isTypeOf
  have cT := isComparable
  have mR := isMethodComparable
  have nE := noIsE
  have uE := noUnwrapE
  have vE := noUnwrapsE
  have heq := run_eql_iface_ptr_other (P := Tryd.prog) w Tryd.underlying27 Tryd.underlying190 hi hcmp hj (by rw [hjs]; decide) hne ha hb
  go_enter Tryd.func51, Tryd.ntmps51
  go_wp2
  refine wp_loop_rounds 1 ?_
  rw [rounds_succ]
  go_wp2
  go_ret
  exact ⟨rfl, rfl⟩

/-- errors.Is(f, x), f an api.Fault whose Err is x itself. -/
theorem is_fault_same (pb po : Nat) (b : Addr) (w : World) (h1 : w.cell? ⟨pb, po + 1, none⟩ = some (.iface 190 (.pointer (some b)))) :
    Calls Tryd.prog 51 #[.iface 115 (.pointer (some ⟨pb, po, none⟩)), .iface 190 (.pointer (some b))] w fun e w' => e = .returned (.bool true) ∧ w' = w := by
  obtain ⟨i, hi, hcmp⟩ := Option.map_eq_some_iff.1 isComp
  obtain ⟨j, hj, hjs⟩ := Option.map_eq_some_iff.1 isSize
  have h8 := @run_callFunc_extern Tryd.prog 72 _ Extern.ReflectliteType.typeOf Tryd.func72 (by kernel_rfl) (by kernel_rfl) (by kernel_rfl) (by kernel_rfl)
  have h32 := @run_callFunc_extern Tryd.prog 117 _ cmpEntry Tryd.func117 (by kernel_rfl) (by kernel_rfl) (by kernel_rfl) (by kernel_rfl)
  have tT := isTypeOf
  have cT := isComparable
  have mR := isMethodComparable
  have nE := noIsE
  have uE := noUnwrapE
  have vE := noUnwrapsE
  have nW := noIsW
  have uW := hasUnwrapW
  have mU := methodUnwrap
  have heq := run_eql_iface_ptr_same (P := Tryd.prog) w b Tryd.underlying27 Tryd.underlying190 hi hcmp hj
  have hty := run_eql_iface_types (P := Tryd.prog) 115 190 (.pointer (some ⟨pb, po, none⟩)) (.pointer (some b)) Tryd.underlying27 (by decide) w
  go_enter Tryd.func51, Tryd.ntmps51
  go_wp2
  refine wp_loop_rounds 2 ?_
  rw [rounds_succ]
  go_wp2
  rw [rounds_succ]
  go_wp2
  go_ret
  exact ⟨rfl, rfl⟩

/-- errors.Is(f, x), f an api.Fault whose Err is another sentinel. -/
theorem is_fault_other (pb po : Nat) (b a : Addr) (ca cb : Array Value) (ta tb : TypeId) (w : World) (h1 : w.cell? ⟨pb, po + 1, none⟩ = some (.iface 190 (.pointer (some a)))) (hne : a ≠ b) (ha : w.heap[a.block]? = some (.cells ca ta (0, 0))) (hb : w.heap[b.block]? = some (.cells cb tb (0, 0))) :
    Calls Tryd.prog 51 #[.iface 115 (.pointer (some ⟨pb, po, none⟩)), .iface 190 (.pointer (some b))] w fun e w' => e = .returned (.bool false) ∧ w' = w := by
  obtain ⟨i, hi, hcmp⟩ := Option.map_eq_some_iff.1 isComp
  obtain ⟨j, hj, hjs⟩ := Option.map_eq_some_iff.1 isSize
  have h8 := @run_callFunc_extern Tryd.prog 72 _ Extern.ReflectliteType.typeOf Tryd.func72 (by kernel_rfl) (by kernel_rfl) (by kernel_rfl) (by kernel_rfl)
  have h32 := @run_callFunc_extern Tryd.prog 117 _ cmpEntry Tryd.func117 (by kernel_rfl) (by kernel_rfl) (by kernel_rfl) (by kernel_rfl)
  have tT := isTypeOf
  have cT := isComparable
  have mR := isMethodComparable
  have nE := noIsE
  have uE := noUnwrapE
  have vE := noUnwrapsE
  have nW := noIsW
  have uW := hasUnwrapW
  have mU := methodUnwrap
  have heq := run_eql_iface_ptr_other (P := Tryd.prog) w Tryd.underlying27 Tryd.underlying190 hi hcmp hj (by rw [hjs]; decide) hne ha hb
  have hty := run_eql_iface_types (P := Tryd.prog) 115 190 (.pointer (some ⟨pb, po, none⟩)) (.pointer (some b)) Tryd.underlying27 (by decide) w
  go_enter Tryd.func51, Tryd.ntmps51
  go_wp2
  refine wp_loop_rounds 2 ?_
  rw [rounds_succ]
  go_wp2
  rw [rounds_succ]
  go_wp2
  go_ret
  exact ⟨rfl, rfl⟩
end Go.Proofs.YtoacdaemhcbbhaaDoor
namespace Go.Proofs.YtoacdaemhcbbhaaDoor
open Go.RowKit Go.Extern.Stop Go.Stop Go.Extern

theorem noAsE (v : Value) (xT : TypeId) (w : World) : (Instr.typeAssert (.iface 190 v) xT 177 true).run Tryd.prog w = .ok (.tuple #[.nilIface, .bool false]) w := run_typeAssert_lacksB Tryd.underlying177 (by kernel_rfl) (by kernel_rfl) v xT w
theorem valueOfTT (t : Addr) (w : World) : (ReflectliteValue.unpack (.iface 117 (.pointer (some t)))).run Tryd.prog w
    = .ok (.agg #[.pointer (some ⟨12, 117, none⟩), .pointer (some ⟨w.heap.size, 0, none⟩), .int .u64 150]) (w.alloc (.cells #[.pointer (some t)] 117)) := by kernel_rfl
theorem typeTT (a : Addr) (w : World) : (ReflectliteValue.methodAny (ReflectliteValue.valueError "reflectlite.Value.Type" 0) (fun t _ _ _ => ReflectliteType.toType t) #[.agg #[.pointer (some ⟨12, 117, none⟩), .pointer (some a), .int .u64 150]]).run Tryd.prog w
    = .ok (.iface 173 (.agg #[.pointer (some ⟨12, 117, none⟩)])) w := by kernel_rfl
theorem methodKind (h : Value) (w : World) : (Go.method 329 173 (.agg #[h]) "Kind").run Tryd.prog w = .ok (99, h) w := by kernel_rfl
theorem kindTT (w : World) : ((ReflectliteType.abiMethod fun t => (fun a : Nat => Value.int IntKind.u8 (a : Int)) <$> Rtype.kind t) #[.pointer (some ⟨12, 117, none⟩)]).run Tryd.prog w = .ok (.int .u8 22) w := by kernel_rfl
theorem kindT (w : World) : ((ReflectliteType.abiMethod fun t => (fun a : Nat => Value.int IntKind.u8 (a : Int)) <$> Rtype.kind t) #[.pointer (some ⟨12, 115, none⟩)]).run Tryd.prog w = .ok (.int .u8 22) w := by kernel_rfl
theorem rlm (z : Sem Value) (f : TypeId → Addr → Nat → Nat → Sem Value) (v : Value) :
    ReflectliteValue.method z f #[v] = (do match ← ReflectliteValue.parts v with | none => z | some (t, a, fl) => f t a fl (fl % 32)) := rfl
theorem partsTT (a : Addr) (w : World) : (ReflectliteValue.parts (.agg #[.pointer (some ⟨12, 117, none⟩), .pointer (some a), .int .u64 150])).run Tryd.prog w = .ok (some (117, a, 150)) w := by kernel_rfl
theorem isNilTT (a p : Addr) (W : World) (ha : W.cell? a = some (.pointer (some p))) :
    (ReflectliteValue.method (ReflectliteValue.valueError "reflectlite.Value.IsNil" 0) ReflectliteValue.isNil #[.agg #[.pointer (some ⟨12, 117, none⟩), .pointer (some a), .int .u64 150]]).run Tryd.prog W = .ok (.bool false) W := by
  rw [rlm]
  simp only [Sem.run_bind, partsTT, Result.andThen]
  simp [ReflectliteValue.isNil, loadVar, isAgg, underlying, Tryd.underlying117, ha, Result.andThen]
theorem methodElem (h : Value) (w : World) : (Go.method 329 173 (.agg #[h]) "Elem").run Tryd.prog w = .ok (118, .agg #[h]) w := by kernel_rfl
theorem methodImplements (h : Value) (w : World) : (Go.method 329 173 (.agg #[h]) "Implements").run Tryd.prog w = .ok (119, .agg #[h]) w := by kernel_rfl
theorem methodAssignableTo (h : Value) (w : World) : (Go.method 329 173 (.agg #[h]) "AssignableTo").run Tryd.prog w = .ok (116, .agg #[h]) w := by kernel_rfl
theorem elemTT (w : World) : (ReflectliteType.method ReflectliteType.elem #[.agg #[.pointer (some ⟨12, 117, none⟩)]]).run Tryd.prog w = .ok (.iface 173 (.agg #[.pointer (some ⟨12, 115, none⟩)])) w := by kernel_rfl
theorem implementsT (w : World) : (ReflectliteType.relation "Implements" ReflectliteType.implements_ #[.agg #[.pointer (some ⟨12, 115, none⟩)], .iface 173 (.agg #[.pointer (some ⟨12, 27, none⟩)])]).run Tryd.prog w = .ok (.bool true) w := by kernel_rfl
theorem typeOfT (v : Value) (w : World) : (ReflectliteType.typeOf #[.iface 115 v]).run Tryd.prog w = .ok (.iface 173 (.agg #[.pointer (some ⟨12, 115, none⟩)])) w := by kernel_rfl
theorem assignableT (w : World) : (ReflectliteType.relation "AssignableTo" ReflectliteType.assignableTo #[.agg #[.pointer (some ⟨12, 115, none⟩)], .iface 173 (.agg #[.pointer (some ⟨12, 115, none⟩)])]).run Tryd.prog w = .ok (.bool true) w := by kernel_rfl
theorem assignableE (w : World) : (ReflectliteType.relation "AssignableTo" ReflectliteType.assignableTo #[.agg #[.pointer (some ⟨12, 190, none⟩)], .iface 173 (.agg #[.pointer (some ⟨12, 115, none⟩)])]).run Tryd.prog w = .ok (.bool false) w := by kernel_rfl
set_option maxHeartbeats 4000000 in
theorem as_miss (a t : Addr) (w : World) (hg : w.cell? ⟨10, 0, none⟩ = some (.iface 173 (.agg #[.pointer (some ⟨12, 27, none⟩)]))) :
    Calls Tryd.prog 50 #[.iface 190 (.pointer (some a)), .iface 117 (.pointer (some t))] w fun ev w' => ev = .returned (.bool false) ∧ w' = (((w.alloc (.cells #[.pointer (some t)] 117)).alloc (.cells #[.pointer (some ⟨12, 117, none⟩), .pointer (some ⟨w.heap.size, 0, none⟩), .int .u64 150] 157)).alloc (.cells #[.pointer (some ⟨12, 117, none⟩), .pointer (some ⟨w.heap.size, 0, none⟩), .int .u64 150] 157)) := by
  have h6 := @run_callFunc_extern Tryd.prog 68 _ (fun args => ReflectliteValue.unpack (args.getD 0 (.tuple #[]))) Tryd.func68 (by kernel_rfl) (by kernel_rfl) (by kernel_rfl) (by kernel_rfl)
  have h7 := @run_callFunc_extern Tryd.prog 69 _ (ReflectliteValue.methodAny (ReflectliteValue.valueError "reflectlite.Value.Type" 0) (fun t _ _ _ => ReflectliteType.toType t)) Tryd.func69 (by kernel_rfl) (by kernel_rfl) (by kernel_rfl) (by kernel_rfl)
  have h8 := @run_callFunc_extern Tryd.prog 70 _ (ReflectliteValue.method (ReflectliteValue.valueError "reflectlite.Value.IsNil" 0) ReflectliteValue.isNil) Tryd.func70 (by kernel_rfl) (by kernel_rfl) (by kernel_rfl) (by kernel_rfl)
  have h27 := @run_callFunc_extern Tryd.prog 99 _ (ReflectliteType.abiMethod fun t => do pure (.int .u8 (← Rtype.kind t))) Tryd.func99 (by kernel_rfl) (by kernel_rfl) (by kernel_rfl) (by kernel_rfl)
  have h37 := @run_callFunc_extern Tryd.prog 118 _ (ReflectliteType.method ReflectliteType.elem) Tryd.func118 (by kernel_rfl) (by kernel_rfl) (by kernel_rfl) (by kernel_rfl)
  have h38 := @run_callFunc_extern Tryd.prog 119 _ (ReflectliteType.relation "Implements" ReflectliteType.implements_) Tryd.func119 (by kernel_rfl) (by kernel_rfl) (by kernel_rfl) (by kernel_rfl)
  have h10 := @run_callFunc_extern Tryd.prog 72 _ ReflectliteType.typeOf Tryd.func72 (by kernel_rfl) (by kernel_rfl) (by kernel_rfl) (by kernel_rfl)
  have h35 := @run_callFunc_extern Tryd.prog 116 _ (ReflectliteType.relation "AssignableTo" ReflectliteType.assignableTo) Tryd.func116 (by kernel_rfl) (by kernel_rfl) (by kernel_rfl) (by kernel_rfl)
  have tO := isTypeOf
  have mA := methodAssignableTo
  have aE := assignableE
  have f6 := valueOfTT
  have f7 := typeTT
  have mK := methodKind
  have mE := methodElem
  have mI := methodImplements
  have k27 := kindTT
  have k25 := kindT
  have e27 := elemTT
  have i25 := implementsT
  have nA := noAsE
  have uE := noUnwrapE
  have vE := noUnwrapsE
  have n8 := isNilTT ⟨w.heap.size, 0, none⟩ t ((w.alloc (.cells #[.pointer (some t)] 117)).alloc (.cells #[.pointer (some ⟨12, 117, none⟩), .pointer (some ⟨w.heap.size, 0, none⟩), .int .u64 150] 157)) (by simp)
  have hlt : 10 < w.heap.size := by
    rcases Nat.lt_or_ge 10 w.heap.size with h | h
    · exact h
    · simp [World.cell?, Array.getElem?_eq_none h] at hg
  have hg2 : ((w.alloc (.cells #[.pointer (some t)] 117)).alloc (.cells #[.pointer (some ⟨12, 117, none⟩), .pointer (some ⟨w.heap.size, 0, none⟩), .int .u64 150] 157)).cell? ⟨10, 0, none⟩ = some (.iface 173 (.agg #[.pointer (some ⟨12, 27, none⟩)])) := by
    rw [World.cell?_alloc_lt _ _ ⟨10, 0, none⟩ (by simp; omega), World.cell?_alloc_lt _ _ ⟨10, 0, none⟩ hlt]; exact hg
  go_enter Tryd.func50, Tryd.ntmps50
  go_wp2
  refine wp_loop_rounds 1 ?_
  rw [rounds_succ]
  go_wp2
  go_ret
  exact ⟨rfl, rfl⟩

end Go.Proofs.YtoacdaemhcbbhaaDoor
namespace Go.Proofs.YtoacdaemhcbbhaaDoor
open Go.RowKit Go.Extern.Stop Go.Stop Go.Extern

/-- What the walks lean on: where the ten sentinels lie, each in a row of cells of its own that is not frozen, no two the same; and the handle that errors.As takes. -/
structure Sents (w : World) (a : Nat → Addr) : Prop where
  g0 : w.cell? ⟨4, 0, none⟩ = some (.iface 190 (.pointer (some (a 0))))
  g1 : w.cell? ⟨0, 0, none⟩ = some (.iface 190 (.pointer (some (a 1))))
  g2 : w.cell? ⟨5, 0, none⟩ = some (.iface 190 (.pointer (some (a 2))))
  g3 : w.cell? ⟨6, 0, none⟩ = some (.iface 190 (.pointer (some (a 3))))
  g4 : w.cell? ⟨2, 0, none⟩ = some (.iface 190 (.pointer (some (a 4))))
  g5 : w.cell? ⟨7, 0, none⟩ = some (.iface 190 (.pointer (some (a 5))))
  g6 : w.cell? ⟨3, 0, none⟩ = some (.iface 190 (.pointer (some (a 6))))
  g7 : w.cell? ⟨8, 0, none⟩ = some (.iface 190 (.pointer (some (a 7))))
  g8 : w.cell? ⟨9, 0, none⟩ = some (.iface 190 (.pointer (some (a 8))))
  g9 : w.cell? ⟨1, 0, none⟩ = some (.iface 190 (.pointer (some (a 9))))
  et : w.cell? ⟨10, 0, none⟩ = some (.iface 173 (.agg #[.pointer (some ⟨12, 27, none⟩)]))
  row : ∀ k, k < 10 → ∃ c t, w.heap[(a k).block]? = some (.cells c t (0, 0))
  ne : ∀ i k, i < 10 → k < 10 → i ≠ k → a i ≠ a k
  big : 11 ≤ w.heap.size

theorem Sents.old {w : World} {a : Nat → Addr} (h : Sents w a) {k : Nat} (hk : k < 10) : (a k).block < w.heap.size := by
  obtain ⟨c, t, e⟩ := h.row k hk
  rcases Nat.lt_or_ge (a k).block w.heap.size with l | l
  · exact l
  · simp [Array.getElem?_eq_none l] at e

theorem Sents.below {w w' : World} {a : Nat → Addr} {B : Nat} (h : Sents w a) (b : Below B w w') (hB : w.heap.size ≤ B) : Sents w' a := by
  have hb := h.big
  have c : ∀ x, x < 11 → w'.cell? ⟨x, 0, none⟩ = w.cell? ⟨x, 0, none⟩ := fun x hx => b.cell (p := ⟨x, 0, none⟩) (show x < B by omega)
  refine ⟨?_, ?_, ?_, ?_, ?_, ?_, ?_, ?_, ?_, ?_, ?_, ?_, h.ne, Nat.le_trans hb b.size⟩
  · rw [c _ (by omega)]; exact h.g0
  · rw [c _ (by omega)]; exact h.g1
  · rw [c _ (by omega)]; exact h.g2
  · rw [c _ (by omega)]; exact h.g3
  · rw [c _ (by omega)]; exact h.g4
  · rw [c _ (by omega)]; exact h.g5
  · rw [c _ (by omega)]; exact h.g6
  · rw [c _ (by omega)]; exact h.g7
  · rw [c _ (by omega)]; exact h.g8
  · rw [c _ (by omega)]; exact h.g9
  · rw [c _ (by omega)]; exact h.et
  · intro k hk
    rw [b.block _ (Nat.lt_of_lt_of_le (h.old hk) hB)]
    exact h.row k hk

/-- errors.Is of two of the sentinels. -/
def same10 (i k : Nat) : Bool := decide (i = k)
theorem is_sent {w : World} {a : Nat → Addr} (h : Sents w a) (i k : Nat) (hi : i < 10) (hk : k < 10) :
    Calls Tryd.prog 51 #[.iface 190 (.pointer (some (a i))), .iface 190 (.pointer (some (a k)))] w fun e w' => e = .returned (.bool (same10 i k)) ∧ w' = w := by
  by_cases e : i = k
  · subst e
    have : same10 i i = true := by simp [same10]
    rw [this]
    exact is_same (a i) w
  · have : same10 i k = false := by simp [same10, e]
    rw [this]
    obtain ⟨ca, ta, ea⟩ := h.row i hi
    obtain ⟨cb, tb, eb⟩ := h.row k hk
    exact is_other (a i) (a k) ca cb ta tb w (h.ne i k hi hk e) ea eb

theorem code_nil (w : World) : Calls Tryd.prog 29 #[.nilIface] w fun e w' => e = .returned (.tuple #[.int .i64 0, .int .i64 (-1)]) ∧ w' = w := by
  go_enter Tryd.func29, Tryd.ntmps29
  go_wp2
  go_ret2
  exact ⟨rfl, rfl⟩

/-- The row of ten that Code makes. -/
def tenCells (a : Nat → Addr) : Array Value := #[.iface 190 (.pointer (some (a 0))), .iface 190 (.pointer (some (a 1))), .iface 190 (.pointer (some (a 2))), .iface 190 (.pointer (some (a 3))), .iface 190 (.pointer (some (a 4))), .iface 190 (.pointer (some (a 5))), .iface 190 (.pointer (some (a 6))), .iface 190 (.pointer (some (a 7))), .iface 190 (.pointer (some (a 8))), .iface 190 (.pointer (some (a 9)))]
theorem tenCells_at (a : Nat → Addr) (i : Nat) (h : i < 10) : (tenCells a)[i]? = some (.iface 190 (.pointer (some (a i)))) := by
  match i, h with
  | 0, _ => rfl
  | 1, _ => rfl
  | 2, _ => rfl
  | 3, _ => rfl
  | 4, _ => rfl
  | 5, _ => rfl
  | 6, _ => rfl
  | 7, _ => rfl
  | 8, _ => rfl
  | 9, _ => rfl

set_option maxHeartbeats 1000000 in
theorem code_sent {w : World} {a : Nat → Addr} (h : Sents w a) (k : Nat) (hk : k < 10) :
    Calls Tryd.prog 29 #[.iface 190 (.pointer (some (a k)))] w fun e w' => e = .returned (.tuple #[.int .i64 ((k : Int) + 1), .int .i64 (-1)]) ∧ Below w.heap.size w w' := by
  go_enter Tryd.func29, Tryd.ntmps29
  go_wp2_with fail
  have b1 : Below w.heap.size w (w.alloc (.cells #[.pointer none] 115)) := (Below.refl _ _).alloc (Nat.le_refl _) _
  have s1 := h.below b1 (Nat.le_refl _)
  refine (as_miss _ _ _ s1.et).mono ?_
  rintro e w2 ⟨rfl, hw2⟩
  have b2 : Below w.heap.size w w2 := by
    rw [hw2]
    exact (((b1.alloc (by simp) _).alloc (by simp; omega) _).alloc (by simp; omega) _)
  have z2 : w.heap.size ≤ w2.heap.size := b2.size
  clear hw2
  have s2 := h.below b2 (Nat.le_refl _)
  have e0 := s2.g0
  have e1 := s2.g1
  have e2 := s2.g2
  have e3 := s2.g3
  have e4 := s2.g4
  have e5 := s2.g5
  have e6 := s2.g6
  have e7 := s2.g7
  have e8 := s2.g8
  have e9 := s2.g9
  go_wp2
  have b3 : Below w.heap.size w (w2.alloc (.cells (tenCells a) 27)) := b2.alloc z2 _
  have s3 := h.below b3 (Nat.le_refl _)
  have c3 : ∀ i, i < 10 → (w2.alloc (.cells (tenCells a) 27)).cell? ⟨w2.heap.size, i, none⟩ = some (.iface 190 (.pointer (some (a i)))) := fun i hi => by
    rw [World.cell?_alloc_at _ _ _ _ rfl]
    exact tenCells_at a i hi
  clear e0 e1 e2 e3 e4 e5 e6 e7 e8 e9 s1 s2
  unfold tenCells at b3 s3 c3
  generalize w2.alloc _ = W3 at *
  go_loop [3, 28] (fun x t => ∃ i : Nat, i ≤ k ∧ t = .int .i64 i ∧ x = .int .i64 (-1)) (fun _ t => k + 1 - (intOf t).toNat)
  case atStart => exact ⟨0, Nat.zero_le _, rfl, rfl⟩
  case round =>
    obtain ⟨i, hik, rfl, rfl⟩ := hrel
    have hc := c3 i (by omega)
    have hi10 : (i : Int) < 10 := by omega
    by_cases he : i = k
    · subst he
      clear c3
      go_wp2_with (go_at_call 51; refine (is_same _ _).mono ?_; rintro e w' ⟨rfl, rfl⟩)
      go_ret2
      exact ⟨rfl, b3⟩
    · obtain ⟨ca, ta, ea⟩ := s3.row i (by omega)
      obtain ⟨cb, tb, eb⟩ := s3.row k (by omega)
      have hne := s3.ne k i (by omega) (by omega) (Ne.symm he)
      clear c3
      go_wp2_with (go_at_call 51; refine (is_other _ _ _ _ _ _ _ hne eb ea).mono ?_; rintro e w' ⟨rfl, rfl⟩)
      go_round
      case rel => exact ⟨i + 1, by omega, by go_num, rfl⟩
      case measure => simp [intOf]; omega
end Go.Proofs.YtoacdaemhcbbhaaDoor
