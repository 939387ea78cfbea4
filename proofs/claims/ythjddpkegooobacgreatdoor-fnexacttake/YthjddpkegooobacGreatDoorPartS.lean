import Derived.WalkKit
import Derived.LaidEql
import Derived.Stop.Asserts
import Derived.RowKitTokens
import Derived.Test.YthjddpkegooobacGreatDoorPartR

/-
  ASERR: errors.As at a refusal. Own work, after the guide's worked example.
-/
namespace Go.Proofs.YthjddpkegooobacGreatDoor
open Go.RowKit Go.Extern.Stop Go.Stop Go.Extern

theorem as_nilR (t : Value) (w : World) : Calls Tryz.prog 60 #[.nilIface, t] w fun e w' => e = .returned (.bool false) ∧ w' = w := by
  go_enter Tryz.func60, Tryz.ntmps60
  go_wp2
  go_ret
  exact ⟨rfl, rfl⟩

theorem asValueOfP (t : Addr) (w : World) : (ReflectliteValue.unpack (.iface 120 (.pointer (some t)))).run Tryz.prog w
    = .ok (.agg #[.pointer (some ⟨1, 120, none⟩), .pointer (some ⟨w.heap.size, 0, none⟩), .int .u64 150]) (w.alloc (.cells #[.pointer (some t)] 120)) := by kernel_rfl
theorem asTypeP (a : Addr) (w : World) : (ReflectliteValue.methodAny (ReflectliteValue.valueError "reflectlite.Value.Type" 0) (fun t _ _ _ => ReflectliteType.toType t) #[.agg #[.pointer (some ⟨1, 120, none⟩), .pointer (some a), .int .u64 150]]).run Tryz.prog w
    = .ok (.iface 204 (.agg #[.pointer (some ⟨1, 120, none⟩)])) w := by kernel_rfl
theorem asMKind (h : Value) (w : World) : (Go.method 413 204 (.agg #[h]) "Kind").run Tryz.prog w = .ok (202, h) w := by kernel_rfl
theorem asKindP (w : World) : ((ReflectliteType.abiMethod fun t => (fun a : Nat => Value.int IntKind.u8 (a : Int)) <$> Rtype.kind t) #[.pointer (some ⟨1, 120, none⟩)]).run Tryz.prog w = .ok (.int .u8 22) w := by kernel_rfl
theorem asKindR (w : World) : ((ReflectliteType.abiMethod fun t => (fun a : Nat => Value.int IntKind.u8 (a : Int)) <$> Rtype.kind t) #[.pointer (some ⟨1, 118, none⟩)]).run Tryz.prog w = .ok (.int .u8 25) w := by kernel_rfl

theorem asRlm (z : Sem Value) (f : TypeId → Addr → Nat → Nat → Sem Value) (v : Value) :
    ReflectliteValue.method z f #[v] = (do match ← ReflectliteValue.parts v with | none => z | some (t, a, fl) => f t a fl (fl % 32)) := rfl
theorem asPartsP (a : Addr) (w : World) : (ReflectliteValue.parts (.agg #[.pointer (some ⟨1, 120, none⟩), .pointer (some a), .int .u64 150])).run Tryz.prog w = .ok (some (120, a, 150)) w := by kernel_rfl
theorem asIsNilP (a p : Addr) (W : World) (ha : W.cell? a = some (.pointer (some p))) :
    (ReflectliteValue.method (ReflectliteValue.valueError "reflectlite.Value.IsNil" 0) ReflectliteValue.isNil #[.agg #[.pointer (some ⟨1, 120, none⟩), .pointer (some a), .int .u64 150]]).run Tryz.prog W = .ok (.bool false) W := by
  rw [asRlm]
  simp only [Sem.run_bind, asPartsP, Result.andThen]
  simp [ReflectliteValue.isNil, loadVar, isAgg, underlying, Tryz.underlying120, ha, Result.andThen]

theorem asMElem (h : Value) (w : World) : (Go.method 413 204 (.agg #[h]) "Elem").run Tryz.prog w = .ok (213, .agg #[h]) w := by kernel_rfl
theorem asMImpl (h : Value) (w : World) : (Go.method 413 204 (.agg #[h]) "Implements").run Tryz.prog w = .ok (214, .agg #[h]) w := by kernel_rfl
theorem asMAss (h : Value) (w : World) : (Go.method 413 204 (.agg #[h]) "AssignableTo").run Tryz.prog w = .ok (211, .agg #[h]) w := by kernel_rfl
theorem asElemP (w : World) : (ReflectliteType.method ReflectliteType.elem #[.agg #[.pointer (some ⟨1, 120, none⟩)]]).run Tryz.prog w = .ok (.iface 204 (.agg #[.pointer (some ⟨1, 118, none⟩)])) w := by kernel_rfl
theorem asImplR (w : World) : (ReflectliteType.relation "Implements" ReflectliteType.implements_ #[.agg #[.pointer (some ⟨1, 118, none⟩)], .iface 204 (.agg #[.pointer (some ⟨1, 69, none⟩)])]).run Tryz.prog w = .ok (.bool true) w := by kernel_rfl
theorem asTypeOfR (v : Value) (w : World) : (ReflectliteType.typeOf #[.iface 118 v]).run Tryz.prog w = .ok (.iface 204 (.agg #[.pointer (some ⟨1, 118, none⟩)])) w := by kernel_rfl
theorem asAssR (w : World) : (ReflectliteType.relation "AssignableTo" ReflectliteType.assignableTo #[.agg #[.pointer (some ⟨1, 118, none⟩)], .iface 204 (.agg #[.pointer (some ⟨1, 118, none⟩)])]).run Tryz.prog w = .ok (.bool true) w := by kernel_rfl
theorem asValueOfR (x y : Int) (w : World) : (ReflectliteValue.unpack (.iface 118 (.agg #[.int .i64 x, .int .i64 y]))).run Tryz.prog w
    = .ok (.agg #[.pointer (some ⟨1, 118, none⟩), .pointer (some ⟨w.heap.size, 0, none⟩), .int .u64 153]) (w.alloc (.cells #[.int .i64 x, .int .i64 y] 118)) := by kernel_rfl
theorem asElemOfP (w : World) : (Rtype.elem? 120).run Tryz.prog w = .ok (some 118) w := by kernel_rfl
theorem asMkR (p : Addr) (w : World) : (ReflectliteValue.mk 118 p ReflectliteValue.flagAddr).run Tryz.prog w = .ok (.agg #[.pointer (some ⟨1, 118, none⟩), .pointer (some p), .int .u64 409]) w := by kernel_rfl
theorem asElemVP (a p : Addr) (W : World) (ha : W.cell? a = some (.pointer (some p))) :
    (ReflectliteValue.method (ReflectliteValue.valueError "reflectlite.Value.Elem" 0) ReflectliteValue.elem #[.agg #[.pointer (some ⟨1, 120, none⟩), .pointer (some a), .int .u64 150]]).run Tryz.prog W
      = .ok (.agg #[.pointer (some ⟨1, 118, none⟩), .pointer (some p), .int .u64 409]) W := by
  rw [asRlm]
  simp only [Sem.run_bind, asPartsP, Result.andThen]
  simp [ReflectliteValue.elem, loadVar, isAgg, underlying, Tryz.underlying120, ha, Result.andThen, asElemOfP, asMkR]
theorem asRls (v x : Value) : ReflectliteValue.set #[v, x] = (do
    let (some (dst, a, fl), some (src, b, _)) := (← ReflectliteValue.parts v, ← ReflectliteValue.parts x)
      | unsupported (.noEntry "extern/(internal/reflectlite.Value).Set.zeroValue")
    if fl / ReflectliteValue.flagAddr % 2 == 0 then unsupported (.noEntry "extern/(internal/reflectlite.Value).Set.unaddressable")
    let val ← loadVar src b
    if ← Rtype.directlyAssignable dst src then storeVar dst a val
    else if ← Rtype.implements dst src then
      if (← Rtype.kind src) == 20 then
        match val with
        | .nilIface => unsupported (.noEntry "extern/reflectlite: a nil value of one interface type handed on as a value of another")
        | _ => storeVar dst a val
      else storeVar dst a (.iface src val)
    else panicString ("reflectlite.Set: value of type " ++ (← Rtype.spelt src) ++ " is not assignable to type " ++ (← Rtype.spelt dst))
    pure (.tuple #[])) := rfl
theorem asPartsRa (a : Addr) (w : World) : (ReflectliteValue.parts (.agg #[.pointer (some ⟨1, 118, none⟩), .pointer (some a), .int .u64 409])).run Tryz.prog w = .ok (some (118, a, 409)) w := by kernel_rfl
theorem asPartsR (a : Addr) (w : World) : (ReflectliteValue.parts (.agg #[.pointer (some ⟨1, 118, none⟩), .pointer (some a), .int .u64 153])).run Tryz.prog w = .ok (some (118, a, 153)) w := by kernel_rfl
theorem asDirectR (w : World) : (Rtype.directlyAssignable 118 118).run Tryz.prog w = .ok true w := by kernel_rfl
theorem asSetR (T B : Nat) (x y : Int) (o0 o1 : Value) (W : World) (hb0 : W.cell? ⟨B, 0, none⟩ = some (.int .i64 x)) (hb1 : W.cell? ⟨B, 1, none⟩ = some (.int .i64 y)) (ht0 : W.cell? ⟨T, 0, none⟩ = some o0) (ht1 : W.cell? ⟨T, 1, none⟩ = some o1) (hf : ∀ o, W.frozen? ⟨T, o, none⟩ = false) :
    (ReflectliteValue.set #[.agg #[.pointer (some ⟨1, 118, none⟩), .pointer (some ⟨T, 0, none⟩), .int .u64 409], .agg #[.pointer (some ⟨1, 118, none⟩), .pointer (some ⟨B, 0, none⟩), .int .u64 153]]).run Tryz.prog W
      = .ok (.tuple #[]) ((W.setCell ⟨T, 0, none⟩ (.int .i64 x)).setCell ⟨T, 1, none⟩ (.int .i64 y)) := by
  rw [asRls]
  simp only [Sem.run_bind, asPartsRa, asPartsR, Result.andThen]
  simp [ReflectliteValue.flagAddr, loadVar, isAgg, underlying, Tryz.underlying118, Result.andThen, asDirectR, storeVar, Value.cells, storeCells, Addr.add]
  have hL : (loadCells ⟨B, 0, none⟩ 2).run Tryz.prog W = .ok #[.int .i64 x, .int .i64 y] W := by
    simp [loadCells, loadCellsFrom, Sem.run_bind, hb0, hb1, Result.andThen, Addr.add]
  rw [hL]
  have h1 : (W.setCell ⟨T, 0, none⟩ (.int .i64 x)).cell? ⟨T, 1, none⟩ = some o1 := by rw [World.cell?_setCell_other _ _ _ _ (by simp)]; exact ht1
  simp [storeCells, Sem.run_bind, Addr.add]
  rw [run_store Tryz.prog W ⟨T, 0, none⟩ _ _ (by rfl)]
  simp [ht0, hf]
  rw [run_store Tryz.prog _ ⟨T, 1, none⟩ _ _ (by rfl)]
  simp [h1, hf]

/-- errors.As at a refusal: it is written into the target -/
def AsHit (T : Nat) (x y : Int) (w : World) (e : Ending) (w' : World) : Prop := e = .returned (.bool true) ∧ Kept (fun z => z = T) w w' ∧ w'.cell? ⟨T, 0, none⟩ = some (.int .i64 x) ∧ w'.cell? ⟨T, 1, none⟩ = some (.int .i64 y)

set_option maxHeartbeats 4000000 in
set_option maxRecDepth 100000 in
theorem as_hitR (T : Nat) (x y : Int) (o0 o1 : Value) (w : World) (hg : w.cell? ⟨0, 0, none⟩ = some (.iface 204 (.agg #[.pointer (some ⟨1, 69, none⟩)]))) (ht0 : w.cell? ⟨T, 0, none⟩ = some o0) (ht1 : w.cell? ⟨T, 1, none⟩ = some o1) (hf : ∀ o, w.frozen? ⟨T, o, none⟩ = false) :
    Calls Tryz.prog 60 #[.iface 118 (.agg #[.int .i64 x, .int .i64 y]), .iface 120 (.pointer (some ⟨T, 0, none⟩))] w (AsHit T x y w) := by
  have h6 := @run_callFunc_extern Tryz.prog 100 _ (fun args => ReflectliteValue.unpack (args.getD 0 (.tuple #[]))) Tryz.func100 (by kernel_rfl) (by kernel_rfl) (by kernel_rfl) (by kernel_rfl)
  have h7 := @run_callFunc_extern Tryz.prog 101 _ (ReflectliteValue.methodAny (ReflectliteValue.valueError "reflectlite.Value.Type" 0) (fun t _ _ _ => ReflectliteType.toType t)) Tryz.func101 (by kernel_rfl) (by kernel_rfl) (by kernel_rfl) (by kernel_rfl)
  have h8 := @run_callFunc_extern Tryz.prog 102 _ (ReflectliteValue.method (ReflectliteValue.valueError "reflectlite.Value.IsNil" 0) ReflectliteValue.isNil) Tryz.func102 (by kernel_rfl) (by kernel_rfl) (by kernel_rfl) (by kernel_rfl)
  have h27 := @run_callFunc_extern Tryz.prog 202 _ (ReflectliteType.abiMethod fun t => do pure (.int .u8 (← Rtype.kind t))) Tryz.func202 (by kernel_rfl) (by kernel_rfl) (by kernel_rfl) (by kernel_rfl)
  have h37 := @run_callFunc_extern Tryz.prog 213 _ (ReflectliteType.method ReflectliteType.elem) Tryz.func213 (by kernel_rfl) (by kernel_rfl) (by kernel_rfl) (by kernel_rfl)
  have h38 := @run_callFunc_extern Tryz.prog 214 _ (ReflectliteType.relation "Implements" ReflectliteType.implements_) Tryz.func214 (by kernel_rfl) (by kernel_rfl) (by kernel_rfl) (by kernel_rfl)
  have h10 := @run_callFunc_extern Tryz.prog 130 _ (ReflectliteType.typeOf) Tryz.func130 (by kernel_rfl) (by kernel_rfl) (by kernel_rfl) (by kernel_rfl)
  have h35 := @run_callFunc_extern Tryz.prog 211 _ (ReflectliteType.relation "AssignableTo" ReflectliteType.assignableTo) Tryz.func211 (by kernel_rfl) (by kernel_rfl) (by kernel_rfl) (by kernel_rfl)
  have h11 := @run_callFunc_extern Tryz.prog 131 _ (ReflectliteValue.method (ReflectliteValue.valueError "reflectlite.Value.Elem" 0) ReflectliteValue.elem) Tryz.func131 (by kernel_rfl) (by kernel_rfl) (by kernel_rfl) (by kernel_rfl)
  have h12 := @run_callFunc_extern Tryz.prog 132 _ (ReflectliteValue.set) Tryz.func132 (by kernel_rfl) (by kernel_rfl) (by kernel_rfl) (by kernel_rfl)
  have tO := asTypeOfR
  have mA := asMAss
  have a25 := asAssR
  have v25 := asValueOfR
  have f6 := asValueOfP
  have f7 := asTypeP
  have mK := asMKind
  have mE := asMElem
  have mI := asMImpl
  have k27 := asKindP
  have k25 := asKindR
  have e27 := asElemP
  have i25 := asImplR
  have hlt : 0 < w.heap.size := World.block_lt_of_cell? _ _ hg
  have htl : T < w.heap.size := World.block_lt_of_cell? _ _ ht0
  have n8 := asIsNilP ⟨w.heap.size, 0, none⟩ ⟨T, 0, none⟩ ((w.alloc (.cells #[.pointer (some ⟨T, 0, none⟩)] 120)).alloc (.cells #[.pointer (some ⟨1, 120, none⟩), .pointer (some ⟨w.heap.size, 0, none⟩), .int .u64 150] 163)) (by simp)
  have hg2 : ((w.alloc (.cells #[.pointer (some ⟨T, 0, none⟩)] 120)).alloc (.cells #[.pointer (some ⟨1, 120, none⟩), .pointer (some ⟨w.heap.size, 0, none⟩), .int .u64 150] 163)).cell? ⟨0, 0, none⟩ = some (.iface 204 (.agg #[.pointer (some ⟨1, 69, none⟩)])) := by
    rw [World.cell?_alloc_lt _ _ ⟨0, 0, none⟩ (by simp), World.cell?_alloc_lt _ _ ⟨0, 0, none⟩ hlt]; exact hg
  have el := asElemVP ⟨w.heap.size, 0, none⟩ ⟨T, 0, none⟩ (((w.alloc (.cells #[.pointer (some ⟨T, 0, none⟩)] 120)).alloc (.cells #[.pointer (some ⟨1, 120, none⟩), .pointer (some ⟨w.heap.size, 0, none⟩), .int .u64 150] 163)).alloc (.cells #[.pointer (some ⟨1, 120, none⟩), .pointer (some ⟨w.heap.size, 0, none⟩), .int .u64 150] 163)) (by rw [World.cell?_alloc_lt _ _ ⟨w.heap.size, 0, none⟩ (by simp; omega), World.cell?_alloc_lt _ _ ⟨w.heap.size, 0, none⟩ (by simp)]; simp)
  have hT0 : ((((w.alloc (.cells #[.pointer (some ⟨T, 0, none⟩)] 120)).alloc (.cells #[.pointer (some ⟨1, 120, none⟩), .pointer (some ⟨w.heap.size, 0, none⟩), .int .u64 150] 163)).alloc (.cells #[.pointer (some ⟨1, 120, none⟩), .pointer (some ⟨w.heap.size, 0, none⟩), .int .u64 150] 163)).alloc (.cells #[.int .i64 x, .int .i64 y] 118)).cell? ⟨T, 0, none⟩ = some o0 := by rw [World.cell?_alloc_lt _ _ ⟨T, 0, none⟩ (by simp; omega), World.cell?_alloc_lt _ _ ⟨T, 0, none⟩ (by simp; omega), World.cell?_alloc_lt _ _ ⟨T, 0, none⟩ (by simp; omega), World.cell?_alloc_lt _ _ ⟨T, 0, none⟩ htl]; exact ht0
  have hT1 : ((((w.alloc (.cells #[.pointer (some ⟨T, 0, none⟩)] 120)).alloc (.cells #[.pointer (some ⟨1, 120, none⟩), .pointer (some ⟨w.heap.size, 0, none⟩), .int .u64 150] 163)).alloc (.cells #[.pointer (some ⟨1, 120, none⟩), .pointer (some ⟨w.heap.size, 0, none⟩), .int .u64 150] 163)).alloc (.cells #[.int .i64 x, .int .i64 y] 118)).cell? ⟨T, 1, none⟩ = some o1 := by rw [World.cell?_alloc_lt _ _ ⟨T, 1, none⟩ (by simp; omega), World.cell?_alloc_lt _ _ ⟨T, 1, none⟩ (by simp; omega), World.cell?_alloc_lt _ _ ⟨T, 1, none⟩ (by simp; omega), World.cell?_alloc_lt _ _ ⟨T, 1, none⟩ htl]; exact ht1
  have st := asSetR T (w.heap.size + 1 + 1 + 1) x y o0 o1 ((((w.alloc (.cells #[.pointer (some ⟨T, 0, none⟩)] 120)).alloc (.cells #[.pointer (some ⟨1, 120, none⟩), .pointer (some ⟨w.heap.size, 0, none⟩), .int .u64 150] 163)).alloc (.cells #[.pointer (some ⟨1, 120, none⟩), .pointer (some ⟨w.heap.size, 0, none⟩), .int .u64 150] 163)).alloc (.cells #[.int .i64 x, .int .i64 y] 118))
    (by rw [World.cell?_alloc_at _ _ _ _ (by simp)]; rfl)
    (by rw [World.cell?_alloc_at _ _ _ _ (by simp)]; rfl)
    hT0
    hT1
    (fun o => by rw [World.frozen?_alloc_old _ _ ⟨T, o, none⟩ (by simp; omega), World.frozen?_alloc_old _ _ ⟨T, o, none⟩ (by simp; omega), World.frozen?_alloc_old _ _ ⟨T, o, none⟩ (by simp; omega), World.frozen?_alloc_old _ _ ⟨T, o, none⟩ (Nat.ne_of_lt htl)]; exact hf o)
  go_enter Tryz.func60, Tryz.ntmps60
  go_wp2
  refine wp_loop_rounds 1 ?_
  rw [rounds_succ]
  go_wp2
  go_ret
  exact ⟨rfl, ((((((Kept.refl (fun z => z = T) w).alloc _).alloc _).alloc _).alloc _).set (a := ⟨T, 0, none⟩) (fun _ => rfl) _).set (a := ⟨T, 1, none⟩) (fun _ => rfl) _, by rw [World.cell?_setCell_other _ _ _ _ (by simp)]; exact World.cell?_setCell_same _ _ _ hT0, World.cell?_setCell_same (u := o1) _ _ _ (by rw [World.cell?_setCell_other _ _ _ _ (by simp)]; exact hT1)⟩

end Go.Proofs.YthjddpkegooobacGreatDoor

/-
  TAKEA: what is taken up: the answer's variable, answered, takeUp, Take. Own work.
-/
namespace Go.Proofs.YthjddpkegooobacGreatDoor
open Go.RowKit

/-- what is taken up -/
structure TK where
  code : Int
  gen : Int
  g : GG
abbrev TK.val (t : TK) (na : Option Addr) (nc : Nat) : Value := .agg #[.int .i64 t.code, .int .i64 t.gen, .int .i64 t.g.root.kind, .int .i64 t.g.root.num, .string t.g.root.text, .int .i64 t.g.root.node, .slice na t.g.nodes.length nc]
def DD.takeT (d : DD) : TK := if d.ok = false then ⟨3, 0, zeroG⟩ else if d.newestOf.ok = false then ⟨1, 0, zeroG⟩ else if (unB d.newestOf.bytes).1 = false then ⟨2, d.newestOf.gen, zeroG⟩ else ⟨0, d.newestOf.gen, (unB d.newestOf.bytes).2⟩

/-- seven cells of a variable's own block -/
structure V7 (w : World) (b : Nat) (x0 x1 x2 x3 x4 x5 x6 : Value) : Prop where
  lt : b < w.heap.size
  c0 : w.cell? ⟨b, 0, none⟩ = some x0
  c1 : w.cell? ⟨b, 1, none⟩ = some x1
  c2 : w.cell? ⟨b, 2, none⟩ = some x2
  c3 : w.cell? ⟨b, 3, none⟩ = some x3
  c4 : w.cell? ⟨b, 4, none⟩ = some x4
  c5 : w.cell? ⟨b, 5, none⟩ = some x5
  c6 : w.cell? ⟨b, 6, none⟩ = some x6
  f : ∀ o, w.frozen? ⟨b, o, none⟩ = false
theorem V7.kept {p : Nat → Prop} {w w' : World} {b : Nat} {x0 x1 x2 x3 x4 x5 x6 : Value} (h : V7 w b x0 x1 x2 x3 x4 x5 x6) (k : Kept p w w') (hn : ¬ p b) : V7 w' b x0 x1 x2 x3 x4 x5 x6 :=
  ⟨Nat.lt_of_lt_of_le h.lt k.size, k.cell h.c0 hn, k.cell h.c1 hn, k.cell h.c2 hn, k.cell h.c3 hn, k.cell h.c4 hn, k.cell h.c5 hn, k.cell h.c6 hn, fun o => (World.frozen?_of_block (w := w) (a := ⟨b, o, none⟩) (k.block b h.lt hn)).trans (h.f o)⟩
theorem V7.grow {w w' : World} {b : Nat} {x0 x1 x2 x3 x4 x5 x6 : Value} (h : V7 w b x0 x1 x2 x3 x4 x5 x6) (k : Below w.heap.size w w') : V7 w' b x0 x1 x2 x3 x4 x5 x6 := h.kept (Kept.of_below k (fun _ => False)) (fun e => e)
theorem V7.new_at (w : World) (x0 x1 x2 x3 x4 x5 x6 : Value) (t : TypeId) (b : Nat) (hb : b = w.heap.size) : V7 (w.alloc (.cells #[x0, x1, x2, x3, x4, x5, x6] t)) b x0 x1 x2 x3 x4 x5 x6 := by
  subst hb
  exact ⟨by simp, by simp, by simp, by simp, by simp, by simp, by simp, by simp, fun o => by simp⟩
theorem V7.set0 {w : World} {b : Nat} {x0 x1 x2 x3 x4 x5 x6 : Value} (h : V7 w b x0 x1 x2 x3 x4 x5 x6) (y : Value) : V7 (w.setCell ⟨b, 0, none⟩ y) b y x1 x2 x3 x4 x5 x6 :=
  ⟨by simpa [World.setCell] using h.lt, World.cell?_setCell_same _ _ _ h.c0, (World.cell?_setCell_other _ _ _ _ (by simp)).trans h.c1, (World.cell?_setCell_other _ _ _ _ (by simp)).trans h.c2, (World.cell?_setCell_other _ _ _ _ (by simp)).trans h.c3, (World.cell?_setCell_other _ _ _ _ (by simp)).trans h.c4, (World.cell?_setCell_other _ _ _ _ (by simp)).trans h.c5, (World.cell?_setCell_other _ _ _ _ (by simp)).trans h.c6, fun o => (World.frozen?_setCell ..).trans (h.f o)⟩
theorem V7.set1 {w : World} {b : Nat} {x0 x1 x2 x3 x4 x5 x6 : Value} (h : V7 w b x0 x1 x2 x3 x4 x5 x6) (y : Value) : V7 (w.setCell ⟨b, 1, none⟩ y) b x0 y x2 x3 x4 x5 x6 :=
  ⟨by simpa [World.setCell] using h.lt, (World.cell?_setCell_other _ _ _ _ (by simp)).trans h.c0, World.cell?_setCell_same _ _ _ h.c1, (World.cell?_setCell_other _ _ _ _ (by simp)).trans h.c2, (World.cell?_setCell_other _ _ _ _ (by simp)).trans h.c3, (World.cell?_setCell_other _ _ _ _ (by simp)).trans h.c4, (World.cell?_setCell_other _ _ _ _ (by simp)).trans h.c5, (World.cell?_setCell_other _ _ _ _ (by simp)).trans h.c6, fun o => (World.frozen?_setCell ..).trans (h.f o)⟩
theorem V7.set2 {w : World} {b : Nat} {x0 x1 x2 x3 x4 x5 x6 : Value} (h : V7 w b x0 x1 x2 x3 x4 x5 x6) (y : Value) : V7 (w.setCell ⟨b, 2, none⟩ y) b x0 x1 y x3 x4 x5 x6 :=
  ⟨by simpa [World.setCell] using h.lt, (World.cell?_setCell_other _ _ _ _ (by simp)).trans h.c0, (World.cell?_setCell_other _ _ _ _ (by simp)).trans h.c1, World.cell?_setCell_same _ _ _ h.c2, (World.cell?_setCell_other _ _ _ _ (by simp)).trans h.c3, (World.cell?_setCell_other _ _ _ _ (by simp)).trans h.c4, (World.cell?_setCell_other _ _ _ _ (by simp)).trans h.c5, (World.cell?_setCell_other _ _ _ _ (by simp)).trans h.c6, fun o => (World.frozen?_setCell ..).trans (h.f o)⟩
theorem V7.set3 {w : World} {b : Nat} {x0 x1 x2 x3 x4 x5 x6 : Value} (h : V7 w b x0 x1 x2 x3 x4 x5 x6) (y : Value) : V7 (w.setCell ⟨b, 3, none⟩ y) b x0 x1 x2 y x4 x5 x6 :=
  ⟨by simpa [World.setCell] using h.lt, (World.cell?_setCell_other _ _ _ _ (by simp)).trans h.c0, (World.cell?_setCell_other _ _ _ _ (by simp)).trans h.c1, (World.cell?_setCell_other _ _ _ _ (by simp)).trans h.c2, World.cell?_setCell_same _ _ _ h.c3, (World.cell?_setCell_other _ _ _ _ (by simp)).trans h.c4, (World.cell?_setCell_other _ _ _ _ (by simp)).trans h.c5, (World.cell?_setCell_other _ _ _ _ (by simp)).trans h.c6, fun o => (World.frozen?_setCell ..).trans (h.f o)⟩
theorem V7.set4 {w : World} {b : Nat} {x0 x1 x2 x3 x4 x5 x6 : Value} (h : V7 w b x0 x1 x2 x3 x4 x5 x6) (y : Value) : V7 (w.setCell ⟨b, 4, none⟩ y) b x0 x1 x2 x3 y x5 x6 :=
  ⟨by simpa [World.setCell] using h.lt, (World.cell?_setCell_other _ _ _ _ (by simp)).trans h.c0, (World.cell?_setCell_other _ _ _ _ (by simp)).trans h.c1, (World.cell?_setCell_other _ _ _ _ (by simp)).trans h.c2, (World.cell?_setCell_other _ _ _ _ (by simp)).trans h.c3, World.cell?_setCell_same _ _ _ h.c4, (World.cell?_setCell_other _ _ _ _ (by simp)).trans h.c5, (World.cell?_setCell_other _ _ _ _ (by simp)).trans h.c6, fun o => (World.frozen?_setCell ..).trans (h.f o)⟩
theorem V7.set5 {w : World} {b : Nat} {x0 x1 x2 x3 x4 x5 x6 : Value} (h : V7 w b x0 x1 x2 x3 x4 x5 x6) (y : Value) : V7 (w.setCell ⟨b, 5, none⟩ y) b x0 x1 x2 x3 x4 y x6 :=
  ⟨by simpa [World.setCell] using h.lt, (World.cell?_setCell_other _ _ _ _ (by simp)).trans h.c0, (World.cell?_setCell_other _ _ _ _ (by simp)).trans h.c1, (World.cell?_setCell_other _ _ _ _ (by simp)).trans h.c2, (World.cell?_setCell_other _ _ _ _ (by simp)).trans h.c3, (World.cell?_setCell_other _ _ _ _ (by simp)).trans h.c4, World.cell?_setCell_same _ _ _ h.c5, (World.cell?_setCell_other _ _ _ _ (by simp)).trans h.c6, fun o => (World.frozen?_setCell ..).trans (h.f o)⟩
theorem V7.set6 {w : World} {b : Nat} {x0 x1 x2 x3 x4 x5 x6 : Value} (h : V7 w b x0 x1 x2 x3 x4 x5 x6) (y : Value) : V7 (w.setCell ⟨b, 6, none⟩ y) b x0 x1 x2 x3 x4 x5 y :=
  ⟨by simpa [World.setCell] using h.lt, (World.cell?_setCell_other _ _ _ _ (by simp)).trans h.c0, (World.cell?_setCell_other _ _ _ _ (by simp)).trans h.c1, (World.cell?_setCell_other _ _ _ _ (by simp)).trans h.c2, (World.cell?_setCell_other _ _ _ _ (by simp)).trans h.c3, (World.cell?_setCell_other _ _ _ _ (by simp)).trans h.c4, (World.cell?_setCell_other _ _ _ _ (by simp)).trans h.c5, World.cell?_setCell_same _ _ _ h.c6, fun o => (World.frozen?_setCell ..).trans (h.f o)⟩
theorem V7.put {w : World} {b : Nat} {x0 x1 x2 x3 x4 x5 x6 : Value} (h : V7 w b x0 x1 x2 x3 x4 x5 x6) (y0 y1 y2 y3 y4 y5 y6 : Value) : V7 (((((((w.setCell ⟨b, 0, none⟩ (y0)).setCell ⟨b, 1, none⟩ (y1)).setCell ⟨b, 2, none⟩ (y2)).setCell ⟨b, 3, none⟩ (y3)).setCell ⟨b, 4, none⟩ (y4)).setCell ⟨b, 5, none⟩ (y5)).setCell ⟨b, 6, none⟩ (y6)) b y0 y1 y2 y3 y4 y5 y6 ∧ Kept (fun z => z = b) w (((((((w.setCell ⟨b, 0, none⟩ (y0)).setCell ⟨b, 1, none⟩ (y1)).setCell ⟨b, 2, none⟩ (y2)).setCell ⟨b, 3, none⟩ (y3)).setCell ⟨b, 4, none⟩ (y4)).setCell ⟨b, 5, none⟩ (y5)).setCell ⟨b, 6, none⟩ (y6)) :=
  ⟨((((((h.set0 y0).set1 y1).set2 y2).set3 y3).set4 y4).set5 y5).set6 y6, (((((((Kept.refl (fun z => z = b) w).set (a := ⟨b, 0, none⟩) (fun _ => rfl) _).set (a := ⟨b, 1, none⟩) (fun _ => rfl) _).set (a := ⟨b, 2, none⟩) (fun _ => rfl) _).set (a := ⟨b, 3, none⟩) (fun _ => rfl) _).set (a := ⟨b, 4, none⟩) (fun _ => rfl) _).set (a := ⟨b, 5, none⟩) (fun _ => rfl) _).set (a := ⟨b, 6, none⟩) (fun _ => rfl) _⟩

set_option maxHeartbeats 4000000 in
set_option maxRecDepth 100000 in
theorem answered_nil (t : TK) (na : Option Addr) (nc : Nat) (w : World) :
    Calls Tryz.prog 30 #[t.val na nc, .nilIface] w fun e w' => e = .returned (t.val na nc) ∧ Below w.heap.size w w' := by
  have hT := (V7.new_at w (.int .i64 t.code) (.int .i64 t.gen) (.int .i64 t.g.root.kind) (.int .i64 t.g.root.num) (.string t.g.root.text) (.int .i64 t.g.root.node) (.slice na t.g.nodes.length nc) 33 w.heap.size rfl).grow (gal (gal (gre _) (.cells #[.int .i64 0, .int .i64 0, .int .i64 0, .int .i64 0, .string ⟨#[]⟩, .int .i64 0, .slice none 0 0] 33)) (.cells #[.int .i64 0, .int .i64 0] 118))
  have hR := (V7.new_at (w.alloc (.cells #[.int .i64 t.code, .int .i64 t.gen, .int .i64 t.g.root.kind, .int .i64 t.g.root.num, .string t.g.root.text, .int .i64 t.g.root.node, .slice na t.g.nodes.length nc] 33)) (.int .i64 0) (.int .i64 0) (.int .i64 0) (.int .i64 0) (.string ⟨#[]⟩) (.int .i64 0) (.slice none 0 0) 33 (w.heap.size + 1) (by simp)).grow (gal (gre _) (.cells #[.int .i64 0, .int .i64 0] 118))
  have hA : Below w.heap.size w (((w.alloc (.cells #[.int .i64 t.code, .int .i64 t.gen, .int .i64 t.g.root.kind, .int .i64 t.g.root.num, .string t.g.root.text, .int .i64 t.g.root.node, .slice na t.g.nodes.length nc] 33)).alloc (.cells #[.int .i64 0, .int .i64 0, .int .i64 0, .int .i64 0, .string ⟨#[]⟩, .int .i64 0, .slice none 0 0] 33)).alloc (.cells #[.int .i64 0, .int .i64 0] 118)) := gal (gal (gal (gre w) _) _) _
  go_enter Tryz.func30, Tryz.ntmps30
  go_upto_region 2 with fail
  generalize ((w.alloc (.cells #[.int .i64 t.code, .int .i64 t.gen, .int .i64 t.g.root.kind, .int .i64 t.g.root.num, .string t.g.root.text, .int .i64 t.g.root.node, .slice na t.g.nodes.length nc] 33)).alloc (.cells #[.int .i64 0, .int .i64 0, .int .i64 0, .int .i64 0, .string ⟨#[]⟩, .int .i64 0, .slice none 0 0] 33)).alloc (.cells #[.int .i64 0, .int .i64 0] 118) = w1 at hT hR hA ⊢
  obtain ⟨_, t0, t1, t2, t3, t4, t5, t6, _⟩ := id hT
  obtain ⟨_, r0, r1, r2, r3, r4, r5, r6, rf_⟩ := id hR
  go_wp2_with (go_at_call 60; refine (as_nilR _ w1).mono ?_; rintro e w2 ⟨rfl, rfl⟩)
  obtain ⟨hV9, hK9⟩ := hR.put (.int .i64 t.code) (.int .i64 t.gen) (.int .i64 t.g.root.kind) (.int .i64 t.g.root.num) (.string t.g.root.text) (.int .i64 t.g.root.node) (.slice na t.g.nodes.length nc)
  generalize (((((((w2.setCell ⟨w.heap.size + 1, 0, none⟩ (.int .i64 t.code)).setCell ⟨w.heap.size + 1, 1, none⟩ (.int .i64 t.gen)).setCell ⟨w.heap.size + 1, 2, none⟩ (.int .i64 t.g.root.kind)).setCell ⟨w.heap.size + 1, 3, none⟩ (.int .i64 t.g.root.num)).setCell ⟨w.heap.size + 1, 4, none⟩ (.string t.g.root.text)).setCell ⟨w.heap.size + 1, 5, none⟩ (.int .i64 t.g.root.node)).setCell ⟨w.heap.size + 1, 6, none⟩ (.slice na t.g.nodes.length nc)) = w9 at hV9 hK9 ⊢
  obtain ⟨_, q0, q1, q2, q3, q4, q5, q6, _⟩ := id hV9
  exact bodyPost_ret (v := t.val na nc) (by simp [results, Tryz.results30, go_sem, q0, q1, q2, q3, q4, q5, q6]) rfl ⟨rfl, hA.trans (hK9.below hA.size (fun z hz e => by omega))⟩

set_option maxHeartbeats 4000000 in
set_option maxRecDepth 100000 in
theorem answered_hit (t : TK) (na : Option Addr) (nc : Nat) (x y : Int) (w : World) (hg : w.cell? ⟨0, 0, none⟩ = some (.iface 204 (.agg #[.pointer (some ⟨1, 69, none⟩)]))) :
    Calls Tryz.prog 30 #[t.val na nc, .iface 118 (.agg #[.int .i64 x, .int .i64 y])] w fun e w' => e = .returned ((TK.mk x y zeroG).val none 0) ∧ Below w.heap.size w w' := by
  have hR := (V7.new_at (w.alloc (.cells #[.int .i64 t.code, .int .i64 t.gen, .int .i64 t.g.root.kind, .int .i64 t.g.root.num, .string t.g.root.text, .int .i64 t.g.root.node, .slice na t.g.nodes.length nc] 33)) (.int .i64 0) (.int .i64 0) (.int .i64 0) (.int .i64 0) (.string ⟨#[]⟩) (.int .i64 0) (.slice none 0 0) 33 (w.heap.size + 1) (by simp)).grow (gal (gre _) (.cells #[.int .i64 0, .int .i64 0] 118))
  have hA : Below w.heap.size w (((w.alloc (.cells #[.int .i64 t.code, .int .i64 t.gen, .int .i64 t.g.root.kind, .int .i64 t.g.root.num, .string t.g.root.text, .int .i64 t.g.root.node, .slice na t.g.nodes.length nc] 33)).alloc (.cells #[.int .i64 0, .int .i64 0, .int .i64 0, .int .i64 0, .string ⟨#[]⟩, .int .i64 0, .slice none 0 0] 33)).alloc (.cells #[.int .i64 0, .int .i64 0] 118)) := gal (gal (gal (gre w) _) _) _
  have hP := VB.new_at ((w.alloc (.cells #[.int .i64 t.code, .int .i64 t.gen, .int .i64 t.g.root.kind, .int .i64 t.g.root.num, .string t.g.root.text, .int .i64 t.g.root.node, .slice na t.g.nodes.length nc] 33)).alloc (.cells #[.int .i64 0, .int .i64 0, .int .i64 0, .int .i64 0, .string ⟨#[]⟩, .int .i64 0, .slice none 0 0] 33)) (.int .i64 0) (.int .i64 0) 118 (w.heap.size + 1 + 1) (by simp)
  go_enter Tryz.func30, Tryz.ntmps30
  go_upto_region 2 with fail
  generalize ((w.alloc (.cells #[.int .i64 t.code, .int .i64 t.gen, .int .i64 t.g.root.kind, .int .i64 t.g.root.num, .string t.g.root.text, .int .i64 t.g.root.node, .slice na t.g.nodes.length nc] 33)).alloc (.cells #[.int .i64 0, .int .i64 0, .int .i64 0, .int .i64 0, .string ⟨#[]⟩, .int .i64 0, .slice none 0 0] 33)).alloc (.cells #[.int .i64 0, .int .i64 0] 118) = w1 at hR hA hP ⊢
  go_wp2_with (go_at_call 60; refine (as_hitR (w.heap.size + 1 + 1) x y _ _ w1 (cell_later hA hg) hP.v0 hP.v1 hP.vf).mono ?_; rintro e w2 ⟨rfl, hK2, q0, q1⟩; have hR2 := hR.kept hK2 (by omega); obtain ⟨_, r0, r1, r2, r3, r4, r5, r6, rf_⟩ := id hR2)
  have hA2 : Below w.heap.size w w2 := hA.trans (hK2.below hA.size (fun z hz e => by omega))
  obtain ⟨hV9, hK9⟩ := hR2.put (.int .i64 x) (.int .i64 y) (.int .i64 0) (.int .i64 0) (.string ⟨#[]⟩) (.int .i64 0) (.slice none 0 0)
  generalize (((((((w2.setCell ⟨w.heap.size + 1, 0, none⟩ (.int .i64 x)).setCell ⟨w.heap.size + 1, 1, none⟩ (.int .i64 y)).setCell ⟨w.heap.size + 1, 2, none⟩ (.int .i64 0)).setCell ⟨w.heap.size + 1, 3, none⟩ (.int .i64 0)).setCell ⟨w.heap.size + 1, 4, none⟩ (.string ⟨#[]⟩)).setCell ⟨w.heap.size + 1, 5, none⟩ (.int .i64 0)).setCell ⟨w.heap.size + 1, 6, none⟩ (.slice none 0 0)) = w9 at hV9 hK9 ⊢
  obtain ⟨_, q0, q1, q2, q3, q4, q5, q6, _⟩ := id hV9
  exact bodyPost_ret (v := (TK.mk x y zeroG).val none 0) (by simp [results, Tryz.results30, go_sem, q0, q1, q2, q3, q4, q5, q6, zeroG]) rfl ⟨rfl, hA2.trans (hK9.below hA2.size (fun z hz e => by omega))⟩

end Go.Proofs.YthjddpkegooobacGreatDoor

/-
  TAKEB: takeUp. Own work.
-/
namespace Go.Proofs.YthjddpkegooobacGreatDoor
open Go.RowKit

theorem mb_atT {w : World} {lo : Nat} {oa : Option Addr} {ys : List Nat} (h : MB w lo oa ys) : BytesAt w oa ys := by
  rcases h with rfl | ⟨G, n, rfl, _, hB⟩
  · exact fun i hi => absurd hi (Nat.not_lt_zero _)
  · exact brow_bytes hB
theorem newest_byteT {d : DD} (h : d.Fit) (ho : d.Ok) : (∀ x, x ∈ d.newestOf.bytes → x < 256) ∧ d.newestOf.bytes.length ≤ 4096 := by
  have hs : ∀ m, m < 2 → (∀ x, x ∈ (d.slotOf m).bytes → x < 256) := fun m hm => by
    unfold DD.slotOf
    split
    · exact DD.img_byte h ho hm
    · intro x hx; cases hx
  unfold DD.newestOf
  split
  · exact ⟨hs 1 (by omega), (DD.slot_fine h (slot := 1) (by omega)).len⟩
  · exact ⟨hs 0 (by omega), (DD.slot_fine h (slot := 0) (by omega)).len⟩

/-- what takeUp answers -/
def TUp (d : DD) (w : World) (e : Ending) (w' : World) : Prop :=
  Below w.heap.size w w' ∧ ((∃ na nc nl, d.takeT.code = 0 ∧ e = .returned (.tuple #[d.takeT.val na nc, .nilIface]) ∧ nl.map (·.n) = d.takeT.g.nodes ∧ OwnG w' w.heap.size na nc nl) ∨ (d.takeT.g = zeroG ∧ e = .returned (.tuple #[(TK.mk 0 0 zeroG).val none 0, .iface 118 (.agg #[.int .i64 d.takeT.code, .int .i64 d.takeT.gen])])))

set_option maxHeartbeats 4000000 in
set_option maxRecDepth 100000 in
theorem takeUp_any (d : DD) (l : DL) (w : World) (hd : d.Ok) (ha : DAt w l d) : Calls Tryz.prog 31 #[d.val l] w (TUp d w) := by
  have hA := gal (gal (gre w) (.cells #[.slice l.ba d.blocks.length l.bc, .slice l.wa d.waiting.length l.wc] 37)) (.cells #[.int .i64 0, .int .i64 0, .int .i64 0, .int .i64 0, .string ⟨#[]⟩, .int .i64 0, .slice none 0 0] 33)
  have hX0 := (DBox.new w d l 37).grow (gal (gre _) (.cells #[.int .i64 0, .int .i64 0, .int .i64 0, .int .i64 0, .string ⟨#[]⟩, .int .i64 0, .slice none 0 0] 33))
  have hR0 := V7.new_at (w.alloc (.cells #[.slice l.ba d.blocks.length l.bc, .slice l.wa d.waiting.length l.wc] 37)) (.int .i64 0) (.int .i64 0) (.int .i64 0) (.int .i64 0) (.string ⟨#[]⟩) (.int .i64 0) (.slice none 0 0) 33 (w.heap.size + 1) (by simp)
  cases hok : d.ok with
  | false =>
    have ht : d.takeT = ⟨3, 0, zeroG⟩ := if_pos hok
    have ht' : Hid _ := ht
    have hok' : Hid _ := hok
    clear hok ht
    go_enter Tryz.func31, Tryz.ntmps31
    go_wp2_with (go_at_call 61; refine (implDiskOk_any d l _ hd (ha.grow hA)).mono ?_; rintro e w2 ⟨rfl, hb2⟩; rw [hok'.out]; have hR2 := hR0.grow hb2; obtain ⟨_, r0, r1, r2, r3, r4, r5, r6, rf_⟩ := id hR2)
    obtain ⟨hV9, hK9⟩ := hR2.put (.int .i64 0) (.int .i64 0) (.int .i64 0) (.int .i64 0) (.string ⟨#[]⟩) (.int .i64 0) (.slice none 0 0)
    generalize (((((((w2.setCell ⟨w.heap.size + 1, 0, none⟩ (.int .i64 0)).setCell ⟨w.heap.size + 1, 1, none⟩ (.int .i64 0)).setCell ⟨w.heap.size + 1, 2, none⟩ (.int .i64 0)).setCell ⟨w.heap.size + 1, 3, none⟩ (.int .i64 0)).setCell ⟨w.heap.size + 1, 4, none⟩ (.string ⟨#[]⟩)).setCell ⟨w.heap.size + 1, 5, none⟩ (.int .i64 0)).setCell ⟨w.heap.size + 1, 6, none⟩ (.slice none 0 0)) = w9 at hV9 hK9 ⊢
    obtain ⟨_, q0, q1, q2, q3, q4, q5, q6, _⟩ := id hV9
    exact bodyPost_ret (v := .tuple #[(TK.mk 0 0 zeroG).val none 0, .iface 118 (.agg #[.int .i64 3, .int .i64 0])]) (by simp [results, Tryz.results31, go_sem, q0, q1, q2, q3, q4, q5, q6, zeroG]) rfl ⟨(gca hA hb2).trans (hK9.below (gca hA hb2).size (fun z hz e => by omega)), Or.inr ⟨by rw [ht'.out], by rw [ht'.out]⟩⟩
  | true =>
    have hok' : Hid _ := hok
    have hf := DD.fit hok
    obtain ⟨k, hk⟩ := hid_ex d.newestOf
    have hne : d.newest = k := by rw [hk.out]; exact if_pos hok
    cases hko : k.ok with
    | false =>
      have ht : d.takeT = ⟨1, 0, zeroG⟩ := (if_neg (by rw [hok]; simp)).trans (if_pos (by rw [← hk.out]; exact hko))
      have ht' : Hid _ := ht
      have hko' : Hid _ := hko
      clear hok ht hko
      go_enter Tryz.func31, Tryz.ntmps31
      go_upto_region 4 with (first
        | (go_at_call 61; refine (implDiskOk_any d l _ hd (ha.grow hA)).mono ?_; rintro e w2 ⟨rfl, hb2⟩; rw [hok'.out]; obtain ⟨_, x0, x1⟩ := hX0.grow hb2)
        | (go_at_call 62; refine (implNewest_any d l _ hd (ha.grow (gca hA hb2))).mono ?_; rw [hne]; rintro e w3 ⟨oa, oc, rfl, hcp, hM3, hb3⟩))
      have hV4 := V4.new_at w3 (.bool k.ok) (.int .i64 k.gen) (.int .i64 k.slot) (.slice oa k.bytes.length oc) 60 w3.heap.size rfl
      have hb4 := gal (gca (gca hA hb2) hb3) (.cells #[.bool k.ok, .int .i64 k.gen, .int .i64 k.slot, .slice oa k.bytes.length oc] 60)
      have hR4 := (hR0.grow hb2).grow (gal hb3 (.cells #[.bool k.ok, .int .i64 k.gen, .int .i64 k.slot, .slice oa k.bytes.length oc] 60))
      generalize w3.alloc (.cells #[.bool k.ok, .int .i64 k.gen, .int .i64 k.slot, .slice oa k.bytes.length oc] 60) = w4 at hV4 hb4 hR4 ⊢
      rw [hko'.out] at hV4
      obtain ⟨_, v0, v1, v2, v3, vf⟩ := id hV4
      obtain ⟨_, r0, r1, r2, r3, r4, r5, r6, rf_⟩ := id hR4
      clear x0 x1
      go_wp2
      obtain ⟨hV9, hK9⟩ := hR4.put (.int .i64 0) (.int .i64 0) (.int .i64 0) (.int .i64 0) (.string ⟨#[]⟩) (.int .i64 0) (.slice none 0 0)
      generalize (((((((w4.setCell ⟨w.heap.size + 1, 0, none⟩ (.int .i64 0)).setCell ⟨w.heap.size + 1, 1, none⟩ (.int .i64 0)).setCell ⟨w.heap.size + 1, 2, none⟩ (.int .i64 0)).setCell ⟨w.heap.size + 1, 3, none⟩ (.int .i64 0)).setCell ⟨w.heap.size + 1, 4, none⟩ (.string ⟨#[]⟩)).setCell ⟨w.heap.size + 1, 5, none⟩ (.int .i64 0)).setCell ⟨w.heap.size + 1, 6, none⟩ (.slice none 0 0)) = w9 at hV9 hK9 ⊢
      obtain ⟨_, q0, q1, q2, q3, q4, q5, q6, _⟩ := id hV9
      exact bodyPost_ret (v := .tuple #[(TK.mk 0 0 zeroG).val none 0, .iface 118 (.agg #[.int .i64 1, .int .i64 0])]) (by simp [results, Tryz.results31, go_sem, q0, q1, q2, q3, q4, q5, q6, zeroG]) rfl ⟨hb4.trans (hK9.below hb4.size (fun z hz e => by omega)), Or.inr ⟨by rw [ht'.out], by rw [ht'.out]⟩⟩
    | true =>
      obtain ⟨ok, hbo⟩ := hid_ex (unB k.bytes).1
      obtain ⟨u, hu⟩ := hid_ex (unB k.bytes).2
      have hkb := newest_byteT hf hd
      rw [← hk.out] at hkb
      obtain ⟨hkb1, hkb2⟩ := hkb
      have hcp0 : True := trivial
      have hko' : Hid _ := hko
      go_enter Tryz.func31, Tryz.ntmps31
      go_upto_region 7 with (first
        | (go_at_call 61; refine (implDiskOk_any d l _ hd (ha.grow hA)).mono ?_; rintro e w2 ⟨rfl, hb2⟩; rw [hok'.out]; obtain ⟨_, x0, x1⟩ := hX0.grow hb2)
        | (go_at_call 62; refine (implNewest_any d l _ hd (ha.grow (gca hA hb2))).mono ?_; rw [hne]; rintro e w3 ⟨oa, oc, rfl, hcp, hM3, hb3⟩)
        | (go_at_call 63; refine (implUnpack_any oa oc k.bytes _ ((mb_atT hM3).grow (gal (gre _) (.cells #[.bool true, .int .i64 k.gen, .int .i64 k.slot, .slice oa k.bytes.length oc] 60))) hcp.out (by omega) hkb1).mono ?_; rintro e w5 ⟨ua, uc, ul, rfl, hul, huO, hb5⟩; rw [← hu.out] at hul; rw [← hbo.out, ← hu.out]))
      have hV4 := V4.new_at w3 (.bool true) (.int .i64 k.gen) (.int .i64 k.slot) (.slice oa k.bytes.length oc) 60 w3.heap.size rfl
      have hb4 := gal (gca (gca hA hb2) hb3) (.cells #[.bool true, .int .i64 k.gen, .int .i64 k.slot, .slice oa k.bytes.length oc] 60)
      have hR4 := (hR0.grow hb2).grow (gal hb3 (.cells #[.bool true, .int .i64 k.gen, .int .i64 k.slot, .slice oa k.bytes.length oc] 60))
      have hs3 : w3.heap.size < (w3.alloc (.cells #[.bool true, .int .i64 k.gen, .int .i64 k.slot, .slice oa k.bytes.length oc] 60)).heap.size := by simp
      generalize w3.alloc (.cells #[.bool true, .int .i64 k.gen, .int .i64 k.slot, .slice oa k.bytes.length oc] 60) = w4 at hV4 hb4 hR4 hb5 huO hs3 ⊢
      have hRP : w.heap.size + 1 < w3.heap.size := ((hR0.grow hb2).grow hb3).lt
      generalize w3.heap.size = PK at hV4 hs3 hRP ⊢
      have hS6 := Six.new w5 ok u.root (.slice ua u.nodes.length uc) 63
      have hb6 := gal hb5 (.cells #[.bool ok, .int .i64 u.root.kind, .int .i64 u.root.num, .string u.root.text, .int .i64 u.root.node, .slice ua u.nodes.length uc] 63)
      have hV6 := hV4.grow hb6
      have hR6 := hR4.grow hb6
      have hA6 := gca hb4 hb6
      have huO6 := huO.kept ((Kept.refl (fun _ => False) w5).alloc (.cells #[.bool ok, .int .i64 u.root.kind, .int .i64 u.root.num, .string u.root.text, .int .i64 u.root.node, .slice ua u.nodes.length uc] 63)) (fun _ _ e => e) (fun _ _ _ _ e => e)
      have hs45 := hb5.size
      generalize w5.alloc (.cells #[.bool ok, .int .i64 u.root.kind, .int .i64 u.root.num, .string u.root.text, .int .i64 u.root.node, .slice ua u.nodes.length uc] 63) = w6 at hS6 hb6 hV6 hR6 hA6 huO6 ⊢
      generalize w5.heap.size = PU at hS6 hs45 ⊢
      obtain ⟨_, v0, v1, v2, v3, vf⟩ := id hV6
      obtain ⟨_, s0, s1, s2, s3, s4, s5, sf⟩ := id hS6
      obtain ⟨_, r0, r1, r2, r3, r4, r5, r6, rf_⟩ := id hR6
      have hRl := hR4.lt
      cases ok with
      | false =>
        have ht : d.takeT = ⟨2, k.gen, zeroG⟩ := (if_neg (by rw [hok]; simp)).trans ((if_neg (by rw [← hk.out, hko]; simp)).trans ((if_pos (by rw [← hk.out]; exact hbo.out.symm)).trans (by rw [← hk.out])))
        have ht' : Hid _ := ht
        clear ht hok hko
        go_upto_region 8 with fail
        have hS0 : V4 w6.drew PK (.bool true) (.int .i64 k.gen) (.int .i64 k.slot) (.slice oa k.bytes.length oc) := hV6.grow (gdr (gre _))
        have hRd := hR6.grow (gdr (gre _))
        refine wp_regionU (fun u => V4 u PK (.bool true) (.int .i64 k.gen) (.int .i64 k.slot) (.slice oa k.bytes.length oc)) 99 (by kernel_rfl) hS0 (fun _ => ?_)
        have hAd : Below w.heap.size w w6.drew := gdr hA6
        generalize w6.drew = wd at hS0 hRd hAd ⊢
        refine anyU_take (i := 0) (v := ?_) rfl (by kernel_rfl) (by kernel_rfl) (by kernel_rfl) (by kernel_rfl) (fun _ _ _ h => h) (Or.inl ⟨by rfl, ?_⟩) hS0 ?_
        rotate_left
        · intro u hSu; obtain ⟨_, s0, s1, s2, s3, _⟩ := hSu; go_simp <;> with_reducible rfl
        simp only [Act.put, List.getElem_toArray, List.getElem_cons_zero, List.setIfInBounds_toArray, List.set_cons_zero, List.set_cons_succ]
        refine anyU_take (i := 1) (v := ?_) rfl (by kernel_rfl) (by kernel_rfl) (by kernel_rfl) (by kernel_rfl) (fun _ _ _ h => h) (Or.inl ⟨by rfl, ?_⟩) hS0 ?_
        rotate_left
        · intro u hSu; obtain ⟨_, s0, s1, s2, s3, _⟩ := hSu; go_simp <;> with_reducible rfl
        simp only [Act.put, List.getElem_toArray, List.getElem_cons_zero, List.getElem_cons_succ, List.setIfInBounds_toArray, List.set_cons_zero, List.set_cons_succ]
        refine anyU_take (i := 2) (v := ?_) rfl (by kernel_rfl) (by kernel_rfl) (by kernel_rfl) (by kernel_rfl) (fun _ _ _ h => h) (Or.inl ⟨by rfl, ?_⟩) hS0 ?_
        rotate_left
        · intro u hSu; obtain ⟨_, s0, s1, s2, s3, _⟩ := hSu; go_simp <;> with_reducible rfl
        simp only [Act.put, List.getElem_toArray, List.getElem_cons_zero, List.getElem_cons_succ, List.setIfInBounds_toArray, List.set_cons_zero, List.set_cons_succ]
        refine anyU_take (i := 3) (v := ?_) rfl (by kernel_rfl) (by kernel_rfl) (by kernel_rfl) (by kernel_rfl) (fun _ _ _ h => h) (Or.inl ⟨by rfl, ?_⟩) hS0 ?_
        rotate_left
        · intro u hSu; obtain ⟨_, s0, s1, s2, s3, _⟩ := hSu; go_simp <;> with_reducible rfl
        simp only [Act.put, List.getElem_toArray, List.getElem_cons_zero, List.getElem_cons_succ, List.setIfInBounds_toArray, List.set_cons_zero, List.set_cons_succ]
        refine anyU_take (i := 4) (v := ?_) rfl (by kernel_rfl) (by kernel_rfl) (by kernel_rfl) (by kernel_rfl) (fun _ _ _ h => h) (Or.inl ⟨by rfl, ?_⟩) hS0 ?_
        rotate_left
        · intro u hSu; obtain ⟨_, s0, s1, s2, s3, _⟩ := hSu; go_simp <;> with_reducible rfl
        simp only [Act.put, List.getElem_toArray, List.getElem_cons_zero, List.getElem_cons_succ, List.setIfInBounds_toArray, List.set_cons_zero, List.set_cons_succ]
        obtain ⟨_, d0, d1, d2, d3, d4, d5, d6, df_⟩ := id hRd
        refine anyU_one (i := 5) (by kernel_rfl) rfl (fun K hK => ?_)
        go_simp
        obtain ⟨hV9, hK9⟩ := hRd.put (.int .i64 0) (.int .i64 0) (.int .i64 0) (.int .i64 0) (.string ⟨#[]⟩) (.int .i64 0) (.slice none 0 0)
        refine hK.out _ _ (hS0.kept hK9 (by omega)) ?_
        clear hK
        have hS9 := hS0.kept hK9 (by omega)
        generalize (((((((wd.setCell ⟨w.heap.size + 1, 0, none⟩ (.int .i64 0)).setCell ⟨w.heap.size + 1, 1, none⟩ (.int .i64 0)).setCell ⟨w.heap.size + 1, 2, none⟩ (.int .i64 0)).setCell ⟨w.heap.size + 1, 3, none⟩ (.int .i64 0)).setCell ⟨w.heap.size + 1, 4, none⟩ (.string ⟨#[]⟩)).setCell ⟨w.heap.size + 1, 5, none⟩ (.int .i64 0)).setCell ⟨w.heap.size + 1, 6, none⟩ (.slice none 0 0)) = w9 at hV9 hK9 hS9 ⊢
        refine anyU_one (i := 6) (by kernel_rfl) rfl (fun K hK => ?_)
        go_simp
        refine hK.out _ _ hS9 ?_
        clear hK
        refine anyU_done (by kernel_rfl) ?_
        go_wp2
        obtain ⟨_, q0, q1, q2, q3, q4, q5, q6, _⟩ := id hV9
        exact bodyPost_ret (v := .tuple #[(TK.mk 0 0 zeroG).val none 0, .iface 118 (.agg #[.int .i64 2, .int .i64 k.gen])]) (by simp [results, Tryz.results31, go_sem, q0, q1, q2, q3, q4, q5, q6, zeroG]) rfl ⟨hAd.trans (hK9.below hAd.size (fun z hz e => by omega)), Or.inr ⟨by rw [ht'.out], by rw [ht'.out]⟩⟩
      | true =>
        have ht : d.takeT = ⟨0, k.gen, u⟩ := (if_neg (by rw [hok]; simp)).trans ((if_neg (by rw [← hk.out, hko]; simp)).trans ((if_neg (by rw [← hk.out, ← hbo.out]; simp)).trans (by rw [← hk.out, ← hu.out])))
        have ht' : Hid _ := ht
        clear ht hok hko
        go_wp2
        obtain ⟨hV9, hK9⟩ := hR6.put (.int .i64 0) (.int .i64 k.gen) (.int .i64 u.root.kind) (.int .i64 u.root.num) (.string u.root.text) (.int .i64 u.root.node) (.slice ua u.nodes.length uc)
        have hO9 := huO6.kept hK9 (fun j e hp => by have := (huO.nodes.lt j (by rw [e]; rfl)).1; omega) (fun x hx j e hp => by have := ((huO.vals x hx).lt j (by rw [e]; rfl)).1; omega)
        generalize (((((((w6.setCell ⟨w.heap.size + 1, 0, none⟩ (.int .i64 0)).setCell ⟨w.heap.size + 1, 1, none⟩ (.int .i64 k.gen)).setCell ⟨w.heap.size + 1, 2, none⟩ (.int .i64 u.root.kind)).setCell ⟨w.heap.size + 1, 3, none⟩ (.int .i64 u.root.num)).setCell ⟨w.heap.size + 1, 4, none⟩ (.string u.root.text)).setCell ⟨w.heap.size + 1, 5, none⟩ (.int .i64 u.root.node)).setCell ⟨w.heap.size + 1, 6, none⟩ (.slice ua u.nodes.length uc)) = w9 at hV9 hK9 hO9 ⊢
        obtain ⟨_, q0, q1, q2, q3, q4, q5, q6, _⟩ := id hV9
        exact bodyPost_ret (v := .tuple #[(TK.mk 0 k.gen u).val ua uc, .nilIface]) (by simp [results, Tryz.results31, go_sem, q0, q1, q2, q3, q4, q5, q6]) rfl ⟨hA6.trans (hK9.below hA6.size (fun z hz e => by omega)), Or.inl ⟨ua, uc, ul, by rw [ht'.out], by rw [ht'.out], by rw [ht'.out]; exact hul, hO9.le (by have := hb4.size; omega)⟩⟩

end Go.Proofs.YthjddpkegooobacGreatDoor

/-
  TAKEC: Take. Own work.
-/
namespace Go.Proofs.YthjddpkegooobacGreatDoor
open Go.RowKit

/-- what is taken up, in memory of its own -/
def TPo (t : TK) (w : World) (e : Ending) (w' : World) : Prop := ∃ na nc nl, e = .returned (t.val na nc) ∧ nl.map (·.n) = t.g.nodes ∧ OwnG w' w.heap.size na nc nl ∧ Below w.heap.size w w'

set_option maxHeartbeats 4000000 in
set_option maxRecDepth 100000 in
theorem implTake_any (d : DD) (l : DL) (w : World) (hd : d.Ok) (ha : DAt w l d) (hg : w.cell? ⟨0, 0, none⟩ = some (.iface 204 (.agg #[.pointer (some ⟨1, 69, none⟩)]))) : Calls Tryz.prog 8 #[d.val l] w (TPo d.takeT w) := by
  have hA := gal (gal (gre w) (.cells #[.slice l.ba d.blocks.length l.bc, .slice l.wa d.waiting.length l.wc] 37)) (.cells #[.int .i64 0, .int .i64 0, .int .i64 0, .int .i64 0, .string ⟨#[]⟩, .int .i64 0, .slice none 0 0] 33)
  have hX0 := (DBox.new w d l 37).grow (gal (gre _) (.cells #[.int .i64 0, .int .i64 0, .int .i64 0, .int .i64 0, .string ⟨#[]⟩, .int .i64 0, .slice none 0 0] 33))
  have hR0 := V7.new_at (w.alloc (.cells #[.slice l.ba d.blocks.length l.bc, .slice l.wa d.waiting.length l.wc] 37)) (.int .i64 0) (.int .i64 0) (.int .i64 0) (.int .i64 0) (.string ⟨#[]⟩) (.int .i64 0) (.slice none 0 0) 33 (w.heap.size + 1) (by simp)
  obtain ⟨t, ht⟩ := hid_ex d.takeT
  go_enter Tryz.func8, Tryz.ntmps8
  go_upto_region 1 with fail
  generalize (w.alloc (.cells #[.slice l.ba d.blocks.length l.bc, .slice l.wa d.waiting.length l.wc] 37)).alloc (.cells #[.int .i64 0, .int .i64 0, .int .i64 0, .int .i64 0, .string ⟨#[]⟩, .int .i64 0, .slice none 0 0] 33) = w1 at hA hX0 hR0 ⊢
  obtain ⟨_, x0, x1⟩ := id hX0
  have hR1l := hR0.lt
  have htu := takeUp_any d l w1 hd (ha.grow hA)
  unfold TUp at htu
  rw [← ht.out] at htu ⊢
  go_wp2_with (go_at_call 31; refine htu.mono ?_; rintro e w2 ⟨hb2, ⟨na, nc, nl, hc0, rfl, hnl, hO2⟩ | ⟨hz, rfl⟩⟩)
  · clear hc0
    refine (answered_nil t na nc w2).mono ?_
    rintro e w3 ⟨rfl, hb3⟩
    have hR3 := (hR0.grow hb2).grow hb3
    have hA3 := gca (gca hA hb2) hb3
    obtain ⟨_, r0, r1, r2, r3, r4, r5, r6, rf_⟩ := id hR3
    go_wp2
    obtain ⟨hV9, hK9⟩ := hR3.put (.int .i64 t.code) (.int .i64 t.gen) (.int .i64 t.g.root.kind) (.int .i64 t.g.root.num) (.string t.g.root.text) (.int .i64 t.g.root.node) (.slice na t.g.nodes.length nc)
    have hs12 := hb2.size
    have hO9 := (hO2.kept (Kept.of_below hb3 (fun _ => False)) (fun _ _ e => e) (fun _ _ _ _ e => e)).kept hK9 (fun j e hp => by have := (hO2.nodes.lt j (by rw [e]; rfl)).1; omega) (fun x hx j e hp => by have := ((hO2.vals x hx).lt j (by rw [e]; rfl)).1; omega)
    generalize (((((((w3.setCell ⟨w.heap.size + 1, 0, none⟩ (.int .i64 t.code)).setCell ⟨w.heap.size + 1, 1, none⟩ (.int .i64 t.gen)).setCell ⟨w.heap.size + 1, 2, none⟩ (.int .i64 t.g.root.kind)).setCell ⟨w.heap.size + 1, 3, none⟩ (.int .i64 t.g.root.num)).setCell ⟨w.heap.size + 1, 4, none⟩ (.string t.g.root.text)).setCell ⟨w.heap.size + 1, 5, none⟩ (.int .i64 t.g.root.node)).setCell ⟨w.heap.size + 1, 6, none⟩ (.slice na t.g.nodes.length nc)) = w9 at hV9 hK9 hO9 ⊢
    obtain ⟨_, q0, q1, q2, q3, q4, q5, q6, _⟩ := id hV9
    exact bodyPost_ret (v := t.val na nc) (by simp [results, Tryz.results8, go_sem, q0, q1, q2, q3, q4, q5, q6]) rfl (by rw [← ht.out]; exact ⟨na, nc, nl, rfl, hnl, hO9.le (by have := hA.size; omega), hA3.trans (hK9.below hA3.size (fun z hz e => by omega))⟩)
  · have hz' : Hid (t.g = zeroG) := hz
    clear hz
    refine (answered_hit ⟨0, 0, zeroG⟩ none 0 t.code t.gen w2 (cell_later (gca hA hb2) hg)).mono ?_
    rintro e w3 ⟨rfl, hb3⟩
    have hR3 := (hR0.grow hb2).grow hb3
    have hA3 := gca (gca hA hb2) hb3
    obtain ⟨_, r0, r1, r2, r3, r4, r5, r6, rf_⟩ := id hR3
    go_wp2
    obtain ⟨hV9, hK9⟩ := hR3.put (.int .i64 t.code) (.int .i64 t.gen) (.int .i64 zeroG.root.kind) (.int .i64 zeroG.root.num) (.string zeroG.root.text) (.int .i64 zeroG.root.node) (.slice none zeroG.nodes.length 0)
    generalize (((((((w3.setCell ⟨w.heap.size + 1, 0, none⟩ (.int .i64 t.code)).setCell ⟨w.heap.size + 1, 1, none⟩ (.int .i64 t.gen)).setCell ⟨w.heap.size + 1, 2, none⟩ (.int .i64 zeroG.root.kind)).setCell ⟨w.heap.size + 1, 3, none⟩ (.int .i64 zeroG.root.num)).setCell ⟨w.heap.size + 1, 4, none⟩ (.string zeroG.root.text)).setCell ⟨w.heap.size + 1, 5, none⟩ (.int .i64 zeroG.root.node)).setCell ⟨w.heap.size + 1, 6, none⟩ (.slice none zeroG.nodes.length 0)) = w9 at hV9 hK9 ⊢
    obtain ⟨_, q0, q1, q2, q3, q4, q5, q6, _⟩ := id hV9
    exact bodyPost_ret (v := t.val none 0) (by simp [results, Tryz.results8, go_sem, q0, q1, q2, q3, q4, q5, q6, hz'.out]) rfl (by rw [← ht.out]; exact ⟨none, 0, [], rfl, by rw [hz'.out]; rfl, own_nil _ _, hA3.trans (hK9.below hA3.size (fun z hz e => by omega))⟩)

end Go.Proofs.YthjddpkegooobacGreatDoor
