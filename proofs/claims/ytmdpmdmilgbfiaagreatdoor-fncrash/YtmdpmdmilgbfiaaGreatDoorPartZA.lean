import Derived.WalkKit
import Derived.LaidEql
import Derived.Stop.Asserts
import Derived.RowKitTokens
import Derived.Test.YtmdpmdmilgbfiaaGreatDoorPartJ

namespace Go.Proofs.YtmdpmdmilgbfiaaGreatDoor
open Go.RowKit Go.Extern.Stop Go.Stop Go.Extern

theorem as_nilR (t : Value) (w : World) : Calls Tryz.prog 72 #[.nilIface, t] w fun e w' => e = .returned (.bool false) ∧ w' = w := by
  go_enter Tryz.func72, Tryz.ntmps72
  go_wp2
  go_ret
  exact ⟨rfl, rfl⟩

theorem asValueOfP (t : Addr) (w : World) : (ReflectliteValue.unpack (.iface 134 (.pointer (some t)))).run Tryz.prog w
    = .ok (.agg #[.pointer (some ⟨1, 134, none⟩), .pointer (some ⟨w.heap.size, 0, none⟩), .int .u64 150]) (w.alloc (.cells #[.pointer (some t)] 134)) := by kernel_rfl
theorem asTypeP (a : Addr) (w : World) : (ReflectliteValue.methodAny (ReflectliteValue.valueError "reflectlite.Value.Type" 0) (fun t _ _ _ => ReflectliteType.toType t) #[.agg #[.pointer (some ⟨1, 134, none⟩), .pointer (some a), .int .u64 150]]).run Tryz.prog w
    = .ok (.iface 211 (.agg #[.pointer (some ⟨1, 134, none⟩)])) w := by kernel_rfl
theorem asMKind (h : Value) (w : World) : (Go.method 364 211 (.agg #[h]) "Kind").run Tryz.prog w = .ok (167, h) w := by kernel_rfl
theorem asKindP (w : World) : ((ReflectliteType.abiMethod fun t => (fun a : Nat => Value.int IntKind.u8 (a : Int)) <$> Rtype.kind t) #[.pointer (some ⟨1, 134, none⟩)]).run Tryz.prog w = .ok (.int .u8 22) w := by kernel_rfl
theorem asKindR (w : World) : ((ReflectliteType.abiMethod fun t => (fun a : Nat => Value.int IntKind.u8 (a : Int)) <$> Rtype.kind t) #[.pointer (some ⟨1, 132, none⟩)]).run Tryz.prog w = .ok (.int .u8 25) w := by kernel_rfl

theorem asRlm (z : Sem Value) (f : TypeId → Addr → Nat → Nat → Sem Value) (v : Value) :
    ReflectliteValue.method z f #[v] = (do match ← ReflectliteValue.parts v with | none => z | some (t, a, fl) => f t a fl (fl % 32)) := rfl
theorem asPartsP (a : Addr) (w : World) : (ReflectliteValue.parts (.agg #[.pointer (some ⟨1, 134, none⟩), .pointer (some a), .int .u64 150])).run Tryz.prog w = .ok (some (134, a, 150)) w := by kernel_rfl
theorem asIsNilP (a p : Addr) (W : World) (ha : W.cell? a = some (.pointer (some p))) :
    (ReflectliteValue.method (ReflectliteValue.valueError "reflectlite.Value.IsNil" 0) ReflectliteValue.isNil #[.agg #[.pointer (some ⟨1, 134, none⟩), .pointer (some a), .int .u64 150]]).run Tryz.prog W = .ok (.bool false) W := by
  rw [asRlm]
  simp only [Sem.run_bind, asPartsP, Result.andThen]
  simp [ReflectliteValue.isNil, loadVar, isAgg, underlying, Tryz.underlying134, ha, Result.andThen]

theorem asMElem (h : Value) (w : World) : (Go.method 364 211 (.agg #[h]) "Elem").run Tryz.prog w = .ok (179, .agg #[h]) w := by kernel_rfl
theorem asMImpl (h : Value) (w : World) : (Go.method 364 211 (.agg #[h]) "Implements").run Tryz.prog w = .ok (180, .agg #[h]) w := by kernel_rfl
theorem asMAss (h : Value) (w : World) : (Go.method 364 211 (.agg #[h]) "AssignableTo").run Tryz.prog w = .ok (177, .agg #[h]) w := by kernel_rfl
theorem asElemP (w : World) : (ReflectliteType.method ReflectliteType.elem #[.agg #[.pointer (some ⟨1, 134, none⟩)]]).run Tryz.prog w = .ok (.iface 211 (.agg #[.pointer (some ⟨1, 132, none⟩)])) w := by kernel_rfl
theorem asImplR (w : World) : (ReflectliteType.relation "Implements" ReflectliteType.implements_ #[.agg #[.pointer (some ⟨1, 132, none⟩)], .iface 211 (.agg #[.pointer (some ⟨1, 80, none⟩)])]).run Tryz.prog w = .ok (.bool true) w := by kernel_rfl
theorem asTypeOfR (v : Value) (w : World) : (ReflectliteType.typeOf #[.iface 132 v]).run Tryz.prog w = .ok (.iface 211 (.agg #[.pointer (some ⟨1, 132, none⟩)])) w := by kernel_rfl
theorem asAssR (w : World) : (ReflectliteType.relation "AssignableTo" ReflectliteType.assignableTo #[.agg #[.pointer (some ⟨1, 132, none⟩)], .iface 211 (.agg #[.pointer (some ⟨1, 132, none⟩)])]).run Tryz.prog w = .ok (.bool true) w := by kernel_rfl
theorem asValueOfR (x y : Int) (w : World) : (ReflectliteValue.unpack (.iface 132 (.agg #[.int .i64 x, .int .i64 y]))).run Tryz.prog w
    = .ok (.agg #[.pointer (some ⟨1, 132, none⟩), .pointer (some ⟨w.heap.size, 0, none⟩), .int .u64 153]) (w.alloc (.cells #[.int .i64 x, .int .i64 y] 132)) := by kernel_rfl
theorem asElemOfP (w : World) : (Rtype.elem? 134).run Tryz.prog w = .ok (some 132) w := by kernel_rfl
theorem asMkR (p : Addr) (w : World) : (ReflectliteValue.mk 132 p ReflectliteValue.flagAddr).run Tryz.prog w = .ok (.agg #[.pointer (some ⟨1, 132, none⟩), .pointer (some p), .int .u64 409]) w := by kernel_rfl
theorem asElemVP (a p : Addr) (W : World) (ha : W.cell? a = some (.pointer (some p))) :
    (ReflectliteValue.method (ReflectliteValue.valueError "reflectlite.Value.Elem" 0) ReflectliteValue.elem #[.agg #[.pointer (some ⟨1, 134, none⟩), .pointer (some a), .int .u64 150]]).run Tryz.prog W
      = .ok (.agg #[.pointer (some ⟨1, 132, none⟩), .pointer (some p), .int .u64 409]) W := by
  rw [asRlm]
  simp only [Sem.run_bind, asPartsP, Result.andThen]
  simp [ReflectliteValue.elem, loadVar, isAgg, underlying, Tryz.underlying134, ha, Result.andThen, asElemOfP, asMkR]
theorem asRls (v x : Value) : ReflectliteValue.set #[v, x] = (do
    let (some (dst, a, fl), some (src, b, _)) := (← ReflectliteValue.parts v, ← ReflectliteValue.parts x)
      | unsupported (.noEntry "extern/(internal/reflectlite.Value).Set.zeroValue")
    if fl / ReflectliteValue.flagAddr % 2 == 0 then unsupported (.noEntry "extern/(internal/reflectlite.Value).Set.unaddressable")
    let val ← loadVar src b
    if ← Rtype.directlyAssignable dst src then storeVar dst a val
    else if ← Rtype.implements dst src then
      if (← Rtype.kind src) == 20 then
        match val with
        | .nilIface => unsupported (.noEntry "extern/reflectlite: a nil value of one interface type handed on as a value of another")
        | _ => storeVar dst a val
      else storeVar dst a (.iface src val)
    else panicString ("reflectlite.Set: value of type " ++ (← Rtype.spelt src) ++ " is not assignable to type " ++ (← Rtype.spelt dst))
    pure (.tuple #[])) := rfl
theorem asPartsRa (a : Addr) (w : World) : (ReflectliteValue.parts (.agg #[.pointer (some ⟨1, 132, none⟩), .pointer (some a), .int .u64 409])).run Tryz.prog w = .ok (some (132, a, 409)) w := by kernel_rfl
theorem asPartsR (a : Addr) (w : World) : (ReflectliteValue.parts (.agg #[.pointer (some ⟨1, 132, none⟩), .pointer (some a), .int .u64 153])).run Tryz.prog w = .ok (some (132, a, 153)) w := by kernel_rfl
theorem asDirectR (w : World) : (Rtype.directlyAssignable 132 132).run Tryz.prog w = .ok true w := by kernel_rfl
theorem asSetR (T B : Nat) (x y : Int) (o0 o1 : Value) (W : World) (hb0 : W.cell? ⟨B, 0, none⟩ = some (.int .i64 x)) (hb1 : W.cell? ⟨B, 1, none⟩ = some (.int .i64 y)) (ht0 : W.cell? ⟨T, 0, none⟩ = some o0) (ht1 : W.cell? ⟨T, 1, none⟩ = some o1) (hf : ∀ o, W.frozen? ⟨T, o, none⟩ = false) :
    (ReflectliteValue.set #[.agg #[.pointer (some ⟨1, 132, none⟩), .pointer (some ⟨T, 0, none⟩), .int .u64 409], .agg #[.pointer (some ⟨1, 132, none⟩), .pointer (some ⟨B, 0, none⟩), .int .u64 153]]).run Tryz.prog W
      = .ok (.tuple #[]) ((W.setCell ⟨T, 0, none⟩ (.int .i64 x)).setCell ⟨T, 1, none⟩ (.int .i64 y)) := by
  rw [asRls]
  simp only [Sem.run_bind, asPartsRa, asPartsR, Result.andThen]
  simp [ReflectliteValue.flagAddr, loadVar, isAgg, underlying, Tryz.underlying132, Result.andThen, asDirectR, storeVar, Value.cells, storeCells, Addr.add]
  have hL : (loadCells ⟨B, 0, none⟩ 2).run Tryz.prog W = .ok #[.int .i64 x, .int .i64 y] W := by
    simp [loadCells, loadCellsFrom, Sem.run_bind, hb0, hb1, Result.andThen, Addr.add]
  rw [hL]
  have h1 : (W.setCell ⟨T, 0, none⟩ (.int .i64 x)).cell? ⟨T, 1, none⟩ = some o1 := by rw [World.cell?_setCell_other _ _ _ _ (by simp)]; exact ht1
  simp [storeCells, Sem.run_bind, Addr.add]
  rw [run_store Tryz.prog W ⟨T, 0, none⟩ _ _ (by rfl)]
  simp [ht0, hf]
  rw [run_store Tryz.prog _ ⟨T, 1, none⟩ _ _ (by rfl)]
  simp [h1, hf]

def AsHit (T : Nat) (x y : Int) (w : World) (e : Ending) (w' : World) : Prop := e = .returned (.bool true) ∧ Kept (fun z => z = T) w w' ∧ w'.cell? ⟨T, 0, none⟩ = some (.int .i64 x) ∧ w'.cell? ⟨T, 1, none⟩ = some (.int .i64 y)

set_option maxHeartbeats 4000000 in
set_option maxRecDepth 100000 in
theorem as_hitR (T : Nat) (x y : Int) (o0 o1 : Value) (w : World) (hg : w.cell? ⟨0, 0, none⟩ = some (.iface 211 (.agg #[.pointer (some ⟨1, 80, none⟩)]))) (ht0 : w.cell? ⟨T, 0, none⟩ = some o0) (ht1 : w.cell? ⟨T, 1, none⟩ = some o1) (hf : ∀ o, w.frozen? ⟨T, o, none⟩ = false) :
    Calls Tryz.prog 72 #[.iface 132 (.agg #[.int .i64 x, .int .i64 y]), .iface 134 (.pointer (some ⟨T, 0, none⟩))] w (AsHit T x y w) := by
  have h6 := @run_callFunc_extern Tryz.prog 115 _ (fun args => ReflectliteValue.unpack (args.getD 0 (.tuple #[]))) Tryz.func115 (by kernel_rfl) (by kernel_rfl) (by kernel_rfl) (by kernel_rfl)
  have h7 := @run_callFunc_extern Tryz.prog 116 _ (ReflectliteValue.methodAny (ReflectliteValue.valueError "reflectlite.Value.Type" 0) (fun t _ _ _ => ReflectliteType.toType t)) Tryz.func116 (by kernel_rfl) (by kernel_rfl) (by kernel_rfl) (by kernel_rfl)
  have h8 := @run_callFunc_extern Tryz.prog 117 _ (ReflectliteValue.method (ReflectliteValue.valueError "reflectlite.Value.IsNil" 0) ReflectliteValue.isNil) Tryz.func117 (by kernel_rfl) (by kernel_rfl) (by kernel_rfl) (by kernel_rfl)
  have h27 := @run_callFunc_extern Tryz.prog 167 _ (ReflectliteType.abiMethod fun t => do pure (.int .u8 (← Rtype.kind t))) Tryz.func167 (by kernel_rfl) (by kernel_rfl) (by kernel_rfl) (by kernel_rfl)
  have h37 := @run_callFunc_extern Tryz.prog 179 _ (ReflectliteType.method ReflectliteType.elem) Tryz.func179 (by kernel_rfl) (by kernel_rfl) (by kernel_rfl) (by kernel_rfl)
  have h38 := @run_callFunc_extern Tryz.prog 180 _ (ReflectliteType.relation "Implements" ReflectliteType.implements_) Tryz.func180 (by kernel_rfl) (by kernel_rfl) (by kernel_rfl) (by kernel_rfl)
  have h10 := @run_callFunc_extern Tryz.prog 140 _ (ReflectliteType.typeOf) Tryz.func140 (by kernel_rfl) (by kernel_rfl) (by kernel_rfl) (by kernel_rfl)
  have h35 := @run_callFunc_extern Tryz.prog 177 _ (ReflectliteType.relation "AssignableTo" ReflectliteType.assignableTo) Tryz.func177 (by kernel_rfl) (by kernel_rfl) (by kernel_rfl) (by kernel_rfl)
  have h11 := @run_callFunc_extern Tryz.prog 141 _ (ReflectliteValue.method (ReflectliteValue.valueError "reflectlite.Value.Elem" 0) ReflectliteValue.elem) Tryz.func141 (by kernel_rfl) (by kernel_rfl) (by kernel_rfl) (by kernel_rfl)
  have h12 := @run_callFunc_extern Tryz.prog 142 _ (ReflectliteValue.set) Tryz.func142 (by kernel_rfl) (by kernel_rfl) (by kernel_rfl) (by kernel_rfl)
  have tO := asTypeOfR
  have mA := asMAss
  have a25 := asAssR
  have v25 := asValueOfR
  have f6 := asValueOfP
  have f7 := asTypeP
  have mK := asMKind
  have mE := asMElem
  have mI := asMImpl
  have k27 := asKindP
  have k25 := asKindR
  have e27 := asElemP
  have i25 := asImplR
  have hlt : 0 < w.heap.size := World.block_lt_of_cell? _ _ hg
  have htl : T < w.heap.size := World.block_lt_of_cell? _ _ ht0
  have n8 := asIsNilP ⟨w.heap.size, 0, none⟩ ⟨T, 0, none⟩ ((w.alloc (.cells #[.pointer (some ⟨T, 0, none⟩)] 134)).alloc (.cells #[.pointer (some ⟨1, 134, none⟩), .pointer (some ⟨w.heap.size, 0, none⟩), .int .u64 150] 181)) (by simp)
  have hg2 : ((w.alloc (.cells #[.pointer (some ⟨T, 0, none⟩)] 134)).alloc (.cells #[.pointer (some ⟨1, 134, none⟩), .pointer (some ⟨w.heap.size, 0, none⟩), .int .u64 150] 181)).cell? ⟨0, 0, none⟩ = some (.iface 211 (.agg #[.pointer (some ⟨1, 80, none⟩)])) := by
    rw [World.cell?_alloc_lt _ _ ⟨0, 0, none⟩ (by simp), World.cell?_alloc_lt _ _ ⟨0, 0, none⟩ hlt]; exact hg
  have el := asElemVP ⟨w.heap.size, 0, none⟩ ⟨T, 0, none⟩ (((w.alloc (.cells #[.pointer (some ⟨T, 0, none⟩)] 134)).alloc (.cells #[.pointer (some ⟨1, 134, none⟩), .pointer (some ⟨w.heap.size, 0, none⟩), .int .u64 150] 181)).alloc (.cells #[.pointer (some ⟨1, 134, none⟩), .pointer (some ⟨w.heap.size, 0, none⟩), .int .u64 150] 181)) (by rw [World.cell?_alloc_lt _ _ ⟨w.heap.size, 0, none⟩ (by simp; omega), World.cell?_alloc_lt _ _ ⟨w.heap.size, 0, none⟩ (by simp)]; simp)
  have hT0 : ((((w.alloc (.cells #[.pointer (some ⟨T, 0, none⟩)] 134)).alloc (.cells #[.pointer (some ⟨1, 134, none⟩), .pointer (some ⟨w.heap.size, 0, none⟩), .int .u64 150] 181)).alloc (.cells #[.pointer (some ⟨1, 134, none⟩), .pointer (some ⟨w.heap.size, 0, none⟩), .int .u64 150] 181)).alloc (.cells #[.int .i64 x, .int .i64 y] 132)).cell? ⟨T, 0, none⟩ = some o0 := by rw [World.cell?_alloc_lt _ _ ⟨T, 0, none⟩ (by simp; omega), World.cell?_alloc_lt _ _ ⟨T, 0, none⟩ (by simp; omega), World.cell?_alloc_lt _ _ ⟨T, 0, none⟩ (by simp; omega), World.cell?_alloc_lt _ _ ⟨T, 0, none⟩ htl]; exact ht0
  have hT1 : ((((w.alloc (.cells #[.pointer (some ⟨T, 0, none⟩)] 134)).alloc (.cells #[.pointer (some ⟨1, 134, none⟩), .pointer (some ⟨w.heap.size, 0, none⟩), .int .u64 150] 181)).alloc (.cells #[.pointer (some ⟨1, 134, none⟩), .pointer (some ⟨w.heap.size, 0, none⟩), .int .u64 150] 181)).alloc (.cells #[.int .i64 x, .int .i64 y] 132)).cell? ⟨T, 1, none⟩ = some o1 := by rw [World.cell?_alloc_lt _ _ ⟨T, 1, none⟩ (by simp; omega), World.cell?_alloc_lt _ _ ⟨T, 1, none⟩ (by simp; omega), World.cell?_alloc_lt _ _ ⟨T, 1, none⟩ (by simp; omega), World.cell?_alloc_lt _ _ ⟨T, 1, none⟩ htl]; exact ht1
  have st := asSetR T (w.heap.size + 1 + 1 + 1) x y o0 o1 ((((w.alloc (.cells #[.pointer (some ⟨T, 0, none⟩)] 134)).alloc (.cells #[.pointer (some ⟨1, 134, none⟩), .pointer (some ⟨w.heap.size, 0, none⟩), .int .u64 150] 181)).alloc (.cells #[.pointer (some ⟨1, 134, none⟩), .pointer (some ⟨w.heap.size, 0, none⟩), .int .u64 150] 181)).alloc (.cells #[.int .i64 x, .int .i64 y] 132))
    (by rw [World.cell?_alloc_at _ _ _ _ (by simp)]; rfl)
    (by rw [World.cell?_alloc_at _ _ _ _ (by simp)]; rfl)
    hT0
    hT1
    (fun o => by rw [World.frozen?_alloc_old _ _ ⟨T, o, none⟩ (by simp; omega), World.frozen?_alloc_old _ _ ⟨T, o, none⟩ (by simp; omega), World.frozen?_alloc_old _ _ ⟨T, o, none⟩ (by simp; omega), World.frozen?_alloc_old _ _ ⟨T, o, none⟩ (Nat.ne_of_lt htl)]; exact hf o)
  go_enter Tryz.func72, Tryz.ntmps72
  go_wp2
  refine wp_loop_rounds 1 ?_
  rw [rounds_succ]
  go_wp2
  go_ret
  exact ⟨rfl, ((((((Kept.refl (fun z => z = T) w).alloc _).alloc _).alloc _).alloc _).set (a := ⟨T, 0, none⟩) (fun _ => rfl) _).set (a := ⟨T, 1, none⟩) (fun _ => rfl) _, by rw [World.cell?_setCell_other _ _ _ _ (by simp)]; exact World.cell?_setCell_same _ _ _ hT0, World.cell?_setCell_same (u := o1) _ _ _ (by rw [World.cell?_setCell_other _ _ _ _ (by simp)]; exact hT1)⟩

end Go.Proofs.YtmdpmdmilgbfiaaGreatDoor

namespace Go.Proofs.YtmdpmdmilgbfiaaGreatDoor
open Go.RowKit

set_option maxRecDepth 100000 in
theorem readText_any (b : Nat) (sa : Option Addr) (cap : Nat) (bs r : List Nat) (n : Nat) (z : Int) (w : World) (hR : Rd w b sa cap bs r) (hz : z = (n : Int)) (hn : n ≤ 1048576) :
    Calls Tryz.prog 145 #[.pointer (some ⟨b, 0, none⟩), .int .i64 z] w (RPost (rdText n r) (fun x => .string x) b sa cap bs w) := by
  subst hz
  obtain ⟨⟨k, hC, hk, hr⟩, hlow, hcap, hlen, hbyte⟩ := hR
  have hrl : r.length = bs.length - k := by rw [hr, List.length_drop]
  by_cases hlt : k + n ≤ bs.length
  · have e1 : Hid (rdText n r = some (strB (r.take n), r.drop n)) := if_pos (by omega)
    go_enter Tryz.func145, Tryz.ntmps145
    go_wp2_with (go_at_call 124; refine (next_fits b _ bs.length cap k n _ hC hcap (by unfold maxLen; omega) hlt).mono ?_; rintro e w1 ⟨p, c, rfl, hp, hC1, hK1⟩; have hlow1 := hlow.below (hK1.below (show b ≤ w.heap.size by have := hC.lt; omega) (fun k hk e => by omega)); have hbt := take_bytes (n := n) hlow1 hlt hp; rw [← hr] at hbt; have hcv := conv_text (n := n) (c := c) hbt (by rw [List.length_take]; omega))
    go_ret
    exact ⟨hK1, Or.inl ⟨_, _, e1, by rw [hr]; rfl, ⟨⟨k + n, hC1, hlt, by rw [hr, List.drop_drop]⟩, hlow1, hcap, hlen, hbyte⟩⟩⟩
  · have e1 : Hid (rdText n r = none) := if_neg (by omega)
    go_enter Tryz.func145, Tryz.ntmps145
    go_wp2_with (go_at_call 124; refine (next_not b _ bs.length cap k n _ hC (by unfold maxLen; omega) hk (by omega)).mono ?_; rintro e w1 ⟨rfl, hb⟩)
    exact ⟨rfl, Kept.of_below hb _, Or.inr ⟨e1, rfl⟩⟩

set_option maxRecDepth 100000 in
theorem readNumber_any (b : Nat) (sa : Option Addr) (cap : Nat) (bs r : List Nat) (w : World) (hR : Rd w b sa cap bs r) :
    Calls Tryz.prog 151 #[.pointer (some ⟨b, 0, none⟩)] w (RPost (rdNum 0 0 r) (fun x => .int .u64 (x : Int)) b sa cap bs w) := by
  go_enter Tryz.func151, Tryz.ntmps151
  go_wp2
  go_loopw [3, 4] (fun a c ws => ∃ (n s : Nat) (q : List Nat), a = .int .u64 n ∧ c = .int .i64 s ∧ n < 18446744073709551616 ∧ s + 7 * q.length ≤ 7 * bs.length ∧ Hid (rdNum 0 0 r = rdNum n s q) ∧ Rd ws b sa cap bs q ∧ Kept (fun k => k = b) w ws) (fun _ c _ => 7 * bs.length + 7 - (intOf c).toNat)
  case atStart =>
    refine ⟨0, 0, r, rfl, rfl, by omega, ?_, rfl, hR, Kept.refl _ _⟩
    obtain ⟨k, _, _, hr⟩ := hR.ex
    rw [hr, List.length_drop]; omega
  case round =>
    obtain ⟨n, s, q, rfl, rfl, hn, hs, hq, hRq, hK⟩ := hrel
    have hlen := hRq.len
    go_wp2_with (go_at_call 138; refine (readByte_any b sa cap bs q _ hRq).mono ?_; rintro e w1 ⟨hK1, ⟨x, r', hx, rfl, hR1⟩ | ⟨hno, rfl⟩⟩)
    · rename_i hlt
      obtain ⟨hx256, hqx⟩ := hRq.head hx.out
      have e5 : Hid (rdNum 0 0 r = some (orU n (x % 128) s, r')) := by show _ = _; rw [hq.out, hqx, rdNum, if_pos (by omega)]
      go_ret
      exact ⟨hK.trans hK1 (fun _ _ h => h), Or.inl ⟨_, r', e5, ret_int (or_form hn hx256), hR1⟩⟩
    · rename_i hlt
      obtain ⟨hx256, hqx⟩ := hRq.head hx.out
      have e5 : Hid (rdNum 0 0 r = rdNum (orU n (x % 128) s) (s + 7) r') := by show _ = _; rw [hq.out, hqx, rdNum, if_neg (by omega)]
      have hl2 : q.length = r'.length + 1 := by rw [hqx]; rfl
      refine ⟨⟨orU n (x % 128) s, s + 7, r', congrArg (Value.int .u64) (or_form hn hx256), by go_num, orU_lt hn, by omega, e5, hR1, hK.trans hK1 (fun _ _ h => h)⟩, ?_⟩
      simp [intOf]; omega
    · have e5 : Hid (rdNum 0 0 r = none) := by
        show _ = _
        rw [hq.out]
        cases q with
        | nil => rfl
        | cons y t => cases hno.out
      exact ⟨rfl, hK.trans hK1 (fun _ _ h => h), Or.inr ⟨e5, rfl⟩⟩

set_option maxRecDepth 100000 in
theorem readCount_any (b : Nat) (sa : Option Addr) (cap : Nat) (bs r : List Nat) (most : Nat) (z : Int) (w : World) (hR : Rd w b sa cap bs r) (hz : z = (most : Int)) (hm : most ≤ 1048576) :
    Calls Tryz.prog 146 #[.pointer (some ⟨b, 0, none⟩), .int .i64 z] w (RPost (rdCount most r) (fun x => .int .i64 (x : Int)) b sa cap bs w) := by
  subst hz
  have e6 : IntKind.u64.wrap (most : Int) = (most : Int) := by rw [IntKind.wrap_u64]; omega
  go_enter Tryz.func146, Tryz.ntmps146
  go_wp2_with (go_at_call 151; refine (readNumber_any b sa cap bs r _ hR).mono ?_; rintro e w1 ⟨hK1, ⟨x, r', hx, rfl, hR1⟩ | ⟨hno, rfl⟩⟩)
  · rename_i hgt
    have e5 : Hid (rdCount most r = none) := by show _ = _; unfold rdCount; rw [hx.out]; exact if_neg (by omega)
    exact ⟨rfl, hK1, Or.inr ⟨e5, rfl⟩⟩
  · rename_i hle
    have e5 : Hid (rdCount most r = some (x, r')) := by show _ = _; unfold rdCount; rw [hx.out]; exact if_pos (by omega)
    go_ret
    exact ⟨hK1, Or.inl ⟨x, r', e5, rfl, hR1⟩⟩
  · have e5 : Hid (rdCount most r = none) := by show _ = _; unfold rdCount; rw [hno.out]
    exact ⟨rfl, hK1, Or.inr ⟨e5, rfl⟩⟩

end Go.Proofs.YtmdpmdmilgbfiaaGreatDoor

namespace Go.Proofs.YtmdpmdmilgbfiaaGreatDoor
open Go.RowKit

set_option maxRecDepth 100000 in
theorem signed_any (n : Nat) (w : World) (hn : n < 18446744073709551616) :
    Calls Tryz.prog 152 #[.int .u64 (n : Int)] w fun e w' => e = .returned (.int .i64 (zag n)) ∧ Below w.heap.size w w' := by
  go_enter Tryz.func152, Tryz.ntmps152
  go_wp2
  go_ret
  exact ⟨ret_int (zag_form hn), gre _⟩

end Go.Proofs.YtmdpmdmilgbfiaaGreatDoor

namespace Go.Proofs.YtmdpmdmilgbfiaaGreatDoor
open Go.RowKit

set_option maxHeartbeats 1000000 in
set_option maxRecDepth 100000 in
theorem readVal_nil (b : Nat) (sa : Option Addr) (cap : Nat) (bs t : List Nat)  (w : World) (hR : Rd w b sa cap bs (0 :: t))  :
    Calls Tryz.prog 147 #[.pointer (some ⟨b, 0, none⟩)] w (RVPost b sa cap bs (0 :: t) w) := by
  have hlt := hR.lt
  have hF0 := Four.new w ⟨0, 0, ⟨#[]⟩, 0⟩ 29
  go_enter Tryz.func147, Tryz.ntmps147
  go_wp2_with (go_at_call 138; refine (readByte_any b sa cap bs (0 :: t) _ (hR.grow (gal (gre _) _))).mono ?_; rintro e w1 h1; obtain ⟨rfl, hR1, hK1⟩ := RPost.ok h1; have hF1 := hF0.kept hK1 (by omega); obtain ⟨az, a0, a1, a2, a3, af⟩ := id hF1; have hG := Four.new w1 ⟨0, 0, ⟨#[]⟩, 0⟩ 29; have hs1 := hK1.size; simp only [World.size_alloc] at hs1)
  obtain ⟨_, f0, f1, f2, f3, _⟩ := (hF1.set4 ⟨0, 0, ⟨#[]⟩, 0⟩).alloc (.cells #[.int .i64 0, .int .i64 0, .string ⟨#[]⟩, .int .i64 0] 29)
  obtain ⟨hKF, hRF⟩ := fin4 hlt (kk ((Kept.refl _ w).alloc _) hK1) hR1 (.int .i64 0) (.int .i64 0) (.string ⟨#[]⟩) (.int .i64 0)
  refine bodyPost_ret (v := (GV.mk 0 0 ⟨#[]⟩ 0).val) (by simp [results, Tryz.results147, go_sem, f0, f1, f2, f3]) rfl ?_
  exact ⟨hKF.alloc _, Or.inl ⟨_, _, rfl, rfl, hRF.grow (gal (gre _) _)⟩⟩

set_option maxHeartbeats 1000000 in
set_option maxRecDepth 100000 in
theorem readVal_num (b : Nat) (sa : Option Addr) (cap : Nat) (bs t : List Nat) (n : Nat) (q : List Nat) (w : World) (hR : Rd w b sa cap bs (1 :: t)) (hq : Hid (rdNum 0 0 t = some (n, q))) :
    Calls Tryz.prog 147 #[.pointer (some ⟨b, 0, none⟩)] w (RVPost b sa cap bs (1 :: t) w) := by
  have hlt := hR.lt
  have hF0 := Four.new w ⟨0, 0, ⟨#[]⟩, 0⟩ 29
  have hn := rdNum_lt 0 0 t n q (by omega) hq.out
  go_enter Tryz.func147, Tryz.ntmps147
  go_wp2_with (first
    | (go_at_call 138; refine (readByte_any b sa cap bs (1 :: t) _ (hR.grow (gal (gre _) _))).mono ?_; rintro e w1 h1; obtain ⟨rfl, hR1, hK1⟩ := RPost.ok h1; have hF1 := hF0.kept hK1 (by omega); obtain ⟨az, a0, a1, a2, a3, af⟩ := id hF1; have hG := Four.new w1 ⟨1, 0, ⟨#[]⟩, 0⟩ 29; have hs1 := hK1.size; simp only [World.size_alloc] at hs1)
    | (go_at_call 151; refine (readNumber_any b sa cap bs t _ (hR1.grow (gal (gre _) _))).mono ?_; rintro e w2 h2; rw [hq.out] at h2; obtain ⟨rfl, hR2, hK2⟩ := RPost.ok h2; have hF2 := (hF1.alloc (.cells #[.int .i64 1, .int .i64 0, .string ⟨#[]⟩, .int .i64 0] 29)).kept hK2 (by omega); obtain ⟨bz, b0, b1, b2, b3, bf⟩ := id hF2; have hG2 := hG.kept hK2 (by omega); obtain ⟨gz, g0, g1, g2, g3, gf⟩ := id hG2; have hs2 := hK2.size; simp only [World.size_alloc] at hs2)
    | (go_at_call 152; refine (signed_any n _ hn).mono ?_; rintro e w3 ⟨rfl, hb3⟩; obtain ⟨iz, i0, i1, i2, i3, if_⟩ := hG2.kept (Kept.of_below hb3 (fun _ => False)) (fun e => e); obtain ⟨cz, c0, c1, c2, c3, cf⟩ := hF2.kept (Kept.of_below hb3 (fun _ => False)) (fun e => e)))
  have hKX := kk (kk ((kk ((Kept.refl _ w).alloc _) hK1).alloc (.cells #[.int .i64 1, .int .i64 0, .string ⟨#[]⟩, .int .i64 0] 29)) hK2) (Kept.of_below hb3 _)
  have hRX := (hR2.grow hb3).kept ((Kept.refl (fun k => k = w1.heap.size) w3).set (a := ⟨w1.heap.size, 1, none⟩) (fun _ => rfl) (.int .i64 (zag n))) (fun k hk e => by omega)
  obtain ⟨hKF, hRF⟩ := fin4 hlt (hKX.set (a := ⟨w1.heap.size, 1, none⟩) (fun h => absurd h (by show ¬ w1.heap.size < _; omega)) (.int .i64 (zag n))) hRX (.int .i64 1) (.int .i64 (zag n)) (.string ⟨#[]⟩) (.int .i64 0)
  refine bodyPost_ret (v := (GV.mk 1 (zag n) ⟨#[]⟩ 0).val) (by simp [results, Tryz.results147, go_sem, c0, c1, c2, c3]) rfl ?_
  exact ⟨hKF, Or.inl ⟨⟨1, (zag n), ⟨#[]⟩, 0⟩, q, by show rdVal (1 :: t) = _; simp [rdVal, hq.out], rfl, hRF⟩⟩

set_option maxHeartbeats 1000000 in
set_option maxRecDepth 100000 in
theorem readVal_num_no (b : Nat) (sa : Option Addr) (cap : Nat) (bs t : List Nat)  (w : World) (hR : Rd w b sa cap bs (1 :: t)) (hq : Hid (rdNum 0 0 t = none)) :
    Calls Tryz.prog 147 #[.pointer (some ⟨b, 0, none⟩)] w (RVPost b sa cap bs (1 :: t) w) := by
  have hlt := hR.lt
  have hF0 := Four.new w ⟨0, 0, ⟨#[]⟩, 0⟩ 29
  go_enter Tryz.func147, Tryz.ntmps147
  go_wp2_with (first
    | (go_at_call 138; refine (readByte_any b sa cap bs (1 :: t) _ (hR.grow (gal (gre _) _))).mono ?_; rintro e w1 h1; obtain ⟨rfl, hR1, hK1⟩ := RPost.ok h1; have hF1 := hF0.kept hK1 (by omega); obtain ⟨az, a0, a1, a2, a3, af⟩ := id hF1; have hG := Four.new w1 ⟨1, 0, ⟨#[]⟩, 0⟩ 29; have hs1 := hK1.size; simp only [World.size_alloc] at hs1)
    | (go_at_call 151; refine (readNumber_any b sa cap bs t _ (hR1.grow (gal (gre _) _))).mono ?_; rintro e w2 h2; rw [hq.out] at h2; obtain ⟨rfl, hK2⟩ := RPost.no h2))
  exact ⟨rfl, kk ((kk ((Kept.refl _ w).alloc _) hK1).alloc (.cells #[.int .i64 1, .int .i64 0, .string ⟨#[]⟩, .int .i64 0] 29)) hK2, Or.inr ⟨by show rdVal (1 :: t) = _; simp [rdVal, hq.out], rfl⟩⟩

end Go.Proofs.YtmdpmdmilgbfiaaGreatDoor

namespace Go.Proofs.YtmdpmdmilgbfiaaGreatDoor
open Go.RowKit

set_option maxHeartbeats 1000000 in
set_option maxRecDepth 100000 in
theorem readVal_bits (b : Nat) (sa : Option Addr) (cap : Nat) (bs t : List Nat) (n : Int) (q : List Nat) (w : World) (hR : Rd w b sa cap bs (2 :: t)) (hq : Hid (rdLow 8 0 0 t = some (n, q))) :
    Calls Tryz.prog 147 #[.pointer (some ⟨b, 0, none⟩)] w (RVPost b sa cap bs (2 :: t) w) := by
  have hlt := hR.lt
  have hF0 := Four.new w ⟨0, 0, ⟨#[]⟩, 0⟩ 29
  go_enter Tryz.func147, Tryz.ntmps147
  go_wp2_with (first
    | (go_at_call 138; refine (readByte_any b sa cap bs (2 :: t) _ (hR.grow (gal (gre _) _))).mono ?_; rintro e w1 h1; obtain ⟨rfl, hR1, hK1⟩ := RPost.ok h1; have hF1 := hF0.kept hK1 (by omega); obtain ⟨az, a0, a1, a2, a3, af⟩ := id hF1; have hG := Four.new w1 ⟨2, 0, ⟨#[]⟩, 0⟩ 29; have hs1 := hK1.size; simp only [World.size_alloc] at hs1)
    | (go_at_call 106; refine (readWord_any b sa cap bs t _ (hR1.grow (gal (gre _) _))).mono ?_; rintro e w2 h2; rw [hq.out] at h2; obtain ⟨rfl, hR2, hK2⟩ := RPost.ok h2; have hF2 := (hF1.alloc (.cells #[.int .i64 2, .int .i64 0, .string ⟨#[]⟩, .int .i64 0] 29)).kept hK2 (by omega); obtain ⟨bz, b0, b1, b2, b3, bf⟩ := id hF2; have hG2 := hG.kept hK2 (by omega); obtain ⟨gz, g0, g1, g2, g3, gf⟩ := id hG2; have hs2 := hK2.size; simp only [World.size_alloc] at hs2))
  have hKX := kk ((kk ((Kept.refl _ w).alloc _) hK1).alloc (.cells #[.int .i64 2, .int .i64 0, .string ⟨#[]⟩, .int .i64 0] 29)) hK2
  have hRX := (hR2).kept ((Kept.refl (fun k => k = w1.heap.size) w2).set (a := ⟨w1.heap.size, 1, none⟩) (fun _ => rfl) (.int .i64 n)) (fun k hk e => by omega)
  obtain ⟨hKF, hRF⟩ := fin4 hlt (hKX.set (a := ⟨w1.heap.size, 1, none⟩) (fun h => absurd h (by show ¬ w1.heap.size < _; omega)) (.int .i64 n)) hRX (.int .i64 2) (.int .i64 n) (.string ⟨#[]⟩) (.int .i64 0)
  refine bodyPost_ret (v := (GV.mk 2 n ⟨#[]⟩ 0).val) (by simp [results, Tryz.results147, go_sem, b0, b1, b2, b3]) rfl ?_
  exact ⟨hKF, Or.inl ⟨⟨2, n, ⟨#[]⟩, 0⟩, q, by show rdVal (2 :: t) = _; simp [rdVal, hq.out], rfl, hRF⟩⟩

set_option maxHeartbeats 1000000 in
set_option maxRecDepth 100000 in
theorem readVal_bits_no (b : Nat) (sa : Option Addr) (cap : Nat) (bs t : List Nat)  (w : World) (hR : Rd w b sa cap bs (2 :: t)) (hq : Hid (rdLow 8 0 0 t = none)) :
    Calls Tryz.prog 147 #[.pointer (some ⟨b, 0, none⟩)] w (RVPost b sa cap bs (2 :: t) w) := by
  have hlt := hR.lt
  have hF0 := Four.new w ⟨0, 0, ⟨#[]⟩, 0⟩ 29
  go_enter Tryz.func147, Tryz.ntmps147
  go_wp2_with (first
    | (go_at_call 138; refine (readByte_any b sa cap bs (2 :: t) _ (hR.grow (gal (gre _) _))).mono ?_; rintro e w1 h1; obtain ⟨rfl, hR1, hK1⟩ := RPost.ok h1; have hF1 := hF0.kept hK1 (by omega); obtain ⟨az, a0, a1, a2, a3, af⟩ := id hF1; have hG := Four.new w1 ⟨2, 0, ⟨#[]⟩, 0⟩ 29; have hs1 := hK1.size; simp only [World.size_alloc] at hs1)
    | (go_at_call 106; refine (readWord_any b sa cap bs t _ (hR1.grow (gal (gre _) _))).mono ?_; rintro e w2 h2; rw [hq.out] at h2; obtain ⟨rfl, hK2⟩ := RPost.no h2))
  exact ⟨rfl, kk ((kk ((Kept.refl _ w).alloc _) hK1).alloc (.cells #[.int .i64 2, .int .i64 0, .string ⟨#[]⟩, .int .i64 0] 29)) hK2, Or.inr ⟨by show rdVal (2 :: t) = _; simp [rdVal, hq.out], rfl⟩⟩

set_option maxHeartbeats 1000000 in
set_option maxRecDepth 100000 in
theorem readVal_node (b : Nat) (sa : Option Addr) (cap : Nat) (bs t : List Nat) (n : Nat) (q : List Nat) (w : World) (hR : Rd w b sa cap bs (4 :: t)) (hq : Hid (rdCount 300 t = some (n, q))) :
    Calls Tryz.prog 147 #[.pointer (some ⟨b, 0, none⟩)] w (RVPost b sa cap bs (4 :: t) w) := by
  have hlt := hR.lt
  have hF0 := Four.new w ⟨0, 0, ⟨#[]⟩, 0⟩ 29
  go_enter Tryz.func147, Tryz.ntmps147
  go_wp2_with (first
    | (go_at_call 138; refine (readByte_any b sa cap bs (4 :: t) _ (hR.grow (gal (gre _) _))).mono ?_; rintro e w1 h1; obtain ⟨rfl, hR1, hK1⟩ := RPost.ok h1; have hF1 := hF0.kept hK1 (by omega); obtain ⟨az, a0, a1, a2, a3, af⟩ := id hF1; have hG := Four.new w1 ⟨4, 0, ⟨#[]⟩, 0⟩ 29; have hs1 := hK1.size; simp only [World.size_alloc] at hs1)
    | (go_at_call 146; refine (readCount_any b sa cap bs t 300 _ _ (hR1.grow (gal (gre _) _)) rfl (by omega)).mono ?_; rintro e w2 h2; rw [hq.out] at h2; obtain ⟨rfl, hR2, hK2⟩ := RPost.ok h2; have hF2 := (hF1.alloc (.cells #[.int .i64 4, .int .i64 0, .string ⟨#[]⟩, .int .i64 0] 29)).kept hK2 (by omega); obtain ⟨bz, b0, b1, b2, b3, bf⟩ := id hF2; have hG2 := hG.kept hK2 (by omega); obtain ⟨gz, g0, g1, g2, g3, gf⟩ := id hG2; have hs2 := hK2.size; simp only [World.size_alloc] at hs2))
  have hKX := kk ((kk ((Kept.refl _ w).alloc _) hK1).alloc (.cells #[.int .i64 4, .int .i64 0, .string ⟨#[]⟩, .int .i64 0] 29)) hK2
  have hRX := (hR2).kept ((Kept.refl (fun k => k = w1.heap.size) w2).set (a := ⟨w1.heap.size, 3, none⟩) (fun _ => rfl) (.int .i64 (n : Int))) (fun k hk e => by omega)
  obtain ⟨hKF, hRF⟩ := fin4 hlt (hKX.set (a := ⟨w1.heap.size, 3, none⟩) (fun h => absurd h (by show ¬ w1.heap.size < _; omega)) (.int .i64 (n : Int))) hRX (.int .i64 4) (.int .i64 0) (.string ⟨#[]⟩) (.int .i64 (n : Int))
  refine bodyPost_ret (v := (GV.mk 4 0 ⟨#[]⟩ (n : Int)).val) (by simp [results, Tryz.results147, go_sem, b0, b1, b2, b3]) rfl ?_
  exact ⟨hKF, Or.inl ⟨⟨4, 0, ⟨#[]⟩, (n : Int)⟩, q, by show rdVal (4 :: t) = _; simp [rdVal, hq.out], rfl, hRF⟩⟩

end Go.Proofs.YtmdpmdmilgbfiaaGreatDoor

namespace Go.Proofs.YtmdpmdmilgbfiaaGreatDoor
open Go.RowKit

set_option maxHeartbeats 1000000 in
set_option maxRecDepth 100000 in
theorem readVal_node_no (b : Nat) (sa : Option Addr) (cap : Nat) (bs t : List Nat)  (w : World) (hR : Rd w b sa cap bs (4 :: t)) (hq : Hid (rdCount 300 t = none)) :
    Calls Tryz.prog 147 #[.pointer (some ⟨b, 0, none⟩)] w (RVPost b sa cap bs (4 :: t) w) := by
  have hlt := hR.lt
  have hF0 := Four.new w ⟨0, 0, ⟨#[]⟩, 0⟩ 29
  go_enter Tryz.func147, Tryz.ntmps147
  go_wp2_with (first
    | (go_at_call 138; refine (readByte_any b sa cap bs (4 :: t) _ (hR.grow (gal (gre _) _))).mono ?_; rintro e w1 h1; obtain ⟨rfl, hR1, hK1⟩ := RPost.ok h1; have hF1 := hF0.kept hK1 (by omega); obtain ⟨az, a0, a1, a2, a3, af⟩ := id hF1; have hG := Four.new w1 ⟨4, 0, ⟨#[]⟩, 0⟩ 29; have hs1 := hK1.size; simp only [World.size_alloc] at hs1)
    | (go_at_call 146; refine (readCount_any b sa cap bs t 300 _ _ (hR1.grow (gal (gre _) _)) rfl (by omega)).mono ?_; rintro e w2 h2; rw [hq.out] at h2; obtain ⟨rfl, hK2⟩ := RPost.no h2))
  exact ⟨rfl, kk ((kk ((Kept.refl _ w).alloc _) hK1).alloc (.cells #[.int .i64 4, .int .i64 0, .string ⟨#[]⟩, .int .i64 0] 29)) hK2, Or.inr ⟨by show rdVal (4 :: t) = _; simp [rdVal, hq.out], rfl⟩⟩

set_option maxHeartbeats 1000000 in
set_option maxRecDepth 100000 in
theorem readVal_text (b : Nat) (sa : Option Addr) (cap : Nat) (bs t : List Nat) (n : Nat) (q : List Nat) (s : ByteArray) (q2 : List Nat) (w : World) (hR : Rd w b sa cap bs (3 :: t)) (hq : Hid (rdCount 1000 t = some (n, q))) (hn : n ≤ 1048576) (hq2 : Hid (rdText n q = some (s, q2))) :
    Calls Tryz.prog 147 #[.pointer (some ⟨b, 0, none⟩)] w (RVPost b sa cap bs (3 :: t) w) := by
  have hlt := hR.lt
  have hF0 := Four.new w ⟨0, 0, ⟨#[]⟩, 0⟩ 29
  go_enter Tryz.func147, Tryz.ntmps147
  go_wp2_with (first
    | (go_at_call 138; refine (readByte_any b sa cap bs (3 :: t) _ (hR.grow (gal (gre _) _))).mono ?_; rintro e w1 h1; obtain ⟨rfl, hR1, hK1⟩ := RPost.ok h1; have hF1 := hF0.kept hK1 (by omega); obtain ⟨az, a0, a1, a2, a3, af⟩ := id hF1; have hG := Four.new w1 ⟨3, 0, ⟨#[]⟩, 0⟩ 29; have hs1 := hK1.size; simp only [World.size_alloc] at hs1)
    | (go_at_call 146; refine (readCount_any b sa cap bs t 1000 _ _ (hR1.grow (gal (gre _) _)) rfl (by omega)).mono ?_; rintro e w2 h2; rw [hq.out] at h2; obtain ⟨rfl, hR2, hK2⟩ := RPost.ok h2; have hF2 := (hF1.alloc (.cells #[.int .i64 3, .int .i64 0, .string ⟨#[]⟩, .int .i64 0] 29)).kept hK2 (by omega); obtain ⟨bz, b0, b1, b2, b3, bf⟩ := id hF2; have hG2 := hG.kept hK2 (by omega); obtain ⟨gz, g0, g1, g2, g3, gf⟩ := id hG2; have hs2 := hK2.size; simp only [World.size_alloc] at hs2)
    | (go_at_call 145; refine (readText_any b sa cap bs q n _ _ hR2 rfl hn).mono ?_; rintro e w3 h3; rw [hq2.out] at h3; obtain ⟨rfl, hR3, hK3⟩ := RPost.ok h3; obtain ⟨iz, i0, i1, i2, i3, if_⟩ := hG2.kept hK3 (by omega); obtain ⟨cz, c0, c1, c2, c3, cf⟩ := hF2.kept hK3 (by omega); have hs3 := hK3.size))
  have hKX := kk (kk ((kk ((Kept.refl _ w).alloc _) hK1).alloc (.cells #[.int .i64 3, .int .i64 0, .string ⟨#[]⟩, .int .i64 0] 29)) hK2) hK3
  have hRX := (hR3).kept ((Kept.refl (fun k => k = w1.heap.size) w3).set (a := ⟨w1.heap.size, 2, none⟩) (fun _ => rfl) (.string s)) (fun k hk e => by omega)
  obtain ⟨hKF, hRF⟩ := fin4 hlt (hKX.set (a := ⟨w1.heap.size, 2, none⟩) (fun h => absurd h (by show ¬ w1.heap.size < _; omega)) (.string s)) hRX (.int .i64 3) (.int .i64 0) (.string s) (.int .i64 0)
  refine bodyPost_ret (v := (GV.mk 3 0 s 0).val) (by simp [results, Tryz.results147, go_sem, c0, c1, c2, c3]) rfl ?_
  exact ⟨hKF, Or.inl ⟨⟨3, 0, s, 0⟩, q2, by show rdVal (3 :: t) = _; simp [rdVal, hq.out, hq2.out], rfl, hRF⟩⟩

set_option maxHeartbeats 1000000 in
set_option maxRecDepth 100000 in
theorem readVal_text_no (b : Nat) (sa : Option Addr) (cap : Nat) (bs t : List Nat)  (w : World) (hR : Rd w b sa cap bs (3 :: t)) (hq : Hid (rdCount 1000 t = none)) :
    Calls Tryz.prog 147 #[.pointer (some ⟨b, 0, none⟩)] w (RVPost b sa cap bs (3 :: t) w) := by
  have hlt := hR.lt
  have hF0 := Four.new w ⟨0, 0, ⟨#[]⟩, 0⟩ 29
  go_enter Tryz.func147, Tryz.ntmps147
  go_wp2_with (first
    | (go_at_call 138; refine (readByte_any b sa cap bs (3 :: t) _ (hR.grow (gal (gre _) _))).mono ?_; rintro e w1 h1; obtain ⟨rfl, hR1, hK1⟩ := RPost.ok h1; have hF1 := hF0.kept hK1 (by omega); obtain ⟨az, a0, a1, a2, a3, af⟩ := id hF1; have hG := Four.new w1 ⟨3, 0, ⟨#[]⟩, 0⟩ 29; have hs1 := hK1.size; simp only [World.size_alloc] at hs1)
    | (go_at_call 146; refine (readCount_any b sa cap bs t 1000 _ _ (hR1.grow (gal (gre _) _)) rfl (by omega)).mono ?_; rintro e w2 h2; rw [hq.out] at h2; obtain ⟨rfl, hK2⟩ := RPost.no h2))
  exact ⟨rfl, kk ((kk ((Kept.refl _ w).alloc _) hK1).alloc (.cells #[.int .i64 3, .int .i64 0, .string ⟨#[]⟩, .int .i64 0] 29)) hK2, Or.inr ⟨by show rdVal (3 :: t) = _; simp [rdVal, hq.out], rfl⟩⟩

end Go.Proofs.YtmdpmdmilgbfiaaGreatDoor

namespace Go.Proofs.YtmdpmdmilgbfiaaGreatDoor
open Go.RowKit

set_option maxHeartbeats 1000000 in
set_option maxRecDepth 100000 in
theorem readVal_text_no2 (b : Nat) (sa : Option Addr) (cap : Nat) (bs t : List Nat) (n : Nat) (q : List Nat) (w : World) (hR : Rd w b sa cap bs (3 :: t)) (hq : Hid (rdCount 1000 t = some (n, q))) (hn : n ≤ 1048576) (hq2 : Hid (rdText n q = none)) :
    Calls Tryz.prog 147 #[.pointer (some ⟨b, 0, none⟩)] w (RVPost b sa cap bs (3 :: t) w) := by
  have hlt := hR.lt
  have hF0 := Four.new w ⟨0, 0, ⟨#[]⟩, 0⟩ 29
  go_enter Tryz.func147, Tryz.ntmps147
  go_wp2_with (first
    | (go_at_call 138; refine (readByte_any b sa cap bs (3 :: t) _ (hR.grow (gal (gre _) _))).mono ?_; rintro e w1 h1; obtain ⟨rfl, hR1, hK1⟩ := RPost.ok h1; have hF1 := hF0.kept hK1 (by omega); obtain ⟨az, a0, a1, a2, a3, af⟩ := id hF1; have hG := Four.new w1 ⟨3, 0, ⟨#[]⟩, 0⟩ 29; have hs1 := hK1.size; simp only [World.size_alloc] at hs1)
    | (go_at_call 146; refine (readCount_any b sa cap bs t 1000 _ _ (hR1.grow (gal (gre _) _)) rfl (by omega)).mono ?_; rintro e w2 h2; rw [hq.out] at h2; obtain ⟨rfl, hR2, hK2⟩ := RPost.ok h2; have hF2 := (hF1.alloc (.cells #[.int .i64 3, .int .i64 0, .string ⟨#[]⟩, .int .i64 0] 29)).kept hK2 (by omega); obtain ⟨bz, b0, b1, b2, b3, bf⟩ := id hF2; have hG2 := hG.kept hK2 (by omega); obtain ⟨gz, g0, g1, g2, g3, gf⟩ := id hG2; have hs2 := hK2.size; simp only [World.size_alloc] at hs2)
    | (go_at_call 145; refine (readText_any b sa cap bs q n _ _ hR2 rfl hn).mono ?_; rintro e w3 h3; rw [hq2.out] at h3; obtain ⟨rfl, hK3⟩ := RPost.no h3))
  exact ⟨rfl, kk (kk ((kk ((Kept.refl _ w).alloc _) hK1).alloc (.cells #[.int .i64 3, .int .i64 0, .string ⟨#[]⟩, .int .i64 0] 29)) hK2) hK3, Or.inr ⟨by show rdVal (3 :: t) = _; simp [rdVal, hq.out, hq2.out], rfl⟩⟩

set_option maxHeartbeats 1000000 in
set_option maxRecDepth 100000 in
theorem readVal_other (b : Nat) (sa : Option Addr) (cap : Nat) (bs t : List Nat) (x : Nat) (w : World) (hR : Rd w b sa cap bs (x :: t)) (hx : 4 < x) :
    Calls Tryz.prog 147 #[.pointer (some ⟨b, 0, none⟩)] w (RVPost b sa cap bs (x :: t) w) := by
  have hlt := hR.lt
  have hx256 : x < 256 := (hR.head (x := x) (r' := t) rfl).1
  have hF0 := Four.new w ⟨0, 0, ⟨#[]⟩, 0⟩ 29
  have n0 : ((x : Int) == 0) = false := by simp; omega
  have n1 : ((x : Int) == 1) = false := by simp; omega
  have n2 : ((x : Int) == 2) = false := by simp; omega
  have n3 : ((x : Int) == 3) = false := by simp; omega
  have n4 : ((x : Int) == 4) = false := by simp; omega
  go_enter Tryz.func147, Tryz.ntmps147
  go_wp2_with (go_at_call 138; refine (readByte_any b sa cap bs (x :: t) _ (hR.grow (gal (gre _) _))).mono ?_; rintro e w1 h1; obtain ⟨rfl, hR1, hK1⟩ := RPost.ok h1)
  exact ⟨rfl, (kk ((Kept.refl _ w).alloc _) hK1).alloc _, Or.inr ⟨by show rdVal (x :: t) = _; unfold rdVal; dsimp only; rw [if_neg (by omega), if_neg (by omega), if_neg (by omega), if_neg (by omega), if_neg (by omega)], rfl⟩⟩

set_option maxRecDepth 100000 in
theorem readVal_none (b : Nat) (sa : Option Addr) (cap : Nat) (bs : List Nat) (w : World) (hR : Rd w b sa cap bs []) :
    Calls Tryz.prog 147 #[.pointer (some ⟨b, 0, none⟩)] w (RVPost b sa cap bs [] w) := by
  go_enter Tryz.func147, Tryz.ntmps147
  go_wp2_with (go_at_call 138; refine (readByte_any b sa cap bs [] _ (hR.grow (gal (gre _) _))).mono ?_; rintro e w1 h1; obtain ⟨rfl, hK1⟩ := RPost.no h1)
  exact ⟨rfl, kk ((Kept.refl _ w).alloc _) hK1, Or.inr ⟨rfl, rfl⟩⟩

end Go.Proofs.YtmdpmdmilgbfiaaGreatDoor

namespace Go.Proofs.YtmdpmdmilgbfiaaGreatDoor
open Go.RowKit

theorem readVal_any (b : Nat) (sa : Option Addr) (cap : Nat) (bs r : List Nat) (w : World) (hR : Rd w b sa cap bs r) :
    Calls Tryz.prog 147 #[.pointer (some ⟨b, 0, none⟩)] w (RVPost b sa cap bs r w) := by
  cases r with
  | nil => exact readVal_none b sa cap bs w hR
  | cons x t =>
    by_cases h0 : x = 0
    · subst h0; exact readVal_nil b sa cap bs t w hR
    by_cases h1 : x = 1
    · subst h1
      cases hq : rdNum 0 0 t with
      | none => exact readVal_num_no b sa cap bs t w hR hq
      | some y => exact readVal_num b sa cap bs t y.1 y.2 w hR hq
    by_cases h2 : x = 2
    · subst h2
      cases hq : rdLow 8 0 0 t with
      | none => exact readVal_bits_no b sa cap bs t w hR hq
      | some y => exact readVal_bits b sa cap bs t y.1 y.2 w hR hq
    by_cases h3 : x = 3
    · subst h3
      cases hq : rdCount 1000 t with
      | none => exact readVal_text_no b sa cap bs t w hR hq
      | some y =>
        have hn : y.1 ≤ 1048576 := by have := rdCount_le (n := y.1) (q := y.2) hq; omega
        cases hq2 : rdText y.1 y.2 with
        | none => exact readVal_text_no2 b sa cap bs t y.1 y.2 w hR hq hn hq2
        | some z => exact readVal_text b sa cap bs t y.1 y.2 z.1 z.2 w hR hq hn hq2
    by_cases h4 : x = 4
    · subst h4
      cases hq : rdCount 300 t with
      | none => exact readVal_node_no b sa cap bs t w hR hq
      | some y => exact readVal_node b sa cap bs t y.1 y.2 w hR hq
    exact readVal_other b sa cap bs t x w hR (by omega)

end Go.Proofs.YtmdpmdmilgbfiaaGreatDoor
