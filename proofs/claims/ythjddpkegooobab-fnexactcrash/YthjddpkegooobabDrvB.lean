/-
  DRVB: long values that are built. Own work.
-/
import Derived.Test.YthjddpkegooobabDrvA
import Derived.Test.YthjddpkegooobabRegionU
import Derived.Great.BuildSlice
namespace Go.Proofs.Ythjddpkegooobab
open Go.RowKit

theorem fold_set (off : Nat) : ∀ (vs : List Value) (k : Nat) (base : Array Value) (_ : off + k + vs.length ≤ base.size),
    ((vs.zipIdx k).foldl (fun cs x => cs.setIfInBounds (off + x.2) x.1) base).toList = base.toList.take (off + k) ++ vs ++ base.toList.drop (off + k + vs.length)
  | [], k, base, _ => by simp
  | v :: r, k, base, h => by
    have h' : off + (k + 1) + r.length ≤ (base.setIfInBounds (off + k) v).size := by simp only [List.length_cons] at h; simp; omega
    simp only [List.zipIdx_cons, List.foldl_cons]
    rw [fold_set off r (k + 1) _ h']
    have hk : off + k < base.toList.length := by simp only [List.length_cons] at h; simp; omega
    have e3 : (base.toList.take (off + k) ++ [base.toList[off + k]]).set (off + k) v = base.toList.take (off + k) ++ [v] := by
      have hl : (base.toList.take (off + k)).length = off + k := by rw [List.length_take]; omega
      rw [List.set_append, if_neg (by omega), hl, Nat.sub_self]
      rfl
    rw [Array.toList_setIfInBounds, show off + (k + 1) = off + k + 1 by omega, List.take_set, List.take_succ_eq_append_getElem hk, e3, List.drop_set_of_lt (by omega)]
    simp only [List.length_cons, List.append_assoc, List.cons_append, List.nil_append]
    rw [show off + k + (r.length + 1) = off + k + 1 + r.length by omega]

theorem fill_one (C base : Array Value) (off : Nat) (h : off + C.size ≤ base.size) :
    C.zipIdx.foldl (fun cs x => cs.setIfInBounds (off + x.2) x.1) base = (base.toList.take off ++ C.toList ++ base.toList.drop (off + C.size)).toArray := by
  have := fold_set off C.toList 0 base (by simpa using h)
  apply Array.ext'
  rw [← Array.foldl_toList, Array.toList_zipIdx, this]
  simp

set_option maxRecDepth 100000 in
theorem built_pending (parts : List (Nat × Value)) : Try.prog.built 184 parts = Instr.fill (fun i => (#[(0, 1), (1, 64)] : Array (Nat × Nat))[i]?) (.int .i64 0 :: zeros 64).toArray parts := by kernel_rfl

theorem pend_built (x : DW) (h : x.bytes.length = 64) : Try.prog.built 184 [(0, .int .i64 x.block), (1, .agg (bcells x.bytes).toArray)] = some x.pc.toArray := by
  rw [built_pending]
  have hl : (bcells x.bytes).length = 64 := by rw [bcells_length, h]
  have hz : (zeros 64).length = 64 := by simp [zeros]
  have e1 := fill_one #[.int .i64 x.block] (.int .i64 0 :: zeros 64).toArray 0 (by simp)
  have e2 := fill_one (bcells x.bytes).toArray (.int .i64 x.block :: zeros 64).toArray 1 (by simp [hl, hz])
  have s1 : Value.cells (.int .i64 x.block) = #[.int .i64 x.block] := rfl
  have s2 : Value.cells (.agg (bcells x.bytes).toArray) = (bcells x.bytes).toArray := rfl
  simp only [Instr.fill, s1, s2, List.getElem?_toArray, List.getElem?_cons_zero, List.getElem?_cons_succ]
  rw [e1]
  simp only [List.take_zero, List.nil_append, List.size_toArray, List.length_cons, List.length_nil, Nat.zero_add, List.drop_succ_cons, List.drop_zero, List.cons_append]
  rw [e2]
  simp [hl, hz, DW.pc]

theorem fill_whole (C base : Array Value) (place : Nat → Option (Nat × Nat)) (n : Nat) (hp : place 0 = some (0, n)) (hC : C.size = n) (hb : base.size = n) : Instr.fill place base [(0, .agg C)] = some C := by
  have e := fill_one C base 0 (by omega)
  have s : Value.cells (.agg C) = C := rfl
  simp only [Instr.fill, hp, s]
  rw [if_neg (by simp; omega), e, List.drop_eq_nil_of_le (by simp; omega)]
  simp

theorem yieldsIf_build {P : Program} {ops : Array Oper} {S : World → Prop} {op : Oper} {a : Act} (hw : Region.wanted op (yielded ops a.tmps) = true) (t : TypeId) (parts : Array (Nat × Operand)) (ho : op.op = .build t parts) (cells : Array Value)
    (h : P.built t (parts.map fun (i, x) => (i, a.eval x)).toList = some cells) : YieldsIf P ops S op (.agg cells) a :=
  .inl ⟨hw, fun w _ => by
    unfold execOp
    simp only [ho, Sem.run_bind, run_build w t _ cells h, Result.andThen_ok]
    rfl⟩

set_option maxRecDepth 100000 in
theorem run_arrayAt (u : World) (a : Option Addr) (c : Nat) : (Instr.arrayAt 121 (.slice a 64 c)).run Try.prog u = .ok (.pointer a) u := by
  simp [Instr.arrayAt, run_underlying Try.underlying121]

end Go.Proofs.Ythjddpkegooobab
