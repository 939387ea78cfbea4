import Derived.Deep.MidRow
import Derived.Deep.WholeRow
import Derived.Deep.RegionHeld3
import Derived.Great.BuildSlice
import Derived.Test.YtmdpmdmilgbfiaaGreatDoorPartA

/-
  OPLAIN: ops as lists, and how they lie in memory. Own work.
-/
namespace Go.Proofs.YtmdpmdmilgbfiaaGreatDoor
open Go.RowKit

set_option maxRecDepth 100000 in
theorem info_implOp : (Tryz.prog.info? 101).map (fun i => (i.zero, i.size, i.bytes)) = some (some (.agg #[.bool false, .int .i64 0, .slice none 0 0]), 3, 40) := by kernel_rfl

structure OP where
  sync : Bool
  block : Int
  bytes : List Nat
  deriving Inhabited
abbrev OP.val (x : OP) (a : Option Addr) (cap : Nat) : Value := .agg #[.bool x.sync, .int .i64 x.block, .slice a x.bytes.length cap]
def syncO : OP := ⟨true, 0, []⟩

structure OpsOk (ls : List OP) : Prop where
  len : ls.length ≤ maxLen
  bl : ∀ x, x ∈ ls → I64 x.block
  by_ : ∀ x, x ∈ ls → BOk x.bytes

/-- ops at a place -/
def OpsAt (w : World) (a : Option Addr) (ls : List OP) : Prop :=
  ∀ i, i < ls.length → ∃ b off a' cap, a = some ⟨b, off, none⟩ ∧ w.cell? ⟨b, off + i * 3, none⟩ = some (.bool ls[i]!.sync) ∧ w.cell? ⟨b, off + i * 3 + 1, none⟩ = some (.int .i64 ls[i]!.block) ∧ w.cell? ⟨b, off + i * 3 + 2, none⟩ = some (.slice a' ls[i]!.bytes.length cap) ∧ BytesAt w a' ls[i]!.bytes
theorem OpsAt.get {w : World} {a : Option Addr} {ls : List OP} (h : OpsAt w a ls) {k : Nat} (hk : k < ls.length) :
    ∃ x b off a' cap, Hid (x = ls[k]!) ∧ x ∈ ls ∧ a = some ⟨b, off, none⟩ ∧ w.cell? ⟨b, off + k * 3, none⟩ = some (.bool x.sync) ∧ w.cell? ⟨b, off + k * 3 + 1, none⟩ = some (.int .i64 x.block) ∧ w.cell? ⟨b, off + k * 3 + 2, none⟩ = some (.slice a' x.bytes.length cap) ∧ BytesAt w a' x.bytes := by
  obtain ⟨b, off, a', cap, ha, hc, hc1, hc2, hb⟩ := h k hk
  exact ⟨ls[k]!, b, off, a', cap, rfl, mem_at hk, ha, hc, hc1, hc2, hb⟩
theorem OpsAt.grow {w w' : World} {a : Option Addr} {ls : List OP} (h : OpsAt w a ls) (hb : Below w.heap.size w w') : OpsAt w' a ls := fun i hi => by
  obtain ⟨b, off, a', cap, ha, hc, hc1, hc2, hx⟩ := h i hi
  exact ⟨b, off, a', cap, ha, (World.cell?_of_block (w := w) (hb.block b (World.block_lt_of_cell? _ _ hc))).trans hc, (World.cell?_of_block (w := w) (hb.block b (World.block_lt_of_cell? _ _ hc1))).trans hc1, (World.cell?_of_block (w := w) (hb.block b (World.block_lt_of_cell? _ _ hc2))).trans hc2, hx.grow hb⟩

/-- ops that may be marked -/
structure MOs (w : World) (lo hi : Nat) (a : Option Addr) (n : Nat) (S : Nat → Bool) (B : Nat → Int) (F : Nat → List Nat) (fa : Nat → Option Addr) (fc : Nat → Nat) : Prop where
  row : 0 < n → ∃ g m f, a = some ⟨g, 0, none⟩ ∧ lo ≤ g ∧ g < hi ∧ w.rowIs g 101 m f ∧ n * 3 ≤ m ∧ ∀ i, i < n → f (i * 3) = .bool (S i) ∧ f (i * 3 + 1) = .int .i64 (B i) ∧ f (i * 3 + 2) = .slice (fa i) (F i).length (fc i)
  byt : ∀ i, i < n → BB w lo hi (fa i) (F i)
  far : ∀ i j, i < j → j < n → F i ≠ [] → F j ≠ [] → Apart (fa i) (fa j)
theorem MOs.ne {w : World} {lo hi : Nat} {a : Option Addr} {n : Nat} {S : Nat → Bool} {B : Nat → Int} {F : Nat → List Nat} {fa : Nat → Option Addr} {fc : Nat → Nat} (h : MOs w lo hi a n S B F fa fc) {i j : Nat} (hi : i < n) (hj : j < n) (hij : i ≠ j) (h1 : F i ≠ []) (h2 : F j ≠ []) : Apart (fa i) (fa j) := by
  rcases Nat.lt_or_gt_of_ne hij with e | e
  · exact h.far i j e hj h1 h2
  · exact (h.far j i e hi h2 h1).symm
def IsO (w : World) (b : Nat) : Prop := ∃ c, w.heap[b]? = some (.cells c 101 (0, 0))
theorem rowIs_isO {w : World} {b n : Nat} {f : Nat → Value} (h : w.rowIs b 101 n f) : IsO w b := let ⟨c, hc, _⟩ := h; ⟨c, hc⟩
theorem not_B_of_O {w : World} {b : Nat} (h : IsO w b) : ¬ IsB w b := fun ⟨c, hc⟩ => by
  obtain ⟨c', hc'⟩ := h
  rw [hc] at hc'
  simp at hc'
theorem MOs.tb {w : World} {lo hi : Nat} {a : Option Addr} {n : Nat} {S : Nat → Bool} {B : Nat → Int} {F : Nat → List Nat} {fa : Nat → Option Addr} {fc : Nat → Nat} (h : MOs w lo hi a n S B F fa fc) {b : Nat} (hb : TB n F fa b) : lo ≤ b ∧ b < hi ∧ IsB w b := by
  obtain ⟨i, hi, hn, e⟩ := hb
  rcases h.byt i hi with h0 | ⟨G, m, h1, h2, h3, h4⟩
  · exact absurd h0 hn
  · rw [e] at h1
    obtain rfl := some_addr h1
    exact ⟨h2, h3, h4.isB⟩
theorem MOs.out {p : Nat → Prop} {w w' : World} {lo hi : Nat} {a : Option Addr} {n : Nat} {S : Nat → Bool} {B : Nat → Int} {F : Nat → List Nat} {fa : Nat → Option Addr} {fc : Nat → Nat} (h : MOs w lo hi a n S B F fa fc) (k : Kept p w w') (hp : ∀ b, lo ≤ b → b < hi → ¬ p b) : MOs w' lo hi a n S B F fa fc :=
  ⟨fun h0 => let ⟨g, m, f, h1, h2, h3, h4, h5⟩ := h.row h0; ⟨g, m, f, h1, h2, h3, k.rowIs h4 (hp g h2 h3), h5⟩, fun i hi => (h.byt i hi).kept k (fun b hb hne => let r := (h.byt i hi).range hb hne; hp b r.1 r.2), h.far⟩
theorem MOs.grow {w w' : World} {lo hi : Nat} {a : Option Addr} {n : Nat} {S : Nat → Bool} {B : Nat → Int} {F : Nat → List Nat} {fa : Nat → Option Addr} {fc : Nat → Nat} (h : MOs w lo hi a n S B F fa fc) (hb : Below w.heap.size w w') : MOs w' lo hi a n S B F fa fc := h.out (Kept.of_below hb (fun _ => False)) (fun _ _ _ e => e)
theorem MOs.congr {w : World} {lo hi : Nat} {a : Option Addr} {n : Nat} {S T : Nat → Bool} {B C : Nat → Int} {F G : Nat → List Nat} {fa : Nat → Option Addr} {fc : Nat → Nat} (h : MOs w lo hi a n S B F fa fc) (eS : ∀ i, i < n → T i = S i) (eB : ∀ i, i < n → C i = B i) (e : ∀ i, i < n → G i = F i) : MOs w lo hi a n T C G fa fc :=
  ⟨fun h0 => let ⟨g, m, f, h1, h2, h3, h4, h5, h6⟩ := h.row h0; ⟨g, m, f, h1, h2, h3, h4, h5, fun i hi => by rw [e i hi, eB i hi, eS i hi]; exact h6 i hi⟩, fun i hi => by rw [e i hi]; exact h.byt i hi, fun i j hij hj h1 h2 => h.far i j hij hj (by rw [← e i (by omega)]; exact h1) (by rw [← e j hj]; exact h2)⟩
theorem MOs.at_ {w : World} {lo hi : Nat} {a : Option Addr} {ls : List OP} {fa : Nat → Option Addr} {fc : Nat → Nat} (h : MOs w lo hi a ls.length (fun i => ls[i]!.sync) (fun i => ls[i]!.block) (fun i => ls[i]!.bytes) fa fc) : OpsAt w a ls := fun i hi => by
  obtain ⟨g, m, f, h1, _, _, h4, h5, h6⟩ := h.row (by omega)
  obtain ⟨e0, e1, e2⟩ := h6 i hi
  refine ⟨g, 0, fa i, fc i, h1, ?_, ?_, ?_, (h.byt i hi).bytes⟩
  · rw [Nat.zero_add, ← e0]; exact h4.cell (by omega)
  · rw [Nat.zero_add, ← e1]; exact h4.cell (by omega)
  · rw [Nat.zero_add, ← e2]; exact h4.cell (by omega)

/-- where the marks end -/
def oE (F : Nat → List Nat) (k : Nat) : Nat → Nat
  | 0 => k
  | j + 1 => oE F k j + 2 + (F j).length
def oS (F : Nat → List Nat) (k i : Nat) : Bool := decide (oE F k i % 3 = 0)
theorem oE_le (F : Nat → List Nat) (k : Nat) : ∀ {i j : Nat}, i ≤ j → oE F k i ≤ oE F k j
  | i, 0, h => by obtain rfl : i = 0 := by omega
                  exact Nat.le_refl _
  | i, j + 1, h => by
    by_cases e : i = j + 1
    · subst e; exact Nat.le_refl _
    · have := oE_le F k (show i ≤ j by omega)
      simp only [oE]; omega
def szOs : List OP → Int
  | [] => 0
  | x :: r => x.bytes.length + szOs r
theorem szOs_nonneg (l : List OP) : 0 ≤ szOs l := by
  induction l with
  | nil => simp [szOs]
  | cons v r ih => simp only [szOs]; omega
theorem szOs_append (a b : List OP) : szOs (a ++ b) = szOs a + szOs b := by
  induction a with
  | nil => simp [szOs]
  | cons v r ih => simp only [List.cons_append, szOs, ih]; omega
theorem szOs_take_succ (l : List OP) (k : Nat) (h : k < l.length) : szOs (l.take (k + 1)) = szOs (l.take k) + l[k]!.bytes.length := by
  rw [take_snoc l k h, szOs_append]; simp [szOs]
theorem szOs_take_le (l : List OP) (k : Nat) : szOs (l.take k) ≤ szOs l := by
  have h : szOs l = szOs (l.take k) + szOs (l.drop k) := by rw [← szOs_append, List.take_append_drop]
  have := szOs_nonneg (l.drop k); omega
theorem szOs_mem {l : List OP} {x : OP} (h : x ∈ l) : (x.bytes.length : Int) ≤ szOs l := by
  induction l with
  | nil => cases h
  | cons y r ih =>
    have := szOs_nonneg r
    simp only [szOs]
    cases List.mem_cons.1 h with
    | inl e => subst e; omega
    | inr e => have := ih e; omega
theorem oE_sz (ls : List OP) (k : Nat) : ∀ j, j ≤ ls.length → (oE (fun i => ls[i]!.bytes) k j : Int) = k + 2 * j + szOs (ls.take j)
  | 0, _ => by simp [oE, szOs]
  | j + 1, h => by
    have ih := oE_sz ls k j (by omega)
    rw [szOs_take_succ ls j (by omega)]
    simp only [oE]
    omega
def oEnd (ls : List OP) (k : Nat) : Nat := oE (fun i => ls[i]!.bytes) k ls.length

end Go.Proofs.YtmdpmdmilgbfiaaGreatDoor

/-
  DOK: both DiskOk. Own work.
-/
namespace Go.Proofs.YtmdpmdmilgbfiaaGreatDoor
open Go.RowKit

/-- a write that a disk may have -/
def wrOk (x : DW) : Bool := decide (0 ≤ x.block) && decide (x.block < 130) && decide (x.bytes.length = 64)
def blOk (b : List Nat) : Bool := decide (b.length = 64)
def DD.ok (d : DD) : Bool := decide (d.blocks.length = 130) && decide (d.waiting.length ≤ 200) && d.blocks.all blOk && d.waiting.all wrOk

theorem dall_take_succ {α : Type} [Inhabited α] (p : α → Bool) (l : List α) (k : Nat) (h : k < l.length) : (l.take (k + 1)).all p = ((l.take k).all p && p l[k]!) := by
  rw [take_snoc l k h]; simp
theorem all_take_false {α : Type} [Inhabited α] (p : α → Bool) (l : List α) (k : Nat) (h : k < l.length) (hp : p l[k]! = false) : l.all p = false := by
  rw [List.all_eq_false]
  exact ⟨l[k]!, mem_at h, by rw [hp]; exact Bool.false_ne_true⟩

set_option maxRecDepth 100000 in
theorem hasBlock_any (b : Int) (w : World) (_hb : I64 b) :
    Calls Tryz.prog 108 #[.int .i64 b] w fun e w' => e = .returned (.bool (decide (0 ≤ b) && decide (b < 130))) ∧ Below w.heap.size w w' := by
  by_cases h0 : b < 0
  · have h1 : ¬ (b ≥ 0) := by omega
    go_enter Tryz.func108, Tryz.ntmps108
    go_wp2
    all_goals go_ret
    all_goals exact ⟨by simp; omega, by first | exact gre _ | exact gal (gre _) _⟩
  · have h1 : b ≥ 0 := by omega
    by_cases h2 : b < 130
    · go_enter Tryz.func108, Tryz.ntmps108
      go_wp2
      all_goals go_ret
      all_goals exact ⟨by simp [], by first | exact gre _ | exact gal (gre _) _⟩
    · go_enter Tryz.func108, Tryz.ntmps108
      go_wp2
      all_goals go_ret
      all_goals exact ⟨by simp; omega, by first | exact gre _ | exact gal (gre _) _⟩

end Go.Proofs.YtmdpmdmilgbfiaaGreatDoor

/-
  DSEM: what disks do, plainly. Own work.
-/
namespace Go.Proofs.YtmdpmdmilgbfiaaGreatDoor

/-- a write carried out -/
def setB (bl : List (List Nat)) (x : DW) : List (List Nat) := bl.set x.block.toNat x.bytes
/-- the blocks behind the first j writes, of which those are carried out that are kept -/
def settleN (keep : Nat → Bool) (bl : List (List Nat)) (ws : List DW) : Nat → List (List Nat)
  | 0 => bl
  | j + 1 => if keep j = true then setB (settleN keep bl ws j) ws[j]! else settleN keep bl ws j
/-- what a block reads as behind the first j writes -/
def readN (bl : List (List Nat)) (ws : List DW) (b : Int) : Nat → List Nat
  | 0 => bl[b.toNat]!
  | j + 1 => if ws[j]!.block = b then ws[j]!.bytes else readN bl ws b j

def zeroD : DD := ⟨[], []⟩
def blankD : DD := ⟨List.replicate 130 (List.replicate 64 0), []⟩
def DD.put (d : DD) (b : Int) (bs : List Nat) : DD := if (d.ok && wrOk ⟨b, bs⟩ && decide (d.waiting.length ≠ 200)) = true then ⟨d.blocks, d.waiting ++ [⟨b, bs⟩]⟩ else zeroD
def DD.settle (d : DD) (keep : Nat → Bool) : DD := if d.ok = true then ⟨settleN keep d.blocks d.waiting d.waiting.length, []⟩ else zeroD
def DD.read (d : DD) (b : Int) : List Nat := if (d.ok && (decide (0 ≤ b) && decide (b < 130))) = true then readN d.blocks d.waiting b d.waiting.length else []

structure DD.Fit (d : DD) : Prop where
  bl : d.blocks.length = 130
  wl : d.waiting.length ≤ 200
  bb : ∀ b, b ∈ d.blocks → b.length = 64
  wb : ∀ x, x ∈ d.waiting → 0 ≤ x.block ∧ x.block < 130 ∧ x.bytes.length = 64
theorem DD.fit {d : DD} (h : d.ok = true) : d.Fit := by
  unfold DD.ok at h
  simp only [Bool.and_eq_true, decide_eq_true_eq, List.all_eq_true] at h
  obtain ⟨⟨⟨h1, h2⟩, h3⟩, h4⟩ := h
  refine ⟨h1, h2, fun b hb => by simpa [blOk] using h3 b hb, fun x hx => ?_⟩
  have := h4 x hx
  simp only [wrOk, Bool.and_eq_true, decide_eq_true_eq] at this
  exact ⟨this.1.1, this.1.2, this.2⟩

theorem setB_length (bl : List (List Nat)) (x : DW) : (setB bl x).length = bl.length := by simp [setB]
theorem settleN_length (keep : Nat → Bool) (bl : List (List Nat)) (ws : List DW) : ∀ j, (settleN keep bl ws j).length = bl.length
  | 0 => rfl
  | j + 1 => by
    simp only [settleN]
    split
    · rw [setB_length, settleN_length keep bl ws j]
    · exact settleN_length keep bl ws j
theorem setB_all {p : List Nat → Prop} {bl : List (List Nat)} {x : DW} (h : ∀ b, b ∈ bl → p b) (hx : p x.bytes) : ∀ b, b ∈ setB bl x → p b := fun b hb => by
  rcases List.mem_or_eq_of_mem_set hb with h1 | h1
  · exact h b h1
  · rw [h1]; exact hx
theorem settleN_all {p : List Nat → Prop} {keep : Nat → Bool} {bl : List (List Nat)} {ws : List DW} (h : ∀ b, b ∈ bl → p b) (hw : ∀ x, x ∈ ws → p x.bytes) : ∀ j, j ≤ ws.length → ∀ b, b ∈ settleN keep bl ws j → p b
  | 0, _ => h
  | j + 1, hj => by
    simp only [settleN]
    split
    · exact setB_all (settleN_all h hw j (by omega)) (hw _ (mem_at (by omega)))
    · exact settleN_all h hw j (by omega)
theorem setB_get {bl : List (List Nat)} {x : DW} {i : Nat} (hi : i < bl.length) : (setB bl x)[i]! = if i = x.block.toNat then x.bytes else bl[i]! := by
  rw [getElem!_pos _ i (by rw [setB_length]; exact hi), getElem!_pos bl i hi]
  simp only [setB, List.getElem_set]
  split
  · rename_i e; rw [if_pos e.symm]
  · rename_i e; rw [if_neg (fun e2 => e e2.symm)]
theorem readN_mem {p : List Nat → Prop} {bl : List (List Nat)} {ws : List DW} {b : Int} (h : ∀ x, x ∈ bl → p x) (hw : ∀ x, x ∈ ws → p x.bytes) (hb : b.toNat < bl.length) : ∀ j, j ≤ ws.length → p (readN bl ws b j)
  | 0, _ => h _ (mem_at hb)
  | j + 1, hj => by
    simp only [readN]
    split
    · exact hw _ (mem_at (by omega))
    · exact readN_mem h hw hb j (by omega)

end Go.Proofs.YtmdpmdmilgbfiaaGreatDoor

/-
  DRVA: long arrays, and a drive in memory. Own work.
-/
namespace Go.Proofs.YtmdpmdmilgbfiaaGreatDoor
open Go.RowKit

section
variable {P : Program}
/-- a variable of many cells is made -/
theorem wpList_alloc_big {ops : Array Oper} {rest : List Oper} {op : Oper} {a : Act} {w : World} {Q : Exit → Act → World → Prop} (hgd : op.guard = none) (ty : TypeId) (ho : op.op = .alloc ty) (Z : Array Value) (hz : ∀ u, (zeroValue ty).run P u = .ok (.agg Z) u)
    (h : wpList P ops Q rest (a.put op.dst (.pointer (some ⟨w.heap.size, 0, none⟩))) (w.alloc (.cells Z ty))) : wpList P ops Q (op :: rest) a w :=
  wpList_plain hgd fun K hK => by
    unfold Oper.wp execOp
    simp only [ho, Instr.alloc, Sem.run_bind, hz, Result.andThen_ok]
    exact hK _ _ h
/-- a whole value goes into the variable that was made last -/
theorem wpList_store_new {ops : Array Oper} {rest : List Oper} {op : Oper} {a : Act} {w : World} {Q : Exit → Act → World → Prop} (hgd : op.guard = none) (ty : TypeId) (x y : Operand) (ho : op.op = .store ty x y)
    (Z C : Array Value) (hx : a.eval x = .pointer (some ⟨w.heap.size, 0, none⟩)) (hy : a.eval y = .agg C) (hi : (P.info? ty).map (·.size) = some C.size) (hs : Z.size = C.size) (h1 : C.all (·.oneCell') = true)
    (h : wpList P ops Q rest (a.put op.dst undef) (w.alloc (.cells C ty))) : wpList P ops Q (op :: rest) a (w.alloc (.cells Z ty)) :=
  wpList_plain hgd fun K hK => by
    unfold Oper.wp execOp
    simp only [ho, hx, hy, Sem.run_bind, run_storeAt_new (P := P) w ty Z C hi hs h1, Result.andThen_ok]
    exact hK _ _ h
end

set_option maxRecDepth 100000 in
theorem size_content : (Tryz.prog.info? 106).map (·.size) = some 64 := by kernel_rfl
set_option maxRecDepth 100000 in
theorem size_contents : (Tryz.prog.info? 107).map (·.size) = some 8320 := by kernel_rfl
set_option maxRecDepth 100000 in
theorem size_pending : (Tryz.prog.info? 160).map (·.size) = some 65 := by kernel_rfl
set_option maxRecDepth 100000 in
theorem size_drive : (Tryz.prog.info? 110).map (·.size) = some 8322 := by kernel_rfl

/-- zeros -/
def zeros (n : Nat) : List Value := List.replicate n (.int .u8 0)
set_option maxRecDepth 100000 in
theorem zero_content : (Tryz.prog.info? 106).map (fun i => (i.zero, i.size)) = some (some (.agg (zeros 64).toArray), 64) := by kernel_rfl
set_option maxRecDepth 100000 in
theorem zero_pending : (Tryz.prog.info? 160).map (fun i => (i.zero, i.size)) = some (some (.agg (.int .i64 0 :: zeros 64).toArray), 65) := by kernel_rfl
set_option maxRecDepth 100000 in
theorem info_pending : (Tryz.prog.info? 160).map (fun i => (i.zero, i.size, i.bytes)) = some (some (.agg (.int .i64 0 :: zeros 64).toArray), 65, 72) := by kernel_rfl
set_option maxRecDepth 100000 in
theorem zero_drive : (Tryz.prog.info? 110).map (fun i => (i.zero, i.size)) = some (some (.agg (zeros 8320 ++ [Value.slice none 0 0, Value.nilFunc]).toArray), 8322) := by kernel_rfl

theorem cells_u8 {bs : List Nat} : ∀ v, v ∈ bcells bs → v.oneCell' = true := fun v hv => by obtain ⟨x, _, rfl⟩ := List.mem_map.1 hv; rfl
theorem bytes_range {w : World} {b off : Nat} {bs : List Nat} (h : w.rangeAt b off (bcells bs)) : BytesAt w (some ⟨b, off, none⟩) bs := fun i hi => ⟨b, off, rfl, h i _ (bcells_get hi)⟩
theorem range_bytes {w : World} {b off : Nat} {bs : List Nat} (h : BytesAt w (some ⟨b, off, none⟩) bs) : w.rangeAt b off (bcells bs) := fun j v hj => by
  have hjl : j < bs.length := by have := (List.getElem?_eq_some_iff.1 hj).1; rwa [bcells_length] at this
  obtain ⟨b', off', e, hc⟩ := h j hjl
  have e' : b' = b ∧ off' = off := by
    have := Option.some.inj e
    exact ⟨(congrArg Addr.block this).symm, (congrArg Addr.off this).symm⟩
  obtain ⟨rfl, rfl⟩ := e'
  rw [hc, ← bcells_get hjl, hj]
theorem range_same {w w' : World} {b o : Nat} {cs : List Value} (h : w.rangeAt b o cs) (e : w'.heap[b]? = w.heap[b]?) : w'.rangeAt b o cs := fun j v hj => (World.cell?_of_block (w := w) e).trans (h j v hj)
theorem there_same {w w' : World} {b o n : Nat} (h : w.there b o n) (e : w'.heap[b]? = w.heap[b]?) : w'.there b o n := fun j hj => ⟨by rw [World.cell?_of_block (w := w) e]; exact (h j hj).1, (World.frozen?_of_block (w := w) e).trans (h j hj).2⟩
theorem range_new (w : World) (cs : List Value) (t : TypeId) : (w.alloc (.cells cs.toArray t)).rangeAt w.heap.size 0 cs := fun j v hj => by
  rw [cell_of_row _ _ _ _ _ _ (heap_alloc_last w (.cells cs.toArray t)), Nat.zero_add]
  simpa using hj
theorem there_new (w : World) (cs : List Value) (t : TypeId) : (w.alloc (.cells cs.toArray t)).there w.heap.size 0 cs.length := fun j hj => by
  refine ⟨?_, ?_⟩
  · rw [cell_of_row _ _ _ _ _ _ (heap_alloc_last w (.cells cs.toArray t)), Nat.zero_add]
    simp [hj]
  · simp
theorem range_drop {w : World} {b o : Nat} {cs ds : List Value} (h : w.rangeAt b o (cs ++ ds)) : w.rangeAt b (o + cs.length) ds := fun j v hj => by
  have := h (cs.length + j) v (by rw [List.getElem?_append_right (by omega)]; simpa using hj)
  rwa [← Nat.add_assoc] at this
theorem range_take {w : World} {b o : Nat} {cs ds : List Value} (h : w.rangeAt b o (cs ++ ds)) : w.rangeAt b o cs := fun j v hj => h j v (by rw [List.getElem?_append_left ((List.getElem?_eq_some_iff.1 hj).1)]; exact hj)
theorem there_part {w : World} {b o n o' n' : Nat} (h : w.there b o n) (h1 : o ≤ o') (h2 : o' + n' ≤ o + n) : w.there b o' n' := fun j hj => by
  have := h (o' - o + j) (by omega)
  rwa [show o + (o' - o + j) = o' + j by omega] at this
theorem Kept.setCells {p : Nat → Prop} {b : Nat} : ∀ (vs : List Value) (o : Nat) {w w' : World}, Kept p w w' → (b < w.heap.size → p b) → Kept p w (w'.setCells b o vs)
  | [], _, _, _, h, _ => h
  | v :: r, o, _w, _w', h, hb => Kept.setCells r (o + 1) (h.set (a := ⟨b, o, none⟩) hb v) hb

/-- a drive in memory: its blocks, its writes' slice, its function -/
structure Drv (w : World) (p : Nat) (bl : List (List Nat)) (s k : Value) : Prop where
  lt : p < w.heap.size
  len : bl.length = 130
  bb : ∀ i, i < 130 → bl[i]!.length = 64
  rng : ∀ i, i < 130 → w.rangeAt p (i * 64) (bcells bl[i]!)
  th : w.there p 0 8322
  ws : w.cell? ⟨p, 8320, none⟩ = some s
  kf : w.cell? ⟨p, 8321, none⟩ = some k
theorem Drv.same {w w' : World} {p : Nat} {bl : List (List Nat)} {s k : Value} (h : Drv w p bl s k) (e : w'.heap[p]? = w.heap[p]?) (hl : p < w'.heap.size) : Drv w' p bl s k :=
  ⟨hl, h.len, h.bb, fun i hi => range_same (h.rng i hi) e, there_same h.th e, (World.cell?_of_block (w := w) e).trans h.ws, (World.cell?_of_block (w := w) e).trans h.kf⟩
theorem Drv.kept {q : Nat → Prop} {w w' : World} {p : Nat} {bl : List (List Nat)} {s k : Value} (h : Drv w p bl s k) (K : Kept q w w') (hn : ¬ q p) : Drv w' p bl s k := h.same (K.block p h.lt hn) (Nat.lt_of_lt_of_le h.lt K.size)
theorem Drv.grow {w w' : World} {p : Nat} {bl : List (List Nat)} {s k : Value} (h : Drv w p bl s k) (hb : Below w.heap.size w w') : Drv w' p bl s k := h.same (hb.block p h.lt) (Nat.lt_of_lt_of_le h.lt hb.size)
theorem Drv.frozen {w : World} {p : Nat} {bl : List (List Nat)} {s k : Value} (h : Drv w p bl s k) {o : Nat} (ho : o < 8322) : w.frozen? ⟨p, o, none⟩ = false := by
  have := (h.th o ho).2
  rwa [Nat.zero_add] at this
/-- a block is written -/
theorem Drv.setB {w : World} {p : Nat} {bl : List (List Nat)} {s k : Value} (h : Drv w p bl s k) {x : DW} (h0 : 0 ≤ x.block) (h1 : x.block < 130) (hl : x.bytes.length = 64) : Drv (w.setCells p (x.block.toNat * 64) (bcells x.bytes)) p (setB bl x) s k := by
  have hi0 : x.block.toNat < 130 := by omega
  have hth := there_part h.th (Nat.zero_le (x.block.toNat * 64)) (n' := 64) (by omega)
  have hlen : (bcells x.bytes).length = 64 := by rw [bcells_length, hl]
  have hout : ∀ o, x.block.toNat * 64 + 64 ≤ o → (w.setCells p (x.block.toNat * 64) (bcells x.bytes)).cell? ⟨p, o, none⟩ = w.cell? ⟨p, o, none⟩ := fun o ho =>
    World.cell?_setCells_out p _ _ w ⟨p, o, none⟩ (fun _ _ => Or.inr (by rw [hlen]; exact ho))
  refine ⟨by have := (Kept.setCells (bcells x.bytes) (x.block.toNat * 64) (Kept.refl (fun b => b = p) w) (fun _ => rfl)).size; have := h.lt; omega, by rw [setB_length]; exact h.len, fun i hi => ?_, fun i hi => ?_, World.there_setCells h.th _ _ _, (hout _ (by omega)).trans h.ws, (hout _ (by omega)).trans h.kf⟩
  · rw [setB_get (by rw [h.len]; exact hi)]
    split
    · exact hl
    · exact h.bb i hi
  · rw [setB_get (by rw [h.len]; exact hi)]
    split
    · rename_i e; subst e
      exact World.rangeAt_setCells_same _ _ _ _ (by rw [hlen]; exact hth)
    · rename_i e
      refine World.rangeAt_setCells_apart (h.rng i hi) _ _ _ (Or.inr ?_)
      rw [bcells_length, h.bb i hi, hlen]
      omega
/-- its writes' slice is written -/
theorem Drv.setW {w : World} {p : Nat} {bl : List (List Nat)} {s k : Value} (h : Drv w p bl s k) (s' : Value) : Drv (w.setCell ⟨p, 8320, none⟩ s') p bl s' k := by
  refine ⟨by have := h.lt; simpa [World.setCell] using this, h.len, h.bb, fun i hi => ?_, ?_, World.cell?_setCell_same _ _ _ h.ws, (World.cell?_setCell_other _ _ _ _ (by simp)).trans h.kf⟩
  · exact World.rangeAt_setCells_apart (h.rng i hi) p 8320 [s'] (Or.inr (Or.inl (by rw [bcells_length, h.bb i hi]; omega)))
  · exact World.there_setCells h.th p 8320 [s']
theorem Drv.setK {w : World} {p : Nat} {bl : List (List Nat)} {s k : Value} (h : Drv w p bl s k) (k' : Value) : Drv (w.setCell ⟨p, 8321, none⟩ k') p bl s k' := by
  refine ⟨by have := h.lt; simpa [World.setCell] using this, h.len, h.bb, fun i hi => ?_, ?_, (World.cell?_setCell_other _ _ _ _ (by simp)).trans h.ws, World.cell?_setCell_same _ _ _ h.kf⟩
  · exact World.rangeAt_setCells_apart (h.rng i hi) p 8321 [k'] (Or.inr (Or.inl (by rw [bcells_length, h.bb i hi]; omega)))
  · exact World.there_setCells h.th p 8321 [k']

/-- a waiting write, as the drive has it -/
def DW.pc (x : DW) : List Value := .int .i64 x.block :: bcells x.bytes
def pCells (ws : List DW) : List Value := ws.flatMap DW.pc
theorem pCells_snoc (ws : List DW) (x : DW) : pCells (ws ++ [x]) = pCells ws ++ x.pc := by simp [pCells]
theorem pc_length {x : DW} (h : x.bytes.length = 64) : x.pc.length = 65 := by simp [DW.pc, bcells_length, h]
theorem pc_one {x : DW} : ∀ v, v ∈ x.pc → v.oneCell' = true := fun v hv => by
  rcases List.mem_cons.1 hv with e | e
  · subst e; rfl
  · exact cells_u8 v e
theorem pCells_get : ∀ (ws : List DW) (i j : Nat), (∀ x, x ∈ ws → x.bytes.length = 64) → i < ws.length → j < 65 → (pCells ws)[i * 65 + j]? = (ws[i]!.pc)[j]?
  | [], _, _, _, hi, _ => absurd hi (Nat.not_lt_zero _)
  | x :: r, 0, j, hw, _, hj => by
    have := pc_length (hw x (List.mem_cons_self ..))
    rw [pCells, List.flatMap_cons, Nat.zero_mul, Nat.zero_add, List.getElem?_append_left (by omega)]
    rfl
  | x :: r, i + 1, j, hw, hi, hj => by
    have hx := pc_length (hw x (List.mem_cons_self ..))
    have hlt : i < r.length := by simpa using hi
    have ih := pCells_get r i j (fun y hy => hw y (List.mem_cons_of_mem _ hy)) hlt hj
    rw [pCells, List.flatMap_cons, List.getElem?_append_right (by rw [hx, Nat.add_mul]; omega), hx, show (i + 1) * 65 + j - 65 = i * 65 + j by rw [Nat.add_mul]; omega]
    rw [pCells] at ih
    rw [ih, getElem!_pos r i hlt, getElem!_pos (x :: r) (i + 1) hi]
    rfl
theorem owns_pend {w : World} {base t n cap : Nat} {a : Option Addr} {ws : List DW} (ho : w.ownsRow base t 65 (.slice a n cap) n (pCells ws)) (hw : ∀ x, x ∈ ws → x.bytes.length = 64) {k : Nat} (hk : k < ws.length) : ∃ g, a = some ⟨g, 0, none⟩ ∧ base ≤ g ∧ g < w.heap.size ∧ w.rangeAt g (k * 65) (ws[k]!.pc) := by
  have hpl : (ws[k]!.pc).length = 65 := pc_length (hw _ (mem_at hk))
  have h0 : (pCells ws)[k * 65 + 0]? = some (.int .i64 ws[k]!.block) := (pCells_get ws k 0 hw hk (by omega)).trans rfl
  obtain ⟨g, ha, hb, hlt, _⟩ := owns_cell ho h0
  refine ⟨g, ha, hb, hlt, fun j v hj => ?_⟩
  have hj65 : j < 65 := by have := (List.getElem?_eq_some_iff.1 hj).1; omega
  obtain ⟨g', ha', _, _, hc⟩ := owns_cell ho ((pCells_get ws k j hw hk hj65).trans hj)
  rw [ha] at ha'
  obtain rfl := some_addr ha'
  exact hc

end Go.Proofs.YtmdpmdmilgbfiaaGreatDoor

/-
  REGIONU: a region that draws its order, whose last operation may turn what the others read. What holds (S) while the last one has not come up. Own work, over the library's own laws on orders.
-/
namespace Go.Proofs.YtmdpmdmilgbfiaaGreatDoor
open Go.RowKit

section
variable {P : Program} {ops : Array Oper} {Q : Exit → Act → World → Prop} {md : Region.Mode} {S : World → Prop} {lst : Nat}

/-- every order of what has not come up; behind each operation but the last S holds -/
def anyU (P : Program) (md : Region.Mode) (ops : Array Oper) (Q : Exit → Act → World → Prop) (S : World → Prop) (lst : Nat) : Nat → Array Bool → Act → World → Prop
  | 0, listed, a, w => Region.ready md ops listed = [] ∧ Q .normal a w
  | fuel + 1, listed, a, w =>
    (Region.ready md ops listed = [] → Q .normal a w) ∧
    ∀ i ∈ Region.ready md ops listed, wpOp P ops Q i (fun a' w' => (i ≠ lst → S w') ∧ anyU P md ops Q S lst fuel (listed.setIfInBounds i true) a' w') a w

theorem wpAny_of_U : ∀ (fuel : Nat) (listed : Array Bool) (a : Act) (w : World), anyU P md ops Q S lst fuel listed a w → wpAny P md ops Q fuel listed a w
  | 0, _, _, _, h => h
  | fuel + 1, _, _, _, h => ⟨h.1, fun i hi => wpOp_mono (fun a' w' h' => wpAny_of_U fuel _ a' w' h'.2) (h.2 i hi)⟩

theorem anyU_first {i : Nat} {oi : Oper} {v : Value} (hi : ops[i]? = some oi) (hsel : ∀ (j : Nat) (o : Oper) cs b, ops[j]? = some o → o.op ≠ .select cs b)
    (hQ : ∀ c a w, Q (.panic c) (a.put oi.dst v) w → Q (.panic c) a w)
    (hlst : ∀ oj, ops[lst]? = some oj → ∃ e ∈ oj.after, Region.binds md e = true ∧ e.on = i) (hil : i ≠ lst) :
    ∀ (fuel : Nat) (listed : Array Bool) (a : Act) (w : World),
      (∀ j oj, ops[j]? = some oj → j ≠ i → listed.getD j true = false → (∀ e ∈ oj.after, Region.binds md e = true → e.on ≠ i) → oi.apart ops oj = true) →
      i ∈ Region.ready md ops listed → YieldsIf P ops S oi v a → S w →
      anyU P md ops Q S lst fuel (listed.setIfInBounds i true) (a.put oi.dst v) w → anyU P md ops Q S lst (fuel + 1) listed a w := by
  intro fuel
  induction fuel with
  | zero =>
    intro listed a w _ hr hy hS H
    refine ⟨fun h => (by rw [h] at hr; cases hr), fun j hj => ?_⟩
    by_cases hji : j = i
    · subst hji; exact hy.wpOp hi hS ⟨fun _ => hS, H⟩
    · have h0 := ready_mono hj hji
      rw [H.1] at h0
      cases h0
  | succ fuel ih =>
    intro listed a w hfree hr hy hS H
    refine ⟨fun h => (by rw [h] at hr; cases hr), fun j hj => ?_⟩
    by_cases hji : j = i
    · subst hji; exact hy.wpOp hi hS ⟨fun _ => hS, H⟩
    · have h1 := H.2 j (ready_mono hj hji)
      obtain ⟨hjun, oj, hoj, hall⟩ := mem_ready.1 hj
      have hnot : ∀ e ∈ oj.after, Region.binds md e = true → e.on ≠ i := fun e he hb heq => by
        have h1 := hall e he hb
        have h0 := (mem_ready.1 hr).1
        rw [heq] at h1
        rcases Nat.lt_or_ge i listed.size with h' | h'
        · simp [h'] at h0 h1; rw [h0] at h1; cases h1
        · simp [Array.getElem?_eq_none h'] at h1
      have hjl : j ≠ lst := fun e => by
        subst e
        obtain ⟨e, he, hb, ho⟩ := hlst oj hoj
        exact hnot e he hb ho
      have h2 := wpOp_putIf hoj (hfree j oj hoj hji hjun hnot) (fun cs b => hsel i oi cs b hi) (fun cs b => hsel j oj cs b hoj) hQ hy h1
      have hfree' : ∀ k ok, ops[k]? = some ok → k ≠ i → (listed.setIfInBounds j true).getD k true = false →
          (∀ e ∈ ok.after, Region.binds md e = true → e.on ≠ i) → oi.apart ops ok = true := fun k ok hk hki hun hno => by
        refine hfree k ok hk hki ?_ hno
        by_cases hjk : j = k
        · subst hjk; exact hjun
        · rw [getD_set_ne true hjk] at hun; exact hun
      refine wpOp_mono (fun a' w' h3 => ⟨fun hl => h3.2.1 hl, ih (listed.setIfInBounds j true) a' w' hfree' (ready_mono hr (Ne.symm hji)) h3.1 (h3.2.1 hjl) ?_⟩) h2
      rw [Array.setIfInBounds_comm _ _ hji]
      exact h3.2.2

/-- the last waits for number i -/
def lastWaits (md : Region.Mode) (ops : Array Oper) (lst i : Nat) : Bool :=
  !(i == lst) && match ops[lst]? with
  | some oj => oj.after.any fun e => Region.binds md e && e.on == i
  | none => true

theorem anyU_take {i : Nat} {oi : Oper} {v : Value} {fuel : Nat} {listed : Array Bool} {a : Act} {w : World} (hi : ops[i]? = some oi)
    (hs : Region.noSelect ops = true) (hf : Region.free md ops listed i = true) (hr : (Region.ready md ops listed).contains i = true) (hl : lastWaits md ops lst i = true)
    (hQ : ∀ c a w, Q (.panic c) (a.put oi.dst v) w → Q (.panic c) a w) (hy : YieldsIf P ops S oi v a) (hS : S w)
    (h : anyU P md ops Q S lst fuel (listed.setIfInBounds i true) (a.put oi.dst v) w) : anyU P md ops Q S lst (fuel + 1) listed a w := by
  unfold lastWaits at hl
  simp only [Bool.and_eq_true, Bool.not_eq_true', beq_eq_false_iff_ne] at hl
  refine anyU_first hi (Region.noSelect_spec hs) hQ (fun oj hoj => ?_) hl.1 fuel listed a w (Region.free_spec hi hf) (by simpa using hr) hy hS h
  have h2 := hl.2
  rw [hoj] at h2
  obtain ⟨e, he, hb⟩ := Array.any_eq_true'.1 h2
  simp only [Bool.and_eq_true, beq_iff_eq] at hb
  exact ⟨e, he, hb.1, hb.2⟩

/-- one alone may come up, and it is not the last -/
theorem anyU_one {i : Nat} {o : Oper} {fuel : Nat} {listed : Array Bool} {a : Act} {w : World} (hr : Region.ready md ops listed = [i]) (ho : ops[i]? = some o)
    (h : ∀ K : Act → World → Prop, Shut (∀ a w, S w → anyU P md ops Q S lst fuel (listed.setIfInBounds i true) a w → K a w) → if Region.wanted o (yielded ops a.tmps) = true then Oper.wp P o a w K Q else K (a.put o.dst undef) w) :
    anyU P md ops Q S lst (fuel + 1) listed a w := by
  refine ⟨fun h0 => (by rw [hr] at h0; cases h0), fun j hj => ?_⟩
  rw [hr] at hj
  obtain rfl : j = i := by simpa using hj
  exact wpOp_step ho (fun K' hK => h K' (fun a w hS hW => hK a w ⟨fun _ => hS, hW⟩))

/-- the last -/
theorem anyU_last {o : Oper} {fuel : Nat} {listed : Array Bool} {a : Act} {w : World} (hr : Region.ready md ops listed = [lst]) (ho : ops[lst]? = some o) (hd : Region.ready md ops (listed.setIfInBounds lst true) = [])
    (h : ∀ K : Act → World → Prop, Shut (∀ a w, Q .normal a w → K a w) → if Region.wanted o (yielded ops a.tmps) = true then Oper.wp P o a w K Q else K (a.put o.dst undef) w) :
    anyU P md ops Q S lst (fuel + 1) listed a w := by
  refine ⟨fun h0 => (by rw [hr] at h0; cases h0), fun j hj => ?_⟩
  rw [hr] at hj
  obtain rfl : j = lst := by simpa using hj
  refine wpOp_step ho (fun K' hK => h K' (fun a w hQ => hK a w ⟨fun e => absurd rfl e, ?_⟩))
  cases fuel with
  | zero => exact ⟨hd, hQ⟩
  | succ f => exact ⟨fun _ => hQ, fun i hi => by rw [hd] at hi; cases hi⟩

theorem wp_regionU {id : Nat} {a : Act} {w : World} (S : World → Prop) (lst : Nat) (hm : P.follows .mixedOrders = true) (hS : S w.drew)
    (h : S w.drew → anyU P .any ops Q S lst ops.size (Array.replicate ops.size false) a w.drew) : (Code.region id ops true).wp P Q a w :=
  wp_region_any hm (wpAny_of_U _ _ _ _ (h hS))

end
end Go.Proofs.YtmdpmdmilgbfiaaGreatDoor

/-
  DRVB: long values that are built. Own work.
-/
namespace Go.Proofs.YtmdpmdmilgbfiaaGreatDoor
open Go.RowKit

theorem fold_set (off : Nat) : ∀ (vs : List Value) (k : Nat) (base : Array Value) (_ : off + k + vs.length ≤ base.size),
    ((vs.zipIdx k).foldl (fun cs x => cs.setIfInBounds (off + x.2) x.1) base).toList = base.toList.take (off + k) ++ vs ++ base.toList.drop (off + k + vs.length)
  | [], k, base, _ => by simp
  | v :: r, k, base, h => by
    have h' : off + (k + 1) + r.length ≤ (base.setIfInBounds (off + k) v).size := by simp only [List.length_cons] at h; simp; omega
    simp only [List.zipIdx_cons, List.foldl_cons]
    rw [fold_set off r (k + 1) _ h']
    have hk : off + k < base.toList.length := by simp only [List.length_cons] at h; simp; omega
    have e3 : (base.toList.take (off + k) ++ [base.toList[off + k]]).set (off + k) v = base.toList.take (off + k) ++ [v] := by
      have hl : (base.toList.take (off + k)).length = off + k := by rw [List.length_take]; omega
      rw [List.set_append, if_neg (by omega), hl, Nat.sub_self]
      rfl
    rw [Array.toList_setIfInBounds, show off + (k + 1) = off + k + 1 by omega, List.take_set, List.take_succ_eq_append_getElem hk, e3, List.drop_set_of_lt (by omega)]
    simp only [List.length_cons, List.append_assoc, List.cons_append, List.nil_append]
    rw [show off + k + (r.length + 1) = off + k + 1 + r.length by omega]

theorem fill_one (C base : Array Value) (off : Nat) (h : off + C.size ≤ base.size) :
    C.zipIdx.foldl (fun cs x => cs.setIfInBounds (off + x.2) x.1) base = (base.toList.take off ++ C.toList ++ base.toList.drop (off + C.size)).toArray := by
  have := fold_set off C.toList 0 base (by simpa using h)
  apply Array.ext'
  rw [← Array.foldl_toList, Array.toList_zipIdx, this]
  simp

set_option maxRecDepth 100000 in
theorem built_pending (parts : List (Nat × Value)) : Tryz.prog.built 160 parts = Instr.fill (fun i => (#[(0, 1), (1, 64)] : Array (Nat × Nat))[i]?) (.int .i64 0 :: zeros 64).toArray parts := by kernel_rfl

theorem pend_built (x : DW) (h : x.bytes.length = 64) : Tryz.prog.built 160 [(0, .int .i64 x.block), (1, .agg (bcells x.bytes).toArray)] = some x.pc.toArray := by
  rw [built_pending]
  have hl : (bcells x.bytes).length = 64 := by rw [bcells_length, h]
  have hz : (zeros 64).length = 64 := by simp [zeros]
  have e1 := fill_one #[.int .i64 x.block] (.int .i64 0 :: zeros 64).toArray 0 (by simp)
  have e2 := fill_one (bcells x.bytes).toArray (.int .i64 x.block :: zeros 64).toArray 1 (by simp [hl, hz])
  have s1 : Value.cells (.int .i64 x.block) = #[.int .i64 x.block] := rfl
  have s2 : Value.cells (.agg (bcells x.bytes).toArray) = (bcells x.bytes).toArray := rfl
  simp only [Instr.fill, s1, s2, List.getElem?_toArray, List.getElem?_cons_zero, List.getElem?_cons_succ]
  rw [e1]
  simp only [List.take_zero, List.nil_append, List.size_toArray, List.length_cons, List.length_nil, Nat.zero_add, List.drop_succ_cons, List.drop_zero, List.cons_append]
  rw [e2]
  simp [hl, hz, DW.pc]

theorem fill_whole (C base : Array Value) (place : Nat → Option (Nat × Nat)) (n : Nat) (hp : place 0 = some (0, n)) (hC : C.size = n) (hb : base.size = n) : Instr.fill place base [(0, .agg C)] = some C := by
  have e := fill_one C base 0 (by omega)
  have s : Value.cells (.agg C) = C := rfl
  simp only [Instr.fill, hp, s]
  rw [if_neg (by simp; omega), e, List.drop_eq_nil_of_le (by simp; omega)]
  simp

theorem yieldsIf_build {P : Program} {ops : Array Oper} {S : World → Prop} {op : Oper} {a : Act} (hw : Region.wanted op (yielded ops a.tmps) = true) (t : TypeId) (parts : Array (Nat × Operand)) (ho : op.op = .build t parts) (cells : Array Value)
    (h : P.built t (parts.map fun (i, x) => (i, a.eval x)).toList = some cells) : YieldsIf P ops S op (.agg cells) a :=
  .inl ⟨hw, fun w _ => by
    unfold execOp
    simp only [ho, Sem.run_bind, run_build w t _ cells h, Result.andThen_ok]
    rfl⟩

set_option maxRecDepth 100000 in
theorem run_arrayAt (u : World) (a : Option Addr) (c : Nat) : (Instr.arrayAt 106 (.slice a 64 c)).run Tryz.prog u = .ok (.pointer a) u := by
  simp [Instr.arrayAt, run_underlying Tryz.underlying106]

end Go.Proofs.YtmdpmdmilgbfiaaGreatDoor
