import Derived.ProofKit
import Derived.OpenShut
import Derived.Deep.Slices
import Derived.ShutString
import Derived.ChangeOld
import Derived.Test.YthjddpkegooobacGreatPartX

/-
  OPEND: what disks that come in read as. Own work.
-/
namespace Go.Proofs.YthjddpkegooobacGreat
open Go.RowKit Go.ChangeShapes Go.WideShapes Go.Deep

set_option maxRecDepth 100000 in
theorem dcellsInt : Tryz.prog.cellsOf 3 = 1 := by kernel_rfl
theorem dcellsU8 : Tryz.prog.cellsOf 5 = 1 := by kernel_rfl
theorem dcellsBytes : Tryz.prog.cellsOf 52 = 1 := by kernel_rfl
theorem dcellsWrite : Tryz.prog.cellsOf 70 = 2 := by kernel_rfl
theorem dcellsBlks : Tryz.prog.cellsOf 22 = 1 := by kernel_rfl
theorem dcellsWrites : Tryz.prog.cellsOf 23 = 1 := by kernel_rfl
theorem dcellsDisk : Tryz.prog.cellsOf 25 = 2 := by kernel_rfl

set_option maxRecDepth 100000 in
theorem di64_of_wf {n : Int} (h : (Lit.int .i64 n).wf = true) : I64 n := by
  have h := bounds_i64 h
  unfold I64
  omega
theorem dbyte_of_wf {x : Int} (h : (Lit.int .u8 x).wf = true) : 0 ≤ x ∧ x < 256 := by
  simp [Lit.wf, IntKind.min, IntKind.max, IntKind.signed, IntKind.bits] at h
  omega

section
variable {H : Type} {enc : TypeId × Value → H} {w : World} {base : Nat} {spare : Nat → Bool} {held : Bool}

set_option maxRecDepth 100000 in
/-- a list out of a family -/
theorem dlist_of {α : Type} [Inhabited α] {n : Nat} {p : Nat → α → Prop} (h : ∀ i, i < n → ∃ x, p i x) : ∃ l : List α, l.length = n ∧ ∀ i, i < n → p i l[i]! := by
  obtain ⟨f, hf⟩ := choose_lt h
  refine ⟨(List.range n).map f, by simp, fun i hi => ?_⟩
  have e : ((List.range n).map f)[i]! = f i := by
    rw [getElem!_pos _ i (by simpa using hi)]; simp
  rw [e]; exact hf i hi

set_option maxRecDepth 100000 in
theorem dall_of_at {α : Type} [Inhabited α] {p : α → Prop} {l : List α} (h : ∀ i, i < l.length → p l[i]!) : ∀ x, x ∈ l → p x := fun x hx => by
  obtain ⟨i, hi, e⟩ := List.getElem_of_mem hx
  have := h i hi
  rwa [getElem!_pos l i hi, e] at this

set_option maxRecDepth 100000 in
/-- an address at which elements lie is a plain one -/
theorem dplain_addr {a : Addr} {k : Nat} {cs : List Value} (hk : 0 < k) (h : w.cells? base (a.add (0 * k)) k = some cs) : a = ⟨a.block, a.off, none⟩ := by
  obtain ⟨_, hlen, hc⟩ := World.cells?_some h
  have h0 := hc 0 hk
  obtain ⟨b, off, spot⟩ := a
  match cs, hlen with
  | c :: _, _ =>
    have hspot : spot = none := by
      have h0' : w.cell? ((Addr.add ⟨b, off, spot⟩ (0 * k)).add 0) = some c := by simpa using h0
      simpa [Addr.add] using World.cell?_spot h0'
    rw [hspot]
  | [], h => simp at h; omega

set_option maxRecDepth 100000 in
theorem dcells_plain {b off n : Nat} {cs : List Value} (h : w.cells? base ⟨b, off, none⟩ n = some cs) : cs.length = n ∧ ∀ i, i < n → w.cell? ⟨b, off + i, none⟩ = cs[i]? := by
  obtain ⟨_, hlen, hc⟩ := World.cells?_some h
  exact ⟨hlen, fun i hi => by rw [← add_plain]; exact hc i hi⟩

set_option maxRecDepth 100000 in
theorem openByts {fuel : Nat} {cs : List Value} {x : DataW H × List MemPlace} (h : DataW.trod enc Tryz.prog w base spare held fuel 52 cs = some x) :
    ∃ (a : Option Addr) (cap : Nat) (bs : List Nat), cs = [.slice a bs.length cap] ∧ BOk bs ∧ BytesAt w a bs := by
  rcases open_slice Tryz.underlying52 h with ⟨rfl, _⟩ | ⟨a, len, cap, m, n, D, Pl, rfl, hb, hl, hm, hmm, _, hx⟩
  · exact ⟨none, 0, [], rfl, ⟨Nat.zero_le _, fun v hv => (by cases hv)⟩, fun i hi => absurd hi (Nat.not_lt_zero _)⟩
  · rw [dcellsU8] at hx
    have hle : len ≤ m := by rw [hmm]; split <;> omega
    obtain ⟨bs, hvl, hvs⟩ := dlist_of (α := Nat) (n := len) (p := fun i v => v < 256 ∧ w.cells? base (a.add (i * 1)) 1 = some [.int .u8 (v : Int)]) (fun i hi => by
      obtain ⟨cs', h1, h2⟩ := hx i (by omega)
      obtain ⟨z, e, _, hw⟩ := DataW.trod_int Tryz.underlying5 h2
      have hz := dbyte_of_wf hw
      refine ⟨z.toNat, by omega, ?_⟩
      rw [h1, e, Int.toNat_of_nonneg hz.1])
    subst hvl
    refine ⟨some a, cap, bs, rfl, ⟨by omega, dall_of_at fun i hi => (hvs i hi).1⟩, fun i hi => ?_⟩
    have hp := dplain_addr (by decide) (hvs 0 (by omega)).2
    have h1 := (hvs i hi).2
    rw [hp, add_plain] at h1
    obtain ⟨_, h2⟩ := dcells_plain h1
    have h3 := h2 0 (by decide)
    simp only [Nat.add_zero, Nat.mul_one] at h3
    exact ⟨a.block, a.off, by rw [← hp], h3⟩

set_option maxRecDepth 100000 in
theorem openBlks {fuel : Nat} {cs : List Value} {x : DataW H × List MemPlace} (h : DataW.trod enc Tryz.prog w base spare held fuel 22 cs = some x) :
    ∃ (a : Option Addr) (cap : Nat) (ls : List (List Nat)), cs = [.slice a ls.length cap] ∧ ls.length ≤ maxLen ∧ (∀ b, b ∈ ls → BOk b) ∧ BlksAt w a ls := by
  rcases open_slice Tryz.underlying22 h with ⟨rfl, _⟩ | ⟨a, len, cap, m, n, D, Pl, rfl, hb, hl, hm, hmm, _, hx⟩
  · exact ⟨none, 0, [], rfl, Nat.zero_le _, fun v hv => (by cases hv), fun i hi => absurd hi (Nat.not_lt_zero _)⟩
  · rw [dcellsBytes] at hx
    have hle : len ≤ m := by rw [hmm]; split <;> omega
    obtain ⟨ls, hvl, hvs⟩ := dlist_of (α := List Nat) (n := len) (p := fun i b => BOk b ∧ ∃ a' cap', w.cells? base (a.add (i * 1)) 1 = some [.slice a' b.length cap'] ∧ BytesAt w a' b) (fun i hi => by
      obtain ⟨cs', h1, h2⟩ := hx i (by omega)
      obtain ⟨a', cap', b, e, hok, hva⟩ := openByts h2
      exact ⟨b, hok, a', cap', by rw [h1, e], hva⟩)
    subst hvl
    refine ⟨some a, cap, ls, rfl, by omega, dall_of_at fun i hi => (hvs i hi).1, fun i hi => ?_⟩
    obtain ⟨_, _, _, hp0, _⟩ := hvs 0 (by omega)
    have hp := dplain_addr (by decide) hp0
    obtain ⟨_, a', cap', h1, hva⟩ := hvs i hi
    rw [hp, add_plain] at h1
    obtain ⟨_, h2⟩ := dcells_plain h1
    have h3 := h2 0 (by decide)
    simp only [Nat.add_zero, Nat.mul_one] at h3
    exact ⟨a.block, a.off, a', cap', by rw [← hp], h3, hva⟩

set_option maxRecDepth 100000 in
theorem openWrite {fuel : Nat} {cs : List Value} {x : DataW H × List MemPlace} (h : DataW.trod enc Tryz.prog w base spare held fuel 70 cs = some x) :
    ∃ (n : DW) (a : Option Addr) (cap : Nat), I64 n.block ∧ BOk n.bytes ∧ cs = [.int .i64 n.block, .slice a n.bytes.length cap] ∧ BytesAt w a n.bytes := by
  obtain ⟨xs, n, _, rfl, hl, hlen, hf⟩ := DataW.trod_struct Tryz.underlying70 h
  rw [dcellsWrite] at hl
  match xs, hlen, cs, hl with
  | [y0, y1], _, [c0, c1], _ =>
    have h0 := hf 0 _ rfl
    have h1 := hf 1 _ rfl
    simp [dcellsInt, dcellsBytes] at h0 h1
    obtain ⟨k, e0, rfl, w0⟩ := DataW.trod_int Tryz.underlying3 h0
    obtain ⟨a, cap, vs, e1, hok1, ha1⟩ := openByts h1
    simp at e0 e1
    subst e0 e1
    exact ⟨⟨k, vs⟩, a, cap, di64_of_wf w0, hok1, rfl, ha1⟩

set_option maxRecDepth 100000 in
theorem openWrites {fuel : Nat} {cs : List Value} {x : DataW H × List MemPlace} (h : DataW.trod enc Tryz.prog w base spare held fuel 23 cs = some x) :
    ∃ (a : Option Addr) (cap : Nat) (ls : List DW), cs = [.slice a ls.length cap] ∧ ls.length ≤ maxLen ∧ (∀ b, b ∈ ls → I64 b.block ∧ BOk b.bytes) ∧ WrsAt w a ls := by
  rcases open_slice Tryz.underlying23 h with ⟨rfl, _⟩ | ⟨a, len, cap, m, n, D, Pl, rfl, hb, hl, hm, hmm, _, hx⟩
  · exact ⟨none, 0, [], rfl, Nat.zero_le _, fun v hv => (by cases hv), fun i hi => absurd hi (Nat.not_lt_zero _)⟩
  · rw [dcellsWrite] at hx
    have hle : len ≤ m := by rw [hmm]; split <;> omega
    obtain ⟨ls, hvl, hvs⟩ := dlist_of (α := DW) (n := len) (p := fun i b => (I64 b.block ∧ BOk b.bytes) ∧ ∃ a' cap', w.cells? base (a.add (i * 2)) 2 = some [.int .i64 b.block, .slice a' b.bytes.length cap'] ∧ BytesAt w a' b.bytes) (fun i hi => by
      obtain ⟨cs', h1, h2⟩ := hx i (by omega)
      obtain ⟨b, a', cap', hi1, hok, e, hva⟩ := openWrite h2
      exact ⟨b, ⟨hi1, hok⟩, a', cap', by rw [h1, e], hva⟩)
    subst hvl
    refine ⟨some a, cap, ls, rfl, by omega, dall_of_at fun i hi => (hvs i hi).1, fun i hi => ?_⟩
    obtain ⟨_, _, _, hp0, _⟩ := hvs 0 (by omega)
    have hp := dplain_addr (by decide) hp0
    obtain ⟨_, a', cap', h1, hva⟩ := hvs i hi
    rw [hp, add_plain] at h1
    obtain ⟨_, h2⟩ := dcells_plain h1
    exact ⟨a.block, a.off, a', cap', by rw [← hp], h2 0 (by decide), h2 1 (by decide), hva⟩

set_option maxRecDepth 100000 in
theorem openDisk {v : Value} {d : DataW H} {ps : List MemPlace} {r : Reach} {bs : Nat} (hv : Value.okWide Tryz.prog w r bs 25 v) (h : DataW.Trod enc Tryz.prog w base spare held 25 v d ps) :
    ∃ (g : DD) (l : DL), g.Ok ∧ v = g.val l ∧ DAt w l g := by
  unfold Value.okWide at hv
  rw [Tryz.underlying25] at hv
  obtain ⟨cs, rfl, hsz, _⟩ := hv
  obtain ⟨fuel, h⟩ := h
  obtain ⟨xs, n, _, _, hl, hlen, hf⟩ := DataW.trod_struct Tryz.underlying25 h
  rw [dcellsDisk] at hsz
  obtain ⟨l⟩ := cs
  match xs, hlen, l, hsz with
  | [y0, y1], _, [c0, c1], _ =>
    have h0 := hf 0 _ rfl
    have h1 := hf 1 _ rfl
    simp [dcellsBlks, dcellsWrites, Value.cells] at h0 h1
    obtain ⟨a, cap, ls, e0, hl0, hb0, ha0⟩ := openBlks h0
    obtain ⟨a', cap', ws, e1, hl1, hw1, ha1⟩ := openWrites h1
    simp at e0 e1
    subst e0 e1
    exact ⟨⟨ls, ws⟩, ⟨a, cap, a', cap'⟩, ⟨hl0, hb0, hl1, fun x hx => (hw1 x hx).1, fun x hx => (hw1 x hx).2⟩, rfl, ha0, ha1⟩

end
end Go.Proofs.YthjddpkegooobacGreat

/-
  OPEN: what the laws' graphs that come in read as. Own work.
-/
namespace Go.Proofs.YthjddpkegooobacGreat
open Go.RowKit Go.ChangeShapes Go.WideShapes Go.Deep

set_option maxRecDepth 100000 in
theorem cellsInt : Tryz.prog.cellsOf 3 = 1 := by kernel_rfl
theorem cellsInt64 : Tryz.prog.cellsOf 2 = 1 := by kernel_rfl
theorem cellsString : Tryz.prog.cellsOf 9 = 1 := by kernel_rfl
set_option maxRecDepth 100000 in
theorem cellsVal : Tryz.prog.cellsOf 27 = 4 := by kernel_rfl
theorem cellsNode : Tryz.prog.cellsOf 74 = 2 := by kernel_rfl
theorem cellsGraph : Tryz.prog.cellsOf 30 = 5 := by kernel_rfl
set_option maxRecDepth 100000 in
theorem cellsVals : Tryz.prog.cellsOf 72 = 1 := by kernel_rfl
theorem cellsNodes : Tryz.prog.cellsOf 28 = 1 := by kernel_rfl

set_option maxRecDepth 100000 in
theorem i64_of_wf {n : Int} (h : (Lit.int .i64 n).wf = true) : I64 n := by
  have h := bounds_i64 h
  unfold I64
  omega

section
variable {H : Type} {enc : TypeId × Value → H} {w : World} {base : Nat} {spare : Nat → Bool} {held : Bool}

set_option maxRecDepth 100000 in
theorem openVal {fuel : Nat} {cs : List Value} {x : DataW H × List MemPlace} (h : DataW.trod enc Tryz.prog w base spare held fuel 27 cs = some x) :
    ∃ v : GV, v.Ok ∧ cs = [.int .i64 v.kind, .int .i64 v.num, .string v.text, .int .i64 v.node] ∧ x.2 = [] := by
  obtain ⟨xs, n, _, rfl, hl, hlen, hf⟩ := DataW.trod_struct Tryz.underlying27 h
  rw [cellsVal] at hl
  match xs, hlen, cs, hl with
  | [y0, y1, y2, y3], _, [c0, c1, c2, c3], _ =>
    have h0 := hf 0 _ rfl
    have h1 := hf 1 _ rfl
    have h2 := hf 2 _ rfl
    have h3 := hf 3 _ rfl
    simp [cellsInt, cellsInt64, cellsString] at h0 h1 h2 h3
    obtain ⟨k, e0, rfl, w0⟩ := DataW.trod_int Tryz.underlying3 h0
    obtain ⟨m, e1, rfl, w1⟩ := DataW.trod_int Tryz.underlying2 h1
    obtain ⟨s, e2, rfl, w2⟩ := DataW.trod_string Tryz.underlying9 h2
    obtain ⟨q, e3, rfl, w3⟩ := DataW.trod_int Tryz.underlying3 h3
    simp at e0 e1 e2 e3
    subst e0 e1 e2 e3
    exact ⟨⟨k, m, s, q⟩, ⟨i64_of_wf w0, i64_of_wf w1, w2, i64_of_wf w3⟩, rfl, rfl⟩

set_option maxRecDepth 100000 in
/-- a list out of a family -/
theorem list_of {α : Type} [Inhabited α] {n : Nat} {p : Nat → α → Prop} (h : ∀ i, i < n → ∃ x, p i x) : ∃ l : List α, l.length = n ∧ ∀ i, i < n → p i l[i]! := by
  obtain ⟨f, hf⟩ := choose_lt h
  refine ⟨(List.range n).map f, by simp, fun i hi => ?_⟩
  have e : ((List.range n).map f)[i]! = f i := by
    rw [getElem!_pos _ i (by simpa using hi)]; simp
  rw [e]; exact hf i hi

set_option maxRecDepth 100000 in
theorem all_of_at {α : Type} [Inhabited α] {p : α → Prop} {l : List α} (h : ∀ i, i < l.length → p l[i]!) : ∀ x, x ∈ l → p x := fun x hx => by
  obtain ⟨i, hi, e⟩ := List.getElem_of_mem hx
  have := h i hi
  rwa [getElem!_pos l i hi, e] at this

set_option maxRecDepth 100000 in
/-- an address at which elements lie is a plain one -/
theorem plain_addr {a : Addr} {k : Nat} {cs : List Value} (hk : 0 < k) (h : w.cells? base (a.add (0 * k)) k = some cs) : a = ⟨a.block, a.off, none⟩ := by
  obtain ⟨_, hlen, hc⟩ := World.cells?_some h
  have h0 := hc 0 hk
  obtain ⟨b, off, spot⟩ := a
  match cs, hlen with
  | c :: _, _ =>
    have hspot : spot = none := by
      have h0' : w.cell? ((Addr.add ⟨b, off, spot⟩ (0 * k)).add 0) = some c := by simpa using h0
      simpa [Addr.add] using World.cell?_spot h0'
    rw [hspot]
  | [], h => simp at h; omega

set_option maxRecDepth 100000 in
theorem cells_plain {b off n : Nat} {cs : List Value} (h : w.cells? base ⟨b, off, none⟩ n = some cs) : cs.length = n ∧ ∀ i, i < n → w.cell? ⟨b, off + i, none⟩ = cs[i]? := by
  obtain ⟨_, hlen, hc⟩ := World.cells?_some h
  exact ⟨hlen, fun i hi => by rw [← add_plain]; exact hc i hi⟩

set_option maxRecDepth 100000 in
theorem openVals {fuel : Nat} {cs : List Value} {x : DataW H × List MemPlace} (h : DataW.trod enc Tryz.prog w base spare held fuel 72 cs = some x) :
    ∃ (a : Option Addr) (cap : Nat) (vs : List GV), cs = [.slice a vs.length cap] ∧ vs.length ≤ maxLen ∧ (∀ v, v ∈ vs → v.Ok) ∧ ValsAt w.heap.size w a vs := by
  rcases open_slice Tryz.underlying72 h with ⟨rfl, _⟩ | ⟨a, len, cap, m, n, D, Pl, rfl, hb, hl, hm, hmm, _, hx⟩
  · exact ⟨none, 0, [], rfl, Nat.zero_le _, fun v hv => (by cases hv), fun i hi => absurd hi (Nat.not_lt_zero _)⟩
  · rw [cellsVal] at hx
    have hle : len ≤ m := by rw [hmm]; split <;> omega
    obtain ⟨vs, hvl, hvs⟩ := list_of (α := GV) (n := len) (p := fun i v => v.Ok ∧ w.cells? base (a.add (i * 4)) 4 = some [.int .i64 v.kind, .int .i64 v.num, .string v.text, .int .i64 v.node]) (fun i hi => by
      obtain ⟨cs', h1, h2⟩ := hx i (by omega)
      obtain ⟨v, hv, e, _⟩ := openVal h2
      exact ⟨v, hv, by rw [h1, e]⟩)
    subst hvl
    refine ⟨some a, cap, vs, rfl, by omega, all_of_at fun i hi => (hvs i hi).1, fun i hi => ?_⟩
    have hp := plain_addr (by decide) (hvs 0 (by omega)).2
    refine ⟨a.block, a.off, by rw [← hp], ?_, ?_⟩
    · have h1 := (hvs i hi).2
      rw [hp, add_plain] at h1
      obtain ⟨_, h2⟩ := cells_plain h1
      have h3 := h2 0 (by decide)
      exact World.block_lt_of_cell? w ⟨a.block, a.off + i * 4 + 0, none⟩ h3
    · have h1 := (hvs i hi).2
      rw [hp, add_plain] at h1
      obtain ⟨_, h2⟩ := cells_plain h1
      exact ⟨h2 0 (by decide), h2 1 (by decide), h2 2 (by decide), h2 3 (by decide)⟩

set_option maxRecDepth 100000 in
theorem openNode {fuel : Nat} {cs : List Value} {x : DataW H × List MemPlace} (h : DataW.trod enc Tryz.prog w base spare held fuel 74 cs = some x) :
    ∃ (n : GN) (a : Option Addr) (cap : Nat), n.Ok ∧ cs = [.int .i64 n.tag, .slice a n.vals.length cap] ∧ ValsAt w.heap.size w a n.vals := by
  obtain ⟨xs, n, _, rfl, hl, hlen, hf⟩ := DataW.trod_struct Tryz.underlying74 h
  rw [cellsNode] at hl
  match xs, hlen, cs, hl with
  | [y0, y1], _, [c0, c1], _ =>
    have h0 := hf 0 _ rfl
    have h1 := hf 1 _ rfl
    simp [cellsInt, cellsVals] at h0 h1
    obtain ⟨k, e0, rfl, w0⟩ := DataW.trod_int Tryz.underlying3 h0
    obtain ⟨a, cap, vs, e1, hl1, hv1, ha1⟩ := openVals h1
    simp at e0 e1
    subst e0 e1
    exact ⟨⟨k, vs⟩, a, cap, ⟨i64_of_wf w0, hl1, hv1⟩, rfl, ha1⟩

set_option maxRecDepth 100000 in
theorem openNodes {fuel : Nat} {cs : List Value} {x : DataW H × List MemPlace} (h : DataW.trod enc Tryz.prog w base spare held fuel 28 cs = some x) :
    ∃ (a : Option Addr) (cap : Nat) (ns : List GN), cs = [.slice a ns.length cap] ∧ ns.length ≤ maxLen ∧ (∀ n, n ∈ ns → n.Ok) ∧ NodesAt w.heap.size w a ns := by
  rcases open_slice Tryz.underlying28 h with ⟨rfl, _⟩ | ⟨a, len, cap, m, n, D, Pl, rfl, hb, hl, hm, hmm, _, hx⟩
  · exact ⟨none, 0, [], rfl, Nat.zero_le _, fun v hv => (by cases hv), fun i hi => absurd hi (Nat.not_lt_zero _)⟩
  · rw [cellsNode] at hx
    have hle : len ≤ m := by rw [hmm]; split <;> omega
    obtain ⟨ns, hvl, hvs⟩ := list_of (α := GN) (n := len) (p := fun i n => n.Ok ∧ ∃ a' cap', w.cells? base (a.add (i * 2)) 2 = some [.int .i64 n.tag, .slice a' n.vals.length cap'] ∧ ValsAt w.heap.size w a' n.vals) (fun i hi => by
      obtain ⟨cs', h1, h2⟩ := hx i (by omega)
      obtain ⟨v, a', cap', hv, e, hva⟩ := openNode h2
      exact ⟨v, hv, a', cap', by rw [h1, e], hva⟩)
    subst hvl
    refine ⟨some a, cap, ns, rfl, by omega, all_of_at fun i hi => (hvs i hi).1, fun i hi => ?_⟩
    obtain ⟨_, _, _, hp0, _⟩ := hvs 0 (by omega)
    have hp := plain_addr (by decide) hp0
    obtain ⟨_, a', cap', h1, hva⟩ := hvs i hi
    rw [hp, add_plain] at h1
    obtain ⟨_, h2⟩ := cells_plain h1
    exact ⟨a.block, a.off, a', cap', by rw [← hp], World.block_lt_of_cell? w ⟨a.block, a.off + i * 2 + 0, none⟩ (h2 0 (by decide)), h2 0 (by decide), h2 1 (by decide), hva⟩

set_option maxRecDepth 100000 in
theorem openGraph {v : Value} {d : DataW H} {ps : List MemPlace} {r : Reach} {bs : Nat} (hv : Value.okWide Tryz.prog w r bs 30 v) (h : DataW.Trod enc Tryz.prog w base spare held 30 v d ps) :
    ∃ (g : GG) (a : Option Addr) (cap : Nat), g.Ok ∧ v = g.val a cap ∧ NodesAt w.heap.size w a g.nodes := by
  unfold Value.okWide at hv
  rw [Tryz.underlying30] at hv
  obtain ⟨cs, rfl, hsz, _⟩ := hv
  obtain ⟨fuel, h⟩ := h
  obtain ⟨xs, n, _, _, hl, hlen, hf⟩ := DataW.trod_struct Tryz.underlying30 h
  rw [cellsGraph] at hsz
  obtain ⟨l⟩ := cs
  match xs, hlen, l, hsz with
  | [y0, y1], _, [c0, c1, c2, c3, c4], _ =>
    have h0 := hf 0 _ rfl
    have h1 := hf 1 _ rfl
    simp [cellsVal, cellsNodes, Value.cells] at h0 h1
    obtain ⟨rv, hrv, e0, _⟩ := openVal h0
    obtain ⟨a, cap, ns, e1, hl1, hn1, ha1⟩ := openNodes h1
    simp at e0 e1
    obtain ⟨rfl, rfl, rfl, rfl⟩ := e0
    subst e1
    exact ⟨⟨rv, ns⟩, a, cap, ⟨hrv, hl1, hn1⟩, rfl, ha1⟩

end
end Go.Proofs.YthjddpkegooobacGreat

/-
  DONE: the row of FnExactKeep, proved. Own work.
-/
namespace Go.Proofs.YthjddpkegooobacGreat
open Go.ChangeShapes Go.WideShapes Go.ChangeAt Go.RowKit

set_option maxRecDepth 100000 in
theorem ownKeep : ownKnob Tryz.prog.godebug = none := by kernel_rfl
theorem laidOutKeep : laidOutB Tryz.prog = true := by kernel_rfl

set_option maxRecDepth 100000 in
theorem liftedKeep (os : Os) (started : os.Started) (H : Type) (enc : TypeId × Value → H) :
    ReturnsInHanded {} Tryz.checked os 3 .any (Rows.fnExactKeepSpec.pre6 enc Tryz.prog Tryz.f3 Rows.fnExactKeepRow.domain false) (Rows.fnExactKeepSpec.post enc Tryz.prog Tryz.f3 false true false false) := by
  refine returnsInHanded_of_change (C := Tryz.checked) ownKeep started (by kernel_rfl) Tryz.func3
    (ChangeSpec.witness6 (enc := enc) (C := Tryz.checked) false ⟨#[], #[.agg #[.slice none 0 0, .slice none 0 0], .agg #[.int .i64 0, .int .i64 0, .string .empty, .int .i64 0, .slice none 0 0]], []⟩ 8 (by kernel_rfl) (by kernel_rfl) (by kernel_rfl) (by kernel_rfl)) ?_
  intro W base args ds gs before hval0 hW hcnd _
  have hval : ∀ (j : Nat) t v, Tryz.f3.params[j]? = some t → args[j]? = some v → Value.okWide Tryz.prog W .any base t v := hval0
  have hW' := hW
  obtain ⟨p, q, hA0, hV, rfl, hfz, hnd⟩ := hW
  have hA : DataW.TrodAll enc Tryz.prog W 0 (fun _ => true) true Tryz.f3.params.toList args.toList ds p := hA0
  rw [Tryz.params3] at hA hval
  obtain ⟨v0, vs0, d0, ds0, p0, q0, hargs, rfl, rfl, h0, r0⟩ := trodAll_cons hA
  obtain ⟨v1, vs1, d1, ds1, p1, q1, hargs1, rfl, rfl, h1, r1⟩ := trodAll_cons r0
  obtain ⟨rfl, rfl, rfl⟩ := trodAll_nil r1
  subst hargs1
  obtain rfl : args = #[v0, v1] := by cases args; simp_all
  obtain ⟨rfl, rfl⟩ := trodVars_none hV
  have k0 := h0
  have k1 := h1
  have lt0 : ∀ x ∈ p0, x.block < W.heap.size := by obtain ⟨m, hm⟩ := k0; exact DataW.trod_lt m _ _ _ hm
  have lt1 : ∀ x ∈ p1, x.block < W.heap.size := by obtain ⟨m, hm⟩ := k1; exact DataW.trod_lt m _ _ _ hm
  obtain ⟨g, l, hg, rfl, ha⟩ := openDisk (hval 0 25 v0 rfl rfl) h0
  obtain ⟨g', a', cap', hg', rfl, ha'⟩ := openGraph (hval 1 30 v1 rfl rfl) h1
  clear hA0 hval0
  refine (lawKeep g l a' cap' g' W hg ha hg' ha').mono fun e W' ⟨he, bel⟩ => ?_
  subst he
  exact ⟨_, rfl, _, _, _, [], _, [], hW', trodAll_mk1 (shut_bool Tryz.underlying4 _), (trodAll_cons_mk (Below.trod laidOutKeep (by kernel_rfl) (of_decide_eq_true (by kernel_rfl)) k0 bel lt0) (trodAll_cons_mk (Below.trod laidOutKeep (by kernel_rfl) (of_decide_eq_true (by kernel_rfl)) k1 bel lt1) trodAll_mk0)), rfl, bel.frame _, fun h => by cases h⟩

set_option maxRecDepth 100000 in
theorem keep_holds : Rows.FnExactKeepSaid :=
  OpenClaim.holds_of_wide 3 Tryz.f3 rfl rfl rfl rfl rfl rfl rfl ⟨rfl, rfl, rfl, rfl, rfl⟩ rfl rfl rfl rfl rfl (by kernel_rfl) Tryz.func3 (by kernel_rfl)
    (of_decide_eq_true (by kernel_rfl)) (by unfold Func.isWrapper; first | (rw [if_pos (by decide +kernel)]; kernel_rfl) | (rw [if_neg (by decide +kernel)]; exact ⟨rfl, rfl⟩))
    (fun os started H enc _ => liftedKeep os started H enc)

end Go.Proofs.YthjddpkegooobacGreat
