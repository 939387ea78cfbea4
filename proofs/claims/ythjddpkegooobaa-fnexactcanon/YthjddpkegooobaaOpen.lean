/-
  OPEN: what the laws' graphs that come in read as. Own work.
-/
import Derived.Test.YthjddpkegooobaaMem
import Derived.ProofKit
import Derived.OpenShut
import Derived.Deep.Slices
namespace Go.Proofs.Ythjddpkegooobaa
open Go.RowKit Go.ChangeShapes Go.WideShapes Go.Deep

set_option maxRecDepth 100000 in
theorem cellsInt : Try.prog.cellsOf 3 = 1 := by kernel_rfl
theorem cellsInt64 : Try.prog.cellsOf 2 = 1 := by kernel_rfl
theorem cellsString : Try.prog.cellsOf 9 = 1 := by kernel_rfl
set_option maxRecDepth 100000 in
theorem cellsVal : Try.prog.cellsOf 61 = 4 := by kernel_rfl
theorem cellsNode : Try.prog.cellsOf 172 = 2 := by kernel_rfl
theorem cellsGraph : Try.prog.cellsOf 64 = 5 := by kernel_rfl
set_option maxRecDepth 100000 in
theorem cellsVals : Try.prog.cellsOf 170 = 1 := by kernel_rfl
theorem cellsNodes : Try.prog.cellsOf 62 = 1 := by kernel_rfl

set_option maxRecDepth 100000 in
theorem i64_of_wf {n : Int} (h : (Lit.int .i64 n).wf = true) : I64 n := by
  have h := bounds_i64 h
  unfold I64
  omega

section
variable {H : Type} {enc : TypeId × Value → H} {w : World} {base : Nat} {spare : Nat → Bool} {held : Bool}

set_option maxRecDepth 100000 in
theorem openVal {fuel : Nat} {cs : List Value} {x : DataW H × List MemPlace} (h : DataW.trod enc Try.prog w base spare held fuel 61 cs = some x) :
    ∃ v : GV, v.Ok ∧ cs = [.int .i64 v.kind, .int .i64 v.num, .string v.text, .int .i64 v.node] ∧ x.2 = [] := by
  obtain ⟨xs, n, _, rfl, hl, hlen, hf⟩ := DataW.trod_struct Try.underlying61 h
  rw [cellsVal] at hl
  match xs, hlen, cs, hl with
  | [y0, y1, y2, y3], _, [c0, c1, c2, c3], _ =>
    have h0 := hf 0 _ rfl
    have h1 := hf 1 _ rfl
    have h2 := hf 2 _ rfl
    have h3 := hf 3 _ rfl
    simp [cellsInt, cellsInt64, cellsString] at h0 h1 h2 h3
    obtain ⟨k, e0, rfl, w0⟩ := DataW.trod_int Try.underlying3 h0
    obtain ⟨m, e1, rfl, w1⟩ := DataW.trod_int Try.underlying2 h1
    obtain ⟨s, e2, rfl, w2⟩ := DataW.trod_string Try.underlying9 h2
    obtain ⟨q, e3, rfl, w3⟩ := DataW.trod_int Try.underlying3 h3
    simp at e0 e1 e2 e3
    subst e0 e1 e2 e3
    exact ⟨⟨k, m, s, q⟩, ⟨i64_of_wf w0, i64_of_wf w1, w2, i64_of_wf w3⟩, rfl, rfl⟩

set_option maxRecDepth 100000 in
/-- a list out of a family -/
theorem list_of {α : Type} [Inhabited α] {n : Nat} {p : Nat → α → Prop} (h : ∀ i, i < n → ∃ x, p i x) : ∃ l : List α, l.length = n ∧ ∀ i, i < n → p i l[i]! := by
  obtain ⟨f, hf⟩ := choose_lt h
  refine ⟨(List.range n).map f, by simp, fun i hi => ?_⟩
  have e : ((List.range n).map f)[i]! = f i := by
    rw [getElem!_pos _ i (by simpa using hi)]; simp
  rw [e]; exact hf i hi

set_option maxRecDepth 100000 in
theorem all_of_at {α : Type} [Inhabited α] {p : α → Prop} {l : List α} (h : ∀ i, i < l.length → p l[i]!) : ∀ x, x ∈ l → p x := fun x hx => by
  obtain ⟨i, hi, e⟩ := List.getElem_of_mem hx
  have := h i hi
  rwa [getElem!_pos l i hi, e] at this

set_option maxRecDepth 100000 in
/-- an address at which elements lie is a plain one -/
theorem plain_addr {a : Addr} {k : Nat} {cs : List Value} (hk : 0 < k) (h : w.cells? base (a.add (0 * k)) k = some cs) : a = ⟨a.block, a.off, none⟩ := by
  obtain ⟨_, hlen, hc⟩ := World.cells?_some h
  have h0 := hc 0 hk
  obtain ⟨b, off, spot⟩ := a
  match cs, hlen with
  | c :: _, _ =>
    have hspot : spot = none := by
      have h0' : w.cell? ((Addr.add ⟨b, off, spot⟩ (0 * k)).add 0) = some c := by simpa using h0
      simpa [Addr.add] using World.cell?_spot h0'
    rw [hspot]
  | [], h => simp at h; omega

set_option maxRecDepth 100000 in
theorem cells_plain {b off n : Nat} {cs : List Value} (h : w.cells? base ⟨b, off, none⟩ n = some cs) : cs.length = n ∧ ∀ i, i < n → w.cell? ⟨b, off + i, none⟩ = cs[i]? := by
  obtain ⟨_, hlen, hc⟩ := World.cells?_some h
  exact ⟨hlen, fun i hi => by rw [← add_plain]; exact hc i hi⟩

set_option maxRecDepth 100000 in
theorem openVals {fuel : Nat} {cs : List Value} {x : DataW H × List MemPlace} (h : DataW.trod enc Try.prog w base spare held fuel 170 cs = some x) :
    ∃ (a : Option Addr) (cap : Nat) (vs : List GV), cs = [.slice a vs.length cap] ∧ vs.length ≤ maxLen ∧ (∀ v, v ∈ vs → v.Ok) ∧ ValsAt w.heap.size w a vs := by
  rcases open_slice Try.underlying170 h with ⟨rfl, _⟩ | ⟨a, len, cap, m, n, D, Pl, rfl, hb, hl, hm, hmm, _, hx⟩
  · exact ⟨none, 0, [], rfl, Nat.zero_le _, fun v hv => (by cases hv), fun i hi => absurd hi (Nat.not_lt_zero _)⟩
  · rw [cellsVal] at hx
    have hle : len ≤ m := by rw [hmm]; split <;> omega
    obtain ⟨vs, hvl, hvs⟩ := list_of (α := GV) (n := len) (p := fun i v => v.Ok ∧ w.cells? base (a.add (i * 4)) 4 = some [.int .i64 v.kind, .int .i64 v.num, .string v.text, .int .i64 v.node]) (fun i hi => by
      obtain ⟨cs', h1, h2⟩ := hx i (by omega)
      obtain ⟨v, hv, e, _⟩ := openVal h2
      exact ⟨v, hv, by rw [h1, e]⟩)
    subst hvl
    refine ⟨some a, cap, vs, rfl, by omega, all_of_at fun i hi => (hvs i hi).1, fun i hi => ?_⟩
    have hp := plain_addr (by decide) (hvs 0 (by omega)).2
    refine ⟨a.block, a.off, by rw [← hp], ?_, ?_⟩
    · have h1 := (hvs i hi).2
      rw [hp, add_plain] at h1
      obtain ⟨_, h2⟩ := cells_plain h1
      have h3 := h2 0 (by decide)
      exact World.block_lt_of_cell? w ⟨a.block, a.off + i * 4 + 0, none⟩ h3
    · have h1 := (hvs i hi).2
      rw [hp, add_plain] at h1
      obtain ⟨_, h2⟩ := cells_plain h1
      exact ⟨h2 0 (by decide), h2 1 (by decide), h2 2 (by decide), h2 3 (by decide)⟩

set_option maxRecDepth 100000 in
theorem openNode {fuel : Nat} {cs : List Value} {x : DataW H × List MemPlace} (h : DataW.trod enc Try.prog w base spare held fuel 172 cs = some x) :
    ∃ (n : GN) (a : Option Addr) (cap : Nat), n.Ok ∧ cs = [.int .i64 n.tag, .slice a n.vals.length cap] ∧ ValsAt w.heap.size w a n.vals := by
  obtain ⟨xs, n, _, rfl, hl, hlen, hf⟩ := DataW.trod_struct Try.underlying172 h
  rw [cellsNode] at hl
  match xs, hlen, cs, hl with
  | [y0, y1], _, [c0, c1], _ =>
    have h0 := hf 0 _ rfl
    have h1 := hf 1 _ rfl
    simp [cellsInt, cellsVals] at h0 h1
    obtain ⟨k, e0, rfl, w0⟩ := DataW.trod_int Try.underlying3 h0
    obtain ⟨a, cap, vs, e1, hl1, hv1, ha1⟩ := openVals h1
    simp at e0 e1
    subst e0 e1
    exact ⟨⟨k, vs⟩, a, cap, ⟨i64_of_wf w0, hl1, hv1⟩, rfl, ha1⟩

set_option maxRecDepth 100000 in
theorem openNodes {fuel : Nat} {cs : List Value} {x : DataW H × List MemPlace} (h : DataW.trod enc Try.prog w base spare held fuel 62 cs = some x) :
    ∃ (a : Option Addr) (cap : Nat) (ns : List GN), cs = [.slice a ns.length cap] ∧ ns.length ≤ maxLen ∧ (∀ n, n ∈ ns → n.Ok) ∧ NodesAt w.heap.size w a ns := by
  rcases open_slice Try.underlying62 h with ⟨rfl, _⟩ | ⟨a, len, cap, m, n, D, Pl, rfl, hb, hl, hm, hmm, _, hx⟩
  · exact ⟨none, 0, [], rfl, Nat.zero_le _, fun v hv => (by cases hv), fun i hi => absurd hi (Nat.not_lt_zero _)⟩
  · rw [cellsNode] at hx
    have hle : len ≤ m := by rw [hmm]; split <;> omega
    obtain ⟨ns, hvl, hvs⟩ := list_of (α := GN) (n := len) (p := fun i n => n.Ok ∧ ∃ a' cap', w.cells? base (a.add (i * 2)) 2 = some [.int .i64 n.tag, .slice a' n.vals.length cap'] ∧ ValsAt w.heap.size w a' n.vals) (fun i hi => by
      obtain ⟨cs', h1, h2⟩ := hx i (by omega)
      obtain ⟨v, a', cap', hv, e, hva⟩ := openNode h2
      exact ⟨v, hv, a', cap', by rw [h1, e], hva⟩)
    subst hvl
    refine ⟨some a, cap, ns, rfl, by omega, all_of_at fun i hi => (hvs i hi).1, fun i hi => ?_⟩
    obtain ⟨_, _, _, hp0, _⟩ := hvs 0 (by omega)
    have hp := plain_addr (by decide) hp0
    obtain ⟨_, a', cap', h1, hva⟩ := hvs i hi
    rw [hp, add_plain] at h1
    obtain ⟨_, h2⟩ := cells_plain h1
    exact ⟨a.block, a.off, a', cap', by rw [← hp], World.block_lt_of_cell? w ⟨a.block, a.off + i * 2 + 0, none⟩ (h2 0 (by decide)), h2 0 (by decide), h2 1 (by decide), hva⟩

set_option maxRecDepth 100000 in
theorem openGraph {v : Value} {d : DataW H} {ps : List MemPlace} {r : Reach} {bs : Nat} (hv : Value.okWide Try.prog w r bs 64 v) (h : DataW.Trod enc Try.prog w base spare held 64 v d ps) :
    ∃ (g : GG) (a : Option Addr) (cap : Nat), g.Ok ∧ v = g.val a cap ∧ NodesAt w.heap.size w a g.nodes := by
  unfold Value.okWide at hv
  rw [Try.underlying64] at hv
  obtain ⟨cs, rfl, hsz, _⟩ := hv
  obtain ⟨fuel, h⟩ := h
  obtain ⟨xs, n, _, _, hl, hlen, hf⟩ := DataW.trod_struct Try.underlying64 h
  rw [cellsGraph] at hsz
  obtain ⟨l⟩ := cs
  match xs, hlen, l, hsz with
  | [y0, y1], _, [c0, c1, c2, c3, c4], _ =>
    have h0 := hf 0 _ rfl
    have h1 := hf 1 _ rfl
    simp [cellsVal, cellsNodes, Value.cells] at h0 h1
    obtain ⟨rv, hrv, e0, _⟩ := openVal h0
    obtain ⟨a, cap, ns, e1, hl1, hn1, ha1⟩ := openNodes h1
    simp at e0 e1
    obtain ⟨rfl, rfl, rfl, rfl⟩ := e0
    subst e1
    exact ⟨⟨rv, ns⟩, a, cap, ⟨hrv, hl1, hn1⟩, rfl, ha1⟩

end
end Go.Proofs.Ythjddpkegooobaa
