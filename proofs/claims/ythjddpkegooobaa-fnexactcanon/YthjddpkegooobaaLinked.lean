/-
  LINKED: the program's things: values behind an interface, nodes behind pointers. Own work.
-/
import Derived.Test.YthjddpkegooobaaCanonPlain
import Derived.Test.YthjddpkegooobaaRows3
import Derived.Test.YthjddpkegooobaaSpecCanonA
namespace Go.Proofs.Ythjddpkegooobaa
open Go.RowKit

/-- a value as the program has it inside -/
def encT (v : GV) : TypeId := if v.kind = 1 then 177 else if v.kind = 2 then 178 else if v.kind = 3 then 179 else if v.kind = 4 then 139 else 182
def encX (tb : Nat → Nat) (v : GV) : Value :=
  if v.kind = 1 then .int .i64 v.num
  else if v.kind = 2 then .int .i64 v.num
  else if v.kind = 3 then .string v.text
  else if v.kind = 4 then .pointer (some ⟨tb v.node.toNat, 0, none⟩)
  else .agg #[]
abbrev encV (tb : Nat → Nat) (v : GV) : Value := .iface (encT v) (encX tb v)

set_option maxRecDepth 100000 in
theorem enc1 {tb : Nat → Nat} {v : GV} (h : v.kind = 1) : encV tb v = .iface 177 (.int .i64 v.num) := by
  unfold encV encT encX; rw [if_pos h, if_pos h]
theorem enc2 {tb : Nat → Nat} {v : GV} (h : v.kind = 2) : encV tb v = .iface 178 (.int .i64 v.num) := by
  unfold encV encT encX; rw [if_neg (by omega), if_pos h, if_neg (by omega), if_pos h]
set_option maxRecDepth 100000 in
theorem enc3 {tb : Nat → Nat} {v : GV} (h : v.kind = 3) : encV tb v = .iface 179 (.string v.text) := by
  unfold encV encT encX; rw [if_neg (by omega), if_neg (by omega), if_pos h, if_neg (by omega), if_neg (by omega), if_pos h]
theorem enc4 {tb : Nat → Nat} {v : GV} (h : v.kind = 4) : encV tb v = .iface 139 (.pointer (some ⟨tb v.node.toNat, 0, none⟩)) := by
  unfold encV encT encX; rw [if_neg (by omega), if_neg (by omega), if_neg (by omega), if_pos h, if_neg (by omega), if_neg (by omega), if_neg (by omega), if_pos h]
set_option maxRecDepth 100000 in
theorem enc0 {tb : Nat → Nat} {v : GV} (h1 : v.kind ≠ 1) (h2 : v.kind ≠ 2) (h3 : v.kind ≠ 3) (h4 : v.kind ≠ 4) : encV tb v = .iface 182 (.agg #[]) := by
  unfold encV encT encX; rw [if_neg h1, if_neg h2, if_neg h3, if_neg h4, if_neg h1, if_neg h2, if_neg h3, if_neg h4]

/-- the row of things -/
abbrev Things (w : World) (th n : Nat) (tb : Nat → Nat) : Prop := w.rowIs th 139 n (fun i => .pointer (some ⟨tb i, 0, none⟩))

set_option maxRecDepth 100000 in
theorem valueOf_any (n th : Nat) (tb : Nat → Nat) (v : GV) (w : World) (hv : okV n v = true) (_hn : n ≤ 300) (ht : Things w th n tb) :
    Calls Try.prog 113 #[v.val, .slice (some ⟨th, 0, none⟩) n n] w fun e w' => e = .returned (encV tb v) ∧ Below w.heap.size w w' := by
  by_cases h1 : v.kind = 1
  · have t1 : (v.kind == 1) = true := by simpa using h1
    have e : Hid _ := enc1 (tb := tb) h1
    clear h1
    go_enter Try.func113, Try.ntmps113
    go_wp2
    go_ret
    exact ⟨by rw [e.out]; rfl, gal (gre _) _⟩
  have t1 : (v.kind == 1) = false := by simpa using h1
  by_cases h2 : v.kind = 2
  · have t2 : (v.kind == 2) = true := by simpa using h2
    have e : Hid _ := enc2 (tb := tb) h2
    clear h1 h2
    go_enter Try.func113, Try.ntmps113
    go_wp2
    go_ret
    exact ⟨by rw [e.out]; rfl, gal (gre _) _⟩
  have t2 : (v.kind == 2) = false := by simpa using h2
  by_cases h3 : v.kind = 3
  · have t3 : (v.kind == 3) = true := by simpa using h3
    have e : Hid _ := enc3 (tb := tb) h3
    clear h1 h2 h3
    go_enter Try.func113, Try.ntmps113
    go_wp2
    go_ret
    exact ⟨by rw [e.out]; rfl, gal (gre _) _⟩
  have t3 : (v.kind == 3) = false := by simpa using h3
  by_cases h4 : v.kind = 4
  · have t4 : (v.kind == 4) = true := by simpa using h4
    have hb := okV_node hv h4
    have e : Hid _ := enc4 (tb := tb) h4
    clear h1 h2 h3 h4
    obtain ⟨k, m, t, x⟩ := v
    obtain ⟨y, rfl⟩ := Int.eq_ofNat_of_zero_le hb.1
    have hy : y < n := by have := hb.2; simpa using this
    have hc := ht.cell hy
    have hl := ht.lt
    have i0 : (0 : Int) ≤ (y : Int) := by omega
    have i1 : (y : Int) < (n : Int) := by omega
    go_enter Try.func113, Try.ntmps113
    go_wp2
    go_ret
    exact ⟨by rw [e.out]; rfl, gal (gre _) _⟩
  have t4 : (v.kind == 4) = false := by simpa using h4
  have e : Hid _ := enc0 (tb := tb) h1 h2 h3 h4
  clear h1 h2 h3 h4
  go_enter Try.func113, Try.ntmps113
  go_wp2
  go_ret
  exact ⟨by rw [e.out]; rfl, gal (gre _) _⟩

/-- behind k rounds of the first loop -/
structure L1 (g : GG) (a : Option Addr) (cap : Nat) (w wr : World) (k : Nat) (tb : Nat → Nat) : Prop where
  low : Below w.heap.size w wr
  box : GBox wr w.heap.size g a cap
  row : wr.rowIs (w.heap.size + 1) 139 g.nodes.length (fun i => if i < k then .pointer (some ⟨tb i, 0, none⟩) else .pointer none)
  things : ∀ i, i < k → Two wr (tb i) g.nodes[i]!.tag (.slice none 0 0) ∧ w.heap.size + 1 < tb i
  inj : ∀ i j, i < j → j < k → tb i < tb j

set_option maxRecDepth 100000 in
theorem L1.step {g : GG} {a : Option Addr} {cap : Nat} {w wr : World} {k : Nat} {tb : Nat → Nat} (h : L1 g a cap w wr k tb) (s : Value) (t t' : TypeId) :
    L1 g a cap w (((wr.setCell ⟨w.heap.size + 1, k, none⟩ (.pointer (some ⟨wr.heap.size + 1, 0, none⟩))).alloc (.cells #[.int .i64 g.nodes[k]!.tag, s] t)).alloc (.cells #[.int .i64 g.nodes[k]!.tag, .slice none 0 0] t')) (k + 1) (fun i => if i = k then wr.heap.size + 1 else tb i) := by
  have hl := h.row.lt
  have hC := (Kept.refl (fun b => b = w.heap.size + 1) wr).set (a := ⟨w.heap.size + 1, k, none⟩) (fun _ => rfl) (.pointer (some ⟨wr.heap.size + 1, 0, none⟩))
  have hA : Kept (fun _ => False) (wr.setCell ⟨w.heap.size + 1, k, none⟩ (.pointer (some ⟨wr.heap.size + 1, 0, none⟩))) (((wr.setCell ⟨w.heap.size + 1, k, none⟩ (.pointer (some ⟨wr.heap.size + 1, 0, none⟩))).alloc (.cells #[.int .i64 g.nodes[k]!.tag, s] t)).alloc (.cells #[.int .i64 g.nodes[k]!.tag, .slice none 0 0] t')) := ((Kept.refl _ _).alloc _).alloc _
  have hnew : Two (((wr.setCell ⟨w.heap.size + 1, k, none⟩ (.pointer (some ⟨wr.heap.size + 1, 0, none⟩))).alloc (.cells #[.int .i64 g.nodes[k]!.tag, s] t)).alloc (.cells #[.int .i64 g.nodes[k]!.tag, .slice none 0 0] t')) (wr.heap.size + 1) g.nodes[k]!.tag (.slice none 0 0) := Two.new_at _ _ _ _ _ (by simp)
  exact {
    low := (h.low.trans (hC.below h.low.size (fun k hk hp => by omega))).trans (hA.below (by have := h.low.size; have h2 := hC.size; omega) (fun _ _ e => e))
    box := (h.box.kept hC (by omega)).kept hA (fun e => e)
    row := (hA.rowIs (h.row.set k _) (fun e => e)).congr fun i hi => by
      by_cases e : i = k
      · rw [if_pos e, if_pos (by omega), if_pos e]
      · rw [if_neg e]
        by_cases e2 : i < k
        · rw [if_pos e2, if_pos (by omega), if_neg e]
        · rw [if_neg e2, if_neg (by omega)]
    things := fun i hi => by
      by_cases e : i = k
      · subst e
        rw [if_pos rfl]
        exact ⟨hnew, by omega⟩
      · rw [if_neg e]
        obtain ⟨h1, h2⟩ := h.things i (by omega)
        exact ⟨(h1.kept hC (by omega)).kept hA (fun e => e), h2⟩
    inj := fun i j hij hj => by
      by_cases e : j = k
      · subst e
        rw [if_neg (by omega), if_pos rfl]
        have := (h.things i (by omega)).1.lt
        omega
      · rw [if_neg (by omega), if_neg e]
        exact h.inj i j hij (by omega) }

set_option maxRecDepth 100000 in
theorem encV_one (tb : Nat → Nat) (v : GV) : (encV tb v).oneCell' = true := rfl

/-- the things' values so far -/
structure L2 (g : GG) (a : Option Addr) (cap : Nat) (w : World) (B : Nat) (tb : Nat → Nat) (ws : World) (m : Nat → Nat) (xa : Nat → Option Addr) (xc : Nat → Nat) : Prop where
  low : Below w.heap.size w ws
  base : w.heap.size + 1 < B ∧ B ≤ ws.heap.size
  box : GBox ws w.heap.size g a cap
  th : Things ws (w.heap.size + 1) g.nodes.length tb
  tbs : ∀ i, i < g.nodes.length → w.heap.size + 1 < tb i ∧ tb i < B
  inj : ∀ i j, i < g.nodes.length → j < g.nodes.length → tb i = tb j → i = j
  cell : ∀ i, i < g.nodes.length → Two ws (tb i) g.nodes[i]!.tag (.slice (xa i) (m i) (xc i))
  vals : ∀ i, i < g.nodes.length → ws.ownsRow B 80 1 (.slice (xa i) (m i) (xc i)) (m i) ((g.nodes[i]!.vals.take (m i)).map (encV tb))
  ap : ∀ i j, i < g.nodes.length → j < g.nodes.length → i ≠ j → ∀ b, xa i = some ⟨b, 0, none⟩ → xa j ≠ some ⟨b, 0, none⟩

set_option maxRecDepth 100000 in
/-- nothing of it turns while new blocks are laid -/
theorem L2.grow {g : GG} {a : Option Addr} {cap : Nat} {w : World} {B : Nat} {tb : Nat → Nat} {ws ws' : World} {m : Nat → Nat} {xa : Nat → Option Addr} {xc : Nat → Nat} (h : L2 g a cap w B tb ws m xa xc) (hb : Below ws.heap.size ws ws') : L2 g a cap w B tb ws' m xa xc := by
  have hK : Kept (fun _ => False) ws ws' := Kept.of_below hb _
  exact {
    low := h.low.trans (hb.mono h.low.size)
    base := ⟨h.base.1, Nat.le_trans h.base.2 hb.size⟩
    box := h.box.grow hb
    th := hK.rowIs h.th (fun e => e)
    tbs := h.tbs
    inj := h.inj
    cell := fun i hi => (h.cell i hi).kept hK (fun e => e)
    vals := fun i hi => hK.owns (h.vals i hi) (fun _ _ e => e)
    ap := h.ap }

set_option maxRecDepth 100000 in
theorem L2.step {g : GG} {a : Option Addr} {cap : Nat} {w : World} {B : Nat} {tb : Nat → Nat} {ws w3 : World} {m : Nat → Nat} {xa : Nat → Option Addr} {xc : Nat → Nat} (h : L2 g a cap w B tb ws m xa xc) {k : Nat} (hk : k < g.nodes.length) {v : GV} (hv : Hid (v = g.nodes[k]!.vals[m k]!)) (hm : m k < g.nodes[k]!.vals.length) {gg cc : Nat}
    (hown : w3.ownsRow B 80 1 (.slice (some ⟨gg, 0, none⟩) (m k + 1) cc) (m k + 1) ((g.nodes[k]!.vals.take (m k)).map (encV tb) ++ [encV tb v]))
    (hgrow : ws.grownBy w3 (Value.slice (xa k) (m k) (xc k)).ownBlock)
    (hat : (Value.slice (xa k) (m k) (xc k)).ownBlock = some gg ∨ ws.heap.size ≤ gg) :
    L2 g a cap w B tb (w3.setCell ⟨tb k, 1, none⟩ (.slice (some ⟨gg, 0, none⟩) (m k + 1) cc)) (fun i => if i = k then m k + 1 else m i) (fun i => if i = k then some ⟨gg, 0, none⟩ else xa i) (fun i => if i = k then cc else xc i) := by
  have hG := Kept.of_grown hgrow
  have hC := (Kept.refl (fun b => b = tb k) w3).set (a := ⟨tb k, 1, none⟩) (fun _ => rfl) (.slice (some ⟨gg, 0, none⟩) (m k + 1) cc)
  have htk := h.tbs k hk
  have hob : ∀ b, (Value.slice (xa k) (m k) (xc k)).ownBlock = some b → B ≤ b ∧ b < ws.heap.size ∧ xa k = some ⟨b, 0, none⟩ := fun b hb => ⟨((h.vals k hk).lt b hb).1, ((h.vals k hk).lt b hb).2, owns_addr (h.vals k hk) hb⟩
  have hgB : B ≤ gg := (hown.lt gg rfl).1
  exact {
    low := (h.low.trans (hG.below h.low.size (fun b hb hp => by have := hob b hp; omega))).trans (hC.below (Nat.le_trans h.low.size hG.size) (fun b hb hp => by omega))
    base := ⟨h.base.1, by have h1 := h.base.2; have h2 := hG.size; have h3 := hC.size; omega⟩
    box := (h.box.kept hG (fun hp => by have := hob _ hp; omega)).kept hC (by omega)
    th := hC.rowIs (hG.rowIs h.th (fun hp => by have := hob _ hp; omega)) (by omega)
    tbs := h.tbs
    inj := h.inj
    cell := fun i hi => by
      have hti := h.tbs i hi
      have h1 := (h.cell i hi).kept hG (fun hp => by have := hob _ hp; omega)
      by_cases e : i = k
      · subst e
        simp only [if_true]
        exact h1.set
      · simp only [if_neg e]
        exact h1.kept hC (fun hp => e (h.inj i k hi hk hp))
    vals := fun i hi => by
      by_cases e : i = k
      · subst e
        simp only [if_true]
        have h1 := hC.owns hown (fun b hb hp => by have := (hown.lt b hb).1; omega)
        rw [take_snoc _ _ hm, ← hv.out]
        simpa using h1
      · simp only [if_neg e]
        have h1 := h.vals i hi
        exact hC.owns (hG.owns h1 (fun b hb hp => h.ap i k hi hk e b (owns_addr h1 hb) (hob b hp).2.2)) (fun b hb hp => by have := (h1.lt b hb).1; omega)
    ap := fun i j hi hj hij b hb hx => by
      by_cases e : i = k
      · subst e
        rw [if_pos rfl] at hb
        rw [if_neg (fun e => hij e.symm)] at hx
        have e1 := some_addr hb
        subst e1
        rcases hat with e2 | e2
        · exact h.ap i j hi hj hij gg (hob gg e2).2.2 hx
        · have := ((h.vals j hj).lt gg (by rw [hx]; rfl)).2; omega
      · rw [if_neg e] at hb
        by_cases e' : j = k
        · subst e'
          rw [if_pos rfl] at hx
          have e1 := some_addr hx
          subst e1
          rcases hat with e2 | e2
          · exact h.ap i j hi hj hij gg hb (hob gg e2).2.2
          · have := ((h.vals i hi).lt gg (by rw [hb]; rfl)).2; omega
        · rw [if_neg e'] at hx
          exact h.ap i j hi hj hij b hb hx }

end Go.Proofs.Ythjddpkegooobaa
