import Derived.Deep.RegionHeld3
import Derived.Test.YthjddpkegooobabPartUnC

/-
  LINKED: the program's things: values behind an interface, nodes behind pointers. Own work.
-/
namespace Go.Proofs.Ythjddpkegooobab
open Go.RowKit

/-- a value as the program has it inside -/
def encT (v : GV) : TypeId := if v.kind = 1 then 214 else if v.kind = 2 then 215 else if v.kind = 3 then 216 else if v.kind = 4 then 206 else 219
def encX (tb : Nat → Nat) (v : GV) : Value :=
  if v.kind = 1 then .int .i64 v.num
  else if v.kind = 2 then .int .i64 v.num
  else if v.kind = 3 then .string v.text
  else if v.kind = 4 then .pointer (some ⟨tb v.node.toNat, 0, none⟩)
  else .agg #[]
abbrev encV (tb : Nat → Nat) (v : GV) : Value := .iface (encT v) (encX tb v)

set_option maxRecDepth 100000 in
theorem enc1 {tb : Nat → Nat} {v : GV} (h : v.kind = 1) : encV tb v = .iface 214 (.int .i64 v.num) := by
  unfold encV encT encX; rw [if_pos h, if_pos h]
theorem enc2 {tb : Nat → Nat} {v : GV} (h : v.kind = 2) : encV tb v = .iface 215 (.int .i64 v.num) := by
  unfold encV encT encX; rw [if_neg (by omega), if_pos h, if_neg (by omega), if_pos h]
set_option maxRecDepth 100000 in
theorem enc3 {tb : Nat → Nat} {v : GV} (h : v.kind = 3) : encV tb v = .iface 216 (.string v.text) := by
  unfold encV encT encX; rw [if_neg (by omega), if_neg (by omega), if_pos h, if_neg (by omega), if_neg (by omega), if_pos h]
theorem enc4 {tb : Nat → Nat} {v : GV} (h : v.kind = 4) : encV tb v = .iface 206 (.pointer (some ⟨tb v.node.toNat, 0, none⟩)) := by
  unfold encV encT encX; rw [if_neg (by omega), if_neg (by omega), if_neg (by omega), if_pos h, if_neg (by omega), if_neg (by omega), if_neg (by omega), if_pos h]
set_option maxRecDepth 100000 in
theorem enc0 {tb : Nat → Nat} {v : GV} (h1 : v.kind ≠ 1) (h2 : v.kind ≠ 2) (h3 : v.kind ≠ 3) (h4 : v.kind ≠ 4) : encV tb v = .iface 219 (.agg #[]) := by
  unfold encV encT encX; rw [if_neg h1, if_neg h2, if_neg h3, if_neg h4, if_neg h1, if_neg h2, if_neg h3, if_neg h4]

/-- the row of things -/
abbrev Things (w : World) (th n : Nat) (tb : Nat → Nat) : Prop := w.rowIs th 206 n (fun i => .pointer (some ⟨tb i, 0, none⟩))

set_option maxRecDepth 100000 in
theorem valueOf_any (n th : Nat) (tb : Nat → Nat) (v : GV) (w : World) (hv : okV n v = true) (_hn : n ≤ 300) (ht : Things w th n tb) :
    Calls Try.prog 170 #[v.val, .slice (some ⟨th, 0, none⟩) n n] w fun e w' => e = .returned (encV tb v) ∧ Below w.heap.size w w' := by
  by_cases h1 : v.kind = 1
  · have t1 : (v.kind == 1) = true := by simpa using h1
    have e : Hid _ := enc1 (tb := tb) h1
    clear h1
    go_enter Try.func170, Try.ntmps170
    go_wp2
    go_ret
    exact ⟨by rw [e.out]; rfl, gal (gre _) _⟩
  have t1 : (v.kind == 1) = false := by simpa using h1
  by_cases h2 : v.kind = 2
  · have t2 : (v.kind == 2) = true := by simpa using h2
    have e : Hid _ := enc2 (tb := tb) h2
    clear h1 h2
    go_enter Try.func170, Try.ntmps170
    go_wp2
    go_ret
    exact ⟨by rw [e.out]; rfl, gal (gre _) _⟩
  have t2 : (v.kind == 2) = false := by simpa using h2
  by_cases h3 : v.kind = 3
  · have t3 : (v.kind == 3) = true := by simpa using h3
    have e : Hid _ := enc3 (tb := tb) h3
    clear h1 h2 h3
    go_enter Try.func170, Try.ntmps170
    go_wp2
    go_ret
    exact ⟨by rw [e.out]; rfl, gal (gre _) _⟩
  have t3 : (v.kind == 3) = false := by simpa using h3
  by_cases h4 : v.kind = 4
  · have t4 : (v.kind == 4) = true := by simpa using h4
    have hb := okV_node hv h4
    have e : Hid _ := enc4 (tb := tb) h4
    clear h1 h2 h3 h4
    obtain ⟨k, m, t, x⟩ := v
    obtain ⟨y, rfl⟩ := Int.eq_ofNat_of_zero_le hb.1
    have hy : y < n := by have := hb.2; simpa using this
    have hc := ht.cell hy
    have hl := ht.lt
    have i0 : (0 : Int) ≤ (y : Int) := by omega
    have i1 : (y : Int) < (n : Int) := by omega
    go_enter Try.func170, Try.ntmps170
    go_wp2
    go_ret
    exact ⟨by rw [e.out]; rfl, gal (gre _) _⟩
  have t4 : (v.kind == 4) = false := by simpa using h4
  have e : Hid _ := enc0 (tb := tb) h1 h2 h3 h4
  clear h1 h2 h3 h4
  go_enter Try.func170, Try.ntmps170
  go_wp2
  go_ret
  exact ⟨by rw [e.out]; rfl, gal (gre _) _⟩

/-- behind k rounds of the first loop -/
structure L1 (g : GG) (a : Option Addr) (cap : Nat) (w wr : World) (k : Nat) (tb : Nat → Nat) : Prop where
  low : Below w.heap.size w wr
  box : GBox wr w.heap.size g a cap
  row : wr.rowIs (w.heap.size + 1) 206 g.nodes.length (fun i => if i < k then .pointer (some ⟨tb i, 0, none⟩) else .pointer none)
  things : ∀ i, i < k → Two wr (tb i) g.nodes[i]!.tag (.slice none 0 0) ∧ w.heap.size + 1 < tb i
  inj : ∀ i j, i < j → j < k → tb i < tb j

set_option maxRecDepth 100000 in
theorem L1.step {g : GG} {a : Option Addr} {cap : Nat} {w wr : World} {k : Nat} {tb : Nat → Nat} (h : L1 g a cap w wr k tb) (s : Value) (t t' : TypeId) :
    L1 g a cap w (((wr.setCell ⟨w.heap.size + 1, k, none⟩ (.pointer (some ⟨wr.heap.size + 1, 0, none⟩))).alloc (.cells #[.int .i64 g.nodes[k]!.tag, s] t)).alloc (.cells #[.int .i64 g.nodes[k]!.tag, .slice none 0 0] t')) (k + 1) (fun i => if i = k then wr.heap.size + 1 else tb i) := by
  have hl := h.row.lt
  have hC := (Kept.refl (fun b => b = w.heap.size + 1) wr).set (a := ⟨w.heap.size + 1, k, none⟩) (fun _ => rfl) (.pointer (some ⟨wr.heap.size + 1, 0, none⟩))
  have hA : Kept (fun _ => False) (wr.setCell ⟨w.heap.size + 1, k, none⟩ (.pointer (some ⟨wr.heap.size + 1, 0, none⟩))) (((wr.setCell ⟨w.heap.size + 1, k, none⟩ (.pointer (some ⟨wr.heap.size + 1, 0, none⟩))).alloc (.cells #[.int .i64 g.nodes[k]!.tag, s] t)).alloc (.cells #[.int .i64 g.nodes[k]!.tag, .slice none 0 0] t')) := ((Kept.refl _ _).alloc _).alloc _
  have hnew : Two (((wr.setCell ⟨w.heap.size + 1, k, none⟩ (.pointer (some ⟨wr.heap.size + 1, 0, none⟩))).alloc (.cells #[.int .i64 g.nodes[k]!.tag, s] t)).alloc (.cells #[.int .i64 g.nodes[k]!.tag, .slice none 0 0] t')) (wr.heap.size + 1) g.nodes[k]!.tag (.slice none 0 0) := Two.new_at _ _ _ _ _ (by simp)
  exact {
    low := (h.low.trans (hC.below h.low.size (fun k hk hp => by omega))).trans (hA.below (by have := h.low.size; have h2 := hC.size; omega) (fun _ _ e => e))
    box := (h.box.kept hC (by omega)).kept hA (fun e => e)
    row := (hA.rowIs (h.row.set k _) (fun e => e)).congr fun i hi => by
      by_cases e : i = k
      · rw [if_pos e, if_pos (by omega), if_pos e]
      · rw [if_neg e]
        by_cases e2 : i < k
        · rw [if_pos e2, if_pos (by omega), if_neg e]
        · rw [if_neg e2, if_neg (by omega)]
    things := fun i hi => by
      by_cases e : i = k
      · subst e
        rw [if_pos rfl]
        exact ⟨hnew, by omega⟩
      · rw [if_neg e]
        obtain ⟨h1, h2⟩ := h.things i (by omega)
        exact ⟨(h1.kept hC (by omega)).kept hA (fun e => e), h2⟩
    inj := fun i j hij hj => by
      by_cases e : j = k
      · subst e
        rw [if_neg (by omega), if_pos rfl]
        have := (h.things i (by omega)).1.lt
        omega
      · rw [if_neg (by omega), if_neg e]
        exact h.inj i j hij (by omega) }

set_option maxRecDepth 100000 in
theorem encV_one (tb : Nat → Nat) (v : GV) : (encV tb v).oneCell' = true := rfl

/-- the things' values so far -/
structure L2 (g : GG) (a : Option Addr) (cap : Nat) (w : World) (B : Nat) (tb : Nat → Nat) (ws : World) (m : Nat → Nat) (xa : Nat → Option Addr) (xc : Nat → Nat) : Prop where
  low : Below w.heap.size w ws
  base : w.heap.size + 1 < B ∧ B ≤ ws.heap.size
  box : GBox ws w.heap.size g a cap
  th : Things ws (w.heap.size + 1) g.nodes.length tb
  tbs : ∀ i, i < g.nodes.length → w.heap.size + 1 < tb i ∧ tb i < B
  inj : ∀ i j, i < g.nodes.length → j < g.nodes.length → tb i = tb j → i = j
  cell : ∀ i, i < g.nodes.length → Two ws (tb i) g.nodes[i]!.tag (.slice (xa i) (m i) (xc i))
  vals : ∀ i, i < g.nodes.length → ws.ownsRow B 172 1 (.slice (xa i) (m i) (xc i)) (m i) ((g.nodes[i]!.vals.take (m i)).map (encV tb))
  ap : ∀ i j, i < g.nodes.length → j < g.nodes.length → i ≠ j → ∀ b, xa i = some ⟨b, 0, none⟩ → xa j ≠ some ⟨b, 0, none⟩

set_option maxRecDepth 100000 in
/-- nothing of it turns while new blocks are laid -/
theorem L2.grow {g : GG} {a : Option Addr} {cap : Nat} {w : World} {B : Nat} {tb : Nat → Nat} {ws ws' : World} {m : Nat → Nat} {xa : Nat → Option Addr} {xc : Nat → Nat} (h : L2 g a cap w B tb ws m xa xc) (hb : Below ws.heap.size ws ws') : L2 g a cap w B tb ws' m xa xc := by
  have hK : Kept (fun _ => False) ws ws' := Kept.of_below hb _
  exact {
    low := h.low.trans (hb.mono h.low.size)
    base := ⟨h.base.1, Nat.le_trans h.base.2 hb.size⟩
    box := h.box.grow hb
    th := hK.rowIs h.th (fun e => e)
    tbs := h.tbs
    inj := h.inj
    cell := fun i hi => (h.cell i hi).kept hK (fun e => e)
    vals := fun i hi => hK.owns (h.vals i hi) (fun _ _ e => e)
    ap := h.ap }

set_option maxRecDepth 100000 in
theorem L2.step {g : GG} {a : Option Addr} {cap : Nat} {w : World} {B : Nat} {tb : Nat → Nat} {ws w3 : World} {m : Nat → Nat} {xa : Nat → Option Addr} {xc : Nat → Nat} (h : L2 g a cap w B tb ws m xa xc) {k : Nat} (hk : k < g.nodes.length) {v : GV} (hv : Hid (v = g.nodes[k]!.vals[m k]!)) (hm : m k < g.nodes[k]!.vals.length) {gg cc : Nat}
    (hown : w3.ownsRow B 172 1 (.slice (some ⟨gg, 0, none⟩) (m k + 1) cc) (m k + 1) ((g.nodes[k]!.vals.take (m k)).map (encV tb) ++ [encV tb v]))
    (hgrow : ws.grownBy w3 (Value.slice (xa k) (m k) (xc k)).ownBlock)
    (hat : (Value.slice (xa k) (m k) (xc k)).ownBlock = some gg ∨ ws.heap.size ≤ gg) :
    L2 g a cap w B tb (w3.setCell ⟨tb k, 1, none⟩ (.slice (some ⟨gg, 0, none⟩) (m k + 1) cc)) (fun i => if i = k then m k + 1 else m i) (fun i => if i = k then some ⟨gg, 0, none⟩ else xa i) (fun i => if i = k then cc else xc i) := by
  have hG := Kept.of_grown hgrow
  have hC := (Kept.refl (fun b => b = tb k) w3).set (a := ⟨tb k, 1, none⟩) (fun _ => rfl) (.slice (some ⟨gg, 0, none⟩) (m k + 1) cc)
  have htk := h.tbs k hk
  have hob : ∀ b, (Value.slice (xa k) (m k) (xc k)).ownBlock = some b → B ≤ b ∧ b < ws.heap.size ∧ xa k = some ⟨b, 0, none⟩ := fun b hb => ⟨((h.vals k hk).lt b hb).1, ((h.vals k hk).lt b hb).2, owns_addr (h.vals k hk) hb⟩
  have hgB : B ≤ gg := (hown.lt gg rfl).1
  exact {
    low := (h.low.trans (hG.below h.low.size (fun b hb hp => by have := hob b hp; omega))).trans (hC.below (Nat.le_trans h.low.size hG.size) (fun b hb hp => by omega))
    base := ⟨h.base.1, by have h1 := h.base.2; have h2 := hG.size; have h3 := hC.size; omega⟩
    box := (h.box.kept hG (fun hp => by have := hob _ hp; omega)).kept hC (by omega)
    th := hC.rowIs (hG.rowIs h.th (fun hp => by have := hob _ hp; omega)) (by omega)
    tbs := h.tbs
    inj := h.inj
    cell := fun i hi => by
      have hti := h.tbs i hi
      have h1 := (h.cell i hi).kept hG (fun hp => by have := hob _ hp; omega)
      by_cases e : i = k
      · subst e
        simp only [if_true]
        exact h1.set
      · simp only [if_neg e]
        exact h1.kept hC (fun hp => e (h.inj i k hi hk hp))
    vals := fun i hi => by
      by_cases e : i = k
      · subst e
        simp only [if_true]
        have h1 := hC.owns hown (fun b hb hp => by have := (hown.lt b hb).1; omega)
        rw [take_snoc _ _ hm, ← hv.out]
        simpa using h1
      · simp only [if_neg e]
        have h1 := h.vals i hi
        exact hC.owns (hG.owns h1 (fun b hb hp => h.ap i k hi hk e b (owns_addr h1 hb) (hob b hp).2.2)) (fun b hb hp => by have := (h1.lt b hb).1; omega)
    ap := fun i j hi hj hij b hb hx => by
      by_cases e : i = k
      · subst e
        rw [if_pos rfl] at hb
        rw [if_neg (fun e => hij e.symm)] at hx
        have e1 := some_addr hb
        subst e1
        rcases hat with e2 | e2
        · exact h.ap i j hi hj hij gg (hob gg e2).2.2 hx
        · have := ((h.vals j hj).lt gg (by rw [hx]; rfl)).2; omega
      · rw [if_neg e] at hb
        by_cases e' : j = k
        · subst e'
          rw [if_pos rfl] at hx
          have e1 := some_addr hx
          subst e1
          rcases hat with e2 | e2
          · exact h.ap i j hi hj hij gg hb (hob gg e2).2.2
          · have := ((h.vals i hi).lt gg (by rw [hb]; rfl)).2; omega
        · rw [if_neg e'] at hx
          exact h.ap i j hi hj hij b hb hx }

end Go.Proofs.Ythjddpkegooobab

/-
  REGIONU: a region that draws its order, whose last operation may turn what the others read. What holds (S) while the last one has not come up. Own work, over the library's own laws on orders.
-/
namespace Go.Proofs.Ythjddpkegooobab
open Go.RowKit

section
variable {P : Program} {ops : Array Oper} {Q : Exit → Act → World → Prop} {md : Region.Mode} {S : World → Prop} {lst : Nat}

/-- every order of what has not come up; behind each operation but the last S holds -/
def anyU (P : Program) (md : Region.Mode) (ops : Array Oper) (Q : Exit → Act → World → Prop) (S : World → Prop) (lst : Nat) : Nat → Array Bool → Act → World → Prop
  | 0, listed, a, w => Region.ready md ops listed = [] ∧ Q .normal a w
  | fuel + 1, listed, a, w =>
    (Region.ready md ops listed = [] → Q .normal a w) ∧
    ∀ i ∈ Region.ready md ops listed, wpOp P ops Q i (fun a' w' => (i ≠ lst → S w') ∧ anyU P md ops Q S lst fuel (listed.setIfInBounds i true) a' w') a w

theorem wpAny_of_U : ∀ (fuel : Nat) (listed : Array Bool) (a : Act) (w : World), anyU P md ops Q S lst fuel listed a w → wpAny P md ops Q fuel listed a w
  | 0, _, _, _, h => h
  | fuel + 1, _, _, _, h => ⟨h.1, fun i hi => wpOp_mono (fun a' w' h' => wpAny_of_U fuel _ a' w' h'.2) (h.2 i hi)⟩

theorem anyU_first {i : Nat} {oi : Oper} {v : Value} (hi : ops[i]? = some oi) (hsel : ∀ (j : Nat) (o : Oper) cs b, ops[j]? = some o → o.op ≠ .select cs b)
    (hQ : ∀ c a w, Q (.panic c) (a.put oi.dst v) w → Q (.panic c) a w)
    (hlst : ∀ oj, ops[lst]? = some oj → ∃ e ∈ oj.after, Region.binds md e = true ∧ e.on = i) (hil : i ≠ lst) :
    ∀ (fuel : Nat) (listed : Array Bool) (a : Act) (w : World),
      (∀ j oj, ops[j]? = some oj → j ≠ i → listed.getD j true = false → (∀ e ∈ oj.after, Region.binds md e = true → e.on ≠ i) → oi.apart ops oj = true) →
      i ∈ Region.ready md ops listed → YieldsIf P ops S oi v a → S w →
      anyU P md ops Q S lst fuel (listed.setIfInBounds i true) (a.put oi.dst v) w → anyU P md ops Q S lst (fuel + 1) listed a w := by
  intro fuel
  induction fuel with
  | zero =>
    intro listed a w _ hr hy hS H
    refine ⟨fun h => (by rw [h] at hr; cases hr), fun j hj => ?_⟩
    by_cases hji : j = i
    · subst hji; exact hy.wpOp hi hS ⟨fun _ => hS, H⟩
    · have h0 := ready_mono hj hji
      rw [H.1] at h0
      cases h0
  | succ fuel ih =>
    intro listed a w hfree hr hy hS H
    refine ⟨fun h => (by rw [h] at hr; cases hr), fun j hj => ?_⟩
    by_cases hji : j = i
    · subst hji; exact hy.wpOp hi hS ⟨fun _ => hS, H⟩
    · have h1 := H.2 j (ready_mono hj hji)
      obtain ⟨hjun, oj, hoj, hall⟩ := mem_ready.1 hj
      have hnot : ∀ e ∈ oj.after, Region.binds md e = true → e.on ≠ i := fun e he hb heq => by
        have h1 := hall e he hb
        have h0 := (mem_ready.1 hr).1
        rw [heq] at h1
        rcases Nat.lt_or_ge i listed.size with h' | h'
        · simp [h'] at h0 h1; rw [h0] at h1; cases h1
        · simp [Array.getElem?_eq_none h'] at h1
      have hjl : j ≠ lst := fun e => by
        subst e
        obtain ⟨e, he, hb, ho⟩ := hlst oj hoj
        exact hnot e he hb ho
      have h2 := wpOp_putIf hoj (hfree j oj hoj hji hjun hnot) (fun cs b => hsel i oi cs b hi) (fun cs b => hsel j oj cs b hoj) hQ hy h1
      have hfree' : ∀ k ok, ops[k]? = some ok → k ≠ i → (listed.setIfInBounds j true).getD k true = false →
          (∀ e ∈ ok.after, Region.binds md e = true → e.on ≠ i) → oi.apart ops ok = true := fun k ok hk hki hun hno => by
        refine hfree k ok hk hki ?_ hno
        by_cases hjk : j = k
        · subst hjk; exact hjun
        · rw [getD_set_ne true hjk] at hun; exact hun
      refine wpOp_mono (fun a' w' h3 => ⟨fun hl => h3.2.1 hl, ih (listed.setIfInBounds j true) a' w' hfree' (ready_mono hr (Ne.symm hji)) h3.1 (h3.2.1 hjl) ?_⟩) h2
      rw [Array.setIfInBounds_comm _ _ hji]
      exact h3.2.2

/-- the last waits for number i -/
def lastWaits (md : Region.Mode) (ops : Array Oper) (lst i : Nat) : Bool :=
  !(i == lst) && match ops[lst]? with
  | some oj => oj.after.any fun e => Region.binds md e && e.on == i
  | none => true

theorem anyU_take {i : Nat} {oi : Oper} {v : Value} {fuel : Nat} {listed : Array Bool} {a : Act} {w : World} (hi : ops[i]? = some oi)
    (hs : Region.noSelect ops = true) (hf : Region.free md ops listed i = true) (hr : (Region.ready md ops listed).contains i = true) (hl : lastWaits md ops lst i = true)
    (hQ : ∀ c a w, Q (.panic c) (a.put oi.dst v) w → Q (.panic c) a w) (hy : YieldsIf P ops S oi v a) (hS : S w)
    (h : anyU P md ops Q S lst fuel (listed.setIfInBounds i true) (a.put oi.dst v) w) : anyU P md ops Q S lst (fuel + 1) listed a w := by
  unfold lastWaits at hl
  simp only [Bool.and_eq_true, Bool.not_eq_true', beq_eq_false_iff_ne] at hl
  refine anyU_first hi (Region.noSelect_spec hs) hQ (fun oj hoj => ?_) hl.1 fuel listed a w (Region.free_spec hi hf) (by simpa using hr) hy hS h
  have h2 := hl.2
  rw [hoj] at h2
  obtain ⟨e, he, hb⟩ := Array.any_eq_true'.1 h2
  simp only [Bool.and_eq_true, beq_iff_eq] at hb
  exact ⟨e, he, hb.1, hb.2⟩

/-- one alone may come up, and it is not the last -/
theorem anyU_one {i : Nat} {o : Oper} {fuel : Nat} {listed : Array Bool} {a : Act} {w : World} (hr : Region.ready md ops listed = [i]) (ho : ops[i]? = some o)
    (h : ∀ K : Act → World → Prop, Shut (∀ a w, S w → anyU P md ops Q S lst fuel (listed.setIfInBounds i true) a w → K a w) → if Region.wanted o (yielded ops a.tmps) = true then Oper.wp P o a w K Q else K (a.put o.dst undef) w) :
    anyU P md ops Q S lst (fuel + 1) listed a w := by
  refine ⟨fun h0 => (by rw [hr] at h0; cases h0), fun j hj => ?_⟩
  rw [hr] at hj
  obtain rfl : j = i := by simpa using hj
  exact wpOp_step ho (fun K' hK => h K' (fun a w hS hW => hK a w ⟨fun _ => hS, hW⟩))

/-- the last -/
theorem anyU_last {o : Oper} {fuel : Nat} {listed : Array Bool} {a : Act} {w : World} (hr : Region.ready md ops listed = [lst]) (ho : ops[lst]? = some o) (hd : Region.ready md ops (listed.setIfInBounds lst true) = [])
    (h : ∀ K : Act → World → Prop, Shut (∀ a w, Q .normal a w → K a w) → if Region.wanted o (yielded ops a.tmps) = true then Oper.wp P o a w K Q else K (a.put o.dst undef) w) :
    anyU P md ops Q S lst (fuel + 1) listed a w := by
  refine ⟨fun h0 => (by rw [hr] at h0; cases h0), fun j hj => ?_⟩
  rw [hr] at hj
  obtain rfl : j = lst := by simpa using hj
  refine wpOp_step ho (fun K' hK => h K' (fun a w hQ => hK a w ⟨fun e => absurd rfl e, ?_⟩))
  cases fuel with
  | zero => exact ⟨hd, hQ⟩
  | succ f => exact ⟨fun _ => hQ, fun i hi => by rw [hd] at hi; cases hi⟩

theorem wp_regionU {id : Nat} {a : Act} {w : World} (S : World → Prop) (lst : Nat) (hm : P.follows .mixedOrders = true) (hS : S w.drew)
    (h : S w.drew → anyU P .any ops Q S lst ops.size (Array.replicate ops.size false) a w.drew) : (Code.region id ops true).wp P Q a w :=
  wp_region_any hm (wpAny_of_U _ _ _ _ (h hS))

end
end Go.Proofs.Ythjddpkegooobab

/-
  LINKED2: the things made, walked. Own work.
-/
namespace Go.Proofs.Ythjddpkegooobab
open Go.RowKit

set_option maxRecDepth 100000 in
theorem info_thing : (Try.prog.info? 206).map (fun i => (i.zero, i.size, i.bytes)) = some (some (.pointer none), 1, 8) := by kernel_rfl
theorem info_value : (Try.prog.info? 172).map (fun i => (i.zero, i.size, i.bytes)) = some (some .nilIface, 1, 16) := by kernel_rfl

/-- what making the things leaves -/
def LinkedPost (g : GG) (a : Option Addr) (cap : Nat) (w : World) (e : Ending) (w' : World) : Prop :=
  ∃ (B : Nat) (tb : Nat → Nat) (xa : Nat → Option Addr) (xc : Nat → Nat), e = .returned (encV tb g.root) ∧ L2 g a cap w B tb w' (fun i => g.nodes[i]!.vals.length) xa xc

set_option maxHeartbeats 1000000 in
set_option maxRecDepth 100000 in
theorem linked_any (a : Option Addr) (cap : Nat) (g : GG) (w : World) (hok : okG g = true) (ha : NodesAt w.heap.size w a g.nodes) :
    Calls Try.prog 138 #[g.val a cap] w (LinkedPost g a cap w) := by
  obtain ⟨hn, hroot, hnodes⟩ := okG_parts hok
  obtain ⟨i0, hi, hz0, hz1, hz2⟩ := info_parts info_value
  have hmk := fun u => run_make_row' (P := Try.prog) 201 206 (.pointer none) 8 Try.underlying201 info_thing rfl .i64 .i64 g.nodes.length (by omega) (by omega) u
  go_enter Try.func138, Try.ntmps138
  go_wp2
  go_loopw [17] (fun i wr => ∃ (k : Nat) (tb : Nat → Nat), k ≤ g.nodes.length ∧ i = .int .i64 k ∧ L1 g a cap w wr k tb) (fun i _ => g.nodes.length - (intOf i).toNat)
  case atStart =>
    refine ⟨0, fun _ => 0, Nat.zero_le _, rfl, gal (gal (gre _) _) _, (GBox.new w g a cap _).grow (gal (gre _) _), ?_, fun i hi => absurd hi (Nat.not_lt_zero _), fun i j _ hj => absurd hj (Nat.not_lt_zero _)⟩
    exact ⟨_, blk_new_at _ _ _ (by simp), size_madeCells _ _, fun i hi => by simp [madeCells, hi, Nat.mod_one]⟩
  case round =>
    obtain ⟨k, tb, hk, rfl, hL⟩ := hrel
    have hbl := hL.box.lt
    have hrl := hL.row.lt
    by_cases hlt : k < g.nodes.length
    · obtain ⟨n, b, off, av, cv, hnx, hnm, rfl, hbs, hva⟩ := ha.get hlt
      have hva := hva.below hL.low hbs
      have c0 := hva.tag
      have c1 := hva.sl
      have hbb : b < wr.heap.size := Nat.lt_of_lt_of_le hbs hL.low.size
      have d0 := hL.row.cell hlt
      have df := hL.row.frozen k
      rw [if_neg (by omega)] at d0
      have hst := hL.step (.slice av n.vals.length cv) 116 209
      rw [← hnx.out] at hst
      have hst' : Hid _ := hst
      clear hst hva
      go_wp2
      go_roundw
      case rel => exact ⟨k + 1, _, by omega, by go_num, hst'.out⟩
      case measure => simp [intOf]; omega
    · have e : k = g.nodes.length := by omega
      subst e
      have hb4 := hL.box.sl
      have hS : L2 g a cap w wr.heap.size tb wr (fun _ => 0) (fun _ => none) (fun _ => 0) := {
        low := hL.low
        base := ⟨hrl, Nat.le_refl _⟩
        box := hL.box
        th := hL.row.congr fun i hi => by rw [if_pos hi]
        tbs := fun i hi => ⟨(hL.things i hi).2, (hL.things i hi).1.lt⟩
        inj := fun i j hi hj e => by
          rcases Nat.lt_trichotomy i j with h | h | h
          · have := hL.inj i j h hj; omega
          · exact h
          · have := hL.inj j i h hi; omega
        cell := fun i hi => (hL.things i hi).1
        vals := fun i hi => by simpa using World.ownsRow_nil wr wr.heap.size 172 1
        ap := fun i j _ _ _ b hb => by cases hb }
      obtain ⟨B, hB⟩ : ∃ B, B = wr.heap.size := ⟨_, rfl⟩
      rw [← hB] at hS
      clear hL hB
      go_wp2
      go_loopw [33] (fun i ws => ∃ (k : Nat) (xa : Nat → Option Addr) (xc : Nat → Nat), k ≤ g.nodes.length ∧ i = .int .i64 k ∧ L2 g a cap w B tb ws (fun i => if i < k then g.nodes[i]!.vals.length else 0) xa xc) (fun i _ => g.nodes.length - (intOf i).toNat)
      case atStart => exact ⟨0, _, _, Nat.zero_le _, rfl, by simpa using hS⟩
      case round =>
        clear hS
        rename World => wo
        obtain ⟨k, xa, xc, hk, rfl, hS⟩ := hrel
        by_cases hlt : k < g.nodes.length
        · obtain ⟨n, b, off, av, cv, hnx, hnm, rfl, hbs, hva⟩ := ha.get hlt
          have hva := hva.below hS.low hbs
          have c0 := hva.tag
          have c1 := hva.sl
          have hv1 : ValsAt w.heap.size wo av n.vals := hva.vals
          have hbb : b < wo.heap.size := Nat.lt_of_lt_of_le hbs hS.low.size
          have hvl := (okN_parts (hnodes n hnm)).1
          have hvok := (okN_parts (hnodes n hnm)).2
          go_wp2
          go_loopw [41] (fun i ws => ∃ (j : Nat) (xa : Nat → Option Addr) (xc : Nat → Nat), j ≤ n.vals.length ∧ i = .int .i64 j ∧ Below w.heap.size wo ws ∧ L2 g (some ⟨b, off, none⟩) cap w B tb ws (fun i => if i < k then g.nodes[i]!.vals.length else if i = k then j else 0) xa xc) (fun i _ => n.vals.length - (intOf i).toNat)
          case atStart => exact ⟨0, xa, xc, Nat.zero_le _, rfl, (Below.refl _ _).alloc hS.low.size _, by simpa using hS.grow (gal (gre _) _)⟩
          case round =>
            clear hS
            obtain ⟨j, xa, xc, hj, rfl, hbl2, hS⟩ := hrel
            by_cases hjl : j < n.vals.length
            · obtain ⟨v, bb, oo, hvj, hvm, rfl, hbs2, hva2⟩ := (hv1.below hbl2).get hjl
              have q0 := hva2.kind
              have q1 := hva2.num
              have q2 := hva2.text
              have q3 := hva2.node
              have hb3 : bb < wr.heap.size := by have h1 := hbl2.size; have h2 := hS.low.size; omega
              have hth := hS.th.cell hlt
              have hthl := hS.th.lt
              have htc := hS.cell k hlt
              rw [if_neg (by omega), if_pos rfl] at htc
              obtain ⟨tz, t0, t1, tf⟩ := htc
              have i0' : (0 : Int) ≤ (k : Int) := by omega
              have i1' : (k : Int) < (g.nodes.length : Int) := by omega
              go_wp2
              have hS1 := hS.grow (gdr (gal (gre wr) (.cells #[.int .i64 v.kind, .int .i64 v.num, .string v.text, .int .i64 v.node] 30)))
              have hvokv := hvok v hvm
              have htb := hS.tbs k hlt
              have hBw := hS.base.2
              have hrows := hS1.vals k hlt
              rw [if_neg (by omega), if_pos rfl] at hrows
              have hnb : ∀ b, (Value.slice (xa k) j (xc k)).ownBlock = some b → B ≤ b ∧ b < wr.heap.size := fun b hb => by
                have h1 := hS.vals k hlt
                rw [if_neg (by omega), if_pos rfl] at h1
                exact h1.lt b hb
              have hF := (Four.new wr v 30).same (w' := (wr.alloc (.cells #[.int .i64 v.kind, .int .i64 v.num, .string v.text, .int .i64 v.node] 30)).drew) rfl (by simp)
              have hT1 := hS1.cell k hlt
              rw [if_neg (by omega), if_pos rfl] at hT1
              have hd : Hid (_ ∧ _ ∧ _ ∧ _ ∧ _ ∧ _) := ⟨hS1.th.cell hlt, hT1.c1, hF.c0, hF.c1, hF.c2, hF.c3⟩
              have hTH : Hid _ := hT1
              clear hF hT1
              refine wp_regionU (fun u => u.cell? ⟨w.heap.size + 1, k, none⟩ = some (.pointer (some ⟨tb k, 0, none⟩)) ∧ u.cell? ⟨tb k, 1, none⟩ = some (.slice (xa k) j (xc k)) ∧ u.cell? ⟨wr.heap.size, 0, none⟩ = some (.int .i64 v.kind) ∧ u.cell? ⟨wr.heap.size, 1, none⟩ = some (.int .i64 v.num) ∧ u.cell? ⟨wr.heap.size, 2, none⟩ = some (.string v.text) ∧ u.cell? ⟨wr.heap.size, 3, none⟩ = some (.int .i64 v.node)) 18 (by kernel_rfl) hd.out (fun hS0 => ?_)
              refine anyU_take (i := 0) (v := ?_) rfl (by kernel_rfl) (by kernel_rfl) (by kernel_rfl) (by kernel_rfl) (fun _ _ _ h => h) (Or.inl ⟨by rfl, ?_⟩) hS0 ?_
              rotate_left
              · intro u hSu; obtain ⟨p0, p1, p2, p3, p4, p5⟩ := hSu; go_simp <;> with_reducible rfl
              simp only [Act.put, List.getElem_toArray, List.getElem_cons_zero, List.setIfInBounds_toArray, List.set_cons_zero, List.set_cons_succ]
              refine anyU_take (i := 1) (v := ?_) rfl (by kernel_rfl) (by kernel_rfl) (by kernel_rfl) (by kernel_rfl) (fun _ _ _ h => h) (Or.inl ⟨by rfl, ?_⟩) hS0 ?_
              rotate_left
              · intro u hSu; obtain ⟨p0, p1, p2, p3, p4, p5⟩ := hSu; go_simp <;> with_reducible rfl
              simp only [Act.put, List.getElem_toArray, List.getElem_cons_zero, List.getElem_cons_succ, List.setIfInBounds_toArray, List.set_cons_zero, List.set_cons_succ]
              refine anyU_take (i := 2) (v := ?_) rfl (by kernel_rfl) (by kernel_rfl) (by kernel_rfl) (by kernel_rfl) (fun _ _ _ h => h) (Or.inl ⟨by rfl, ?_⟩) hS0 ?_
              rotate_left
              · intro u hSu; obtain ⟨p0, p1, p2, p3, p4, p5⟩ := hSu; go_simp <;> with_reducible rfl
              simp only [Act.put, List.getElem_toArray, List.getElem_cons_zero, List.getElem_cons_succ, List.setIfInBounds_toArray, List.set_cons_zero, List.set_cons_succ]
              refine anyU_take (i := 3) (v := ?_) rfl (by kernel_rfl) (by kernel_rfl) (by kernel_rfl) (by kernel_rfl) (fun _ _ _ h => h) (Or.inl ⟨by rfl, ?_⟩) hS0 ?_
              rotate_left
              · intro u hSu; obtain ⟨p0, p1, p2, p3, p4, p5⟩ := hSu; go_simp <;> with_reducible rfl
              simp only [Act.put, List.getElem_toArray, List.getElem_cons_zero, List.getElem_cons_succ, List.setIfInBounds_toArray, List.set_cons_zero, List.set_cons_succ]
              refine anyU_take (i := 4) (v := ?_) rfl (by kernel_rfl) (by kernel_rfl) (by kernel_rfl) (by kernel_rfl) (fun _ _ _ h => h) (Or.inl ⟨by rfl, ?_⟩) hS0 ?_
              rotate_left
              · intro u hSu; obtain ⟨p0, p1, p2, p3, p4, p5⟩ := hSu; go_simp <;> with_reducible rfl
              simp only [Act.put, List.getElem_toArray, List.getElem_cons_zero, List.getElem_cons_succ, List.setIfInBounds_toArray, List.set_cons_zero, List.set_cons_succ]
              refine anyU_take (i := 5) (v := ?_) rfl (by kernel_rfl) (by kernel_rfl) (by kernel_rfl) (by kernel_rfl) (fun _ _ _ h => h) (Or.inl ⟨by rfl, ?_⟩) hS0 ?_
              rotate_left
              · intro u hSu; obtain ⟨p0, p1, p2, p3, p4, p5⟩ := hSu; go_simp <;> with_reducible rfl
              simp only [Act.put, List.getElem_toArray, List.getElem_cons_zero, List.getElem_cons_succ, List.setIfInBounds_toArray, List.set_cons_zero, List.set_cons_succ]
              refine anyU_take (i := 6) (v := ?_) rfl (by kernel_rfl) (by kernel_rfl) (by kernel_rfl) (by kernel_rfl) (fun _ _ _ h => h) (Or.inl ⟨by rfl, ?_⟩) hS0 ?_
              rotate_left
              · intro u hSu; obtain ⟨p0, p1, p2, p3, p4, p5⟩ := hSu; go_simp <;> with_reducible rfl
              simp only [Act.put, List.getElem_toArray, List.getElem_cons_zero, List.getElem_cons_succ, List.setIfInBounds_toArray, List.set_cons_zero, List.set_cons_succ]
              refine anyU_take (i := 7) (v := ?_) rfl (by kernel_rfl) (by kernel_rfl) (by kernel_rfl) (by kernel_rfl) (fun _ _ _ h => h) (Or.inl ⟨by rfl, ?_⟩) hS0 ?_
              rotate_left
              · intro u hSu; obtain ⟨p0, p1, p2, p3, p4, p5⟩ := hSu; go_simp <;> with_reducible rfl
              simp only [Act.put, List.getElem_toArray, List.getElem_cons_zero, List.getElem_cons_succ, List.setIfInBounds_toArray, List.set_cons_zero, List.set_cons_succ]
              refine anyU_take (i := 8) (v := ?_) rfl (by kernel_rfl) (by kernel_rfl) (by kernel_rfl) (by kernel_rfl) (fun _ _ _ h => h) (Or.inl ⟨by rfl, ?_⟩) hS0 ?_
              rotate_left
              · intro u hSu; obtain ⟨p0, p1, p2, p3, p4, p5⟩ := hSu; go_simp <;> with_reducible rfl
              simp only [Act.put, List.getElem_toArray, List.getElem_cons_zero, List.getElem_cons_succ, List.setIfInBounds_toArray, List.set_cons_zero, List.set_cons_succ]
              refine anyU_take (i := 9) (v := ?_) rfl (by kernel_rfl) (by kernel_rfl) (by kernel_rfl) (by kernel_rfl) (fun _ _ _ h => h) (Or.inl ⟨by rfl, ?_⟩) hS0 ?_
              rotate_left
              · intro u hSu; obtain ⟨p0, p1, p2, p3, p4, p5⟩ := hSu; go_simp <;> with_reducible rfl
              simp only [Act.put, List.getElem_toArray, List.getElem_cons_zero, List.getElem_cons_succ, List.setIfInBounds_toArray, List.set_cons_zero, List.set_cons_succ]
              refine anyU_take (i := 10) (v := ?_) rfl (by kernel_rfl) (by kernel_rfl) (by kernel_rfl) (by kernel_rfl) (fun _ _ _ h => h) (Or.inl ⟨by rfl, ?_⟩) hS0 ?_
              rotate_left
              · intro u hSu; obtain ⟨p0, p1, p2, p3, p4, p5⟩ := hSu; go_simp <;> with_reducible rfl
              simp only [Act.put, List.getElem_toArray, List.getElem_cons_zero, List.getElem_cons_succ, List.setIfInBounds_toArray, List.set_cons_zero, List.set_cons_succ]
              refine anyU_take (i := 11) (v := ?_) rfl (by kernel_rfl) (by kernel_rfl) (by kernel_rfl) (by kernel_rfl) (fun _ _ _ h => h) (Or.inl ⟨by rfl, ?_⟩) hS0 ?_
              rotate_left
              · intro u hSu; obtain ⟨p0, p1, p2, p3, p4, p5⟩ := hSu; go_simp <;> with_reducible rfl
              simp only [Act.put, List.getElem_toArray, List.getElem_cons_zero, List.getElem_cons_succ, List.setIfInBounds_toArray, List.set_cons_zero, List.set_cons_succ]
              refine anyU_take (i := 12) (v := ?_) rfl (by kernel_rfl) (by kernel_rfl) (by kernel_rfl) (by kernel_rfl) (fun _ _ _ h => h) (Or.inl ⟨by rfl, ?_⟩) hS0 ?_
              rotate_left
              · intro u hSu; obtain ⟨p0, p1, p2, p3, p4, p5⟩ := hSu; go_simp <;> with_reducible rfl
              simp only [Act.put, List.getElem_toArray, List.getElem_cons_zero, List.getElem_cons_succ, List.setIfInBounds_toArray, List.set_cons_zero, List.set_cons_succ]
              refine anyU_one (i := 13) (by kernel_rfl) rfl (fun K hK => ?_)
              go_simp
              refine (valueOf_any g.nodes.length (w.heap.size + 1) tb v _ hvokv hn hS1.th).mono ?_
              rintro e w1 ⟨rfl, hb1⟩
              have hs1 : wr.heap.size + 1 ≤ w1.heap.size := by have h8 := hb1.size; simpa using h8
              have hK1 : Kept (fun _ => False) _ w1 := Kept.of_below hb1 _
              refine hK.out _ _ ⟨hK1.cell hd.out.1 (fun e => e), hK1.cell hd.out.2.1 (fun e => e), hK1.cell hd.out.2.2.1 (fun e => e), hK1.cell hd.out.2.2.2.1 (fun e => e), hK1.cell hd.out.2.2.2.2.1 (fun e => e), hK1.cell hd.out.2.2.2.2.2 (fun e => e)⟩ ?_
              clear hK
              have hA1 : Kept (fun _ => False) w1 (w1.alloc (.cells #[encV tb v] 172)) := (Kept.refl _ w1).alloc _
              have hK2 := hK1.trans hA1 (fun _ _ e => e)
              have hs2 : _ ∧ _ ∧ _ ∧ _ ∧ _ ∧ _ := ⟨hK2.cell hd.out.1 (fun e => e), hK2.cell hd.out.2.1 (fun e => e), hK2.cell hd.out.2.2.1 (fun e => e), hK2.cell hd.out.2.2.2.1 (fun e => e), hK2.cell hd.out.2.2.2.2.1 (fun e => e), hK2.cell hd.out.2.2.2.2.2 (fun e => e)⟩
              have hs2' : Hid _ := hs2
              clear hs2
              refine anyU_one (i := 14) (by kernel_rfl) rfl (fun K hK => ?_)
              go_simp
              refine hK.out _ _ hs2'.out ?_
              clear hK
              refine anyU_one (i := 15) (by kernel_rfl) rfl (fun K hK => ?_)
              refine step_append_lies _ (by rfl) (.tmp 55) (.tmp 59) 207 rfl B 172 i0 .nilIface 1 16 Try.underlying207 hi hz0 hz1 hz2 rfl (by decide) (.slice (xa k) j (xc k)) j _ (by rfl) ((hK1.owns hrows (fun _ _ e => e)).alloc _) ⟨w1.heap.size, 0, none⟩ 1 1 [encV tb v] (by rfl) rfl (World.news_of_block (cs := #[encV tb v]) (t := 172) (fr := (0, 0)) (blk_new_at _ _ _ rfl)) (by simp [encV_one]) (by decide) (by unfold maxLen; omega) (by omega) (by simp; omega) (w1.heap.size + 1) (by simp) ?_
              intro gg cc w3 hown3 hgrow3 hat3 hlt3
              have hKK := (hK2.mono (q := fun b => (Value.slice (xa k) j (xc k)).ownBlock = some b) (fun _ _ e => e.elim)).trans (Kept.of_grown hgrow3) (fun _ _ e => e)
              have hs3 : Hid _ := (⟨hKK.cell hd.out.1 (fun hp => by have h9 := hnb _ hp; omega), hKK.cell hd.out.2.1 (fun hp => by have h9 := hnb _ hp; omega), hKK.cell hd.out.2.2.1 (fun hp => by have h9 := hnb _ hp; omega), hKK.cell hd.out.2.2.2.1 (fun hp => by have h9 := hnb _ hp; omega), hKK.cell hd.out.2.2.2.2.1 (fun hp => by have h9 := hnb _ hp; omega), hKK.cell hd.out.2.2.2.2.2 (fun hp => by have h9 := hnb _ hp; omega)⟩ : _ ∧ _ ∧ _ ∧ _ ∧ _ ∧ _)
              obtain ⟨hz3, hc30, hc31, hf3⟩ := hTH.out.kept hKK (fun hp => by have h9 := hnb _ hp; omega)
              refine hK.out _ _ hs3.out ?_
              clear hK
              simp only [Act.put, List.getElem_toArray, List.getElem_cons_zero, List.getElem_cons_succ, List.setIfInBounds_toArray, List.set_cons_zero, List.set_cons_succ]
              refine anyU_one (i := 16) (by kernel_rfl) rfl (fun K hK => ?_)
              go_simp
              refine hK.out _ _ hs3.out ?_
              clear hK
              refine anyU_one (i := 17) (by kernel_rfl) rfl (fun K hK => ?_)
              go_simp
              refine hK.out _ _ hs3.out ?_
              clear hK
              refine anyU_last (by kernel_rfl) rfl (by kernel_rfl) (fun K hK => ?_)
              go_simp
              refine hK.out _ _ ?_
              clear hK
              go_wp2
              have hG : Below wr.heap.size wr (w1.alloc (.cells #[encV tb v] 172)) := gal (gca (gdr (gal (gre wr) _)) hb1) _
              have hkk : (if k < k then g.nodes[k]!.vals.length else if k = k then j else 0) = j := by rw [if_neg (by omega), if_pos rfl]
              have hst := (hS.grow hG).step (k := k) hlt (v := v) (gg := gg) (cc := cc) (w3 := w3) (by rw [hkk, ← hnx.out]; exact hvj) (by rw [hkk, ← hnx.out]; exact hjl) (by rw [hkk]; exact hown3) (by rw [hkk]; exact hgrow3) (by rw [hkk]; exact hat3.imp id (fun e => by rw [e]; simp))
              have em : (fun i => if i = k then (if k < k then g.nodes[k]!.vals.length else if k = k then j else 0) + 1 else if i < k then g.nodes[i]!.vals.length else if i = k then j else 0) = (fun i => if i < k then g.nodes[i]!.vals.length else if i = k then j + 1 else 0) := by
                funext i
                by_cases e : i = k
                · subst e; simp
                · simp [e]
              rw [em, hkk] at hst
              have hbe : Below w.heap.size wo (w3.setCell ⟨tb k, 1, none⟩ (.slice (some ⟨gg, 0, none⟩) (j + 1) cc)) := by
                have hwl := hS.low.size
                have h1 : Below w.heap.size wr w3 := (((Kept.of_below (gdr (gal (gre wr) _)) _).trans hKK (fun _ _ e => e)).below hwl (fun b hb hp => by have h9 := hnb _ hp; have := hS.base.1; omega))
                exact (hbl2.trans h1).setCell (by show w.heap.size ≤ tb k; omega) _
              go_roundw
              case rel => exact ⟨j + 1, _, _, by omega, by go_num, hbe, hst⟩
              case measure => simp [intOf]; omega
            · have e : j = n.vals.length := by omega
              subst e
              go_wp2
              go_roundw
              case rel =>
                refine ⟨k + 1, xa, xc, by omega, by go_num, ?_⟩
                have em : (fun i => if i < k then g.nodes[i]!.vals.length else if i = k then n.vals.length else 0) = (fun i => if i < k + 1 then g.nodes[i]!.vals.length else 0) := by
                  funext i
                  by_cases e : i = k
                  · subst e; rw [if_neg (by omega), if_pos rfl, if_pos (by omega), ← hnx.out]
                  · by_cases e2 : i < k
                    · rw [if_pos e2, if_pos (by omega)]
                    · rw [if_neg e2, if_neg e, if_neg (by omega)]
                rw [← em]
                exact hS
              case measure => simp [intOf]; omega
        · have e : k = g.nodes.length := by omega
          subst e
          obtain ⟨bz, b0, b1, b2, b3, b4⟩ := hS.box
          have em : L2 g a cap w B tb wo (fun i => g.nodes[i]!.vals.length) xa xc := {
            low := hS.low, base := hS.base, box := hS.box, th := hS.th, tbs := hS.tbs, inj := hS.inj, ap := hS.ap
            cell := fun i hi => by have h1 := hS.cell i hi; rw [if_pos hi] at h1; exact h1
            vals := fun i hi => by have h1 := hS.vals i hi; rw [if_pos hi] at h1; exact h1 }
          go_wp2_with (go_at_call 170; refine (valueOf_any g.nodes.length (w.heap.size + 1) tb g.root _ hroot hn hS.th).mono ?_; rintro e w1 ⟨rfl, hb1⟩)
          go_ret
          exact ⟨B, tb, xa, xc, rfl, em.grow hb1⟩

end Go.Proofs.Ythjddpkegooobab

/-
  PLACE: a thing's place among those met. Own work.
-/
namespace Go.Proofs.Ythjddpkegooobab
open Go.RowKit

set_option maxRecDepth 100000 in
theorem zero_int (w : World) : (zeroValue 3).run Try.prog w = .ok (.int .i64 0) w := by kernel_rfl
theorem info_struct_thing : (Try.prog.info? 209).map (fun i => i.size) = some 2 := by kernel_rfl

/-- the meeting: its map and its list -/
structure Meet (w : World) (tb : Nat → Nat) (M mb base : Nat) (ord : List Nat) (ma : Option Addr) (mc : Nat) : Prop where
  lt : M < w.heap.size
  c0 : w.cell? ⟨M, 0, none⟩ = some (.map (some mb))
  c1 : w.cell? ⟨M, 1, none⟩ = some (.slice ma ord.length mc)
  f : ∀ o, w.frozen? ⟨M, o, none⟩ = false
  map : PMap w mb (ord.map tb)
  met : w.ownsRow base 206 1 (.slice ma ord.length mc) ord.length (ord.map fun x => ptr (tb x))
  mlt : M < base ∧ mb < base ∧ M ≠ mb

set_option maxRecDepth 100000 in
theorem Meet.kept {p : Nat → Prop} {w w' : World} {tb : Nat → Nat} {M mb base : Nat} {ord : List Nat} {ma : Option Addr} {mc : Nat} (h : Meet w tb M mb base ord ma mc) (k : Kept p w w') (h1 : ¬ p M) (h2 : ¬ p mb) (h3 : ∀ b, ma = some ⟨b, 0, none⟩ → ¬ p b) : Meet w' tb M mb base ord ma mc :=
  ⟨Nat.lt_of_lt_of_le h.lt k.size, k.cell h.c0 h1, k.cell h.c1 h1, fun o => (World.frozen?_of_block (w := w) (k.block M h.lt h1)).trans (h.f o), h.map.kept k h2, k.owns h.met (fun b hb => h3 b (owns_addr h.met hb)), h.mlt⟩

def addOrd (ord : List Nat) (x : Nat) : List Nat := if x ∈ ord then ord else ord ++ [x]

/-- what asking for a place leaves -/
def PlacePost (w : World) (tb : Nat → Nat) (M mb base : Nat) (ord : List Nat) (x : Nat) (ma : Option Addr) (e : Ending) (w' : World) : Prop :=
  ∃ ma' mc', e = .returned (.int .i64 ((addOrd ord x).idxOf x : Nat)) ∧ Meet w' tb M mb base (addOrd ord x) ma' mc' ∧ (ma' = ma ∨ ∃ b, ma' = some ⟨b, 0, none⟩ ∧ w.heap.size ≤ b) ∧ Kept (fun k => k = M ∨ k = mb ∨ ma = some ⟨k, 0, none⟩) w w'

set_option maxRecDepth 100000 in
theorem idxOf_map {tb : Nat → Nat} {n : Nat} (hinj : ∀ i j, i < n → j < n → tb i = tb j → i = j) : ∀ (ord : List Nat) (x : Nat), (∀ y, y ∈ ord → y < n) → x < n → (ord.map tb).idxOf (tb x) = ord.idxOf x
  | [], _, _, _ => rfl
  | y :: r, x, h, hx => by
    have hy := h y (List.mem_cons_self ..)
    have ih := idxOf_map hinj r x (fun z hz => h z (List.mem_cons_of_mem _ hz)) hx
    rw [List.map_cons, List.idxOf_cons, List.idxOf_cons, ih]
    by_cases e : y = x
    · subst e; simp
    · have e2 : ¬ tb y = tb x := fun e2 => e (hinj y x hy hx e2)
      rw [beq_false_of_ne e, beq_false_of_ne e2]
set_option maxRecDepth 100000 in
theorem mem_map_tb {tb : Nat → Nat} {n : Nat} (hinj : ∀ i j, i < n → j < n → tb i = tb j → i = j) {ord : List Nat} {x : Nat} (h : ∀ y, y ∈ ord → y < n) (hx : x < n) : tb x ∈ ord.map tb ↔ x ∈ ord := by
  constructor
  · intro hm
    obtain ⟨y, hy, e⟩ := List.mem_map.1 hm
    exact hinj y x (h y hy) hx e ▸ hy
  · intro hm; exact List.mem_map.2 ⟨x, hm, rfl⟩
set_option maxRecDepth 100000 in
theorem nodup_map_tb {tb : Nat → Nat} {n : Nat} (hinj : ∀ i j, i < n → j < n → tb i = tb j → i = j) : ∀ {ord : List Nat}, ord.Nodup → (∀ y, y ∈ ord → y < n) → (ord.map tb).Nodup
  | [], _, _ => List.nodup_nil
  | y :: r, hd, h => by
    rw [List.map_cons, List.nodup_cons]
    rw [List.nodup_cons] at hd
    exact ⟨fun hm => hd.1 ((mem_map_tb hinj (fun z hz => h z (List.mem_cons_of_mem _ hz)) (h y (List.mem_cons_self ..))).1 hm), nodup_map_tb hinj hd.2 (fun z hz => h z (List.mem_cons_of_mem _ hz))⟩

set_option maxRecDepth 100000 in
theorem placeOf_old (n : Nat) (tb : Nat → Nat) (M mb base : Nat) (ord : List Nat) (x : Nat) (ma : Option Addr) (mc : Nat) (w : World) (hinv : InvO n ord) (hx : x < n) (_hn : n ≤ 300) (hinj : ∀ i j, i < n → j < n → tb i = tb j → i = j)
    (hcells : ∀ i, i < n → CellsAt w (tb i)) (hM : Meet w tb M mb base ord ma mc) (hm : x ∈ ord) :
    Calls Try.prog 178 #[ptr M, ptr (tb x)] w (PlacePost w tb M mb base ord x ma) := by
  obtain ⟨i0, hi0, hi1⟩ := Option.map_eq_some_iff.1 info_struct_thing
  have hlk := run_lookup_some (P := Try.prog) (tm := 200) (ti := 3) hM.map Try.underlying200 Try.underlying206 hi0 (by omega) (hcells x hx) (fun c hc => by obtain ⟨y, hy, rfl⟩ := List.mem_map.1 hc; exact hcells y (hinv.2 y hy)) (nodup_map_tb hinj hinv.1 hinv.2) ((mem_map_tb hinj hinv.2 hx).2 hm)
  rw [idxOf_map hinj ord x hinv.2 hx] at hlk
  have c0 := hM.c0
  have hml := hM.lt
  have e1 : Hid (addOrd ord x = ord) := if_pos hm
  go_enter Try.func178, Try.ntmps178
  go_wp2
  go_ret
  exact ⟨ma, mc, by rw [e1.out]; rfl, by rw [e1.out]; exact hM, Or.inl rfl, Kept.refl _ _⟩

set_option maxRecDepth 100000 in
theorem placeOf_new (n : Nat) (tb : Nat → Nat) (M mb base : Nat) (ord : List Nat) (x : Nat) (ma : Option Addr) (mc : Nat) (w : World) (hinv : InvO n ord) (hx : x < n) (hn : n ≤ 300) (hinj : ∀ i j, i < n → j < n → tb i = tb j → i = j)
    (hcells : ∀ i, i < n → CellsAt w (tb i)) (hM : Meet w tb M mb base ord ma mc) (hbase : base ≤ w.heap.size) (hm : x ∉ ord) :
    Calls Try.prog 178 #[ptr M, ptr (tb x)] w (PlacePost w tb M mb base ord x ma) := by
  obtain ⟨i0, hi0, hi1⟩ := Option.map_eq_some_iff.1 info_struct_thing
  obtain ⟨t0, ht, hz0, hz1, hz2⟩ := info_parts info_thing
  have hol := hinv.le
  have hks : ∀ c, c ∈ ord.map tb → CellsAt w c := fun c hc => by obtain ⟨y, hy, rfl⟩ := List.mem_map.1 hc; exact hcells y (hinv.2 y hy)
  have hnm : tb x ∉ ord.map tb := fun h => hm ((mem_map_tb hinj hinv.2 hx).1 h)
  have hlk := run_lookup_none (P := Try.prog) (tm := 200) (ti := 3) hM.map Try.underlying200 Try.underlying206 hi0 (by omega) (zero_int w) (hcells x hx) hks hnm
  obtain ⟨w1, hup, hP1, hK1, hsz1⟩ := run_update_new (P := Try.prog) (tm := 200) (ti := 3) hM.map Try.underlying200 Try.underlying206 hi0 (by omega) (hcells x hx) hks hnm
  rw [List.length_map] at hup
  have c0 := hM.c0
  have c1 := hM.c1
  have hml := hM.lt
  obtain ⟨m1, m2, m3⟩ := hM.mlt
  have hmb : ∀ b, ma = some ⟨b, 0, none⟩ → base ≤ b ∧ b < w.heap.size := fun b hb => hM.met.lt b (by rw [hb]; rfl)
  have d0 := hK1.cell c0 m3
  have d1 := hK1.cell c1 m3
  have hown : w1.ownsRow base 206 1 (.slice ma ord.length mc) ord.length (ord.map fun x => ptr (tb x)) := hK1.owns hM.met (fun b hb => by have := hmb b (owns_addr hM.met hb); omega)
  have hml1 : M < w1.heap.size := by omega
  have hbw1 : base ≤ w1.heap.size := by omega
  have hown' : Hid _ := hown
  have hsz' : Hid _ := hsz1
  have hf1 : ∀ o, w1.frozen? ⟨M, o, none⟩ = false := fun o => (World.frozen?_of_block (w := w) (hK1.block M hml m3)).trans (hM.f o)
  have e1 : Hid (addOrd ord x = ord ++ [x]) := if_neg hm
  have hP1' : Hid _ := hP1
  clear hown hsz1 hks hnm hP1
  go_enter Try.func178, Try.ntmps178
  go_wp2_with (at_builtin; go_must (refine wpList_append_lies _ rfl (.tmp 33) (.tmp 35) 201 rfl base 206 t0 (.pointer none) 1 8 Try.underlying201 ht hz0 hz1 hz2 rfl (by decide) (.slice ma ord.length mc) ord.length _ rfl (World.ownsRow.alloc hown'.out _) ⟨w1.heap.size, 0, none⟩ 1 1 [ptr (tb x)] rfl rfl (World.news_of_block (cs := #[ptr (tb x)]) (t := 206) (fr := (0, 0)) (blk_new_at _ _ _ rfl)) (by simp [Value.oneCell']) (by decide) (by unfold maxLen; omega) (by omega) (by simp; omega) (w1.heap.size + 1) (by simp) ?_); intro gg cc w3 hown3 hgrow3 hat3 hlt3; have hq := ((Kept.refl (fun b => (Value.slice ma ord.length mc).ownBlock = some b) w1).alloc (.cells #[ptr (tb x)] 206)).trans (Kept.of_grown hgrow3) (fun _ _ e => e); have g1 := hq.cell d1 (fun hp => by have := hmb M (owns_addr hM.met hp); omega); have gf := fun o => (World.frozen?_of_block (w := w1) (hq.block M hml1 (fun hp => by have := hmb M (owns_addr hM.met hp); omega))).trans (hf1 o))
  have hix : Hid ((ord ++ [x]).idxOf x = ord.length) := by show (ord ++ [x]).idxOf x = ord.length; rw [List.idxOf_append, if_neg hm]; simp
  have hC := (Kept.refl (fun b => b = M) w3).set (a := ⟨M, 1, none⟩) (fun _ => rfl) (.slice (some ⟨gg, 0, none⟩) (ord.length + 1) cc)
  have hgg : base ≤ gg := (hown3.lt gg rfl).1
  have hsz := hsz'.out
  have hgor : (some ⟨gg, 0, none⟩ : Option Addr) = ma ∨ w.heap.size ≤ gg := by
    rcases hat3 with e | e
    · exact Or.inl (owns_addr hM.met e).symm
    · exact Or.inr (by omega)
  go_ret
  refine ⟨some ⟨gg, 0, none⟩, cc, by rw [e1.out, hix.out]; rfl, ?_, hgor.imp id (fun h => ⟨gg, rfl, h⟩), ?_⟩
  · rw [e1.out]
    refine ⟨by have h1 := hq.size; have h2 := hC.size; omega, ?_, ?_, fun o => ?_, ?_, ?_, m1, m2, m3⟩
    · rw [World.cell?_setCell_other _ _ _ _ (by simp)]; exact hq.cell d0 (fun hp => by have := hmb M (owns_addr hM.met hp); omega)
    · rw [World.cell?_setCell_same _ _ _ g1]; simp
    · rw [World.frozen?_setCell]; exact gf o
    · have h1 := (PMap.kept hP1'.out hq (fun hp => by have := hmb mb (owns_addr hM.met hp); omega)).kept hC (fun e => m3 e.symm)
      simpa using h1
    · have h1 := hC.owns hown3 (fun b hb hp => by have := (hown3.lt b hb).1; omega)
      simpa using h1
  · refine ((hK1.mono (q := fun k => k = M ∨ k = mb ∨ ma = some ⟨k, 0, none⟩) (fun k _ e => Or.inr (Or.inl e))).trans hq (fun k hk hp => Or.inr (Or.inr (owns_addr hM.met hp)))).trans hC (fun k hk hp => Or.inl hp)

set_option maxRecDepth 100000 in
theorem placeOf_any (n : Nat) (tb : Nat → Nat) (M mb base : Nat) (ord : List Nat) (x : Nat) (ma : Option Addr) (mc : Nat) (w : World) (hinv : InvO n ord) (hx : x < n) (hn : n ≤ 300) (hinj : ∀ i j, i < n → j < n → tb i = tb j → i = j)
    (hcells : ∀ i, i < n → CellsAt w (tb i)) (hM : Meet w tb M mb base ord ma mc) (hbase : base ≤ w.heap.size) :
    Calls Try.prog 178 #[ptr M, ptr (tb x)] w (PlacePost w tb M mb base ord x ma) := by
  by_cases hm : x ∈ ord
  · exact placeOf_old n tb M mb base ord x ma mc w hinv hx hn hinj hcells hM hm
  · exact placeOf_new n tb M mb base ord x ma mc w hinv hx hn hinj hcells hM hbase hm

end Go.Proofs.Ythjddpkegooobab
