import Derived.LaidEqlPtr
import Derived.MapKept
import Derived.Deep.OwnRows
import Derived.Test.YthjddpkegooobabPartNwA

/-
  ROWS3: values and nodes in rows that grow. Own work.
-/
namespace Go.Proofs.Ythjddpkegooobab
open Go.RowKit

theorem flatMap_get {α β : Type} [Inhabited α] {f : α → List β} {c : Nat} (hf : ∀ x, (f x).length = c) : ∀ (l : List α) (i j : Nat), i < l.length → j < c → (l.flatMap f)[i * c + j]? = (f l[i]!)[j]?
  | [], _, _, hi, _ => absurd hi (Nat.not_lt_zero _)
  | x :: r, 0, j, _, hj => by
    rw [List.flatMap_cons, Nat.zero_mul, Nat.zero_add, List.getElem?_append_left (by rw [hf]; exact hj)]
    rfl
  | x :: r, i + 1, j, hi, hj => by
    have hlt : i < r.length := by simpa using hi
    have ih := flatMap_get hf r i j hlt hj
    rw [List.flatMap_cons, List.getElem?_append_right (by rw [hf, Nat.add_mul]; omega), hf, show (i + 1) * c + j - c = i * c + j by rw [Nat.add_mul]; omega, ih]
    rw [getElem!_pos r i hlt, getElem!_pos (x :: r) (i + 1) hi]
    rfl

def GV.four (v : GV) : List Value := [.int .i64 v.kind, .int .i64 v.num, .string v.text, .int .i64 v.node]
theorem GV.four_length (v : GV) : v.four.length = 4 := rfl
def valCells (vs : List GV) : List Value := vs.flatMap GV.four
theorem valCells_snoc (vs : List GV) (v : GV) : valCells (vs ++ [v]) = valCells vs ++ [.int .i64 v.kind, .int .i64 v.num, .string v.text, .int .i64 v.node] := by
  simp [valCells, GV.four]

theorem owns_vals {w : World} {base t n len cap : Nat} {a : Option Addr} {vs : List GV} (ho : w.ownsRow base t 4 (.slice a len cap) n (valCells vs)) {B : Nat} (hB : w.heap.size ≤ B) : ValsAt B w a vs := fun i hi => by
  have hg : ∀ j, j < 4 → (valCells vs)[i * 4 + j]? = (vs[i]!.four)[j]? := fun j hj => flatMap_get GV.four_length vs i j hi hj
  obtain ⟨g, ha, hb, hlt, c0⟩ := owns_cell ho (hg 0 (by decide))
  obtain ⟨g1, ha1, _, _, c1⟩ := owns_cell ho (hg 1 (by decide))
  obtain ⟨g2, ha2, _, _, c2⟩ := owns_cell ho (hg 2 (by decide))
  obtain ⟨g3, ha3, _, _, c3⟩ := owns_cell ho (hg 3 (by decide))
  rw [ha] at ha1 ha2 ha3
  simp at ha1 ha2 ha3
  subst ha1 ha2 ha3
  exact ⟨g, 0, ha, by omega, ⟨by rw [Nat.zero_add]; exact c0, by rw [Nat.zero_add]; exact c1, by rw [Nat.zero_add]; exact c2, by rw [Nat.zero_add]; exact c3⟩⟩

/-- a node, and where its values lie -/
structure NL where
  n : GN
  a : Option Addr
  cap : Nat
  deriving Inhabited
def NL.two (x : NL) : List Value := [.int .i64 x.n.tag, .slice x.a x.n.vals.length x.cap]
theorem NL.two_length (x : NL) : x.two.length = 2 := rfl
def nodeCells (l : List NL) : List Value := l.flatMap NL.two
theorem nodeCells_snoc (l : List NL) (x : NL) : nodeCells (l ++ [x]) = nodeCells l ++ [.int .i64 x.n.tag, .slice x.a x.n.vals.length x.cap] := by
  simp [nodeCells, NL.two]

theorem owns_nodes {w : World} {base t n len cap : Nat} {a : Option Addr} {l : List NL} (ho : w.ownsRow base t 2 (.slice a len cap) n (nodeCells l)) (hv : ∀ x, x ∈ l → ValsAt w.heap.size w x.a x.n.vals) : NodesAt w.heap.size w a (l.map (·.n)) := fun i hi => by
  have hi' : i < l.length := by simpa using hi
  have e : (l.map (·.n))[i]! = (l[i]!).n := by rw [getElem!_pos _ i hi, getElem!_pos l i hi']; simp
  have hg : ∀ j, j < 2 → (nodeCells l)[i * 2 + j]? = (l[i]!.two)[j]? := fun j hj => flatMap_get NL.two_length l i j hi' hj
  obtain ⟨g, ha, hb, hlt, c0⟩ := owns_cell ho (hg 0 (by decide))
  obtain ⟨g1, ha1, _, _, c1⟩ := owns_cell ho (hg 1 (by decide))
  rw [ha] at ha1
  simp at ha1
  subst ha1
  rw [e]
  exact ⟨g, 0, l[i]!.a, l[i]!.cap, ha, hlt, ⟨by rw [Nat.zero_add]; exact c0, by rw [Nat.zero_add]; exact c1, hv _ (mem_at hi')⟩⟩

/-- a node's own variable -/
structure Two (w : World) (b : Nat) (t : Int) (s : Value) : Prop where
  lt : b < w.heap.size
  c0 : w.cell? ⟨b, 0, none⟩ = some (.int .i64 t)
  c1 : w.cell? ⟨b, 1, none⟩ = some s
  f : ∀ o, w.frozen? ⟨b, o, none⟩ = false
  z : ∃ c ty, w.heap[b]? = some (.cells c ty (0, 0))
theorem Two.same {w w' : World} {b : Nat} {t : Int} {s : Value} (h : Two w b t s) (e : w'.heap[b]? = w.heap[b]?) (hlt : b < w'.heap.size) : Two w' b t s :=
  ⟨hlt, (World.cell?_of_block (w := w) e).trans h.c0, (World.cell?_of_block (w := w) e).trans h.c1, fun o => (World.frozen?_of_block (w := w) e).trans (h.f o), let ⟨c, ty, hc⟩ := h.z; ⟨c, ty, e.trans hc⟩⟩
theorem Two.kept {p : Nat → Prop} {w w' : World} {b : Nat} {t : Int} {s : Value} (h : Two w b t s) (k : Kept p w w') (hn : ¬ p b) : Two w' b t s := h.same (k.block b h.lt hn) (Nat.lt_of_lt_of_le h.lt k.size)
theorem Two.new_at (w : World) (t : Int) (s : Value) (ty : TypeId) (b : Nat) (hb : b = w.heap.size) : Two (w.alloc (.cells #[.int .i64 t, s] ty)) b t s := by
  subst hb; exact ⟨by simp, by simp, by simp, fun o => by simp, _, _, blk_new_at _ _ _ rfl⟩
theorem Two.set {w : World} {b : Nat} {t : Int} {s s' : Value} (h : Two w b t s) : Two (w.setCell ⟨b, 1, none⟩ s') b t s' := by
  refine ⟨by have := h.lt; simpa [World.setCell] using this, ?_, ?_, fun o => ?_, ?_⟩
  · rw [World.cell?_setCell_other _ _ _ _ (by simp)]; exact h.c0
  · exact World.cell?_setCell_same _ _ _ h.c1
  · rw [World.frozen?_setCell]; exact h.f o
  · obtain ⟨c, ty, hc⟩ := h.z
    exact ⟨c.setIfInBounds 1 s', ty, by simp [World.setCell, Array.getElem?_modify, hc]⟩

/-- a graph's own variable, written -/
structure Five (w : World) (b : Nat) (v : GV) (s : Value) : Prop where
  lt : b < w.heap.size
  c0 : w.cell? ⟨b, 0, none⟩ = some (.int .i64 v.kind)
  c1 : w.cell? ⟨b, 1, none⟩ = some (.int .i64 v.num)
  c2 : w.cell? ⟨b, 2, none⟩ = some (.string v.text)
  c3 : w.cell? ⟨b, 3, none⟩ = some (.int .i64 v.node)
  c4 : w.cell? ⟨b, 4, none⟩ = some s
  f : ∀ o, w.frozen? ⟨b, o, none⟩ = false
theorem Five.same {w w' : World} {b : Nat} {v : GV} {s : Value} (h : Five w b v s) (e : w'.heap[b]? = w.heap[b]?) (hlt : b < w'.heap.size) : Five w' b v s :=
  ⟨hlt, (World.cell?_of_block (w := w) e).trans h.c0, (World.cell?_of_block (w := w) e).trans h.c1, (World.cell?_of_block (w := w) e).trans h.c2, (World.cell?_of_block (w := w) e).trans h.c3, (World.cell?_of_block (w := w) e).trans h.c4, fun o => (World.frozen?_of_block (w := w) e).trans (h.f o)⟩
theorem Five.kept {p : Nat → Prop} {w w' : World} {b : Nat} {v : GV} {s : Value} (h : Five w b v s) (k : Kept p w w') (hn : ¬ p b) : Five w' b v s := h.same (k.block b h.lt hn) (Nat.lt_of_lt_of_le h.lt k.size)
theorem Five.new_at (w : World) (v : GV) (s : Value) (ty : TypeId) (b : Nat) (hb : b = w.heap.size) : Five (w.alloc (.cells #[.int .i64 v.kind, .int .i64 v.num, .string v.text, .int .i64 v.node, s] ty)) b v s := by
  subst hb; exact ⟨by simp, by simp, by simp, by simp, by simp, by simp, fun o => by simp⟩
theorem Five.set {w : World} {b : Nat} {v : GV} {s s' : Value} (h : Five w b v s) : Five (w.setCell ⟨b, 4, none⟩ s') b v s' := by
  refine ⟨by have := h.lt; simpa [World.setCell] using this, ?_, ?_, ?_, ?_, ?_, fun o => ?_⟩
  · rw [World.cell?_setCell_other _ _ _ _ (by simp)]; exact h.c0
  · rw [World.cell?_setCell_other _ _ _ _ (by simp)]; exact h.c1
  · rw [World.cell?_setCell_other _ _ _ _ (by simp)]; exact h.c2
  · rw [World.cell?_setCell_other _ _ _ _ (by simp)]; exact h.c3
  · exact World.cell?_setCell_same _ _ _ h.c4
  · rw [World.frozen?_setCell]; exact h.f o

/-- a value written into a variable of its own -/
abbrev put4 (w : World) (b : Nat) (v : GV) : World := (((w.setCell ⟨b, 0, none⟩ (.int .i64 v.kind)).setCell ⟨b, 1, none⟩ (.int .i64 v.num)).setCell ⟨b, 2, none⟩ (.string v.text)).setCell ⟨b, 3, none⟩ (.int .i64 v.node)
theorem Kept.put4 (w : World) (b : Nat) (v : GV) : Kept (fun k => k = b) w (put4 w b v) :=
  ((((Kept.refl (fun k => k = b) w).set (fun _ => rfl) _).set (fun _ => rfl) _).set (fun _ => rfl) _).set (fun _ => rfl) _

/-- a value written into a graph's root -/
theorem Five.put {w : World} {b : Nat} {v v' : GV} {s : Value} (h : Five w b v s) :
    Five ((((w.setCell ⟨b, 0, none⟩ (.int .i64 v'.kind)).setCell ⟨b, 1, none⟩ (.int .i64 v'.num)).setCell ⟨b, 2, none⟩ (.string v'.text)).setCell ⟨b, 3, none⟩ (.int .i64 v'.node)) b v' s := by
  have h0 := World.cell?_setCell_same w ⟨b, 0, none⟩ (.int .i64 v'.kind) h.c0
  have h1 : (w.setCell ⟨b, 0, none⟩ (.int .i64 v'.kind)).cell? ⟨b, 1, none⟩ = _ := (World.cell?_setCell_other _ _ _ _ (by simp)).trans h.c1
  have h2 : (w.setCell ⟨b, 0, none⟩ (.int .i64 v'.kind)).cell? ⟨b, 2, none⟩ = _ := (World.cell?_setCell_other _ _ _ _ (by simp)).trans h.c2
  have h3 : (w.setCell ⟨b, 0, none⟩ (.int .i64 v'.kind)).cell? ⟨b, 3, none⟩ = _ := (World.cell?_setCell_other _ _ _ _ (by simp)).trans h.c3
  have h4 : (w.setCell ⟨b, 0, none⟩ (.int .i64 v'.kind)).cell? ⟨b, 4, none⟩ = _ := (World.cell?_setCell_other _ _ _ _ (by simp)).trans h.c4
  refine ⟨by have := h.lt; simpa [World.setCell] using this, ?_, ?_, ?_, ?_, ?_, fun o => ?_⟩
  · rw [World.cell?_setCell_other _ _ _ _ (by simp), World.cell?_setCell_other _ _ _ _ (by simp), World.cell?_setCell_other _ _ _ _ (by simp)]; exact h0
  · rw [World.cell?_setCell_other _ _ _ _ (by simp), World.cell?_setCell_other _ _ _ _ (by simp)]; exact World.cell?_setCell_same _ _ _ h1
  · rw [World.cell?_setCell_other _ _ _ _ (by simp)]
    exact World.cell?_setCell_same _ _ _ (u := .string v.text) (by rw [World.cell?_setCell_other _ _ _ _ (by simp)]; exact h2)
  · exact World.cell?_setCell_same _ _ _ (u := .int .i64 v.node) (by rw [World.cell?_setCell_other _ _ _ _ (by simp), World.cell?_setCell_other _ _ _ _ (by simp)]; exact h3)
  · rw [World.cell?_setCell_other _ _ _ _ (by simp), World.cell?_setCell_other _ _ _ _ (by simp), World.cell?_setCell_other _ _ _ _ (by simp)]; exact h4
  · rw [World.frozen?_setCell, World.frozen?_setCell, World.frozen?_setCell, World.frozen?_setCell]; exact h.f o

end Go.Proofs.Ythjddpkegooobab

/-
  PTRMAP: a map whose keys are pointers to blocks. Own work.
-/
namespace Go.Proofs.Ythjddpkegooobab
open Go.RowKit

/-- a plain block of cells, none frozen -/
def CellsAt (w : World) (b : Nat) : Prop := ∃ c t, w.heap[b]? = some (.cells c t (0, 0))

abbrev ptr (b : Nat) : Value := .pointer (some ⟨b, 0, none⟩)

section
variable {P : Program} {w : World} {tp te : TypeId} {j : TypeInfo}

set_option maxRecDepth 100000 in
theorem equal_same (b : Nat) (hp : P.underlying tp = some (.pointer te)) (hte : P.info? te = some j) : (Op.equal tp (ptr b) (ptr b)).run P w = .ok true w := by
  have h : ∀ d : Nat, (Op.equalIn (d + 1) tp (ptr b) (ptr b)).run P w = .ok true w := fun d => by
    simp [Op.equalIn, run_underlying hp, sizeOf, typeInfo, hte, run_sameAddr_same]
  exact h 9999
set_option maxRecDepth 100000 in
theorem equal_other {b c : Nat} (hp : P.underlying tp = some (.pointer te)) (hte : P.info? te = some j) (hsz : j.size ≠ 0) (hne : b ≠ c) (hb : CellsAt w b) (hc : CellsAt w c) : (Op.equal tp (ptr b) (ptr c)).run P w = .ok false w := by
  obtain ⟨cb, tb, hb⟩ := hb
  obtain ⟨cc, tc, hc⟩ := hc
  have hn : (⟨b, 0, none⟩ : Addr) ≠ ⟨c, 0, none⟩ := fun e => hne (by have := congrArg Addr.block e; simpa using this)
  have h : ∀ d : Nat, (Op.equalIn (d + 1) tp (ptr b) (ptr c)).run P w = .ok false w := fun d => by
    simp [Op.equalIn, run_underlying hp, sizeOf, typeInfo, hte, hsz, run_sameAddr_other w hn hb hc]
  exact h 9999

set_option maxRecDepth 100000 in
theorem ask_none (hp : P.underlying tp = some (.pointer te)) (hte : P.info? te = some j) (hsz : j.size ≠ 0) {b : Nat} (hb : CellsAt w b) :
    ∀ (l : List MapEntry) (i : Nat), (∀ e, e ∈ l → ∃ c, e.key = ptr c ∧ c ≠ b ∧ CellsAt w c) → (Instr.findAsking tp (ptr b) l i).run P w = .ok none w
  | [], i, _ => by simp [Instr.findAsking]
  | e :: l, i, h => by
    obtain ⟨c, hk, hne, hc⟩ := h e (List.mem_cons_self ..)
    have ih := ask_none hp hte hsz hb l (i + 1) (fun e he => h e (List.mem_cons_of_mem _ he))
    unfold Instr.findAsking
    rw [hk]
    simp [equal_other hp hte hsz (Ne.symm hne) hb hc, ih]

set_option maxRecDepth 100000 in
theorem ask_some (hp : P.underlying tp = some (.pointer te)) (hte : P.info? te = some j) (hsz : j.size ≠ 0) {b : Nat} (hb : CellsAt w b) :
    ∀ (l : List MapEntry) (e : MapEntry) (r : List MapEntry) (i : Nat), (∀ e, e ∈ l → ∃ c, e.key = ptr c ∧ c ≠ b ∧ CellsAt w c) → e.key = ptr b → (Instr.findAsking tp (ptr b) (l ++ e :: r) i).run P w = .ok (some (i + l.length, e.val)) w
  | [], e, r, i, _, hk => by
    unfold Instr.findAsking
    simp only [List.nil_append]
    rw [hk]
    simp [equal_same b hp hte]
  | e' :: l, e, r, i, h, hk => by
    obtain ⟨c, hk', hne, hc⟩ := h e' (List.mem_cons_self ..)
    have ih := ask_some hp hte hsz hb l e r (i + 1) (fun e he => h e (List.mem_cons_of_mem _ he)) hk
    rw [List.cons_append]
    unfold Instr.findAsking
    rw [hk']
    simp [equal_other hp hte hsz (Ne.symm hne) hb hc, ih]
    omega

set_option maxRecDepth 100000 in
theorem findKey_ask (hp : P.underlying tp = some (.pointer te)) (b : Nat) (l : List MapEntry) (hl : ∀ e, e ∈ l → ∃ c, e.key = ptr c) : (Instr.findKey tp (ptr b) l).run P w = (Instr.findAsking tp (ptr b) l 0).run P w := by
  cases l with
  | nil => simp [Instr.findKey, run_underlying hp, Instr.findNow, Instr.findAsking]
  | cons e l =>
    obtain ⟨c, hk⟩ := hl e (List.mem_cons_self ..)
    simp [Instr.findKey, run_underlying hp, Instr.findNow, hk, Instr.sameNow]

set_option maxRecDepth 100000 in
theorem checkKey_ptr (hp : P.underlying tp = some (.pointer te)) (em : Bool) (n b : Nat) : (Instr.checkKey em (n + 1) tp (ptr b)).run P w = .ok () w := by
  unfold Instr.checkKey
  simp [run_underlying hp]
end

/-- block mb is a map that leads from each of these blocks to its place -/
def PMap (w : World) (mb : Nat) (ks : List Nat) : Prop :=
  ∃ es clock, w.heap[mb]? = some (.map es clock) ∧ es.toList.length = ks.length ∧ ∀ i, i < ks.length → ∃ e, es.toList[i]? = some e ∧ e.key = ptr ks[i]! ∧ e.val = .int .i64 (i : Int)

set_option maxRecDepth 100000 in
theorem PMap.lt {w : World} {mb : Nat} {ks : List Nat} (h : PMap w mb ks) : mb < w.heap.size := by
  obtain ⟨es, clock, hb, _⟩ := h
  exact (Array.getElem?_eq_some_iff.1 hb).1
set_option maxRecDepth 100000 in
theorem PMap.of_block {w w' : World} {mb : Nat} {ks : List Nat} (h : PMap w mb ks) (e : w'.heap[mb]? = w.heap[mb]?) : PMap w' mb ks := by
  obtain ⟨es, clock, hb, r⟩ := h
  exact ⟨es, clock, e.trans hb, r⟩
set_option maxRecDepth 100000 in
theorem PMap.kept {p : Nat → Prop} {w w' : World} {mb : Nat} {ks : List Nat} (h : PMap w mb ks) (k : Kept p w w') (hn : ¬ p mb) : PMap w' mb ks := h.of_block (k.block mb h.lt hn)

section
variable {P : Program} {w : World} {tm tp te ti : TypeId} {j : TypeInfo}

set_option maxRecDepth 100000 in
theorem PMap.mem {ks : List Nat} {es : Array MapEntry} (hl : es.toList.length = ks.length) (hE : ∀ i, i < ks.length → ∃ e, es.toList[i]? = some e ∧ e.key = ptr ks[i]! ∧ e.val = .int .i64 (i : Int)) :
    ∀ e, e ∈ es.toList → ∃ c, e.key = ptr c ∧ c ∈ ks := fun e he => by
  obtain ⟨i, hi, hie⟩ := List.getElem_of_mem he
  obtain ⟨e', h1, h2, _⟩ := hE i (by omega)
  rw [List.getElem?_eq_getElem hi, hie] at h1
  simp at h1
  subst h1
  exact ⟨ks[i]!, h2, mem_at (by omega)⟩

set_option maxRecDepth 100000 in
theorem run_lookup_none {mb : Nat} {ks : List Nat} (h : PMap w mb ks) (hm : P.underlying tm = some (.map tp ti)) (hp : P.underlying tp = some (.pointer te)) (hte : P.info? te = some j) (hsz : j.size ≠ 0) (hz : (zeroValue ti).run P w = .ok (.int .i64 0) w)
    {b : Nat} (hb : CellsAt w b) (hks : ∀ c, c ∈ ks → CellsAt w c) (hn : b ∉ ks) :
    (Instr.lookup tm (.map (some mb)) (ptr b) true).run P w = .ok (.tuple #[.int .i64 0, .bool false]) w := by
  obtain ⟨es, clock, hmb, hl, hE⟩ := h
  have hmem := PMap.mem hl hE
  have h1 := findKey_ask (P := P) (w := w) hp b es.toList (fun e he => let ⟨c, hc, _⟩ := hmem e he; ⟨c, hc⟩)
  have h2 := ask_none (P := P) (w := w) hp hte hsz hb es.toList 0 (fun e he => let ⟨c, hc, hcm⟩ := hmem e he; ⟨c, hc, fun e => hn (e ▸ hcm), hks c hcm⟩)
  rw [h2] at h1
  simp [Instr.lookup, run_underlying hm, MapKept.run_getObj_map hmb, checkKey_ptr hp _ 9999, h1, hz]

set_option maxRecDepth 100000 in
theorem run_lookup_some {mb : Nat} {ks : List Nat} (h : PMap w mb ks) (hm : P.underlying tm = some (.map tp ti)) (hp : P.underlying tp = some (.pointer te)) (hte : P.info? te = some j) (hsz : j.size ≠ 0)
    {b : Nat} (hb : CellsAt w b) (hks : ∀ c, c ∈ ks → CellsAt w c) (hnd : ks.Nodup) (hn : b ∈ ks) :
    (Instr.lookup tm (.map (some mb)) (ptr b) true).run P w = .ok (.tuple #[.int .i64 (ks.idxOf b : Nat), .bool true]) w := by
  obtain ⟨es, clock, hmb, hl, hE⟩ := h
  have hmem := PMap.mem hl hE
  have h1 := findKey_ask (P := P) (w := w) hp b es.toList (fun e he => let ⟨c, hc, _⟩ := hmem e he; ⟨c, hc⟩)
  have hi : ks.idxOf b < ks.length := List.idxOf_lt_length_of_mem hn
  obtain ⟨e, he, hek, hev⟩ := hE _ hi
  rw [getElem!_pos ks _ hi, List.getElem_idxOf hi] at hek
  have hsp : es.toList = es.toList.take (ks.idxOf b) ++ e :: es.toList.drop (ks.idxOf b + 1) := by
    obtain ⟨hlt, e1⟩ := List.getElem?_eq_some_iff.1 he
    rw [← e1, List.getElem_cons_drop, List.take_append_drop]
  have hpre : ∀ e, e ∈ es.toList.take (ks.idxOf b) → ∃ c, e.key = ptr c ∧ c ≠ b ∧ CellsAt w c := fun e' he' => by
    obtain ⟨i, hi', hie⟩ := List.getElem_of_mem he'
    have hil : i < ks.idxOf b := by have := hi'; simp at this; omega
    obtain ⟨e2, h3, h4, _⟩ := hE i (by omega)
    rw [List.getElem_take] at hie
    rw [List.getElem?_eq_getElem (by omega), hie] at h3
    simp at h3
    subst h3
    have hik : i < ks.length := by omega
    refine ⟨ks[i]!, h4, fun e => ?_, hks _ (mem_at hik)⟩
    rw [getElem!_pos ks i hik] at e
    have h9 := hnd.idxOf_getElem i hik
    rw [e] at h9
    omega
  have h2 := ask_some (P := P) (w := w) hp hte hsz hb (es.toList.take (ks.idxOf b)) e (es.toList.drop (ks.idxOf b + 1)) 0 hpre hek
  rw [← hsp] at h2
  rw [h2] at h1
  simp [Instr.lookup, run_underlying hm, MapKept.run_getObj_map hmb, checkKey_ptr hp _ 9999, h1, hev]

set_option maxRecDepth 100000 in
/-- a store at a key that is not there -/
theorem run_update_new {mb : Nat} {ks : List Nat} (h : PMap w mb ks) (hm : P.underlying tm = some (.map tp ti)) (hp : P.underlying tp = some (.pointer te)) (hte : P.info? te = some j) (hsz : j.size ≠ 0)
    {b : Nat} (hb : CellsAt w b) (hks : ∀ c, c ∈ ks → CellsAt w c) (hn : b ∉ ks) :
    ∃ w', (Instr.mapUpdate tm (.map (some mb)) (ptr b) (.int .i64 (ks.length : Int))).run P w = .ok () w' ∧ PMap w' mb (ks ++ [b]) ∧ Kept (fun k => k = mb) w w' ∧ w'.heap.size = w.heap.size := by
  obtain ⟨es, clock, hmb, hl, hE⟩ := h
  have hmem := PMap.mem hl hE
  have h1 := findKey_ask (P := P) (w := w) hp b es.toList (fun e he => let ⟨c, hc, _⟩ := hmem e he; ⟨c, hc⟩)
  have h2 := ask_none (P := P) (w := w) hp hte hsz hb es.toList 0 (fun e he => let ⟨c, hc, hcm⟩ := hmem e he; ⟨c, hc, fun e => hn (e ▸ hcm), hks c hcm⟩)
  rw [h2] at h1
  have hlt : mb < w.heap.size := (Array.getElem?_eq_some_iff.1 hmb).1
  refine ⟨{ w with heap := w.heap.setIfInBounds mb (.map (es.push { key := ptr b, val := .int .i64 (ks.length : Int), born := clock }) (clock + 1)) }, ?_, ?_, ?_, by simp⟩
  · simp [Instr.mapUpdate, run_underlying hm, MapKept.run_getObj_map hmb, checkKey_ptr hp _ 9999, h1, MapKept.run_setObj_map _ hmb]
  · refine ⟨es.push { key := ptr b, val := .int .i64 (ks.length : Int), born := clock }, clock + 1, (by simp [hlt]), by simpa using hl, fun i hi => ?_⟩
    by_cases e : i < ks.length
    · obtain ⟨en, h3, h4, h5⟩ := hE i e
      refine ⟨en, ?_, ?_, h5⟩
      · rw [Array.toList_push, List.getElem?_append_left (by omega)]; exact h3
      · rw [h4, getElem!_pos ks i e, getElem!_pos (ks ++ [b]) i hi, List.getElem_append_left e]
    · have ei : i = ks.length := by simp at hi; omega
      subst ei
      refine ⟨_, by rw [Array.toList_push, List.getElem?_append_right (by omega), hl]; simp; rfl, ?_, rfl⟩
      rw [getElem!_pos (ks ++ [b]) _ hi]
      simp
  · refine ⟨rfl, rfl, rfl, by simp, fun k hk hn => ?_⟩
    simp [Ne.symm hn]
end

end Go.Proofs.Ythjddpkegooobab

/-
  SPECREN: the specification's renaming. Own work.
-/
namespace Go.Proofs.Ythjddpkegooobab
open Go.RowKit

set_option maxRecDepth 100000 in
theorem info_int : (Try.prog.info? 3).map (fun i => (i.zero, i.size, i.bytes)) = some (some (.int .i64 0), 1, 8) := by kernel_rfl

/-- what the specification's renaming leaves -/
def RenPost (base n wb : Nat) (ord : List Nat) (v : GV) (oa : Option Addr) (w : World) (e : Ending) (w' : World) : Prop :=
  ∃ oa' ocap', e = .returned (.tuple #[(renVal ord v).val, .slice oa' (renOrd ord v).length ocap']) ∧ w'.rowIs wb 3 n (fun i => .int .i64 (whereOf (renOrd ord v) i)) ∧
    w'.ownsRow base 3 1 (.slice oa' (renOrd ord v).length ocap') (renOrd ord v).length (ints (renOrd ord v)) ∧
    (oa' = oa ∨ ∃ g, oa' = some ⟨g, 0, none⟩ ∧ w.heap.size ≤ g) ∧ Kept (fun k => k = wb ∨ oa = some ⟨k, 0, none⟩) w w'

set_option maxRecDepth 100000 in
theorem l1renamed_not (base n : Nat) (ord : List Nat) (v : GV) (wb : Nat) (oa : Option Addr) (ocap : Nat) (w : World) (hk : v.kind ≠ 4)
    (hw : w.rowIs wb 3 n (fun i => .int .i64 (whereOf ord i))) (ho : w.ownsRow base 3 1 (.slice oa ord.length ocap) ord.length (ints ord)) :
    Calls Try.prog 164 #[v.val, .slice (some ⟨wb, 0, none⟩) n n, .slice oa ord.length ocap] w (RenPost base n wb ord v oa w) := by
  obtain ⟨e1, e2⟩ := ren_not (ord := ord) hk
  have hne : (v.kind != 4) = true := by simpa using hk
  go_enter Try.func164, Try.ntmps164
  go_wp2
  exact bodyPost_ret (v := .tuple #[v.val, .slice oa ord.length ocap]) (by simp [results, Try.results164, go_sem]) rfl
    ⟨oa, ocap, by rw [e1, e2], by rw [e1]; exact (hw.alloc _).alloc _, by rw [e1]; exact (ho.alloc _).alloc _, Or.inl rfl, Kept.of_below (gal (gal (gre _) _) _) _⟩

set_option maxRecDepth 100000 in
theorem l1renamed_old (base n : Nat) (ord : List Nat) (m : Int) (t : ByteArray) (x : Nat) (wb : Nat) (oa : Option Addr) (ocap : Nat) (w : World) (hx : x ∈ ord) (hxn : x < n) (_hn : n ≤ 300)
    (hw : w.rowIs wb 3 n (fun i => .int .i64 (whereOf ord i))) (ho : w.ownsRow base 3 1 (.slice oa ord.length ocap) ord.length (ints ord)) :
    Calls Try.prog 164 #[(GV.mk 4 m t x).val, .slice (some ⟨wb, 0, none⟩) n n, .slice oa ord.length ocap] w (RenPost base n wb ord ⟨4, m, t, x⟩ oa w) := by
  obtain ⟨e1, e2⟩ := ren_old (ord := ord) (v := ⟨4, m, t, x⟩) rfl hx
  have hc := hw.cell hxn
  rw [whereOf_pos hx] at hc
  have hwl := hw.lt
  have hxi : (0 : Int) ≤ (x : Int) := by omega
  have hxj : (x : Int) < (n : Int) := by omega
  have h0 : (0 : Int) ≤ (ord.idxOf x : Int) := by omega
  go_enter Try.func164, Try.ntmps164
  go_wp2
  exact bodyPost_ret (v := .tuple #[(GV.mk 4 m t (ord.idxOf x : Nat)).val, .slice oa ord.length ocap]) (by simp [results, Try.results164, go_sem]) rfl
    ⟨oa, ocap, by rw [e1, e2]; rfl, by rw [e1]; exact (hw.alloc _).alloc _, by rw [e1]; exact (ho.alloc _).alloc _, Or.inl rfl, Kept.of_below (gal (gal (gre _) _) _) _⟩

set_option maxRecDepth 100000 in
theorem l1renamed_new (base n : Nat) (ord : List Nat) (m : Int) (t : ByteArray) (x : Nat) (wb : Nat) (oa : Option Addr) (ocap : Nat) (w : World) (hx : x ∉ ord) (hxn : x < n) (_hn : n ≤ 300) (hol : ord.length ≤ 300)
    (hwb : wb < base) (hbase : base ≤ w.heap.size)
    (hw : w.rowIs wb 3 n (fun i => .int .i64 (whereOf ord i))) (ho : w.ownsRow base 3 1 (.slice oa ord.length ocap) ord.length (ints ord)) :
    Calls Try.prog 164 #[(GV.mk 4 m t x).val, .slice (some ⟨wb, 0, none⟩) n n, .slice oa ord.length ocap] w (RenPost base n wb ord ⟨4, m, t, x⟩ oa w) := by
  obtain ⟨e1, e2⟩ := ren_new (ord := ord) (v := ⟨4, m, t, x⟩) rfl hx
  obtain ⟨i0, hi, hz0, hz1, hz2⟩ := info_parts info_int
  have hc := hw.cell hxn
  rw [whereOf_neg hx] at hc
  have hwl := hw.lt
  have hfr := hw.frozen x
  have hxi : (0 : Int) ≤ (x : Int) := by omega
  have hxj : (x : Int) < (n : Int) := by omega
  have hn0 : some w.heap.size ≠ (Value.slice oa ord.length ocap).ownBlock := fun e => by have := (ho.lt _ e.symm).2; omega
  have hn1 : some (w.heap.size + 1) ≠ (Value.slice oa ord.length ocap).ownBlock := fun e => by have := (ho.lt _ e.symm).2; omega
  have hn2 : some wb ≠ (Value.slice oa ord.length ocap).ownBlock := fun e => by have := (ho.lt _ e.symm).1; omega
  go_enter Try.func164, Try.ntmps164
  go_wp2_with (at_builtin; refine wpList_append_lies _ rfl (.tmp 25) (.tmp 28) 194 rfl base 3 i0 (.int .i64 0) 1 8 Try.underlying194 hi hz0 hz1 hz2 rfl (by decide) _ _ _ rfl ((((ownsRow_setCell_below ho hwb _).alloc _).alloc _).alloc _) ⟨w.heap.size + 1 + 1, 0, none⟩ 1 1 [.int .i64 (x : Int)] rfl rfl (World.news_of_block (cs := #[.int .i64 (x : Int)]) (t := 3) (fr := (0, 0)) (blk_new_at _ _ _ (by simp))) (by simp [Value.oneCell']) (by decide) (by unfold maxLen; omega) (by omega) (by simp; omega) (w.heap.size + 1 + 1 + 1) (by simp) ?_; intro g cap w1 hown1 hgrow hat hlt; have hr1 := (Kept.of_grown hgrow).rowIs ((((hw.set x (.int .i64 (ord.length : Int))).alloc _).alloc _).alloc _) (fun e => hn2 e.symm); have q2 : w1.cell? ⟨wb, x, none⟩ = some (.int .i64 (ord.length : Int)) := (hr1.cell hxn).trans (by rw [if_pos rfl]); obtain ⟨z0, k0, k1, k2, k3, kf⟩ := (((Four.new_at (w.setCell ⟨wb, x, none⟩ (.int .i64 (ord.length : Int))) ⟨4, m, t, x⟩ _ w.heap.size (by simp)).alloc _).alloc _).kept (Kept.of_grown hgrow) (fun e => hn0 e.symm); obtain ⟨z1, l0, l1, l2, l3, lf⟩ := ((Four.new_at _ ⟨0, 0, .empty, 0⟩ _ (w.heap.size + 1) (by simp)).alloc _).kept (Kept.of_grown hgrow) (fun e => hn1 e.symm))
  have e1' : renOrd ord ⟨4, m, t, x⟩ = ord ++ [x] := by simpa using e1
  have hl1 : (ord ++ [x]).length = ord.length + 1 := by simp
  have hK : Kept (fun k => k = wb ∨ oa = some ⟨k, 0, none⟩) w w1 :=
    ((((Kept.refl _ w).set (fun _ => Or.inl rfl) _).alloc _).alloc _).alloc _ |>.trans (Kept.of_grown hgrow) (fun k _ hq => Or.inr (owns_addr ho hq))
  have hg : w.heap.size ≠ g ∧ w.heap.size + 1 ≠ g ∧ (some ⟨g, 0, none⟩ = oa ∨ w.heap.size ≤ g) := by
    rcases hat with h | h
    · have h1 := ho.lt g h
      have h2 := owns_addr ho h
      exact ⟨by omega, by omega, Or.inl h2.symm⟩
    · exact ⟨by omega, by omega, Or.inr (by omega)⟩
  have hQ : Kept (fun k => k = w.heap.size ∨ k = w.heap.size + 1) w1 (((((w1.setCell ⟨w.heap.size, 3, none⟩ (.int .i64 (ord.length : Int))).setCell ⟨w.heap.size + 1, 0, none⟩ (.int .i64 4)).setCell ⟨w.heap.size + 1, 1, none⟩ (.int .i64 m)).setCell ⟨w.heap.size + 1, 2, none⟩ (.string t)).setCell ⟨w.heap.size + 1, 3, none⟩ (.int .i64 (ord.length : Int))) :=
    (((((Kept.refl _ w1).set (fun _ => Or.inl rfl) _).set (fun _ => Or.inr rfl) _).set (fun _ => Or.inr rfl) _).set (fun _ => Or.inr rfl) _).set (fun _ => Or.inr rfl) _
  refine bodyPost_ret (v := .tuple #[(GV.mk 4 m t (ord.length : Nat)).val, .slice (some ⟨g, 0, none⟩) (ord.length + 1) cap]) (by simp [results, Try.results164, go_sem, l0, l1, l2, l3]) rfl
    ⟨some ⟨g, 0, none⟩, cap, by rw [e1', e2, hl1], ?_, ?_, hg.2.2.elim (fun h => Or.inl h) (fun h => Or.inr ⟨g, rfl, h⟩), hK.trans hQ (fun k hk hq => by omega)⟩
  · rw [e1']
    exact (hQ.rowIs hr1 (by omega)).congr fun j _ => by rw [whereOf_snoc hx]; split <;> rfl
  · rw [e1', hl1]
    have h3 := hQ.owns hown1 (fun k hk => by simp [Value.ownBlock] at hk; omega)
    simpa [ints] using h3

end Go.Proofs.Ythjddpkegooobab

/-
  SPECREN2: the specification's renaming, of whatever value that is well made. Own work.
-/
namespace Go.Proofs.Ythjddpkegooobab
open Go.RowKit

theorem l1renamed_any (base n : Nat) (ord : List Nat) (v : GV) (wb : Nat) (oa : Option Addr) (ocap : Nat) (w : World) (hv : okV n v = true) (hinv : InvO n ord) (hn : n ≤ 300) (hwb : wb < base) (hbase : base ≤ w.heap.size)
    (hw : w.rowIs wb 3 n (fun i => .int .i64 (whereOf ord i))) (ho : w.ownsRow base 3 1 (.slice oa ord.length ocap) ord.length (ints ord)) :
    Calls Try.prog 164 #[v.val, .slice (some ⟨wb, 0, none⟩) n n, .slice oa ord.length ocap] w (RenPost base n wb ord v oa w) := by
  by_cases hk : v.kind = 4
  · have hb := okV_node hv hk
    obtain ⟨k, m, t, x⟩ := v
    obtain rfl : k = 4 := hk
    obtain ⟨y, rfl⟩ := Int.eq_ofNat_of_zero_le hb.1
    have hy : y < n := by have := hb.2; simpa using this
    by_cases hm : y ∈ ord
    · exact l1renamed_old base n ord m t y wb oa ocap w hm hy hn hw ho
    · exact l1renamed_new base n ord m t y wb oa ocap w hm hy hn (Nat.le_trans hinv.le hn) hwb hbase hw ho
  · exact l1renamed_not base n ord v wb oa ocap w hk hw ho

end Go.Proofs.Ythjddpkegooobab

/-
  OK3: graphs that are well made: the program's word. Own work.
-/
namespace Go.Proofs.Ythjddpkegooobab
open Go.RowKit

set_option maxRecDepth 100000 in
theorem okG_long {g : GG} (h : 300 < g.nodes.length) : okG g = false := by
  unfold okG; rw [decide_eq_false (by omega)]; rfl
theorem okG_root {g : GG} (h : okV g.nodes.length g.root = false) : okG g = false := by
  unfold okG; rw [h, Bool.and_false]; rfl
set_option maxRecDepth 100000 in
theorem okG_nodes {g : GG} (h : g.nodes.length ≤ 300) (hr : okV g.nodes.length g.root = true) : okG g = g.nodes.all (okN g.nodes.length) := by
  unfold okG; rw [decide_eq_true h, hr]; rfl

set_option maxRecDepth 100000 in
theorem implGraphOk_any (a : Option Addr) (cap : Nat) (g : GG) (w : World) (hg : g.Ok) (ha : NodesAt w.heap.size w a g.nodes) :
    Calls Try.prog 74 #[g.val a cap] w fun e w' => e = .returned (.bool (okG g)) ∧ Below w.heap.size w w' := by
  by_cases hlen : 300 < g.nodes.length
  · have hk : Hid _ := okG_long hlen
    go_enter Try.func74, Try.ntmps74
    go_wp2
    go_ret
    exact ⟨ret_bool hk.out.symm, gal (gre _) _⟩
  · have t0 : decide (300 < (g.nodes.length : Int)) = false := decide_eq_false (by omega)
    cases hr : okV g.nodes.length g.root with
    | false =>
      have hk : Hid _ := okG_root hr
      go_enter Try.func74, Try.ntmps74
      go_wp2_with (go_at_call 133; refine (implVal_any g.nodes.length g.root _).mono ?_; rintro e w' ⟨rfl, hb'⟩)
      go_ret
      exact ⟨ret_bool hk.out.symm, gca (gal (gre _) _) hb'⟩
    | true =>
      have hk : Hid _ := okG_nodes (by omega) hr
      go_enter Try.func74, Try.ntmps74
      go_wp2_with (go_at_call 133; refine (implVal_any g.nodes.length g.root _).mono ?_; rintro e w' ⟨rfl, hb'⟩; obtain ⟨hc, hf⟩ := bcell hb')
      have hz : w.heap.size < w'.heap.size := by have := hb'.size; simp at this; omega
      have hbx : w'.cell? ⟨w.heap.size, 4, none⟩ = some (.slice a g.nodes.length cap) := by rw [hc _ _ (by simp)]; simp
      have hB : Below w.heap.size w w' := gca (gal (gre _) _) hb'
      clear hc hf hb'
      go_loopw [21] (fun i wr => ∃ k : Nat, k ≤ g.nodes.length ∧ i = .int .i64 k ∧ (g.nodes.take k).all (okN g.nodes.length) = true ∧ w'.heap.size ≤ wr.heap.size ∧ wr.cell? ⟨w.heap.size, 4, none⟩ = some (.slice a g.nodes.length cap) ∧ Below w.heap.size w wr) (fun i _ => g.nodes.length - (intOf i).toNat)
      case atStart => exact ⟨0, Nat.zero_le _, rfl, by simp, Nat.le_refl _, hbx, hB⟩
      case round =>
        clear hbx hB
        obtain ⟨k, hk', rfl, hall, hsz, hbx, hb⟩ := hrel
        have hz' : w.heap.size < wr.heap.size := by omega
        by_cases hlt : k < g.nodes.length
        · obtain ⟨n, b, off, av, cv, hvk, hvm, rfl, hbs, hva⟩ := ha.get hlt
          have hva := hva.below hb hbs
          have c0 := hva.tag
          have c1 := hva.sl
          have hv1 : ValsAt wr.heap.size wr av n.vals := hva.vals.mono hb.size
          have hall' : Hid _ := hall
          clear hall
          cases hr2 : okN g.nodes.length n with
          | false =>
            have hf : Hid (g.nodes.all (okN g.nodes.length) = false) := all_false_at hlt (by rw [← hvk.out]; exact hr2)
            go_wp2_with (go_at_call 134; refine (implNode_any g.nodes.length n av cv _ (hg.nodes n hvm).len (hv1.grow (gal (gre _) _))).mono ?_; rintro e w'' ⟨rfl, hb''⟩)
            go_ret
            exact ⟨ret_bool (by rw [hk.out, hf.out]), gca (gal hb _) hb''⟩
          | true =>
            have hf : Hid ((g.nodes.take (k + 1)).all (okN g.nodes.length) = true) := all_take_succ hlt hall'.out (by rw [← hvk.out]; exact hr2)
            go_wp2_with (go_at_call 134; refine (implNode_any g.nodes.length n av cv _ (hg.nodes n hvm).len (hv1.grow (gal (gre _) _))).mono ?_; rintro e w'' ⟨rfl, hb''⟩)
            go_roundw
            case rel =>
              have hG : Below wr.heap.size wr w'' := gca (gal (gre _) _) hb''
              exact ⟨k + 1, by omega, by go_num, hf.out, Nat.le_trans hsz hG.size, cell_later hG hbx, gca (gal hb _) hb''⟩
            case measure => simp [intOf]; omega
        · have e : k = g.nodes.length := by omega
          have hall' : Hid (g.nodes.all (okN g.nodes.length) = true) := by rw [e, List.take_length] at hall; exact hall
          clear hall
          go_wp2
          go_ret
          exact ⟨ret_bool (by rw [hk.out, hall'.out]), hb⟩

end Go.Proofs.Ythjddpkegooobab

/-
  OK4: graphs that are well made: the specification's word. Own work.
-/
namespace Go.Proofs.Ythjddpkegooobab
open Go.RowKit

/-- a graph's own variable: five cells -/
structure GBox (w : World) (b : Nat) (g : GG) (a : Option Addr) (cap : Nat) : Prop where
  lt : b < w.heap.size
  kind : w.cell? ⟨b, 0, none⟩ = some (.int .i64 g.root.kind)
  num : w.cell? ⟨b, 1, none⟩ = some (.int .i64 g.root.num)
  text : w.cell? ⟨b, 2, none⟩ = some (.string g.root.text)
  node : w.cell? ⟨b, 3, none⟩ = some (.int .i64 g.root.node)
  sl : w.cell? ⟨b, 4, none⟩ = some (.slice a g.nodes.length cap)

set_option maxRecDepth 100000 in
theorem GBox.grow {w w' : World} {b : Nat} {g : GG} {a : Option Addr} {cap : Nat} (h : GBox w b g a cap) (hb : Below w.heap.size w w') : GBox w' b g a cap :=
  ⟨Nat.lt_of_lt_of_le h.lt hb.size, cell_later hb h.kind, cell_later hb h.num, cell_later hb h.text, cell_later hb h.node, cell_later hb h.sl⟩

set_option maxRecDepth 100000 in
theorem GBox.new (w : World) (g : GG) (a : Option Addr) (cap : Nat) (t : TypeId) :
    GBox (w.alloc (.cells #[.int .i64 g.root.kind, .int .i64 g.root.num, .string g.root.text, .int .i64 g.root.node, .slice a g.nodes.length cap] t)) w.heap.size g a cap :=
  ⟨by simp, by simp, by simp, by simp, by simp, by simp⟩

set_option maxHeartbeats 1000000 in
set_option maxRecDepth 100000 in
theorem specGraphOk_any (a : Option Addr) (cap : Nat) (g : GG) (w : World) (hg : g.Ok) (ha : NodesAt w.heap.size w a g.nodes) :
    Calls Try.prog 68 #[g.val a cap] w fun e w' => e = .returned (.bool (okG g)) ∧ Below w.heap.size w w' := by
  by_cases hlen : 300 < g.nodes.length
  · have hk : Hid _ := okG_long hlen
    have t0 : decide (300 < (g.nodes.length : Int)) = true := decide_eq_true (by omega)
    go_enter Try.func68, Try.ntmps68
    go_wp2
    go_ret
    exact ⟨ret_bool hk.out.symm, gal (gre _) _⟩
  · have t0 : decide (300 < (g.nodes.length : Int)) = false := decide_eq_false (by omega)
    cases hr : okV g.nodes.length g.root with
    | false =>
      have hk : Hid _ := okG_root hr
      go_enter Try.func68, Try.ntmps68
      go_wp2_with (go_at_call 126; refine (specVal_any a cap g g.root _).mono ?_; rintro e w' ⟨rfl, hb'⟩)
      go_ret
      exact ⟨ret_bool hk.out.symm, gca (gal (gre _) _) hb'⟩
    | true =>
      have hk : Hid _ := okG_nodes (by omega) hr
      go_enter Try.func68, Try.ntmps68
      go_wp2_with (go_at_call 126; refine (specVal_any a cap g g.root _).mono ?_; rintro e w' ⟨rfl, hb'⟩; obtain ⟨hc, hf⟩ := bcell hb')
      have hbx : GBox w' w.heap.size g a cap := (GBox.new w g a cap _).grow hb'
      have hB : Below w.heap.size w w' := gca (gal (gre _) _) hb'
      have hle300 : g.nodes.length ≤ 300 := by omega
      clear hc hf hb' hlen
      go_loopw [21] (fun i wr => ∃ k : Nat, k ≤ g.nodes.length ∧ i = .int .i64 k ∧ (g.nodes.take k).all (okN g.nodes.length) = true ∧ GBox wr w.heap.size g a cap ∧ Below w.heap.size w wr) (fun i _ => g.nodes.length - (intOf i).toNat)
      case atStart => exact ⟨0, Nat.zero_le _, rfl, by simp, hbx, hB⟩
      case round =>
        clear hbx hB
        obtain ⟨k, hk', rfl, hall, hbx, hb⟩ := hrel
        have hz' := hbx.lt
        by_cases hlt : k < g.nodes.length
        · obtain ⟨n, b, off, av, cv, hvk, hvm, rfl, hbs, hva⟩ := ha.get hlt
          have hva := hva.below hb hbs
          have c0 := hva.tag
          have c1 := hva.sl
          have hv1 : ValsAt wr.heap.size wr av n.vals := hva.vals.mono hb.size
          have hnl := (hg.nodes n hvm).len
          unfold maxLen at hnl
          have hall' : Hid _ := hall
          clear hall hva
          by_cases hok : 0 ≤ n.tag ∧ n.tag ≤ 1000 ∧ n.vals.length ≤ 100
          · have hkv : Hid _ := okN_vals (n := g.nodes.length) hok
            obtain ⟨h1, h2, h3⟩ := hok
            have u0 : decide (n.tag < 0) = false := decide_eq_false (by omega)
            have u1 : decide (1000 < n.tag) = false := decide_eq_false (by omega)
            have u2 : decide (100 < (n.vals.length : Int)) = false := decide_eq_false (by omega)
            go_wp2
            have hB1 : Below wr.heap.size wr (wr.alloc (.cells #[.int .i64 n.tag, .slice av n.vals.length cv] 116)) := gal (gre _) _
            go_loopw [42] (fun i ws => ∃ j : Nat, j ≤ n.vals.length ∧ i = .int .i64 j ∧ (n.vals.take j).all (okV g.nodes.length) = true ∧ Below wr.heap.size wr ws) (fun i _ => n.vals.length - (intOf i).toNat)
            case atStart => exact ⟨0, Nat.zero_le _, rfl, by simp, hB1⟩
            case round =>
              obtain ⟨j, hj, rfl, hall2, hb2⟩ := hrel
              clear hB1
              have hbx2 := hbx.grow hb2
              have hz2 := hbx2.lt
              have e0 := hbx2.kind
              have e1 := hbx2.num
              have e2 := hbx2.text
              have e3 := hbx2.node
              have e4 := hbx2.sl
              by_cases hjl : j < n.vals.length
              · obtain ⟨v, bb, oo, hvj, hvm2, rfl, hbs2, hva2⟩ := hv1.get hjl
                have hva2 := hva2.below hb2 hbs2
                have q0 := hva2.kind
                have q1 := hva2.num
                have q2 := hva2.text
                have q3 := hva2.node
                have hall2' : Hid _ := hall2
                clear hall2 hva2
                cases hr2 : okV g.nodes.length v with
                | false =>
                  have hf : Hid (g.nodes.all (okN g.nodes.length) = false) := all_false_at hlt (by rw [← hvk.out, hkv.out]; exact all_false_at hjl (by rw [← hvj.out]; exact hr2))
                  go_wp2_with (go_at_call 126; refine (specVal_any _ cap g v _).mono ?_; rintro e w'' ⟨rfl, hb''⟩)
                  go_ret
                  exact ⟨ret_bool (by rw [hk.out, hf.out]), gca (gal (gca hb hb2) _) hb''⟩
                | true =>
                  have hf : Hid ((n.vals.take (j + 1)).all (okV g.nodes.length) = true) := all_take_succ hjl hall2'.out (by rw [← hvj.out]; exact hr2)
                  go_wp2_with (go_at_call 126; refine (specVal_any _ cap g v _).mono ?_; rintro e w'' ⟨rfl, hb''⟩)
                  go_roundw
                  case rel => exact ⟨j + 1, by omega, by go_num, hf.out, gca (gal hb2 _) hb''⟩
                  case measure => simp [intOf]; omega
              · have e : j = n.vals.length := by omega
                have hf : Hid ((g.nodes.take (k + 1)).all (okN g.nodes.length) = true) := all_take_succ hlt hall'.out (by rw [← hvk.out, hkv.out]; rw [e, List.take_length] at hall2; exact hall2)
                clear hall2
                go_wp2
                go_roundw
                case rel => exact ⟨k + 1, by omega, by go_num, hf.out, hbx2, gca hb hb2⟩
                case measure => simp [intOf]; omega
          · have hkf : Hid (g.nodes.all (okN g.nodes.length) = false) := all_false_at hlt (by rw [← hvk.out]; exact okN_false (by omega))
            go_wp2
            all_goals first | (go_ret; exact ⟨ret_bool (by rw [hk.out, hkf.out]), gal hb _⟩) | (exfalso; omega)
        · have e : k = g.nodes.length := by omega
          have hall' : Hid (g.nodes.all (okN g.nodes.length) = true) := by rw [e, List.take_length] at hall; exact hall
          clear hall
          go_wp2
          go_ret
          exact ⟨ret_bool (by rw [hk.out, hall'.out]), hb⟩

end Go.Proofs.Ythjddpkegooobab

/-
  TO: the laws' copies. Own work.
-/
namespace Go.Proofs.Ythjddpkegooobab
open Go.RowKit

set_option maxRecDepth 100000 in
theorem info_implVal : (Try.prog.info? 30).map (fun i => (i.zero, i.size, i.bytes)) = some (some (.agg #[.int .i64 0, .int .i64 0, .string .empty, .int .i64 0]), 4, 40) := by kernel_rfl

/-- the first k values are laid -/
def ValsIn (f : Nat → Value) (vs : List GV) (k : Nat) : Prop :=
  ∀ i, i < k → f (i * 4) = .int .i64 vs[i]!.kind ∧ f (i * 4 + 1) = .int .i64 vs[i]!.num ∧ f (i * 4 + 2) = .string vs[i]!.text ∧ f (i * 4 + 3) = .int .i64 vs[i]!.node

set_option maxRecDepth 100000 in
theorem ValsIn.at_ {w : World} {b t n : Nat} {f : Nat → Value} {vs : List GV} (h : ValsIn f vs vs.length) (hr : w.rowIs b t n f) (hn : n = vs.length * 4) {B : Nat} (hB : b < B) : ValsAt B w (some ⟨b, 0, none⟩) vs := fun i hi => by
  obtain ⟨h0, h1, h2, h3⟩ := h i hi
  refine ⟨b, 0, rfl, hB, ?_, ?_, ?_, ?_⟩
  · rw [← h0, Nat.zero_add]; exact hr.cell (by omega)
  · rw [← h1, Nat.zero_add]; exact hr.cell (by omega)
  · rw [← h2, Nat.zero_add]; exact hr.cell (by omega)
  · rw [← h3, Nat.zero_add]; exact hr.cell (by omega)

set_option maxRecDepth 100000 in
theorem ValsIn.step {f : Nat → Value} {vs : List GV} {k : Nat} {v : GV} (h : ValsIn f vs k) (hv : Hid (v = vs[k]!)) :
    ValsIn (fun j => if j = k * 4 + 3 then .int .i64 v.node else if j = k * 4 + 2 then .string v.text else if j = k * 4 + 1 then .int .i64 v.num else if j = k * 4 then .int .i64 v.kind else f j) vs (k + 1) := fun i hi => by
  have e := hv.out
  by_cases hk : i = k
  · subst hk; subst e; simp
  · obtain ⟨h0, h1, h2, h3⟩ := h i (by omega)
    refine ⟨?_, ?_, ?_, ?_⟩ <;> dsimp only
    · rw [if_neg (by omega), if_neg (by omega), if_neg (by omega), if_neg (by omega)]; exact h0
    · rw [if_neg (by omega), if_neg (by omega), if_neg (by omega), if_neg (by omega)]; exact h1
    · rw [if_neg (by omega), if_neg (by omega), if_neg (by omega), if_neg (by omega)]; exact h2
    · rw [if_neg (by omega), if_neg (by omega), if_neg (by omega), if_neg (by omega)]; exact h3

/-- values that lie in a row of their own -/
def OwnVals (w : World) (b : Nat) (vs : List GV) : Prop := ∃ f, w.rowIs b 30 (vs.length * 4) f ∧ ValsIn f vs vs.length

set_option maxRecDepth 100000 in
theorem OwnVals.lt {w : World} {b : Nat} {vs : List GV} (h : OwnVals w b vs) : b < w.heap.size := by obtain ⟨f, hr, _⟩ := h; exact hr.lt
theorem OwnVals.at_ {w : World} {b : Nat} {vs : List GV} (h : OwnVals w b vs) {B : Nat} (hB : b < B) : ValsAt B w (some ⟨b, 0, none⟩) vs := by
  obtain ⟨f, hr, hi⟩ := h
  exact hi.at_ hr rfl hB
set_option maxRecDepth 100000 in
theorem OwnVals.of_block {w w' : World} {b : Nat} {vs : List GV} (h : OwnVals w b vs) (e : w'.heap[b]? = w.heap[b]?) : OwnVals w' b vs := by
  obtain ⟨f, hr, hi⟩ := h
  exact ⟨f, hr.of_block e, hi⟩

set_option maxRecDepth 100000 in
theorem OwnVals.set {w : World} {b : Nat} {vs : List GV} (h : OwnVals w b vs) {p : Addr} (hp : b ≠ p.block) (u : Value) : OwnVals (w.setCell p u) b vs := h.of_block (Deep.blk_setCell_other _ _ _ _ hp)

abbrev nodeVal (n : GN) (a : Option Addr) (cap : Nat) : Value := .agg #[.int .i64 n.tag, .slice a n.vals.length cap]

/-- nodes that lie in a row of their own, their values in rows behind it -/
def NodesIn (w : World) (N : Nat) (f : Nat → Value) (bs : Nat → Nat) (ns : List GN) (k : Nat) : Prop :=
  ∀ i, i < k → f (i * 2) = .int .i64 ns[i]!.tag ∧ f (i * 2 + 1) = .slice (some ⟨bs i, 0, none⟩) ns[i]!.vals.length ns[i]!.vals.length ∧ OwnVals w (bs i) ns[i]!.vals ∧ N < bs i ∧ ∀ j, j < i → bs j < bs i

def OwnNodes (w : World) (N : Nat) (bs : Nat → Nat) (ns : List GN) : Prop := ∃ f, w.rowIs N 116 (ns.length * 2) f ∧ NodesIn w N f bs ns ns.length

set_option maxRecDepth 100000 in
theorem OwnNodes.at_ {w : World} {N : Nat} {bs : Nat → Nat} {ns : List GN} (h : OwnNodes w N bs ns) : NodesAt w.heap.size w (some ⟨N, 0, none⟩) ns := fun i hi => by
  obtain ⟨f, hr, hn⟩ := h
  obtain ⟨h0, h1, h2, h3, _⟩ := hn i hi
  refine ⟨N, 0, some ⟨bs i, 0, none⟩, ns[i]!.vals.length, rfl, hr.lt, ?_, ?_, h2.at_ h2.lt⟩
  · rw [← h0, Nat.zero_add]; exact hr.cell (by omega)
  · rw [← h1, Nat.zero_add]; exact hr.cell (by omega)

set_option maxRecDepth 100000 in
theorem OwnNodes.below {w w' : World} {N : Nat} {bs : Nat → Nat} {ns : List GN} (h : OwnNodes w N bs ns) (hb : Below w.heap.size w w') : OwnNodes w' N bs ns := by
  obtain ⟨f, hr, hn⟩ := h
  refine ⟨f, hr.of_block (hb.block _ hr.lt), fun i hi => ?_⟩
  obtain ⟨h0, h1, h2, h3, h4⟩ := hn i hi
  exact ⟨h0, h1, h2.of_block (hb.block _ h2.lt), h3, h4⟩

set_option maxRecDepth 100000 in
theorem OwnNodes.set {w : World} {N : Nat} {bs : Nat → Nat} {ns : List GN} (h : OwnNodes w N bs ns) {p : Addr} (hp : p.block < N) (u : Value) : OwnNodes (w.setCell p u) N bs ns := by
  obtain ⟨f, hr, hn⟩ := h
  refine ⟨f, hr.setOther (by omega) u, fun i hi => ?_⟩
  obtain ⟨h0, h1, h2, h3, h4⟩ := hn i hi
  exact ⟨h0, h1, h2.set (by omega) u, h3, h4⟩

set_option maxRecDepth 100000 in
theorem NodesIn.step {w w' : World} {N : Nat} {f : Nat → Value} {bs : Nat → Nat} {ns : List GN} {k b : Nat} {n : GN} (h : NodesIn w N f bs ns k) (hv : Hid (n = ns[k]!)) (hb : Below w.heap.size w w') (hN : N < w.heap.size)
    (hbb : w.heap.size ≤ b) (hown : OwnVals w' b n.vals) (u u' : Value) (o o' : Nat) :
    NodesIn ((w'.setCell ⟨N, o, none⟩ u).setCell ⟨N, o', none⟩ u') N
      (fun j => if j = k * 2 + 1 then .slice (some ⟨b, 0, none⟩) n.vals.length n.vals.length else if j = k * 2 then .int .i64 n.tag else f j) (fun i => if i = k then b else bs i) ns (k + 1) := fun i hi => by
  have e := hv.out
  by_cases hk : i = k
  · subst hk; subst e
    refine ⟨by simp, by simp, ?_, by simp; omega, fun j hj => ?_⟩
    · simp only [if_pos]
      exact (hown.set (by simp; omega) _).set (by simp; omega) _
    · simp only [if_pos, if_neg (show j ≠ i by omega)]
      have := (h j hj).2.2.1.lt
      omega
  · obtain ⟨h0, h1, h2, h3, h4⟩ := h i (by omega)
    refine ⟨?_, ?_, ?_, ?_, fun j hj => ?_⟩ <;> simp only [if_neg hk]
    · rw [if_neg (by omega), if_neg (by omega)]; exact h0
    · rw [if_neg (by omega), if_neg (by omega)]; exact h1
    · exact ((h2.of_block (hb.block _ h2.lt)).set (by simp; omega) _).set (by simp; omega) _
    · exact h3
    · rw [if_neg (show j ≠ k by omega)]; exact h4 j hj

set_option maxRecDepth 100000 in
theorem info_implNode : (Try.prog.info? 116).map (fun i => (i.zero, i.size, i.bytes)) = some (some (.agg #[.int .i64 0, .slice none 0 0]), 2, 32) := by kernel_rfl

end Go.Proofs.Ythjddpkegooobab
