/-
  PTRMAP: a map whose keys are pointers to blocks. Own work.
-/
import Derived.Test.YthjddpkegooobaaRows3
import Derived.LaidEqlPtr
import Derived.MapKept
namespace Go.Proofs.Ythjddpkegooobaa
open Go.RowKit

/-- a plain block of cells, none frozen -/
def CellsAt (w : World) (b : Nat) : Prop := ∃ c t, w.heap[b]? = some (.cells c t (0, 0))

abbrev ptr (b : Nat) : Value := .pointer (some ⟨b, 0, none⟩)

section
variable {P : Program} {w : World} {tp te : TypeId} {j : TypeInfo}

set_option maxRecDepth 100000 in
theorem equal_same (b : Nat) (hp : P.underlying tp = some (.pointer te)) (hte : P.info? te = some j) : (Op.equal tp (ptr b) (ptr b)).run P w = .ok true w := by
  have h : ∀ d : Nat, (Op.equalIn (d + 1) tp (ptr b) (ptr b)).run P w = .ok true w := fun d => by
    simp [Op.equalIn, run_underlying hp, sizeOf, typeInfo, hte, run_sameAddr_same]
  exact h 9999
set_option maxRecDepth 100000 in
theorem equal_other {b c : Nat} (hp : P.underlying tp = some (.pointer te)) (hte : P.info? te = some j) (hsz : j.size ≠ 0) (hne : b ≠ c) (hb : CellsAt w b) (hc : CellsAt w c) : (Op.equal tp (ptr b) (ptr c)).run P w = .ok false w := by
  obtain ⟨cb, tb, hb⟩ := hb
  obtain ⟨cc, tc, hc⟩ := hc
  have hn : (⟨b, 0, none⟩ : Addr) ≠ ⟨c, 0, none⟩ := fun e => hne (by have := congrArg Addr.block e; simpa using this)
  have h : ∀ d : Nat, (Op.equalIn (d + 1) tp (ptr b) (ptr c)).run P w = .ok false w := fun d => by
    simp [Op.equalIn, run_underlying hp, sizeOf, typeInfo, hte, hsz, run_sameAddr_other w hn hb hc]
  exact h 9999

set_option maxRecDepth 100000 in
theorem ask_none (hp : P.underlying tp = some (.pointer te)) (hte : P.info? te = some j) (hsz : j.size ≠ 0) {b : Nat} (hb : CellsAt w b) :
    ∀ (l : List MapEntry) (i : Nat), (∀ e, e ∈ l → ∃ c, e.key = ptr c ∧ c ≠ b ∧ CellsAt w c) → (Instr.findAsking tp (ptr b) l i).run P w = .ok none w
  | [], i, _ => by simp [Instr.findAsking]
  | e :: l, i, h => by
    obtain ⟨c, hk, hne, hc⟩ := h e (List.mem_cons_self ..)
    have ih := ask_none hp hte hsz hb l (i + 1) (fun e he => h e (List.mem_cons_of_mem _ he))
    unfold Instr.findAsking
    rw [hk]
    simp [equal_other hp hte hsz (Ne.symm hne) hb hc, ih]

set_option maxRecDepth 100000 in
theorem ask_some (hp : P.underlying tp = some (.pointer te)) (hte : P.info? te = some j) (hsz : j.size ≠ 0) {b : Nat} (hb : CellsAt w b) :
    ∀ (l : List MapEntry) (e : MapEntry) (r : List MapEntry) (i : Nat), (∀ e, e ∈ l → ∃ c, e.key = ptr c ∧ c ≠ b ∧ CellsAt w c) → e.key = ptr b → (Instr.findAsking tp (ptr b) (l ++ e :: r) i).run P w = .ok (some (i + l.length, e.val)) w
  | [], e, r, i, _, hk => by
    unfold Instr.findAsking
    simp only [List.nil_append]
    rw [hk]
    simp [equal_same b hp hte]
  | e' :: l, e, r, i, h, hk => by
    obtain ⟨c, hk', hne, hc⟩ := h e' (List.mem_cons_self ..)
    have ih := ask_some hp hte hsz hb l e r (i + 1) (fun e he => h e (List.mem_cons_of_mem _ he)) hk
    rw [List.cons_append]
    unfold Instr.findAsking
    rw [hk']
    simp [equal_other hp hte hsz (Ne.symm hne) hb hc, ih]
    omega

set_option maxRecDepth 100000 in
theorem findKey_ask (hp : P.underlying tp = some (.pointer te)) (b : Nat) (l : List MapEntry) (hl : ∀ e, e ∈ l → ∃ c, e.key = ptr c) : (Instr.findKey tp (ptr b) l).run P w = (Instr.findAsking tp (ptr b) l 0).run P w := by
  cases l with
  | nil => simp [Instr.findKey, run_underlying hp, Instr.findNow, Instr.findAsking]
  | cons e l =>
    obtain ⟨c, hk⟩ := hl e (List.mem_cons_self ..)
    simp [Instr.findKey, run_underlying hp, Instr.findNow, hk, Instr.sameNow]

set_option maxRecDepth 100000 in
theorem checkKey_ptr (hp : P.underlying tp = some (.pointer te)) (em : Bool) (n b : Nat) : (Instr.checkKey em (n + 1) tp (ptr b)).run P w = .ok () w := by
  unfold Instr.checkKey
  simp [run_underlying hp]
end

/-- block mb is a map that leads from each of these blocks to its place -/
def PMap (w : World) (mb : Nat) (ks : List Nat) : Prop :=
  ∃ es clock, w.heap[mb]? = some (.map es clock) ∧ es.toList.length = ks.length ∧ ∀ i, i < ks.length → ∃ e, es.toList[i]? = some e ∧ e.key = ptr ks[i]! ∧ e.val = .int .i64 (i : Int)

set_option maxRecDepth 100000 in
theorem PMap.lt {w : World} {mb : Nat} {ks : List Nat} (h : PMap w mb ks) : mb < w.heap.size := by
  obtain ⟨es, clock, hb, _⟩ := h
  exact (Array.getElem?_eq_some_iff.1 hb).1
set_option maxRecDepth 100000 in
theorem PMap.of_block {w w' : World} {mb : Nat} {ks : List Nat} (h : PMap w mb ks) (e : w'.heap[mb]? = w.heap[mb]?) : PMap w' mb ks := by
  obtain ⟨es, clock, hb, r⟩ := h
  exact ⟨es, clock, e.trans hb, r⟩
set_option maxRecDepth 100000 in
theorem PMap.kept {p : Nat → Prop} {w w' : World} {mb : Nat} {ks : List Nat} (h : PMap w mb ks) (k : Kept p w w') (hn : ¬ p mb) : PMap w' mb ks := h.of_block (k.block mb h.lt hn)

section
variable {P : Program} {w : World} {tm tp te ti : TypeId} {j : TypeInfo}

set_option maxRecDepth 100000 in
theorem PMap.mem {ks : List Nat} {es : Array MapEntry} (hl : es.toList.length = ks.length) (hE : ∀ i, i < ks.length → ∃ e, es.toList[i]? = some e ∧ e.key = ptr ks[i]! ∧ e.val = .int .i64 (i : Int)) :
    ∀ e, e ∈ es.toList → ∃ c, e.key = ptr c ∧ c ∈ ks := fun e he => by
  obtain ⟨i, hi, hie⟩ := List.getElem_of_mem he
  obtain ⟨e', h1, h2, _⟩ := hE i (by omega)
  rw [List.getElem?_eq_getElem hi, hie] at h1
  simp at h1
  subst h1
  exact ⟨ks[i]!, h2, mem_at (by omega)⟩

set_option maxRecDepth 100000 in
theorem run_lookup_none {mb : Nat} {ks : List Nat} (h : PMap w mb ks) (hm : P.underlying tm = some (.map tp ti)) (hp : P.underlying tp = some (.pointer te)) (hte : P.info? te = some j) (hsz : j.size ≠ 0) (hz : (zeroValue ti).run P w = .ok (.int .i64 0) w)
    {b : Nat} (hb : CellsAt w b) (hks : ∀ c, c ∈ ks → CellsAt w c) (hn : b ∉ ks) :
    (Instr.lookup tm (.map (some mb)) (ptr b) true).run P w = .ok (.tuple #[.int .i64 0, .bool false]) w := by
  obtain ⟨es, clock, hmb, hl, hE⟩ := h
  have hmem := PMap.mem hl hE
  have h1 := findKey_ask (P := P) (w := w) hp b es.toList (fun e he => let ⟨c, hc, _⟩ := hmem e he; ⟨c, hc⟩)
  have h2 := ask_none (P := P) (w := w) hp hte hsz hb es.toList 0 (fun e he => let ⟨c, hc, hcm⟩ := hmem e he; ⟨c, hc, fun e => hn (e ▸ hcm), hks c hcm⟩)
  rw [h2] at h1
  simp [Instr.lookup, run_underlying hm, MapKept.run_getObj_map hmb, checkKey_ptr hp _ 9999, h1, hz]

set_option maxRecDepth 100000 in
theorem run_lookup_some {mb : Nat} {ks : List Nat} (h : PMap w mb ks) (hm : P.underlying tm = some (.map tp ti)) (hp : P.underlying tp = some (.pointer te)) (hte : P.info? te = some j) (hsz : j.size ≠ 0)
    {b : Nat} (hb : CellsAt w b) (hks : ∀ c, c ∈ ks → CellsAt w c) (hnd : ks.Nodup) (hn : b ∈ ks) :
    (Instr.lookup tm (.map (some mb)) (ptr b) true).run P w = .ok (.tuple #[.int .i64 (ks.idxOf b : Nat), .bool true]) w := by
  obtain ⟨es, clock, hmb, hl, hE⟩ := h
  have hmem := PMap.mem hl hE
  have h1 := findKey_ask (P := P) (w := w) hp b es.toList (fun e he => let ⟨c, hc, _⟩ := hmem e he; ⟨c, hc⟩)
  have hi : ks.idxOf b < ks.length := List.idxOf_lt_length_of_mem hn
  obtain ⟨e, he, hek, hev⟩ := hE _ hi
  rw [getElem!_pos ks _ hi, List.getElem_idxOf hi] at hek
  have hsp : es.toList = es.toList.take (ks.idxOf b) ++ e :: es.toList.drop (ks.idxOf b + 1) := by
    obtain ⟨hlt, e1⟩ := List.getElem?_eq_some_iff.1 he
    rw [← e1, List.getElem_cons_drop, List.take_append_drop]
  have hpre : ∀ e, e ∈ es.toList.take (ks.idxOf b) → ∃ c, e.key = ptr c ∧ c ≠ b ∧ CellsAt w c := fun e' he' => by
    obtain ⟨i, hi', hie⟩ := List.getElem_of_mem he'
    have hil : i < ks.idxOf b := by have := hi'; simp at this; omega
    obtain ⟨e2, h3, h4, _⟩ := hE i (by omega)
    rw [List.getElem_take] at hie
    rw [List.getElem?_eq_getElem (by omega), hie] at h3
    simp at h3
    subst h3
    have hik : i < ks.length := by omega
    refine ⟨ks[i]!, h4, fun e => ?_, hks _ (mem_at hik)⟩
    rw [getElem!_pos ks i hik] at e
    have h9 := hnd.idxOf_getElem i hik
    rw [e] at h9
    omega
  have h2 := ask_some (P := P) (w := w) hp hte hsz hb (es.toList.take (ks.idxOf b)) e (es.toList.drop (ks.idxOf b + 1)) 0 hpre hek
  rw [← hsp] at h2
  rw [h2] at h1
  simp [Instr.lookup, run_underlying hm, MapKept.run_getObj_map hmb, checkKey_ptr hp _ 9999, h1, hev]

set_option maxRecDepth 100000 in
/-- a store at a key that is not there -/
theorem run_update_new {mb : Nat} {ks : List Nat} (h : PMap w mb ks) (hm : P.underlying tm = some (.map tp ti)) (hp : P.underlying tp = some (.pointer te)) (hte : P.info? te = some j) (hsz : j.size ≠ 0)
    {b : Nat} (hb : CellsAt w b) (hks : ∀ c, c ∈ ks → CellsAt w c) (hn : b ∉ ks) :
    ∃ w', (Instr.mapUpdate tm (.map (some mb)) (ptr b) (.int .i64 (ks.length : Int))).run P w = .ok () w' ∧ PMap w' mb (ks ++ [b]) ∧ Kept (fun k => k = mb) w w' ∧ w'.heap.size = w.heap.size := by
  obtain ⟨es, clock, hmb, hl, hE⟩ := h
  have hmem := PMap.mem hl hE
  have h1 := findKey_ask (P := P) (w := w) hp b es.toList (fun e he => let ⟨c, hc, _⟩ := hmem e he; ⟨c, hc⟩)
  have h2 := ask_none (P := P) (w := w) hp hte hsz hb es.toList 0 (fun e he => let ⟨c, hc, hcm⟩ := hmem e he; ⟨c, hc, fun e => hn (e ▸ hcm), hks c hcm⟩)
  rw [h2] at h1
  have hlt : mb < w.heap.size := (Array.getElem?_eq_some_iff.1 hmb).1
  refine ⟨{ w with heap := w.heap.setIfInBounds mb (.map (es.push { key := ptr b, val := .int .i64 (ks.length : Int), born := clock }) (clock + 1)) }, ?_, ?_, ?_, by simp⟩
  · simp [Instr.mapUpdate, run_underlying hm, MapKept.run_getObj_map hmb, checkKey_ptr hp _ 9999, h1, MapKept.run_setObj_map _ hmb]
  · refine ⟨es.push { key := ptr b, val := .int .i64 (ks.length : Int), born := clock }, clock + 1, (by simp [hlt]), by simpa using hl, fun i hi => ?_⟩
    by_cases e : i < ks.length
    · obtain ⟨en, h3, h4, h5⟩ := hE i e
      refine ⟨en, ?_, ?_, h5⟩
      · rw [Array.toList_push, List.getElem?_append_left (by omega)]; exact h3
      · rw [h4, getElem!_pos ks i e, getElem!_pos (ks ++ [b]) i hi, List.getElem_append_left e]
    · have ei : i = ks.length := by simp at hi; omega
      subst ei
      refine ⟨_, by rw [Array.toList_push, List.getElem?_append_right (by omega), hl]; simp; rfl, ?_, rfl⟩
      rw [getElem!_pos (ks ++ [b]) _ hi]
      simp
  · refine ⟨rfl, rfl, rfl, by simp, fun k hk hn => ?_⟩
    simp [Ne.symm hn]
end

end Go.Proofs.Ythjddpkegooobaa
