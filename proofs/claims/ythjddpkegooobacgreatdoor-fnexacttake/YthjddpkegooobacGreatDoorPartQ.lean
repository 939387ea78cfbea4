import Derived.Laws.BytesArg
import Derived.Deep.QuietTactic
import Derived.BigQuiet
import Derived.WalkSmall
import Derived.Test.YthjddpkegooobacGreatDoorPartP

/-
  MARKTEXT: the laws' text of a number. Own work.
-/
namespace Go.Proofs.YthjddpkegooobacGreatDoor
open Go.RowKit

/-- the digits that are still to come, ahead of those that are there -/
def mtLoop : Nat → Nat → ByteArray → ByteArray
  | 0, _, s => s
  | f + 1, j, s => if j = 0 then s else mtLoop f (j / 10) (strOfNums [48 + (j : Int) % 10] ++ s)
/-- the text of a number -/
def mt (k : Nat) : ByteArray := ⟨#[109]⟩ ++ mtLoop (k + 1) k ⟨#[]⟩

set_option maxRecDepth 100000 in
theorem mtLoop_zero (f : Nat) (s : ByteArray) : mtLoop f 0 s = s := by cases f <;> simp [mtLoop]
theorem mtLoop_step {f j : Nat} (s : ByteArray) (hj : j ≠ 0) (hf : j < f) : mtLoop f j s = mtLoop (f - 1) (j / 10) (strOfNums [48 + (j : Int) % 10] ++ s) := by
  cases f with
  | zero => omega
  | succ f => simp [mtLoop, hj]
set_option maxRecDepth 100000 in
theorem digit_size (x : Int) : (strOfNums [x]).size = 1 := rfl

set_option maxRecDepth 100000 in
theorem markText_any (k : Nat) (w : World) (h0 : 0 < k) (hk : k ≤ 1099511627776) :
    Calls Tryz.prog 46 #[.int .i64 k] w fun e w' => e = .returned (.string (mt k)) ∧ Below w.heap.size w w' := by
  have hd : ¬ ((k : Int) ≤ 0) := by omega
  go_enter Tryz.func46, Tryz.ntmps46
  go_wp2
  go_loopw [0, 3] (fun i o ws => ∃ (j f : Nat) (s : ByteArray), i = .int .i64 j ∧ o = .string s ∧ j < f ∧ Hid (mtLoop f j s = mtLoop (k + 1) k ⟨#[]⟩) ∧ s.size + j ≤ k ∧ Below w.heap.size w ws) (fun i _ _ => (intOf i).toNat)
  case atStart => exact ⟨k, k + 1, ⟨#[]⟩, rfl, rfl, by omega, rfl, by show 0 + k ≤ k; omega, gre _⟩
  case round =>
    obtain ⟨j, f, s, rfl, rfl, hf, hm, hsz, hb⟩ := hrel
    by_cases hj : j = 0
    · subst hj
      have hd2 : ¬ ((0 : Int) < ((0 : Nat) : Int)) := by omega
      have hc : ¬ (9223372036854775807 < 1 + s.size) := by omega
      have hm2 : Hid (mt k = ⟨#[109]⟩ ++ s) := by have h1 := hm.out; rw [mtLoop_zero] at h1; show mt k = _; unfold mt; rw [← h1]
      go_wp2
      go_ret
      exact ⟨by rw [hm2.out]; rfl, hb⟩
    · have hd2 : (0 : Int) < (j : Int) := by omega
      obtain ⟨d, hdd⟩ : ∃ d, Hid (d = strOfNums [48 + (j : Int) % 10]) := ⟨_, rfl⟩
      have hds : d.size = 1 := by rw [hdd.out]; rfl
      have hconv : (convert 58 9 (.slice (some ⟨wr.heap.size, 0, none⟩) 1 1)).run Tryz.prog (wr.alloc (.cells #[.int .u8 (48 + (j : Int) % 10)] 5)) = .ok (.string d) (wr.alloc (.cells #[.int .u8 (48 + (j : Int) % 10)] 5)) := by
        rw [hdd.out]
        exact run_convert_bytes_arg _ 58 5 Tryz.underlying58 Tryz.underlying5 wr.heap.size 0 1 1 [48 + (j : Int) % 10] rfl (fun i hi => by have e : i = 0 := (by omega); subst e; simp) 9 Tryz.underlying9
      have hc : ¬ (9223372036854775807 < d.size + s.size) := by omega
      have hnext : Hid (mtLoop (f - 1) (j / 10) (d ++ s) = mtLoop (k + 1) k ⟨#[]⟩) := by rw [hdd.out, ← mtLoop_step s hj hf]; exact hm.out
      have hsz2 : (d ++ s).size + j / 10 ≤ k := by rw [ByteArray.size_append]; omega
      go_wp2
      go_roundw
      case rel => exact ⟨j / 10, f - 1, d ++ s, by go_num, rfl, by omega, hnext, hsz2, gal hb _⟩
      case measure => simp [intOf]; omega

end Go.Proofs.YthjddpkegooobacGreatDoor

/-
  MARKVALS: the laws' marks in a row of values. Own work.
-/
namespace Go.Proofs.YthjddpkegooobacGreatDoor
open Go.RowKit

/-- a block of cells that may be written -/
structure WRow (w : World) (b n : Nat) : Prop where
  lt : b < w.heap.size
  c : ∀ i, i < n → ∃ v, w.cell? ⟨b, i, none⟩ = some v
  f : ∀ o, w.frozen? ⟨b, o, none⟩ = false
set_option maxRecDepth 100000 in
theorem WRow.kept {p : Nat → Prop} {w w' : World} {b n : Nat} (h : WRow w b n) (k : Kept p w w') (hn : ¬ p b) : WRow w' b n :=
  ⟨Nat.lt_of_lt_of_le h.lt k.size, fun i hi => let ⟨v, hv⟩ := h.c i hi; ⟨v, k.cell hv hn⟩, fun o => (World.frozen?_of_block (w := w) (k.block b h.lt hn)).trans (h.f o)⟩
theorem WRow.set {w : World} {b n : Nat} (h : WRow w b n) (p : Addr) (u : Value) : WRow (w.setCell p u) b n :=
  ⟨by have := h.lt; simpa [World.setCell] using this, fun i hi => by
    obtain ⟨v, hv⟩ := h.c i hi
    by_cases e : p = ⟨b, i, none⟩
    · subst e; exact ⟨u, World.cell?_setCell_same _ _ _ hv⟩
    · exact ⟨v, (World.cell?_setCell_other _ _ _ _ (fun e2 => e e2)).trans hv⟩, fun o => by rw [World.frozen?_setCell]; exact h.f o⟩

/-- a marked value, and a row of them -/
def markV (k : Nat) : GV := ⟨(k : Int), (k : Int) + 1, mt (k + 2), (k : Int) + 1 + 1 + 1⟩
def markVs (k n : Nat) : List GV := (List.range n).map fun j => markV (k + 4 * j)

set_option maxRecDepth 100000 in
theorem ValAt.set_far {w : World} {b off : Nat} {v : GV} (h : ValAt w b off v) {o : Nat} (ho : o < off ∨ off + 4 ≤ o) (u : Value) : ValAt (w.setCell ⟨b, o, none⟩ u) b off v := by
  refine ⟨?_, ?_, ?_, ?_⟩
  · exact (World.cell?_setCell_other _ _ _ _ (by simp <;> omega)).trans h.kind
  · exact (World.cell?_setCell_other _ _ _ _ (by simp <;> omega)).trans h.num
  · exact (World.cell?_setCell_other _ _ _ _ (by simp <;> omega)).trans h.text
  · exact (World.cell?_setCell_other _ _ _ _ (by simp <;> omega)).trans h.node

set_option maxRecDepth 100000 in
/-- the world behind one value's marks -/
theorem mark_one {w w1 : World} {b o q : Nat} {n : Nat} (hr : WRow w b n) (ho : o + 4 ≤ n) (hb : Below ((w.setCell ⟨b, o, none⟩ (.int .i64 (q : Int))).setCell ⟨b, o + 1, none⟩ (.int .i64 ((q : Int) + 1))).heap.size ((w.setCell ⟨b, o, none⟩ (.int .i64 (q : Int))).setCell ⟨b, o + 1, none⟩ (.int .i64 ((q : Int) + 1))) w1) :
    ValAt ((w1.setCell ⟨b, o + 2, none⟩ (.string (mt (q + 2)))).setCell ⟨b, o + 3, none⟩ (.int .i64 ((q : Int) + 1 + 1 + 1))) b o (markV q) := by
  have hr2 := (hr.set ⟨b, o, none⟩ (.int .i64 (q : Int))).set ⟨b, o + 1, none⟩ (.int .i64 ((q : Int) + 1))
  have hr3 := hr2.kept (Kept.of_below hb (fun _ => False)) (fun e => e)
  obtain ⟨v0, c0⟩ := hr.c o (by omega)
  obtain ⟨v1, c1⟩ := (hr.set ⟨b, o, none⟩ (.int .i64 (q : Int))).c (o + 1) (by omega)
  obtain ⟨v2, c2⟩ := hr3.c (o + 2) (by omega)
  obtain ⟨v3, c3⟩ := (hr3.set ⟨b, o + 2, none⟩ (.string (mt (q + 2)))).c (o + 3) (by omega)
  refine ⟨?_, ?_, ?_, ?_⟩
  · refine (World.cell?_setCell_other _ _ _ _ (by simp)).trans ((World.cell?_setCell_other _ _ _ _ (by simp)).trans ?_)
    exact cell_later hb ((World.cell?_setCell_other _ _ _ _ (by simp)).trans (World.cell?_setCell_same _ _ _ c0))
  · refine (World.cell?_setCell_other _ _ _ _ (by simp)).trans ((World.cell?_setCell_other _ _ _ _ (by simp)).trans ?_)
    exact cell_later hb (World.cell?_setCell_same _ _ _ c1)
  · exact (World.cell?_setCell_other _ _ _ _ (by simp)).trans (World.cell?_setCell_same _ _ _ c2)
  · exact World.cell?_setCell_same _ _ _ c3

/-- what stands at the head of the round -/
structure MState (b n k : Nat) (w ws : World) (j : Nat) : Prop where
  kept : Kept (fun x => x = b) w ws
  row : WRow ws b (n * 4)
  done : ∀ i, i < j → ValAt ws b (i * 4) (markV (k + 4 * i))
set_option maxRecDepth 100000 in
theorem MState.step {b n k : Nat} {w ws w1 : World} {j q : Nat} (h : MState b n k w ws j) (hj : j < n) (hq : q = k + 4 * j) (hb : Below ((ws.setCell ⟨b, j * 4, none⟩ (.int .i64 (q : Int))).setCell ⟨b, j * 4 + 1, none⟩ (.int .i64 ((q : Int) + 1))).heap.size ((ws.setCell ⟨b, j * 4, none⟩ (.int .i64 (q : Int))).setCell ⟨b, j * 4 + 1, none⟩ (.int .i64 ((q : Int) + 1))) w1) :
    MState b n k w ((w1.setCell ⟨b, j * 4 + 2, none⟩ (.string (mt (q + 2)))).setCell ⟨b, j * 4 + 3, none⟩ (.int .i64 ((q : Int) + 1 + 1 + 1))) (j + 1) where
  kept := ((((h.kept.set (fun _ => rfl) _).set (fun _ => rfl) _).trans (Kept.of_below hb (fun _ => False)) (fun _ _ e => e.elim)).set (fun _ => rfl) _).set (fun _ => rfl) _
  row := ((((h.row.set _ _).set _ _).kept (Kept.of_below hb (fun _ => False)) (fun e => e)).set _ _).set _ _
  done := fun i hi => by
    by_cases e : i = j
    · subst e; subst hq; exact mark_one h.row (by omega) hb
    · have hlt := h.row.lt
      have h1 := ((h.done i (by omega)).set_far (o := j * 4) (by omega) (.int .i64 (q : Int))).set_far (o := j * 4 + 1) (by omega) (.int .i64 ((q : Int) + 1))
      have h2 := h1.below hb (by simpa [World.setCell] using hlt)
      exact (h2.set_far (by omega) _).set_far (by omega) _

set_option maxRecDepth 100000 in
theorem markValS_any (b n cap k : Nat) (w : World) (hk0 : 0 < k) (hk : k + 4 * n ≤ 1099511627776) (hr : WRow w b (n * 4)) :
    Calls Tryz.prog 85 #[.slice (some ⟨b, 0, none⟩) n cap, .int .i64 k] w fun e w' => e = .returned (.int .i64 ((k + 4 * n : Nat) : Int)) ∧ MState b n k w w' n := by
  go_enter Tryz.func85, Tryz.ntmps85
  go_wp2
  go_loopw [1, 5] (fun kk i ws => ∃ (j q : Nat), j ≤ n ∧ q = k + 4 * j ∧ kk = .int .i64 (q : Int) ∧ i = .int .i64 (j : Int) ∧ MState b n k w ws j) (fun _ i _ => n - (intOf i).toNat)
  case atStart => exact ⟨0, k, Nat.zero_le _, by omega, rfl, rfl, Kept.refl _ _, hr, fun i hi => absurd hi (Nat.not_lt_zero _)⟩
  case round =>
    obtain ⟨j, q, hj, hq, rfl, rfl, hD⟩ := hrel
    by_cases hlt : j < n
    · have i0 : (0 : Int) ≤ (j : Int) := by omega
      have i1 : (j : Int) < (n : Int) := by omega
      obtain ⟨v0, c0⟩ := hD.row.c (j * 4) (by omega)
      obtain ⟨v1, c1⟩ := (hD.row.set ⟨b, j * 4, none⟩ (.int .i64 (q : Int))).c (j * 4 + 1) (by omega)
      have hf := hD.row.f
      have hqq : q + 4 ≤ 1099511627776 := by omega
      have hq' : Hid _ := hq
      clear hq
      have hs2 := (hD.row.set ⟨b, j * 4, none⟩ (.int .i64 (q : Int))).set ⟨b, j * 4 + 1, none⟩ (.int .i64 ((q : Int) + 1))
      go_wp2_with (go_at_call 46; rw [show ((q : Int) + 1 + 1) = ((q + 2 : Nat) : Int) by omega]; refine (markText_any (q + 2) _ (by omega) (by omega)).mono ?_; rintro e w1 ⟨rfl, hb1⟩; rw [← show ((q : Int) + 1 + 1) = ((q + 2 : Nat) : Int) by omega]; have hs3 := hs2.kept (Kept.of_below hb1 (fun _ => False)) (fun e => e); obtain ⟨v2, c2⟩ := hs3.c (j * 4 + 2) (by omega); obtain ⟨v3, c3⟩ := (hs3.set ⟨b, j * 4 + 2, none⟩ (.string (mt (q + 2)))).c (j * 4 + 3) (by omega); have hf3 := hs3.f)
      have hfin := hD.step hlt hq'.out hb1
      go_roundw
      case rel => exact ⟨j + 1, q + 4, by omega, by have := hq'.out; omega, by go_num, by go_num, hfin⟩
      case measure => simp [intOf]; omega
    · have e : j = n := by omega
      subst e
      go_wp2
      go_ret
      exact ⟨by rw [← hq]; rfl, hD⟩

set_option maxRecDepth 100000 in
/-- the row as a list of values -/
theorem MState.at_ {b n k : Nat} {w ws : World} (h : MState b n k w ws n) {B : Nat} (hB : b < B) : ValsAt B ws (some ⟨b, 0, none⟩) (markVs k n) := fun i hi => by
  have hi' : i < n := by simpa [markVs] using hi
  refine ⟨b, 0, rfl, hB, ?_⟩
  have e : (markVs k n)[i]! = markV (k + 4 * i) := by rw [getElem!_pos _ i hi]; simp [markVs]
  rw [e, Nat.zero_add]
  exact h.done i hi'
set_option maxRecDepth 100000 in
theorem markVs_length (k n : Nat) : (markVs k n).length = n := by simp [markVs]

end Go.Proofs.YthjddpkegooobacGreatDoor

/-
  MARKPLAIN: marked graphs, and graphs that may be marked. Own work.
-/
namespace Go.Proofs.YthjddpkegooobacGreatDoor
open Go.RowKit

/-- the mark behind all of these nodes -/
def mEnd (k : Nat) : List GN → Nat
  | [] => k
  | n :: r => mEnd (k + 1 + 4 * n.vals.length) r
/-- these nodes, marked -/
def markNs (k : Nat) : List GN → List GN
  | [] => []
  | n :: r => ⟨(k : Int), markVs (k + 1) n.vals.length⟩ :: markNs (k + 1 + 4 * n.vals.length) r

theorem mEnd_snoc (l : List GN) (n : GN) : ∀ k, mEnd k (l ++ [n]) = mEnd k l + 1 + 4 * n.vals.length := by
  induction l with
  | nil => intro k; rfl
  | cons x r ih => intro k; simp only [List.cons_append, mEnd, ih]
theorem mEnd_le (l : List GN) : ∀ k, k ≤ mEnd k l := by
  induction l with
  | nil => intro k; exact Nat.le_refl _
  | cons x r ih => intro k; have := ih (k + 1 + 4 * x.vals.length); simp only [mEnd]; omega
theorem mEnd_append (l r : List GN) : ∀ k, mEnd k (l ++ r) = mEnd (mEnd k l) r := by
  induction l with
  | nil => intro k; rfl
  | cons x t ih => intro k; simp only [List.cons_append, mEnd, ih]
theorem mEnd_take_succ (l : List GN) (k j : Nat) (h : j < l.length) : mEnd k (l.take (j + 1)) = mEnd k (l.take j) + 1 + 4 * l[j]!.vals.length := by
  rw [take_snoc l j h, mEnd_snoc]
theorem mEnd_take_le (l : List GN) (k j : Nat) : mEnd k (l.take j) ≤ mEnd k l := by
  conv => rhs; rw [← List.take_append_drop j l, mEnd_append]
  exact mEnd_le _ _
theorem mEnd_sz (l : List GN) : ∀ k, (mEnd k l : Int) ≤ k + 4 * (l.length + szNodes l) := by
  induction l with
  | nil => intro k; simp [mEnd, szNodes]
  | cons x r ih =>
    intro k
    have h1 := ih (k + 1 + 4 * x.vals.length)
    have h2 := szVals_nonneg x.vals
    simp only [mEnd, szNodes, GN.sz, List.length_cons]
    omega
theorem markNs_length (l : List GN) : ∀ k, (markNs k l).length = l.length := by
  induction l with
  | nil => intro k; rfl
  | cons x r ih => intro k; simp only [markNs, List.length_cons, ih]
theorem markNs_at (l : List GN) : ∀ (k j : Nat), j < l.length → (markNs k l)[j]! = ⟨((mEnd k (l.take j) : Nat) : Int), markVs (mEnd k (l.take j) + 1) l[j]!.vals.length⟩ := by
  induction l with
  | nil => intro k j h; exact absurd h (Nat.not_lt_zero _)
  | cons x r ih =>
    intro k j h
    cases j with
    | zero => simp [markNs, mEnd]
    | succ j =>
      have h1 := ih (k + 1 + 4 * x.vals.length) j (by simpa using h)
      simpa [markNs, mEnd] using h1

/-- a graph whose nodes and values may be written, each list in a row of its own -/
structure MG (w : World) (na : Option Addr) (ns : List GN) (va : Nat → Option Addr) (vc : Nat → Nat) : Prop where
  nodes : 0 < ns.length → ∃ g, na = some ⟨g, 0, none⟩ ∧ WRow w g (ns.length * 2)
  sl : ∀ g, na = some ⟨g, 0, none⟩ → ∀ i, i < ns.length → w.cell? ⟨g, i * 2 + 1, none⟩ = some (.slice (va i) ns[i]!.vals.length (vc i))
  vals : ∀ i, i < ns.length → 0 < ns[i]!.vals.length → ∃ b, va i = some ⟨b, 0, none⟩ ∧ WRow w b (ns[i]!.vals.length * 4)
  apn : ∀ i, i < ns.length → Far (va i) na
  apv : ∀ i j, i < j → j < ns.length → Far (va i) (va j)

theorem MG.far {w : World} {na : Option Addr} {ns : List GN} {va : Nat → Option Addr} {vc : Nat → Nat} (h : MG w na ns va vc) {i j : Nat} (hi : i < ns.length) (hj : j < ns.length) (hij : i ≠ j) : Far (va i) (va j) := by
  rcases Nat.lt_or_gt_of_ne hij with e | e
  · exact h.apv i j e hj
  · exact (h.apv j i e hi).symm

theorem owns_wrow {w : World} {base t size n cap : Nat} {a : Option Addr} {xs : List Value} (ho : w.ownsRow base t size (.slice a n cap) n xs) (hn : 0 < n) : ∃ b, a = some ⟨b, 0, none⟩ ∧ WRow w b (n * size) := by
  rcases ho.2 with ⟨_, h0⟩ | ⟨g, cap', cur, hv, hb, hg, hc1, hc2, hc3, _⟩
  · omega
  · simp only [Value.slice.injEq] at hv
    obtain ⟨rfl, _, rfl⟩ := hv
    have hsz : n * size ≤ cur.size := by rw [hc3]; exact Nat.mul_le_mul_right _ hc1
    refine ⟨g, rfl, (Array.getElem?_eq_some_iff.1 hg).1, fun i hi => ⟨cur[i]'(by omega), ?_⟩, fun o => ?_⟩
    · simp [World.cell?, hg, show i < cur.size by omega]
    · simp [World.frozen?, hg]

theorem OwnG.mg {w : World} {base : Nat} {na : Option Addr} {nc : Nat} {nl : List NL} (h : OwnG w base na nc nl) : MG w na (nl.map (·.n)) (fun i => nl[i]!.a) (fun i => nl[i]!.cap) := by
  have hlen : (nl.map (·.n)).length = nl.length := by simp
  have e : ∀ i, i < nl.length → (nl.map (·.n))[i]! = (nl[i]!).n := fun i hi => by rw [getElem!_pos _ i (by simpa using hi), getElem!_pos nl i hi]; simp
  refine ⟨fun hn => ?_, fun g hg i hi => ?_, fun i hi hv => ?_, fun i hi => ?_, fun i j hij hj => ?_⟩
  · rw [hlen] at hn ⊢; exact owns_wrow h.nodes hn
  · have hi' : i < nl.length := by omega
    obtain ⟨g1, ha, _, _, c1⟩ := owns_cell h.nodes ((flatMap_get NL.two_length nl i 1 hi' (by decide)).trans rfl)
    rw [hg] at ha
    obtain rfl := some_addr ha
    rw [e i hi', c1]
  · have hi' : i < nl.length := by omega
    rw [e i hi'] at hv ⊢
    exact owns_wrow (h.vals _ (mem_at hi')) hv
  · exact h.apn _ (mem_at (by omega))
  · exact h.apv i j hij (by omega)

theorem OwnNodes.mg {w : World} {N : Nat} {bs : Nat → Nat} {ns : List GN} (h : OwnNodes w N bs ns) : MG w (some ⟨N, 0, none⟩) ns (fun i => some ⟨bs i, 0, none⟩) (fun i => ns[i]!.vals.length) := by
  obtain ⟨f, hr, hn⟩ := h
  refine ⟨fun _ => ⟨N, rfl, hr.lt, fun i hi => ⟨_, hr.cell hi⟩, hr.frozen⟩, fun g hg i hi => ?_, fun i hi hv => ?_, fun i hi => ?_, fun i j hij hj => ?_⟩
  · obtain rfl := some_addr hg
    obtain ⟨h0, h1, _⟩ := hn i hi
    rw [← h1]; exact hr.cell (by omega)
  · obtain ⟨_, _, ⟨f2, hr2, _⟩, _⟩ := hn i hi
    exact ⟨bs i, rfl, hr2.lt, fun j hj => ⟨_, hr2.cell hj⟩, hr2.frozen⟩
  · intro b hb hx
    have e1 := some_addr hb
    have e2 := some_addr hx
    have := (hn i hi).2.2.2.1
    omega
  · intro b hb hx
    have e1 := some_addr hb
    have e2 := some_addr hx
    have := (hn j hj).2.2.2.2 i hij
    omega

theorem ValsAt.kept {p : Nat → Prop} {w w' : World} {B B' : Nat} {a : Option Addr} {vs : List GV} (h : ValsAt B w a vs) (k : Kept p w w') (hB : B ≤ w.heap.size) (hB' : B ≤ B') (hn : ∀ b off, a = some ⟨b, off, none⟩ → ¬ p b) : ValsAt B' w' a vs := fun i hi => by
  obtain ⟨b, off, ha, hb, hv⟩ := h i hi
  exact ⟨b, off, ha, by omega, hv.same (k.block b (by omega) (hn b off ha))⟩

/-- what stands at the head of the round -/
structure NM (w ws : World) (na : Option Addr) (ns : List GN) (va : Nat → Option Addr) (vc : Nat → Nat) (k j : Nat) : Prop where
  kept : Kept (fun b => na = some ⟨b, 0, none⟩ ∨ ∃ i, i < ns.length ∧ va i = some ⟨b, 0, none⟩) w ws
  mg : MG ws na ns va vc
  tags : ∀ g, na = some ⟨g, 0, none⟩ → ∀ i, i < j → ws.cell? ⟨g, i * 2, none⟩ = some (.int .i64 (mEnd k (ns.take i) : Nat))
  vals : ∀ i, i < j → ValsAt ws.heap.size ws (va i) (markVs (mEnd k (ns.take i) + 1) ns[i]!.vals.length)

theorem NM.step {w ws w2 : World} {na : Option Addr} {ns : List GN} {va : Nat → Option Addr} {vc : Nat → Nat} {k j g : Nat} (h : NM w ws na ns va vc k j) (hj : j < ns.length) (hg : na = some ⟨g, 0, none⟩)
    (hK : Kept (fun x => va j = some ⟨x, 0, none⟩) (ws.setCell ⟨g, j * 2, none⟩ (.int .i64 (mEnd k (ns.take j) : Nat))) w2) (hw : 0 < ns[j]!.vals.length → ∃ b, va j = some ⟨b, 0, none⟩ ∧ WRow w2 b (ns[j]!.vals.length * 4))
    (hv : ValsAt w2.heap.size w2 (va j) (markVs (mEnd k (ns.take j) + 1) ns[j]!.vals.length)) : NM w w2 na ns va vc k (j + 1) := by
  have hS := (Kept.refl (fun b => b = g) ws).set (a := ⟨g, j * 2, none⟩) (fun _ => rfl) (.int .i64 (mEnd k (ns.take j) : Nat))
  have hsz : (ws.setCell ⟨g, j * 2, none⟩ (.int .i64 (mEnd k (ns.take j) : Nat))).heap.size = ws.heap.size := by simp [World.setCell]
  have hK2 : Kept (fun b => b = g ∨ va j = some ⟨b, 0, none⟩) ws w2 := (hS.mono (fun _ _ e => Or.inl e)).trans hK (fun _ _ e => Or.inr e)
  have hgj : ¬ va j = some ⟨g, 0, none⟩ := fun e => h.mg.apn j hj g e hg
  obtain ⟨g', hg', hwr⟩ := h.mg.nodes (by omega)
  rw [hg] at hg'
  obtain rfl := some_addr hg'
  refine ⟨h.kept.trans hK2 (fun b _ hp => ?_), ⟨fun _ => ⟨g, hg, (hwr.set _ _).kept hK hgj⟩, fun g1 hg1 i hi => ?_, fun i hi hl => ?_, h.mg.apn, h.mg.apv⟩, fun g1 hg1 i hi => ?_, fun i hi => ?_⟩
  · rcases hp with e | e
    · exact Or.inl (by rw [hg, e])
    · exact Or.inr ⟨j, hj, e⟩
  · rw [hg] at hg1
    obtain rfl := some_addr hg1
    refine hK.cell ?_ hgj
    rw [World.cell?_setCell_other _ _ _ _ (by simp <;> omega)]
    exact h.mg.sl g hg i hi
  · by_cases e : i = j
    · subst e; exact hw hl
    · obtain ⟨b, hb, hr⟩ := h.mg.vals i hi hl
      exact ⟨b, hb, hr.kept hK2 (fun hp => hp.elim (fun e2 => h.mg.apn i hi b hb (by rw [e2, hg])) (fun e2 => h.mg.far hi hj e b hb e2))⟩
  · rw [hg] at hg1
    obtain rfl := some_addr hg1
    refine hK.cell ?_ hgj
    by_cases e : i = j
    · subst e
      obtain ⟨v, hv⟩ := hwr.c (i * 2) (by omega)
      exact World.cell?_setCell_same _ _ _ hv
    · rw [World.cell?_setCell_other _ _ _ _ (by simp <;> omega)]
      exact h.tags g hg i (by omega)
  · by_cases e : i = j
    · subst e; exact hv
    · have hi' : i < ns.length := by omega
      by_cases hl : 0 < ns[i]!.vals.length
      · obtain ⟨b, hb, hr⟩ := h.mg.vals i hi' hl
        refine (h.vals i (by omega)).kept hK2 (Nat.le_refl _) hK2.size (fun b2 off hb2 hp => ?_)
        rw [hb] at hb2
        simp at hb2
        obtain ⟨rfl, _⟩ := hb2
        exact hp.elim (fun e2 => h.mg.apn i hi' b hb (by rw [e2, hg])) (fun e2 => h.mg.far hi' hj e b hb e2)
      · intro x hx
        rw [markVs_length] at hx
        omega

/-- all marked -/
theorem NM.at_ {w ws : World} {na : Option Addr} {ns : List GN} {va : Nat → Option Addr} {vc : Nat → Nat} {k : Nat} (h : NM w ws na ns va vc k ns.length) : NodesAt ws.heap.size ws na (markNs k ns) := fun i hi => by
  rw [markNs_length] at hi
  obtain ⟨g, hg, hwr⟩ := h.mg.nodes (by omega)
  refine ⟨g, 0, va i, vc i, hg, hwr.lt, ?_⟩
  rw [markNs_at ns k i hi, Nat.zero_add]
  refine ⟨h.tags g hg i hi, ?_, h.vals i hi⟩
  simp only [markVs_length]
  exact h.mg.sl g hg i hi

end Go.Proofs.YthjddpkegooobacGreatDoor

/-
  MARKNODES: the laws' marks in a graph, and their look at them. Own work.
-/
namespace Go.Proofs.YthjddpkegooobacGreatDoor
open Go.RowKit

set_option maxRecDepth 100000 in
theorem markValS_none (a : Option Addr) (cap k : Nat) (w : World) :
    Calls Tryz.prog 85 #[.slice a 0 cap, .int .i64 k] w fun e w' => e = .returned (.int .i64 (k : Int)) ∧ Below w.heap.size w w' := by
  go_enter Tryz.func85, Tryz.ntmps85
  go_wp2
  go_loopw [1, 5] (fun kk i ws => kk = .int .i64 (k : Int) ∧ i = .int .i64 0 ∧ Below w.heap.size w ws) (fun _ _ _ => 0)
  case atStart => exact ⟨rfl, rfl, gre _⟩
  case round =>
    obtain ⟨rfl, rfl, hb⟩ := hrel
    go_wp2
    go_ret
    exact ⟨rfl, hb⟩

set_option maxRecDepth 100000 in
/-- marking any row of values of a graph -/
theorem markValS_row (a : Option Addr) (n cap k : Nat) (w : World) (hk0 : 0 < k) (hk : k + 4 * n ≤ 1099511627776) (hr : 0 < n → ∃ b, a = some ⟨b, 0, none⟩ ∧ WRow w b (n * 4)) :
    Calls Tryz.prog 85 #[.slice a n cap, .int .i64 k] w fun e w' => e = .returned (.int .i64 ((k + 4 * n : Nat) : Int)) ∧ Kept (fun x => a = some ⟨x, 0, none⟩) w w' ∧ (0 < n → ∃ b, a = some ⟨b, 0, none⟩ ∧ WRow w' b (n * 4)) ∧ ValsAt w'.heap.size w' a (markVs k n) := by
  by_cases hn : 0 < n
  · obtain ⟨b, rfl, hw⟩ := hr hn
    refine (markValS_any b n cap k w hk0 hk hw).mono ?_
    rintro e w' ⟨rfl, h⟩
    exact ⟨rfl, h.kept.mono (fun x _ hx => by rw [hx]), fun _ => ⟨b, rfl, h.row⟩, h.at_ h.row.lt⟩
  · obtain rfl : n = 0 := by omega
    refine (markValS_none a cap k w).mono ?_
    rintro e w' ⟨rfl, hb⟩
    exact ⟨rfl, Kept.of_below hb _, fun h => absurd h (Nat.lt_irrefl _), fun i hi => absurd hi (by rw [markVs_length]; omega)⟩

set_option maxRecDepth 100000 in
theorem markNodeS_any (na : Option Addr) (nc : Nat) (ns : List GN) (va : Nat → Option Addr) (vc : Nat → Nat) (k : Nat) (w : World) (_hk0 : 0 < k) (hk : mEnd k ns ≤ 1099511627776) (hl : ns.length ≤ maxLen) (h : MG w na ns va vc) :
    Calls Tryz.prog 47 #[.slice na ns.length nc, .int .i64 k] w fun e w' => e = .returned (.int .i64 (mEnd k ns : Nat)) ∧ NM w w' na ns va vc k ns.length := by
  unfold maxLen at hl
  go_enter Tryz.func47, Tryz.ntmps47
  go_wp2
  go_loopw [1, 5] (fun kk i ws => ∃ (j q : Nat), j ≤ ns.length ∧ q = mEnd k (ns.take j) ∧ kk = .int .i64 (q : Int) ∧ i = .int .i64 (j : Int) ∧ NM w ws na ns va vc k j) (fun _ i _ => ns.length - (intOf i).toNat)
  case atStart => exact ⟨0, k, Nat.zero_le _, rfl, rfl, rfl, Kept.refl _ _, h, fun _ _ i hi => absurd hi (Nat.not_lt_zero _), fun i hi => absurd hi (Nat.not_lt_zero _)⟩
  case round =>
    obtain ⟨j, q, hj, hq, rfl, rfl, hD⟩ := hrel
    by_cases hlt : j < ns.length
    · have i0 : (0 : Int) ≤ (j : Int) := by omega
      have i1 : (j : Int) < (ns.length : Int) := by omega
      obtain ⟨g, rfl, hwr⟩ := hD.mg.nodes (by omega)
      obtain ⟨v0, c0⟩ := hwr.c (j * 2) (by omega)
      have c1 := hD.mg.sl g rfl j hlt
      have c1' := (World.cell?_setCell_other wr ⟨g, j * 2, none⟩ ⟨g, j * 2 + 1, none⟩ (.int .i64 (q : Int)) (by simp)).trans c1
      have hf := hwr.f
      have h1 := mEnd_take_le ns k (j + 1)
      have h2 := mEnd_take_succ ns k j hlt
      have h3 := mEnd_le (ns.take j) k
      have hqq : q + 1 + 4 * ns[j]!.vals.length ≤ 1099511627776 := by omega
      have hq0 : k ≤ q := by omega
      have hvr : 0 < ns[j]!.vals.length → ∃ b, va j = some ⟨b, 0, none⟩ ∧ WRow (wr.setCell ⟨g, j * 2, none⟩ (.int .i64 (q : Int))) b (ns[j]!.vals.length * 4) := fun hl => by
        obtain ⟨b, hb, hr⟩ := hD.mg.vals j hlt hl
        exact ⟨b, hb, hr.set _ _⟩
      obtain ⟨n, hn⟩ : ∃ n, Hid (n = ns[j]!.vals.length) := ⟨_, rfl⟩
      rw [← hn.out] at c1 c1' hqq hvr
      have hq' : Hid _ := hq
      have h2' : Hid _ := h2
      clear h1 h2 h3 c1 hq
      go_wp2_with (go_at_call 85; rw [show ((q : Int) + 1) = ((q + 1 : Nat) : Int) by omega]; refine (markValS_row (va j) n (vc j) (q + 1) _ (by omega) (by omega) hvr).mono ?_; rintro e w2 ⟨rfl, hK2, hw2, hv2⟩)
      have hfin := hD.step hlt rfl (by rw [← hq'.out]; exact hK2) (by rw [← hn.out]; exact hw2) (by rw [← hq'.out, ← hn.out]; exact hv2)
      have hqe : Hid (q + 1 + 4 * n = mEnd k (ns.take (j + 1))) := by have h9 := h2'.out; have h8 := hq'.out; have h7 := hn.out; show _ = _; omega
      refine ⟨⟨j + 1, q + 1 + 4 * n, by omega, hqe.out, by go_num, by go_num, hfin⟩, ?_⟩
      simp [intOf]; omega
    · have e : j = ns.length := by omega
      subst e
      rw [List.take_length] at hq
      subst hq
      go_wp2
      go_ret
      exact ⟨rfl, hD⟩

set_option maxRecDepth 100000 in
theorem MG.kept {p : Nat → Prop} {w w' : World} {na : Option Addr} {ns : List GN} {va : Nat → Option Addr} {vc : Nat → Nat} (h : MG w na ns va vc) (k : Kept p w w') (hn : ∀ b, na = some ⟨b, 0, none⟩ → ¬ p b) (hv : ∀ i, i < ns.length → ∀ b, va i = some ⟨b, 0, none⟩ → ¬ p b) : MG w' na ns va vc :=
  ⟨fun h0 => let ⟨g, hg, hr⟩ := h.nodes h0; ⟨g, hg, hr.kept k (hn g hg)⟩, fun g hg i hi => k.cell (h.sl g hg i hi) (hn g hg), fun i hi h0 => let ⟨b, hb, hr⟩ := h.vals i hi h0; ⟨b, hb, hr.kept k (hv i hi b hb)⟩, h.apn, h.apv⟩
theorem MG.grow {w w' : World} {na : Option Addr} {ns : List GN} {va : Nat → Option Addr} {vc : Nat → Nat} (h : MG w na ns va vc) (hb : Below w.heap.size w w') : MG w' na ns va vc := h.kept (Kept.of_below hb (fun _ => False)) (fun _ _ e => e) (fun _ _ _ _ e => e)

/-- the blocks that a graph's marks touch -/
def Touch (na : Option Addr) (n : Nat) (va : Nat → Option Addr) (b : Nat) : Prop := na = some ⟨b, 0, none⟩ ∨ ∃ i, i < n ∧ va i = some ⟨b, 0, none⟩

set_option maxRecDepth 100000 in
theorem markGraph_any (g : GG) (na : Option Addr) (nc : Nat) (va : Nat → Option Addr) (vc : Nat → Nat) (k : Nat) (w : World) (hk0 : 0 < k) (hk : mEnd k g.nodes ≤ 1099511627776) (hl : g.nodes.length ≤ maxLen) (h : MG w na g.nodes va vc) :
    Calls Tryz.prog 37 #[g.val na nc, .int .i64 k] w fun e w' => e = .returned (.int .i64 (mEnd k g.nodes : Nat)) ∧ Kept (Touch na g.nodes.length va) w w' ∧ NodesAt w'.heap.size w' na (markNs k g.nodes) := by
  go_enter Tryz.func37, Tryz.ntmps37
  go_wp2_with (go_at_call 47; refine (markNodeS_any na nc g.nodes va vc k _ hk0 hk hl (h.grow (gal (gre _) _))).mono ?_; rintro e w' ⟨rfl, hN⟩)
  go_ret
  exact ⟨rfl, (Kept.of_below (gal (gre w) _) _).trans hN.kept (fun _ _ hp => hp), hN.at_⟩

end Go.Proofs.YthjddpkegooobacGreatDoor

/-
  HELDVALS: the laws' look at the marks in a row of values. Own work.
-/
namespace Go.Proofs.YthjddpkegooobacGreatDoor
open Go.RowKit

set_option maxRecDepth 100000 in
theorem heldValS_any (a : Option Addr) (n cap k : Nat) (w : World) (hk0 : 0 < k) (hk : k + 4 * n ≤ 1099511627776) (ha : ValsAt w.heap.size w a (markVs k n)) :
    Calls Tryz.prog 86 #[.slice a n cap, .int .i64 k] w fun e w' => e = .returned (.int .i64 ((k + 4 * n : Nat) : Int)) ∧ Below w.heap.size w w' := by
  go_enter Tryz.func86, Tryz.ntmps86
  go_wp2
  go_loopw [1, 5] (fun kk i ws => ∃ (j q : Nat), j ≤ n ∧ q = k + 4 * j ∧ kk = .int .i64 (q : Int) ∧ i = .int .i64 (j : Int) ∧ Below w.heap.size w ws) (fun _ i _ => n - (intOf i).toNat)
  case atStart => exact ⟨0, k, Nat.zero_le _, by omega, rfl, rfl, gre _⟩
  case round =>
    obtain ⟨j, q, hj, hq, rfl, rfl, hb⟩ := hrel
    by_cases hlt : j < n
    · have i0 : (0 : Int) ≤ (j : Int) := by omega
      have i1 : (j : Int) < (n : Int) := by omega
      obtain ⟨v, b, off, hvk, _, rfl, hbs, hva⟩ := ha.get (by rw [markVs_length]; exact hlt)
      have hv : v = markV q := by rw [hvk.out, getElem!_pos _ j (by rw [markVs_length]; exact hlt), hq]; simp [markVs]
      subst hv
      have hva := hva.below hb hbs
      have c0 : wr.cell? ⟨b, off + j * 4, none⟩ = some (.int .i64 (q : Int)) := hva.kind
      have c1 : wr.cell? ⟨b, off + j * 4 + 1, none⟩ = some (.int .i64 ((q : Int) + 1)) := hva.num
      have c2 : wr.cell? ⟨b, off + j * 4 + 2, none⟩ = some (.string (mt (q + 2))) := hva.text
      have c3 : wr.cell? ⟨b, off + j * 4 + 3, none⟩ = some (.int .i64 ((q : Int) + 1 + 1 + 1)) := hva.node
      have hqq : q + 4 ≤ 1099511627776 := by omega
      have hq' : Hid _ := hq
      clear hq ha hvk hva
      go_wp2
      refine wp_regionU (fun u => u.cell? ⟨b, off + j * 4 + 2, none⟩ = some (.string (mt (q + 2)))) 99 (by kernel_rfl) c2 (fun hS0 => ?_)
      refine anyU_take (i := 0) (v := ?_) rfl (by kernel_rfl) (by kernel_rfl) (by kernel_rfl) (by kernel_rfl) (fun _ _ _ h => h) (Or.inl ⟨by rfl, ?_⟩) hS0 ?_
      rotate_left
      · intro u hSu; (try dsimp only at hSu); go_simp <;> with_reducible rfl
      simp only [Act.put, List.getElem_toArray, List.getElem_cons_zero, List.setIfInBounds_toArray, List.set_cons_zero, List.set_cons_succ]
      refine anyU_take (i := 1) (v := ?_) rfl (by kernel_rfl) (by kernel_rfl) (by kernel_rfl) (by kernel_rfl) (fun _ _ _ h => h) (Or.inl ⟨by rfl, ?_⟩) hS0 ?_
      rotate_left
      · intro u hSu; (try dsimp only at hSu); go_simp <;> with_reducible rfl
      simp only [Act.put, List.getElem_toArray, List.getElem_cons_zero, List.getElem_cons_succ, List.setIfInBounds_toArray, List.set_cons_zero, List.set_cons_succ]
      refine anyU_take (i := 2) (v := ?_) rfl (by kernel_rfl) (by kernel_rfl) (by kernel_rfl) (by kernel_rfl) (fun _ _ _ h => h) (Or.inl ⟨by rfl, ?_⟩) hS0 ?_
      rotate_left
      · intro u hSu; (try dsimp only at hSu); go_simp <;> with_reducible rfl
      simp only [Act.put, List.getElem_toArray, List.getElem_cons_zero, List.getElem_cons_succ, List.setIfInBounds_toArray, List.set_cons_zero, List.set_cons_succ]
      refine anyU_take (i := 3) (v := ?_) rfl (by kernel_rfl) (by kernel_rfl) (by kernel_rfl) (by kernel_rfl) (fun _ _ _ h => h) (Or.inl ⟨by rfl, ?_⟩) hS0 ?_
      rotate_left
      · intro u hSu; (try dsimp only at hSu); go_simp <;> with_reducible rfl
      simp only [Act.put, List.getElem_toArray, List.getElem_cons_zero, List.getElem_cons_succ, List.setIfInBounds_toArray, List.set_cons_zero, List.set_cons_succ]
      refine anyU_take (i := 4) (v := ?_) rfl (by kernel_rfl) (by kernel_rfl) (by kernel_rfl) (by kernel_rfl) (fun _ _ _ h => h) (Or.inl ⟨by rfl, ?_⟩) hS0 ?_
      rotate_left
      · intro u hSu; (try dsimp only at hSu); go_simp <;> with_reducible rfl
      simp only [Act.put, List.getElem_toArray, List.getElem_cons_zero, List.getElem_cons_succ, List.setIfInBounds_toArray, List.set_cons_zero, List.set_cons_succ]
      refine anyU_take (i := 5) (v := ?_) rfl (by kernel_rfl) (by kernel_rfl) (by kernel_rfl) (by kernel_rfl) (fun _ _ _ h => h) (Or.inl ⟨by rfl, ?_⟩) hS0 ?_
      rotate_left
      · intro u hSu; (try dsimp only at hSu); go_simp <;> with_reducible rfl
      simp only [Act.put, List.getElem_toArray, List.getElem_cons_zero, List.getElem_cons_succ, List.setIfInBounds_toArray, List.set_cons_zero, List.set_cons_succ]
      refine anyU_one (i := 6) (by kernel_rfl) rfl (fun K hK => ?_)
      go_simp
      rw [show ((q : Int) + 1 + 1) = ((q + 2 : Nat) : Int) by omega]
      refine (markText_any (q + 2) _ (by omega) (by omega)).mono ?_
      rintro e w1 ⟨rfl, hb1⟩
      rw [← show ((q : Int) + 1 + 1) = ((q + 2 : Nat) : Int) by omega]
      have hb2 := gca (gdr hb) hb1
      have c3' := cell_later hb1 (show wr.drew.cell? _ = _ from c3)
      have hS1 := cell_later hb1 hS0
      refine hK.out _ _ hS1 ?_
      clear hK
      refine anyU_one (i := 7) (by kernel_rfl) rfl (fun K hK => ?_)
      go_simp
      refine hK.out _ _ hS1 ?_
      clear hK
      refine anyU_done (by kernel_rfl) ?_
      clear c0 c1 c2 c3 hS0
      go_wp2
      go_roundw
      case rel => exact ⟨j + 1, q + 4, by omega, by have := hq'.out; omega, by go_num, by go_num, hb2⟩
      case measure => simp [intOf]; omega
    · have e : j = n := by omega
      subst e
      go_wp2
      go_ret
      exact ⟨by rw [← hq]; rfl, hb⟩

end Go.Proofs.YthjddpkegooobacGreatDoor

/-
  MARKNODES: the laws' marks in a graph, and their look at them. Own work.
-/
namespace Go.Proofs.YthjddpkegooobacGreatDoor
open Go.RowKit

set_option maxRecDepth 100000 in
theorem heldNodeS_any (na : Option Addr) (nc : Nat) (ns : List GN) (k : Nat) (w : World) (hk0 : 0 < k) (hk : mEnd k ns ≤ 1099511627776) (hl : ns.length ≤ maxLen) (ha : NodesAt w.heap.size w na (markNs k ns)) :
    Calls Tryz.prog 49 #[.slice na ns.length nc, .int .i64 k] w fun e w' => e = .returned (.int .i64 (mEnd k ns : Nat)) ∧ Below w.heap.size w w' := by
  unfold maxLen at hl
  go_enter Tryz.func49, Tryz.ntmps49
  go_wp2
  go_loopw [1, 5] (fun kk i ws => ∃ (j q : Nat), j ≤ ns.length ∧ q = mEnd k (ns.take j) ∧ kk = .int .i64 (q : Int) ∧ i = .int .i64 (j : Int) ∧ Below w.heap.size w ws) (fun _ i _ => ns.length - (intOf i).toNat)
  case atStart => exact ⟨0, k, Nat.zero_le _, rfl, rfl, rfl, gre _⟩
  case round =>
    obtain ⟨j, q, hj, hq, rfl, rfl, hb⟩ := hrel
    by_cases hlt : j < ns.length
    · have i0 : (0 : Int) ≤ (j : Int) := by omega
      have i1 : (j : Int) < (ns.length : Int) := by omega
      obtain ⟨m, b, off, av, cv, hvk, _, rfl, hbs, hva⟩ := ha.get (by rw [markNs_length]; exact hlt)
      obtain ⟨n, hn⟩ : ∃ n, Hid (n = ns[j]!.vals.length) := ⟨_, rfl⟩
      have hm : m = ⟨(q : Int), markVs (q + 1) n⟩ := by rw [hvk.out, markNs_at ns k j hlt, hq, hn.out]
      subst hm
      have hva := hva.below hb hbs
      have c0 : wr.cell? ⟨b, off + j * 2, none⟩ = some (.int .i64 (q : Int)) := hva.tag
      have c1 : wr.cell? ⟨b, off + j * 2 + 1, none⟩ = some (.slice av n cv) := by have := hva.sl; rwa [markVs_length] at this
      have hv1 : ValsAt wr.heap.size wr av (markVs (q + 1) n) := hva.vals.mono hb.size
      have h1 := mEnd_take_le ns k (j + 1)
      have h2 := mEnd_take_succ ns k j hlt
      have h3 := mEnd_le (ns.take j) k
      have h4 := hn.out
      have hqq : q + 1 + 4 * n ≤ 1099511627776 := by omega
      have hq0 : k ≤ q := by omega
      have hqe : Hid (q + 1 + 4 * n = mEnd k (ns.take (j + 1))) := by show _ = _; omega
      clear h1 h2 h3 h4 hq ha hvk hva
      have hd : ¬ ((q : Int) + 1 + 4 * (n : Int) < 0) := by omega
      go_wp2_with (go_at_call 86; rw [show ((q : Int) + 1) = ((q + 1 : Nat) : Int) by omega]; refine (heldValS_any av n cv (q + 1) _ (by omega) (by omega) hv1).mono ?_; rintro e w2 ⟨rfl, hb2⟩)
      go_roundw
      case rel => exact ⟨j + 1, q + 1 + 4 * n, by omega, hqe.out, by go_num, by go_num, gca hb hb2⟩
      case measure => simp [intOf]; omega
    · have e : j = ns.length := by omega
      subst e
      rw [List.take_length] at hq
      subst hq
      go_wp2
      go_ret
      exact ⟨rfl, hb⟩

set_option maxRecDepth 100000 in
theorem heldGraph_any (g : GG) (na : Option Addr) (nc k : Nat) (w : World) (hk0 : 0 < k) (hk : mEnd k g.nodes ≤ 1099511627776) (hl : g.nodes.length ≤ maxLen) (ha : NodesAt w.heap.size w na (markNs k g.nodes)) :
    Calls Tryz.prog 38 #[g.val na nc, .int .i64 k] w fun e w' => e = .returned (.int .i64 (mEnd k g.nodes : Nat)) ∧ Below w.heap.size w w' := by
  have hd : ¬ (((mEnd k g.nodes : Nat) : Int) < 0) := by omega
  go_enter Tryz.func38, Tryz.ntmps38
  go_wp2_with (go_at_call 49; refine (heldNodeS_any na nc g.nodes k _ hk0 hk hl (ha.grow (gal (gre _) _))).mono ?_; rintro e w' ⟨rfl, hb⟩)
  go_ret
  exact ⟨rfl, gca (gal (gre _) _) hb⟩

end Go.Proofs.YthjddpkegooobacGreatDoor

/-
  DSZ: the laws' sizes of disks. Own work.
-/
namespace Go.Proofs.YthjddpkegooobacGreatDoor
open Go.RowKit

set_option maxRecDepth 100000 in
theorem szByteS_any (a : Option Addr) (n cap : Nat) (left : Int) (w : World) (hl : n ≤ maxLen) (h0 : 0 ≤ left) (h1 : left ≤ 1048576) :
    Calls Tryz.prog 50 #[.slice a n cap, .int .i64 left] w fun e w' => e = .returned (.int .i64 (leftBy left n)) ∧ Below w.heap.size w w' := by
  unfold maxLen at hl
  go_enter Tryz.func50, Tryz.ntmps50
  go_wp2
  all_goals go_ret
  · exact ⟨ret_int (leftBy_neg (by assumption)).symm, gre _⟩
  · exact ⟨ret_int (leftBy_pos (Int.not_lt.2 (by assumption))).symm, gre _⟩

set_option maxRecDepth 100000 in
theorem szByteSS_any (a : Option Addr) (cap : Nat) (vs : List (List Nat)) (left : Int) (w : World) (hl : vs.length ≤ maxLen) (hv : ∀ v, v ∈ vs → v.length ≤ maxLen) (h0 : 0 ≤ left) (h1 : left ≤ 1048576) (ha : BlksAt w a vs) :
    Calls Tryz.prog 23 #[.slice a vs.length cap, .int .i64 left] w fun e w' => e = .returned (.int .i64 (leftBy left (vs.length + szBs vs))) ∧ Below w.heap.size w w' := by
  unfold maxLen at hl
  have hsn := szBs_nonneg vs
  go_enter Tryz.func23, Tryz.ntmps23
  go_wp2
  · go_ret
    exact ⟨ret_int (leftBy_neg (by omega)).symm, gre _⟩
  go_loopw [1, 5] (fun l i wr => ∃ k : Nat, k ≤ vs.length ∧ i = .int .i64 k ∧ l = .int .i64 (left - vs.length - szBs (vs.take k)) ∧ 0 ≤ left - vs.length - szBs (vs.take k) ∧ Below w.heap.size w wr) (fun _ i _ => vs.length - (intOf i).toNat)
  case atStart => exact ⟨0, Nat.zero_le _, rfl, by simp [szBs], by simp [szBs]; omega, gre _⟩
  case round =>
    obtain ⟨k, hk, rfl, rfl, hpos, hb⟩ := hrel
    by_cases hlt : k < vs.length
    · obtain ⟨v, b, off, a', c', hvk, hvm, rfl, hc, hva⟩ := (ha.grow hb).get hlt
      have hstep : Hid (szBs (vs.take (k + 1)) = szBs (vs.take k) + v.length) := by rw [hvk.out]; exact szBs_take_succ vs k hlt
      have hle := szBs_take_le vs (k + 1)
      have hn0 := szBs_nonneg (vs.take k)
      go_wp2_with (go_at_call 50; refine (szByteS_any a' v.length c' _ _ (hv v hvm) (by omega) (by omega)).mono ?_; rintro e w' ⟨rfl, hb'⟩)
      · go_ret
        have hn := leftBy_of_neg (by assumption)
        have hs := hstep.out
        exact ⟨ret_int (leftBy_neg (by omega)).symm, gca hb hb'⟩
      · have hn := leftBy_of_nonneg (by assumption)
        have hs := hstep.out
        go_roundw
        case rel => exact ⟨k + 1, by omega, by go_num, by rw [hn.1, hs]; go_num, by omega, gca hb hb'⟩
        case measure => simp [intOf]; omega
    · go_wp2
      go_ret
      have e : k = vs.length := by omega
      subst e
      rw [List.take_length] at hpos
      exact ⟨ret_int (by rw [List.take_length, leftBy_pos (by omega)]; omega), hb⟩

set_option maxRecDepth 100000 in
theorem szWrite_any (x : DW) (a : Option Addr) (cap : Nat) (left : Int) (w : World) (hl : x.bytes.length ≤ maxLen) (h0 : 0 ≤ left) (h1 : left ≤ 1048576) :
    Calls Tryz.prog 51 #[x.val a cap, .int .i64 left] w fun e w' => e = .returned (.int .i64 (leftBy left x.bytes.length)) ∧ Below w.heap.size w w' := by
  go_enter Tryz.func51, Tryz.ntmps51
  go_wp2_with (go_at_call 50; refine (szByteS_any a x.bytes.length cap _ _ hl h0 h1).mono ?_; rintro e w' ⟨rfl, hb'⟩)
  · go_ret
    have hneg := leftBy_of_neg (by assumption)
    exact ⟨ret_int (leftBy_neg (by omega)).symm, gca (gal (gre _) _) hb'⟩
  · go_ret
    exact ⟨rfl, gca (gal (gre _) _) hb'⟩

set_option maxRecDepth 100000 in
theorem szWriteS_any (a : Option Addr) (cap : Nat) (vs : List DW) (left : Int) (w : World) (hl : vs.length ≤ maxLen) (hv : ∀ v, v ∈ vs → v.bytes.length ≤ maxLen) (h0 : 0 ≤ left) (h1 : left ≤ 1048576) (ha : WrsAt w a vs) :
    Calls Tryz.prog 24 #[.slice a vs.length cap, .int .i64 left] w fun e w' => e = .returned (.int .i64 (leftBy left (vs.length + szWs vs))) ∧ Below w.heap.size w w' := by
  unfold maxLen at hl
  have hsn := szWs_nonneg vs
  go_enter Tryz.func24, Tryz.ntmps24
  go_wp2
  · go_ret
    exact ⟨ret_int (leftBy_neg (by omega)).symm, gre _⟩
  go_loopw [1, 5] (fun l i wr => ∃ k : Nat, k ≤ vs.length ∧ i = .int .i64 k ∧ l = .int .i64 (left - vs.length - szWs (vs.take k)) ∧ 0 ≤ left - vs.length - szWs (vs.take k) ∧ Below w.heap.size w wr) (fun _ i _ => vs.length - (intOf i).toNat)
  case atStart => exact ⟨0, Nat.zero_le _, rfl, by simp [szWs], by simp [szWs]; omega, gre _⟩
  case round =>
    obtain ⟨k, hk, rfl, rfl, hpos, hb⟩ := hrel
    by_cases hlt : k < vs.length
    · obtain ⟨v, b, off, a', c', hvk, hvm, rfl, hc, hc2, hva⟩ := (ha.grow hb).get hlt
      have hstep : Hid (szWs (vs.take (k + 1)) = szWs (vs.take k) + v.bytes.length) := by rw [hvk.out]; exact szWs_take_succ vs k hlt
      have hle := szWs_take_le vs (k + 1)
      have hn0 := szWs_nonneg (vs.take k)
      go_wp2_with (go_at_call 51; refine (szWrite_any v a' c' _ _ (hv v hvm) (by omega) (by omega)).mono ?_; rintro e w' ⟨rfl, hb'⟩)
      · go_ret
        have hn := leftBy_of_neg (by assumption)
        have hs := hstep.out
        exact ⟨ret_int (leftBy_neg (by omega)).symm, gca hb hb'⟩
      · have hn := leftBy_of_nonneg (by assumption)
        have hs := hstep.out
        go_roundw
        case rel => exact ⟨k + 1, by omega, by go_num, by rw [hn.1, hs]; go_num, by omega, gca hb hb'⟩
        case measure => simp [intOf]; omega
    · go_wp2
      go_ret
      have e : k = vs.length := by omega
      subst e
      rw [List.take_length] at hpos
      exact ⟨ret_int (by rw [List.take_length, leftBy_pos (by omega)]; omega), hb⟩

set_option maxRecDepth 100000 in
theorem szDisk_any (d : DD) (l : DL) (left : Int) (w : World) (hd : d.Ok) (h0 : 0 ≤ left) (h1 : left ≤ 1048576) (ha : DAt w l d) :
    Calls Tryz.prog 5 #[d.val l, .int .i64 left] w fun e w' => e = .returned (.int .i64 (leftBy left d.sz)) ∧ Below w.heap.size w w' := by
  have hz : Hid (d.sz = (d.blocks.length + szBs d.blocks) + (d.waiting.length + szWs d.waiting)) := rfl
  have hrz := szBs_nonneg d.blocks
  have hnz := szWs_nonneg d.waiting
  go_enter Tryz.func5, Tryz.ntmps5
  go_wp2_with (go_at_call 23; refine (szByteSS_any l.ba l.bc d.blocks _ _ hd.bl (fun v hv => (hd.bb v hv).len) h0 h1 (ha.b.grow (gal (gre _) _))).mono ?_; rintro e w' ⟨rfl, hb'⟩; obtain ⟨hc, hf⟩ := bcell hb')
  · go_ret
    have hneg := leftBy_of_neg (by assumption)
    have := hz.out
    exact ⟨ret_int (leftBy_neg (by omega)).symm, gca (gal (gre _) _) hb'⟩
  · have hnn := leftBy_of_nonneg (by assumption)
    have hB : Below w.heap.size w w' := gca (gal (gre _) _) hb'
    have hle : leftBy left (d.blocks.length + szBs d.blocks) ≤ 1048576 := by omega
    have hge : 0 ≤ leftBy left (d.blocks.length + szBs d.blocks) := by omega
    have hnn' : Hid _ := hnn
    clear hnn
    go_wp2_with (go_at_call 24; refine (szWriteS_any l.wa l.wc d.waiting _ _ hd.wl (fun v hv => (hd.wb v hv).len) hge hle (ha.w.grow hB)).mono ?_; rintro e w'' ⟨rfl, hb''⟩)
    · go_ret
      have hneg := leftBy_of_neg (by assumption)
      have := hz.out
      have := hnn'.out
      exact ⟨ret_int (leftBy_neg (by omega)).symm, gca hB hb''⟩
    · go_ret
      have h1 := leftBy_of_nonneg (by assumption)
      have := hz.out
      have := hnn'.out
      exact ⟨ret_int (by rw [h1.1, leftBy_pos (s := d.sz) (by omega)]; omega), gca hB hb''⟩

end Go.Proofs.YthjddpkegooobacGreatDoor
