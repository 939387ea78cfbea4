/-
  MARKVALS: the laws' marks in a row of values. Own work.
-/
import Derived.Test.YthjddpkegooobaaMarkText
import Derived.Test.YthjddpkegooobaaRows3
import Derived.Test.YthjddpkegooobaaRegionV
namespace Go.Proofs.Ythjddpkegooobaa
open Go.RowKit

/-- a block of cells that may be written -/
structure WRow (w : World) (b n : Nat) : Prop where
  lt : b < w.heap.size
  c : ∀ i, i < n → ∃ v, w.cell? ⟨b, i, none⟩ = some v
  f : ∀ o, w.frozen? ⟨b, o, none⟩ = false
set_option maxRecDepth 100000 in
theorem WRow.kept {p : Nat → Prop} {w w' : World} {b n : Nat} (h : WRow w b n) (k : Kept p w w') (hn : ¬ p b) : WRow w' b n :=
  ⟨Nat.lt_of_lt_of_le h.lt k.size, fun i hi => let ⟨v, hv⟩ := h.c i hi; ⟨v, k.cell hv hn⟩, fun o => (World.frozen?_of_block (w := w) (k.block b h.lt hn)).trans (h.f o)⟩
theorem WRow.set {w : World} {b n : Nat} (h : WRow w b n) (p : Addr) (u : Value) : WRow (w.setCell p u) b n :=
  ⟨by have := h.lt; simpa [World.setCell] using this, fun i hi => by
    obtain ⟨v, hv⟩ := h.c i hi
    by_cases e : p = ⟨b, i, none⟩
    · subst e; exact ⟨u, World.cell?_setCell_same _ _ _ hv⟩
    · exact ⟨v, (World.cell?_setCell_other _ _ _ _ (fun e2 => e e2)).trans hv⟩, fun o => by rw [World.frozen?_setCell]; exact h.f o⟩

/-- a marked value, and a row of them -/
def markV (k : Nat) : GV := ⟨(k : Int), (k : Int) + 1, mt (k + 2), (k : Int) + 1 + 1 + 1⟩
def markVs (k n : Nat) : List GV := (List.range n).map fun j => markV (k + 4 * j)

set_option maxRecDepth 100000 in
theorem ValAt.set_far {w : World} {b off : Nat} {v : GV} (h : ValAt w b off v) {o : Nat} (ho : o < off ∨ off + 4 ≤ o) (u : Value) : ValAt (w.setCell ⟨b, o, none⟩ u) b off v := by
  refine ⟨?_, ?_, ?_, ?_⟩
  · exact (World.cell?_setCell_other _ _ _ _ (by simp <;> omega)).trans h.kind
  · exact (World.cell?_setCell_other _ _ _ _ (by simp <;> omega)).trans h.num
  · exact (World.cell?_setCell_other _ _ _ _ (by simp <;> omega)).trans h.text
  · exact (World.cell?_setCell_other _ _ _ _ (by simp <;> omega)).trans h.node

set_option maxRecDepth 100000 in
/-- the world behind one value's marks -/
theorem mark_one {w w1 : World} {b o q : Nat} {n : Nat} (hr : WRow w b n) (ho : o + 4 ≤ n) (hb : Below ((w.setCell ⟨b, o, none⟩ (.int .i64 (q : Int))).setCell ⟨b, o + 1, none⟩ (.int .i64 ((q : Int) + 1))).heap.size ((w.setCell ⟨b, o, none⟩ (.int .i64 (q : Int))).setCell ⟨b, o + 1, none⟩ (.int .i64 ((q : Int) + 1))) w1) :
    ValAt ((w1.setCell ⟨b, o + 2, none⟩ (.string (mt (q + 2)))).setCell ⟨b, o + 3, none⟩ (.int .i64 ((q : Int) + 1 + 1 + 1))) b o (markV q) := by
  have hr2 := (hr.set ⟨b, o, none⟩ (.int .i64 (q : Int))).set ⟨b, o + 1, none⟩ (.int .i64 ((q : Int) + 1))
  have hr3 := hr2.kept (Kept.of_below hb (fun _ => False)) (fun e => e)
  obtain ⟨v0, c0⟩ := hr.c o (by omega)
  obtain ⟨v1, c1⟩ := (hr.set ⟨b, o, none⟩ (.int .i64 (q : Int))).c (o + 1) (by omega)
  obtain ⟨v2, c2⟩ := hr3.c (o + 2) (by omega)
  obtain ⟨v3, c3⟩ := (hr3.set ⟨b, o + 2, none⟩ (.string (mt (q + 2)))).c (o + 3) (by omega)
  refine ⟨?_, ?_, ?_, ?_⟩
  · refine (World.cell?_setCell_other _ _ _ _ (by simp)).trans ((World.cell?_setCell_other _ _ _ _ (by simp)).trans ?_)
    exact cell_later hb ((World.cell?_setCell_other _ _ _ _ (by simp)).trans (World.cell?_setCell_same _ _ _ c0))
  · refine (World.cell?_setCell_other _ _ _ _ (by simp)).trans ((World.cell?_setCell_other _ _ _ _ (by simp)).trans ?_)
    exact cell_later hb (World.cell?_setCell_same _ _ _ c1)
  · exact (World.cell?_setCell_other _ _ _ _ (by simp)).trans (World.cell?_setCell_same _ _ _ c2)
  · exact World.cell?_setCell_same _ _ _ c3

/-- what stands at the head of the round -/
structure MState (b n k : Nat) (w ws : World) (j : Nat) : Prop where
  kept : Kept (fun x => x = b) w ws
  row : WRow ws b (n * 4)
  done : ∀ i, i < j → ValAt ws b (i * 4) (markV (k + 4 * i))
set_option maxRecDepth 100000 in
theorem MState.step {b n k : Nat} {w ws w1 : World} {j q : Nat} (h : MState b n k w ws j) (hj : j < n) (hq : q = k + 4 * j) (hb : Below ((ws.setCell ⟨b, j * 4, none⟩ (.int .i64 (q : Int))).setCell ⟨b, j * 4 + 1, none⟩ (.int .i64 ((q : Int) + 1))).heap.size ((ws.setCell ⟨b, j * 4, none⟩ (.int .i64 (q : Int))).setCell ⟨b, j * 4 + 1, none⟩ (.int .i64 ((q : Int) + 1))) w1) :
    MState b n k w ((w1.setCell ⟨b, j * 4 + 2, none⟩ (.string (mt (q + 2)))).setCell ⟨b, j * 4 + 3, none⟩ (.int .i64 ((q : Int) + 1 + 1 + 1))) (j + 1) where
  kept := ((((h.kept.set (fun _ => rfl) _).set (fun _ => rfl) _).trans (Kept.of_below hb (fun _ => False)) (fun _ _ e => e.elim)).set (fun _ => rfl) _).set (fun _ => rfl) _
  row := ((((h.row.set _ _).set _ _).kept (Kept.of_below hb (fun _ => False)) (fun e => e)).set _ _).set _ _
  done := fun i hi => by
    by_cases e : i = j
    · subst e; subst hq; exact mark_one h.row (by omega) hb
    · have hlt := h.row.lt
      have h1 := ((h.done i (by omega)).set_far (o := j * 4) (by omega) (.int .i64 (q : Int))).set_far (o := j * 4 + 1) (by omega) (.int .i64 ((q : Int) + 1))
      have h2 := h1.below hb (by simpa [World.setCell] using hlt)
      exact (h2.set_far (by omega) _).set_far (by omega) _

set_option maxRecDepth 100000 in
theorem markValS_any (b n cap k : Nat) (w : World) (hk0 : 0 < k) (hk : k + 4 * n ≤ 1099511627776) (hr : WRow w b (n * 4)) :
    Calls Try.prog 142 #[.slice (some ⟨b, 0, none⟩) n cap, .int .i64 k] w fun e w' => e = .returned (.int .i64 ((k + 4 * n : Nat) : Int)) ∧ MState b n k w w' n := by
  go_enter Try.func142, Try.ntmps142
  go_wp2
  go_loopw [1, 5] (fun kk i ws => ∃ (j q : Nat), j ≤ n ∧ q = k + 4 * j ∧ kk = .int .i64 (q : Int) ∧ i = .int .i64 (j : Int) ∧ MState b n k w ws j) (fun _ i _ => n - (intOf i).toNat)
  case atStart => exact ⟨0, k, Nat.zero_le _, by omega, rfl, rfl, Kept.refl _ _, hr, fun i hi => absurd hi (Nat.not_lt_zero _)⟩
  case round =>
    obtain ⟨j, q, hj, hq, rfl, rfl, hD⟩ := hrel
    by_cases hlt : j < n
    · have i0 : (0 : Int) ≤ (j : Int) := by omega
      have i1 : (j : Int) < (n : Int) := by omega
      obtain ⟨v0, c0⟩ := hD.row.c (j * 4) (by omega)
      obtain ⟨v1, c1⟩ := (hD.row.set ⟨b, j * 4, none⟩ (.int .i64 (q : Int))).c (j * 4 + 1) (by omega)
      have hf := hD.row.f
      have hqq : q + 4 ≤ 1099511627776 := by omega
      have hq' : Hid _ := hq
      clear hq
      have hs2 := (hD.row.set ⟨b, j * 4, none⟩ (.int .i64 (q : Int))).set ⟨b, j * 4 + 1, none⟩ (.int .i64 ((q : Int) + 1))
      go_wp2_with (go_at_call 157; rw [show ((q : Int) + 1 + 1) = ((q + 2 : Nat) : Int) by omega]; refine (markText_any (q + 2) _ (by omega) (by omega)).mono ?_; rintro e w1 ⟨rfl, hb1⟩; rw [← show ((q : Int) + 1 + 1) = ((q + 2 : Nat) : Int) by omega]; have hs3 := hs2.kept (Kept.of_below hb1 (fun _ => False)) (fun e => e); obtain ⟨v2, c2⟩ := hs3.c (j * 4 + 2) (by omega); obtain ⟨v3, c3⟩ := (hs3.set ⟨b, j * 4 + 2, none⟩ (.string (mt (q + 2)))).c (j * 4 + 3) (by omega); have hf3 := hs3.f)
      have hfin := hD.step hlt hq'.out hb1
      go_roundw
      case rel => exact ⟨j + 1, q + 4, by omega, by have := hq'.out; omega, by go_num, by go_num, hfin⟩
      case measure => simp [intOf]; omega
    · have e : j = n := by omega
      subst e
      go_wp2
      go_ret
      exact ⟨by rw [← hq]; rfl, hD⟩

set_option maxRecDepth 100000 in
/-- the row as a list of values -/
theorem MState.at_ {b n k : Nat} {w ws : World} (h : MState b n k w ws n) {B : Nat} (hB : b < B) : ValsAt B ws (some ⟨b, 0, none⟩) (markVs k n) := fun i hi => by
  have hi' : i < n := by simpa [markVs] using hi
  refine ⟨b, 0, rfl, hB, ?_⟩
  have e : (markVs k n)[i]! = markV (k + 4 * i) := by rw [getElem!_pos _ i hi]; simp [markVs]
  rw [e, Nat.zero_add]
  exact h.done i hi'
set_option maxRecDepth 100000 in
theorem markVs_length (k n : Nat) : (markVs k n).length = n := by simp [markVs]

end Go.Proofs.Ythjddpkegooobaa
