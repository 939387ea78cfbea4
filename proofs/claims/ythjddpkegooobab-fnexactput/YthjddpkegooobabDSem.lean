/-
  DSEM: what disks do, plainly. Own work.
-/
import Derived.Test.YthjddpkegooobabDOk
namespace Go.Proofs.Ythjddpkegooobab

/-- a write carried out -/
def setB (bl : List (List Nat)) (x : DW) : List (List Nat) := bl.set x.block.toNat x.bytes
/-- the blocks behind the first j writes, of which those are carried out that are kept -/
def settleN (keep : Nat → Bool) (bl : List (List Nat)) (ws : List DW) : Nat → List (List Nat)
  | 0 => bl
  | j + 1 => if keep j = true then setB (settleN keep bl ws j) ws[j]! else settleN keep bl ws j
/-- what a block reads as behind the first j writes -/
def readN (bl : List (List Nat)) (ws : List DW) (b : Int) : Nat → List Nat
  | 0 => bl[b.toNat]!
  | j + 1 => if ws[j]!.block = b then ws[j]!.bytes else readN bl ws b j

def zeroD : DD := ⟨[], []⟩
def blankD : DD := ⟨List.replicate 130 (List.replicate 64 0), []⟩
def DD.put (d : DD) (b : Int) (bs : List Nat) : DD := if (d.ok && wrOk ⟨b, bs⟩ && decide (d.waiting.length ≠ 200)) = true then ⟨d.blocks, d.waiting ++ [⟨b, bs⟩]⟩ else zeroD
def DD.settle (d : DD) (keep : Nat → Bool) : DD := if d.ok = true then ⟨settleN keep d.blocks d.waiting d.waiting.length, []⟩ else zeroD
def DD.read (d : DD) (b : Int) : List Nat := if (d.ok && (decide (0 ≤ b) && decide (b < 130))) = true then readN d.blocks d.waiting b d.waiting.length else []

structure DD.Fit (d : DD) : Prop where
  bl : d.blocks.length = 130
  wl : d.waiting.length ≤ 200
  bb : ∀ b, b ∈ d.blocks → b.length = 64
  wb : ∀ x, x ∈ d.waiting → 0 ≤ x.block ∧ x.block < 130 ∧ x.bytes.length = 64
theorem DD.fit {d : DD} (h : d.ok = true) : d.Fit := by
  unfold DD.ok at h
  simp only [Bool.and_eq_true, decide_eq_true_eq, List.all_eq_true] at h
  obtain ⟨⟨⟨h1, h2⟩, h3⟩, h4⟩ := h
  refine ⟨h1, h2, fun b hb => by simpa [blOk] using h3 b hb, fun x hx => ?_⟩
  have := h4 x hx
  simp only [wrOk, Bool.and_eq_true, decide_eq_true_eq] at this
  exact ⟨this.1.1, this.1.2, this.2⟩

theorem setB_length (bl : List (List Nat)) (x : DW) : (setB bl x).length = bl.length := by simp [setB]
theorem settleN_length (keep : Nat → Bool) (bl : List (List Nat)) (ws : List DW) : ∀ j, (settleN keep bl ws j).length = bl.length
  | 0 => rfl
  | j + 1 => by
    simp only [settleN]
    split
    · rw [setB_length, settleN_length keep bl ws j]
    · exact settleN_length keep bl ws j
theorem setB_all {p : List Nat → Prop} {bl : List (List Nat)} {x : DW} (h : ∀ b, b ∈ bl → p b) (hx : p x.bytes) : ∀ b, b ∈ setB bl x → p b := fun b hb => by
  rcases List.mem_or_eq_of_mem_set hb with h1 | h1
  · exact h b h1
  · rw [h1]; exact hx
theorem settleN_all {p : List Nat → Prop} {keep : Nat → Bool} {bl : List (List Nat)} {ws : List DW} (h : ∀ b, b ∈ bl → p b) (hw : ∀ x, x ∈ ws → p x.bytes) : ∀ j, j ≤ ws.length → ∀ b, b ∈ settleN keep bl ws j → p b
  | 0, _ => h
  | j + 1, hj => by
    simp only [settleN]
    split
    · exact setB_all (settleN_all h hw j (by omega)) (hw _ (mem_at (by omega)))
    · exact settleN_all h hw j (by omega)
theorem setB_get {bl : List (List Nat)} {x : DW} {i : Nat} (hi : i < bl.length) : (setB bl x)[i]! = if i = x.block.toNat then x.bytes else bl[i]! := by
  rw [getElem!_pos _ i (by rw [setB_length]; exact hi), getElem!_pos bl i hi]
  simp only [setB, List.getElem_set]
  split
  · rename_i e; rw [if_pos e.symm]
  · rename_i e; rw [if_neg (fun e2 => e e2.symm)]
theorem readN_mem {p : List Nat → Prop} {bl : List (List Nat)} {ws : List DW} {b : Int} (h : ∀ x, x ∈ bl → p x) (hw : ∀ x, x ∈ ws → p x.bytes) (hb : b.toNat < bl.length) : ∀ j, j ≤ ws.length → p (readN bl ws b j)
  | 0, _ => h _ (mem_at hb)
  | j + 1, hj => by
    simp only [readN]
    split
    · exact hw _ (mem_at (by omega))
    · exact readN_mem h hw hb j (by omega)

end Go.Proofs.Ythjddpkegooobab
