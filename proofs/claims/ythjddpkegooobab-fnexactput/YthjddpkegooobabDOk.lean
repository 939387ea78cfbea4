/-
  DOK: both DiskOk. Own work.
-/
import Derived.Test.YthjddpkegooobabDPlain
namespace Go.Proofs.Ythjddpkegooobab
open Go.RowKit

/-- a write that a disk may have -/
def wrOk (x : DW) : Bool := decide (0 ≤ x.block) && decide (x.block < 130) && decide (x.bytes.length = 64)
def blOk (b : List Nat) : Bool := decide (b.length = 64)
def DD.ok (d : DD) : Bool := decide (d.blocks.length = 130) && decide (d.waiting.length ≤ 200) && d.blocks.all blOk && d.waiting.all wrOk

theorem dall_take_succ {α : Type} [Inhabited α] (p : α → Bool) (l : List α) (k : Nat) (h : k < l.length) : (l.take (k + 1)).all p = ((l.take k).all p && p l[k]!) := by
  rw [take_snoc l k h]; simp
theorem all_take_false {α : Type} [Inhabited α] (p : α → Bool) (l : List α) (k : Nat) (h : k < l.length) (hp : p l[k]! = false) : l.all p = false := by
  rw [List.all_eq_false]
  exact ⟨l[k]!, mem_at h, by rw [hp]; exact Bool.false_ne_true⟩

set_option maxRecDepth 100000 in
theorem hasBlock_any (b : Int) (w : World) (_hb : I64 b) :
    Calls Try.prog 110 #[.int .i64 b] w fun e w' => e = .returned (.bool (decide (0 ≤ b) && decide (b < 130))) ∧ Below w.heap.size w w' := by
  by_cases h0 : b < 0
  · have h1 : ¬ (b ≥ 0) := by omega
    go_enter Try.func110, Try.ntmps110
    go_wp2
    all_goals go_ret
    all_goals exact ⟨by simp; omega, by first | exact gre _ | exact gal (gre _) _⟩
  · have h1 : b ≥ 0 := by omega
    by_cases h2 : b < 130
    · go_enter Try.func110, Try.ntmps110
      go_wp2
      all_goals go_ret
      all_goals exact ⟨by simp [], by first | exact gre _ | exact gal (gre _) _⟩
    · go_enter Try.func110, Try.ntmps110
      go_wp2
      all_goals go_ret
      all_goals exact ⟨by simp; omega, by first | exact gre _ | exact gal (gre _) _⟩

end Go.Proofs.Ythjddpkegooobab
