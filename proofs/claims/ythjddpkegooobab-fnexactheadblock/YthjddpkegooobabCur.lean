/-
  CUR: a place in bytes. Own work.
-/
import Derived.Test.YthjddpkegooobabRows3
import Derived.Test.YthjddpkegooobabImgPlain
import Derived.WalkLawsBesides
import Derived.Deep.QuietTactic
namespace Go.Proofs.Ythjddpkegooobab
open Go.RowKit

/-- the panic by which an image is left -/
abbrev haltP : PanicEntry := { v := .iface 164 (.agg #[]), recovered := false }

/-- a cursor's two cells -/
structure Cur (w : World) (b : Nat) (sa : Option Addr) (len cap at_ : Nat) : Prop where
  lt : b < w.heap.size
  c0 : w.cell? ⟨b, 0, none⟩ = some (.slice sa len cap)
  c1 : w.cell? ⟨b, 1, none⟩ = some (.int .i64 (at_ : Int))
  f : ∀ o, w.frozen? ⟨b, o, none⟩ = false

set_option maxRecDepth 100000 in
theorem Cur.same {w w' : World} {b : Nat} {sa : Option Addr} {len cap at_ : Nat} (h : Cur w b sa len cap at_) (e : w'.heap[b]? = w.heap[b]?) (hlt : b < w'.heap.size) : Cur w' b sa len cap at_ :=
  ⟨hlt, (World.cell?_of_block (w := w) e).trans h.c0, (World.cell?_of_block (w := w) e).trans h.c1, fun o => (World.frozen?_of_block (w := w) e).trans (h.f o)⟩
theorem Cur.kept {p : Nat → Prop} {w w' : World} {b : Nat} {sa : Option Addr} {len cap at_ : Nat} (h : Cur w b sa len cap at_) (k : Kept p w w') (hn : ¬ p b) : Cur w' b sa len cap at_ := h.same (k.block b h.lt hn) (Nat.lt_of_lt_of_le h.lt k.size)
set_option maxRecDepth 100000 in
theorem Cur.set {w : World} {b : Nat} {sa : Option Addr} {len cap at_ : Nat} (h : Cur w b sa len cap at_) {z : Int} {n : Nat} (hz : z = (n : Int)) : Cur (w.setCell ⟨b, 1, none⟩ (.int .i64 z)) b sa len cap n := by
  subst hz
  refine ⟨by have := h.lt; simpa [World.setCell] using this, ?_, ?_, fun o => ?_⟩
  · rw [World.cell?_setCell_other _ _ _ _ (by simp)]; exact h.c0
  · exact World.cell?_setCell_same _ _ _ h.c1
  · rw [World.frozen?_setCell]; exact h.f o
set_option maxRecDepth 100000 in
theorem Cur.drewN {w : World} {b : Nat} {sa : Option Addr} {len cap at_ : Nat} (h : Cur w b sa len cap at_) (k : Nat) : Cur (w.drewN k) b sa len cap at_ := ⟨h.lt, h.c0, h.c1, h.f⟩
theorem Kept.drewN {p : Nat → Prop} {w w' : World} (h : Kept p w w') (k : Nat) : Kept p w (w'.drewN k) := ⟨h.os, h.tape, h.output, h.size, h.block⟩

/-- what 'next' leaves, where there is so much -/
def NextPost (b : Nat) (sa : Option Addr) (len cap at_ n : Nat) (w : World) (e : Ending) (w' : World) : Prop :=
  ∃ p c, e = .returned (.slice p n c) ∧ (0 < n → ∀ g off, sa = some ⟨g, off, none⟩ → p = some ⟨g, off + at_, none⟩) ∧ Cur w' b sa len cap (at_ + n) ∧ Kept (fun k => k = b) w w'

set_option maxRecDepth 100000 in
theorem next_fits (b : Nat) (sa : Option Addr) (len cap at_ n : Nat) (w : World) (hc : Cur w b sa len cap at_) (hlc : len ≤ cap) (hlm : len ≤ maxLen) (hn : at_ + n ≤ len) :
    Calls Try.prog 158 #[.pointer (some ⟨b, 0, none⟩), .int .i64 (n : Int)] w (NextPost b sa len cap at_ n w) := by
  obtain ⟨hlt, c0, c1, hf⟩ := id hc
  unfold maxLen at hlm
  have hd : ¬ ((len : Int) - (at_ : Int) < (n : Int)) := by omega
  by_cases hca : cap = at_
  · subst hca
    go_enter Try.func158, Try.ntmps158
    go_wp2_with (go_quiet (fail))
    go_ret
    refine ⟨_, _, rfl, fun h => ?_, ((hc.drewN _).set (by omega)).drewN _, (((Kept.refl (fun k => k = b) w).drewN _).set (fun _ => rfl) _).drewN _⟩
    exact absurd h (by omega)
  · go_enter Try.func158, Try.ntmps158
    go_wp2_with (go_quiet (fail))
    go_ret
    exact ⟨_, _, rfl, fun _ g off e => by subst e; simp [Addr.add], ((hc.drewN _).set (by omega)).drewN _, (((Kept.refl (fun k => k = b) w).drewN _).set (fun _ => rfl) _).drewN _⟩

/-- what 'next' leaves, where there is not -/
def HaltPost (w : World) (e : Ending) (w' : World) : Prop := e = .panicked [haltP] ∧ Below w.heap.size w w'

set_option maxRecDepth 100000 in
theorem next_not (b : Nat) (sa : Option Addr) (len cap at_ n : Nat) (w : World) (hc : Cur w b sa len cap at_) (hlm : len ≤ maxLen) (hat : at_ ≤ len) (hn : len < at_ + n) :
    Calls Try.prog 158 #[.pointer (some ⟨b, 0, none⟩), .int .i64 (n : Int)] w (HaltPost w) := by
  obtain ⟨hlt, c0, c1, hf⟩ := id hc
  unfold maxLen at hlm
  have hd : (len : Int) - (at_ : Int) < (n : Int) := by omega
  go_enter Try.func158, Try.ntmps158
  go_wp2_with (go_quiet (fail))
  exact ⟨rfl, rfl, (gre w).trans ⟨rfl, rfl, rfl, Nat.le_refl _, fun _ _ => rfl⟩⟩

set_option maxRecDepth 100000 in
theorem passed_any (b : Nat) (sa : Option Addr) (len cap at_ : Nat) (w : World) (hc : Cur w b sa len cap at_) (hlc : len ≤ cap) (_hlm : len ≤ maxLen) (hat : at_ ≤ len) :
    Calls Try.prog 79 #[.pointer (some ⟨b, 0, none⟩)] w fun e w' => e = .returned (.slice sa at_ cap) ∧ Below w.heap.size w w' := by
  obtain ⟨hlt, c0, c1, hf⟩ := id hc
  have h0 : (0 : Int) ≤ (at_ : Int) := by omega
  have h1 : (at_ : Int) ≤ (cap : Int) := by omega
  go_enter Try.func79, Try.ntmps79
  go_wp2_with (go_quiet (fail))
  go_ret
  exact ⟨rfl, (gre w).trans ⟨rfl, rfl, rfl, Nat.le_refl _, fun _ _ => rfl⟩⟩

end Go.Proofs.Ythjddpkegooobab
