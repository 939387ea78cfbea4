/-
  OPENK: what bools, bytes and numbers that come in read as. Own work.
-/
import Derived.Test.YthjddpkegooobabOpenD
import Derived.Test.YthjddpkegooobabDPow
import Derived.ChangeArms
namespace Go.Proofs.Ythjddpkegooobab
open Go.RowKit Go.ChangeShapes Go.WideShapes Go.Deep

set_option maxRecDepth 100000 in
theorem dcellsBool : Try.prog.cellsOf 4 = 1 := by kernel_rfl

section
variable {H : Type} {enc : TypeId × Value → H} {w : World} {base : Nat} {spare : Nat → Bool} {held : Bool}

set_option maxRecDepth 100000 in
theorem openBools {v : Value} {d : DataW H} {ps : List MemPlace} {r : Reach} {bd : Nat} (hv : Value.okWide Try.prog w r bd 67 v) (h : DataW.Trod enc Try.prog w base spare held 67 v d ps) :
    ∃ (ks : List Bool) (a : Option Addr) (cap : Nat), v = .slice a ks.length cap ∧ ks.length ≤ maxLen ∧ BoolsAt w a ks := by
  obtain ⟨fuel, h⟩ := h
  have hcs : v.cells.toList = [v] := by
    cases v <;> first | rfl | (exfalso; simp [Value.okWide, Cell.okWide, Cell.ok, Try.underlying67] at hv)
  rw [hcs] at h
  rcases open_slice Try.underlying67 h with ⟨e, _⟩ | ⟨a, len, cap, m, n, D, Pl, e, hb, hl, hm, hmm, _, hx⟩
  · simp at e
    exact ⟨[], none, 0, e, Nat.zero_le _, fun i hi => absurd hi (Nat.not_lt_zero _)⟩
  · simp at e
    rw [dcellsBool] at hx
    have hle : len ≤ m := by rw [hmm]; split <;> omega
    obtain ⟨ks, hvl, hvs⟩ := dlist_of (α := Bool) (n := len) (p := fun i v => w.cells? base (a.add (i * 1)) 1 = some [.bool v]) (fun i hi => by
      obtain ⟨cs', h1, h2⟩ := hx i (by omega)
      obtain ⟨z, e, _⟩ := DataW.trod_bool Try.underlying4 h2
      exact ⟨z, by rw [h1, e]⟩)
    subst hvl
    refine ⟨ks, some a, cap, e, by omega, fun i hi => ?_⟩
    have hp := dplain_addr (by decide) (hvs 0 (by omega))
    have h1 := hvs i hi
    rw [hp, add_plain] at h1
    obtain ⟨_, h2⟩ := dcells_plain h1
    have h3 := h2 0 (by decide)
    simp only [Nat.add_zero, Nat.mul_one] at h3
    exact ⟨a.block, a.off, by rw [← hp], h3⟩

set_option maxRecDepth 100000 in
theorem openBytesA {v : Value} {d : DataW H} {ps : List MemPlace} {r : Reach} {bd : Nat} (hv : Value.okWide Try.prog w r bd 28 v) (h : DataW.Trod enc Try.prog w base spare held 28 v d ps) :
    ∃ (bs : List Nat) (a : Option Addr) (cap : Nat), v = .slice a bs.length cap ∧ BOk bs ∧ BytesAt w a bs := by
  obtain ⟨fuel, h⟩ := h
  have hcs : v.cells.toList = [v] := by
    cases v <;> first | rfl | (exfalso; simp [Value.okWide, Cell.okWide, Cell.ok, Try.underlying28] at hv)
  rw [hcs] at h
  obtain ⟨a, cap, bs, e, hok, hat⟩ := openByts h
  simp at e
  exact ⟨bs, a, cap, e, hok, hat⟩

set_option maxRecDepth 100000 in
theorem openIntA {v : Value} {d : DataW H} {ps : List MemPlace} {r : Reach} {bd : Nat} (hv : Value.okWide Try.prog w r bd 3 v) (h : DataW.Trod enc Try.prog w base spare held 3 v d ps) :
    ∃ k : Int, v = .int .i64 k ∧ I64 k := by
  obtain ⟨fuel, h⟩ := h
  have hcs : v.cells.toList = [v] := by
    cases v <;> first | rfl | (exfalso; simp [Value.okWide, Cell.okWide, Cell.ok, Try.underlying3] at hv)
  rw [hcs] at h
  obtain ⟨k, e, _, hw⟩ := DataW.trod_int Try.underlying3 h
  simp at e
  exact ⟨k, e, di64_of_wf hw⟩

end
end Go.Proofs.Ythjddpkegooobab
