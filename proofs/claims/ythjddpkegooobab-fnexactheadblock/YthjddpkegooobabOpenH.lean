/-
  OPENH: what heads that come in read as. Own work.
-/
import Derived.Test.YthjddpkegooobabL4b
import Derived.ProofKit
import Derived.OpenShut
import Derived.Deep.Slices
namespace Go.Proofs.Ythjddpkegooobab
open Go.RowKit Go.ChangeShapes Go.WideShapes Go.Deep

set_option maxRecDepth 100000 in
theorem hcellsInt : Try.prog.cellsOf 3 = 1 := by kernel_rfl
theorem hcellsI64 : Try.prog.cellsOf 2 = 1 := by kernel_rfl
theorem hcellsBool : Try.prog.cellsOf 4 = 1 := by kernel_rfl
theorem hcellsHead : Try.prog.cellsOf 77 = 4 := by kernel_rfl

theorem hi64_of_wf {n : Int} (h : (Lit.int .i64 n).wf = true) : I64 n := by
  have h := bounds_i64 h
  unfold I64
  omega

section
variable {H : Type} {enc : TypeId × Value → H} {w : World} {base : Nat} {spare : Nat → Bool} {held : Bool}

set_option maxRecDepth 100000 in
theorem openHead {v : Value} {d : DataW H} {ps : List MemPlace} {r : Reach} {bs : Nat} (hv : Value.okWide Try.prog w r bs 77 v) (h : DataW.Trod enc Try.prog w base spare held 77 v d ps) :
    ∃ (ok : Bool) (gen len sum : Int), v = headV ok gen len sum ∧ I64 gen ∧ I64 len ∧ I64 sum := by
  unfold Value.okWide at hv
  rw [Try.underlying77] at hv
  obtain ⟨cs, rfl, hsz, _⟩ := hv
  obtain ⟨fuel, h⟩ := h
  obtain ⟨xs, n, _, _, hl, hlen, hf⟩ := DataW.trod_struct Try.underlying77 h
  rw [hcellsHead] at hsz
  obtain ⟨l⟩ := cs
  match xs, hlen, l, hsz with
  | [y0, y1, y2, y3], _, [c0, c1, c2, c3], _ =>
    have h0 := hf 0 _ rfl
    have h1 := hf 1 _ rfl
    have h2 := hf 2 _ rfl
    have h3 := hf 3 _ rfl
    simp [hcellsInt, hcellsI64, hcellsBool, Value.cells] at h0 h1 h2 h3
    obtain ⟨ok, e0, rfl⟩ := DataW.trod_bool Try.underlying4 h0
    obtain ⟨k1, e1, rfl, w1⟩ := DataW.trod_int Try.underlying3 h1
    obtain ⟨k2, e2, rfl, w2⟩ := DataW.trod_int Try.underlying3 h2
    obtain ⟨k3, e3, rfl, w3⟩ := DataW.trod_int Try.underlying2 h3
    simp at e0 e1 e2 e3
    subst e0 e1 e2 e3
    exact ⟨ok, k1, k2, k3, rfl, hi64_of_wf w1, hi64_of_wf w2, hi64_of_wf w3⟩

end
end Go.Proofs.Ythjddpkegooobab
