import Derived.ShutString
import Derived.ChangeOld
import Derived.Test.YthjddpkegooobaaPartZJ

/-
  DONE: the row of FnDisk, proved. Own work.
-/
namespace Go.Proofs.Ythjddpkegooobaa
open Go.ChangeShapes Go.WideShapes Go.ChangeAt Go.RowKit

set_option maxRecDepth 100000 in
theorem ownDk : ownKnob Try.prog.godebug = none := by kernel_rfl
theorem laidOutDk : laidOutB Try.prog = true := by kernel_rfl

set_option maxRecDepth 100000 in
theorem slice_ltK {w : World} {r : Reach} {bd : Nat} {a : Addr} {n c : Nat} (h : Value.okWide Try.prog w r bd 22 (.slice (some a) n c)) : a.block < w.heap.size := by
  have h2 : n ≤ c ∧ (c : Int) ≤ IntKind.i64.max ∧ w.has Try.prog r bd a 5 c := by simpa [Value.okWide, Cell.okWide, Cell.ok, Try.underlying22] using h
  obtain ⟨_, _, _, _, row, cells, hsh, _⟩ := h2
  unfold World.shape? at hsh
  rcases Nat.lt_or_ge a.block w.heap.size with hlt | hge
  · exact hlt
  · rw [Array.getElem?_eq_none hge] at hsh
    cases hsh

set_option maxRecDepth 100000 in
theorem liftedDk (os : Os) (started : os.Started) (H : Type) (enc : TypeId × Value → H) :
    ReturnsInHanded {} Try.checked os 5 .any (Rows.fnDiskSpec.pre6 enc Try.prog Try.f5 Rows.fnDiskRow.domain false) (Rows.fnDiskSpec.post enc Try.prog Try.f5 false true false false) := by
  refine returnsInHanded_of_change (C := Try.checked) ownDk started (by kernel_rfl) Try.func5
    (ChangeSpec.witness6 (enc := enc) (C := Try.checked) false ⟨#[], #[.slice none 0 0], []⟩ 8 (by kernel_rfl) (by kernel_rfl) (by kernel_rfl) (by kernel_rfl)) ?_
  intro W base args ds gs before hval0 hW hcnd _
  have hval : ∀ (j : Nat) t v, Try.f5.params[j]? = some t → args[j]? = some v → Value.okWide Try.prog W .any base t v := hval0
  have hW' := hW
  obtain ⟨p, q, hA0, hV, rfl, hfz, hnd⟩ := hW
  have hA : DataW.TrodAll enc Try.prog W 0 (fun _ => true) true Try.f5.params.toList args.toList ds p := hA0
  rw [Try.params5] at hA hval
  obtain ⟨v0, vs0, d0, ds0, p0, q0, hargs, rfl, rfl, h0, r0⟩ := trodAll_cons hA
  obtain ⟨rfl, rfl, rfl⟩ := trodAll_nil r0
  obtain rfl : args = #[v0] := by cases args; simp_all
  obtain ⟨rfl, rfl⟩ := trodVars_none hV
  have k0 := h0
  have lt0 : ∀ x ∈ p0, x.block < W.heap.size := by obtain ⟨m, hm⟩ := k0; exact DataW.trod_lt m _ _ _ hm
  have hv0 := hval 0 22 v0 rfl rfl
  obtain ⟨bs, a, cap, rfl, hcap, hml, hx, ha⟩ := openBytes hv0 h0
  have hs : ∀ g off, a = some ⟨g, off, none⟩ → g < W.heap.size := fun g off e => by rw [e] at hv0; exact slice_ltK hv0
  clear hA0 hval0
  refine (lawDk a cap bs W ha hml hx hs).mono fun e W' ⟨he, bel⟩ => ?_
  subst he
  exact ⟨_, rfl, _, _, _, [], _, [], hW', trodAll_mk1 (shut_bool Try.underlying4 _), (trodAll_cons_mk (Below.trod laidOutDk (by kernel_rfl) (of_decide_eq_true (by kernel_rfl)) k0 bel lt0) trodAll_mk0), rfl, bel.frame _, fun h => by cases h⟩

set_option maxRecDepth 100000 in
theorem disk_holds : Rows.FnDiskSaid :=
  OpenClaim.holds_of_wide 5 Try.f5 rfl rfl rfl rfl rfl rfl rfl ⟨rfl, rfl, rfl, rfl, rfl⟩ rfl rfl rfl rfl rfl (by kernel_rfl) Try.func5 (by kernel_rfl)
    (of_decide_eq_true (by kernel_rfl)) (by unfold Func.isWrapper; first | (rw [if_pos (by decide +kernel)]; kernel_rfl) | (rw [if_neg (by decide +kernel)]; exact ⟨rfl, rfl⟩))
    (fun os started H enc _ => liftedDk os started H enc)

end Go.Proofs.Ythjddpkegooobaa
