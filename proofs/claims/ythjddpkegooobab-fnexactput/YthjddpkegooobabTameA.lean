/-
  LAW: FnExactBlank, walked. Own work.
-/
import Derived.Test.YthjddpkegooobabDMark2
import Derived.Test.YthjddpkegooobabSBlankA
import Derived.Test.YthjddpkegooobabDEq
namespace Go.Proofs.Ythjddpkegooobab
open Go.RowKit

theorem DD.Fit.small {d : DD} (h : d.Fit) : d.Small := ⟨by have := h.bl; omega, fun b hb => by have := h.bb b hb; omega, by have := h.wl; omega, fun x hx => by have := (h.wb x hx).2.2; omega⟩
theorem szBs_64 {l : List (List Nat)} (h : ∀ b, b ∈ l → b.length = 64) : szBs l = 64 * l.length := by
  induction l with
  | nil => simp [szBs]
  | cons x r ih =>
    have h1 := ih (fun b hb => h b (List.mem_cons_of_mem _ hb))
    have h2 := h x (List.mem_cons_self ..)
    simp only [szBs, List.length_cons]
    omega
theorem szWs_64 {l : List DW} (h : ∀ b, b ∈ l → b.bytes.length = 64) : szWs l = 64 * l.length := by
  induction l with
  | nil => simp [szWs]
  | cons x r ih =>
    have h1 := ih (fun b hb => h b (List.mem_cons_of_mem _ hb))
    have h2 := h x (List.mem_cons_self ..)
    simp only [szWs, List.length_cons]
    omega
theorem DD.Fit.mend {d : DD} (h : d.Fit) : d.mend 1 ≤ 1099511627776 := by
  have h1 := d.mend_sz 1
  unfold DD.sz at h1
  rw [szBs_64 h.bb, szWs_64 (fun b hb => (h.wb b hb).2.2)] at h1
  have := h.bl
  have := h.wl
  omega
theorem blank_fit : blankD.Fit := ⟨by simp [blankD], by simp [blankD], fun b hb => by rw [List.eq_of_mem_replicate hb]; simp, fun x hx => by cases hx⟩
theorem blank_ok : blankD.Ok := ⟨by simp [blankD, maxLen], fun b hb => by rw [List.eq_of_mem_replicate hb]; exact ⟨by simp [maxLen], fun x hx => by rw [List.eq_of_mem_replicate hx]; decide⟩, by simp [blankD], fun x hx => (by cases hx), fun x hx => (by cases hx)⟩

end Go.Proofs.Ythjddpkegooobab
