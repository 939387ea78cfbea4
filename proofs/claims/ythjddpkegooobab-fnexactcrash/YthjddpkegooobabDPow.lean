/-
  DPOW: the power goes. Own work.
-/
import Derived.Test.YthjddpkegooobabDPowA
namespace Go.Proofs.Ythjddpkegooobab
open Go.RowKit

set_option maxRecDepth 100000 in
theorem crashKeeps_any (j K : Nat) (ka : Option Addr) (ks : List Bool) (kc : Nat) (w : World) (hj : j ≤ 1000) (_hl : ks.length ≤ maxLen) (hc : w.cell? ⟨K, 0, none⟩ = some (.slice ka ks.length kc)) (ha : BoolsAt w ka ks) :
    Calls Try.prog 112 #[.int .i64 j, .pointer (some ⟨K, 0, none⟩)] w fun e w' => e = .returned (.bool (keepOf ks j)) ∧ Below w.heap.size w w' := by
  by_cases hlt : j < ks.length
  · obtain ⟨b, off, rfl, hb⟩ := ha j hlt
    have i0 : (0 : Int) ≤ (j : Int) := by omega
    have i1 : (j : Int) < (ks.length : Int) := by omega
    have he : Hid (keepOf ks j = ks[j]!) := by show _ = _; simp [keepOf, hlt]
    obtain ⟨x, hx⟩ := hid_ex ks[j]!
    rw [← hx.out] at hb
    go_enter Try.func112, Try.ntmps112
    go_wp2
    go_ret
    exact ⟨by rw [he.out, ← hx.out]; rfl, gre _⟩
  · have i1 : ¬ ((j : Int) < (ks.length : Int)) := by omega
    have he : Hid (keepOf ks j = false) := by show _ = _; simp [keepOf]; omega
    go_enter Try.func112, Try.ntmps112
    go_wp2
    go_ret
    exact ⟨by rw [he.out]; rfl, gre _⟩

end Go.Proofs.Ythjddpkegooobab
