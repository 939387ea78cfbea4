/-
  L4C: the specification's HeadBlock. Own work.
-/
import Derived.Test.YthjddpkegooobabIHead
namespace Go.Proofs.Ythjddpkegooobab
open Go.RowKit

set_option maxRecDepth 100000 in
theorem specHeadBlock_any (ok : Bool) (gen len sum : Int) (w : World) :
    Calls Try.prog 53 #[headV ok gen len sum] w fun e w' => ∃ oa c, e = .returned (.slice oa (headBB ok gen len sum).length c) ∧ BytesAt w' oa (headBB ok gen len sum) ∧ Below w.heap.size w w' := by
  have hA := gal (gre w) (.cells #[.bool ok, .int .i64 gen, .int .i64 len, .int .i64 sum] 74)
  have hH0 := HBox.new w ok gen len sum 74
  cases hk : headOkB ok gen len with
  | false =>
    have hk' : Hid _ := hk
    have hz : headBB ok gen len sum = [] := if_neg (by rw [hk]; simp)
    rw [hz]
    clear hk hz
    go_enter Try.func53, Try.ntmps53
    go_wp2_with (go_at_call 116; refine (l4headok_any ok gen len sum _).mono ?_; rintro e w1 ⟨rfl, hb1⟩; rw [hk'.out])
    go_ret
    exact ⟨none, 0, rfl, fun i hi => absurd hi (Nat.not_lt_zero _), gca hA hb1⟩
  | true =>
    have hk' : Hid _ := hk
    have hz : headBB ok gen len sum = headB gen len sum := if_pos hk
    rw [hz]
    clear hk hz
    go_enter Try.func53, Try.ntmps53
    go_wp2_with (first
      | (go_at_call 116; refine (l4headok_any ok gen len sum _).mono ?_; rintro e w1 ⟨rfl, hb1⟩; rw [hk'.out]; obtain ⟨_, c0, c1, c2, c3⟩ := hH0.kept (Kept.of_below hb1 (fun _ => False)) (fun e => e))
      | (go_at_call 117; refine (l4block_any ok gen len sum _).mono ?_; rintro e w2 ⟨oa, c, rfl, hO, hb2⟩))
    go_ret
    exact ⟨oa, c, rfl, owns_atH hO, gca (gca hA hb1) hb2⟩

end Go.Proofs.Ythjddpkegooobab
