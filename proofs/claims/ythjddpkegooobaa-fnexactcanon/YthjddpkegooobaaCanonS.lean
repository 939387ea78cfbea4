/-
  CANONS: the specification's Canon. Own work.
-/
import Derived.Test.YthjddpkegooobaaSpecCanon
import Derived.Test.YthjddpkegooobaaCanonI
import Derived.Test.YthjddpkegooobaaCanonOk
namespace Go.Proofs.Ythjddpkegooobaa
open Go.RowKit

/-- what the specification's Canon leaves -/
def CanonSPost (g : GG) (w : World) (e : Ending) (w' : World) : Prop :=
  ∃ (na : Option Addr) (nc : Nat), e = .returned ((canonZ g).val na nc) ∧ NodesAt w'.heap.size w' na (canonZ g).nodes ∧ Below w.heap.size w w'

set_option maxRecDepth 100000 in
theorem specCanonZ_any (a : Option Addr) (cap : Nat) (g : GG) (w : World) (hg : g.Ok) (ha : NodesAt w.heap.size w a g.nodes) :
    Calls Try.prog 14 #[g.val a cap] w (CanonSPost g w) := by
  have hR0 := Five.new_at (w.alloc (.cells #[.int .i64 g.root.kind, .int .i64 g.root.num, .string g.root.text, .int .i64 g.root.node, .slice a g.nodes.length cap] 27)) ⟨0, 0, ⟨#[]⟩, 0⟩ (.slice none 0 0) 27 (w.heap.size + 1) (by simp)
  have hX0 := (GBox.new w g a cap 27).grow (gal (gre _) (.cells #[.int .i64 0, .int .i64 0, .string ⟨#[]⟩, .int .i64 0, .slice none 0 0] 27))
  cases hok : okG g with
  | false =>
    have hz : Hid (canonZ g = ⟨⟨0, 0, ⟨#[]⟩, 0⟩, []⟩) := if_neg (by rw [hok]; exact Bool.false_ne_true)
    have hok' : Hid _ := hok
    go_enter Try.func14, Try.ntmps14
    go_wp2_with (go_at_call 42; refine (specGraphOk_any a cap g _ hg (ha.grow (gal (gal (gre _) _) _))).mono ?_; rintro e w1 ⟨rfl, hb1⟩; obtain ⟨rz, r0, r1, r2, r3, r4, rf⟩ := hR0.kept (Kept.of_below hb1 (fun _ => False)) (fun e => e); rw [hok'.out])
    refine bodyPost_ret (v := .agg #[.int .i64 0, .int .i64 0, .string ⟨#[]⟩, .int .i64 0, .slice none 0 0]) (by simp [results, Try.results14, go_sem, r0, r1, r2, r3, r4]) rfl ⟨none, 0, by rw [hz.out]; rfl, by rw [hz.out]; exact fun i hi => absurd hi (Nat.not_lt_zero _), ?_⟩
    have hb2 := gca (gal (gal (gre w) _) _) hb1
    exact ((((hb2.setCell (by simp) _).setCell (by simp) _).setCell (by simp) _).setCell (by simp) _).setCell (by simp) _
  | true =>
    have hz : Hid (canonZ g = canon g) := if_pos hok
    have hok' : Hid _ := hok
    go_enter Try.func14, Try.ntmps14
    go_wp2_with (first
      | (go_at_call 42; refine (specGraphOk_any a cap g _ hg (ha.grow (gal (gal (gre _) _) _))).mono ?_; rintro e w1 ⟨rfl, hb1⟩; obtain ⟨xz, x0, x1, x2, x3, x4⟩ := hX0.grow hb1; rw [hok'.out])
      | (go_at_call 57; refine (specCanon_new a cap g _ hok'.out (ha.grow (gca (gal (gal (gre _) _) _) hb1))).mono ?_; rintro e w3 ⟨na, nc, rfl, hn3, hb3⟩; have hR3 := hR0.kept (Kept.of_below (gca hb1 hb3) (fun _ => False)) (fun e => e); obtain ⟨rz, r0, r1, r2, r3, r4, rf⟩ := id hR3))
    have hC := (((((Kept.refl (fun b => b = w.heap.size + 1) w3).set (a := ⟨w.heap.size + 1, 0, none⟩) (fun _ => rfl) (.int .i64 (canon g).root.kind)).set (a := ⟨w.heap.size + 1, 1, none⟩) (fun _ => rfl) (.int .i64 (canon g).root.num)).set (a := ⟨w.heap.size + 1, 2, none⟩) (fun _ => rfl) (.string (canon g).root.text)).set (a := ⟨w.heap.size + 1, 3, none⟩) (fun _ => rfl) (.int .i64 (canon g).root.node)).set (a := ⟨w.heap.size + 1, 4, none⟩) (fun _ => rfl) (.slice na (canon g).nodes.length nc)
    have hw1 : w.heap.size + 1 + 1 ≤ w1.heap.size := by have h1 := hb1.size; simp at h1; omega
    have hN := hn3 _ _ hC (fun b hb => by omega)
    have hb4 := gca (gca (gal (gal (gre w) _) _) hb1) hb3
    refine bodyPost_ret (v := (canon g).val na nc) (by simp [results, Try.results14, go_sem, r0, r1, r2, r3, r4]) rfl ⟨na, nc, by rw [hz.out], by rw [hz.out]; exact hN, hb4.trans (hC.below hb4.size (fun k hk hp => by omega))⟩

end Go.Proofs.Ythjddpkegooobaa
