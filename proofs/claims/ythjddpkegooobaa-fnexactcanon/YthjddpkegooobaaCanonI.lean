/-
  CANONI: the program's Canon. Own work.
-/
import Derived.Test.YthjddpkegooobaaFormOf
import Derived.Test.YthjddpkegooobaaOk3
namespace Go.Proofs.Ythjddpkegooobaa
open Go.RowKit

/-- Canon of any graph -/
def canonZ (g : GG) : GG := if okG g = true then canon g else ⟨⟨0, 0, ⟨#[]⟩, 0⟩, []⟩

/-- what Canon leaves -/
def CanonIPost (g : GG) (w : World) (e : Ending) (w' : World) : Prop :=
  ∃ (na : Option Addr) (nc : Nat) (nl : List NL), e = .returned ((canonZ g).val na nc) ∧ nl.map (·.n) = (canonZ g).nodes ∧ OwnG w' w.heap.size na nc nl ∧ Below w.heap.size w w'

set_option maxRecDepth 100000 in
theorem L2.cells {g : GG} {a : Option Addr} {cap : Nat} {w : World} {B : Nat} {tb : Nat → Nat} {ws : World} {m : Nat → Nat} {xa : Nat → Option Addr} {xc : Nat → Nat} (h : L2 g a cap w B tb ws m xa xc) {i : Nat} (hi : i < g.nodes.length) : CellsAt ws (tb i) ∧ tb i < ws.heap.size := ⟨(h.cell i hi).z, (h.cell i hi).lt⟩
theorem L2.all {g : GG} {a : Option Addr} {cap : Nat} {w : World} {B : Nat} {tb : Nat → Nat} {ws : World} {xa : Nat → Option Addr} {xc : Nat → Nat} (h : L2 g a cap w B tb ws (fun i => g.nodes[i]!.vals.length) xa xc) {i : Nat} (hi : i < g.nodes.length) : ws.ownsRow B 80 1 (.slice (xa i) g.nodes[i]!.vals.length (xc i)) g.nodes[i]!.vals.length (g.nodes[i]!.vals.map (encV tb)) := by
  have h1 := h.vals i hi
  rwa [List.take_length] at h1

set_option maxRecDepth 100000 in
theorem implCanon_any (a : Option Addr) (cap : Nat) (g : GG) (w : World) (hg : g.Ok) (ha : NodesAt w.heap.size w a g.nodes) :
    Calls Try.prog 12 #[g.val a cap] w (CanonIPost g w) := by
  have hR0 := Five.new_at (w.alloc (.cells #[.int .i64 g.root.kind, .int .i64 g.root.num, .string g.root.text, .int .i64 g.root.node, .slice a g.nodes.length cap] 27)) ⟨0, 0, ⟨#[]⟩, 0⟩ (.slice none 0 0) 27 (w.heap.size + 1) (by simp)
  have hX0 := (GBox.new w g a cap 27).grow (gal (gre _) (.cells #[.int .i64 0, .int .i64 0, .string ⟨#[]⟩, .int .i64 0, .slice none 0 0] 27))
  cases hok : okG g with
  | false =>
    have hz : Hid (canonZ g = ⟨⟨0, 0, ⟨#[]⟩, 0⟩, []⟩) := if_neg (by rw [hok]; exact Bool.false_ne_true)
    have hok' : Hid _ := hok
    go_enter Try.func12, Try.ntmps12
    go_wp2_with (go_at_call 44; refine (implGraphOk_any a cap g _ hg (ha.grow (gal (gal (gre _) _) _))).mono ?_; rintro e w1 ⟨rfl, hb1⟩; obtain ⟨rz, r0, r1, r2, r3, r4, rf⟩ := hR0.kept (Kept.of_below hb1 (fun _ => False)) (fun e => e); rw [hok'.out])
    refine bodyPost_ret (v := .agg #[.int .i64 0, .int .i64 0, .string ⟨#[]⟩, .int .i64 0, .slice none 0 0]) (by simp [results, Try.results12, go_sem, r0, r1, r2, r3, r4]) rfl ⟨none, 0, [], by rw [hz.out]; rfl, by rw [hz.out]; rfl, ⟨World.ownsRow_nil _ _ _ _, fun x hx => (by cases hx), fun x hx => (by cases hx), fun i j _ hj => absurd hj (Nat.not_lt_zero _)⟩, ?_⟩
    have hb2 := gca (gal (gal (gre w) _) _) hb1
    exact ((((hb2.setCell (by simp) _).setCell (by simp) _).setCell (by simp) _).setCell (by simp) _).setCell (by simp) _
  | true =>
    have hz : Hid (canonZ g = canon g) := if_pos hok
    have hok' : Hid _ := hok
    go_enter Try.func12, Try.ntmps12
    go_wp2_with (first
      | (go_at_call 44; refine (implGraphOk_any a cap g _ hg (ha.grow (gal (gal (gre _) _) _))).mono ?_; rintro e w1 ⟨rfl, hb1⟩; obtain ⟨xz, x0, x1, x2, x3, x4⟩ := hX0.grow hb1; rw [hok'.out])
      | (go_at_call 56; refine (linked_any a cap g _ hok'.out (ha.grow (gca (gal (gal (gre _) _) _) hb1))).mono ?_; rintro e w2 ⟨B, tb, xa, xc, rfl, hL⟩)
      | (go_at_call 55; refine (formOf_any g tb B xa xc _ hok'.out hL.inj (fun i hi => L2.cells hL hi) hL.cell (fun i hi => L2.all hL hi)).mono ?_; rintro e w3 ⟨na, nc, nl, rfl, hnl, hown, hb3⟩; have hR3 := hR0.kept (Kept.of_below (gca (gca hb1 hL.low) hb3) (fun _ => False)) (fun e => e); obtain ⟨rz, r0, r1, r2, r3, r4, rf⟩ := id hR3))
    have hw2 : w.heap.size + 1 + 1 ≤ w2.heap.size := by have h1 := hb1.size; have h2 := hL.low.size; simp at h1; omega
    have hC : Kept (fun b => b = w.heap.size + 1) w3 (((((w3.setCell ⟨w.heap.size + 1, 0, none⟩ (.int .i64 (canon g).root.kind)).setCell ⟨w.heap.size + 1, 1, none⟩ (.int .i64 (canon g).root.num)).setCell ⟨w.heap.size + 1, 2, none⟩ (.string (canon g).root.text)).setCell ⟨w.heap.size + 1, 3, none⟩ (.int .i64 (canon g).root.node)).setCell ⟨w.heap.size + 1, 4, none⟩ (.slice na (canon g).nodes.length nc)) := (((((Kept.refl (fun b => b = w.heap.size + 1) w3).set (fun _ => rfl) _).set (fun _ => rfl) _).set (fun _ => rfl) _).set (fun _ => rfl) _).set (fun _ => rfl) _
    have hown' := (hown.kept hC (fun b hb hp => by have := hown.nodes.lt b (by rw [hb]; rfl); omega) (fun x hx b hb hp => by have := (hown.vals x hx).lt b (by rw [hb]; rfl); omega)).le (show w.heap.size ≤ w2.heap.size by omega)
    have hb4 := gca (gca (gca (gal (gal (gre w) _) _) hb1) hL.low) hb3
    refine bodyPost_ret (v := (canon g).val na nc) (by simp [results, Try.results12, go_sem, r0, r1, r2, r3, r4]) rfl ⟨na, nc, nl, by rw [hz.out], by rw [hz.out]; exact hnl, hown', hb4.trans (hC.below hb4.size (fun k hk hp => by omega))⟩

end Go.Proofs.Ythjddpkegooobaa
