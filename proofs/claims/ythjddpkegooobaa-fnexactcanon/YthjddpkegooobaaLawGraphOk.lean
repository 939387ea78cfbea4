/-
  LAW: FnExactGraphOk, walked. Own work.
-/
import Derived.Test.YthjddpkegooobaaSz
import Derived.Test.YthjddpkegooobaaTo
import Derived.Test.YthjddpkegooobaaEq
import Derived.Test.YthjddpkegooobaaOk4
import Derived.Test.YthjddpkegooobaaSmall
namespace Go.Proofs.Ythjddpkegooobaa
open Go.RowKit

set_option maxRecDepth 100000 in
theorem lawGraphOk (a : Option Addr) (cap : Nat) (g : GG) (w : World) (hg : g.Ok) (ha : NodesAt w.heap.size w a g.nodes) :
    Calls Try.prog 7 #[g.val a cap] w fun e w' => e = .returned (.bool true) ∧ Below w.heap.size w w' := by
  go_enter Try.func7, Try.ntmps7
  go_wp2_with (go_at_call 41; refine (szGraph_any a cap g _ _ hg (by decide) (by decide) (ha.grow (gal (gre _) _))).mono ?_; rintro e w' ⟨rfl, hb'⟩; obtain ⟨hc, hf⟩ := bcell hb')
  · go_ret
    exact ⟨rfl, gca (gal (gre _) _) hb'⟩
  · have hsm : g.sz ≤ 1048576 := by have := leftBy_of_nonneg (by assumption); omega
    obtain ⟨hl, hv⟩ := GG.small hsm
    have hB : Below w.heap.size w w' := gca (gal (gre _) _) hb'
    have hbx : GBox w' w.heap.size g a cap := (GBox.new w g a cap _).grow hb'
    clear hc hf hb' hsm
    have ha1 := ha.grow hB
    refine (toGraph_any a cap g _ hl hv ha1).mono ?_
    rintro e w1 ⟨b1, bs1, rfl, hbb1, hown1, hb1⟩
    have ha2 := ha1.grow hb1
    have hbx1 := hbx.grow hb1
    go_wp2_with (go_at_call 42; refine (specGraphOk_any _ _ g _ hg hown1.at_).mono ?_; rintro e w2 ⟨rfl, hb2⟩; have hbx2 := hbx1.grow hb2; have e0 := hbx2.kind; have e1 := hbx2.num; have e2 := hbx2.text; have e3 := hbx2.node; have e4 := hbx2.sl)
    have hB2 : Below w.heap.size w w2 := gca (gca hB hb1) hb2
    have ha2 := ha.grow hB2
    clear e0 e1 e2 e3 e4 hown1 hb2 hb1 hbb1 hbx hbx1 ha1
    refine (toGraph_any a cap g _ hl hv ha2).mono ?_
    rintro e w3 ⟨b3, bs3, rfl, hbb3, hown3, hb3⟩
    go_wp2_with (go_at_call 44; refine (implGraphOk_any _ _ g _ hg (hown3.at_.grow (gal (gre _) _))).mono ?_; rintro e w4 ⟨rfl, hb4⟩)
    have hx4 : GBox w4 w3.heap.size g (some ⟨b3, 0, none⟩) g.nodes.length := (GBox.new w3 g _ _ _).grow hb4
    have hbx4 : GBox w4 w.heap.size g a cap := hbx2.grow (gca (gal hb3 _) hb4)
    have hB4 : Below w.heap.size w w4 := gca (gal (gca hB2 hb3) _) hb4
    have ha4 : NodesAt w4.drew.heap.size w4.drew a g.nodes := ha.grow (gdr hB4)
    have hn4 : NodesAt w4.drew.heap.size w4.drew (some ⟨b3, 0, none⟩) g.nodes := hown3.at_.grow (gdr (gca (gal (gre _) _) hb4))
    clear hbx2 hb3 hb4 hown3 hB2 ha2 hbb3 hB
    obtain ⟨x, x0, x1, x2, x3, x4⟩ := hx4
    obtain ⟨y, y0, y1, y2, y3, y4⟩ := hbx4
    go_region_held3 (fun u => u.cell? ⟨w3.heap.size, 0, none⟩ = some (.int .i64 g.root.kind) ∧ u.cell? ⟨w3.heap.size, 1, none⟩ = some (.int .i64 g.root.num) ∧ u.cell? ⟨w3.heap.size, 2, none⟩ = some (.string g.root.text) ∧ u.cell? ⟨w3.heap.size, 3, none⟩ = some (.int .i64 g.root.node) ∧ u.cell? ⟨w3.heap.size, 4, none⟩ = some (.slice (some ⟨b3, 0, none⟩) g.nodes.length g.nodes.length) ∧ u.cell? ⟨w.heap.size, 0, none⟩ = some (.int .i64 g.root.kind) ∧ u.cell? ⟨w.heap.size, 1, none⟩ = some (.int .i64 g.root.num) ∧ u.cell? ⟨w.heap.size, 2, none⟩ = some (.string g.root.text) ∧ u.cell? ⟨w.heap.size, 3, none⟩ = some (.int .i64 g.root.node) ∧ u.cell? ⟨w.heap.size, 4, none⟩ = some (.slice a g.nodes.length cap)) (first | go_keep | (go_split_ands; refine ⟨?_, ?_, ?_, ?_, ?_, ?_, ?_, ?_, ?_, ?_⟩ <;> exact cell_later hb5 (by assumption)) | (go_split_ands; refine ⟨?_, ?_, ?_, ?_, ?_, ?_, ?_, ?_, ?_, ?_⟩ <;> exact cell_later hb6 (cell_later hb5 (by assumption)))) (first | (go_at_call 43; refine (toGraph_any a cap g _ hl hv ha4).mono ?_; rintro e w5 ⟨b5, bs5, rfl, hbb5, hown5, hb5⟩) | (go_at_call 45; refine (eqGraph_same _ _ _ _ g _ hg (hn4.grow hb5) hown5.at_).mono ?_; rintro e w6 ⟨rfl, hb6⟩))
    go_wp2
    go_ret
    exact ⟨rfl, gca (gca (gdr hB4) hb5) hb6⟩

end Go.Proofs.Ythjddpkegooobaa
