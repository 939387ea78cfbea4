/-
  LAW: FnExactDiskOk, walked. Own work.
-/
import Derived.Test.YthjddpkegooobabDSz
import Derived.Test.YthjddpkegooobabDTo
import Derived.Test.YthjddpkegooobabDEq
import Derived.Test.YthjddpkegooobabDOk2
namespace Go.Proofs.Ythjddpkegooobab
open Go.RowKit

set_option maxRecDepth 100000 in
theorem lawDiskOk (d : DD) (l : DL) (w : World) (hd : d.Ok) (ha : DAt w l d) :
    Calls Try.prog 6 #[d.val l] w fun e w' => e = .returned (.bool true) ∧ Below w.heap.size w w' := by
  go_enter Try.func6, Try.ntmps6
  go_wp2_with (go_at_call 35; refine (szDisk_any d l _ _ hd (by decide) (by decide) (ha.grow (gal (gre _) _))).mono ?_; rintro e w' ⟨rfl, hb'⟩; obtain ⟨hc, hf⟩ := bcell hb')
  · go_ret
    exact ⟨rfl, gca (gal (gre _) _) hb'⟩
  · have hsm : d.sz ≤ 1048576 := by have := leftBy_of_nonneg (by assumption); omega
    have hs := DD.small hsm
    have hB : Below w.heap.size w w' := gca (gal (gre _) _) hb'
    have hbx : DBox w' w.heap.size d l := (DBox.new w d l _).grow hb'
    clear hc hf hb' hsm
    have ha1 := ha.grow hB
    refine (toDisk_any d l _ hs ha1).mono ?_
    rintro e w1 ⟨l1, bs1, xs1, rfl, hown1, hb1⟩
    have hbx1 := hbx.grow hb1
    go_wp2_with (go_at_call 36; refine (specDiskOk_any d l1 _ hd hown1.at_).mono ?_; rintro e w2 ⟨rfl, hb2⟩; have hbx2 := hbx1.grow hb2; have e0 := hbx2.c0; have e1 := hbx2.c1)
    have hB2 : Below w.heap.size w w2 := gca (gca hB hb1) hb2
    have ha2 := ha.grow hB2
    clear e0 e1 hown1 hb2 hb1 hbx hbx1 ha1
    refine (toDisk_any d l _ hs ha2).mono ?_
    rintro e w3 ⟨l3, bs3, xs3, rfl, hown3, hb3⟩
    go_wp2_with (go_at_call 38; refine (implDiskOk_any d l3 _ hd (hown3.at_.grow (gal (gre _) _))).mono ?_; rintro e w4 ⟨rfl, hb4⟩)
    have hx4 : DBox w4 w3.heap.size d l3 := (DBox.new w3 d l3 _).grow hb4
    have hbx4 : DBox w4 w.heap.size d l := hbx2.grow (gca (gal hb3 _) hb4)
    have hB4 : Below w.heap.size w w4 := gca (gal (gca hB2 hb3) _) hb4
    have ha4 : DAt w4.drew l d := ha.grow (gdr hB4)
    have hn4 : DAt w4.drew l3 d := hown3.at_.grow (gdr (gca (gal (gre _) _) hb4))
    clear hbx2 hb3 hb4 hown3 hB2 ha2 hB
    obtain ⟨x, x0, x1⟩ := hx4
    obtain ⟨y, y0, y1⟩ := hbx4
    go_region_held3 (fun u => u.cell? ⟨w3.heap.size, 0, none⟩ = some (.slice l3.ba d.blocks.length l3.bc) ∧ u.cell? ⟨w3.heap.size, 1, none⟩ = some (.slice l3.wa d.waiting.length l3.wc) ∧ u.cell? ⟨w.heap.size, 0, none⟩ = some (.slice l.ba d.blocks.length l.bc) ∧ u.cell? ⟨w.heap.size, 1, none⟩ = some (.slice l.wa d.waiting.length l.wc)) (first | go_keep | (go_split_ands; refine ⟨?_, ?_, ?_, ?_⟩ <;> exact cell_later hb5 (by assumption)) | (go_split_ands; refine ⟨?_, ?_, ?_, ?_⟩ <;> exact cell_later hb6 (cell_later hb5 (by assumption)))) (first | (go_at_call 37; refine (toDisk_any d l _ hs ha4).mono ?_; rintro e w5 ⟨l5, bs5, xs5, rfl, hown5, hb5⟩) | (go_at_call 32; refine (eqDisk_same d _ _ _ hd (hn4.grow hb5) hown5.at_).mono ?_; rintro e w6 ⟨rfl, hb6⟩))
    go_wp2
    go_ret
    exact ⟨rfl, gca (gca (gdr hB4) hb5) hb6⟩

end Go.Proofs.Ythjddpkegooobab
