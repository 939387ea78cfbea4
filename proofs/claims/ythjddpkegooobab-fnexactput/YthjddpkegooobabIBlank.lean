/-
  IBLANK: the program's Blank. Own work.
-/
import Derived.Test.YthjddpkegooobabIBlankA
namespace Go.Proofs.Ythjddpkegooobab
open Go.RowKit

set_option maxRecDepth 100000 in
theorem implBlank_any (w : World) : Calls Try.prog 31 #[] w (DPost blankD w) := by
  obtain ⟨Z, hZ⟩ := hid_ex driveZ.toArray
  have hz : ∀ u, (zeroValue 126).run Try.prog u = .ok (.agg Z) u := by rw [hZ.out]; exact (zero_of_info zero_drive).1
  have hw1 := gal (gre w) (.cells #[.slice none 0 0, .slice none 0 0] 50)
  have hs1 : (w.alloc (.cells #[.slice none 0 0, .slice none 0 0] 50)).heap.size = w.heap.size + 1 := by simp
  have r0 : (w.alloc (.cells #[.slice none 0 0, .slice none 0 0] 50)).cell? ⟨w.heap.size, 0, none⟩ = some (.slice none 0 0) := by simp
  have r1 : (w.alloc (.cells #[.slice none 0 0, .slice none 0 0] 50)).cell? ⟨w.heap.size, 1, none⟩ = some (.slice none 0 0) := by simp
  have rf : ∀ o, (w.alloc (.cells #[.slice none 0 0, .slice none 0 0] 50)).frozen? ⟨w.heap.size, o, none⟩ = false := fun o => by simp
  have hN0 := Drv.new (w.alloc (.cells #[.slice none 0 0, .slice none 0 0] 50))
  rw [← hZ.out, hs1] at hN0
  have hD0 : Dr _ (w.heap.size + 1) blankD.blocks none 0 [] .nilFunc := ⟨hN0, owns_none _ _ _ _, fun x hx => by cases hx⟩
  go_enter Try.func31, Try.ntmps31
  go_wp2_with (first
    | (refine wpList_alloc_big rfl 126 rfl Z hz ?_)
    | (go_at_call 90; refine (disk_any (w.heap.size + 1) blankD.blocks none 0 [] .nilFunc _ (by decide) hD0).mono ?_; rintro e w2 ⟨l, fa, ga, fc, gc, rfl, hmd, hb2⟩; have hb3 := gca (gal (gre _) (.cells Z 126)) hb2; have z0 := cell_later hb3 r0; have z1 := cell_later hb3 r1; have zf : ∀ o, w2.frozen? ⟨w.heap.size, o, none⟩ = false := (fun o => (hb3.frozen (p := ⟨w.heap.size, o, none⟩) (by show w.heap.size < _; omega)).trans (rf o))))
  obtain ⟨c0, c1, K⟩ := ret2 (A := .slice l.ba blankD.blocks.length l.bc) (B := .slice l.wa 0 l.wc) z0 z1
  refine bodyPost_ret (v := blankD.val l) (by simp [results, Try.results31, go_sem, c0, c1]; rfl) rfl ⟨l, fa, ga, fc, gc, rfl, MD.last (d := blankD) hmd K (by simp; omega) (by simp; omega) K.size, ?_⟩
  exact (gca hw1 hb3).trans (K.below (by have := hb3.size; omega) (fun z hz e => by omega))

end Go.Proofs.Ythjddpkegooobab
