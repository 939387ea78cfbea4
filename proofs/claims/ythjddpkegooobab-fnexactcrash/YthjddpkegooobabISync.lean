/-
  ISYNC: the program's Sync and Crash. Own work.
-/
import Derived.Test.YthjddpkegooobabISyncA
import Derived.Test.YthjddpkegooobabICrash
import Derived.Test.YthjddpkegooobabSSync
import Derived.Test.YthjddpkegooobabDPow2
import Derived.Test.YthjddpkegooobabIBlank
import Derived.Laws.EntriesVeiled
namespace Go.Proofs.Ythjddpkegooobab
open Go.RowKit

set_option maxHeartbeats 1000000 in
set_option maxRecDepth 100000 in
theorem implSync_any (d : DD) (l : DL) (w : World) (hd : d.Ok) (ha : DAt w l d) : Calls Try.prog 42 #[d.val l] w (DPost (d.settle keepAll) w) := by
  have hA := gal (gal (gre w) (.cells #[.slice l.ba d.blocks.length l.bc, .slice l.wa d.waiting.length l.wc] 50)) (.cells #[.slice none 0 0, .slice none 0 0] 50)
  have hX0 := (DBox.new w d l 50).grow (gal (gre _) (.cells #[.slice none 0 0, .slice none 0 0] 50))
  have hR0 := VB.new_at (w.alloc (.cells #[.slice l.ba d.blocks.length l.bc, .slice l.wa d.waiting.length l.wc] 50)) (.slice none 0 0) (.slice none 0 0) 50 (w.heap.size + 1) (by simp)
  cases hok : d.ok with
  | false =>
    have hok' : Hid _ := hok
    clear hok
    rw [settle_no hok'.out]
    go_enter Try.func42, Try.ntmps42
    go_wp2_with (go_at_call 38; refine (implDiskOk_any d l _ hd (ha.grow hA)).mono ?_; rintro e w2 ⟨rfl, hb2⟩; rw [hok'.out]; obtain ⟨z0, z1, zf⟩ := hR0.grow hb2)
    obtain ⟨c0, c1, K⟩ := ret2 (A := .slice none 0 0) (B := .slice none 0 0) z0 z1
    refine bodyPost_ret (v := .agg #[.slice none 0 0, .slice none 0 0]) (by simp [results, Try.results42, go_sem, c0, c1]) rfl (DPost.zero ?_)
    exact (gca hA hb2).trans (K.below (gca hA hb2).size (fun z hz e => by omega))
  | true =>
    have hok' : Hid _ := hok
    clear hok
    have hfit := DD.fit hok'.out
    rw [settle_yes hok'.out]
    obtain ⟨d', hd'⟩ := hid_ex (DD.mk (settleN keepAll d.blocks d.waiting d.waiting.length) [])
    rw [← hd'.out]
    go_enter Try.func42, Try.ntmps42
    go_upto_region 4 with (first
      | (go_at_call 38; refine (implDiskOk_any d l _ hd (ha.grow hA)).mono ?_; rintro e w2 ⟨rfl, hb2⟩; rw [hok'.out]; obtain ⟨_, x0, x1⟩ := hX0.grow hb2)
      | (go_at_call 104; refine (driveOf_any d l _ hfit (ha.grow (gca hA hb2))).mono ?_; rintro e w3 ⟨p, pa, pc, rfl, hp3, hDr, hb3⟩))
    have hR3 := (hR0.grow hb2).grow hb3
    have hb3A := gca (gca hA hb2) hb3
    have hRp : w.heap.size + 1 < p := by have := (hR0.grow hb2).lt; omega
    have hwp : w.heap.size ≤ p := by have := (gca hA hb2).size; omega
    go_upto_region 5 with (go_at_call 108; refine (sync_any p d.blocks pa pc d.waiting _ _ (by have := hfit.wl; omega) (fun x hx => ⟨(hfit.wb x hx).1, (hfit.wb x hx).2.1⟩) hDr).mono ?_; rintro e w5 ⟨rfl, hDr5, hb5⟩)
    have hR5 := hR3.below hb5 hRp
    have hb5A := hb3A.trans (hb5.mono hwp)
    go_upto_region 99 with (go_at_call 90; refine (disk_any p _ none 0 [] _ _ (by decide) hDr5).mono ?_; rw [← hd'.out]; rintro e w6 ⟨l6, fa, ga, fc, gc, rfl, hmd, hb6⟩; obtain ⟨z0, z1, zf⟩ := hR5.grow hb6)
    obtain ⟨c0, c1, K⟩ := ret2 (A := .slice l6.ba d'.blocks.length l6.bc) (B := .slice l6.wa d'.waiting.length l6.wc) z0 z1
    have hb6A := gca hb5A hb6
    refine bodyPost_ret (v := d'.val l6) (by simp [results, Try.results42, go_sem, c0, c1]) rfl ⟨l6, fa, ga, fc, gc, rfl, hmd.last K (by have := hR5.lt; omega) (by have := hb5A.size; omega) K.size, ?_⟩
    exact hb6A.trans (K.below hb6A.size (fun z hz e => by omega))

end Go.Proofs.Ythjddpkegooobab
