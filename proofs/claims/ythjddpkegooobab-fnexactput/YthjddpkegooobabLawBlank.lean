/-
  LAW: FnExactBlank, walked. Own work.
-/
import Derived.Test.YthjddpkegooobabTameA
import Derived.Test.YthjddpkegooobabSBlank
namespace Go.Proofs.Ythjddpkegooobab
open Go.RowKit

set_option maxHeartbeats 4000000 in
set_option maxRecDepth 100000 in
theorem lawBlank (w : World) : Calls Try.prog 5 #[] w fun e w' => e = .returned (.bool true) ∧ Below w.heap.size w w' := by
  obtain ⟨d, hd⟩ := hid_ex blankD
  have hfit : d.Fit := by rw [hd.out]; exact blank_fit
  have hok : d.Ok := by rw [hd.out]; exact blank_ok
  have hm := hfit.mend
  obtain ⟨m, hme⟩ := hid_ex (d.mend 1)
  have hmn : ¬ ((m : Int) < 0) := by omega
  have hmm : ((m : Int) != (m : Int)) = false := by simp
  go_enter Try.func5, Try.ntmps5
  go_upto_region 2 with (go_at_call 30; refine (specBlank_any _).mono ?_; rw [← hd.out]; rintro e w1 ⟨l0, rfl, hat0, hb1⟩)
  have hX0 := DBox.new w1 d l0 50
  have hA := gal hb1 (.cells #[.slice l0.ba d.blocks.length l0.bc, .slice l0.wa d.waiting.length l0.wc] 50)
  have hat := hat0.grow (gal (gre w1) (.cells #[.slice l0.ba d.blocks.length l0.bc, .slice l0.wa d.waiting.length l0.wc] 50))
  generalize w1.alloc (.cells #[.slice l0.ba d.blocks.length l0.bc, .slice l0.wa d.waiting.length l0.wc] 50) = wA at hX0 hA hat ⊢
  generalize w1.heap.size = P0 at hX0 ⊢
  clear hat0 hb1
  go_upto_region 3 with (go_at_call 31; refine (implBlank_any _).mono ?_; rw [← hd.out]; rintro e w2 ⟨lg, fa, ga, fc, gc, rfl, hmd0, hb2⟩)
  have hXG := DBox.new w2 d lg 50
  have hB2 := gal hb2 (.cells #[.slice lg.ba d.blocks.length lg.bc, .slice lg.wa d.waiting.length lg.wc] 50)
  have hmd := hmd0.grow (gal (gre w2) (.cells #[.slice lg.ba d.blocks.length lg.bc, .slice lg.wa d.waiting.length lg.wc] 50))
  have hsB : w2.heap.size ≤ (w2.alloc (.cells #[.slice lg.ba d.blocks.length lg.bc, .slice lg.wa d.waiting.length lg.wc] 50)).heap.size := by simp
  generalize w2.alloc (.cells #[.slice lg.ba d.blocks.length lg.bc, .slice lg.wa d.waiting.length lg.wc] 50) = wB at hXG hB2 hmd hsB ⊢
  have hPA := hX0.lt
  have hs2 := hb2.size
  generalize w2.heap.size = PG at hXG hmd hsB hs2 ⊢
  clear hmd0 hb2
  have hXB := hX0.grow hB2
  obtain ⟨_, x0, x1⟩ := id hXB
  obtain ⟨_, g0, g1⟩ := id hXG
  go_upto_region 5 with (go_at_call 32; refine (eqDisk_same d lg l0 _ hok hmd.at_ (hat.grow hB2)).mono ?_; rintro e w3 ⟨rfl, hb3⟩)
  have hB3 := gca hB2 hb3
  have hmd3 := hmd.grow hb3
  have hX3 := hXB.grow hb3
  have hG3 := hXG.grow hb3
  have hs3 := hb3.size
  clear x0 x1 g0 g1 hXB hXG hmd hX0
  obtain ⟨_, g0, g1⟩ := id hG3
  go_upto_region 7 with (go_at_call 33; rw [show (1 : Int) = ((1 : Nat) : Int) by rfl]; refine (markDisk_any d lg 1 wA.heap.size PG fa ga fc gc _ hfit.small hm (by omega) hmd3).mono ?_; rintro e w4 ⟨rfl, hM4, hK4⟩; rw [← hme.out])
  have hX4 := hX3.kept hK4 (fun e => by omega)
  have hG4 := hG3.kept hK4 (fun e => by omega)
  have hB4 := hB3.trans (hK4.below (B := wA.heap.size) hB3.size (fun z hz e => by omega))
  clear g0 g1 hX3 hG3 hmd3 hB3
  obtain ⟨_, g0, g1⟩ := id hG4
  go_upto_region 13 with (go_at_call 34; rw [show (1 : Int) = ((1 : Nat) : Int) by rfl]; refine (heldDisk_any d lg 1 wA.heap.size PG fa ga fc gc _ hfit.small hm hM4).mono ?_; rintro e w5 ⟨rfl, hb5⟩; rw [← hme.out])
  have hB5 := hB4.trans (hb5.mono hB4.size)
  have hX5 := hX4.grow hb5
  have hG5 := hG4.grow hb5
  have hM5 := hM4.grow hb5
  clear g0 g1 hX4 hG4 hM4 hB4
  go_upto_region 14 with (go_at_call 31; refine (implBlank_any _).mono ?_; rw [← hd.out]; rintro e w6 ⟨lh, fa6, ga6, fc6, gc6, rfl, hmd6, hb6⟩)
  have hXH := DBox.new w6 d lh 50
  have hb7 := gal hb6 (.cells #[.slice lh.ba d.blocks.length lh.bc, .slice lh.wa d.waiting.length lh.wc] 50)
  have hmd7 := hmd6.grow (gal (gre w6) (.cells #[.slice lh.ba d.blocks.length lh.bc, .slice lh.wa d.waiting.length lh.wc] 50))
  generalize w6.alloc (.cells #[.slice lh.ba d.blocks.length lh.bc, .slice lh.wa d.waiting.length lh.wc] 50) = w7 at hXH hb7 hmd7 ⊢
  generalize w6.heap.size = PH at hXH hmd7 ⊢
  have hB7 := hB5.trans (hb7.mono hB5.size)
  have hX7 := hX5.grow hb7
  have hG7 := hG5.grow hb7
  have hM7 := hM5.grow hb7
  clear hX5 hG5 hM5 hB5 hb6 hmd6
  obtain ⟨_, x0, x1⟩ := id hX7
  obtain ⟨_, g0, g1⟩ := id hXH
  go_upto_region 16 with (go_at_call 32; refine (eqDisk_same d lh l0 _ hok hmd7.at_ (hat.grow hB7)).mono ?_; rintro e w8 ⟨rfl, hb8⟩)
  have hB8 := hB7.trans (hb8.mono hB7.size)
  have hG8 := hG7.grow hb8
  have hM8 := hM7.grow hb8
  clear x0 x1 g0 g1 hX7 hXH hmd7 hB7 hG7 hM7
  obtain ⟨_, g0, g1⟩ := id hG8
  go_wp2_with (go_at_call 34; rw [show (1 : Int) = ((1 : Nat) : Int) by rfl]; refine (heldDisk_any d lg 1 wA.heap.size PG fa ga fc gc _ hfit.small hm hM8).mono ?_; rintro e w9 ⟨rfl, hb9⟩; rw [← hme.out])
  go_ret
  exact ⟨rfl, hA.trans ((hB8.trans (hb9.mono hB8.size)).mono hA.size)⟩

end Go.Proofs.Ythjddpkegooobab
