/-
  SSYNC: the specification's Sync and Crash. Own work.
-/
import Derived.Test.YthjddpkegooobabSSyncA
namespace Go.Proofs.Ythjddpkegooobab
open Go.RowKit

set_option maxRecDepth 100000 in
theorem specCrash_any (d : DD) (l : DL) (ka : Option Addr) (ks : List Bool) (kc : Nat) (w : World) (hd : d.Ok) (ha : DAt w l d) (hkl : ks.length ≤ maxLen) (hk0 : BoolsAt w ka ks) : Calls Try.prog 45 #[d.val l, .slice ka ks.length kc] w (CPost (d.settle (keepOf ks)) w) := by
  have hA := gal (gal (gre w) (.cells #[.slice l.ba d.blocks.length l.bc, .slice l.wa d.waiting.length l.wc] 50)) (.cells #[.slice none 0 0, .slice none 0 0] 50)
  have hX0 := (DBox.new w d l 50).grow (gal (gre _) (.cells #[.slice none 0 0, .slice none 0 0] 50))
  have hR0 := VB.new_at (w.alloc (.cells #[.slice l.ba d.blocks.length l.bc, .slice l.wa d.waiting.length l.wc] 50)) (.slice none 0 0) (.slice none 0 0) 50 (w.heap.size + 1) (by simp)
  cases hok : d.ok with
  | false =>
    have hok' : Hid _ := hok
    clear hok
    rw [settle_no hok'.out]
    go_enter Try.func45, Try.ntmps45
    go_wp2_with (go_at_call 36; refine (specDiskOk_any d l _ hd (ha.grow hA)).mono ?_; rintro e w2 ⟨rfl, hb2⟩; rw [hok'.out]; obtain ⟨z0, z1, zf⟩ := hR0.grow hb2)
    obtain ⟨c0, c1, K⟩ := ret2 (A := .slice none 0 0) (B := .slice none 0 0) z0 z1
    refine bodyPost_ret (v := .agg #[.slice none 0 0, .slice none 0 0]) (by simp [results, Try.results45, go_sem, c0, c1]) rfl (CPost.zero ?_)
    exact (gca hA hb2).trans (K.below (gca hA hb2).size (fun z hz e => by omega))
  | true =>
    have hok' : Hid _ := hok
    clear hok
    rw [settle_yes hok'.out]
    obtain ⟨d', hd'⟩ := hid_ex (DD.mk (settleN (keepOf ks) d.blocks d.waiting d.waiting.length) [])
    rw [← hd'.out]
    go_enter Try.func45, Try.ntmps45
    go_wp2_with (first
      | (go_at_call 36; refine (specDiskOk_any d l _ hd (ha.grow hA)).mono ?_; rintro e w2 ⟨rfl, hb2⟩; rw [hok'.out]; obtain ⟨_, x0, x1⟩ := hX0.grow hb2)
      | (go_at_call 106; refine (l3settle_any d l ka ks kc _ (DD.fit hok'.out) (ha.grow (gca hA hb2)) hkl (hk0.grow (gca hA hb2))).mono ?_; rw [← hd'.out]; rintro e w3 ⟨lb, lw, ba, bc, wa, wc, rfl, hlb, hlw, hL3, hW3, hb3⟩; obtain ⟨z0, z1, zf⟩ := (hR0.grow hb2).grow hb3))
    have hball := gca (gca hA hb2) hb3
    obtain ⟨c0, c1, K⟩ := ret2 (A := .slice ba d'.blocks.length bc) (B := .slice wa d'.waiting.length wc) z0 z1
    have hRl : w.heap.size + 1 < w2.heap.size := by have := hb2.size; simp at this; omega
    have hfL := ((hL3.set (V := w.heap.size + 1) hRl 0 (.slice ba d'.blocks.length bc)).set (V := w.heap.size + 1) hRl 1 (.slice wa d'.waiting.length wc)).le (base' := w.heap.size) (by omega)
    have hfW := ((hW3.set (V := w.heap.size + 1) hRl 0 (.slice ba d'.blocks.length bc)).set (V := w.heap.size + 1) hRl 1 (.slice wa d'.waiting.length wc)).le (base' := w.heap.size) (by omega)
    refine bodyPost_ret (v := .agg #[.slice ba d'.blocks.length bc, .slice wa d'.waiting.length wc]) (by simp [results, Try.results45, go_sem, c0, c1]) rfl ⟨lb, lw, ba, bc, wa, wc, rfl, hlb, hlw, hfL, hfW, ?_⟩
    exact hball.trans (K.below hball.size (fun z hz e => by omega))

end Go.Proofs.Ythjddpkegooobab
