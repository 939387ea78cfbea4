/-
  IPUT: the program's Put. Own work.
-/
import Derived.Test.YthjddpkegooobabIPutA
import Derived.Test.YthjddpkegooobabISync
namespace Go.Proofs.Ythjddpkegooobab
open Go.RowKit

set_option maxHeartbeats 4000000 in
set_option maxRecDepth 100000 in
theorem implPut_any (d : DD) (l : DL) (b : Int) (ka : Option Addr) (ks : List Nat) (kc : Nat) (w : World) (hd : d.Ok) (ha : DAt w l d) (hb : I64 b) (hkl : ks.length ≤ maxLen) (hka : BytesAt w ka ks) : Calls Try.prog 40 #[d.val l, .int .i64 b, .slice ka ks.length kc] w (DPost (d.put b ks) w) := by
  have hA := gal (gal (gre w) (.cells #[.slice l.ba d.blocks.length l.bc, .slice l.wa d.waiting.length l.wc] 50)) (.cells #[.slice none 0 0, .slice none 0 0] 50)
  have hX0 := (DBox.new w d l 50).grow (gal (gre _) (.cells #[.slice none 0 0, .slice none 0 0] 50))
  have hR0 := VB.new_at (w.alloc (.cells #[.slice l.ba d.blocks.length l.bc, .slice l.wa d.waiting.length l.wc] 50)) (.slice none 0 0) (.slice none 0 0) 50 (w.heap.size + 1) (by simp)
  cases hok : d.ok with
  | false =>
    have hok' : Hid _ := hok
    clear hok
    rw [put_no1 hok'.out]
    go_enter Try.func40, Try.ntmps40
    go_wp2_with (go_at_call 38; refine (implDiskOk_any d l _ hd (ha.grow hA)).mono ?_; rintro e w2 ⟨rfl, hb2⟩; rw [hok'.out]; obtain ⟨z0, z1, zf⟩ := hR0.grow hb2)
    obtain ⟨c0, c1, K⟩ := ret2 (A := .slice none 0 0) (B := .slice none 0 0) z0 z1
    refine bodyPost_ret (v := .agg #[.slice none 0 0, .slice none 0 0]) (by simp [results, Try.results40, go_sem, c0, c1]) rfl (DPost.zero ?_)
    exact (gca hA hb2).trans (K.below (gca hA hb2).size (fun z hz e => by omega))
  | true =>
    have hok' : Hid _ := hok
    clear hok
    have hfit := DD.fit hok'.out
    have hwl := hfit.wl
    by_cases hno : wrOk ⟨b, ks⟩ = false ∨ d.waiting.length = 200
    · have hno' : Hid _ := hno
      have hz : d.put b ks = zeroD := by
        rcases hno with h | h
        · exact put_no2 h
        · exact put_no3 h
      rw [hz]
      clear hno hz
      go_enter Try.func40, Try.ntmps40
      go_wp2_with (first
        | (go_at_call 38; refine (implDiskOk_any d l _ hd (ha.grow hA)).mono ?_; rintro e w2 ⟨rfl, hb2⟩; rw [hok'.out]; obtain ⟨_, x0, x1⟩ := hX0.grow hb2)
        | (go_at_call 104; refine (driveOf_any d l _ hfit (ha.grow (gca hA hb2))).mono ?_; rintro e w4 ⟨p, pa, pc, rfl, hp4, hDr, hb4⟩)
        | (go_at_call 105; refine (drvPut_no ⟨b, ks⟩ ka kc p d.blocks pa pc d.waiting .nilFunc _ hb hkl (by omega) hno'.out hDr).mono ?_; rintro e w5 ⟨rfl, hb5⟩; obtain ⟨z0, z1, zf⟩ := ((hR0.grow hb2).grow hb4).grow hb5))
      obtain ⟨c0, c1, K⟩ := ret2 (A := .slice none 0 0) (B := .slice none 0 0) z0 z1
      refine bodyPost_ret (v := .agg #[.slice none 0 0, .slice none 0 0]) (by simp [results, Try.results40, go_sem, c0, c1]) rfl (DPost.zero ?_)
      exact (gca (gca (gca hA hb2) hb4) hb5).trans (K.below (gca (gca (gca hA hb2) hb4) hb5).size (fun z hz e => by omega))
    · obtain ⟨hwr, g3⟩ : wrOk ⟨b, ks⟩ = true ∧ d.waiting.length ≠ 200 := ⟨by cases h : wrOk ⟨b, ks⟩ with | true => rfl | false => exact absurd (Or.inl h) hno, fun h => hno (Or.inr h)⟩
      have hwr' : Hid _ := hwr
      have g3' : Hid _ := g3
      rw [put_yes hok'.out hwr g3]
      clear hwr g3 hno
      obtain ⟨d', hd'⟩ := hid_ex (DD.mk d.blocks (d.waiting ++ [⟨b, ks⟩]))
      rw [← hd'.out]
      have hn64 : Hid (ks.length = 64) := by have := hwr'.out; simp only [wrOk, Bool.and_eq_true, decide_eq_true_eq] at this; exact this.2
      have hfar0 : ∀ b off, ka = some ⟨b, off, none⟩ → b < w.heap.size := fun b off e => by
        obtain ⟨b', off', e', hc'⟩ := hka 0 (by have := hn64.out; omega)
        have h1 := World.block_lt_of_cell? _ _ hc'
        rw [e] at e'
        have h2 := congrArg (fun q => q.map Addr.block) e'
        simp at h1 h2
        omega
      go_enter Try.func40, Try.ntmps40
      go_wp2_with (first
        | (go_at_call 38; refine (implDiskOk_any d l _ hd (ha.grow hA)).mono ?_; rintro e w2 ⟨rfl, hb2⟩; rw [hok'.out]; obtain ⟨_, x0, x1⟩ := hX0.grow hb2)
        | (go_at_call 104; refine (driveOf_any d l _ hfit (ha.grow (gca hA hb2))).mono ?_; rintro e w4 ⟨p, pa, pc, rfl, hp4, hDr, hb4⟩; have hR4 := (hR0.grow hb2).grow hb4; have hb4A := gca (gca hA hb2) hb4; have hwp : w.heap.size + 1 < p := (by have := (hR0.grow hb2).lt; omega); have hfar : ∀ b off, ka = some ⟨b, off, none⟩ → b < p := (fun b off e => by have := hfar0 b off e; omega))
        | (go_at_call 105; refine (drvPut_yes ⟨b, ks⟩ ka kc p d.blocks pa pc d.waiting .nilFunc _ hb hkl (by omega) hwr'.out g3'.out (hka.grow hb4A) hfar hDr).mono ?_; rintro e w5 ⟨rfl, pa5, pc5, hDr5, hK5⟩; have hR5 := hR4.kept hK5 (by omega); have hb5A := hb4A.trans (hK5.below (B := w.heap.size) hb4A.size (fun z hz e => by omega)))
        | (go_at_call 90; refine (disk_any p _ pa5 pc5 _ _ _ (by rw [List.length_append]; simp; have := g3'.out; omega) hDr5).mono ?_; rw [← hd'.out]; rintro e w6 ⟨l6, fa, ga, fc, gc, rfl, hmd, hb6⟩; obtain ⟨z0, z1, zf⟩ := hR5.grow hb6))
      obtain ⟨c0, c1, K⟩ := ret2 (A := .slice l6.ba d'.blocks.length l6.bc) (B := .slice l6.wa d'.waiting.length l6.wc) z0 z1
      have hb6A := gca hb5A hb6
      refine bodyPost_ret (v := d'.val l6) (by simp [results, Try.results40, go_sem, c0, c1]) rfl ⟨l6, fa, ga, fc, gc, rfl, hmd.last K (by have := hR5.lt; omega) (by have := hb5A.size; omega) K.size, ?_⟩
      exact hb6A.trans (K.below hb6A.size (fun z hz e => by omega))

end Go.Proofs.Ythjddpkegooobab
