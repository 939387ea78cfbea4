/-
  IPUT: the program's Put. Own work.
-/
import Derived.Test.YtkefmpegkgpbnabSPut
import Derived.Test.YtkefmpegkgpbnabISync
namespace Go.Proofs.Ytkefmpegkgpbnab
open Go.RowKit

set_option maxHeartbeats 4000000 in
set_option maxRecDepth 100000 in
theorem implPut_any (d : DD) (l : DL) (b : Int) (ka : Option Addr) (ks : List Nat) (kc : Nat) (w : World) (hd : d.Ok) (ha : DAt w l d) (hb : I64 b) (hkl : ks.length ≤ maxLen) (hka : BytesAt w ka ks) : Calls Try.prog 39 #[d.val l, .int .i64 b, .slice ka ks.length kc] w (DPost (d.put b ks) w) := by
  have hA := gal (gal (gal (gre w) (.cells #[.slice l.ba d.blocks.length l.bc, .slice l.wa d.waiting.length l.wc] 50)) (.cells #[.slice none 0 0, .slice none 0 0] 50)) (.cells #[.int .i64 b, .slice ka ks.length kc] 129)
  have hX0 := (DBox.new w d l 50).grow (gal (gal (gre _) (.cells #[.slice none 0 0, .slice none 0 0] 50)) (.cells #[.int .i64 b, .slice ka ks.length kc] 129))
  have hR0 := (VB.new_at (w.alloc (.cells #[.slice l.ba d.blocks.length l.bc, .slice l.wa d.waiting.length l.wc] 50)) (.slice none 0 0) (.slice none 0 0) 50 (w.heap.size + 1) (by simp)).grow (gal (gre _) (.cells #[.int .i64 b, .slice ka ks.length kc] 129))
  have hY0 := VB.new_at ((w.alloc (.cells #[.slice l.ba d.blocks.length l.bc, .slice l.wa d.waiting.length l.wc] 50)).alloc (.cells #[.slice none 0 0, .slice none 0 0] 50)) (.int .i64 b) (.slice ka ks.length kc) 129 (w.heap.size + 1 + 1) (by simp)
  cases hok : d.ok with
  | false =>
    have hok' : Hid _ := hok
    clear hok
    rw [put_no1 hok'.out]
    go_enter Try.func39, Try.ntmps39
    go_wp2_with (go_at_call 37; refine (implDiskOk_any d l _ hd (ha.grow hA)).mono ?_; rintro e w2 ⟨rfl, hb2⟩; rw [hok'.out]; obtain ⟨z0, z1, zf⟩ := hR0.grow hb2)
    obtain ⟨c0, c1, K⟩ := ret2 (A := .slice none 0 0) (B := .slice none 0 0) z0 z1
    refine bodyPost_ret (v := .agg #[.slice none 0 0, .slice none 0 0]) (by simp [results, Try.results39, go_sem, c0, c1]) rfl (DPost.zero ?_)
    exact (gca hA hb2).trans (K.below (gca hA hb2).size (fun z hz e => by omega))
  | true =>
    have hok' : Hid _ := hok
    clear hok
    have hfit := DD.fit hok'.out
    cases hwr : wrOk ⟨b, ks⟩ with
    | false =>
      have hwr' : Hid _ := hwr
      clear hwr
      rw [put_no2 hwr'.out]
      go_enter Try.func39, Try.ntmps39
      go_wp2_with (first
        | (go_at_call 37; refine (implDiskOk_any d l _ hd (ha.grow hA)).mono ?_; rintro e w2 ⟨rfl, hb2⟩; rw [hok'.out]; obtain ⟨y0, y1, yf⟩ := hY0.grow hb2)
        | (go_at_call 97; refine (writeOk_any ⟨b, ks⟩ ka kc _ hb hkl).mono ?_; rintro e w3 ⟨rfl, hb3⟩; rw [hwr'.out]; obtain ⟨z0, z1, zf⟩ := (hR0.grow hb2).grow hb3))
      obtain ⟨c0, c1, K⟩ := ret2 (A := .slice none 0 0) (B := .slice none 0 0) z0 z1
      refine bodyPost_ret (v := .agg #[.slice none 0 0, .slice none 0 0]) (by simp [results, Try.results39, go_sem, c0, c1]) rfl (DPost.zero ?_)
      exact (gca (gca hA hb2) hb3).trans (K.below (gca (gca hA hb2) hb3).size (fun z hz e => by omega))
    | true =>
      have hwr' : Hid _ := hwr
      clear hwr
      have hwl := hfit.wl
      by_cases g3 : d.waiting.length = 200
      · have t3 : ((d.waiting.length : Int) == 200) = true := by simp; omega
        rw [put_no3 g3]
        clear g3
        go_enter Try.func39, Try.ntmps39
        go_wp2_with (first
          | (go_at_call 37; refine (implDiskOk_any d l _ hd (ha.grow hA)).mono ?_; rintro e w2 ⟨rfl, hb2⟩; rw [hok'.out]; obtain ⟨y0, y1, yf⟩ := hY0.grow hb2)
          | (go_at_call 97; refine (writeOk_any ⟨b, ks⟩ ka kc _ hb hkl).mono ?_; rintro e w3 ⟨rfl, hb3⟩; rw [hwr'.out]; obtain ⟨z0, z1, zf⟩ := (hR0.grow hb2).grow hb3; obtain ⟨_, x0, x1⟩ := (hX0.grow hb2).grow hb3))
        obtain ⟨c0, c1, K⟩ := ret2 (A := .slice none 0 0) (B := .slice none 0 0) z0 z1
        refine bodyPost_ret (v := .agg #[.slice none 0 0, .slice none 0 0]) (by simp [results, Try.results39, go_sem, c0, c1]) rfl (DPost.zero ?_)
        exact (gca (gca hA hb2) hb3).trans (K.below (gca (gca hA hb2) hb3).size (fun z hz e => by omega))
      · have t3 : ((d.waiting.length : Int) == 200) = false := by simp; omega
        rw [put_yes hok'.out hwr'.out g3]
        obtain ⟨d', hd'⟩ := hid_ex (DD.mk d.blocks (d.waiting ++ [⟨b, ks⟩]))
        rw [← hd'.out]
        have hn64 : Hid (ks.length = 64) := by have := hwr'.out; simp only [wrOk, Bool.and_eq_true, decide_eq_true_eq] at this; exact this.2
        have hfar0 : ∀ b off, ka = some ⟨b, off, none⟩ → b < w.heap.size := fun b off e => by
          obtain ⟨b', off', e', hc'⟩ := hka 0 (by have := hn64.out; omega)
          have h1 := World.block_lt_of_cell? _ _ hc'
          rw [e] at e'
          have h2 := congrArg (fun q => q.map Addr.block) e'
          simp at h1 h2
          omega
        clear g3
        go_enter Try.func39, Try.ntmps39
        go_upto_region 5 with (first
          | (go_at_call 37; refine (implDiskOk_any d l _ hd (ha.grow hA)).mono ?_; rintro e w2 ⟨rfl, hb2⟩; rw [hok'.out]; obtain ⟨y0, y1, yf⟩ := hY0.grow hb2)
          | (go_at_call 97; refine (writeOk_any ⟨b, ks⟩ ka kc _ hb hkl).mono ?_; rintro e w3 ⟨rfl, hb3⟩; rw [hwr'.out]; obtain ⟨_, x0, x1⟩ := (hX0.grow hb2).grow hb3)
          | (go_at_call 100; refine (driveOf_any d l _ hfit (ha.grow (gca (gca hA hb2) hb3))).mono ?_; rintro e w4 ⟨p, pa, pc, rfl, hp4, hDr, hb4⟩))
        have hR4 := ((hR0.grow hb2).grow hb3).grow hb4
        have hY4 := ((hY0.grow hb2).grow hb3).grow hb4
        have hb3A := gca (gca hA hb2) hb3
        have hb4A := gca hb3A hb4
        have hwp : w.heap.size + 1 + 1 < p := by have := ((hY0.grow hb2).grow hb3).lt; omega
        have hfar : ∀ b off, ka = some ⟨b, off, none⟩ → b < p := fun b off e => by have := hfar0 b off e; omega
        clear x0 x1 y0 y1 yf hX0 hY0 hR0
        obtain ⟨y0, y1, yf⟩ := id hY4
        go_upto_region 6 with (go_at_call 101; refine (take_any ⟨b, ks⟩ ka kc p d.blocks pa pc d.waiting .nilFunc _ hn64.out hwl (hka.grow hb4A) hfar hDr).mono ?_; rintro e w5 ⟨rfl, pa5, pc5, hDr5, hK5⟩)
        have hR5 := hR4.kept hK5 (by omega)
        have hb5A := hb4A.trans (hK5.below (B := w.heap.size) hb4A.size (fun z hz e => by omega))
        clear y0 y1 yf
        go_upto_region 99 with (go_at_call 86; refine (disk_any p _ pa5 pc5 _ _ _ (by rw [List.length_append]; simp; omega) hDr5).mono ?_; rw [← hd'.out]; rintro e w6 ⟨l6, fa, ga, fc, gc, rfl, hmd, hb6⟩; obtain ⟨z0, z1, zf⟩ := hR5.grow hb6)
        obtain ⟨c0, c1, K⟩ := ret2 (A := .slice l6.ba d'.blocks.length l6.bc) (B := .slice l6.wa d'.waiting.length l6.wc) z0 z1
        have hb6A := gca hb5A hb6
        refine bodyPost_ret (v := d'.val l6) (by simp [results, Try.results39, go_sem, c0, c1]) rfl ⟨l6, fa, ga, fc, gc, rfl, hmd.last K (by have := hR5.lt; omega) (by have := hb5A.size; omega) K.size, ?_⟩
        exact hb6A.trans (K.below hb6A.size (fun z hz e => by omega))

theorem put_tame {d : DD} {b : Int} {ks : List Nat} (hd : d.Ok) (hb : I64 b) (hk : BOk ks) : (d.put b ks).Ok ∧ (d.put b ks = zeroD ∨ (d.put b ks).Fit) := by
  cases hok : d.ok with
  | false => rw [put_no1 hok]; exact ⟨⟨Nat.zero_le _, fun b hb => (by cases hb), Nat.zero_le _, fun x hx => (by cases hx), fun x hx => (by cases hx)⟩, Or.inl rfl⟩
  | true =>
    cases hwr : wrOk ⟨b, ks⟩ with
    | false => rw [put_no2 hwr]; exact ⟨⟨Nat.zero_le _, fun b hb => (by cases hb), Nat.zero_le _, fun x hx => (by cases hx), fun x hx => (by cases hx)⟩, Or.inl rfl⟩
    | true =>
      by_cases h : d.waiting.length = 200
      · rw [put_no3 h]; exact ⟨⟨Nat.zero_le _, fun b hb => (by cases hb), Nat.zero_le _, fun x hx => (by cases hx), fun x hx => (by cases hx)⟩, Or.inl rfl⟩
      · have hf := DD.fit hok
        rw [put_yes hok hwr h]
        have hl : (d.waiting ++ [(⟨b, ks⟩ : DW)]).length = d.waiting.length + 1 := by simp
        have hw := hf.wl
        have hwr2 : 0 ≤ b ∧ b < 130 ∧ ks.length = 64 := by
          simp only [wrOk, Bool.and_eq_true, decide_eq_true_eq] at hwr
          exact ⟨hwr.1.1, hwr.1.2, hwr.2⟩
        refine ⟨⟨hd.bl, hd.bb, by show (d.waiting ++ [(⟨b, ks⟩ : DW)]).length ≤ maxLen; rw [hl]; unfold maxLen; omega, fun x hx => ?_, fun x hx => ?_⟩, Or.inr ⟨hf.bl, by show (d.waiting ++ [(⟨b, ks⟩ : DW)]).length ≤ 200; rw [hl]; omega, hf.bb, fun x hx => ?_⟩⟩
        all_goals
          rcases List.mem_append.1 hx with e | e
        · exact hd.wi x e
        · obtain rfl : x = (⟨b, ks⟩ : DW) := by simpa using e
          exact hb
        · exact hd.wb x e
        · obtain rfl : x = (⟨b, ks⟩ : DW) := by simpa using e
          exact hk
        · exact hf.wb x e
        · obtain rfl : x = (⟨b, ks⟩ : DW) := by simpa using e
          exact hwr2

end Go.Proofs.Ytkefmpegkgpbnab
