/-
  SSYNC: the specification's Sync and Crash. Own work.
-/
import Derived.Test.YthjddpkegooobabSAll
namespace Go.Proofs.Ythjddpkegooobab
open Go.RowKit

theorem calls_args {P : Program} {f : Nat} {a b : Array Value} {w : World} {Q : Ending → World → Prop} (h : Calls P f a w Q) (e : a = b) : Calls P f b w Q := by subst e; exact h
theorem CPost.zero {w w' : World} (h : Below w.heap.size w w') : CPost zeroD w (.returned (.agg #[.slice none 0 0, .slice none 0 0])) w' := ⟨[], [], none, 0, none, 0, rfl, rfl, rfl, SB.nil _ _, SW.nil _ _, h⟩
theorem CPost.at_ {d : DD} {w w' : World} {e : Ending} (h : CPost d w e w') : SBPost d w e w' := by
  obtain ⟨lb, lw, ba, bc, wa, wc, rfl, h1, h2, h3, h4, h5⟩ := h
  refine ⟨_, rfl, ⟨?_, ?_⟩, h5⟩
  · have := h3.at_
    rwa [h1] at this
  · have := h4.at_
    rwa [h2] at this

set_option maxRecDepth 100000 in
theorem specSync_any (d : DD) (l : DL) (w : World) (hd : d.Ok) (ha : DAt w l d) : Calls Try.prog 41 #[d.val l] w (CPost (d.settle keepAll) w) := by
  have hA := gal (gal (gre w) (.cells #[.slice l.ba d.blocks.length l.bc, .slice l.wa d.waiting.length l.wc] 50)) (.cells #[.slice none 0 0, .slice none 0 0] 50)
  have hX0 := (DBox.new w d l 50).grow (gal (gre _) (.cells #[.slice none 0 0, .slice none 0 0] 50))
  have hR0 := VB.new_at (w.alloc (.cells #[.slice l.ba d.blocks.length l.bc, .slice l.wa d.waiting.length l.wc] 50)) (.slice none 0 0) (.slice none 0 0) 50 (w.heap.size + 1) (by simp)
  cases hok : d.ok with
  | false =>
    have hok' : Hid _ := hok
    clear hok
    rw [settle_no hok'.out]
    go_enter Try.func41, Try.ntmps41
    go_wp2_with (go_at_call 36; refine (specDiskOk_any d l _ hd (ha.grow hA)).mono ?_; rintro e w2 ⟨rfl, hb2⟩; rw [hok'.out]; obtain ⟨z0, z1, zf⟩ := hR0.grow hb2)
    obtain ⟨c0, c1, K⟩ := ret2 (A := .slice none 0 0) (B := .slice none 0 0) z0 z1
    refine bodyPost_ret (v := .agg #[.slice none 0 0, .slice none 0 0]) (by simp [results, Try.results41, go_sem, c0, c1]) rfl (CPost.zero ?_)
    exact (gca hA hb2).trans (K.below (gca hA hb2).size (fun z hz e => by omega))
  | true =>
    have hok' : Hid _ := hok
    clear hok
    have hsn : settleN (keepOf (List.replicate d.waiting.length true)) d.blocks d.waiting d.waiting.length = settleN keepAll d.blocks d.waiting d.waiting.length := settleN_congr _ _ _ (fun i hi => keepOf_all hi)
    rw [settle_yes hok'.out, ← hsn]
    obtain ⟨d', hd'⟩ := hid_ex (DD.mk (settleN (keepOf (List.replicate d.waiting.length true)) d.blocks d.waiting d.waiting.length) [])
    rw [← hd'.out]
    clear hsn
    go_enter Try.func41, Try.ntmps41
    go_upto_region 3 with (go_at_call 36; refine (specDiskOk_any d l _ hd (ha.grow hA)).mono ?_; rintro e w2 ⟨rfl, hb2⟩; rw [hok'.out])
    have hX2 := hX0.grow hb2
    have hR2 := hR0.grow hb2
    have hb2A := gca hA hb2
    refine wp_regionU (fun u => DBox u w.heap.size d l) 6 (by kernel_rfl) (hX2.grow (gdr (gre w2))) (fun hS0 => ?_)
    have hRd := hR2.grow (gdr (gre w2))
    have hbd := gdr hb2A
    generalize w2.drew = wd at hRd hbd hS0 ⊢
    refine anyU_take (i := 0) (v := ?_) rfl (by kernel_rfl) (by kernel_rfl) (by kernel_rfl) (by kernel_rfl) (fun _ _ _ h => h) (Or.inl ⟨by rfl, ?_⟩) hS0 ?_
    rotate_left
    · intro u hSu; obtain ⟨_, s0, s1⟩ := hSu; go_simp <;> with_reducible rfl
    simp only [Act.put, List.getElem_toArray, List.getElem_cons_zero, List.setIfInBounds_toArray, List.set_cons_zero, List.set_cons_succ]
    refine anyU_take (i := 1) (v := ?_) rfl (by kernel_rfl) (by kernel_rfl) (by kernel_rfl) (by kernel_rfl) (fun _ _ _ h => h) (Or.inl ⟨by rfl, ?_⟩) hS0 ?_
    rotate_left
    · intro u hSu; obtain ⟨_, s0, s1⟩ := hSu; go_simp <;> with_reducible rfl
    simp only [Act.put, List.getElem_toArray, List.getElem_cons_zero, List.getElem_cons_succ, List.setIfInBounds_toArray, List.set_cons_zero, List.set_cons_succ]
    refine anyU_take (i := 2) (v := ?_) rfl (by kernel_rfl) (by kernel_rfl) (by kernel_rfl) (by kernel_rfl) (fun _ _ _ h => h) (Or.inl ⟨by rfl, ?_⟩) hS0 ?_
    rotate_left
    · intro u hSu; obtain ⟨_, s0, s1⟩ := hSu; go_simp <;> with_reducible rfl
    simp only [Act.put, List.getElem_toArray, List.getElem_cons_zero, List.getElem_cons_succ, List.setIfInBounds_toArray, List.set_cons_zero, List.set_cons_succ]
    refine anyU_take (i := 3) (v := ?_) rfl (by kernel_rfl) (by kernel_rfl) (by kernel_rfl) (by kernel_rfl) (fun _ _ _ h => h) (Or.inl ⟨by rfl, ?_⟩) hS0 ?_
    rotate_left
    · intro u hSu; obtain ⟨_, s0, s1⟩ := hSu; go_simp <;> with_reducible rfl
    simp only [Act.put, List.getElem_toArray, List.getElem_cons_zero, List.getElem_cons_succ, List.setIfInBounds_toArray, List.set_cons_zero, List.set_cons_succ]
    refine anyU_one (i := 4) (by kernel_rfl) rfl (fun K hK => ?_)
    go_simp
    refine (l3all_any d.waiting.length _ (by have := (DD.fit hok'.out).wl; omega)).mono ?_
    rintro e w3 ⟨kb, rfl, hks, hb3⟩
    have hS3 := hS0.grow hb3
    refine hK.out _ _ hS3 ?_
    clear hK
    refine anyU_one (i := 5) (by kernel_rfl) rfl (fun K hK => ?_)
    go_simp
    have hll : (List.replicate d.waiting.length true).length = d.waiting.length := List.length_replicate
    refine (calls_args (l3settle_any d l (some ⟨kb, 0, none⟩) (List.replicate d.waiting.length true) d.waiting.length w3 (DD.fit hok'.out) (ha.grow (gca hbd hb3)) (by rw [hll]; exact hd.wl) hks) (by rw [hll])).mono ?_
    rw [← hd'.out]
    rintro e w4 ⟨lb, lw, ba, bc, wa, wc, rfl, hlb, hlw, hL4, hW4, hb4⟩
    have hS4 := hS3.grow hb4
    refine hK.out _ _ hS4 ?_
    clear hK
    have hR4 := (hRd.grow hb3).grow hb4
    have z0 := hR4.v0
    have z1 := hR4.v1
    have zf := hR4.vf
    refine anyU_last (by kernel_rfl) rfl (by kernel_rfl) (fun K hK => ?_)
    go_simp
    refine hK.out _ _ ?_
    clear hK
    have hball := gca (gca hbd hb3) hb4
    go_wp2
    obtain ⟨c0, c1, K⟩ := ret2 (A := .slice ba d'.blocks.length bc) (B := .slice wa d'.waiting.length wc) z0 z1
    have hRl : w.heap.size + 1 < w3.heap.size := by have := hRd.lt; have := hb3.size; omega
    have hfL := ((hL4.set (V := w.heap.size + 1) hRl 0 (.slice ba d'.blocks.length bc)).set (V := w.heap.size + 1) hRl 1 (.slice wa d'.waiting.length wc)).le (base' := w.heap.size) (by omega)
    have hfW := ((hW4.set (V := w.heap.size + 1) hRl 0 (.slice ba d'.blocks.length bc)).set (V := w.heap.size + 1) hRl 1 (.slice wa d'.waiting.length wc)).le (base' := w.heap.size) (by omega)
    refine bodyPost_ret (v := .agg #[.slice ba d'.blocks.length bc, .slice wa d'.waiting.length wc]) (by simp [results, Try.results41, go_sem, c0, c1]) rfl ⟨lb, lw, ba, bc, wa, wc, rfl, hlb, hlw, hfL, hfW, ?_⟩
    exact hball.trans (K.below hball.size (fun z hz e => by omega))

end Go.Proofs.Ythjddpkegooobab
