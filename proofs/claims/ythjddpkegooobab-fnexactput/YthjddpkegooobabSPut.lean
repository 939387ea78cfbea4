/-
  SPUT: the specification's Put. Own work.
-/
import Derived.Test.YthjddpkegooobabSSyncA
namespace Go.Proofs.Ythjddpkegooobab
open Go.RowKit

/-- a disk's variable -/
def IsD (w : World) (b : Nat) : Prop := ∃ c, w.heap[b]? = some (.cells c 50 (0, 0))
theorem IsD.kept {p : Nat → Prop} {w w' : World} {b : Nat} (h : IsD w b) (K : Kept p w w') (hn : ¬ p b) : IsD w' b := by
  obtain ⟨c, hc⟩ := h
  exact ⟨c, (K.block b (Array.getElem?_eq_some_iff.1 hc).1 hn).trans hc⟩
theorem IsD.grow {w w' : World} {b : Nat} (h : IsD w b) (hb : Below w.heap.size w w') : IsD w' b := h.kept (Kept.of_below hb (fun _ => False)) (fun e => e)
theorem not_W_of_D {w : World} {b : Nat} (h : IsD w b) : ¬ IsW w b := fun ⟨c, hc⟩ => by
  obtain ⟨c', hc'⟩ := h
  rw [hc] at hc'
  simp at hc'
theorem not_B_of_D {w : World} {b : Nat} (h : IsD w b) : ¬ IsB w b := fun ⟨c, hc⟩ => by
  obtain ⟨c', hc'⟩ := h
  rw [hc] at hc'
  simp at hc'
theorem not_S_of_D {w : World} {b : Nat} (h : IsD w b) : ¬ IsS w b := fun ⟨c, hc⟩ => by
  obtain ⟨c', hc'⟩ := h
  rw [hc] at hc'
  simp at hc'
theorem put_no1 {d : DD} {b : Int} {bs : List Nat} (h : d.ok = false) : d.put b bs = zeroD := by simp [DD.put, h]
theorem put_no2 {d : DD} {b : Int} {bs : List Nat} (h : wrOk ⟨b, bs⟩ = false) : d.put b bs = zeroD := by simp [DD.put, h]
theorem put_no3 {d : DD} {b : Int} {bs : List Nat} (h : d.waiting.length = 200) : d.put b bs = zeroD := by simp [DD.put, h]
theorem put_yes {d : DD} {b : Int} {bs : List Nat} (h : d.ok = true) (h2 : wrOk ⟨b, bs⟩ = true) (h3 : d.waiting.length ≠ 200) : d.put b bs = ⟨d.blocks, d.waiting ++ [⟨b, bs⟩]⟩ := by simp [DD.put, h, h2, h3]

set_option maxHeartbeats 4000000 in
set_option maxRecDepth 100000 in
theorem specPut_any (d : DD) (l : DL) (b : Int) (ka : Option Addr) (ks : List Nat) (kc : Nat) (w : World) (hd : d.Ok) (ha : DAt w l d) (_hb : I64 b) (hkl : ks.length ≤ maxLen) (hka : BytesAt w ka ks) : Calls Try.prog 39 #[d.val l, .int .i64 b, .slice ka ks.length kc] w (CPost (d.put b ks) w) := by
  have hA := gal (gal (gre w) (.cells #[.slice l.ba d.blocks.length l.bc, .slice l.wa d.waiting.length l.wc] 50)) (.cells #[.slice none 0 0, .slice none 0 0] 50)
  have hX0 := (DBox.new w d l 50).grow (gal (gre _) (.cells #[.slice none 0 0, .slice none 0 0] 50))
  have hR0 := VB.new_at (w.alloc (.cells #[.slice l.ba d.blocks.length l.bc, .slice l.wa d.waiting.length l.wc] 50)) (.slice none 0 0) (.slice none 0 0) 50 (w.heap.size + 1) (by simp)
  have hkl' := hkl
  unfold maxLen at hkl'
  cases hok : d.ok with
  | false =>
    have hok' : Hid _ := hok
    clear hok
    rw [put_no1 hok'.out]
    go_enter Try.func39, Try.ntmps39
    go_wp2_with (go_at_call 36; refine (specDiskOk_any d l _ hd (ha.grow hA)).mono ?_; rintro e w2 ⟨rfl, hb2⟩; rw [hok'.out]; obtain ⟨z0, z1, zf⟩ := hR0.grow hb2; obtain ⟨_, x0, x1⟩ := hX0.grow hb2)
    obtain ⟨c0, c1, K⟩ := ret2 (A := .slice none 0 0) (B := .slice none 0 0) z0 z1
    refine bodyPost_ret (v := .agg #[.slice none 0 0, .slice none 0 0]) (by simp [results, Try.results39, go_sem, c0, c1]) rfl (CPost.zero ?_)
    exact (gca hA hb2).trans (K.below (gca hA hb2).size (fun z hz e => by omega))
  | true =>
    have hok' : Hid _ := hok
    clear hok
    have hfit := DD.fit hok'.out
    by_cases g0 : b < 0
    · rw [put_no2 (by simp [wrOk]; omega)]
      go_enter Try.func39, Try.ntmps39
      go_wp2_with (go_at_call 36; refine (specDiskOk_any d l _ hd (ha.grow hA)).mono ?_; rintro e w2 ⟨rfl, hb2⟩; rw [hok'.out]; obtain ⟨z0, z1, zf⟩ := hR0.grow hb2; obtain ⟨_, x0, x1⟩ := hX0.grow hb2)
      obtain ⟨c0, c1, K⟩ := ret2 (A := .slice none 0 0) (B := .slice none 0 0) z0 z1
      refine bodyPost_ret (v := .agg #[.slice none 0 0, .slice none 0 0]) (by simp [results, Try.results39, go_sem, c0, c1]) rfl (CPost.zero ?_)
      exact (gca hA hb2).trans (K.below (gca hA hb2).size (fun z hz e => by omega))
    · by_cases g1 : b ≥ 130
      · rw [put_no2 (by simp [wrOk]; omega)]
        go_enter Try.func39, Try.ntmps39
        go_wp2_with (go_at_call 36; refine (specDiskOk_any d l _ hd (ha.grow hA)).mono ?_; rintro e w2 ⟨rfl, hb2⟩; rw [hok'.out]; obtain ⟨z0, z1, zf⟩ := hR0.grow hb2; obtain ⟨_, x0, x1⟩ := hX0.grow hb2)
        obtain ⟨c0, c1, K⟩ := ret2 (A := .slice none 0 0) (B := .slice none 0 0) z0 z1
        refine bodyPost_ret (v := .agg #[.slice none 0 0, .slice none 0 0]) (by simp [results, Try.results39, go_sem, c0, c1]) rfl (CPost.zero ?_)
        exact (gca hA hb2).trans (K.below (gca hA hb2).size (fun z hz e => by omega))
      · by_cases g2 : ks.length = 64
        · have hn64 : Hid _ := g2
          have t2 : ((ks.length : Int) != 64) = false := by simp; omega
          by_cases g3 : d.waiting.length = 200
          · have t3 : ((d.waiting.length : Int) == 200) = true := by simp; omega
            rw [put_no3 g3]
            clear g2 g3
            go_enter Try.func39, Try.ntmps39
            go_wp2_with (go_at_call 36; refine (specDiskOk_any d l _ hd (ha.grow hA)).mono ?_; rintro e w2 ⟨rfl, hb2⟩; rw [hok'.out]; obtain ⟨z0, z1, zf⟩ := hR0.grow hb2; obtain ⟨_, x0, x1⟩ := hX0.grow hb2)
            obtain ⟨c0, c1, K⟩ := ret2 (A := .slice none 0 0) (B := .slice none 0 0) z0 z1
            refine bodyPost_ret (v := .agg #[.slice none 0 0, .slice none 0 0]) (by simp [results, Try.results39, go_sem, c0, c1]) rfl (CPost.zero ?_)
            exact (gca hA hb2).trans (K.below (gca hA hb2).size (fun z hz e => by omega))
          · have t3 : ((d.waiting.length : Int) == 200) = false := by simp; omega
            rw [put_yes hok'.out (by simp [wrOk, g2]; omega) g3]
            obtain ⟨k0, hkk, hk0, hk1, hk2⟩ := info_parts info_implWrite
            have hs : d.Small := ⟨by have := hfit.bl; omega, fun b hb => by have := hfit.bb b hb; omega, by have := hfit.wl; omega, fun x hx => by have := (hfit.wb x hx).2.2; omega⟩
            clear g2 g3
            go_enter Try.func39, Try.ntmps39
            go_upto_region 4 with (first
              | (go_at_call 36; refine (specDiskOk_any d l _ hd (ha.grow hA)).mono ?_; rintro e w1 ⟨rfl, hb1⟩; rw [hok'.out]; obtain ⟨_, x0, x1⟩ := hX0.grow hb1)
              | (go_at_call 102; refine (l3copy_any d l _ hs (ha.grow (gca hA hb1))).mono ?_; rintro e w2 ⟨lb, lw, ba, bc, wa, wc, rfl, hlb, hlw, hL2, hW2, hb2⟩))
            have hAl := gal (gre w2) (.cells #[.slice ba d.blocks.length bc, .slice wa d.waiting.length wc] 50)
            have hL3 := hL2.grow hAl
            have hW3 := hW2.grow hAl
            have hV3 := VB.new w2 (.slice ba d.blocks.length bc) (.slice wa d.waiting.length wc) 50
            have hD3 : IsD (w2.alloc (.cells #[.slice ba d.blocks.length bc, .slice wa d.waiting.length wc] 50)) w2.heap.size := ⟨_, blk_new_at _ _ _ rfl⟩
            have hR3 := (hR0.grow hb1).grow (gca hb2 hAl)
            have hb3A := gca (gca hA hb1) (gca hb2 hAl)
            have hbs : Hid (w.heap.size + 1 < w1.heap.size) := (hR0.grow hb1).lt
            have hVb : Hid (w1.heap.size ≤ w2.heap.size) := hb2.size
            have hlwl : Hid (lw.length = d.waiting.length) := by show _ = _; rw [← hlw]; simp
            generalize w2.alloc (.cells #[.slice ba d.blocks.length bc, .slice wa d.waiting.length wc] 50) = w3 at hAl hL3 hW3 hV3 hD3 hR3 hb3A ⊢
            generalize w2.heap.size = V at hV3 hD3 hVb ⊢
            generalize w1.heap.size = base at hL3 hW3 hbs hVb
            clear hAl hL2 hW2 hb2 hb1 x0 x1 hX0 hA
            refine wp_regionU (fun u => u.cell? ⟨V, 1, none⟩ = some (.slice wa d.waiting.length wc)) 9 (by kernel_rfl) (hV3.grow (gdr (gre w3))).v1 (fun hS0 => ?_)
            have hLd := hL3.grow (gdr (gre w3))
            have hWd := hW3.grow (gdr (gre w3))
            have hVd := hV3.grow (gdr (gre w3))
            have hRd := hR3.grow (gdr (gre w3))
            have hDd := hD3.grow (gdr (gre w3))
            have hbd := gdr hb3A
            have hvd := (hka.grow hb3A).grow (gdr (gre w3))
            generalize w3.drew = wd at hLd hWd hVd hRd hDd hbd hvd hS0 ⊢
            refine anyU_take (i := 0) (v := ?_) rfl (by kernel_rfl) (by kernel_rfl) (by kernel_rfl) (by kernel_rfl) (fun _ _ _ h => h) (Or.inl ⟨by rfl, ?_⟩) hS0 ?_
            rotate_left
            · intro u hSu; (try dsimp only at hSu); go_simp <;> with_reducible rfl
            simp only [Act.put, List.getElem_toArray, List.getElem_cons_zero, List.setIfInBounds_toArray, List.set_cons_zero, List.set_cons_succ]
            refine anyU_take (i := 1) (v := ?_) rfl (by kernel_rfl) (by kernel_rfl) (by kernel_rfl) (by kernel_rfl) (fun _ _ _ h => h) (Or.inl ⟨by rfl, ?_⟩) hS0 ?_
            rotate_left
            · intro u hSu; (try dsimp only at hSu); go_simp <;> with_reducible rfl
            simp only [Act.put, List.getElem_toArray, List.getElem_cons_zero, List.getElem_cons_succ, List.setIfInBounds_toArray, List.set_cons_zero, List.set_cons_succ]
            refine anyU_take (i := 2) (v := ?_) rfl (by kernel_rfl) (by kernel_rfl) (by kernel_rfl) (by kernel_rfl) (fun _ _ _ h => h) (Or.inl ⟨by rfl, ?_⟩) hS0 ?_
            rotate_left
            · intro u hSu; (try dsimp only at hSu); go_simp <;> with_reducible rfl
            simp only [Act.put, List.getElem_toArray, List.getElem_cons_zero, List.getElem_cons_succ, List.setIfInBounds_toArray, List.set_cons_zero, List.set_cons_succ]
            refine anyU_take (i := 3) (v := ?_) rfl (by kernel_rfl) (by kernel_rfl) (by kernel_rfl) (by kernel_rfl) (fun _ _ _ h => h) (Or.inl ⟨by rfl, ?_⟩) hS0 ?_
            rotate_left
            · intro u hSu; (try dsimp only at hSu); go_simp <;> with_reducible rfl
            simp only [Act.put, List.getElem_toArray, List.getElem_cons_zero, List.getElem_cons_succ, List.setIfInBounds_toArray, List.set_cons_zero, List.set_cons_succ]
            refine anyU_one (i := 4) (by kernel_rfl) rfl (fun K hK => ?_)
            go_simp
            refine (l2copy_any ka ks kc _ (by have := hn64.out; omega) hvd).mono ?_
            rintro e w4 ⟨oa, oc, rfl, hoy, hB1⟩
            have hS1 := cell_later hB1 hS0
            refine hK.out _ _ hS1 ?_
            clear hK
            have hL1 := hLd.grow hB1
            have hW1 := hWd.grow hB1
            have hV1 := hVd.grow hB1
            have hR1 := hRd.grow hB1
            have hD1 := hDd.grow hB1
            have hbel1 := gca hbd hB1
            have hy : w4.ownsRow base 5 1 (.slice oa ks.length oc) ks.length (bcells ks) := owns_le hoy (by have := hVd.lt; have := hVb.out; omega)
            refine anyU_one (i := 5) (by kernel_rfl) rfl (fun K hK => ?_)
            go_simp
            refine hK.out _ _ hS1 ?_
            clear hK
            have hB2 := gal (gre w4) (.cells #[.int .i64 b, .slice oa ks.length oc] 133)
            have hS2 := cell_later hB2 hS1
            have hS2' : Hid _ := hS2
            clear hS2
            refine anyU_one (i := 6) (by kernel_rfl) rfl (fun K hK => ?_)
            go_simp
            refine hK.out _ _ hS2'.out ?_
            clear hK
            have hL2 := hL1.grow hB2
            have hW2 := hW1.grow hB2
            have hV2 := hV1.grow hB2
            have hR2 := hR1.grow hB2
            have hD2 := hD1.grow hB2
            have hbel2 := gca hbel1 hB2
            have hy2 := (Kept.of_below hB2 (fun _ => False)).owns hy (fun _ _ e => e)
            have hnew := World.news_of_block (cs := #[.int .i64 b, .slice oa ks.length oc]) (t := 133) (fr := (0, 0)) (blk_new_at w4 (.cells #[.int .i64 b, .slice oa ks.length oc] 133) _ rfl)
            have hs2 : (w4.alloc (.cells #[.int .i64 b, .slice oa ks.length oc] 133)).heap.size = w4.heap.size + 1 := by simp
            generalize w4.alloc (.cells #[.int .i64 b, .slice oa ks.length oc] 133) = w5 at hB2 hS2' hL2 hW2 hV2 hR2 hD2 hbel2 hy2 hnew hs2 ⊢
            have hwl := hfit.wl
            refine anyU_one (i := 7) (by kernel_rfl) rfl (fun K hK => ?_)
            refine step_append_lies _ (by rfl) (.tmp 34) (.tmp 39) 48 rfl base 133 k0 _ 2 32 Try.underlying48 hkk hk0 hk1 hk2 rfl (by decide) (.slice wa d.waiting.length wc) d.waiting.length (wCells lw) (by rfl) (by have := hW2.own; rw [hlwl.out] at this; exact this) ⟨w4.heap.size, 0, none⟩ 1 1 [.int .i64 b, .slice oa ks.length oc] (by rfl) rfl hnew (by simp [Value.oneCell']) (by decide) (by unfold maxLen; omega) (by omega) (by have := hV2.lt; have := hVb.out; omega) (w4.heap.size + 1) hs2 ?_
            intro gg cc w6 hown5 hgrow5 hat5 hlt5
            have K5 := Kept.of_grown hgrow5
            have hz5 : ∀ z, (Value.slice wa d.waiting.length wc).ownBlock = some z → IsW w5 z ∧ base ≤ z := fun z e => by have h8 := hW2.own; rw [hlwl.out] at h8; exact owns_isW h8 e
            have hW5 := hW2.push (y := ⟨⟨b, ks⟩, oa, oc⟩) hy2 (by rw [hlwl.out]; exact hown5) (by rw [hlwl.out]; exact hgrow5)
            have hL5 := hL2.kept K5 (fun z e _ => ⟨fun hS => not_W_of_S hS (hz5 z e).1, not_B_of_W (hz5 z e).1⟩)
            have hV5 := hV2.kept K5 (fun e => not_W_of_D hD2 (hz5 _ e).1)
            have hR5 := hR2.kept K5 (fun e => by have := (hz5 _ e).2; have := hbs.out; omega)
            have hD5 := hD2.kept K5 (fun e => not_W_of_D hD2 (hz5 _ e).1)
            refine hK.out _ _ hV5.v1 ?_
            clear hK
            simp only [Act.put, List.getElem_toArray, List.getElem_cons_zero, List.getElem_cons_succ, List.setIfInBounds_toArray, List.set_cons_zero, List.set_cons_succ]
            refine anyU_one (i := 8) (by kernel_rfl) rfl (fun K hK => ?_)
            go_simp
            refine hK.out _ _ hV5.v1 ?_
            clear hK
            have fz := hV5.vf
            have c8 := hV5.v1
            refine anyU_last (by kernel_rfl) rfl (by kernel_rfl) (fun K hK => ?_)
            go_simp
            refine hK.out _ _ ?_
            clear hK
            have hbel5 := hbel2.trans (K5.below (B := w.heap.size) hbel2.size (fun z hz e => by have := (hz5 _ e).2; have := hbs.out; omega))
            have K6 := Kept.one w6 V 1 (.slice (some ⟨gg, 0, none⟩) (d.waiting.length + 1) cc)
            have hW6 := hW5.kept K6 (fun z e _ => by subst e; exact ⟨not_W_of_D hD5, not_B_of_D hD5⟩)
            have hL6 := hL5.kept K6 (fun z e _ => by subst e; exact ⟨not_S_of_D hD5, not_B_of_D hD5⟩)
            have hV6 := hV5.set1 (.slice (some ⟨gg, 0, none⟩) (d.waiting.length + 1) cc)
            have hR6 := hR5.kept K6 (by have := hVb.out; have := hbs.out; omega)
            have hbel6 := hbel5.trans (K6.below (B := w.heap.size) hbel5.size (fun z hz e => by have := hVb.out; have := hbs.out; omega))
            generalize w6.setCell ⟨V, 1, none⟩ (.slice (some ⟨gg, 0, none⟩) (d.waiting.length + 1) cc) = w7 at hW6 hL6 hV6 hR6 hbel6 ⊢
            have y0 := hV6.v0
            have y1 := hV6.v1
            have z0 := hR6.v0
            have z1 := hR6.v1
            have zf := hR6.vf
            obtain ⟨c0, c1, K⟩ := ret2 (A := .slice ba d.blocks.length bc) (B := .slice (some ⟨gg, 0, none⟩) (d.waiting.length + 1) cc) z0 z1
            have hRb : w.heap.size + 1 < base := by have := hbs.out; omega
            have hfL := ((hL6.set (V := w.heap.size + 1) hRb 0 (.slice ba d.blocks.length bc)).set (V := w.heap.size + 1) hRb 1 (.slice (some ⟨gg, 0, none⟩) (d.waiting.length + 1) cc)).le (base' := w.heap.size) (by omega)
            have hfW := ((hW6.set (V := w.heap.size + 1) hRb 0 (.slice ba d.blocks.length bc)).set (V := w.heap.size + 1) hRb 1 (.slice (some ⟨gg, 0, none⟩) (d.waiting.length + 1) cc)).le (base' := w.heap.size) (by omega)
            have hbel := hbel6.trans (K.below hbel6.size (fun z hz e => by omega))
            clear K hRb
            go_wp2
            refine bodyPost_ret (v := .agg #[.slice ba d.blocks.length bc, .slice (some ⟨gg, 0, none⟩) (d.waiting.length + 1) cc]) (by simp [results, Try.results39, go_sem, c0, c1]) rfl ⟨lb, lw ++ [⟨⟨b, ks⟩, oa, oc⟩], ba, bc, some ⟨gg, 0, none⟩, cc, by simp [DD.val], hlb, by rw [List.map_append, hlw]; rfl, hfL, hfW, hbel⟩
        · have t2 : ((ks.length : Int) != 64) = true := by simp; omega
          rw [put_no2 (by simp [wrOk, g2])]
          clear g2
          go_enter Try.func39, Try.ntmps39
          go_wp2_with (go_at_call 36; refine (specDiskOk_any d l _ hd (ha.grow hA)).mono ?_; rintro e w2 ⟨rfl, hb2⟩; rw [hok'.out]; obtain ⟨z0, z1, zf⟩ := hR0.grow hb2; obtain ⟨_, x0, x1⟩ := hX0.grow hb2)
          obtain ⟨c0, c1, K⟩ := ret2 (A := .slice none 0 0) (B := .slice none 0 0) z0 z1
          refine bodyPost_ret (v := .agg #[.slice none 0 0, .slice none 0 0]) (by simp [results, Try.results39, go_sem, c0, c1]) rfl (CPost.zero ?_)
          exact (gca hA hb2).trans (K.below (gca hA hb2).size (fun z hz e => by omega))

end Go.Proofs.Ythjddpkegooobab
