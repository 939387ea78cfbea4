import Derived.Laws.EntriesVeiled
import Derived.Test.YthjddpkegooobaaPartM

/-
  SPUT: the specification's Put. Own work.
-/
namespace Go.Proofs.Ythjddpkegooobaa
open Go.RowKit

/-- a disk's variable -/
def IsD (w : World) (b : Nat) : Prop := ∃ c, w.heap[b]? = some (.cells c 44 (0, 0))
theorem IsD.kept {p : Nat → Prop} {w w' : World} {b : Nat} (h : IsD w b) (K : Kept p w w') (hn : ¬ p b) : IsD w' b := by
  obtain ⟨c, hc⟩ := h
  exact ⟨c, (K.block b (Array.getElem?_eq_some_iff.1 hc).1 hn).trans hc⟩
theorem IsD.grow {w w' : World} {b : Nat} (h : IsD w b) (hb : Below w.heap.size w w') : IsD w' b := h.kept (Kept.of_below hb (fun _ => False)) (fun e => e)
theorem not_W_of_D {w : World} {b : Nat} (h : IsD w b) : ¬ IsW w b := fun ⟨c, hc⟩ => by
  obtain ⟨c', hc'⟩ := h
  rw [hc] at hc'
  simp at hc'
theorem not_B_of_D {w : World} {b : Nat} (h : IsD w b) : ¬ IsB w b := fun ⟨c, hc⟩ => by
  obtain ⟨c', hc'⟩ := h
  rw [hc] at hc'
  simp at hc'
theorem not_S_of_D {w : World} {b : Nat} (h : IsD w b) : ¬ IsS w b := fun ⟨c, hc⟩ => by
  obtain ⟨c', hc'⟩ := h
  rw [hc] at hc'
  simp at hc'
theorem put_no1 {d : DD} {b : Int} {bs : List Nat} (h : d.ok = false) : d.put b bs = zeroD := by simp [DD.put, h]
theorem put_no2 {d : DD} {b : Int} {bs : List Nat} (h : wrOk ⟨b, bs⟩ = false) : d.put b bs = zeroD := by simp [DD.put, h]
theorem put_no3 {d : DD} {b : Int} {bs : List Nat} (h : d.waiting.length = 200) : d.put b bs = zeroD := by simp [DD.put, h]
theorem put_yes {d : DD} {b : Int} {bs : List Nat} (h : d.ok = true) (h2 : wrOk ⟨b, bs⟩ = true) (h3 : d.waiting.length ≠ 200) : d.put b bs = ⟨d.blocks, d.waiting ++ [⟨b, bs⟩]⟩ := by simp [DD.put, h, h2, h3]

set_option maxHeartbeats 4000000 in
set_option maxRecDepth 100000 in
theorem specPut_any (d : DD) (l : DL) (b : Int) (ka : Option Addr) (ks : List Nat) (kc : Nat) (w : World) (hd : d.Ok) (ha : DAt w l d) (_hb : I64 b) (hkl : ks.length ≤ maxLen) (hka : BytesAt w ka ks) : Calls Try.prog 30 #[d.val l, .int .i64 b, .slice ka ks.length kc] w (CPost (d.put b ks) w) := by
  have hA := gal (gal (gre w) (.cells #[.slice l.ba d.blocks.length l.bc, .slice l.wa d.waiting.length l.wc] 44)) (.cells #[.slice none 0 0, .slice none 0 0] 44)
  have hX0 := (DBox.new w d l 44).grow (gal (gre _) (.cells #[.slice none 0 0, .slice none 0 0] 44))
  have hR0 := VB.new_at (w.alloc (.cells #[.slice l.ba d.blocks.length l.bc, .slice l.wa d.waiting.length l.wc] 44)) (.slice none 0 0) (.slice none 0 0) 44 (w.heap.size + 1) (by simp)
  have hkl' := hkl
  unfold maxLen at hkl'
  cases hok : d.ok with
  | false =>
    have hok' : Hid _ := hok
    clear hok
    rw [put_no1 hok'.out]
    go_enter Try.func30, Try.ntmps30
    go_wp2_with (go_at_call 27; refine (specDiskOk_any d l _ hd (ha.grow hA)).mono ?_; rintro e w2 ⟨rfl, hb2⟩; rw [hok'.out]; obtain ⟨z0, z1, zf⟩ := hR0.grow hb2; obtain ⟨_, x0, x1⟩ := hX0.grow hb2)
    obtain ⟨c0, c1, K⟩ := ret2 (A := .slice none 0 0) (B := .slice none 0 0) z0 z1
    refine bodyPost_ret (v := .agg #[.slice none 0 0, .slice none 0 0]) (by simp [results, Try.results30, go_sem, c0, c1]) rfl (CPost.zero ?_)
    exact (gca hA hb2).trans (K.below (gca hA hb2).size (fun z hz e => by omega))
  | true =>
    have hok' : Hid _ := hok
    clear hok
    have hfit := DD.fit hok'.out
    by_cases g0 : b < 0
    · rw [put_no2 (by simp [wrOk]; omega)]
      go_enter Try.func30, Try.ntmps30
      go_wp2_with (go_at_call 27; refine (specDiskOk_any d l _ hd (ha.grow hA)).mono ?_; rintro e w2 ⟨rfl, hb2⟩; rw [hok'.out]; obtain ⟨z0, z1, zf⟩ := hR0.grow hb2; obtain ⟨_, x0, x1⟩ := hX0.grow hb2)
      obtain ⟨c0, c1, K⟩ := ret2 (A := .slice none 0 0) (B := .slice none 0 0) z0 z1
      refine bodyPost_ret (v := .agg #[.slice none 0 0, .slice none 0 0]) (by simp [results, Try.results30, go_sem, c0, c1]) rfl (CPost.zero ?_)
      exact (gca hA hb2).trans (K.below (gca hA hb2).size (fun z hz e => by omega))
    · by_cases g1 : b ≥ 130
      · rw [put_no2 (by simp [wrOk]; omega)]
        go_enter Try.func30, Try.ntmps30
        go_wp2_with (go_at_call 27; refine (specDiskOk_any d l _ hd (ha.grow hA)).mono ?_; rintro e w2 ⟨rfl, hb2⟩; rw [hok'.out]; obtain ⟨z0, z1, zf⟩ := hR0.grow hb2; obtain ⟨_, x0, x1⟩ := hX0.grow hb2)
        obtain ⟨c0, c1, K⟩ := ret2 (A := .slice none 0 0) (B := .slice none 0 0) z0 z1
        refine bodyPost_ret (v := .agg #[.slice none 0 0, .slice none 0 0]) (by simp [results, Try.results30, go_sem, c0, c1]) rfl (CPost.zero ?_)
        exact (gca hA hb2).trans (K.below (gca hA hb2).size (fun z hz e => by omega))
      · by_cases g2 : ks.length = 64
        · have hn64 : Hid _ := g2
          have t2 : ((ks.length : Int) != 64) = false := by simp; omega
          by_cases g3 : d.waiting.length = 200
          · have t3 : ((d.waiting.length : Int) == 200) = true := by simp; omega
            rw [put_no3 g3]
            clear g2 g3
            go_enter Try.func30, Try.ntmps30
            go_wp2_with (go_at_call 27; refine (specDiskOk_any d l _ hd (ha.grow hA)).mono ?_; rintro e w2 ⟨rfl, hb2⟩; rw [hok'.out]; obtain ⟨z0, z1, zf⟩ := hR0.grow hb2; obtain ⟨_, x0, x1⟩ := hX0.grow hb2)
            obtain ⟨c0, c1, K⟩ := ret2 (A := .slice none 0 0) (B := .slice none 0 0) z0 z1
            refine bodyPost_ret (v := .agg #[.slice none 0 0, .slice none 0 0]) (by simp [results, Try.results30, go_sem, c0, c1]) rfl (CPost.zero ?_)
            exact (gca hA hb2).trans (K.below (gca hA hb2).size (fun z hz e => by omega))
          · have t3 : ((d.waiting.length : Int) == 200) = false := by simp; omega
            rw [put_yes hok'.out (by simp [wrOk, g2]; omega) g3]
            obtain ⟨k0, hkk, hk0, hk1, hk2⟩ := info_parts info_implWrite
            have hs : d.Small := ⟨by have := hfit.bl; omega, fun b hb => by have := hfit.bb b hb; omega, by have := hfit.wl; omega, fun x hx => by have := (hfit.wb x hx).2.2; omega⟩
            clear g2 g3
            go_enter Try.func30, Try.ntmps30
            go_upto_region 4 with (first
              | (go_at_call 27; refine (specDiskOk_any d l _ hd (ha.grow hA)).mono ?_; rintro e w1 ⟨rfl, hb1⟩; rw [hok'.out]; obtain ⟨_, x0, x1⟩ := hX0.grow hb1)
              | (go_at_call 84; refine (l3copy_any d l _ hs (ha.grow (gca hA hb1))).mono ?_; rintro e w2 ⟨lb, lw, ba, bc, wa, wc, rfl, hlb, hlw, hL2, hW2, hb2⟩))
            have hAl := gal (gre w2) (.cells #[.slice ba d.blocks.length bc, .slice wa d.waiting.length wc] 44)
            have hL3 := hL2.grow hAl
            have hW3 := hW2.grow hAl
            have hV3 := VB.new w2 (.slice ba d.blocks.length bc) (.slice wa d.waiting.length wc) 44
            have hD3 : IsD (w2.alloc (.cells #[.slice ba d.blocks.length bc, .slice wa d.waiting.length wc] 44)) w2.heap.size := ⟨_, blk_new_at _ _ _ rfl⟩
            have hR3 := (hR0.grow hb1).grow (gca hb2 hAl)
            have hb3A := gca (gca hA hb1) (gca hb2 hAl)
            have hbs : Hid (w.heap.size + 1 < w1.heap.size) := (hR0.grow hb1).lt
            have hVb : Hid (w1.heap.size ≤ w2.heap.size) := hb2.size
            have hlwl : Hid (lw.length = d.waiting.length) := by show _ = _; rw [← hlw]; simp
            generalize w2.alloc (.cells #[.slice ba d.blocks.length bc, .slice wa d.waiting.length wc] 44) = w3 at hAl hL3 hW3 hV3 hD3 hR3 hb3A ⊢
            generalize w2.heap.size = V at hV3 hD3 hVb ⊢
            generalize w1.heap.size = base at hL3 hW3 hbs hVb
            clear hAl hL2 hW2 hb2 hb1 x0 x1 hX0 hA
            refine wp_regionU (fun u => u.cell? ⟨V, 1, none⟩ = some (.slice wa d.waiting.length wc)) 9 (by kernel_rfl) (hV3.grow (gdr (gre w3))).v1 (fun hS0 => ?_)
            have hLd := hL3.grow (gdr (gre w3))
            have hWd := hW3.grow (gdr (gre w3))
            have hVd := hV3.grow (gdr (gre w3))
            have hRd := hR3.grow (gdr (gre w3))
            have hDd := hD3.grow (gdr (gre w3))
            have hbd := gdr hb3A
            have hvd := (hka.grow hb3A).grow (gdr (gre w3))
            generalize w3.drew = wd at hLd hWd hVd hRd hDd hbd hvd hS0 ⊢
            refine anyU_take (i := 0) (v := ?_) rfl (by kernel_rfl) (by kernel_rfl) (by kernel_rfl) (by kernel_rfl) (fun _ _ _ h => h) (Or.inl ⟨by rfl, ?_⟩) hS0 ?_
            rotate_left
            · intro u hSu; (try dsimp only at hSu); go_simp <;> with_reducible rfl
            simp only [Act.put, List.getElem_toArray, List.getElem_cons_zero, List.setIfInBounds_toArray, List.set_cons_zero, List.set_cons_succ]
            refine anyU_take (i := 1) (v := ?_) rfl (by kernel_rfl) (by kernel_rfl) (by kernel_rfl) (by kernel_rfl) (fun _ _ _ h => h) (Or.inl ⟨by rfl, ?_⟩) hS0 ?_
            rotate_left
            · intro u hSu; (try dsimp only at hSu); go_simp <;> with_reducible rfl
            simp only [Act.put, List.getElem_toArray, List.getElem_cons_zero, List.getElem_cons_succ, List.setIfInBounds_toArray, List.set_cons_zero, List.set_cons_succ]
            refine anyU_take (i := 2) (v := ?_) rfl (by kernel_rfl) (by kernel_rfl) (by kernel_rfl) (by kernel_rfl) (fun _ _ _ h => h) (Or.inl ⟨by rfl, ?_⟩) hS0 ?_
            rotate_left
            · intro u hSu; (try dsimp only at hSu); go_simp <;> with_reducible rfl
            simp only [Act.put, List.getElem_toArray, List.getElem_cons_zero, List.getElem_cons_succ, List.setIfInBounds_toArray, List.set_cons_zero, List.set_cons_succ]
            refine anyU_take (i := 3) (v := ?_) rfl (by kernel_rfl) (by kernel_rfl) (by kernel_rfl) (by kernel_rfl) (fun _ _ _ h => h) (Or.inl ⟨by rfl, ?_⟩) hS0 ?_
            rotate_left
            · intro u hSu; (try dsimp only at hSu); go_simp <;> with_reducible rfl
            simp only [Act.put, List.getElem_toArray, List.getElem_cons_zero, List.getElem_cons_succ, List.setIfInBounds_toArray, List.set_cons_zero, List.set_cons_succ]
            refine anyU_one (i := 4) (by kernel_rfl) rfl (fun K hK => ?_)
            go_simp
            refine (l2copy_any ka ks kc _ (by have := hn64.out; omega) hvd).mono ?_
            rintro e w4 ⟨oa, oc, rfl, hoy, hB1⟩
            have hS1 := cell_later hB1 hS0
            refine hK.out _ _ hS1 ?_
            clear hK
            have hL1 := hLd.grow hB1
            have hW1 := hWd.grow hB1
            have hV1 := hVd.grow hB1
            have hR1 := hRd.grow hB1
            have hD1 := hDd.grow hB1
            have hbel1 := gca hbd hB1
            have hy : w4.ownsRow base 5 1 (.slice oa ks.length oc) ks.length (bcells ks) := owns_le hoy (by have := hVd.lt; have := hVb.out; omega)
            refine anyU_one (i := 5) (by kernel_rfl) rfl (fun K hK => ?_)
            go_simp
            refine hK.out _ _ hS1 ?_
            clear hK
            have hB2 := gal (gre w4) (.cells #[.int .i64 b, .slice oa ks.length oc] 104)
            have hS2 := cell_later hB2 hS1
            have hS2' : Hid _ := hS2
            clear hS2
            refine anyU_one (i := 6) (by kernel_rfl) rfl (fun K hK => ?_)
            go_simp
            refine hK.out _ _ hS2'.out ?_
            clear hK
            have hL2 := hL1.grow hB2
            have hW2 := hW1.grow hB2
            have hV2 := hV1.grow hB2
            have hR2 := hR1.grow hB2
            have hD2 := hD1.grow hB2
            have hbel2 := gca hbel1 hB2
            have hy2 := (Kept.of_below hB2 (fun _ => False)).owns hy (fun _ _ e => e)
            have hnew := World.news_of_block (cs := #[.int .i64 b, .slice oa ks.length oc]) (t := 104) (fr := (0, 0)) (blk_new_at w4 (.cells #[.int .i64 b, .slice oa ks.length oc] 104) _ rfl)
            have hs2 : (w4.alloc (.cells #[.int .i64 b, .slice oa ks.length oc] 104)).heap.size = w4.heap.size + 1 := by simp
            generalize w4.alloc (.cells #[.int .i64 b, .slice oa ks.length oc] 104) = w5 at hB2 hS2' hL2 hW2 hV2 hR2 hD2 hbel2 hy2 hnew hs2 ⊢
            have hwl := hfit.wl
            refine anyU_one (i := 7) (by kernel_rfl) rfl (fun K hK => ?_)
            refine step_append_lies _ (by rfl) (.tmp 34) (.tmp 39) 42 rfl base 104 k0 _ 2 32 Try.underlying42 hkk hk0 hk1 hk2 rfl (by decide) (.slice wa d.waiting.length wc) d.waiting.length (wCells lw) (by rfl) (by have := hW2.own; rw [hlwl.out] at this; exact this) ⟨w4.heap.size, 0, none⟩ 1 1 [.int .i64 b, .slice oa ks.length oc] (by rfl) rfl hnew (by simp [Value.oneCell']) (by decide) (by unfold maxLen; omega) (by omega) (by have := hV2.lt; have := hVb.out; omega) (w4.heap.size + 1) hs2 ?_
            intro gg cc w6 hown5 hgrow5 hat5 hlt5
            have K5 := Kept.of_grown hgrow5
            have hz5 : ∀ z, (Value.slice wa d.waiting.length wc).ownBlock = some z → IsW w5 z ∧ base ≤ z := fun z e => by have h8 := hW2.own; rw [hlwl.out] at h8; exact owns_isW h8 e
            have hW5 := hW2.push (y := ⟨⟨b, ks⟩, oa, oc⟩) hy2 (by rw [hlwl.out]; exact hown5) (by rw [hlwl.out]; exact hgrow5)
            have hL5 := hL2.kept K5 (fun z e _ => ⟨fun hS => not_W_of_S hS (hz5 z e).1, not_B_of_W (hz5 z e).1⟩)
            have hV5 := hV2.kept K5 (fun e => not_W_of_D hD2 (hz5 _ e).1)
            have hR5 := hR2.kept K5 (fun e => by have := (hz5 _ e).2; have := hbs.out; omega)
            have hD5 := hD2.kept K5 (fun e => not_W_of_D hD2 (hz5 _ e).1)
            refine hK.out _ _ hV5.v1 ?_
            clear hK
            simp only [Act.put, List.getElem_toArray, List.getElem_cons_zero, List.getElem_cons_succ, List.setIfInBounds_toArray, List.set_cons_zero, List.set_cons_succ]
            refine anyU_one (i := 8) (by kernel_rfl) rfl (fun K hK => ?_)
            go_simp
            refine hK.out _ _ hV5.v1 ?_
            clear hK
            have fz := hV5.vf
            have c8 := hV5.v1
            refine anyU_last (by kernel_rfl) rfl (by kernel_rfl) (fun K hK => ?_)
            go_simp
            refine hK.out _ _ ?_
            clear hK
            have hbel5 := hbel2.trans (K5.below (B := w.heap.size) hbel2.size (fun z hz e => by have := (hz5 _ e).2; have := hbs.out; omega))
            have K6 := Kept.one w6 V 1 (.slice (some ⟨gg, 0, none⟩) (d.waiting.length + 1) cc)
            have hW6 := hW5.kept K6 (fun z e _ => by subst e; exact ⟨not_W_of_D hD5, not_B_of_D hD5⟩)
            have hL6 := hL5.kept K6 (fun z e _ => by subst e; exact ⟨not_S_of_D hD5, not_B_of_D hD5⟩)
            have hV6 := hV5.set1 (.slice (some ⟨gg, 0, none⟩) (d.waiting.length + 1) cc)
            have hR6 := hR5.kept K6 (by have := hVb.out; have := hbs.out; omega)
            have hbel6 := hbel5.trans (K6.below (B := w.heap.size) hbel5.size (fun z hz e => by have := hVb.out; have := hbs.out; omega))
            generalize w6.setCell ⟨V, 1, none⟩ (.slice (some ⟨gg, 0, none⟩) (d.waiting.length + 1) cc) = w7 at hW6 hL6 hV6 hR6 hbel6 ⊢
            have y0 := hV6.v0
            have y1 := hV6.v1
            have z0 := hR6.v0
            have z1 := hR6.v1
            have zf := hR6.vf
            obtain ⟨c0, c1, K⟩ := ret2 (A := .slice ba d.blocks.length bc) (B := .slice (some ⟨gg, 0, none⟩) (d.waiting.length + 1) cc) z0 z1
            have hRb : w.heap.size + 1 < base := by have := hbs.out; omega
            have hfL := ((hL6.set (V := w.heap.size + 1) hRb 0 (.slice ba d.blocks.length bc)).set (V := w.heap.size + 1) hRb 1 (.slice (some ⟨gg, 0, none⟩) (d.waiting.length + 1) cc)).le (base' := w.heap.size) (by omega)
            have hfW := ((hW6.set (V := w.heap.size + 1) hRb 0 (.slice ba d.blocks.length bc)).set (V := w.heap.size + 1) hRb 1 (.slice (some ⟨gg, 0, none⟩) (d.waiting.length + 1) cc)).le (base' := w.heap.size) (by omega)
            have hbel := hbel6.trans (K.below hbel6.size (fun z hz e => by omega))
            clear K hRb
            go_wp2
            refine bodyPost_ret (v := .agg #[.slice ba d.blocks.length bc, .slice (some ⟨gg, 0, none⟩) (d.waiting.length + 1) cc]) (by simp [results, Try.results30, go_sem, c0, c1]) rfl ⟨lb, lw ++ [⟨⟨b, ks⟩, oa, oc⟩], ba, bc, some ⟨gg, 0, none⟩, cc, by simp [DD.val], hlb, by rw [List.map_append, hlw]; rfl, hfL, hfW, hbel⟩
        · have t2 : ((ks.length : Int) != 64) = true := by simp; omega
          rw [put_no2 (by simp [wrOk, g2])]
          clear g2
          go_enter Try.func30, Try.ntmps30
          go_wp2_with (go_at_call 27; refine (specDiskOk_any d l _ hd (ha.grow hA)).mono ?_; rintro e w2 ⟨rfl, hb2⟩; rw [hok'.out]; obtain ⟨z0, z1, zf⟩ := hR0.grow hb2; obtain ⟨_, x0, x1⟩ := hX0.grow hb2)
          obtain ⟨c0, c1, K⟩ := ret2 (A := .slice none 0 0) (B := .slice none 0 0) z0 z1
          refine bodyPost_ret (v := .agg #[.slice none 0 0, .slice none 0 0]) (by simp [results, Try.results30, go_sem, c0, c1]) rfl (CPost.zero ?_)
          exact (gca hA hb2).trans (K.below (gca hA hb2).size (fun z hz e => by omega))

end Go.Proofs.Ythjddpkegooobaa

/-
  DPOW2: the power goes, and some is kept. Own work.
-/
namespace Go.Proofs.Ythjddpkegooobaa
open Go.RowKit

theorem BoolsAt.below {w w' : World} {a : Option Addr} {ks : List Bool} {p : Nat} (h : BoolsAt w a ks) (hb : Below p w w') (hp : ∀ b off, a = some ⟨b, off, none⟩ → 0 < ks.length → b < p) : BoolsAt w' a ks := fun i hi => by
  obtain ⟨b, off, ha, hc⟩ := h i hi
  exact ⟨b, off, ha, (World.cell?_of_block (w := w) (hb.block b (hp b off ha (by omega)))).trans hc⟩

set_option maxHeartbeats 4000000 in
set_option maxRecDepth 100000 in
theorem powerCrash_any (p : Nat) (bl : List (List Nat)) (pa : Option Addr) (pc : Nat) (ws : List DW) (K : Nat) (ka : Option Addr) (ks : List Bool) (kc : Nat) (w : World) (hw : ws.length ≤ 201) (hwb : ∀ x, x ∈ ws → 0 ≤ x.block ∧ x.block < 130) (hkl : ks.length ≤ maxLen) (hKp : K < p) (hKc0 : w.cell? ⟨K, 0, none⟩ = some (.slice ka ks.length kc)) (hKb0 : BoolsAt w ka ks) (hkp0 : ∀ b off, ka = some ⟨b, off, none⟩ → 0 < ks.length → b < p) (h : Dr w p bl pa pc ws (.func (.func 89) #[] #[.pointer (some ⟨K, 0, none⟩)])) :
    Calls Try.prog 90 #[.pointer (some ⟨p, 0, none⟩)] w fun e w' => e = .returned (.tuple #[]) ∧ Dr w' p (settleN (keepOf ks) bl ws ws.length) none 0 [] (.func (.func 89) #[] #[.pointer (some ⟨K, 0, none⟩)]) ∧ Below p w w' := by
  have hz65 := (zero_of_info zero_pending).1
  have x0 := h.d.ws
  have hpl0 := h.d.lt
  go_enter Try.func90, Try.ntmps90
  go_wp2
  go_loopw [9] (fun i wr => ∃ k : Nat, k ≤ ws.length ∧ i = .int .i64 k ∧ Dr wr p (settleN (keepOf ks) bl ws k) pa pc ws (.func (.func 89) #[] #[.pointer (some ⟨K, 0, none⟩)]) ∧ Below p w wr) (fun i _ => ws.length - (intOf i).toNat)
  case atStart => exact ⟨0, Nat.zero_le _, rfl, h, Below.refl _ _⟩
  case round =>
    obtain ⟨k, hk, rfl, hD, hb⟩ := hrel
    clear x0
    by_cases hlt : k < ws.length
    · obtain ⟨g, rfl, hg1, hgl, hrg⟩ := owns_pend hD.own hD.w64 hlt
      obtain ⟨n, hn⟩ := hid_ex ws[k]!
      rw [← hn.out] at hrg
      have hnm : n ∈ ws := by rw [hn.out]; exact mem_at hlt
      have hn64 : Hid (n.bytes.length = 64) := h.w64 _ hnm
      have hpl : n.pc.length = 65 := pc_length hn64.out
      have hbl64 : (bcells n.bytes).length = 64 := by rw [bcells_length]; exact hn64.out
      obtain ⟨hn0, hn1⟩ := hwb n hnm
      obtain ⟨m, hm⟩ : ∃ m : Nat, n.block = (m : Int) := ⟨n.block.toNat, by omega⟩
      have i0 : (0 : Int) ≤ (k : Int) := by omega
      have i1 : (k : Int) < (ws.length : Int) := by omega
      go_upto_region 3 with (first
        | (refine wpList_load_mid rfl 166 _ rfl g (k * 65) rfl n.pc _ hrg Try.underlying166 rfl (by rw [size_pending, hpl]) ?_)
        | (refine wpList_alloc_big rfl 166 rfl _ hz65 ?_)
        | (refine wpList_store_new rfl 166 _ _ rfl _ n.pc.toArray rfl rfl (by rw [size_pending]; simp [hpl]) (by simp [zeros, hpl]) (all_oneCell_toArray pc_one) ?_))
      have hDA := hD.grow (gal (gre wr) (.cells n.pc.toArray 166))
      have hbA : Below p w (wr.alloc (.cells n.pc.toArray 166)) := hb.alloc (by have := hD.d.lt; omega) _
      have hrn := range_new wr n.pc 166
      have hr1 : (wr.alloc (.cells n.pc.toArray 166)).rangeAt wr.heap.size 1 (bcells n.bytes) := range_drop (cs := [.int .i64 n.block]) hrn
      have hq1 : (wr.alloc (.cells n.pc.toArray 166)).cell? ⟨wr.heap.size, 0, none⟩ = some (.int .i64 (m : Int)) := by rw [← hm]; exact hrn 0 _ rfl
      have hsC : (wr.alloc (.cells n.pc.toArray 166)).heap.size = wr.heap.size + 1 := by simp
      generalize wr.alloc (.cells n.pc.toArray 166) = wC at hDA hbA hr1 hq1 hsC ⊢
      clear hrn hrg
      generalize wr.heap.size = Q at hr1 hq1 hsC hgl ⊢
      have kf := hDA.d.kf
      have hm130 : m < 130 := by omega
      have j0 : (0 : Int) ≤ (m : Int) := by omega
      have j1 : (m : Int) < 130 := by omega
      have hmt : n.block.toNat = m := by omega
      have hmt' : Hid _ := hmt
      have hm' : Hid _ := hm
      have hn0' : Hid _ := hn0
      have hn1' : Hid _ := hn1
      clear hmt hm hn0 hn1
      have hKc : wC.cell? ⟨K, 0, none⟩ = some (.slice ka ks.length kc) := (World.cell?_of_block (w := w) (hbA.block K hKp)).trans hKc0
      have hKb : BoolsAt wC ka ks := hKb0.below hbA hkp0
      cases hkp : (keepOf ks) k with
      | true =>
        have hkp' : Hid _ := hkp
        have hst : Hid (settleN (keepOf ks) bl ws (k + 1) = setB (settleN (keepOf ks) bl ws k) n) := by show _ = _; simp only [settleN]; rw [if_pos hkp, ← hn.out]
        clear hkp
        go_upto_region 4 with (go_at_call 89; refine (crashKeeps_any k K ka ks kc _ (by omega) hkl hKc hKb).mono ?_; rintro e w2 ⟨rfl, hb2⟩; obtain ⟨hD2, hb2A, hq2, hr2⟩ : Dr w2 p (settleN (keepOf ks) bl ws k) (some ⟨g, 0, none⟩) pc ws (.func (.func 89) #[] #[.pointer (some ⟨K, 0, none⟩)]) ∧ Below p w w2 ∧ w2.cell? ⟨Q, 0, none⟩ = some (.int .i64 (m : Int)) ∧ w2.rangeAt Q 1 (bcells n.bytes) := ⟨hDA.grow hb2, hbA.trans (hb2.mono (by have := hDA.d.lt; omega)), cell_later hb2 hq1, range_grow hr1 hb2⟩; rw [hkp'.out])
        refine wp_regionU (fun u => u.cell? ⟨Q, 0, none⟩ = some (.int .i64 (m : Int)) ∧ u.rangeAt Q 1 (bcells n.bytes)) 8 (by kernel_rfl) ⟨hq2, hr2⟩ (fun hS0 => ?_)
        refine anyU_take (i := 0) (v := ?_) rfl (by kernel_rfl) (by kernel_rfl) (by kernel_rfl) (by kernel_rfl) (fun _ _ _ h => h) (Or.inl ⟨by rfl, ?_⟩) hS0 ?_
        rotate_left
        · intro u hSu; obtain ⟨s0, s1⟩ := hSu; go_simp <;> with_reducible rfl
        simp only [Act.put, List.getElem_toArray, List.getElem_cons_zero, List.setIfInBounds_toArray, List.set_cons_zero, List.set_cons_succ]
        refine anyU_take (i := 1) (v := ?_) rfl (by kernel_rfl) (by kernel_rfl) (by kernel_rfl) (by kernel_rfl) (fun _ _ _ h => h) (Or.inl ⟨by rfl, ?_⟩) hS0 ?_
        rotate_left
        · intro u hSu; obtain ⟨s0, s1⟩ := hSu; go_simp <;> with_reducible rfl
        simp only [Act.put, List.getElem_toArray, List.getElem_cons_zero, List.getElem_cons_succ, List.setIfInBounds_toArray, List.set_cons_zero, List.set_cons_succ]
        refine anyU_take (i := 2) (v := ?_) rfl (by kernel_rfl) (by kernel_rfl) (by kernel_rfl) (by kernel_rfl) (fun _ _ _ h => h) (Or.inl ⟨by rfl, ?_⟩) hS0 ?_
        rotate_left
        · intro u hSu; obtain ⟨s0, s1⟩ := hSu; go_simp <;> with_reducible rfl
        simp only [Act.put, List.getElem_toArray, List.getElem_cons_zero, List.getElem_cons_succ, List.setIfInBounds_toArray, List.set_cons_zero, List.set_cons_succ]
        refine anyU_take (i := 3) (v := ?_) rfl (by kernel_rfl) (by kernel_rfl) (by kernel_rfl) (by kernel_rfl) (fun _ _ _ h => h) (Or.inl ⟨by rfl, ?_⟩) hS0 ?_
        rotate_left
        · intro u hSu; obtain ⟨s0, s1⟩ := hSu; go_simp <;> with_reducible rfl
        simp only [Act.put, List.getElem_toArray, List.getElem_cons_zero, List.getElem_cons_succ, List.setIfInBounds_toArray, List.set_cons_zero, List.set_cons_succ]
        refine anyU_take (i := 4) rfl (by kernel_rfl) (by kernel_rfl) (by kernel_rfl) (by kernel_rfl) (fun _ _ _ h => h) (yieldsIf_load_mid (by rfl) 110 (.tmp 23) rfl Q 1 (by rfl) (bcells n.bytes) _ (fun _ hS => hS.2) Try.underlying110 rfl (by rw [size_content, hbl64])) hS0 ?_
        simp only [Act.put, List.getElem_toArray, List.getElem_cons_zero, List.getElem_cons_succ, List.setIfInBounds_toArray, List.set_cons_zero, List.set_cons_succ]
        obtain ⟨s0, s1⟩ := id hS0
        refine anyU_one (i := 5) (by kernel_rfl) rfl (fun K hK => ?_)
        go_simp
        refine hK.out _ _ hS0 ?_
        clear hK
        refine anyU_one (i := 6) (by kernel_rfl) rfl (fun K hK => ?_)
        go_simp
        refine hK.out _ _ hS0 ?_
        clear hK
        refine anyU_one (i := 7) (by kernel_rfl) rfl (fun K hK => ?_)
        go_simp
        refine hK.out _ _ hS0 ?_
        clear hK
        refine anyU_last (by kernel_rfl) rfl (by kernel_rfl) (fun K hK => ?_)
        rw [if_pos (by rfl)]
        refine wp_store_mid 110 (.tmp 27) (.tmp 24) rfl p (m * 64) (bcells n.bytes).toArray (by rfl) (by rfl) (by rw [List.size_toArray, hbl64]; exact there_part (hD2.d.grow (gdr (gre w2))).th (Nat.zero_le _) (by omega)) (by rw [size_content, List.size_toArray, hbl64]) (all_oneCell_toArray cells_u8) ?_
        refine hK.out _ _ ?_
        clear hK
        simp only [Act.put, List.getElem_toArray, List.getElem_cons_zero, List.getElem_cons_succ]
        have hfin := (hD2.d.grow (gdr (gre w2))).setB (x := n) hn0'.out hn1'.out hn64.out
        rw [hmt'.out, ← hst.out] at hfin
        have hKs := Kept.setCells (p := fun z => z = p) (bcells n.bytes) (m * 64) (Kept.refl _ w2.drew) (fun _ => rfl)
        go_wp2
        go_roundw
        case rel => exact ⟨k + 1, by omega, by go_num, ⟨hfin, hKs.owns (hD2.grow (gdr (gre w2))).own (fun z hz e => by have := (hD2.own.lt z hz).1; omega), h.w64⟩, (hb2A.trans (gdr (gre w2) |>.mono (by have := hD2.d.lt; omega))).trans (hKs.below (by have := hD2.d.lt; show p ≤ w2.heap.size; omega) (fun z hz e => by omega))⟩
        case measure => simp [intOf]; omega
      | false =>
        have hkp' : Hid _ := hkp
        have hst : Hid (settleN (keepOf ks) bl ws (k + 1) = settleN (keepOf ks) bl ws k) := by show _ = _; simp only [settleN]; rw [if_neg (by rw [hkp]; exact Bool.false_ne_true)]
        clear hkp
        go_wp2_with (go_at_call 89; refine (crashKeeps_any k K ka ks kc _ (by omega) hkl hKc hKb).mono ?_; rintro e w2 ⟨rfl, hb2⟩; rw [hkp'.out])
        go_roundw
        case rel => exact ⟨k + 1, by omega, by go_num, by rw [hst.out]; exact hDA.grow hb2, hbA.trans (hb2.mono (by have := hDA.d.lt; omega))⟩
        case measure => simp [intOf]; omega
    · obtain rfl : k = ws.length := by omega
      have x0 := hD.d.ws
      have xf := hD.d.frozen (o := 8320) (by decide)
      have hfin := hD.d.setW (.slice none 0 0)
      go_wp2
      first | go_end0 | refine bodyPost_ret (results_none rfl _ _ _) rfl ?_
      exact ⟨rfl, ⟨hfin, owns_none _ _ _ _, fun x hx => (by cases hx)⟩, hb.trans ((Kept.one wr p 8320 _).below (by have := hD.d.lt; omega) (fun z hz e => by omega))⟩

end Go.Proofs.Ythjddpkegooobaa

/-
  ISYNC: the program's Sync and Crash. Own work.
-/
namespace Go.Proofs.Ythjddpkegooobaa
open Go.RowKit

theorem md_zero (w : World) (lo hi : Nat) : MD w lo hi ⟨none, 0, none, 0⟩ zeroD (fun _ => none) (fun _ => none) (fun _ => 0) (fun _ => 0) :=
  ⟨⟨fun h => absurd h (Nat.lt_irrefl _), fun _i hi => absurd hi (Nat.not_lt_zero _), fun _i _j _ hj => absurd hj (Nat.not_lt_zero _)⟩, ⟨fun h => absurd h (Nat.lt_irrefl _), fun _i hi => absurd hi (Nat.not_lt_zero _), fun _i _j _ hj => absurd hj (Nat.not_lt_zero _)⟩, fun _i _j hi _ => absurd hi (Nat.not_lt_zero _)⟩
theorem DPost.zero {w w' : World} (h : Below w.heap.size w w') : DPost zeroD w (.returned (.agg #[.slice none 0 0, .slice none 0 0])) w' := ⟨⟨none, 0, none, 0⟩, _, _, _, _, rfl, md_zero _ _ _, h⟩
theorem VB.below {w w' : World} {V p : Nat} {s0 s1 : Value} (h : VB w V s0 s1) (hb : Below p w w') (hV : V < p) : VB w' V s0 s1 :=
  ⟨(World.cell?_of_block (w := w) (hb.block V hV)).trans h.v0, (World.cell?_of_block (w := w) (hb.block V hV)).trans h.v1, fun o => (World.frozen?_of_block (w := w) (a := ⟨V, o, none⟩) (hb.block V hV)).trans (h.vf o)⟩

set_option maxHeartbeats 1000000 in
set_option maxRecDepth 100000 in
theorem sync_any (p : Nat) (bl : List (List Nat)) (pa : Option Addr) (pc : Nat) (ws : List DW) (kv : Value) (w : World) (hw : ws.length ≤ 201) (hwb : ∀ x, x ∈ ws → 0 ≤ x.block ∧ x.block < 130) (hDr : Dr w p bl pa pc ws kv) :
    Calls Try.prog 86 #[.pointer (some ⟨p, 0, none⟩)] w fun e w' => e = .returned (.tuple #[]) ∧ Dr w' p (settleN keepAll bl ws ws.length) none 0 [] (.func (.func 135) #[] #[]) ∧ Below p w w' := by
  have kf := hDr.d.kf
  have kz := hDr.d.frozen (o := 8321) (by decide)
  go_enter Try.func86, Try.ntmps86
  go_upto_region 1 with fail
  have hD4 := hDr.d.setK (.func (.func 135) #[] #[])
  have K4 := Kept.one w p 8321 (.func (.func 135) #[] #[])
  have hO4 := K4.owns hDr.own (fun z hz e => by have := (hDr.own.lt z hz).1; omega)
  have hDr4 : Dr (w.setCell ⟨p, 8321, none⟩ (.func (.func 135) #[] #[])) p bl pa pc ws (.func (.func 135) #[] #[]) := ⟨hD4, hO4, hDr.w64⟩
  generalize w.setCell ⟨p, 8321, none⟩ (.func (.func 135) #[] #[]) = w4 at hD4 K4 hO4 hDr4 ⊢
  clear hD4 hO4 kf kz
  go_wp2_with (go_at_call 90; refine (powerSync_any p bl pa pc ws _ hw hwb hDr4).mono ?_; rintro e w5 ⟨rfl, hDr5, hb5⟩)
  go_end0
  exact ⟨rfl, hDr5, (K4.below (B := p) (by have := hDr.d.lt; omega) (fun z hz e => by omega)).trans hb5⟩

set_option maxHeartbeats 1000000 in
set_option maxRecDepth 100000 in
theorem implSync_any (d : DD) (l : DL) (w : World) (hd : d.Ok) (ha : DAt w l d) : Calls Try.prog 31 #[d.val l] w (DPost (d.settle keepAll) w) := by
  have hA := gal (gal (gre w) (.cells #[.slice l.ba d.blocks.length l.bc, .slice l.wa d.waiting.length l.wc] 44)) (.cells #[.slice none 0 0, .slice none 0 0] 44)
  have hX0 := (DBox.new w d l 44).grow (gal (gre _) (.cells #[.slice none 0 0, .slice none 0 0] 44))
  have hR0 := VB.new_at (w.alloc (.cells #[.slice l.ba d.blocks.length l.bc, .slice l.wa d.waiting.length l.wc] 44)) (.slice none 0 0) (.slice none 0 0) 44 (w.heap.size + 1) (by simp)
  cases hok : d.ok with
  | false =>
    have hok' : Hid _ := hok
    clear hok
    rw [settle_no hok'.out]
    go_enter Try.func31, Try.ntmps31
    go_wp2_with (go_at_call 26; refine (implDiskOk_any d l _ hd (ha.grow hA)).mono ?_; rintro e w2 ⟨rfl, hb2⟩; rw [hok'.out]; obtain ⟨z0, z1, zf⟩ := hR0.grow hb2)
    obtain ⟨c0, c1, K⟩ := ret2 (A := .slice none 0 0) (B := .slice none 0 0) z0 z1
    refine bodyPost_ret (v := .agg #[.slice none 0 0, .slice none 0 0]) (by simp [results, Try.results31, go_sem, c0, c1]) rfl (DPost.zero ?_)
    exact (gca hA hb2).trans (K.below (gca hA hb2).size (fun z hz e => by omega))
  | true =>
    have hok' : Hid _ := hok
    clear hok
    have hfit := DD.fit hok'.out
    rw [settle_yes hok'.out]
    obtain ⟨d', hd'⟩ := hid_ex (DD.mk (settleN keepAll d.blocks d.waiting d.waiting.length) [])
    rw [← hd'.out]
    go_enter Try.func31, Try.ntmps31
    go_upto_region 4 with (first
      | (go_at_call 26; refine (implDiskOk_any d l _ hd (ha.grow hA)).mono ?_; rintro e w2 ⟨rfl, hb2⟩; rw [hok'.out]; obtain ⟨_, x0, x1⟩ := hX0.grow hb2)
      | (go_at_call 81; refine (driveOf_any d l _ hfit (ha.grow (gca hA hb2))).mono ?_; rintro e w3 ⟨p, pa, pc, rfl, hp3, hDr, hb3⟩))
    have hR3 := (hR0.grow hb2).grow hb3
    have hb3A := gca (gca hA hb2) hb3
    have hRp : w.heap.size + 1 < p := by have := (hR0.grow hb2).lt; omega
    have hwp : w.heap.size ≤ p := by have := (gca hA hb2).size; omega
    go_upto_region 5 with (go_at_call 86; refine (sync_any p d.blocks pa pc d.waiting _ _ (by have := hfit.wl; omega) (fun x hx => ⟨(hfit.wb x hx).1, (hfit.wb x hx).2.1⟩) hDr).mono ?_; rintro e w5 ⟨rfl, hDr5, hb5⟩)
    have hR5 := hR3.below hb5 hRp
    have hb5A := hb3A.trans (hb5.mono hwp)
    go_upto_region 99 with (go_at_call 83; refine (disk_any p _ none 0 [] _ _ (by decide) hDr5).mono ?_; rw [← hd'.out]; rintro e w6 ⟨l6, fa, ga, fc, gc, rfl, hmd, hb6⟩; obtain ⟨z0, z1, zf⟩ := hR5.grow hb6)
    obtain ⟨c0, c1, K⟩ := ret2 (A := .slice l6.ba d'.blocks.length l6.bc) (B := .slice l6.wa d'.waiting.length l6.wc) z0 z1
    have hb6A := gca hb5A hb6
    refine bodyPost_ret (v := d'.val l6) (by simp [results, Try.results31, go_sem, c0, c1]) rfl ⟨l6, fa, ga, fc, gc, rfl, hmd.last K (by have := hR5.lt; omega) (by have := hb5A.size; omega) K.size, ?_⟩
    exact hb6A.trans (K.below hb6A.size (fun z hz e => by omega))

set_option maxHeartbeats 1000000 in
set_option maxRecDepth 100000 in
theorem implCrash_any (d : DD) (l : DL) (ka : Option Addr) (ks : List Bool) (kc : Nat) (w : World) (hd : d.Ok) (ha : DAt w l d) (hkl : ks.length ≤ maxLen) (hk0 : BoolsAt w ka ks) : Calls Try.prog 33 #[d.val l, .slice ka ks.length kc] w (DPost (d.settle (keepOf ks)) w) := by
  have hmf : ∀ (fn : Fn) (first cap : Array Value) (w : World), (Instr.makeFunc fn first cap).run Try.prog w = .ok (.func fn first cap) w := fun _ _ _ _ => rfl
  have hA := gal (gal (gal (gre w) (.cells #[.slice l.ba d.blocks.length l.bc, .slice l.wa d.waiting.length l.wc] 44)) (.cells #[.slice ka ks.length kc] 52)) (.cells #[.slice none 0 0, .slice none 0 0] 44)
  have hX0 := (DBox.new w d l 44).grow (gal (gal (gre _) (.cells #[.slice ka ks.length kc] 52)) (.cells #[.slice none 0 0, .slice none 0 0] 44))
  have hR0 := VB.new_at ((w.alloc (.cells #[.slice l.ba d.blocks.length l.bc, .slice l.wa d.waiting.length l.wc] 44)).alloc (.cells #[.slice ka ks.length kc] 52)) (.slice none 0 0) (.slice none 0 0) 44 (w.heap.size + 1 + 1) (by simp)
  have hK0 : (((w.alloc (.cells #[.slice l.ba d.blocks.length l.bc, .slice l.wa d.waiting.length l.wc] 44)).alloc (.cells #[.slice ka ks.length kc] 52)).alloc (.cells #[.slice none 0 0, .slice none 0 0] 44)).cell? ⟨w.heap.size + 1, 0, none⟩ = some (.slice ka ks.length kc) := by
    have e1 : (w.alloc (.cells #[.slice l.ba d.blocks.length l.bc, .slice l.wa d.waiting.length l.wc] 44)).heap.size = w.heap.size + 1 := by simp
    refine cell_later (gal (gre _) _) ?_
    rw [← e1]; simp
  have hkf0 : ∀ b off, ka = some ⟨b, off, none⟩ → 0 < ks.length → b < w.heap.size := fun b off e h0 => by
    obtain ⟨b', off', e', hc'⟩ := hk0 0 h0
    have h1 := World.block_lt_of_cell? _ _ hc'
    rw [e] at e'
    have h2 := congrArg (fun q => q.map Addr.block) e'
    simp at h1 h2
    omega
  cases hok : d.ok with
  | false =>
    have hok' : Hid _ := hok
    clear hok
    rw [settle_no hok'.out]
    go_enter Try.func33, Try.ntmps33
    go_wp2_with (go_at_call 26; refine (implDiskOk_any d l _ hd (ha.grow hA)).mono ?_; rintro e w2 ⟨rfl, hb2⟩; rw [hok'.out]; obtain ⟨z0, z1, zf⟩ := hR0.grow hb2)
    obtain ⟨c0, c1, K⟩ := ret2 (A := .slice none 0 0) (B := .slice none 0 0) z0 z1
    refine bodyPost_ret (v := .agg #[.slice none 0 0, .slice none 0 0]) (by simp [results, Try.results33, go_sem, c0, c1]) rfl (DPost.zero ?_)
    exact (gca hA hb2).trans (K.below (gca hA hb2).size (fun z hz e => by omega))
  | true =>
    have hok' : Hid _ := hok
    clear hok
    have hfit := DD.fit hok'.out
    rw [settle_yes hok'.out]
    obtain ⟨d', hd'⟩ := hid_ex (DD.mk (settleN (keepOf ks) d.blocks d.waiting d.waiting.length) [])
    rw [← hd'.out]
    go_enter Try.func33, Try.ntmps33
    go_upto_region 4 with (first
      | (go_at_call 26; refine (implDiskOk_any d l _ hd (ha.grow hA)).mono ?_; rintro e w2 ⟨rfl, hb2⟩; rw [hok'.out]; obtain ⟨_, x0, x1⟩ := hX0.grow hb2)
      | (go_at_call 81; refine (driveOf_any d l _ hfit (ha.grow (gca hA hb2))).mono ?_; rintro e w3 ⟨p, pa, pc, rfl, hp3, hDr, hb3⟩))
    have hR3 := (hR0.grow hb2).grow hb3
    have hb3A := gca (gca hA hb2) hb3
    have hRp : w.heap.size + 1 + 1 < p := by have := (hR0.grow hb2).lt; omega
    have hwp : w.heap.size ≤ p := by have := (gca hA hb2).size; omega
    have hkp : ∀ b off, ka = some ⟨b, off, none⟩ → 0 < ks.length → b < p := fun b off e h0 => Nat.lt_of_lt_of_le (hkf0 b off e h0) hwp
    have kf := hDr.d.kf
    have kz := hDr.d.frozen (o := 8321) (by decide)
    have hKc3 := cell_later hb3 (cell_later hb2 hK0)
    have hKb3 := hk0.grow hb3A
    go_upto_region 5 with fail
    have hD4 := hDr.d.setK (.func (.func 89) #[] #[.pointer (some ⟨w.heap.size + 1, 0, none⟩)])
    have K4 := Kept.one w3 p 8321 (.func (.func 89) #[] #[.pointer (some ⟨w.heap.size + 1, 0, none⟩)])
    have hO4 := K4.owns hDr.own (fun z hz e => by have := (hDr.own.lt z hz).1; omega)
    have hR4 := hR3.kept K4 (by omega)
    have hb4 := hb3A.trans (K4.below hb3A.size (fun z hz e => by omega))
    have hDr4 : Dr (w3.setCell ⟨p, 8321, none⟩ (.func (.func 89) #[] #[.pointer (some ⟨w.heap.size + 1, 0, none⟩)])) p d.blocks pa pc d.waiting (.func (.func 89) #[] #[.pointer (some ⟨w.heap.size + 1, 0, none⟩)]) := ⟨hD4, hO4, hDr.w64⟩
    have hKc4 := K4.cell hKc3 (by omega)
    have hKb4 : BoolsAt _ ka ks := hKb3.below (K4.below (B := p) (Nat.le_of_lt hDr.d.lt) (fun z hz e => by omega)) hkp
    generalize w3.setCell ⟨p, 8321, none⟩ (.func (.func 89) #[] #[.pointer (some ⟨w.heap.size + 1, 0, none⟩)]) = w4 at hD4 K4 hO4 hR4 hb4 hDr4 hKc4 hKb4 ⊢
    clear hD4 K4 hO4 hDr kf kz hR3 hb3A
    go_upto_region 6 with (go_at_call 90; refine (powerCrash_any p d.blocks pa pc d.waiting (w.heap.size + 1) ka ks kc _ (by have := hfit.wl; omega) (fun x hx => ⟨(hfit.wb x hx).1, (hfit.wb x hx).2.1⟩) hkl (by omega) hKc4 hKb4 hkp hDr4).mono ?_; rintro e w5 ⟨rfl, hDr5, hb5⟩)
    have hR5 := hR4.below hb5 hRp
    have hb5A := hb4.trans (hb5.mono hwp)
    go_upto_region 99 with (go_at_call 83; refine (disk_any p _ none 0 [] _ _ (by decide) hDr5).mono ?_; rw [← hd'.out]; rintro e w6 ⟨l6, fa, ga, fc, gc, rfl, hmd, hb6⟩; obtain ⟨z0, z1, zf⟩ := hR5.grow hb6)
    obtain ⟨c0, c1, K⟩ := ret2 (A := .slice l6.ba d'.blocks.length l6.bc) (B := .slice l6.wa d'.waiting.length l6.wc) z0 z1
    have hb6A := gca hb5A hb6
    refine bodyPost_ret (v := d'.val l6) (by simp [results, Try.results33, go_sem, c0, c1]) rfl ⟨l6, fa, ga, fc, gc, rfl, hmd.last K (by have := hR5.lt; omega) (by have := hb5A.size; omega) K.size, ?_⟩
    exact hb6A.trans (K.below hb6A.size (fun z hz e => by omega))

end Go.Proofs.Ythjddpkegooobaa

/-
  IPUT: the program's Put. Own work.
-/
namespace Go.Proofs.Ythjddpkegooobaa
open Go.RowKit

set_option maxHeartbeats 1000000 in
set_option maxRecDepth 100000 in
theorem drvPut_no (x : DW) (a : Option Addr) (cap p : Nat) (bl : List (List Nat)) (pa : Option Addr) (pc : Nat) (ws : List DW) (kv : Value) (w : World) (hb : I64 x.block) (hkl : x.bytes.length ≤ maxLen) (_hw : ws.length ≤ 201) (hno : wrOk x = false ∨ ws.length = 200) (hDr : Dr w p bl pa pc ws kv) :
    Calls Try.prog 82 #[.pointer (some ⟨p, 0, none⟩), x.val a cap] w fun e w' => e = .returned (.bool false) ∧ Below w.heap.size w w' := by
  have hA := gal (gre w) (.cells #[.int .i64 x.block, .slice a x.bytes.length cap] 104)
  have hY0 := VB.new_at w (.int .i64 x.block) (.slice a x.bytes.length cap) 104 w.heap.size rfl
  cases hwr : wrOk x with
  | false =>
    have hwr' : Hid _ := hwr
    clear hwr hno
    obtain ⟨y0, y1, yf⟩ := id hY0
    go_enter Try.func82, Try.ntmps82
    go_wp2_with (go_at_call 80; refine (writeOk_any x a cap _ hb hkl).mono ?_; rintro e w3 ⟨rfl, hb3⟩; rw [hwr'.out])
    go_ret
    exact ⟨rfl, gca hA hb3⟩
  | true =>
    have g3 : ws.length = 200 := hno.resolve_left (by rw [hwr]; simp)
    have t3 : ((ws.length : Int) == 200) = true := by simp; omega
    have hwr' : Hid _ := hwr
    clear hwr hno g3
    obtain ⟨y0, y1, yf⟩ := id hY0
    go_enter Try.func82, Try.ntmps82
    go_wp2_with (go_at_call 80; refine (writeOk_any x a cap _ hb hkl).mono ?_; rintro e w3 ⟨rfl, hb3⟩; rw [hwr'.out]; have x0 := ((hDr.d.grow hA).grow hb3).ws)
    go_ret
    exact ⟨rfl, gca hA hb3⟩

set_option maxHeartbeats 1000000 in
set_option maxRecDepth 100000 in
theorem drvPut_yes (x : DW) (a : Option Addr) (cap p : Nat) (bl : List (List Nat)) (pa : Option Addr) (pc : Nat) (ws : List DW) (kv : Value) (w : World) (hb : I64 x.block) (hkl : x.bytes.length ≤ maxLen) (hw : ws.length ≤ 200) (hwr : wrOk x = true) (g3 : ws.length ≠ 200) (ha : BytesAt w a x.bytes) (hfar : ∀ b off, a = some ⟨b, off, none⟩ → b < p) (hDr : Dr w p bl pa pc ws kv) :
    Calls Try.prog 82 #[.pointer (some ⟨p, 0, none⟩), x.val a cap] w fun e w' => e = .returned (.bool true) ∧ ∃ pa' pc', Dr w' p bl pa' pc' (ws ++ [x]) kv ∧ Kept (fun b => p ≤ b) w w' := by
  have hA := gal (gre w) (.cells #[.int .i64 x.block, .slice a x.bytes.length cap] 104)
  have hY0 := VB.new_at w (.int .i64 x.block) (.slice a x.bytes.length cap) 104 w.heap.size rfl
  have t3 : ((ws.length : Int) == 200) = false := by simp; omega
  have hn64 : Hid (x.bytes.length = 64) := by have := hwr; simp only [wrOk, Bool.and_eq_true, decide_eq_true_eq] at this; exact this.2
  have hwr' : Hid _ := hwr
  clear hwr g3
  obtain ⟨y0, y1, yf⟩ := id hY0
  go_enter Try.func82, Try.ntmps82
  go_wp2_with (first
    | (go_at_call 80; refine (writeOk_any x a cap _ hb hkl).mono ?_; rintro e w3 ⟨rfl, hb3⟩; rw [hwr'.out]; have x0 := ((hDr.d.grow hA).grow hb3).ws; obtain ⟨y0, y1, yf⟩ := hY0.grow hb3)
    | (go_at_call 133; refine (take_any x a cap p bl pa pc ws kv _ hn64.out hw (ha.grow (gca hA hb3)) hfar (hDr.grow (gca hA hb3))).mono ?_; rintro e w5 ⟨rfl, pa5, pc5, hDr5, hK5⟩))
  go_ret
  exact ⟨rfl, pa5, pc5, hDr5, (Kept.of_below (gca hA hb3) _).trans hK5 (fun _ _ e => e)⟩

set_option maxHeartbeats 4000000 in
set_option maxRecDepth 100000 in
theorem implPut_any (d : DD) (l : DL) (b : Int) (ka : Option Addr) (ks : List Nat) (kc : Nat) (w : World) (hd : d.Ok) (ha : DAt w l d) (hb : I64 b) (hkl : ks.length ≤ maxLen) (hka : BytesAt w ka ks) : Calls Try.prog 28 #[d.val l, .int .i64 b, .slice ka ks.length kc] w (DPost (d.put b ks) w) := by
  have hA := gal (gal (gre w) (.cells #[.slice l.ba d.blocks.length l.bc, .slice l.wa d.waiting.length l.wc] 44)) (.cells #[.slice none 0 0, .slice none 0 0] 44)
  have hX0 := (DBox.new w d l 44).grow (gal (gre _) (.cells #[.slice none 0 0, .slice none 0 0] 44))
  have hR0 := VB.new_at (w.alloc (.cells #[.slice l.ba d.blocks.length l.bc, .slice l.wa d.waiting.length l.wc] 44)) (.slice none 0 0) (.slice none 0 0) 44 (w.heap.size + 1) (by simp)
  cases hok : d.ok with
  | false =>
    have hok' : Hid _ := hok
    clear hok
    rw [put_no1 hok'.out]
    go_enter Try.func28, Try.ntmps28
    go_wp2_with (go_at_call 26; refine (implDiskOk_any d l _ hd (ha.grow hA)).mono ?_; rintro e w2 ⟨rfl, hb2⟩; rw [hok'.out]; obtain ⟨z0, z1, zf⟩ := hR0.grow hb2)
    obtain ⟨c0, c1, K⟩ := ret2 (A := .slice none 0 0) (B := .slice none 0 0) z0 z1
    refine bodyPost_ret (v := .agg #[.slice none 0 0, .slice none 0 0]) (by simp [results, Try.results28, go_sem, c0, c1]) rfl (DPost.zero ?_)
    exact (gca hA hb2).trans (K.below (gca hA hb2).size (fun z hz e => by omega))
  | true =>
    have hok' : Hid _ := hok
    clear hok
    have hfit := DD.fit hok'.out
    have hwl := hfit.wl
    by_cases hno : wrOk ⟨b, ks⟩ = false ∨ d.waiting.length = 200
    · have hno' : Hid _ := hno
      have hz : d.put b ks = zeroD := by
        rcases hno with h | h
        · exact put_no2 h
        · exact put_no3 h
      rw [hz]
      clear hno hz
      go_enter Try.func28, Try.ntmps28
      go_wp2_with (first
        | (go_at_call 26; refine (implDiskOk_any d l _ hd (ha.grow hA)).mono ?_; rintro e w2 ⟨rfl, hb2⟩; rw [hok'.out]; obtain ⟨_, x0, x1⟩ := hX0.grow hb2)
        | (go_at_call 81; refine (driveOf_any d l _ hfit (ha.grow (gca hA hb2))).mono ?_; rintro e w4 ⟨p, pa, pc, rfl, hp4, hDr, hb4⟩)
        | (go_at_call 82; refine (drvPut_no ⟨b, ks⟩ ka kc p d.blocks pa pc d.waiting .nilFunc _ hb hkl (by omega) hno'.out hDr).mono ?_; rintro e w5 ⟨rfl, hb5⟩; obtain ⟨z0, z1, zf⟩ := ((hR0.grow hb2).grow hb4).grow hb5))
      obtain ⟨c0, c1, K⟩ := ret2 (A := .slice none 0 0) (B := .slice none 0 0) z0 z1
      refine bodyPost_ret (v := .agg #[.slice none 0 0, .slice none 0 0]) (by simp [results, Try.results28, go_sem, c0, c1]) rfl (DPost.zero ?_)
      exact (gca (gca (gca hA hb2) hb4) hb5).trans (K.below (gca (gca (gca hA hb2) hb4) hb5).size (fun z hz e => by omega))
    · obtain ⟨hwr, g3⟩ : wrOk ⟨b, ks⟩ = true ∧ d.waiting.length ≠ 200 := ⟨by cases h : wrOk ⟨b, ks⟩ with | true => rfl | false => exact absurd (Or.inl h) hno, fun h => hno (Or.inr h)⟩
      have hwr' : Hid _ := hwr
      have g3' : Hid _ := g3
      rw [put_yes hok'.out hwr g3]
      clear hwr g3 hno
      obtain ⟨d', hd'⟩ := hid_ex (DD.mk d.blocks (d.waiting ++ [⟨b, ks⟩]))
      rw [← hd'.out]
      have hn64 : Hid (ks.length = 64) := by have := hwr'.out; simp only [wrOk, Bool.and_eq_true, decide_eq_true_eq] at this; exact this.2
      have hfar0 : ∀ b off, ka = some ⟨b, off, none⟩ → b < w.heap.size := fun b off e => by
        obtain ⟨b', off', e', hc'⟩ := hka 0 (by have := hn64.out; omega)
        have h1 := World.block_lt_of_cell? _ _ hc'
        rw [e] at e'
        have h2 := congrArg (fun q => q.map Addr.block) e'
        simp at h1 h2
        omega
      go_enter Try.func28, Try.ntmps28
      go_wp2_with (first
        | (go_at_call 26; refine (implDiskOk_any d l _ hd (ha.grow hA)).mono ?_; rintro e w2 ⟨rfl, hb2⟩; rw [hok'.out]; obtain ⟨_, x0, x1⟩ := hX0.grow hb2)
        | (go_at_call 81; refine (driveOf_any d l _ hfit (ha.grow (gca hA hb2))).mono ?_; rintro e w4 ⟨p, pa, pc, rfl, hp4, hDr, hb4⟩; have hR4 := (hR0.grow hb2).grow hb4; have hb4A := gca (gca hA hb2) hb4; have hwp : w.heap.size + 1 < p := (by have := (hR0.grow hb2).lt; omega); have hfar : ∀ b off, ka = some ⟨b, off, none⟩ → b < p := (fun b off e => by have := hfar0 b off e; omega))
        | (go_at_call 82; refine (drvPut_yes ⟨b, ks⟩ ka kc p d.blocks pa pc d.waiting .nilFunc _ hb hkl (by omega) hwr'.out g3'.out (hka.grow hb4A) hfar hDr).mono ?_; rintro e w5 ⟨rfl, pa5, pc5, hDr5, hK5⟩; have hR5 := hR4.kept hK5 (by omega); have hb5A := hb4A.trans (hK5.below (B := w.heap.size) hb4A.size (fun z hz e => by omega)))
        | (go_at_call 83; refine (disk_any p _ pa5 pc5 _ _ _ (by rw [List.length_append]; simp; have := g3'.out; omega) hDr5).mono ?_; rw [← hd'.out]; rintro e w6 ⟨l6, fa, ga, fc, gc, rfl, hmd, hb6⟩; obtain ⟨z0, z1, zf⟩ := hR5.grow hb6))
      obtain ⟨c0, c1, K⟩ := ret2 (A := .slice l6.ba d'.blocks.length l6.bc) (B := .slice l6.wa d'.waiting.length l6.wc) z0 z1
      have hb6A := gca hb5A hb6
      refine bodyPost_ret (v := d'.val l6) (by simp [results, Try.results28, go_sem, c0, c1]) rfl ⟨l6, fa, ga, fc, gc, rfl, hmd.last K (by have := hR5.lt; omega) (by have := hb5A.size; omega) K.size, ?_⟩
      exact hb6A.trans (K.below hb6A.size (fun z hz e => by omega))

theorem put_tame {d : DD} {b : Int} {ks : List Nat} (hd : d.Ok) (hb : I64 b) (hk : BOk ks) : (d.put b ks).Ok ∧ (d.put b ks = zeroD ∨ (d.put b ks).Fit) := by
  cases hok : d.ok with
  | false => rw [put_no1 hok]; exact ⟨⟨Nat.zero_le _, fun b hb => (by cases hb), Nat.zero_le _, fun x hx => (by cases hx), fun x hx => (by cases hx)⟩, Or.inl rfl⟩
  | true =>
    cases hwr : wrOk ⟨b, ks⟩ with
    | false => rw [put_no2 hwr]; exact ⟨⟨Nat.zero_le _, fun b hb => (by cases hb), Nat.zero_le _, fun x hx => (by cases hx), fun x hx => (by cases hx)⟩, Or.inl rfl⟩
    | true =>
      by_cases h : d.waiting.length = 200
      · rw [put_no3 h]; exact ⟨⟨Nat.zero_le _, fun b hb => (by cases hb), Nat.zero_le _, fun x hx => (by cases hx), fun x hx => (by cases hx)⟩, Or.inl rfl⟩
      · have hf := DD.fit hok
        rw [put_yes hok hwr h]
        have hl : (d.waiting ++ [(⟨b, ks⟩ : DW)]).length = d.waiting.length + 1 := by simp
        have hw := hf.wl
        have hwr2 : 0 ≤ b ∧ b < 130 ∧ ks.length = 64 := by
          simp only [wrOk, Bool.and_eq_true, decide_eq_true_eq] at hwr
          exact ⟨hwr.1.1, hwr.1.2, hwr.2⟩
        refine ⟨⟨hd.bl, hd.bb, by show (d.waiting ++ [(⟨b, ks⟩ : DW)]).length ≤ maxLen; rw [hl]; unfold maxLen; omega, fun x hx => ?_, fun x hx => ?_⟩, Or.inr ⟨hf.bl, by show (d.waiting ++ [(⟨b, ks⟩ : DW)]).length ≤ 200; rw [hl]; omega, hf.bb, fun x hx => ?_⟩⟩
        all_goals
          rcases List.mem_append.1 hx with e | e
        · exact hd.wi x e
        · obtain rfl : x = (⟨b, ks⟩ : DW) := by simpa using e
          exact hb
        · exact hd.wb x e
        · obtain rfl : x = (⟨b, ks⟩ : DW) := by simpa using e
          exact hk
        · exact hf.wb x e
        · obtain rfl : x = (⟨b, ks⟩ : DW) := by simpa using e
          exact hwr2

end Go.Proofs.Ythjddpkegooobaa
