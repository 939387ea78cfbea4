import Derived.Laws.EntriesVeiled
import Derived.Test.YtmdpmdmilgbfiaaGreatDoorPartT
namespace Go.Proofs.YtmdpmdmilgbfiaaGreatDoor
open Go.RowKit
set_option maxRecDepth 100000
set_option maxHeartbeats 8000000
theorem mb_atT {w : World} {lo : Nat} {oa : Option Addr} {ys : List Nat} (h : MB w lo oa ys) : BytesAt w oa ys := by
 rcases h with rfl | ⟨G, n, rfl, _, hB⟩
 · exact fun i hi => absurd hi (Nat.not_lt_zero _)
 · exact brow_bytes hB
theorem newest_byteT {d : DD} (h : d.Fit) (ho : d.Ok) : (∀ x, x ∈ d.newestOf.bytes → x < 256) ∧ d.newestOf.bytes.length ≤ 4096 := by
 have hs : ∀ m, m < 2 → (∀ x, x ∈ (d.slotOf m).bytes → x < 256) := fun m hm => by
  unfold DD.slotOf
  split
  · exact DD.img_byte h ho hm
  · intro x hx; cases hx
 unfold DD.newestOf
 split
 · exact ⟨hs 1 (by omega), (DD.slot_fine h (slot := 1) (by omega)).len⟩
 · exact ⟨hs 0 (by omega), (DD.slot_fine h (slot := 0) (by omega)).len⟩
def TUp (d : DD) (w : World) (e : Ending) (w' : World) : Prop :=
 Below w.heap.size w w' ∧ ((∃ na nc nl, d.takeT.code = 0 ∧ e = .returned (.tuple #[d.takeT.val na nc, .nilIface]) ∧ nl.map (·.n) = d.takeT.g.nodes ∧ OwnG w' w.heap.size na nc nl) ∨ (d.takeT.g = zeroG ∧ e = .returned (.tuple #[(TK.mk 0 0 zeroG).val none 0, .iface 132 (.agg #[.int .i64 d.takeT.code, .int .i64 d.takeT.gen])])))
theorem takeUp_any (d : DD) (l : DL) (w : World) (hd : d.Ok) (ha : DAt w l d) : Calls Tryz.prog 50 #[d.val l] w (TUp d w) := by
 have hA := gal (gal (gre w) (.cells #[.slice l.ba d.blocks.length l.bc, .slice l.wa d.waiting.length l.wc] 46)) (.cells #[.int .i64 0, .int .i64 0, .int .i64 0, .int .i64 0, .string ⟨#[]⟩, .int .i64 0, .slice none 0 0] 34)
 have hX0 := (DBox.new w d l 46).grow (gal (gre _) (.cells #[.int .i64 0, .int .i64 0, .int .i64 0, .int .i64 0, .string ⟨#[]⟩, .int .i64 0, .slice none 0 0] 34))
 have hR0 := V7.new_at (w.alloc (.cells #[.slice l.ba d.blocks.length l.bc, .slice l.wa d.waiting.length l.wc] 46)) (.int .i64 0) (.int .i64 0) (.int .i64 0) (.int .i64 0) (.string ⟨#[]⟩) (.int .i64 0) (.slice none 0 0) 34 (w.heap.size + 1) (by simp)
 cases hok : d.ok with
 | false =>
  have ht : d.takeT = ⟨3, 0, zeroG⟩ := if_pos hok
  have ht' : Hid _ := ht
  have hok' : Hid _ := hok
  clear hok ht
  go_enter Tryz.func50, Tryz.ntmps50
  go_wp2_with (go_at_call 29; refine (implDiskOk_any d l _ hd (ha.grow hA)).mono ?_; rintro e w2 ⟨rfl, hb2⟩; rw [hok'.out]; have hR2 := hR0.grow hb2; obtain ⟨_, r0, r1, r2, r3, r4, r5, r6, rf_⟩ := id hR2)
  obtain ⟨hV9, hK9⟩ := hR2.put (.int .i64 0) (.int .i64 0) (.int .i64 0) (.int .i64 0) (.string ⟨#[]⟩) (.int .i64 0) (.slice none 0 0)
  generalize (((((((w2.setCell ⟨w.heap.size + 1, 0, none⟩ (.int .i64 0)).setCell ⟨w.heap.size + 1, 1, none⟩ (.int .i64 0)).setCell ⟨w.heap.size + 1, 2, none⟩ (.int .i64 0)).setCell ⟨w.heap.size + 1, 3, none⟩ (.int .i64 0)).setCell ⟨w.heap.size + 1, 4, none⟩ (.string ⟨#[]⟩)).setCell ⟨w.heap.size + 1, 5, none⟩ (.int .i64 0)).setCell ⟨w.heap.size + 1, 6, none⟩ (.slice none 0 0)) = w9 at hV9 hK9 ⊢
  obtain ⟨_, q0, q1, q2, q3, q4, q5, q6, _⟩ := id hV9
  exact bodyPost_ret (v := .tuple #[(TK.mk 0 0 zeroG).val none 0, .iface 132 (.agg #[.int .i64 3, .int .i64 0])]) (by simp [results, Tryz.results50, go_sem, q0, q1, q2, q3, q4, q5, q6, zeroG]) rfl ⟨(gca hA hb2).trans (hK9.below (gca hA hb2).size (fun z hz e => by omega)), Or.inr ⟨by rw [ht'.out], by rw [ht'.out]⟩⟩
 | true =>
  have hok' : Hid _ := hok
  have hf := DD.fit hok
  obtain ⟨k, hk⟩ := hid_ex d.newestOf
  have hne : d.newest = k := by rw [hk.out]; exact if_pos hok
  cases hko : k.ok with
  | false =>
   have ht : d.takeT = ⟨1, 0, zeroG⟩ := (if_neg (by rw [hok]; simp)).trans (if_pos (by rw [← hk.out]; exact hko))
   have ht' : Hid _ := ht
   have hko' : Hid _ := hko
   clear hok ht hko
   go_enter Tryz.func50, Tryz.ntmps50
   go_upto_region 4 with (first
    | (go_at_call 29; refine (implDiskOk_any d l _ hd (ha.grow hA)).mono ?_; rintro e w2 ⟨rfl, hb2⟩; rw [hok'.out]; obtain ⟨_, x0, x1⟩ := hX0.grow hb2)
    | (go_at_call 27; refine (implNewest_any d l _ hd (ha.grow (gca hA hb2))).mono ?_; rw [hne]; rintro e w3 ⟨oa, oc, rfl, hcp, hM3, hb3⟩))
   have hV4 := V4.new_at w3 (.bool k.ok) (.int .i64 k.gen) (.int .i64 k.slot) (.slice oa k.bytes.length oc) 62 w3.heap.size rfl
   have hb4 := gal (gca (gca hA hb2) hb3) (.cells #[.bool k.ok, .int .i64 k.gen, .int .i64 k.slot, .slice oa k.bytes.length oc] 62)
   have hR4 := (hR0.grow hb2).grow (gal hb3 (.cells #[.bool k.ok, .int .i64 k.gen, .int .i64 k.slot, .slice oa k.bytes.length oc] 62))
   generalize w3.alloc (.cells #[.bool k.ok, .int .i64 k.gen, .int .i64 k.slot, .slice oa k.bytes.length oc] 62) = w4 at hV4 hb4 hR4 ⊢
   rw [hko'.out] at hV4
   obtain ⟨_, v0, v1, v2, v3, vf⟩ := id hV4
   obtain ⟨_, r0, r1, r2, r3, r4, r5, r6, rf_⟩ := id hR4
   clear x0 x1
   go_wp2
   obtain ⟨hV9, hK9⟩ := hR4.put (.int .i64 0) (.int .i64 0) (.int .i64 0) (.int .i64 0) (.string ⟨#[]⟩) (.int .i64 0) (.slice none 0 0)
   generalize (((((((w4.setCell ⟨w.heap.size + 1, 0, none⟩ (.int .i64 0)).setCell ⟨w.heap.size + 1, 1, none⟩ (.int .i64 0)).setCell ⟨w.heap.size + 1, 2, none⟩ (.int .i64 0)).setCell ⟨w.heap.size + 1, 3, none⟩ (.int .i64 0)).setCell ⟨w.heap.size + 1, 4, none⟩ (.string ⟨#[]⟩)).setCell ⟨w.heap.size + 1, 5, none⟩ (.int .i64 0)).setCell ⟨w.heap.size + 1, 6, none⟩ (.slice none 0 0)) = w9 at hV9 hK9 ⊢
   obtain ⟨_, q0, q1, q2, q3, q4, q5, q6, _⟩ := id hV9
   exact bodyPost_ret (v := .tuple #[(TK.mk 0 0 zeroG).val none 0, .iface 132 (.agg #[.int .i64 1, .int .i64 0])]) (by simp [results, Tryz.results50, go_sem, q0, q1, q2, q3, q4, q5, q6, zeroG]) rfl ⟨hb4.trans (hK9.below hb4.size (fun z hz e => by omega)), Or.inr ⟨by rw [ht'.out], by rw [ht'.out]⟩⟩
  | true =>
   obtain ⟨ok, hbo⟩ := hid_ex (unB k.bytes).1
   obtain ⟨u, hu⟩ := hid_ex (unB k.bytes).2
   have hkb := newest_byteT hf hd
   rw [← hk.out] at hkb
   obtain ⟨hkb1, hkb2⟩ := hkb
   have hcp0 : True := trivial
   have hko' : Hid _ := hko
   go_enter Tryz.func50, Tryz.ntmps50
   go_upto_region 7 with (first
    | (go_at_call 29; refine (implDiskOk_any d l _ hd (ha.grow hA)).mono ?_; rintro e w2 ⟨rfl, hb2⟩; rw [hok'.out]; obtain ⟨_, x0, x1⟩ := hX0.grow hb2)
    | (go_at_call 27; refine (implNewest_any d l _ hd (ha.grow (gca hA hb2))).mono ?_; rw [hne]; rintro e w3 ⟨oa, oc, rfl, hcp, hM3, hb3⟩)
    | (go_at_call 92; refine (implUnpack_any oa oc k.bytes _ ((mb_atT hM3).grow (gal (gre _) (.cells #[.bool true, .int .i64 k.gen, .int .i64 k.slot, .slice oa k.bytes.length oc] 62))) hcp.out (by omega) hkb1).mono ?_; rintro e w5 ⟨ua, uc, ul, rfl, hul, huO, hb5⟩; rw [← hu.out] at hul; rw [← hbo.out, ← hu.out]))
   have hV4 := V4.new_at w3 (.bool true) (.int .i64 k.gen) (.int .i64 k.slot) (.slice oa k.bytes.length oc) 62 w3.heap.size rfl
   have hb4 := gal (gca (gca hA hb2) hb3) (.cells #[.bool true, .int .i64 k.gen, .int .i64 k.slot, .slice oa k.bytes.length oc] 62)
   have hR4 := (hR0.grow hb2).grow (gal hb3 (.cells #[.bool true, .int .i64 k.gen, .int .i64 k.slot, .slice oa k.bytes.length oc] 62))
   have hs3 : w3.heap.size < (w3.alloc (.cells #[.bool true, .int .i64 k.gen, .int .i64 k.slot, .slice oa k.bytes.length oc] 62)).heap.size := by simp
   generalize w3.alloc (.cells #[.bool true, .int .i64 k.gen, .int .i64 k.slot, .slice oa k.bytes.length oc] 62) = w4 at hV4 hb4 hR4 hb5 huO hs3 ⊢
   have hRP : w.heap.size + 1 < w3.heap.size := ((hR0.grow hb2).grow hb3).lt
   generalize w3.heap.size = PK at hV4 hs3 hRP ⊢
   have hS6 := Six.new w5 ok u.root (.slice ua u.nodes.length uc) 118
   have hb6 := gal hb5 (.cells #[.bool ok, .int .i64 u.root.kind, .int .i64 u.root.num, .string u.root.text, .int .i64 u.root.node, .slice ua u.nodes.length uc] 118)
   have hV6 := hV4.grow hb6
   have hR6 := hR4.grow hb6
   have hA6 := gca hb4 hb6
   have huO6 := huO.kept ((Kept.refl (fun _ => False) w5).alloc (.cells #[.bool ok, .int .i64 u.root.kind, .int .i64 u.root.num, .string u.root.text, .int .i64 u.root.node, .slice ua u.nodes.length uc] 118)) (fun _ _ e => e) (fun _ _ _ _ e => e)
   have hs45 := hb5.size
   generalize w5.alloc (.cells #[.bool ok, .int .i64 u.root.kind, .int .i64 u.root.num, .string u.root.text, .int .i64 u.root.node, .slice ua u.nodes.length uc] 118) = w6 at hS6 hb6 hV6 hR6 hA6 huO6 ⊢
   generalize w5.heap.size = PU at hS6 hs45 ⊢
   obtain ⟨_, v0, v1, v2, v3, vf⟩ := id hV6
   obtain ⟨_, s0, s1, s2, s3, s4, s5, sf⟩ := id hS6
   obtain ⟨_, r0, r1, r2, r3, r4, r5, r6, rf_⟩ := id hR6
   have hRl := hR4.lt
   cases ok with
   | false =>
    have ht : d.takeT = ⟨2, k.gen, zeroG⟩ := (if_neg (by rw [hok]; simp)).trans ((if_neg (by rw [← hk.out, hko]; simp)).trans ((if_pos (by rw [← hk.out]; exact hbo.out.symm)).trans (by rw [← hk.out])))
    have ht' : Hid _ := ht
    clear ht hok hko
    go_upto_region 8 with fail
    have hS0 : V4 w6.drew PK (.bool true) (.int .i64 k.gen) (.int .i64 k.slot) (.slice oa k.bytes.length oc) := hV6.grow (gdr (gre _))
    have hRd := hR6.grow (gdr (gre _))
    refine wp_regionU (fun u => V4 u PK (.bool true) (.int .i64 k.gen) (.int .i64 k.slot) (.slice oa k.bytes.length oc)) 99 (by kernel_rfl) hS0 (fun _ => ?_)
    have hAd : Below w.heap.size w w6.drew := gdr hA6
    generalize w6.drew = wd at hS0 hRd hAd ⊢
    refine anyU_tk (i := 0) rfl hS0 (fun u hSu => by obtain ⟨_, s0, s1, s2, s3, _⟩ := hSu; go_simp <;> with_reducible rfl) ?_
    refine anyU_tk (i := 1) rfl hS0 (fun u hSu => by obtain ⟨_, s0, s1, s2, s3, _⟩ := hSu; go_simp <;> with_reducible rfl) ?_
    refine anyU_tk (i := 2) rfl hS0 (fun u hSu => by obtain ⟨_, s0, s1, s2, s3, _⟩ := hSu; go_simp <;> with_reducible rfl) ?_
    refine anyU_tk (i := 3) rfl hS0 (fun u hSu => by obtain ⟨_, s0, s1, s2, s3, _⟩ := hSu; go_simp <;> with_reducible rfl) ?_
    refine anyU_tk (i := 4) rfl hS0 (fun u hSu => by obtain ⟨_, s0, s1, s2, s3, _⟩ := hSu; go_simp <;> with_reducible rfl) ?_
    simp only [Act.put, List.getElem_toArray, List.getElem_cons_zero, List.getElem_cons_succ, List.setIfInBounds_toArray, List.set_cons_zero, List.set_cons_succ]
    obtain ⟨_, d0, d1, d2, d3, d4, d5, d6, df_⟩ := id hRd
    refine anyU_one (i := 5) (by kernel_rfl) rfl (fun K hK => ?_)
    go_simp
    obtain ⟨hV9, hK9⟩ := hRd.put (.int .i64 0) (.int .i64 0) (.int .i64 0) (.int .i64 0) (.string ⟨#[]⟩) (.int .i64 0) (.slice none 0 0)
    refine hK.out _ _ (hS0.kept hK9 (by omega)) ?_
    clear hK
    have hS9 := hS0.kept hK9 (by omega)
    generalize (((((((wd.setCell ⟨w.heap.size + 1, 0, none⟩ (.int .i64 0)).setCell ⟨w.heap.size + 1, 1, none⟩ (.int .i64 0)).setCell ⟨w.heap.size + 1, 2, none⟩ (.int .i64 0)).setCell ⟨w.heap.size + 1, 3, none⟩ (.int .i64 0)).setCell ⟨w.heap.size + 1, 4, none⟩ (.string ⟨#[]⟩)).setCell ⟨w.heap.size + 1, 5, none⟩ (.int .i64 0)).setCell ⟨w.heap.size + 1, 6, none⟩ (.slice none 0 0)) = w9 at hV9 hK9 hS9 ⊢
    refine anyU_one (i := 6) (by kernel_rfl) rfl (fun K hK => ?_)
    go_simp
    refine hK.out _ _ hS9 ?_
    clear hK
    refine anyU_done (by kernel_rfl) ?_
    go_wp2
    obtain ⟨_, q0, q1, q2, q3, q4, q5, q6, _⟩ := id hV9
    exact bodyPost_ret (v := .tuple #[(TK.mk 0 0 zeroG).val none 0, .iface 132 (.agg #[.int .i64 2, .int .i64 k.gen])]) (by simp [results, Tryz.results50, go_sem, q0, q1, q2, q3, q4, q5, q6, zeroG]) rfl ⟨hAd.trans (hK9.below hAd.size (fun z hz e => by omega)), Or.inr ⟨by rw [ht'.out], by rw [ht'.out]⟩⟩
   | true =>
    have ht : d.takeT = ⟨0, k.gen, u⟩ := (if_neg (by rw [hok]; simp)).trans ((if_neg (by rw [← hk.out, hko]; simp)).trans ((if_neg (by rw [← hk.out, ← hbo.out]; simp)).trans (by rw [← hk.out, ← hu.out])))
    have ht' : Hid _ := ht
    clear ht hok hko
    go_wp2
    obtain ⟨hV9, hK9⟩ := hR6.put (.int .i64 0) (.int .i64 k.gen) (.int .i64 u.root.kind) (.int .i64 u.root.num) (.string u.root.text) (.int .i64 u.root.node) (.slice ua u.nodes.length uc)
    have hO9 := huO6.kept hK9 (fun j e hp => by have := (huO.nodes.lt j (by rw [e]; rfl)).1; omega) (fun x hx j e hp => by have := ((huO.vals x hx).lt j (by rw [e]; rfl)).1; omega)
    generalize (((((((w6.setCell ⟨w.heap.size + 1, 0, none⟩ (.int .i64 0)).setCell ⟨w.heap.size + 1, 1, none⟩ (.int .i64 k.gen)).setCell ⟨w.heap.size + 1, 2, none⟩ (.int .i64 u.root.kind)).setCell ⟨w.heap.size + 1, 3, none⟩ (.int .i64 u.root.num)).setCell ⟨w.heap.size + 1, 4, none⟩ (.string u.root.text)).setCell ⟨w.heap.size + 1, 5, none⟩ (.int .i64 u.root.node)).setCell ⟨w.heap.size + 1, 6, none⟩ (.slice ua u.nodes.length uc)) = w9 at hV9 hK9 hO9 ⊢
    obtain ⟨_, q0, q1, q2, q3, q4, q5, q6, _⟩ := id hV9
    exact bodyPost_ret (v := .tuple #[(TK.mk 0 k.gen u).val ua uc, .nilIface]) (by simp [results, Tryz.results50, go_sem, q0, q1, q2, q3, q4, q5, q6]) rfl ⟨hA6.trans (hK9.below hA6.size (fun z hz e => by omega)), Or.inl ⟨ua, uc, ul, by rw [ht'.out], by rw [ht'.out], by rw [ht'.out]; exact hul, hO9.le (by have := hb4.size; omega)⟩⟩

def TSpK (t : TK) (w : World) (e : Ending) (w' : World) : Prop := ∃ na nc, e = .returned (t.val na nc) ∧ (∀ w'', Kept (fun z => z < w.heap.size) w' w'' → NodesAt w''.heap.size w'' na t.g.nodes) ∧ Below w.heap.size w w'
theorem specTake_K (d : DD) (l : DL) (w : World) (hd : d.Ok) (ha : DAt w l d) : Calls Tryz.prog 24 #[d.val l] w (TSpK d.takeT w) := by
 have hA := gal (gal (gre w) (.cells #[.slice l.ba d.blocks.length l.bc, .slice l.wa d.waiting.length l.wc] 46)) (.cells #[.int .i64 0, .int .i64 0, .int .i64 0, .int .i64 0, .string ⟨#[]⟩, .int .i64 0, .slice none 0 0] 34)
 have hX0 := (DBox.new w d l 46).grow (gal (gre _) (.cells #[.int .i64 0, .int .i64 0, .int .i64 0, .int .i64 0, .string ⟨#[]⟩, .int .i64 0, .slice none 0 0] 34))
 have hR0 := V7.new_at (w.alloc (.cells #[.slice l.ba d.blocks.length l.bc, .slice l.wa d.waiting.length l.wc] 46)) (.int .i64 0) (.int .i64 0) (.int .i64 0) (.int .i64 0) (.string ⟨#[]⟩) (.int .i64 0) (.slice none 0 0) 34 (w.heap.size + 1) (by simp)
 cases hok : d.ok with
 | false =>
  have ht : d.takeT = ⟨3, 0, zeroG⟩ := if_pos hok
  have ht' : Hid _ := ht
  have hok' : Hid _ := hok
  clear hok ht
  rw [ht'.out]
  go_enter Tryz.func24, Tryz.ntmps24
  go_wp2_with (go_at_call 30; refine (specDiskOk_any d l _ hd (ha.grow hA)).mono ?_; rintro e w2 ⟨rfl, hb2⟩; rw [hok'.out]; have hR2 := hR0.grow hb2; obtain ⟨_, r0, r1, r2, r3, r4, r5, r6, rf_⟩ := id hR2)
  have hA2 := gca hA hb2
  obtain ⟨hV9, hK9⟩ := hR2.put (.int .i64 3) (.int .i64 0) (.int .i64 0) (.int .i64 0) (.string ⟨#[]⟩) (.int .i64 0) (.slice none 0 0)
  generalize (((((((w2.setCell ⟨w.heap.size + 1, 0, none⟩ (.int .i64 3)).setCell ⟨w.heap.size + 1, 1, none⟩ (.int .i64 0)).setCell ⟨w.heap.size + 1, 2, none⟩ (.int .i64 0)).setCell ⟨w.heap.size + 1, 3, none⟩ (.int .i64 0)).setCell ⟨w.heap.size + 1, 4, none⟩ (.string ⟨#[]⟩)).setCell ⟨w.heap.size + 1, 5, none⟩ (.int .i64 0)).setCell ⟨w.heap.size + 1, 6, none⟩ (.slice none 0 0)) = w9 at hV9 hK9 ⊢
  obtain ⟨_, q0, q1, q2, q3, q4, q5, q6, _⟩ := id hV9
  exact bodyPost_ret (v := (TK.mk 3 0 zeroG).val none 0) (by simp [results, Tryz.results24, go_sem, q0, q1, q2, q3, q4, q5, q6, zeroG]) rfl ⟨none, 0, rfl, fun _ _ i hi => absurd hi (Nat.not_lt_zero _), hA2.trans (hK9.below hA2.size (fun z hz e => by omega))⟩
 | true =>
  have hok' : Hid _ := hok
  have hf := DD.fit hok
  obtain ⟨k, hk⟩ := hid_ex d.newestOf
  have hkb := newest_byteT hf hd
  rw [← hk.out] at hkb
  obtain ⟨hkb1, hkb2⟩ := hkb
  cases hko : k.ok with
  | false =>
   have ht : d.takeT = ⟨1, 0, zeroG⟩ := (if_neg (by rw [hok]; simp)).trans (if_pos (by rw [← hk.out]; exact hko))
   have ht' : Hid _ := ht
   have hko' : Hid _ := hko
   clear hok ht hko
   rw [ht'.out]
   go_enter Tryz.func24, Tryz.ntmps24
   go_upto_region 4 with (first
    | (go_at_call 30; refine (specDiskOk_any d l _ hd (ha.grow hA)).mono ?_; rintro e w2 ⟨rfl, hb2⟩; rw [hok'.out]; obtain ⟨_, x0, x1⟩ := hX0.grow hb2)
    | (go_at_call 62; refine (l4newest_any d l _ hf hd (ha.grow (gca hA hb2))).mono ?_; rw [← hk.out]; rintro e w3 ⟨oa, oc, rfl, hcp, hbt, _, hb3⟩))
   have hV4 := V4.new_at w3 (.bool k.ok) (.int .i64 k.gen) (.int .i64 k.slot) (.slice oa k.bytes.length oc) 62 w3.heap.size rfl
   have hb4 := gal (gca (gca hA hb2) hb3) (.cells #[.bool k.ok, .int .i64 k.gen, .int .i64 k.slot, .slice oa k.bytes.length oc] 62)
   have hR4 := (hR0.grow hb2).grow (gal hb3 (.cells #[.bool k.ok, .int .i64 k.gen, .int .i64 k.slot, .slice oa k.bytes.length oc] 62))
   generalize w3.alloc (.cells #[.bool k.ok, .int .i64 k.gen, .int .i64 k.slot, .slice oa k.bytes.length oc] 62) = w4 at hV4 hb4 hR4 ⊢
   rw [hko'.out] at hV4
   obtain ⟨_, v0, v1, v2, v3, vf⟩ := id hV4
   obtain ⟨_, r0, r1, r2, r3, r4, r5, r6, rf_⟩ := id hR4
   clear x0 x1
   go_wp2
   obtain ⟨hV9, hK9⟩ := hR4.put (.int .i64 1) (.int .i64 0) (.int .i64 0) (.int .i64 0) (.string ⟨#[]⟩) (.int .i64 0) (.slice none 0 0)
   generalize (((((((w4.setCell ⟨w.heap.size + 1, 0, none⟩ (.int .i64 1)).setCell ⟨w.heap.size + 1, 1, none⟩ (.int .i64 0)).setCell ⟨w.heap.size + 1, 2, none⟩ (.int .i64 0)).setCell ⟨w.heap.size + 1, 3, none⟩ (.int .i64 0)).setCell ⟨w.heap.size + 1, 4, none⟩ (.string ⟨#[]⟩)).setCell ⟨w.heap.size + 1, 5, none⟩ (.int .i64 0)).setCell ⟨w.heap.size + 1, 6, none⟩ (.slice none 0 0)) = w9 at hV9 hK9 ⊢
   obtain ⟨_, q0, q1, q2, q3, q4, q5, q6, _⟩ := id hV9
   exact bodyPost_ret (v := (TK.mk 1 0 zeroG).val none 0) (by simp [results, Tryz.results24, go_sem, q0, q1, q2, q3, q4, q5, q6, zeroG]) rfl ⟨none, 0, rfl, fun _ _ i hi => absurd hi (Nat.not_lt_zero _), hb4.trans (hK9.below hb4.size (fun z hz e => by omega))⟩
  | true =>
   obtain ⟨ok, hbo⟩ := hid_ex (unB k.bytes).1
   obtain ⟨u, hu⟩ := hid_ex (unB k.bytes).2
   obtain ⟨tt, htt⟩ := hid_ex d.takeT
   rw [← htt.out]
   go_enter Tryz.func24, Tryz.ntmps24
   go_upto_region 7 with (first
    | (go_at_call 30; refine (specDiskOk_any d l _ hd (ha.grow hA)).mono ?_; rintro e w2 ⟨rfl, hb2⟩; rw [hok'.out]; obtain ⟨_, x0, x1⟩ := hX0.grow hb2)
    | (go_at_call 62; refine (l4newest_any d l _ hf hd (ha.grow (gca hA hb2))).mono ?_; rw [← hk.out]; rintro e w3 ⟨oa, oc, rfl, hcp, hbt, _, hb3⟩)
    | (go_at_call 63; refine (specUnpack_K oa oc k.bytes _ (hbt.grow (gal (gre _) (.cells #[.bool true, .int .i64 k.gen, .int .i64 k.slot, .slice oa k.bytes.length oc] 62))) hcp.out (by unfold maxLen; omega) hkb1).mono ?_; rintro e w5 ⟨ua, uc, rfl, _, hN5, hgs, hb5⟩; rw [sUnB_eq _ hgs, ← hu.out] at hN5; rw [sUnB_eq _ hgs, ← hbo.out, ← hu.out]))
   have hV4 := V4.new_at w3 (.bool true) (.int .i64 k.gen) (.int .i64 k.slot) (.slice oa k.bytes.length oc) 62 w3.heap.size rfl
   have hb4 := gal (gca (gca hA hb2) hb3) (.cells #[.bool true, .int .i64 k.gen, .int .i64 k.slot, .slice oa k.bytes.length oc] 62)
   have hR4 := (hR0.grow hb2).grow (gal hb3 (.cells #[.bool true, .int .i64 k.gen, .int .i64 k.slot, .slice oa k.bytes.length oc] 62))
   generalize w3.alloc (.cells #[.bool true, .int .i64 k.gen, .int .i64 k.slot, .slice oa k.bytes.length oc] 62) = w4 at hV4 hb4 hR4 hb5 hN5 ⊢
   generalize w3.heap.size = PK at hV4 ⊢
   have hS6 := Six.new w5 ok u.root (.slice ua u.nodes.length uc) 118
   have hb6 := gal hb5 (.cells #[.bool ok, .int .i64 u.root.kind, .int .i64 u.root.num, .string u.root.text, .int .i64 u.root.node, .slice ua u.nodes.length uc] 118)
   have hKu : Kept (fun z => z < w4.heap.size) w5 (w5.alloc (.cells #[.bool ok, .int .i64 u.root.kind, .int .i64 u.root.num, .string u.root.text, .int .i64 u.root.node, .slice ua u.nodes.length uc] 118)) := (Kept.refl _ w5).alloc _
   have hR4l := hR4.lt
   have hV6 := hV4.grow hb6
   have hR6 := hR4.grow hb6
   have hA6 := gca hb4 hb6
   generalize w5.alloc (.cells #[.bool ok, .int .i64 u.root.kind, .int .i64 u.root.num, .string u.root.text, .int .i64 u.root.node, .slice ua u.nodes.length uc] 118) = w6 at hS6 hb6 hV6 hR6 hA6 hKu ⊢
   generalize w5.heap.size = PU at hS6 ⊢
   obtain ⟨_, v0, v1, v2, v3, vf⟩ := id hV6
   obtain ⟨_, s0, s1, s2, s3, s4, s5, sf⟩ := id hS6
   obtain ⟨_, r0, r1, r2, r3, r4, r5, r6, rf_⟩ := id hR6
   have hR6l := hR6.lt
   cases ok with
   | false =>
    have ht : tt = ⟨2, k.gen, zeroG⟩ := htt.out.trans ((if_neg (by rw [hok]; simp)).trans ((if_neg (by rw [← hk.out, hko]; simp)).trans ((if_pos (by rw [← hk.out]; exact hbo.out.symm)).trans (by rw [← hk.out]))))
    have ht' : Hid _ := ht
    clear ht hok hko
    go_wp2
    obtain ⟨hV9, hK9⟩ := hR6.put (.int .i64 2) (.int .i64 k.gen) (.int .i64 0) (.int .i64 0) (.string ⟨#[]⟩) (.int .i64 0) (.slice none 0 0)
    generalize (((((((w6.setCell ⟨w.heap.size + 1, 0, none⟩ (.int .i64 2)).setCell ⟨w.heap.size + 1, 1, none⟩ (.int .i64 k.gen)).setCell ⟨w.heap.size + 1, 2, none⟩ (.int .i64 0)).setCell ⟨w.heap.size + 1, 3, none⟩ (.int .i64 0)).setCell ⟨w.heap.size + 1, 4, none⟩ (.string ⟨#[]⟩)).setCell ⟨w.heap.size + 1, 5, none⟩ (.int .i64 0)).setCell ⟨w.heap.size + 1, 6, none⟩ (.slice none 0 0)) = w9 at hV9 hK9 ⊢
    obtain ⟨_, q0, q1, q2, q3, q4, q5, q6, _⟩ := id hV9
    exact bodyPost_ret (v := (TK.mk 2 k.gen zeroG).val none 0) (by simp [results, Tryz.results24, go_sem, q0, q1, q2, q3, q4, q5, q6, zeroG]) rfl (by rw [ht'.out]; exact ⟨none, 0, rfl, fun _ _ i hi => absurd hi (Nat.not_lt_zero _), hA6.trans (hK9.below hA6.size (fun z hz e => by omega))⟩)
   | true =>
    have ht : tt = ⟨0, k.gen, u⟩ := htt.out.trans ((if_neg (by rw [hok]; simp)).trans ((if_neg (by rw [← hk.out, hko]; simp)).trans ((if_neg (by rw [← hk.out, ← hbo.out]; simp)).trans (by rw [← hk.out, ← hu.out]))))
    have ht' : Hid _ := ht
    clear ht hok hko
    go_wp2
    obtain ⟨hV9, hK9⟩ := hR6.put (.int .i64 0) (.int .i64 k.gen) (.int .i64 u.root.kind) (.int .i64 u.root.num) (.string u.root.text) (.int .i64 u.root.node) (.slice ua u.nodes.length uc)
    have hN9 := fun w'' (hK'' : Kept (fun z => z < w.heap.size) _ w'') => hN5 w'' (hKu.trans ((hK9.mono (q := fun z => z < w4.heap.size) (fun k _ e => by omega)).trans (hK''.mono (q := fun z => z < w4.heap.size) (fun k _ e => by have := hb4.size; omega)) (fun _ _ e => e)) (fun _ _ e => e))
    generalize (((((((w6.setCell ⟨w.heap.size + 1, 0, none⟩ (.int .i64 0)).setCell ⟨w.heap.size + 1, 1, none⟩ (.int .i64 k.gen)).setCell ⟨w.heap.size + 1, 2, none⟩ (.int .i64 u.root.kind)).setCell ⟨w.heap.size + 1, 3, none⟩ (.int .i64 u.root.num)).setCell ⟨w.heap.size + 1, 4, none⟩ (.string u.root.text)).setCell ⟨w.heap.size + 1, 5, none⟩ (.int .i64 u.root.node)).setCell ⟨w.heap.size + 1, 6, none⟩ (.slice ua u.nodes.length uc)) = w9 at hV9 hK9 hN9 ⊢
    obtain ⟨_, q0, q1, q2, q3, q4, q5, q6, _⟩ := id hV9
    exact bodyPost_ret (v := (TK.mk 0 k.gen u).val ua uc) (by simp [results, Tryz.results24, go_sem, q0, q1, q2, q3, q4, q5, q6]) rfl (by rw [ht'.out]; exact ⟨ua, uc, rfl, hN9, hA6.trans (hK9.below hA6.size (fun z hz e => by omega))⟩)
def mEnd (k : Nat) : List GN → Nat
 | [] => k
 | n :: r => mEnd (k + 1 + 4 * n.vals.length) r
theorem mEnd_small (l : List GN) (h : ∀ n, n ∈ l → n.vals.length ≤ 100) : ∀ k, mEnd k l ≤ k + 401 * l.length := by
 induction l with
 | nil => intro k; simp [mEnd]
 | cons x r ih =>
  intro k
  have h1 := ih (fun n hn => h n (List.mem_cons_of_mem _ hn)) (k + 1 + 4 * x.vals.length)
  have h2 := h x (List.mem_cons_self ..)
  simp only [mEnd, List.length_cons]
  omega
def Touch (na : Option Addr) (n : Nat) (va : Nat → Option Addr) (b : Nat) : Prop := na = some ⟨b, 0, none⟩ ∨ ∃ i, i < n ∧ va i = some ⟨b, 0, none⟩
theorem OwnG.touch {w : World} {base : Nat} {na : Option Addr} {nc : Nat} {nl : List NL} (h : OwnG w base na nc nl) {b : Nat} (hb : Touch na nl.length (fun i => nl[i]!.a) b) : base ≤ b ∧ b < w.heap.size := by
 rcases hb with e | ⟨i, hi, e⟩
 · exact h.nodes.lt b (by rw [e]; rfl)
 · exact (h.vals _ (mem_at hi)).lt b (by simp only at e; rw [e]; rfl)
def spoilB (bl : List (List Nat)) (b y x : Nat) : List (List Nat) := bl.set b (bl[b]!.set y (bl[b]![y]! ^^^ x))
def DD.spoilA (d : DD) (x : AC) : DD := ⟨spoilB d.blocks x.block.toNat x.byte.toNat x.xor.toNat, d.waiting⟩
def AC.cutN (x : AC) (n : Nat) : Nat := if x.op = 2 ∧ x.steps < (n : Int) then x.steps.toNat else n
theorem AC.cutN_le (x : AC) (n : Nat) : x.cutN n ≤ n := by
 unfold AC.cutN
 split
 · rename_i h; omega
 · exact Nat.le_refl _
def DD.laidA (d : DD) (x : AC) : DD := (applyN d (d.lay (packB x.graph)) (x.cutN (d.lay (packB x.graph)).length)).getD zeroD
def DD.laidC (d : DD) (x : AC) : DD := if x.op = 2 then (d.laidA x).settle (keepOf x.kept) else d.laidA x
def DD.doA (d : DD) (x : AC) : DD × TK :=
 if x.okA = false then (d, ⟨4, 0, zeroG⟩)
 else if x.op = 3 then (d, d.takeT)
 else if x.op = 4 then (d.spoilA x, ⟨0, 0, zeroG⟩)
 else if packB x.graph = [] then (d, ⟨5, 0, zeroG⟩)
 else (d.laidC x, ⟨0, (d.laidC x).newestOf.gen, zeroG⟩)
structure GoodD (d : DD) : Prop where
 ok : d.ok = true
 w : d.waiting = []
 o : d.Ok
theorem applyN_fitP {d : DD} {ops : List OP} (hd : d.Ok) (hok : OpsOk ops) (hk : d.ok = true) : ∀ j e, j ≤ ops.length → applyN d ops j = some e → e.Ok ∧ e.ok = true
 | 0, e, _, h => by obtain rfl := Option.some.inj h; exact ⟨hd, hk⟩
 | j + 1, e, hj, h => by
  cases hp : applyN d ops j with
  | none => rw [applyN_none hp 1] at h; cases h
  | some f =>
   obtain ⟨h1, h2⟩ := applyN_fitP hd hok hk j f (by omega) hp
   cases hs : (f.step ops[j]!).ok with
   | false => rw [applyN_no hp hs] at h; cases h
   | true =>
    rw [applyN_yes hp hs] at h
    obtain rfl := Option.some.inj h
    have hm : ops[j]! ∈ ops := mem_at (by omega)
    exact ⟨step_ok h1 h2 (hok.bl _ hm) (hok.by_ _ hm), hs⟩
theorem laid_some {d : DD} (h : GoodD d) (x : AC) : ∃ f, applyN d (d.lay (packB x.graph)) (x.cutN (d.lay (packB x.graph)).length) = some f ∧ d.laidA x = f ∧ f.ok = true ∧ f.Ok := by
 have hl := packB_lenK x.graph
 have hr := newest_rng (DD.fit h.ok)
 have hoo := lay_opsOk d ⟨hr.g.2, hr.g.1⟩ (packB_bytesK x.graph) hl
 have hll := lay_len d hl
 have hcl := x.cutN_le (d.lay (packB x.graph)).length
 obtain ⟨f, h1, h2, _⟩ := applyN_good h.ok (lay_good d hl) (x.cutN (d.lay (packB x.graph)).length) hcl (by rw [h.w]; simp; omega)
 exact ⟨f, h1, by unfold DD.laidA; rw [h1]; rfl, h2, (applyN_fitP h.o hoo h.ok _ f hcl h1).1⟩
theorem laid_ok {d : DD} (h : GoodD d) (x : AC) : (d.laidA x).ok = true ∧ (d.laidA x).Ok ∧ (x.op ≠ 2 → (d.laidA x).waiting = []) := by
 obtain ⟨f, h1, h2, h3, h4⟩ := laid_some h x
 refine ⟨by rw [h2]; exact h3, by rw [h2]; exact h4, fun e => ?_⟩
 rw [h2]
 have hc : x.cutN (d.lay (packB x.graph)).length = (d.lay (packB x.graph)).length := if_neg (fun k => e k.1)
 rw [hc] at h1
 exact lay_done h.w h.ok (packB_lenK x.graph) h1
theorem laidC_good {d : DD} (h : GoodD d) (x : AC) : GoodD (d.laidC x) := by
 obtain ⟨h1, h2, h3⟩ := laid_ok h x
 unfold DD.laidC
 split
 ·
  obtain ⟨a, b⟩ := settle_okP h1 (keepOf x.kept)
  exact ⟨a, b, settle_okA h2 h1 _⟩
 · rename_i e; exact ⟨h1, h3 e, h2⟩
theorem spoilB_length (bl : List (List Nat)) (b y x : Nat) : (spoilB bl b y x).length = bl.length := by simp [spoilB]
theorem spoilA_good {d : DD} (h : GoodD d) {x : AC} (hb : x.block < 130) (hx : x.xor ≤ 255) : GoodD (d.spoilA x) := by
 have hf := DD.fit h.ok
 have hbl : x.block.toNat < d.blocks.length := by rw [hf.bl]; omega
 have hm := mem_at hbl
 refine ⟨fit_okP ⟨by show (spoilB _ _ _ _).length = 130; rw [spoilB_length]; exact hf.bl, hf.wl, fun r hr => ?_, hf.wb⟩, h.w, ⟨by show (spoilB _ _ _ _).length ≤ maxLen; rw [spoilB_length]; exact h.o.bl, fun r hr => ?_, h.o.wl, h.o.wi, h.o.wb⟩⟩
 ·
  rcases List.mem_or_eq_of_mem_set hr with e | e
  · exact hf.bb r e
  · rw [e, List.length_set]; exact hf.bb _ hm
 ·
  rcases List.mem_or_eq_of_mem_set hr with e | e
  · exact h.o.bb r e
  ·
   have hk := h.o.bb _ hm
   rw [e]
   refine ⟨by rw [List.length_set]; exact hk.len, fun z hz => ?_⟩
   rcases List.mem_or_eq_of_mem_set hz with e2 | e2
   · exact hk.byte z e2
   ·
    rw [e2]
    refine Nat.xor_lt_two_pow (n := 8) ?_ (by omega)
    by_cases hy : x.byte.toNat < d.blocks[x.block.toNat]!.length
    · exact hk.byte _ (mem_at hy)
    · rw [getElem!_neg (d.blocks[x.block.toNat]!) x.byte.toNat hy]; decide
theorem okA_op4 {x : AC} (h : x.okA = true) (e : x.op = 4) : x.steps = 0 ∧ x.kept.length = 0 ∧ x.graph.root.nul = true ∧ x.graph.nodes.length = 0 ∧ 0 ≤ x.block ∧ x.block < 130 ∧ 0 ≤ x.byte ∧ x.byte < 64 ∧ 1 ≤ x.xor ∧ x.xor ≤ 255 := by
 unfold AC.okA at h
 simp only [e] at h
 simp at h
 obtain ⟨⟨⟨⟨⟨⟨⟨⟨h1, h2⟩, h3, h4⟩, h5⟩, h6⟩, h7⟩, h8⟩, h9⟩, h10⟩ := h
 exact ⟨h1, by rw [h2]; rfl, h3, by rw [h4]; rfl, h5, h6, h7, h8, h9, h10⟩
theorem doA_good {d : DD} (h : GoodD d) (x : AC) : GoodD (d.doA x).1 := by
 unfold DD.doA
 split
 · exact h
 ·
  rename_i ho
  split
  · exact h
  ·
   split
   ·
    rename_i e
    have := okA_op4 (by simpa using ho) e
    exact spoilA_good h this.2.2.2.2.2.1 this.2.2.2.2.2.2.2.2.2
   ·
    split
    · exact h
    · exact laidC_good h x
theorem unB_casesP (bs : List Nat) : (unB bs).2 = zeroG ∨ (okG (unB bs).2 = true ∧ (unB bs).2.Ok) := by
 unfold unB
 cases h : rdGraph bs with
 | none => exact Or.inl rfl
 | some y =>
  obtain ⟨g, q⟩ := y
  by_cases hp : packB g = bs
  ·
   right
   have e : (if packB g = bs then (true, g) else (false, zeroG)) = (true, g) := if_pos hp
   dsimp only
   rw [e]
   refine ⟨?_, rdGraph_ok h⟩
   by_cases ho : okG g = true ∧ (imageB g).length ≤ 4096
   · exact ho.1
   ·
    unfold packB at hp
    rw [if_neg ho] at hp
    rw [← hp] at h
    cases h
  ·
   left
   have e : (if packB g = bs then (true, g) else (false, zeroG)) = (false, zeroG) := if_neg hp
   dsimp only
   rw [e]
theorem zeroG_okP : zeroG.Ok := ⟨⟨small_i64 (by show (0 : Int) ≤ 0 ∧ (0 : Int) ≤ 1000000; omega), small_i64 (by show (0 : Int) ≤ 0 ∧ (0 : Int) ≤ 1000000; omega), Nat.zero_le _, small_i64 (by show (0 : Int) ≤ 0 ∧ (0 : Int) ≤ 1000000; omega)⟩, Nat.zero_le _, fun n hn => (by cases hn)⟩
structure TK.Fine (t : TK) : Prop where
 o : t.g.Ok
 l : t.g.nodes.length ≤ 300
 m : ∀ k, mEnd k t.g.nodes ≤ k + 130000
theorem TK.zeroFine (c g : Int) : (TK.mk c g zeroG).Fine := ⟨zeroG_okP, Nat.zero_le _, fun k => by show mEnd k [] ≤ _; simp [mEnd]⟩
theorem takeT_fine (d : DD) : d.takeT.Fine := by
 unfold DD.takeT
 split
 · exact TK.zeroFine _ _
 ·
  split
  · exact TK.zeroFine _ _
  ·
   split
   · exact TK.zeroFine _ _
   ·
    rcases unB_casesP d.newestOf.bytes with h | ⟨h, ho⟩
    · rw [h]; exact TK.zeroFine _ _
    ·
     obtain ⟨h1, _, h3⟩ := okG_parts h
     exact ⟨ho, h1, fun k => by have h4 := mEnd_small (unB d.newestOf.bytes).2.nodes (fun n hn => (okN_parts (h3 n hn)).1) k; show mEnd k (unB d.newestOf.bytes).2.nodes ≤ _; omega⟩
theorem doA_fine (d : DD) (x : AC) : (d.doA x).2.Fine := by
 unfold DD.doA
 split
 · exact TK.zeroFine _ _
 ·
  split
  · exact takeT_fine d
  ·
   split
   · exact TK.zeroFine _ _
   ·
    split
    · exact TK.zeroFine _ _
    · exact TK.zeroFine _ _
def diskN (ls : List AC) : Nat → DD
 | 0 => blankD
 | k + 1 => ((diskN ls k).doA ls[k]!).1
def ansN (ls : List AC) : Nat → List TK
 | 0 => []
 | k + 1 => ansN ls k ++ [((diskN ls k).doA ls[k]!).2]
theorem ansN_length (ls : List AC) : ∀ k, (ansN ls k).length = k
 | 0 => rfl
 | k + 1 => by show (ansN ls k ++ _).length = _; rw [List.length_append, ansN_length ls k]; rfl
theorem blank_goodP : GoodD blankD := ⟨by decide +kernel, rfl, ⟨by simp [blankD, maxLen], fun b hb => by rw [List.eq_of_mem_replicate hb]; exact ⟨by simp [maxLen], fun x hx => by rw [List.eq_of_mem_replicate hx]; omega⟩, Nat.zero_le _, fun x hx => (by cases hx), fun x hx => (by cases hx)⟩⟩
theorem diskN_good (ls : List AC) : ∀ k, GoodD (diskN ls k)
 | 0 => blank_goodP
 | k + 1 => doA_good (diskN_good ls k) _
theorem ansN_fine (ls : List AC) : ∀ k t, t ∈ ansN ls k → t.Fine
 | 0, t, h => by cases h
 | k + 1, t, h => by
  rcases List.mem_append.1 h with e | e
  · exact ansN_fine ls k t e
  · rw [List.mem_singleton.1 e]; exact doA_fine _ _
def playA (ls : List AC) : List TK := if ls.length ≤ 60 then ansN ls ls.length else []
theorem playA_fine (ls : List AC) : ∀ t, t ∈ playA ls → t.Fine := by
 unfold playA
 split
 · exact ansN_fine ls _
 · intro t h; cases h
theorem playA_length (ls : List AC) : (playA ls).length ≤ 60 := by
 unfold playA
 split
 · rw [ansN_length]; assumption
 · exact Nat.zero_le _
theorem crashKeeps_any (j K : Nat) (ka : Option Addr) (ks : List Bool) (kc : Nat) (w : World) (hj : j ≤ 1000) (_hl : ks.length ≤ maxLen) (hc : w.cell? ⟨K, 0, none⟩ = some (.slice ka ks.length kc)) (ha : BoolsAt w ka ks) :
  Calls Tryz.prog 55 #[.int .i64 j, .pointer (some ⟨K, 0, none⟩)] w fun e w' => e = .returned (.bool (keepOf ks j)) ∧ Below w.heap.size w w' := by
 by_cases hlt : j < ks.length
 ·
  obtain ⟨b, off, rfl, hb⟩ := ha j hlt
  have i0 : (0 : Int) ≤ (j : Int) := by omega
  have i1 : (j : Int) < (ks.length : Int) := by omega
  have he : Hid (keepOf ks j = ks[j]!) := by show _ = _; simp [keepOf, hlt]
  obtain ⟨x, hx⟩ := hid_ex ks[j]!
  rw [← hx.out] at hb
  go_enter Tryz.func55, Tryz.ntmps55
  go_wp2
  go_ret
  exact ⟨by rw [he.out, ← hx.out]; rfl, gre _⟩
 ·
  have i1 : ¬ ((j : Int) < (ks.length : Int)) := by omega
  have he : Hid (keepOf ks j = false) := by show _ = _; simp [keepOf]; omega
  go_enter Tryz.func55, Tryz.ntmps55
  go_wp2
  go_ret
  exact ⟨by rw [he.out]; rfl, gre _⟩
theorem BoolsAt.below {w w' : World} {a : Option Addr} {ks : List Bool} {p : Nat} (h : BoolsAt w a ks) (hb : Below p w w') (hp : ∀ b off, a = some ⟨b, off, none⟩ → 0 < ks.length → b < p) : BoolsAt w' a ks := fun i hi => by
 obtain ⟨b, off, ha, hc⟩ := h i hi
 exact ⟨b, off, ha, (World.cell?_of_block (w := w) (hb.block b (hp b off ha (by omega)))).trans hc⟩
theorem powerCrash_any (p : Nat) (bl : List (List Nat)) (pa : Option Addr) (pc : Nat) (ws : List DW) (K : Nat) (ka : Option Addr) (ks : List Bool) (kc : Nat) (w : World) (hw : ws.length ≤ 201) (hwb : ∀ x, x ∈ ws → 0 ≤ x.block ∧ x.block < 130) (hkl : ks.length ≤ maxLen) (hKp : K < p) (hKc0 : w.cell? ⟨K, 0, none⟩ = some (.slice ka ks.length kc)) (hKb0 : BoolsAt w ka ks) (hkp0 : ∀ b off, ka = some ⟨b, off, none⟩ → 0 < ks.length → b < p) (h : Dr w p bl pa pc ws (.func (.func 55) #[] #[.pointer (some ⟨K, 0, none⟩)])) :
  Calls Tryz.prog 56 #[.pointer (some ⟨p, 0, none⟩)] w fun e w' => e = .returned (.tuple #[]) ∧ Dr w' p (settleN (keepOf ks) bl ws ws.length) none 0 [] (.func (.func 55) #[] #[.pointer (some ⟨K, 0, none⟩)]) ∧ Below p w w' := by
 have hz65 := (zero_of_info zero_pending).1
 have x0 := h.d.ws
 have hpl0 := h.d.lt
 go_enter Tryz.func56, Tryz.ntmps56
 go_wp2
 go_loopw [9] (fun i wr => ∃ k : Nat, k ≤ ws.length ∧ i = .int .i64 k ∧ Dr wr p (settleN (keepOf ks) bl ws k) pa pc ws (.func (.func 55) #[] #[.pointer (some ⟨K, 0, none⟩)]) ∧ Below p w wr) (fun i _ => ws.length - (intOf i).toNat)
 case atStart => exact ⟨0, Nat.zero_le _, rfl, h, Below.refl _ _⟩
 case round =>
  obtain ⟨k, hk, rfl, hD, hb⟩ := hrel
  clear x0
  by_cases hlt : k < ws.length
  ·
   obtain ⟨g, rfl, hg1, hgl, hrg⟩ := owns_pend hD.own hD.w64 hlt
   obtain ⟨n, hn⟩ := hid_ex ws[k]!
   rw [← hn.out] at hrg
   have hnm : n ∈ ws := by rw [hn.out]; exact mem_at hlt
   have hn64 : Hid (n.bytes.length = 64) := h.w64 _ hnm
   have hpl : n.pc.length = 65 := pc_length hn64.out
   have hbl64 : (bcells n.bytes).length = 64 := by rw [bcells_length]; exact hn64.out
   obtain ⟨hn0, hn1⟩ := hwb n hnm
   obtain ⟨m, hm⟩ : ∃ m : Nat, n.block = (m : Int) := ⟨n.block.toNat, by omega⟩
   have i0 : (0 : Int) ≤ (k : Int) := by omega
   have i1 : (k : Int) < (ws.length : Int) := by omega
   go_upto_region 3 with (first
    | (refine wpList_load_mid rfl 160 _ rfl g (k * 65) rfl n.pc _ hrg Tryz.underlying160 rfl (by rw [size_pending, hpl]) ?_)
    | (refine wpList_alloc_big rfl 160 rfl _ hz65 ?_)
    | (refine wpList_store_new rfl 160 _ _ rfl _ n.pc.toArray rfl rfl (by rw [size_pending]; simp [hpl]) (by simp [zeros, hpl]) (all_oneCell_toArray pc_one) ?_))
   have hDA := hD.grow (gal (gre wr) (.cells n.pc.toArray 160))
   have hbA : Below p w (wr.alloc (.cells n.pc.toArray 160)) := hb.alloc (by have := hD.d.lt; omega) _
   have hrn := range_new wr n.pc 160
   have hr1 : (wr.alloc (.cells n.pc.toArray 160)).rangeAt wr.heap.size 1 (bcells n.bytes) := range_drop (cs := [.int .i64 n.block]) hrn
   have hq1 : (wr.alloc (.cells n.pc.toArray 160)).cell? ⟨wr.heap.size, 0, none⟩ = some (.int .i64 (m : Int)) := by rw [← hm]; exact hrn 0 _ rfl
   have hsC : (wr.alloc (.cells n.pc.toArray 160)).heap.size = wr.heap.size + 1 := by simp
   generalize wr.alloc (.cells n.pc.toArray 160) = wC at hDA hbA hr1 hq1 hsC ⊢
   clear hrn hrg
   generalize wr.heap.size = Q at hr1 hq1 hsC hgl ⊢
   have kf := hDA.d.kf
   have hm130 : m < 130 := by omega
   have j0 : (0 : Int) ≤ (m : Int) := by omega
   have j1 : (m : Int) < 130 := by omega
   have hmt : n.block.toNat = m := by omega
   have hmt' : Hid _ := hmt
   have hm' : Hid _ := hm
   have hn0' : Hid _ := hn0
   have hn1' : Hid _ := hn1
   clear hmt hm hn0 hn1
   have hKc : wC.cell? ⟨K, 0, none⟩ = some (.slice ka ks.length kc) := (World.cell?_of_block (w := w) (hbA.block K hKp)).trans hKc0
   have hKb : BoolsAt wC ka ks := hKb0.below hbA hkp0
   cases hkp : (keepOf ks) k with
   | true =>
    have hkp' : Hid _ := hkp
    have hst : Hid (settleN (keepOf ks) bl ws (k + 1) = setB (settleN (keepOf ks) bl ws k) n) := by show _ = _; simp only [settleN]; rw [if_pos hkp, ← hn.out]
    clear hkp
    go_upto_region 4 with (go_at_call 55; refine (crashKeeps_any k K ka ks kc _ (by omega) hkl hKc hKb).mono ?_; rintro e w2 ⟨rfl, hb2⟩; obtain ⟨hD2, hb2A, hq2, hr2⟩ : Dr w2 p (settleN (keepOf ks) bl ws k) (some ⟨g, 0, none⟩) pc ws (.func (.func 55) #[] #[.pointer (some ⟨K, 0, none⟩)]) ∧ Below p w w2 ∧ w2.cell? ⟨Q, 0, none⟩ = some (.int .i64 (m : Int)) ∧ w2.rangeAt Q 1 (bcells n.bytes) := ⟨hDA.grow hb2, hbA.trans (hb2.mono (by have := hDA.d.lt; omega)), cell_later hb2 hq1, range_grow hr1 hb2⟩; rw [hkp'.out])
    refine wp_regionU (fun u => u.cell? ⟨Q, 0, none⟩ = some (.int .i64 (m : Int)) ∧ u.rangeAt Q 1 (bcells n.bytes)) 8 (by kernel_rfl) ⟨hq2, hr2⟩ (fun hS0 => ?_)
    refine anyU_tk (i := 0) rfl hS0 (fun u hSu => by obtain ⟨s0, s1⟩ := hSu; go_simp <;> with_reducible rfl) ?_
    refine anyU_tk (i := 1) rfl hS0 (fun u hSu => by obtain ⟨s0, s1⟩ := hSu; go_simp <;> with_reducible rfl) ?_
    refine anyU_tk (i := 2) rfl hS0 (fun u hSu => by obtain ⟨s0, s1⟩ := hSu; go_simp <;> with_reducible rfl) ?_
    refine anyU_tk (i := 3) rfl hS0 (fun u hSu => by obtain ⟨s0, s1⟩ := hSu; go_simp <;> with_reducible rfl) ?_
    simp only [Act.put, List.getElem_toArray, List.getElem_cons_zero, List.getElem_cons_succ, List.setIfInBounds_toArray, List.set_cons_zero, List.set_cons_succ]
    refine anyU_take (i := 4) rfl (by kernel_rfl) (by kernel_rfl) (by kernel_rfl) (by kernel_rfl) (fun _ _ _ h => h) (yieldsIf_load_mid (by rfl) 106 (.tmp 23) rfl Q 1 (by rfl) (bcells n.bytes) _ (fun _ hS => hS.2) Tryz.underlying106 rfl (by rw [size_content, hbl64])) hS0 ?_
    simp only [Act.put, List.getElem_toArray, List.getElem_cons_zero, List.getElem_cons_succ, List.setIfInBounds_toArray, List.set_cons_zero, List.set_cons_succ]
    obtain ⟨s0, s1⟩ := id hS0
    refine anyU_one (i := 5) (by kernel_rfl) rfl (fun K hK => ?_)
    go_simp
    refine hK.out _ _ hS0 ?_
    clear hK
    refine anyU_one (i := 6) (by kernel_rfl) rfl (fun K hK => ?_)
    go_simp
    refine hK.out _ _ hS0 ?_
    clear hK
    refine anyU_one (i := 7) (by kernel_rfl) rfl (fun K hK => ?_)
    go_simp
    refine hK.out _ _ hS0 ?_
    clear hK
    refine anyU_last (by kernel_rfl) rfl (by kernel_rfl) (fun K hK => ?_)
    rw [if_pos (by rfl)]
    refine wp_store_mid 106 (.tmp 27) (.tmp 24) rfl p (m * 64) (bcells n.bytes).toArray (by rfl) (by rfl) (by rw [List.size_toArray, hbl64]; exact there_part (hD2.d.grow (gdr (gre w2))).th (Nat.zero_le _) (by omega)) (by rw [size_content, List.size_toArray, hbl64]) (all_oneCell_toArray cells_u8) ?_
    refine hK.out _ _ ?_
    clear hK
    simp only [Act.put, List.getElem_toArray, List.getElem_cons_zero, List.getElem_cons_succ]
    have hfin := (hD2.d.grow (gdr (gre w2))).setB (x := n) hn0'.out hn1'.out hn64.out
    rw [hmt'.out, ← hst.out] at hfin
    have hKs := Kept.setCells (p := fun z => z = p) (bcells n.bytes) (m * 64) (Kept.refl _ w2.drew) (fun _ => rfl)
    go_wp2
    go_roundw
    case rel => exact ⟨k + 1, by omega, by go_num, ⟨hfin, hKs.owns (hD2.grow (gdr (gre w2))).own (fun z hz e => by have := (hD2.own.lt z hz).1; omega), h.w64⟩, (hb2A.trans (gdr (gre w2) |>.mono (by have := hD2.d.lt; omega))).trans (hKs.below (by have := hD2.d.lt; show p ≤ w2.heap.size; omega) (fun z hz e => by omega))⟩
    case measure => simp [intOf]; omega
   | false =>
    have hkp' : Hid _ := hkp
    have hst : Hid (settleN (keepOf ks) bl ws (k + 1) = settleN (keepOf ks) bl ws k) := by show _ = _; simp only [settleN]; rw [if_neg (by rw [hkp]; exact Bool.false_ne_true)]
    clear hkp
    go_wp2_with (go_at_call 55; refine (crashKeeps_any k K ka ks kc _ (by omega) hkl hKc hKb).mono ?_; rintro e w2 ⟨rfl, hb2⟩; rw [hkp'.out])
    go_roundw
    case rel => exact ⟨k + 1, by omega, by go_num, by rw [hst.out]; exact hDA.grow hb2, hbA.trans (hb2.mono (by have := hDA.d.lt; omega))⟩
    case measure => simp [intOf]; omega
  ·
   obtain rfl : k = ws.length := by omega
   have x0 := hD.d.ws
   have xf := hD.d.frozen (o := 8320) (by decide)
   have hfin := hD.d.setW (.slice none 0 0)
   go_wp2
   first | go_end0 | refine bodyPost_ret (results_none rfl _ _ _) rfl ?_
   exact ⟨rfl, ⟨hfin, owns_none _ _ _ _, fun x hx => (by cases hx)⟩, hb.trans ((Kept.one wr p 8320 _).below (by have := hD.d.lt; omega) (fun z hz e => by omega))⟩
theorem implBlank_any (w : World) : Calls Tryz.prog 25 #[] w (DPost blankD w) := by
 obtain ⟨Z, hZ⟩ := hid_ex driveZ.toArray
 have hz : ∀ u, (zeroValue 110).run Tryz.prog u = .ok (.agg Z) u := by rw [hZ.out]; exact (zero_of_info zero_drive).1
 have hw1 := gal (gre w) (.cells #[.slice none 0 0, .slice none 0 0] 46)
 have hs1 : (w.alloc (.cells #[.slice none 0 0, .slice none 0 0] 46)).heap.size = w.heap.size + 1 := by simp
 have r0 : (w.alloc (.cells #[.slice none 0 0, .slice none 0 0] 46)).cell? ⟨w.heap.size, 0, none⟩ = some (.slice none 0 0) := by simp
 have r1 : (w.alloc (.cells #[.slice none 0 0, .slice none 0 0] 46)).cell? ⟨w.heap.size, 1, none⟩ = some (.slice none 0 0) := by simp
 have rf : ∀ o, (w.alloc (.cells #[.slice none 0 0, .slice none 0 0] 46)).frozen? ⟨w.heap.size, o, none⟩ = false := fun o => by simp
 have hN0 := Drv.new (w.alloc (.cells #[.slice none 0 0, .slice none 0 0] 46))
 rw [← hZ.out, hs1] at hN0
 have hD0 : Dr _ (w.heap.size + 1) blankD.blocks none 0 [] .nilFunc := ⟨hN0, owns_none _ _ _ _, fun x hx => by cases hx⟩
 go_enter Tryz.func25, Tryz.ntmps25
 go_wp2_with (first
  | (refine wpList_alloc_big rfl 110 rfl Z hz ?_)
  | (go_at_call 57; refine (disk_any (w.heap.size + 1) blankD.blocks none 0 [] .nilFunc _ (by decide) hD0).mono ?_; rintro e w2 ⟨l, fa, ga, fc, gc, rfl, hmd, hb2⟩; have hb3 := gca (gal (gre _) (.cells Z 110)) hb2; have z0 := cell_later hb3 r0; have z1 := cell_later hb3 r1; have zf : ∀ o, w2.frozen? ⟨w.heap.size, o, none⟩ = false := (fun o => (hb3.frozen (p := ⟨w.heap.size, o, none⟩) (by show w.heap.size < _; omega)).trans (rf o))))
 obtain ⟨c0, c1, K⟩ := ret2 (A := .slice l.ba blankD.blocks.length l.bc) (B := .slice l.wa 0 l.wc) z0 z1
 refine bodyPost_ret (v := blankD.val l) (by simp [results, Tryz.results25, go_sem, c0, c1]; rfl) rfl ⟨l, fa, ga, fc, gc, rfl, MD.last (d := blankD) hmd K (by simp; omega) (by simp; omega) K.size, ?_⟩
 exact (gca hw1 hb3).trans (K.below (by have := hb3.size; omega) (fun z hz e => by omega))
theorem implCrash_any (d : DD) (l : DL) (ka : Option Addr) (ks : List Bool) (kc : Nat) (w : World) (hd : d.Ok) (ha : DAt w l d) (hkl : ks.length ≤ maxLen) (hk0 : BoolsAt w ka ks) : Calls Tryz.prog 20 #[d.val l, .slice ka ks.length kc] w (DPost (d.settle (keepOf ks)) w) := by
 have hmf : ∀ (fn : Fn) (first cap : Array Value) (w : World), (Instr.makeFunc fn first cap).run Tryz.prog w = .ok (.func fn first cap) w := fun _ _ _ _ => rfl
 have hA := gal (gal (gal (gre w) (.cells #[.slice l.ba d.blocks.length l.bc, .slice l.wa d.waiting.length l.wc] 46)) (.cells #[.slice ka ks.length kc] 39)) (.cells #[.slice none 0 0, .slice none 0 0] 46)
 have hX0 := (DBox.new w d l 46).grow (gal (gal (gre _) (.cells #[.slice ka ks.length kc] 39)) (.cells #[.slice none 0 0, .slice none 0 0] 46))
 have hR0 := VB.new_at ((w.alloc (.cells #[.slice l.ba d.blocks.length l.bc, .slice l.wa d.waiting.length l.wc] 46)).alloc (.cells #[.slice ka ks.length kc] 39)) (.slice none 0 0) (.slice none 0 0) 46 (w.heap.size + 1 + 1) (by simp)
 have hK0 : (((w.alloc (.cells #[.slice l.ba d.blocks.length l.bc, .slice l.wa d.waiting.length l.wc] 46)).alloc (.cells #[.slice ka ks.length kc] 39)).alloc (.cells #[.slice none 0 0, .slice none 0 0] 46)).cell? ⟨w.heap.size + 1, 0, none⟩ = some (.slice ka ks.length kc) := by
  have e1 : (w.alloc (.cells #[.slice l.ba d.blocks.length l.bc, .slice l.wa d.waiting.length l.wc] 46)).heap.size = w.heap.size + 1 := by simp
  refine cell_later (gal (gre _) _) ?_
  rw [← e1]; simp
 have hkf0 : ∀ b off, ka = some ⟨b, off, none⟩ → 0 < ks.length → b < w.heap.size := fun b off e h0 => by
  obtain ⟨b', off', e', hc'⟩ := hk0 0 h0
  have h1 := World.block_lt_of_cell? _ _ hc'
  rw [e] at e'
  have h2 := congrArg (fun q => q.map Addr.block) e'
  simp at h1 h2
  omega
 cases hok : d.ok with
 | false =>
  have hok' : Hid _ := hok
  clear hok
  rw [settle_no hok'.out]
  go_enter Tryz.func20, Tryz.ntmps20
  go_wp2_with (go_at_call 29; refine (implDiskOk_any d l _ hd (ha.grow hA)).mono ?_; rintro e w2 ⟨rfl, hb2⟩; rw [hok'.out]; obtain ⟨z0, z1, zf⟩ := hR0.grow hb2)
  obtain ⟨c0, c1, K⟩ := ret2 (A := .slice none 0 0) (B := .slice none 0 0) z0 z1
  refine bodyPost_ret (v := .agg #[.slice none 0 0, .slice none 0 0]) (by simp [results, Tryz.results20, go_sem, c0, c1]) rfl (DPost.zero ?_)
  exact (gca hA hb2).trans (K.below (gca hA hb2).size (fun z hz e => by omega))
 | true =>
  have hok' : Hid _ := hok
  clear hok
  have hfit := DD.fit hok'.out
  rw [settle_yes hok'.out]
  obtain ⟨d', hd'⟩ := hid_ex (DD.mk (settleN (keepOf ks) d.blocks d.waiting d.waiting.length) [])
  rw [← hd'.out]
  go_enter Tryz.func20, Tryz.ntmps20
  go_upto_region 4 with (first
   | (go_at_call 29; refine (implDiskOk_any d l _ hd (ha.grow hA)).mono ?_; rintro e w2 ⟨rfl, hb2⟩; rw [hok'.out]; obtain ⟨_, x0, x1⟩ := hX0.grow hb2)
   | (go_at_call 54; refine (driveOf_any d l _ hfit (ha.grow (gca hA hb2))).mono ?_; rintro e w3 ⟨p, pa, pc, rfl, hp3, hDr, hb3⟩))
  have hR3 := (hR0.grow hb2).grow hb3
  have hb3A := gca (gca hA hb2) hb3
  have hRp : w.heap.size + 1 + 1 < p := by have := (hR0.grow hb2).lt; omega
  have hwp : w.heap.size ≤ p := by have := (gca hA hb2).size; omega
  have hkp : ∀ b off, ka = some ⟨b, off, none⟩ → 0 < ks.length → b < p := fun b off e h0 => Nat.lt_of_lt_of_le (hkf0 b off e h0) hwp
  have kf := hDr.d.kf
  have kz := hDr.d.frozen (o := 8321) (by decide)
  have hKc3 := cell_later hb3 (cell_later hb2 hK0)
  have hKb3 := hk0.grow hb3A
  go_upto_region 5 with fail
  have hD4 := hDr.d.setK (.func (.func 55) #[] #[.pointer (some ⟨w.heap.size + 1, 0, none⟩)])
  have K4 := Kept.one w3 p 8321 (.func (.func 55) #[] #[.pointer (some ⟨w.heap.size + 1, 0, none⟩)])
  have hO4 := K4.owns hDr.own (fun z hz e => by have := (hDr.own.lt z hz).1; omega)
  have hR4 := hR3.kept K4 (by omega)
  have hb4 := hb3A.trans (K4.below hb3A.size (fun z hz e => by omega))
  have hDr4 : Dr (w3.setCell ⟨p, 8321, none⟩ (.func (.func 55) #[] #[.pointer (some ⟨w.heap.size + 1, 0, none⟩)])) p d.blocks pa pc d.waiting (.func (.func 55) #[] #[.pointer (some ⟨w.heap.size + 1, 0, none⟩)]) := ⟨hD4, hO4, hDr.w64⟩
  have hKc4 := K4.cell hKc3 (by omega)
  have hKb4 : BoolsAt _ ka ks := hKb3.below (K4.below (B := p) (Nat.le_of_lt hDr.d.lt) (fun z hz e => by omega)) hkp
  generalize w3.setCell ⟨p, 8321, none⟩ (.func (.func 55) #[] #[.pointer (some ⟨w.heap.size + 1, 0, none⟩)]) = w4 at hD4 K4 hO4 hR4 hb4 hDr4 hKc4 hKb4 ⊢
  clear hD4 K4 hO4 hDr kf kz hR3 hb3A
  go_upto_region 6 with (go_at_call 56; refine (powerCrash_any p d.blocks pa pc d.waiting (w.heap.size + 1) ka ks kc _ (by have := hfit.wl; omega) (fun x hx => ⟨(hfit.wb x hx).1, (hfit.wb x hx).2.1⟩) hkl (by omega) hKc4 hKb4 hkp hDr4).mono ?_; rintro e w5 ⟨rfl, hDr5, hb5⟩)
  have hR5 := hR4.below hb5 hRp
  have hb5A := hb4.trans (hb5.mono hwp)
  go_upto_region 99 with (go_at_call 57; refine (disk_any p _ none 0 [] _ _ (by decide) hDr5).mono ?_; rw [← hd'.out]; rintro e w6 ⟨l6, fa, ga, fc, gc, rfl, hmd, hb6⟩; obtain ⟨z0, z1, zf⟩ := hR5.grow hb6)
  obtain ⟨c0, c1, K⟩ := ret2 (A := .slice l6.ba d'.blocks.length l6.bc) (B := .slice l6.wa d'.waiting.length l6.wc) z0 z1
  have hb6A := gca hb5A hb6
  refine bodyPost_ret (v := d'.val l6) (by simp [results, Tryz.results20, go_sem, c0, c1]) rfl ⟨l6, fa, ga, fc, gc, rfl, hmd.last K (by have := hR5.lt; omega) (by have := hb5A.size; omega) K.size, ?_⟩
  exact hb6A.trans (K.below hb6A.size (fun z hz e => by omega))
theorem l5actOk_4 (x : AC) (ga : Option Addr) (gc : Nat) (ka : Option Addr) (kc : Nat) (w : World) (o4' : Hid (x.op = 4)) :
  Calls Tryz.prog 67 #[x.val ga gc ka kc] w fun e w' => e = .returned (.bool x.okA) ∧ Below w.heap.size w w' := by
 have hA : Below w.heap.size w (w.alloc (.cells #[.int .i64 x.op, .int .i64 x.graph.root.kind, .int .i64 x.graph.root.num, .string x.graph.root.text, .int .i64 x.graph.root.node, .slice ga x.graph.nodes.length gc, .int .i64 x.steps, .slice ka x.kept.length kc, .int .i64 x.block, .int .i64 x.byte, .int .i64 x.xor] 41)) := gal (gre w) _
 have h1 := ActAt.new_at w x ga gc ka kc 41 w.heap.size rfl
 go_enter Tryz.func67, Tryz.ntmps67
 go_upto_region 1 with fail
 generalize (w.alloc (.cells #[.int .i64 x.op, .int .i64 x.graph.root.kind, .int .i64 x.graph.root.num, .string x.graph.root.text, .int .i64 x.graph.root.node, .slice ga x.graph.nodes.length gc, .int .i64 x.steps, .slice ka x.kept.length kc, .int .i64 x.block, .int .i64 x.byte, .int .i64 x.xor] 41)) = w1 at hA h1 ⊢
 obtain ⟨p0, p1, p2, p3, p4, p5, p6, p7, p8, p9, p10⟩ := id h1
 simp only [Nat.zero_add] at p1 p2 p3 p4 p5 p6 p7 p8 p9 p10
 obtain ⟨c, hc⟩ := hid_ex (decide (x.steps = 0) && decide (x.kept.length = 0))
 obtain ⟨s, hs⟩ := hid_ex (decide (x.block = 0) && decide (x.byte = 0) && decide (x.xor = 0))
 obtain ⟨br, hbr⟩ := hid_ex (x.graph.root.nul && decide (x.graph.nodes.length = 0))
 have hok : Hid (x.okA = if x.op = 1 then c && s
  else if x.op = 2 then decide (0 ≤ x.steps) && decide (x.steps ≤ 200) && decide (x.kept.length ≤ 200) && s
  else if x.op = 3 then c && s && br
  else if x.op = 4 then c && br && decide (0 ≤ x.block) && decide (x.block < 130) && decide (0 ≤ x.byte) && decide (x.byte < 64) && decide (1 ≤ x.xor) && decide (x.xor ≤ 255)
  else false) := by show _ = _; rw [hc.out, hs.out, hbr.out]; rfl
 go_cut [3] from 5 (fun v wc => v = .bool c ∧ wc = w1)
 case first =>
  by_cases e1 : x.steps = 0
  ·
   by_cases e2 : x.kept.length = 0
   ·
    go_wp2
    go_meet
    case rel => exact ⟨by rw [hc.out]; simp [e1, e2], rfl⟩
   ·
    have e2' : ((x.kept.length : Int) == 0) = false := by rw [beq_eq_false_iff_ne]; omega
    go_wp2
    go_meet
    case rel => exact ⟨by rw [hc.out]; simp [e1, e2], rfl⟩
  ·
   go_wp2
   go_meet
   case rel => exact ⟨by rw [hc.out]; simp [e1], rfl⟩
 case rest =>
  obtain ⟨rfl, rfl⟩ := hcut
  go_upto_region 2 with fail
  go_cut [4] from 5 (fun v wc' => v = .bool s ∧ wc' = wc)
  case first =>
   by_cases e1 : x.block = 0
   ·
    by_cases e2 : x.byte = 0
    ·
     by_cases e3 : x.xor = 0
     ·
      skip
      go_wp2
      go_meet
      case rel => exact ⟨by rw [hs.out]; simp [e1, e2, e3], rfl⟩
     ·
      skip
      go_wp2
      go_meet
      case rel => exact ⟨by rw [hs.out]; simp [e1, e2, e3], rfl⟩
    ·
     skip
     go_wp2
     go_meet
     case rel => exact ⟨by rw [hs.out]; simp [e1, e2], rfl⟩
   ·
    skip
    go_wp2
    go_meet
    case rel => exact ⟨by rw [hs.out]; simp [e1], rfl⟩
  case rest =>
   obtain ⟨rfl, rfl⟩ := hcut
   have o4 := o4'.out
   have hb0 := fun u => l5bare_any x ga gc ka kc u
   simp only [← hbr.out, AC.val, o4] at hb0
   cases c
   ·
    go_wp2
    go_ret
    exact ⟨by rw [hok.out]; simp [o4], hA⟩
   ·
    cases br
    ·
     go_wp2_with (go_at_call 109; refine (hb0 _).mono ?_; rintro e w2 ⟨rfl, hb2⟩)
     go_ret
     exact ⟨by rw [hok.out]; simp [o4], gca hA hb2⟩
    ·
     skip
     by_cases t0 : 0 ≤ x.block
     ·
      skip
      by_cases t1 : x.block < 130
      ·
       skip
       by_cases t2 : 0 ≤ x.byte
       ·
        skip
        by_cases t3 : x.byte < 64
        ·
         skip
         by_cases t4 : 1 ≤ x.xor
         ·
          skip
          by_cases t5 : x.xor ≤ 255
          ·
           skip
           go_wp2_with (go_at_call 109; refine (hb0 _).mono ?_; rintro e w2 ⟨rfl, hb2⟩; have q8 := cell_later hb2 p8; have q9 := cell_later hb2 p9; have q10 := cell_later hb2 p10)
           go_ret
           exact ⟨by rw [hok.out]; first | (simp [o4, t0, t1, t2, t3, t4, t5]; done) | (simp [o4, t0, t1, t2, t3, t4, t5]; intros; omega), gca hA hb2⟩
          ·
           go_wp2_with (go_at_call 109; refine (hb0 _).mono ?_; rintro e w2 ⟨rfl, hb2⟩; have q8 := cell_later hb2 p8; have q9 := cell_later hb2 p9; have q10 := cell_later hb2 p10)
           go_ret
           exact ⟨by rw [hok.out]; first | (simp [o4, t0, t1, t2, t3, t4]; done) | (simp [o4, t0, t1, t2, t3, t4, t5]; intros; omega), gca hA hb2⟩
         ·
          go_wp2_with (go_at_call 109; refine (hb0 _).mono ?_; rintro e w2 ⟨rfl, hb2⟩; have q8 := cell_later hb2 p8; have q9 := cell_later hb2 p9; have q10 := cell_later hb2 p10)
          go_ret
          exact ⟨by rw [hok.out]; first | (simp [o4, t0, t1, t2, t3]; done) | (simp [o4, t0, t1, t2, t3]; intros; omega), gca hA hb2⟩
        ·
         go_wp2_with (go_at_call 109; refine (hb0 _).mono ?_; rintro e w2 ⟨rfl, hb2⟩; have q8 := cell_later hb2 p8; have q9 := cell_later hb2 p9; have q10 := cell_later hb2 p10)
         go_ret
         exact ⟨by rw [hok.out]; first | (simp [o4, t0, t1, t2]; done) | (simp [o4, t0, t1, t2]; intros; omega), gca hA hb2⟩
       ·
        go_wp2_with (go_at_call 109; refine (hb0 _).mono ?_; rintro e w2 ⟨rfl, hb2⟩; have q8 := cell_later hb2 p8; have q9 := cell_later hb2 p9; have q10 := cell_later hb2 p10)
        go_ret
        exact ⟨by rw [hok.out]; first | (simp [o4, t0, t1]; done) | (simp [o4, t0, t1]; intros; omega), gca hA hb2⟩
      ·
       go_wp2_with (go_at_call 109; refine (hb0 _).mono ?_; rintro e w2 ⟨rfl, hb2⟩; have q8 := cell_later hb2 p8; have q9 := cell_later hb2 p9; have q10 := cell_later hb2 p10)
       go_ret
       exact ⟨by rw [hok.out]; first | (simp [o4, t0]; done) | (simp [o4, t0]; intros; omega), gca hA hb2⟩
     ·
      go_wp2_with (go_at_call 109; refine (hb0 _).mono ?_; rintro e w2 ⟨rfl, hb2⟩; have q8 := cell_later hb2 p8; have q9 := cell_later hb2 p9; have q10 := cell_later hb2 p10)
      go_ret
      exact ⟨by rw [hok.out]; first | (simp [o4]; done) | (simp [o4]; intros; omega), gca hA hb2⟩
theorem l5actOk_any (x : AC) (ga : Option Addr) (gc : Nat) (ka : Option Addr) (kc : Nat) (w : World) :
  Calls Tryz.prog 67 #[x.val ga gc ka kc] w fun e w' => e = .returned (.bool x.okA) ∧ Below w.heap.size w w' := by
 by_cases o4 : x.op = 4
 · exact l5actOk_4 x ga gc ka kc w o4
 have o4' : Hid _ := o4
 clear o4
 have hA : Below w.heap.size w (w.alloc (.cells #[.int .i64 x.op, .int .i64 x.graph.root.kind, .int .i64 x.graph.root.num, .string x.graph.root.text, .int .i64 x.graph.root.node, .slice ga x.graph.nodes.length gc, .int .i64 x.steps, .slice ka x.kept.length kc, .int .i64 x.block, .int .i64 x.byte, .int .i64 x.xor] 41)) := gal (gre w) _
 have h1 := ActAt.new_at w x ga gc ka kc 41 w.heap.size rfl
 go_enter Tryz.func67, Tryz.ntmps67
 go_upto_region 1 with fail
 generalize (w.alloc (.cells #[.int .i64 x.op, .int .i64 x.graph.root.kind, .int .i64 x.graph.root.num, .string x.graph.root.text, .int .i64 x.graph.root.node, .slice ga x.graph.nodes.length gc, .int .i64 x.steps, .slice ka x.kept.length kc, .int .i64 x.block, .int .i64 x.byte, .int .i64 x.xor] 41)) = w1 at hA h1 ⊢
 obtain ⟨p0, p1, p2, p3, p4, p5, p6, p7, p8, p9, p10⟩ := id h1
 simp only [Nat.zero_add] at p1 p2 p3 p4 p5 p6 p7 p8 p9 p10
 obtain ⟨c, hc⟩ := hid_ex (decide (x.steps = 0) && decide (x.kept.length = 0))
 obtain ⟨s, hs⟩ := hid_ex (decide (x.block = 0) && decide (x.byte = 0) && decide (x.xor = 0))
 obtain ⟨br, hbr⟩ := hid_ex (x.graph.root.nul && decide (x.graph.nodes.length = 0))
 have hok : Hid (x.okA = if x.op = 1 then c && s
  else if x.op = 2 then decide (0 ≤ x.steps) && decide (x.steps ≤ 200) && decide (x.kept.length ≤ 200) && s
  else if x.op = 3 then c && s && br
  else if x.op = 4 then c && br && decide (0 ≤ x.block) && decide (x.block < 130) && decide (0 ≤ x.byte) && decide (x.byte < 64) && decide (1 ≤ x.xor) && decide (x.xor ≤ 255)
  else false) := by show _ = _; rw [hc.out, hs.out, hbr.out]; rfl
 go_cut [3] from 5 (fun v wc => v = .bool c ∧ wc = w1)
 case first =>
  by_cases e1 : x.steps = 0
  ·
   by_cases e2 : x.kept.length = 0
   ·
    go_wp2
    go_meet
    case rel => exact ⟨by rw [hc.out]; simp [e1, e2], rfl⟩
   ·
    have e2' : ((x.kept.length : Int) == 0) = false := by rw [beq_eq_false_iff_ne]; omega
    go_wp2
    go_meet
    case rel => exact ⟨by rw [hc.out]; simp [e1, e2], rfl⟩
  ·
   go_wp2
   go_meet
   case rel => exact ⟨by rw [hc.out]; simp [e1], rfl⟩
 case rest =>
  obtain ⟨rfl, rfl⟩ := hcut
  go_upto_region 2 with fail
  go_cut [4] from 5 (fun v wc' => v = .bool s ∧ wc' = wc)
  case first =>
   by_cases e1 : x.block = 0
   ·
    by_cases e2 : x.byte = 0
    ·
     by_cases e3 : x.xor = 0
     ·
      skip
      go_wp2
      go_meet
      case rel => exact ⟨by rw [hs.out]; simp [e1, e2, e3], rfl⟩
     ·
      skip
      go_wp2
      go_meet
      case rel => exact ⟨by rw [hs.out]; simp [e1, e2, e3], rfl⟩
    ·
     skip
     go_wp2
     go_meet
     case rel => exact ⟨by rw [hs.out]; simp [e1, e2], rfl⟩
   ·
    skip
    go_wp2
    go_meet
    case rel => exact ⟨by rw [hs.out]; simp [e1], rfl⟩
  case rest =>
   obtain ⟨rfl, rfl⟩ := hcut
   have o4 := o4'.out
   have hb0 := fun u => l5bare_any x ga gc ka kc u
   simp only [← hbr.out] at hb0
   by_cases o1 : x.op = 1
   ·
    cases c <;> cases s
    all_goals
     go_wp2
     go_ret
     exact ⟨by rw [hok.out]; simp [o1], hA⟩
   ·
    by_cases o2 : x.op = 2
    ·
     by_cases e1 : 0 ≤ x.steps
     ·
      by_cases e2 : x.steps ≤ 200
      ·
       by_cases e3 : x.kept.length ≤ 200
       ·
        have e3' : (x.kept.length : Int) ≤ 200 := by omega
        cases s
        all_goals
         go_wp2
         go_ret
         exact ⟨by rw [hok.out]; first | (simp [o2, e1, e2, e3]; done) | (simp [o2, e1, e2, e3]; intros; omega), hA⟩
       ·
        have e3' : ¬ (x.kept.length : Int) ≤ 200 := by omega
        go_wp2
        go_ret
        exact ⟨by rw [hok.out]; first | (simp [o2, e1, e2, e3]; done) | (simp [o2, e1, e2, e3]; intros; omega), hA⟩
      ·
       go_wp2
       go_ret
       exact ⟨by rw [hok.out]; first | (simp [o2, e1]; done) | (simp [o2, e1]; intros; omega), hA⟩
     ·
      go_wp2
      go_ret
      exact ⟨by rw [hok.out]; first | (simp [o2]; done) | (simp [o2]; intros; omega), hA⟩
    ·
     by_cases o3 : x.op = 3
     ·
      simp only [AC.val, o3] at hb0
      cases c
      ·
       go_wp2
       go_ret
       exact ⟨by rw [hok.out]; simp [o3], hA⟩
      ·
       cases s
       ·
        go_wp2
        go_ret
        exact ⟨by rw [hok.out]; simp [o3], hA⟩
       ·
        go_wp2_with (go_at_call 109; refine (hb0 _).mono ?_; rintro e w2 ⟨rfl, hb2⟩)
        go_ret
        exact ⟨by rw [hok.out]; simp [o3], gca hA hb2⟩
     ·
      have b1 : (x.op == 1) = false := beq_eq_false_iff_ne.2 o1
      have b2 : (x.op == 2) = false := beq_eq_false_iff_ne.2 o2
      have b3 : (x.op == 3) = false := beq_eq_false_iff_ne.2 o3
      have b4 : (x.op == 4) = false := beq_eq_false_iff_ne.2 o4
      clear o1 o2 o3 o4 o4'
      go_upto_region 12 with fail
      go_wp2
      go_ret
      exact ⟨by rw [hok.out]; simp only [beq_eq_false_iff_ne] at b1 b2 b3 b4; simp [b1, b2, b3, b4], hA⟩
end Go.Proofs.YtmdpmdmilgbfiaaGreatDoor
