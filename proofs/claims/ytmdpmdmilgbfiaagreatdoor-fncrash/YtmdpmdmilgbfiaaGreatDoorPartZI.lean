import Derived.ProofKit
import Derived.OpenShut
import Derived.Deep.Slices
import Derived.ChangeSlices
import Derived.Test.YtmdpmdmilgbfiaaGreatDoorPartZ
import Derived.Test.YtmdpmdmilgbfiaaGreatDoorPartZF

namespace Go.Proofs.YtmdpmdmilgbfiaaGreatDoor
open Go.RowKit

theorem mb_atT {w : World} {lo : Nat} {oa : Option Addr} {ys : List Nat} (h : MB w lo oa ys) : BytesAt w oa ys := by
  rcases h with rfl | ⟨G, n, rfl, _, hB⟩
  · exact fun i hi => absurd hi (Nat.not_lt_zero _)
  · exact brow_bytes hB
theorem newest_byteT {d : DD} (h : d.Fit) (ho : d.Ok) : (∀ x, x ∈ d.newestOf.bytes → x < 256) ∧ d.newestOf.bytes.length ≤ 4096 := by
  have hs : ∀ m, m < 2 → (∀ x, x ∈ (d.slotOf m).bytes → x < 256) := fun m hm => by
    unfold DD.slotOf
    split
    · exact DD.img_byte h ho hm
    · intro x hx; cases hx
  unfold DD.newestOf
  split
  · exact ⟨hs 1 (by omega), (DD.slot_fine h (slot := 1) (by omega)).len⟩
  · exact ⟨hs 0 (by omega), (DD.slot_fine h (slot := 0) (by omega)).len⟩

def TUp (d : DD) (w : World) (e : Ending) (w' : World) : Prop :=
  Below w.heap.size w w' ∧ ((∃ na nc nl, d.takeT.code = 0 ∧ e = .returned (.tuple #[d.takeT.val na nc, .nilIface]) ∧ nl.map (·.n) = d.takeT.g.nodes ∧ OwnG w' w.heap.size na nc nl) ∨ (d.takeT.g = zeroG ∧ e = .returned (.tuple #[(TK.mk 0 0 zeroG).val none 0, .iface 132 (.agg #[.int .i64 d.takeT.code, .int .i64 d.takeT.gen])])))

set_option maxHeartbeats 4000000 in
set_option maxRecDepth 100000 in
theorem takeUp_any (d : DD) (l : DL) (w : World) (hd : d.Ok) (ha : DAt w l d) : Calls Tryz.prog 50 #[d.val l] w (TUp d w) := by
  have hA := gal (gal (gre w) (.cells #[.slice l.ba d.blocks.length l.bc, .slice l.wa d.waiting.length l.wc] 46)) (.cells #[.int .i64 0, .int .i64 0, .int .i64 0, .int .i64 0, .string ⟨#[]⟩, .int .i64 0, .slice none 0 0] 34)
  have hX0 := (DBox.new w d l 46).grow (gal (gre _) (.cells #[.int .i64 0, .int .i64 0, .int .i64 0, .int .i64 0, .string ⟨#[]⟩, .int .i64 0, .slice none 0 0] 34))
  have hR0 := V7.new_at (w.alloc (.cells #[.slice l.ba d.blocks.length l.bc, .slice l.wa d.waiting.length l.wc] 46)) (.int .i64 0) (.int .i64 0) (.int .i64 0) (.int .i64 0) (.string ⟨#[]⟩) (.int .i64 0) (.slice none 0 0) 34 (w.heap.size + 1) (by simp)
  cases hok : d.ok with
  | false =>
    have ht : d.takeT = ⟨3, 0, zeroG⟩ := if_pos hok
    have ht' : Hid _ := ht
    have hok' : Hid _ := hok
    clear hok ht
    go_enter Tryz.func50, Tryz.ntmps50
    go_wp2_with (go_at_call 29; refine (implDiskOk_any d l _ hd (ha.grow hA)).mono ?_; rintro e w2 ⟨rfl, hb2⟩; rw [hok'.out]; have hR2 := hR0.grow hb2; obtain ⟨_, r0, r1, r2, r3, r4, r5, r6, rf_⟩ := id hR2)
    obtain ⟨hV9, hK9⟩ := hR2.put (.int .i64 0) (.int .i64 0) (.int .i64 0) (.int .i64 0) (.string ⟨#[]⟩) (.int .i64 0) (.slice none 0 0)
    generalize (((((((w2.setCell ⟨w.heap.size + 1, 0, none⟩ (.int .i64 0)).setCell ⟨w.heap.size + 1, 1, none⟩ (.int .i64 0)).setCell ⟨w.heap.size + 1, 2, none⟩ (.int .i64 0)).setCell ⟨w.heap.size + 1, 3, none⟩ (.int .i64 0)).setCell ⟨w.heap.size + 1, 4, none⟩ (.string ⟨#[]⟩)).setCell ⟨w.heap.size + 1, 5, none⟩ (.int .i64 0)).setCell ⟨w.heap.size + 1, 6, none⟩ (.slice none 0 0)) = w9 at hV9 hK9 ⊢
    obtain ⟨_, q0, q1, q2, q3, q4, q5, q6, _⟩ := id hV9
    exact bodyPost_ret (v := .tuple #[(TK.mk 0 0 zeroG).val none 0, .iface 132 (.agg #[.int .i64 3, .int .i64 0])]) (by simp [results, Tryz.results50, go_sem, q0, q1, q2, q3, q4, q5, q6, zeroG]) rfl ⟨(gca hA hb2).trans (hK9.below (gca hA hb2).size (fun z hz e => by omega)), Or.inr ⟨by rw [ht'.out], by rw [ht'.out]⟩⟩
  | true =>
    have hok' : Hid _ := hok
    have hf := DD.fit hok
    obtain ⟨k, hk⟩ := hid_ex d.newestOf
    have hne : d.newest = k := by rw [hk.out]; exact if_pos hok
    cases hko : k.ok with
    | false =>
      have ht : d.takeT = ⟨1, 0, zeroG⟩ := (if_neg (by rw [hok]; simp)).trans (if_pos (by rw [← hk.out]; exact hko))
      have ht' : Hid _ := ht
      have hko' : Hid _ := hko
      clear hok ht hko
      go_enter Tryz.func50, Tryz.ntmps50
      go_upto_region 4 with (first
        | (go_at_call 29; refine (implDiskOk_any d l _ hd (ha.grow hA)).mono ?_; rintro e w2 ⟨rfl, hb2⟩; rw [hok'.out]; obtain ⟨_, x0, x1⟩ := hX0.grow hb2)
        | (go_at_call 27; refine (implNewest_any d l _ hd (ha.grow (gca hA hb2))).mono ?_; rw [hne]; rintro e w3 ⟨oa, oc, rfl, hcp, hM3, hb3⟩))
      have hV4 := V4.new_at w3 (.bool k.ok) (.int .i64 k.gen) (.int .i64 k.slot) (.slice oa k.bytes.length oc) 62 w3.heap.size rfl
      have hb4 := gal (gca (gca hA hb2) hb3) (.cells #[.bool k.ok, .int .i64 k.gen, .int .i64 k.slot, .slice oa k.bytes.length oc] 62)
      have hR4 := (hR0.grow hb2).grow (gal hb3 (.cells #[.bool k.ok, .int .i64 k.gen, .int .i64 k.slot, .slice oa k.bytes.length oc] 62))
      generalize w3.alloc (.cells #[.bool k.ok, .int .i64 k.gen, .int .i64 k.slot, .slice oa k.bytes.length oc] 62) = w4 at hV4 hb4 hR4 ⊢
      rw [hko'.out] at hV4
      obtain ⟨_, v0, v1, v2, v3, vf⟩ := id hV4
      obtain ⟨_, r0, r1, r2, r3, r4, r5, r6, rf_⟩ := id hR4
      clear x0 x1
      go_wp2
      obtain ⟨hV9, hK9⟩ := hR4.put (.int .i64 0) (.int .i64 0) (.int .i64 0) (.int .i64 0) (.string ⟨#[]⟩) (.int .i64 0) (.slice none 0 0)
      generalize (((((((w4.setCell ⟨w.heap.size + 1, 0, none⟩ (.int .i64 0)).setCell ⟨w.heap.size + 1, 1, none⟩ (.int .i64 0)).setCell ⟨w.heap.size + 1, 2, none⟩ (.int .i64 0)).setCell ⟨w.heap.size + 1, 3, none⟩ (.int .i64 0)).setCell ⟨w.heap.size + 1, 4, none⟩ (.string ⟨#[]⟩)).setCell ⟨w.heap.size + 1, 5, none⟩ (.int .i64 0)).setCell ⟨w.heap.size + 1, 6, none⟩ (.slice none 0 0)) = w9 at hV9 hK9 ⊢
      obtain ⟨_, q0, q1, q2, q3, q4, q5, q6, _⟩ := id hV9
      exact bodyPost_ret (v := .tuple #[(TK.mk 0 0 zeroG).val none 0, .iface 132 (.agg #[.int .i64 1, .int .i64 0])]) (by simp [results, Tryz.results50, go_sem, q0, q1, q2, q3, q4, q5, q6, zeroG]) rfl ⟨hb4.trans (hK9.below hb4.size (fun z hz e => by omega)), Or.inr ⟨by rw [ht'.out], by rw [ht'.out]⟩⟩
    | true =>
      obtain ⟨ok, hbo⟩ := hid_ex (unB k.bytes).1
      obtain ⟨u, hu⟩ := hid_ex (unB k.bytes).2
      have hkb := newest_byteT hf hd
      rw [← hk.out] at hkb
      obtain ⟨hkb1, hkb2⟩ := hkb
      have hcp0 : True := trivial
      have hko' : Hid _ := hko
      go_enter Tryz.func50, Tryz.ntmps50
      go_upto_region 7 with (first
        | (go_at_call 29; refine (implDiskOk_any d l _ hd (ha.grow hA)).mono ?_; rintro e w2 ⟨rfl, hb2⟩; rw [hok'.out]; obtain ⟨_, x0, x1⟩ := hX0.grow hb2)
        | (go_at_call 27; refine (implNewest_any d l _ hd (ha.grow (gca hA hb2))).mono ?_; rw [hne]; rintro e w3 ⟨oa, oc, rfl, hcp, hM3, hb3⟩)
        | (go_at_call 92; refine (implUnpack_any oa oc k.bytes _ ((mb_atT hM3).grow (gal (gre _) (.cells #[.bool true, .int .i64 k.gen, .int .i64 k.slot, .slice oa k.bytes.length oc] 62))) hcp.out (by omega) hkb1).mono ?_; rintro e w5 ⟨ua, uc, ul, rfl, hul, huO, hb5⟩; rw [← hu.out] at hul; rw [← hbo.out, ← hu.out]))
      have hV4 := V4.new_at w3 (.bool true) (.int .i64 k.gen) (.int .i64 k.slot) (.slice oa k.bytes.length oc) 62 w3.heap.size rfl
      have hb4 := gal (gca (gca hA hb2) hb3) (.cells #[.bool true, .int .i64 k.gen, .int .i64 k.slot, .slice oa k.bytes.length oc] 62)
      have hR4 := (hR0.grow hb2).grow (gal hb3 (.cells #[.bool true, .int .i64 k.gen, .int .i64 k.slot, .slice oa k.bytes.length oc] 62))
      have hs3 : w3.heap.size < (w3.alloc (.cells #[.bool true, .int .i64 k.gen, .int .i64 k.slot, .slice oa k.bytes.length oc] 62)).heap.size := by simp
      generalize w3.alloc (.cells #[.bool true, .int .i64 k.gen, .int .i64 k.slot, .slice oa k.bytes.length oc] 62) = w4 at hV4 hb4 hR4 hb5 huO hs3 ⊢
      have hRP : w.heap.size + 1 < w3.heap.size := ((hR0.grow hb2).grow hb3).lt
      generalize w3.heap.size = PK at hV4 hs3 hRP ⊢
      have hS6 := Six.new w5 ok u.root (.slice ua u.nodes.length uc) 118
      have hb6 := gal hb5 (.cells #[.bool ok, .int .i64 u.root.kind, .int .i64 u.root.num, .string u.root.text, .int .i64 u.root.node, .slice ua u.nodes.length uc] 118)
      have hV6 := hV4.grow hb6
      have hR6 := hR4.grow hb6
      have hA6 := gca hb4 hb6
      have huO6 := huO.kept ((Kept.refl (fun _ => False) w5).alloc (.cells #[.bool ok, .int .i64 u.root.kind, .int .i64 u.root.num, .string u.root.text, .int .i64 u.root.node, .slice ua u.nodes.length uc] 118)) (fun _ _ e => e) (fun _ _ _ _ e => e)
      have hs45 := hb5.size
      generalize w5.alloc (.cells #[.bool ok, .int .i64 u.root.kind, .int .i64 u.root.num, .string u.root.text, .int .i64 u.root.node, .slice ua u.nodes.length uc] 118) = w6 at hS6 hb6 hV6 hR6 hA6 huO6 ⊢
      generalize w5.heap.size = PU at hS6 hs45 ⊢
      obtain ⟨_, v0, v1, v2, v3, vf⟩ := id hV6
      obtain ⟨_, s0, s1, s2, s3, s4, s5, sf⟩ := id hS6
      obtain ⟨_, r0, r1, r2, r3, r4, r5, r6, rf_⟩ := id hR6
      have hRl := hR4.lt
      cases ok with
      | false =>
        have ht : d.takeT = ⟨2, k.gen, zeroG⟩ := (if_neg (by rw [hok]; simp)).trans ((if_neg (by rw [← hk.out, hko]; simp)).trans ((if_pos (by rw [← hk.out]; exact hbo.out.symm)).trans (by rw [← hk.out])))
        have ht' : Hid _ := ht
        clear ht hok hko
        go_upto_region 8 with fail
        have hS0 : V4 w6.drew PK (.bool true) (.int .i64 k.gen) (.int .i64 k.slot) (.slice oa k.bytes.length oc) := hV6.grow (gdr (gre _))
        have hRd := hR6.grow (gdr (gre _))
        refine wp_regionU (fun u => V4 u PK (.bool true) (.int .i64 k.gen) (.int .i64 k.slot) (.slice oa k.bytes.length oc)) 99 (by kernel_rfl) hS0 (fun _ => ?_)
        have hAd : Below w.heap.size w w6.drew := gdr hA6
        generalize w6.drew = wd at hS0 hRd hAd ⊢
        refine anyU_take (i := 0) (v := ?_) rfl (by kernel_rfl) (by kernel_rfl) (by kernel_rfl) (by kernel_rfl) (fun _ _ _ h => h) (Or.inl ⟨by rfl, ?_⟩) hS0 ?_
        rotate_left
        · intro u hSu; obtain ⟨_, s0, s1, s2, s3, _⟩ := hSu; go_simp <;> with_reducible rfl
        simp only [Act.put, List.getElem_toArray, List.getElem_cons_zero, List.setIfInBounds_toArray, List.set_cons_zero, List.set_cons_succ]
        refine anyU_take (i := 1) (v := ?_) rfl (by kernel_rfl) (by kernel_rfl) (by kernel_rfl) (by kernel_rfl) (fun _ _ _ h => h) (Or.inl ⟨by rfl, ?_⟩) hS0 ?_
        rotate_left
        · intro u hSu; obtain ⟨_, s0, s1, s2, s3, _⟩ := hSu; go_simp <;> with_reducible rfl
        simp only [Act.put, List.getElem_toArray, List.getElem_cons_zero, List.getElem_cons_succ, List.setIfInBounds_toArray, List.set_cons_zero, List.set_cons_succ]
        refine anyU_take (i := 2) (v := ?_) rfl (by kernel_rfl) (by kernel_rfl) (by kernel_rfl) (by kernel_rfl) (fun _ _ _ h => h) (Or.inl ⟨by rfl, ?_⟩) hS0 ?_
        rotate_left
        · intro u hSu; obtain ⟨_, s0, s1, s2, s3, _⟩ := hSu; go_simp <;> with_reducible rfl
        simp only [Act.put, List.getElem_toArray, List.getElem_cons_zero, List.getElem_cons_succ, List.setIfInBounds_toArray, List.set_cons_zero, List.set_cons_succ]
        refine anyU_take (i := 3) (v := ?_) rfl (by kernel_rfl) (by kernel_rfl) (by kernel_rfl) (by kernel_rfl) (fun _ _ _ h => h) (Or.inl ⟨by rfl, ?_⟩) hS0 ?_
        rotate_left
        · intro u hSu; obtain ⟨_, s0, s1, s2, s3, _⟩ := hSu; go_simp <;> with_reducible rfl
        simp only [Act.put, List.getElem_toArray, List.getElem_cons_zero, List.getElem_cons_succ, List.setIfInBounds_toArray, List.set_cons_zero, List.set_cons_succ]
        refine anyU_take (i := 4) (v := ?_) rfl (by kernel_rfl) (by kernel_rfl) (by kernel_rfl) (by kernel_rfl) (fun _ _ _ h => h) (Or.inl ⟨by rfl, ?_⟩) hS0 ?_
        rotate_left
        · intro u hSu; obtain ⟨_, s0, s1, s2, s3, _⟩ := hSu; go_simp <;> with_reducible rfl
        simp only [Act.put, List.getElem_toArray, List.getElem_cons_zero, List.getElem_cons_succ, List.setIfInBounds_toArray, List.set_cons_zero, List.set_cons_succ]
        obtain ⟨_, d0, d1, d2, d3, d4, d5, d6, df_⟩ := id hRd
        refine anyU_one (i := 5) (by kernel_rfl) rfl (fun K hK => ?_)
        go_simp
        obtain ⟨hV9, hK9⟩ := hRd.put (.int .i64 0) (.int .i64 0) (.int .i64 0) (.int .i64 0) (.string ⟨#[]⟩) (.int .i64 0) (.slice none 0 0)
        refine hK.out _ _ (hS0.kept hK9 (by omega)) ?_
        clear hK
        have hS9 := hS0.kept hK9 (by omega)
        generalize (((((((wd.setCell ⟨w.heap.size + 1, 0, none⟩ (.int .i64 0)).setCell ⟨w.heap.size + 1, 1, none⟩ (.int .i64 0)).setCell ⟨w.heap.size + 1, 2, none⟩ (.int .i64 0)).setCell ⟨w.heap.size + 1, 3, none⟩ (.int .i64 0)).setCell ⟨w.heap.size + 1, 4, none⟩ (.string ⟨#[]⟩)).setCell ⟨w.heap.size + 1, 5, none⟩ (.int .i64 0)).setCell ⟨w.heap.size + 1, 6, none⟩ (.slice none 0 0)) = w9 at hV9 hK9 hS9 ⊢
        refine anyU_one (i := 6) (by kernel_rfl) rfl (fun K hK => ?_)
        go_simp
        refine hK.out _ _ hS9 ?_
        clear hK
        refine anyU_done (by kernel_rfl) ?_
        go_wp2
        obtain ⟨_, q0, q1, q2, q3, q4, q5, q6, _⟩ := id hV9
        exact bodyPost_ret (v := .tuple #[(TK.mk 0 0 zeroG).val none 0, .iface 132 (.agg #[.int .i64 2, .int .i64 k.gen])]) (by simp [results, Tryz.results50, go_sem, q0, q1, q2, q3, q4, q5, q6, zeroG]) rfl ⟨hAd.trans (hK9.below hAd.size (fun z hz e => by omega)), Or.inr ⟨by rw [ht'.out], by rw [ht'.out]⟩⟩
      | true =>
        have ht : d.takeT = ⟨0, k.gen, u⟩ := (if_neg (by rw [hok]; simp)).trans ((if_neg (by rw [← hk.out, hko]; simp)).trans ((if_neg (by rw [← hk.out, ← hbo.out]; simp)).trans (by rw [← hk.out, ← hu.out])))
        have ht' : Hid _ := ht
        clear ht hok hko
        go_wp2
        obtain ⟨hV9, hK9⟩ := hR6.put (.int .i64 0) (.int .i64 k.gen) (.int .i64 u.root.kind) (.int .i64 u.root.num) (.string u.root.text) (.int .i64 u.root.node) (.slice ua u.nodes.length uc)
        have hO9 := huO6.kept hK9 (fun j e hp => by have := (huO.nodes.lt j (by rw [e]; rfl)).1; omega) (fun x hx j e hp => by have := ((huO.vals x hx).lt j (by rw [e]; rfl)).1; omega)
        generalize (((((((w6.setCell ⟨w.heap.size + 1, 0, none⟩ (.int .i64 0)).setCell ⟨w.heap.size + 1, 1, none⟩ (.int .i64 k.gen)).setCell ⟨w.heap.size + 1, 2, none⟩ (.int .i64 u.root.kind)).setCell ⟨w.heap.size + 1, 3, none⟩ (.int .i64 u.root.num)).setCell ⟨w.heap.size + 1, 4, none⟩ (.string u.root.text)).setCell ⟨w.heap.size + 1, 5, none⟩ (.int .i64 u.root.node)).setCell ⟨w.heap.size + 1, 6, none⟩ (.slice ua u.nodes.length uc)) = w9 at hV9 hK9 hO9 ⊢
        obtain ⟨_, q0, q1, q2, q3, q4, q5, q6, _⟩ := id hV9
        exact bodyPost_ret (v := .tuple #[(TK.mk 0 k.gen u).val ua uc, .nilIface]) (by simp [results, Tryz.results50, go_sem, q0, q1, q2, q3, q4, q5, q6]) rfl ⟨hA6.trans (hK9.below hA6.size (fun z hz e => by omega)), Or.inl ⟨ua, uc, ul, by rw [ht'.out], by rw [ht'.out], by rw [ht'.out]; exact hul, hO9.le (by have := hb4.size; omega)⟩⟩

end Go.Proofs.YtmdpmdmilgbfiaaGreatDoor

namespace Go.Proofs.YtmdpmdmilgbfiaaGreatDoor
open Go.RowKit

def TPo (t : TK) (w : World) (e : Ending) (w' : World) : Prop := ∃ na nc nl, e = .returned (t.val na nc) ∧ nl.map (·.n) = t.g.nodes ∧ OwnG w' w.heap.size na nc nl ∧ Below w.heap.size w w'

set_option maxHeartbeats 4000000 in
set_option maxRecDepth 100000 in
theorem implTake_any (d : DD) (l : DL) (w : World) (hd : d.Ok) (ha : DAt w l d) (hg : w.cell? ⟨0, 0, none⟩ = some (.iface 211 (.agg #[.pointer (some ⟨1, 80, none⟩)]))) : Calls Tryz.prog 17 #[d.val l] w (TPo d.takeT w) := by
  have hA := gal (gal (gre w) (.cells #[.slice l.ba d.blocks.length l.bc, .slice l.wa d.waiting.length l.wc] 46)) (.cells #[.int .i64 0, .int .i64 0, .int .i64 0, .int .i64 0, .string ⟨#[]⟩, .int .i64 0, .slice none 0 0] 34)
  have hX0 := (DBox.new w d l 46).grow (gal (gre _) (.cells #[.int .i64 0, .int .i64 0, .int .i64 0, .int .i64 0, .string ⟨#[]⟩, .int .i64 0, .slice none 0 0] 34))
  have hR0 := V7.new_at (w.alloc (.cells #[.slice l.ba d.blocks.length l.bc, .slice l.wa d.waiting.length l.wc] 46)) (.int .i64 0) (.int .i64 0) (.int .i64 0) (.int .i64 0) (.string ⟨#[]⟩) (.int .i64 0) (.slice none 0 0) 34 (w.heap.size + 1) (by simp)
  obtain ⟨t, ht⟩ := hid_ex d.takeT
  go_enter Tryz.func17, Tryz.ntmps17
  go_upto_region 1 with fail
  generalize (w.alloc (.cells #[.slice l.ba d.blocks.length l.bc, .slice l.wa d.waiting.length l.wc] 46)).alloc (.cells #[.int .i64 0, .int .i64 0, .int .i64 0, .int .i64 0, .string ⟨#[]⟩, .int .i64 0, .slice none 0 0] 34) = w1 at hA hX0 hR0 ⊢
  obtain ⟨_, x0, x1⟩ := id hX0
  have hR1l := hR0.lt
  have htu := takeUp_any d l w1 hd (ha.grow hA)
  unfold TUp at htu
  rw [← ht.out] at htu ⊢
  go_wp2_with (go_at_call 50; refine htu.mono ?_; rintro e w2 ⟨hb2, ⟨na, nc, nl, hc0, rfl, hnl, hO2⟩ | ⟨hz, rfl⟩⟩)
  · clear hc0
    refine (answered_nil t na nc w2).mono ?_
    rintro e w3 ⟨rfl, hb3⟩
    have hR3 := (hR0.grow hb2).grow hb3
    have hA3 := gca (gca hA hb2) hb3
    obtain ⟨_, r0, r1, r2, r3, r4, r5, r6, rf_⟩ := id hR3
    go_wp2
    obtain ⟨hV9, hK9⟩ := hR3.put (.int .i64 t.code) (.int .i64 t.gen) (.int .i64 t.g.root.kind) (.int .i64 t.g.root.num) (.string t.g.root.text) (.int .i64 t.g.root.node) (.slice na t.g.nodes.length nc)
    have hs12 := hb2.size
    have hO9 := (hO2.kept (Kept.of_below hb3 (fun _ => False)) (fun _ _ e => e) (fun _ _ _ _ e => e)).kept hK9 (fun j e hp => by have := (hO2.nodes.lt j (by rw [e]; rfl)).1; omega) (fun x hx j e hp => by have := ((hO2.vals x hx).lt j (by rw [e]; rfl)).1; omega)
    generalize (((((((w3.setCell ⟨w.heap.size + 1, 0, none⟩ (.int .i64 t.code)).setCell ⟨w.heap.size + 1, 1, none⟩ (.int .i64 t.gen)).setCell ⟨w.heap.size + 1, 2, none⟩ (.int .i64 t.g.root.kind)).setCell ⟨w.heap.size + 1, 3, none⟩ (.int .i64 t.g.root.num)).setCell ⟨w.heap.size + 1, 4, none⟩ (.string t.g.root.text)).setCell ⟨w.heap.size + 1, 5, none⟩ (.int .i64 t.g.root.node)).setCell ⟨w.heap.size + 1, 6, none⟩ (.slice na t.g.nodes.length nc)) = w9 at hV9 hK9 hO9 ⊢
    obtain ⟨_, q0, q1, q2, q3, q4, q5, q6, _⟩ := id hV9
    exact bodyPost_ret (v := t.val na nc) (by simp [results, Tryz.results17, go_sem, q0, q1, q2, q3, q4, q5, q6]) rfl (by rw [← ht.out]; exact ⟨na, nc, nl, rfl, hnl, hO9.le (by have := hA.size; omega), hA3.trans (hK9.below hA3.size (fun z hz e => by omega))⟩)
  · have hz' : Hid (t.g = zeroG) := hz
    clear hz
    refine (answered_hit ⟨0, 0, zeroG⟩ none 0 t.code t.gen w2 (cell_later (gca hA hb2) hg)).mono ?_
    rintro e w3 ⟨rfl, hb3⟩
    have hR3 := (hR0.grow hb2).grow hb3
    have hA3 := gca (gca hA hb2) hb3
    obtain ⟨_, r0, r1, r2, r3, r4, r5, r6, rf_⟩ := id hR3
    go_wp2
    obtain ⟨hV9, hK9⟩ := hR3.put (.int .i64 t.code) (.int .i64 t.gen) (.int .i64 zeroG.root.kind) (.int .i64 zeroG.root.num) (.string zeroG.root.text) (.int .i64 zeroG.root.node) (.slice none zeroG.nodes.length 0)
    generalize (((((((w3.setCell ⟨w.heap.size + 1, 0, none⟩ (.int .i64 t.code)).setCell ⟨w.heap.size + 1, 1, none⟩ (.int .i64 t.gen)).setCell ⟨w.heap.size + 1, 2, none⟩ (.int .i64 zeroG.root.kind)).setCell ⟨w.heap.size + 1, 3, none⟩ (.int .i64 zeroG.root.num)).setCell ⟨w.heap.size + 1, 4, none⟩ (.string zeroG.root.text)).setCell ⟨w.heap.size + 1, 5, none⟩ (.int .i64 zeroG.root.node)).setCell ⟨w.heap.size + 1, 6, none⟩ (.slice none zeroG.nodes.length 0)) = w9 at hV9 hK9 ⊢
    obtain ⟨_, q0, q1, q2, q3, q4, q5, q6, _⟩ := id hV9
    exact bodyPost_ret (v := t.val none 0) (by simp [results, Tryz.results17, go_sem, q0, q1, q2, q3, q4, q5, q6, hz'.out]) rfl (by rw [← ht.out]; exact ⟨none, 0, [], rfl, by rw [hz'.out]; rfl, own_nil _ _, hA3.trans (hK9.below hA3.size (fun z hz e => by omega))⟩)

end Go.Proofs.YtmdpmdmilgbfiaaGreatDoor

namespace Go.Proofs.YtmdpmdmilgbfiaaGreatDoor
open Go.RowKit

set_option maxRecDepth 100000 in
theorem implBlank_any (w : World) : Calls Tryz.prog 25 #[] w (DPost blankD w) := by
  obtain ⟨Z, hZ⟩ := hid_ex driveZ.toArray
  have hz : ∀ u, (zeroValue 110).run Tryz.prog u = .ok (.agg Z) u := by rw [hZ.out]; exact (zero_of_info zero_drive).1
  have hw1 := gal (gre w) (.cells #[.slice none 0 0, .slice none 0 0] 46)
  have hs1 : (w.alloc (.cells #[.slice none 0 0, .slice none 0 0] 46)).heap.size = w.heap.size + 1 := by simp
  have r0 : (w.alloc (.cells #[.slice none 0 0, .slice none 0 0] 46)).cell? ⟨w.heap.size, 0, none⟩ = some (.slice none 0 0) := by simp
  have r1 : (w.alloc (.cells #[.slice none 0 0, .slice none 0 0] 46)).cell? ⟨w.heap.size, 1, none⟩ = some (.slice none 0 0) := by simp
  have rf : ∀ o, (w.alloc (.cells #[.slice none 0 0, .slice none 0 0] 46)).frozen? ⟨w.heap.size, o, none⟩ = false := fun o => by simp
  have hN0 := Drv.new (w.alloc (.cells #[.slice none 0 0, .slice none 0 0] 46))
  rw [← hZ.out, hs1] at hN0
  have hD0 : Dr _ (w.heap.size + 1) blankD.blocks none 0 [] .nilFunc := ⟨hN0, owns_none _ _ _ _, fun x hx => by cases hx⟩
  go_enter Tryz.func25, Tryz.ntmps25
  go_wp2_with (first
    | (refine wpList_alloc_big rfl 110 rfl Z hz ?_)
    | (go_at_call 57; refine (disk_any (w.heap.size + 1) blankD.blocks none 0 [] .nilFunc _ (by decide) hD0).mono ?_; rintro e w2 ⟨l, fa, ga, fc, gc, rfl, hmd, hb2⟩; have hb3 := gca (gal (gre _) (.cells Z 110)) hb2; have z0 := cell_later hb3 r0; have z1 := cell_later hb3 r1; have zf : ∀ o, w2.frozen? ⟨w.heap.size, o, none⟩ = false := (fun o => (hb3.frozen (p := ⟨w.heap.size, o, none⟩) (by show w.heap.size < _; omega)).trans (rf o))))
  obtain ⟨c0, c1, K⟩ := ret2 (A := .slice l.ba blankD.blocks.length l.bc) (B := .slice l.wa 0 l.wc) z0 z1
  refine bodyPost_ret (v := blankD.val l) (by simp [results, Tryz.results25, go_sem, c0, c1]; rfl) rfl ⟨l, fa, ga, fc, gc, rfl, MD.last (d := blankD) hmd K (by simp; omega) (by simp; omega) K.size, ?_⟩
  exact (gca hw1 hb3).trans (K.below (by have := hb3.size; omega) (fun z hz e => by omega))

end Go.Proofs.YtmdpmdmilgbfiaaGreatDoor

namespace Go.Proofs.YtmdpmdmilgbfiaaGreatDoor
open Go.RowKit Go.ChangeShapes Go.WideShapes Go.Deep

set_option maxRecDepth 100000 in
theorem cellsU8 : Tryz.prog.cellsOf 5 = 1 := by kernel_rfl

theorem byte_of_wf {x : Int} (h : (Lit.int .u8 x).wf = true) : 0 ≤ x ∧ x < 256 := by
  simp [Lit.wf, IntKind.min, IntKind.max, IntKind.signed, IntKind.bits] at h
  omega

section
variable {H : Type} {enc : TypeId × Value → H} {w : World} {base : Nat} {held : Bool}

set_option maxRecDepth 100000 in
theorem openBytes {v : Value} {d : DataW H} {ps : List MemPlace} {r : Reach} {bd : Nat} (hv : Value.okWide Tryz.prog w r bd 22 v) (h : DataW.Trod enc Tryz.prog w base (fun _ => true) held 22 v d ps) :
    ∃ (bs : List Nat) (a : Option Addr) (cap : Nat), v = .slice a bs.length cap ∧ bs.length ≤ cap ∧ bs.length ≤ maxLen ∧ (∀ x, x ∈ bs → x < 256) ∧ BytesAt w a bs := by
  obtain ⟨fuel, h⟩ := h
  have hcs : v.cells.toList = [v] := by
    cases v <;> first | rfl | (exfalso; simp [Value.okWide, Cell.okWide, Cell.ok, Tryz.underlying22] at hv)
  rw [hcs] at h
  rcases open_ints Tryz.underlying22 Tryz.underlying5 cellsU8 h with ⟨e, _⟩ | ⟨a, len, cap, zs, e, _, hlc, hcm, hzl, _, hcell, hwf⟩
  · simp at e
    subst e
    exact ⟨[], none, 0, rfl, Nat.le_refl _, Nat.zero_le _, fun x hx => (by cases hx), fun i hi => absurd hi (Nat.not_lt_zero _)⟩
  · simp at e
    subst e
    simp at hzl
    have hl : ((zs.take len).map Int.toNat).length = len := by rw [List.length_map, List.length_take]; omega
    refine ⟨(zs.take len).map Int.toNat, some a, cap, by rw [hl], by omega, by omega, fun x hx => ?_, fun i hi => ?_⟩
    · obtain ⟨z, hz, rfl⟩ := List.mem_map.1 hx
      have := byte_of_wf (hwf z (List.mem_of_mem_take hz))
      omega
    · rw [hl] at hi
      have h1 := hcell i (by omega)
      obtain ⟨b, off, sp⟩ := a
      have h0 := hcell 0 (by omega)
      have hsp : sp = none := by simpa [Addr.add] using World.cell?_spot h0
      subst hsp
      refine ⟨b, off, rfl, ?_⟩
      have e1 : (⟨b, off, none⟩ : Addr).add i = ⟨b, off + i, none⟩ := by unfold Addr.add; simp
      rw [e1] at h1
      rw [h1]
      have h2 := byte_of_wf (hwf zs[i] (List.getElem_mem (by omega)))
      rw [getElem!_pos _ i (by rw [hl]; exact hi)]
      have e2 : ((zs.take len).map Int.toNat)[i]'(by rw [hl]; exact hi) = (zs[i]'(by omega)).toNat := by simp
      rw [e2]
      have e3 : zs.getD i 0 = zs[i]'(by omega) := by simp [List.getD, List.getElem?_eq_getElem (show i < zs.length by omega)]
      rw [e3]
      congr 2
      omega
end

end Go.Proofs.YtmdpmdmilgbfiaaGreatDoor

namespace Go.Proofs.YtmdpmdmilgbfiaaGreatDoor
open Go.RowKit

structure GoodK (d : DD) : Prop where
  ok : d.ok = true
  w : d.waiting = []
  o : d.Ok
theorem applyN_fitQ {d : DD} {ops : List OP} (hd : d.Ok) (hok : OpsOk ops) (hk : d.ok = true) : ∀ j e, j ≤ ops.length → applyN d ops j = some e → e.Ok ∧ e.ok = true
  | 0, e, _, h => by obtain rfl := Option.some.inj h; exact ⟨hd, hk⟩
  | j + 1, e, hj, h => by
    cases hp : applyN d ops j with
    | none => rw [applyN_none hp 1] at h; cases h
    | some f =>
      obtain ⟨h1, h2⟩ := applyN_fitQ hd hok hk j f (by omega) hp
      cases hs : (f.step ops[j]!).ok with
      | false => rw [applyN_no hp hs] at h; cases h
      | true =>
        rw [applyN_yes hp hs] at h
        obtain rfl := Option.some.inj h
        have hm : ops[j]! ∈ ops := mem_at (by omega)
        exact ⟨step_ok h1 h2 (hok.bl _ hm) (hok.by_ _ hm), hs⟩
theorem packB_some {g : GG} (h : packB g ≠ []) : okG g = true := by
  by_cases ho : okG g = true ∧ (imageB g).length ≤ 4096
  · exact ho.1
  · exact absurd (show packB g = [] from if_neg ho) h

theorem head_blank : headOf (List.replicate 64 0) = noH := headOf_no (fun x hx => by
  have h := congrArg List.head? hx.eq
  unfold headB headN at h
  simp at h)
theorem blank_rd {m : Nat} (hm : m < 130) : blankD.rd m = List.replicate 64 0 := by
  unfold DD.rd blankD
  show readN _ [] _ 0 = _
  simp only [readN]
  rw [getElem!_pos _ _ (by rw [Int.toNat_natCast, List.length_replicate]; exact hm), List.getElem_replicate]
theorem blank_goodK : GoodK blankD := ⟨by decide +kernel, rfl, ⟨by simp [blankD, maxLen], fun b hb => by rw [List.eq_of_mem_replicate hb]; exact ⟨by simp [maxLen], fun x hx => by rw [List.eq_of_mem_replicate hx]; omega⟩, Nat.zero_le _, fun x hx => (by cases hx), fun x hx => (by cases hx)⟩⟩
theorem blank_newest : blankD.newestOf = noK := by
  have e : ∀ s, s < 2 → blankD.slotOf s = noK := fun s hs => by
    unfold DD.slotOf
    rw [blank_rd (by omega), head_blank]
    exact if_neg (fun e => by cases e.1)
  unfold DD.newestOf
  rw [e 0 (by omega), e 1 (by omega)]
  exact if_neg (fun e => by cases e.1)

end Go.Proofs.YtmdpmdmilgbfiaaGreatDoor

namespace Go.Proofs.YtmdpmdmilgbfiaaGreatDoor
open Go.RowKit

theorem settle_off {keep : Nat → Bool} {bl : List (List Nat)} {ws : List DW} {m : Nat} (hw : ∀ x, x ∈ ws → x.block ≠ (m : Int)) (h0 : ∀ x, x ∈ ws → 0 ≤ x.block) (hm : m < bl.length) : ∀ j, j ≤ ws.length → (settleN keep bl ws j)[m]! = bl[m]!
  | 0, _ => rfl
  | j + 1, hj => by
    have hx := mem_at (l := ws) (k := j) (by omega)
    have h1 := hw _ hx
    have h2 := h0 _ hx
    have ih := settle_off (keep := keep) hw h0 hm j (by omega)
    simp only [settleN]
    split
    · rw [setB_get (by rw [settleN_length]; exact hm), if_neg (by omega), ih]
    · exact ih
theorem readN_off {bl : List (List Nat)} {ws : List DW} {m : Nat} (hw : ∀ x, x ∈ ws → x.block ≠ (m : Int)) : ∀ j, j ≤ ws.length → readN bl ws (m : Int) j = bl[m]!
  | 0, _ => by simp [readN]
  | j + 1, hj => by
    have h1 := hw _ (mem_at (l := ws) (k := j) (by omega))
    simp only [readN]
    rw [if_neg h1]
    exact readN_off hw j (by omega)
theorem rd_nil {d : DD} (hw : d.waiting = []) (m : Nat) : d.rd m = d.blocks[m]! := by
  unfold DD.rd
  rw [hw]
  simp [readN]
theorem applyN_off {d : DD} {ops : List OP} (hok : d.ok = true) (hg : ∀ o, o ∈ ops → o.Good) (hw : d.waiting = []) (hl : ops.length ≤ 200) {m : Nat} (hm : m < 130) :
    ∀ j, j ≤ ops.length → (∀ i, i < j → ops[i]!.sync = true ∨ ops[i]!.block ≠ (m : Int)) → ∀ f, applyN d ops j = some f → f.blocks[m]! = d.blocks[m]! ∧ ∀ x, x ∈ f.waiting → x.block ≠ (m : Int)
  | 0, _, _, f, h => by
    obtain rfl := Option.some.inj h
    exact ⟨rfl, fun x hx => by rw [hw] at hx; cases hx⟩
  | j + 1, hj, ho, f, h => by
    obtain ⟨e, h1, h2, h3⟩ := applyN_good hok hg j (by omega) (by rw [hw]; simp; omega)
    obtain ⟨i1, i2⟩ := applyN_off hok hg hw hl hm j (by omega) (fun i hi => ho i (by omega)) e h1
    have hgo := hg ops[j]! (mem_at (by omega))
    have hwl : e.waiting.length < 200 := by rw [hw] at h3; simp at h3; omega
    obtain ⟨s1, _, _⟩ := step_good h2 hgo hwl
    rw [applyN_yes h1 s1] at h
    obtain rfl := Option.some.inj h
    have hf := DD.fit h2
    unfold DD.step
    by_cases hs : ops[j]!.sync = true
    · rw [if_pos hs, settle_yes h2]
      exact ⟨(settle_off i2 (fun x hx => (hf.wb x hx).1) (by rw [hf.bl]; exact hm) _ (Nat.le_refl _)).trans i1, fun x hx => by cases hx⟩
    · rw [if_neg hs, put_yes h2 (hgo.resolve_left hs) (by omega)]
      refine ⟨i1, fun x hx => ?_⟩
      rcases List.mem_append.1 hx with e1 | e1
      · exact i2 x e1
      · rw [List.mem_singleton.1 e1]
        exact (ho j (by omega)).resolve_left hs
theorem settle_nil {d : DD} (hok : d.ok = true) (hw : d.waiting = []) (keep : Nat → Bool) : d.settle keep = d := by
  rw [settle_yes hok, hw]
  obtain ⟨bl, ws⟩ := d
  simp only at hw
  subst hw
  rfl
theorem lay_form {d : DD} {im : List Nat} (hne : d.newestOf.gen ≠ 1000000000000) : d.lay im = imgOps d.newestOf.other im (nBlk im) ++ [syncO, headO d.newestOf im, syncO] ∧ (d.lay im).length = nBlk im + 1 + 1 + 1 := by
  have e : d.lay im = imgOps d.newestOf.other im (nBlk im) ++ [syncO, headO d.newestOf im, syncO] := if_neg hne
  exact ⟨e, by rw [e, List.length_append, imgOps_len]; rfl⟩
theorem lay_at {d : DD} {im : List Nat} (hne : d.newestOf.gen ≠ 1000000000000) : (∀ i, i < nBlk im → (d.lay im)[i]! = ⟨false, ((firstOf d.newestOf.other + i : Nat) : Int), blkOf im i⟩) ∧ (d.lay im)[nBlk im]! = syncO ∧ (d.lay im)[nBlk im + 1]! = headO d.newestOf im ∧ (d.lay im)[nBlk im + 1 + 1]! = syncO := by
  obtain ⟨e, hl⟩ := lay_form (im := im) hne
  have hil := imgOps_len d.newestOf.other im (nBlk im)
  rw [e] at hl ⊢
  refine ⟨fun i hi => ?_, ?_, ?_, ?_⟩
  · rw [getElem!_pos _ _ (by rw [hl]; omega), List.getElem_append_left (by rw [hil]; exact hi), ← imgOps_at (s := d.newestOf.other) (im := im) hi, getElem!_pos _ _ (by rw [hil]; exact hi)]
  · rw [getElem!_pos _ _ (by rw [hl]; omega), List.getElem_append_right (by omega)]; simp [hil]
  · rw [getElem!_pos _ _ (by rw [hl]; omega), List.getElem_append_right (by omega)]; simp [hil]
  · rw [getElem!_pos _ _ (by rw [hl]; omega), List.getElem_append_right (by omega)]; simp [hil, show nBlk im + 1 + 1 - nBlk im = 2 by omega]

def CutOff (d e : DD) : Prop := ∀ m, m < 130 → ¬ (firstOf d.newestOf.other ≤ m ∧ m < firstOf d.newestOf.other + 64) → e.rd m = d.rd m
def CutAll (d e : DD) (im : List Nat) : Prop := ∀ m, m < 130 → e.rd m = viewN d.rd (d.lay im) (d.lay im).length m
theorem crash_view {d f : DD} (h : GoodK d) {im : List Nat} (hl : im.length ≤ 4096) (hne : d.newestOf.gen ≠ 1000000000000) {j : Nat} (hj : j ≤ (d.lay im).length) (keep : Nat → Bool) (hf : applyN d (d.lay im) j = some f) :
    (j < (d.lay im).length ∧ CutOff d (f.settle keep)) ∨ ((d.lay im).length ≤ j + 1 ∧ CutAll d (f.settle keep) im) := by
  obtain ⟨_, hlen⟩ := lay_form (im := im) hne
  obtain ⟨a1, a2, a3, a4⟩ := lay_at (im := im) hne
  have hg := lay_good d hl
  have hll := lay_len d hl
  have hs := d.newestOf.other_lt
  have hn : nBlk im ≤ 64 := by unfold nBlk; omega
  have hfd := DD.fit h.ok
  -- early: the head is not yet written
  have early : ∀ k, k ≤ nBlk im + 1 → ∀ e, applyN d (d.lay im) k = some e → ∀ m, m < 130 → ¬ (firstOf d.newestOf.other ≤ m ∧ m < firstOf d.newestOf.other + 64) → e.blocks[m]! = d.blocks[m]! ∧ ∀ x, x ∈ e.waiting → x.block ≠ (m : Int) := fun k hk e he m hm hn2 => by
    refine applyN_off h.ok hg h.w (by omega) hm k (by omega) (fun i hi => ?_) e he
    by_cases hi2 : i < nBlk im
    · rw [a1 i hi2]
      refine Or.inr ?_
      show ((firstOf d.newestOf.other + i : Nat) : Int) ≠ (m : Int)
      omega
    · obtain rfl : i = nBlk im := by omega
      rw [a2]
      exact Or.inl rfl
  have offOf : ∀ k, k ≤ nBlk im + 1 → ∀ e, applyN d (d.lay im) k = some e → CutOff d (e.settle keep) := fun k hk e he m hm hn2 => by
    obtain ⟨g, g1, g2, g3⟩ := applyN_good h.ok hg k (by omega) (by rw [h.w]; simp; omega)
    obtain rfl := Option.some.inj (g1.symm.trans he)
    obtain ⟨b1, b2⟩ := early k hk g he m hm hn2
    have hfg := DD.fit g2
    rw [settle_yes g2, rd_nil (d := ⟨_, []⟩) rfl, rd_nil h.w]
    exact (settle_off b2 (fun x hx => (hfg.wb x hx).1) (by rw [hfg.bl]; exact hm) _ (Nat.le_refl _)).trans b1
  by_cases h1 : j ≤ nBlk im + 1
  · exact Or.inl ⟨by omega, offOf j h1 f hf⟩
  · obtain ⟨e, e1, e2, e3⟩ := applyN_good h.ok hg (nBlk im) (by omega) (by rw [h.w]; simp; omega)
    obtain ⟨s1, s2, s3⟩ := step_good (o := (d.lay im)[nBlk im]!) e2 (by rw [a2]; exact Or.inl rfl) (by rw [h.w] at e3; simp at e3; omega)
    have p1 := applyN_yes e1 s1
    have w1 := s3 (by rw [a2]; rfl)
    generalize e.step (d.lay im)[nBlk im]! = e' at s1 s2 s3 p1 w1
    have hgh : ((d.lay im)[nBlk im + 1]!).Good := hg _ (mem_at (by omega))
    obtain ⟨t1, t2, _⟩ := step_good (o := (d.lay im)[nBlk im + 1]!) s1 hgh (by rw [w1]; simp)
    have p2 := applyN_yes p1 t1
    have hst : e'.step (d.lay im)[nBlk im + 1]! = ⟨e'.blocks, [⟨(headO d.newestOf im).block, (headO d.newestOf im).bytes⟩]⟩ := by
      rw [a3] at hgh ⊢
      unfold DD.step
      rw [if_neg (by show ¬ false = true; decide), put_yes s1 (hgh.resolve_left (by show ¬ false = true; decide)) (by rw [w1]; simp), w1]
      rfl
    obtain ⟨u, u1, u2, _, u4⟩ := applyN_view h.ok hg (d.lay im).length (Nat.le_refl _) (by rw [h.w]; simp; omega)
    by_cases h2 : j = nBlk im + 1 + 1
    · subst h2
      obtain rfl := Option.some.inj (p2.symm.trans hf)
      cases hk : keep 0 with
      | true =>
        refine Or.inr ⟨by omega, fun m hm => ?_⟩
        rw [← u4 m hm]
        have hsync : (e'.step (d.lay im)[nBlk im + 1]!).step (d.lay im)[nBlk im + 1 + 1]! = (e'.step (d.lay im)[nBlk im + 1]!).settle keepAll := by
          generalize e'.step (d.lay im)[nBlk im + 1]! = f'
          rw [a4]
          exact if_pos rfl
        have hse : (e'.step (d.lay im)[nBlk im + 1]!).settle keep = (e'.step (d.lay im)[nBlk im + 1]!).settle keepAll := by
          rw [settle_yes t1, settle_yes t1, hst]
          show DD.mk (settleN keep e'.blocks _ 1) [] = DD.mk (settleN keepAll e'.blocks _ 1) []
          simp only [settleN, hk, keepAll]
        rw [hse, ← hsync]
        have hwl : (e'.step (d.lay im)[nBlk im + 1]!).waiting.length < 200 := by rw [hst]; show 1 < 200; decide
        obtain ⟨v1, _, _⟩ := step_good (o := (d.lay im)[nBlk im + 1 + 1]!) t1 (hg _ (mem_at (by omega))) hwl
        have p3 := applyN_yes p2 v1
        rw [← hlen] at p3
        rw [Option.some.inj (p3.symm.trans u1)]
      | false =>
        refine Or.inl ⟨by omega, ?_⟩
        have hse : (e'.step (d.lay im)[nBlk im + 1]!).settle keep = e'.settle keep := by
          rw [settle_nil s1 w1, settle_yes t1, hst]
          show DD.mk (settleN keep e'.blocks _ 1) [] = e'
          simp only [settleN, hk]
          obtain ⟨bl, ws⟩ := e'
          simp only at w1
          subst w1
          rfl
        rw [hse]
        exact offOf (nBlk im + 1) (Nat.le_refl _) e' p1
    · obtain rfl : j = (d.lay im).length := by omega
      obtain rfl := Option.some.inj (u1.symm.trans hf)
      refine Or.inr ⟨by omega, fun m hm => ?_⟩
      rw [settle_nil u2 (lay_done h.w h.ok hl u1)]
      exact u4 m hm

structure KCut (d : DD) : Prop where
  gd : GoodK d
  c : (d.newestOf = noK ∧ ∀ m, m < 2 → headOf (d.rd m) = noH) ∨ ∃ (o : Nat) (g : GG), o < 2 ∧ g.Ok ∧ packB g ≠ [] ∧ d.newestOf = ⟨true, d.newestOf.gen, (o : Int), packB g⟩ ∧ d.slotOf o = d.newestOf ∧ ((headOf (d.rd (1 - o))).ok = true → (headOf (d.rd (1 - o))).gen < d.newestOf.gen)
theorem KCut.blank : KCut blankD := ⟨blank_goodK, Or.inl ⟨blank_newest, fun m hm => by rw [blank_rd (by omega)]; exact head_blank⟩⟩
theorem slot_no {d : DD} {s : Nat} (h : (headOf (d.rd s)).ok = false) : d.slotOf s = noK := if_neg (fun e => by rw [h] at e; cases e.1)
theorem slot_gen {d : DD} {s : Nat} (h : (d.slotOf s).ok = true) : (headOf (d.rd s)).ok = true ∧ (d.slotOf s).gen = (headOf (d.rd s)).gen := by
  unfold DD.slotOf at h ⊢
  split at h
  · rename_i h1; rw [if_pos h1]; exact ⟨h1.1, rfl⟩
  · cases h
theorem newest_pick {d : DD} {o : Nat} (ho : o < 2) (h1 : (d.slotOf o).ok = true) (h2 : (d.slotOf (1 - o)).ok = true → (d.slotOf (1 - o)).gen < (d.slotOf o).gen) : d.newestOf = d.slotOf o := by
  unfold DD.newestOf
  have h01 : o = 0 ∨ o = 1 := by omega
  rcases h01 with rfl | rfl
  · refine if_neg (fun e => ?_)
    have e2 := h2 e.1
    rcases e.2 with e3 | e3
    · rw [h1] at e3; cases e3
    · have e2' : (d.slotOf 1).gen < (d.slotOf 0).gen := e2; omega
  · refine if_pos ⟨h1, ?_⟩
    cases e : (d.slotOf 0).ok with
    | false => exact Or.inl rfl
    | true => exact Or.inr (h2 e)
theorem other_pick {d : DD} {o : Nat} (ho : o < 2) {g : Int} {b : List Nat} (h : d.newestOf = ⟨true, g, (o : Int), b⟩) : d.newestOf.other = 1 - o := by
  rw [h]
  unfold KK.other
  by_cases e0 : o = 0
  · subst e0; rw [if_pos ⟨rfl, rfl⟩]
  · rw [if_neg (fun k => e0 (by have := k.2; simpa using this))]; omega

theorem cut_old {d e : DD} (h : KCut d) (he : GoodK e) (hv : CutOff d e) : KCut e ∧ e.newestOf = d.newestOf := by
  have hd0 : ∀ s, s < 2 → e.rd s = d.rd s := fun s hs => hv s (by omega) (by unfold firstOf; omega)
  rcases h.c with ⟨h1, h2⟩ | ⟨o, g, ho, hgo, hp, hn, hs, ht⟩
  · have hno : ∀ s, s < 2 → e.slotOf s = noK := fun s hs => slot_no (by rw [hd0 s hs, h2 s hs])
    have hN : e.newestOf = noK := by
      unfold DD.newestOf
      rw [hno 0 (by omega), hno 1 (by omega)]
      exact if_neg (fun k => by cases k.1)
    exact ⟨⟨he, Or.inl ⟨hN, fun m hm => by rw [hd0 m hm, h2 m hm]⟩⟩, by rw [hN, h1]⟩
  · have hoth := other_pick ho hn
    have hslot : e.slotOf o = d.slotOf o := slot_same (hd0 o ho) (fun i hi => hv _ (by unfold firstOf; omega) (by rw [hoth]; unfold firstOf; omega))
    have hN : e.newestOf = d.newestOf := by
      rw [← hs, ← hslot]
      refine newest_pick ho (by rw [hslot, hs, hn]) (fun k => ?_)
      obtain ⟨k1, k2⟩ := slot_gen k
      rw [k2, hslot, hs, hd0 (1 - o) (by omega)]
      exact ht (by rw [← hd0 (1 - o) (by omega)]; exact k1)
    refine ⟨⟨he, Or.inr ⟨o, g, ho, hgo, hp, by rw [hN]; exact hn, by rw [hN, hslot]; exact hs, ?_⟩⟩, hN⟩
    rw [hN, hd0 (1 - o) (by omega)]
    exact ht
theorem cut_new {d e : DD} (h : KCut d) (he : GoodK e) {g : GG} (hgo : g.Ok) (hp : packB g ≠ []) (hne : d.newestOf.gen ≠ 1000000000000) (hv : CutAll d e (packB g)) : KCut e ∧ e.newestOf = ⟨true, d.newestOf.gen + 1, (d.newestOf.other : Int), packB g⟩ := by
  have hl := packB_lenK g
  have hfd := DD.fit h.gd.ok
  have hfe := DD.fit he.ok
  have hN := laid_newest hfd hfe hl hp hne hv
  obtain ⟨s1, s2⟩ := laid_slots hfd hfe hl hp hne hv
  have hs := d.newestOf.other_lt
  have hoff : e.rd (1 - d.newestOf.other) = d.rd (1 - d.newestOf.other) := by
    rw [hv _ (by omega), lay_view hne, if_neg (by omega), if_neg (by unfold firstOf; omega)]
  refine ⟨⟨he, Or.inr ⟨d.newestOf.other, g, hs, hgo, hp, by rw [hN], by rw [hN]; exact s1, ?_⟩⟩, hN⟩
  rw [hN, hoff]
  intro hk
  show _ < d.newestOf.gen + 1
  rcases h.c with ⟨_, h2⟩ | ⟨o, g', ho, _, _, hn, hs2, _⟩
  · rw [h2 _ (by omega)] at hk; cases hk
  · have hoth := other_pick ho hn
    have e1 : 1 - d.newestOf.other = o := by omega
    rw [e1]
    obtain ⟨_, k2⟩ := slot_gen (d := d) (s := o) (by rw [hs2, hn])
    rw [← k2, hs2]
    omega
theorem KCut.cut {d f : DD} (h : KCut d) {g : GG} (hgo : g.Ok) (hp : packB g ≠ []) (hne : d.newestOf.gen ≠ 1000000000000) {j : Nat} (hj : j ≤ (d.lay (packB g)).length) (keep : Nat → Bool) (hf : applyN d (d.lay (packB g)) j = some f) :
    KCut (f.settle keep) ∧ ((j < (d.lay (packB g)).length ∧ (f.settle keep).newestOf = d.newestOf) ∨ ((d.lay (packB g)).length ≤ j + 1 ∧ (f.settle keep).newestOf = ⟨true, d.newestOf.gen + 1, (d.newestOf.other : Int), packB g⟩)) := by
  have hl := packB_lenK g
  have hr := newest_rng (DD.fit h.gd.ok)
  obtain ⟨h1, h2⟩ := applyN_fitQ h.gd.o (lay_opsOk d ⟨hr.g.2, hr.g.1⟩ (packB_bytesK g) hl) h.gd.ok j f hj hf
  obtain ⟨s1, s2⟩ := settle_okP h2 keep
  have he : GoodK (f.settle keep) := ⟨s1, s2, settle_okA h1 h2 keep⟩
  rcases crash_view h.gd hl hne hj keep hf with ⟨c1, c2⟩ | ⟨c1, c2⟩
  · obtain ⟨k1, k2⟩ := cut_old h he c2
    exact ⟨k1, Or.inl ⟨c1, k2⟩⟩
  · obtain ⟨k1, k2⟩ := cut_new h he hgo hp hne c2
    exact ⟨k1, Or.inr ⟨c1, k2⟩⟩
theorem KCut.whole {d f : DD} (h : KCut d) {g : GG} (hgo : g.Ok) (hp : packB g ≠ []) (hne : d.newestOf.gen ≠ 1000000000000) (hf : applyN d (d.lay (packB g)) (d.lay (packB g)).length = some f) : KCut f ∧ f.newestOf.gen = d.newestOf.gen + 1 := by
  have hl := packB_lenK g
  have hr := newest_rng (DD.fit h.gd.ok)
  obtain ⟨_, h2⟩ := applyN_fitQ h.gd.o (lay_opsOk d ⟨hr.g.2, hr.g.1⟩ (packB_bytesK g) hl) h.gd.ok _ f (Nat.le_refl _) hf
  obtain ⟨k1, k2⟩ := h.cut hgo hp hne (Nat.le_refl _) keepAll hf
  rw [settle_nil h2 (lay_done h.gd.w h.gd.ok hl hf)] at k1 k2
  rcases k2 with ⟨k3, _⟩ | ⟨_, k3⟩
  · omega
  · exact ⟨k1, by rw [k3]⟩
theorem zeroG_okC : zeroG.Ok := ⟨⟨small_i64 (by show (0 : Int) ≤ 0 ∧ (0 : Int) ≤ 1000000; omega), small_i64 (by show (0 : Int) ≤ 0 ∧ (0 : Int) ≤ 1000000; omega), Nat.zero_le _, small_i64 (by show (0 : Int) ≤ 0 ∧ (0 : Int) ≤ 1000000; omega)⟩, Nat.zero_le _, fun n hn => (by cases hn)⟩
theorem take_of {d e : DD} (hd : d.ok = true) (he : e.ok = true) (h : e.newestOf = d.newestOf) : e.takeT = d.takeT := by
  unfold DD.takeT
  rw [hd, he, h]
theorem KCut.gen {d : DD} (h : KCut d) : d.takeT.gen = d.newestOf.gen ∧ d.takeT.g.Ok ∧ (d.takeT.code = 0 ∨ d.takeT.code = 1) := by
  rcases h.c with ⟨h1, _⟩ | ⟨o, g, ho, hgo, hp, hn, _⟩
  · unfold DD.takeT
    rw [if_neg (by rw [h.gd.ok]; decide), h1, if_pos (show noK.ok = false from rfl)]
    exact ⟨rfl, zeroG_okC, Or.inr rfl⟩
  · unfold DD.takeT
    rw [if_neg (by rw [h.gd.ok]; decide), hn, if_neg (fun e => by cases e), unB_pack hgo (packB_some hp) hp, if_neg (fun e => by cases e)]
    exact ⟨rfl, canon_ok hgo (packB_some hp), Or.inl rfl⟩
theorem new_take {e : DD} (he : GoodK e) {g : GG} (hgo : g.Ok) (hp : packB g ≠ []) {n s : Int} (h : e.newestOf = ⟨true, n, s, packB g⟩) : e.takeT = ⟨0, n, canon g⟩ := by
  unfold DD.takeT
  rw [if_neg (by rw [he.ok]; decide), h, if_neg (fun e => by cases e), unB_pack hgo (packB_some hp) hp, if_neg (fun e => by cases e)]

end Go.Proofs.YtmdpmdmilgbfiaaGreatDoor
