import Derived.ProofKit
import Derived.OpenShut
import Derived.Deep.Slices
import Derived.ChangeSlices
import Derived.Test.YtmdpmdmilgbfiaaGreatDoorPartZF

/-
  TAKEB: takeUp. Own work.
-/
namespace Go.Proofs.YtmdpmdmilgbfiaaGreatDoor
open Go.RowKit

theorem mb_atT {w : World} {lo : Nat} {oa : Option Addr} {ys : List Nat} (h : MB w lo oa ys) : BytesAt w oa ys := by
  rcases h with rfl | ⟨G, n, rfl, _, hB⟩
  · exact fun i hi => absurd hi (Nat.not_lt_zero _)
  · exact brow_bytes hB
theorem newest_byteT {d : DD} (h : d.Fit) (ho : d.Ok) : (∀ x, x ∈ d.newestOf.bytes → x < 256) ∧ d.newestOf.bytes.length ≤ 4096 := by
  have hs : ∀ m, m < 2 → (∀ x, x ∈ (d.slotOf m).bytes → x < 256) := fun m hm => by
    unfold DD.slotOf
    split
    · exact DD.img_byte h ho hm
    · intro x hx; cases hx
  unfold DD.newestOf
  split
  · exact ⟨hs 1 (by omega), (DD.slot_fine h (slot := 1) (by omega)).len⟩
  · exact ⟨hs 0 (by omega), (DD.slot_fine h (slot := 0) (by omega)).len⟩

/-- what takeUp answers -/
def TUp (d : DD) (w : World) (e : Ending) (w' : World) : Prop :=
  Below w.heap.size w w' ∧ ((∃ na nc nl, d.takeT.code = 0 ∧ e = .returned (.tuple #[d.takeT.val na nc, .nilIface]) ∧ nl.map (·.n) = d.takeT.g.nodes ∧ OwnG w' w.heap.size na nc nl) ∨ (d.takeT.g = zeroG ∧ e = .returned (.tuple #[(TK.mk 0 0 zeroG).val none 0, .iface 132 (.agg #[.int .i64 d.takeT.code, .int .i64 d.takeT.gen])])))

set_option maxHeartbeats 4000000 in
set_option maxRecDepth 100000 in
theorem takeUp_any (d : DD) (l : DL) (w : World) (hd : d.Ok) (ha : DAt w l d) : Calls Tryz.prog 50 #[d.val l] w (TUp d w) := by
  have hA := gal (gal (gre w) (.cells #[.slice l.ba d.blocks.length l.bc, .slice l.wa d.waiting.length l.wc] 46)) (.cells #[.int .i64 0, .int .i64 0, .int .i64 0, .int .i64 0, .string ⟨#[]⟩, .int .i64 0, .slice none 0 0] 34)
  have hX0 := (DBox.new w d l 46).grow (gal (gre _) (.cells #[.int .i64 0, .int .i64 0, .int .i64 0, .int .i64 0, .string ⟨#[]⟩, .int .i64 0, .slice none 0 0] 34))
  have hR0 := V7.new_at (w.alloc (.cells #[.slice l.ba d.blocks.length l.bc, .slice l.wa d.waiting.length l.wc] 46)) (.int .i64 0) (.int .i64 0) (.int .i64 0) (.int .i64 0) (.string ⟨#[]⟩) (.int .i64 0) (.slice none 0 0) 34 (w.heap.size + 1) (by simp)
  cases hok : d.ok with
  | false =>
    have ht : d.takeT = ⟨3, 0, zeroG⟩ := if_pos hok
    have ht' : Hid _ := ht
    have hok' : Hid _ := hok
    clear hok ht
    go_enter Tryz.func50, Tryz.ntmps50
    go_wp2_with (go_at_call 29; refine (implDiskOk_any d l _ hd (ha.grow hA)).mono ?_; rintro e w2 ⟨rfl, hb2⟩; rw [hok'.out]; have hR2 := hR0.grow hb2; obtain ⟨_, r0, r1, r2, r3, r4, r5, r6, rf_⟩ := id hR2)
    obtain ⟨hV9, hK9⟩ := hR2.put (.int .i64 0) (.int .i64 0) (.int .i64 0) (.int .i64 0) (.string ⟨#[]⟩) (.int .i64 0) (.slice none 0 0)
    generalize (((((((w2.setCell ⟨w.heap.size + 1, 0, none⟩ (.int .i64 0)).setCell ⟨w.heap.size + 1, 1, none⟩ (.int .i64 0)).setCell ⟨w.heap.size + 1, 2, none⟩ (.int .i64 0)).setCell ⟨w.heap.size + 1, 3, none⟩ (.int .i64 0)).setCell ⟨w.heap.size + 1, 4, none⟩ (.string ⟨#[]⟩)).setCell ⟨w.heap.size + 1, 5, none⟩ (.int .i64 0)).setCell ⟨w.heap.size + 1, 6, none⟩ (.slice none 0 0)) = w9 at hV9 hK9 ⊢
    obtain ⟨_, q0, q1, q2, q3, q4, q5, q6, _⟩ := id hV9
    exact bodyPost_ret (v := .tuple #[(TK.mk 0 0 zeroG).val none 0, .iface 132 (.agg #[.int .i64 3, .int .i64 0])]) (by simp [results, Tryz.results50, go_sem, q0, q1, q2, q3, q4, q5, q6, zeroG]) rfl ⟨(gca hA hb2).trans (hK9.below (gca hA hb2).size (fun z hz e => by omega)), Or.inr ⟨by rw [ht'.out], by rw [ht'.out]⟩⟩
  | true =>
    have hok' : Hid _ := hok
    have hf := DD.fit hok
    obtain ⟨k, hk⟩ := hid_ex d.newestOf
    have hne : d.newest = k := by rw [hk.out]; exact if_pos hok
    cases hko : k.ok with
    | false =>
      have ht : d.takeT = ⟨1, 0, zeroG⟩ := (if_neg (by rw [hok]; simp)).trans (if_pos (by rw [← hk.out]; exact hko))
      have ht' : Hid _ := ht
      have hko' : Hid _ := hko
      clear hok ht hko
      go_enter Tryz.func50, Tryz.ntmps50
      go_upto_region 4 with (first
        | (go_at_call 29; refine (implDiskOk_any d l _ hd (ha.grow hA)).mono ?_; rintro e w2 ⟨rfl, hb2⟩; rw [hok'.out]; obtain ⟨_, x0, x1⟩ := hX0.grow hb2)
        | (go_at_call 27; refine (implNewest_any d l _ hd (ha.grow (gca hA hb2))).mono ?_; rw [hne]; rintro e w3 ⟨oa, oc, rfl, hcp, hM3, hb3⟩))
      have hV4 := V4.new_at w3 (.bool k.ok) (.int .i64 k.gen) (.int .i64 k.slot) (.slice oa k.bytes.length oc) 62 w3.heap.size rfl
      have hb4 := gal (gca (gca hA hb2) hb3) (.cells #[.bool k.ok, .int .i64 k.gen, .int .i64 k.slot, .slice oa k.bytes.length oc] 62)
      have hR4 := (hR0.grow hb2).grow (gal hb3 (.cells #[.bool k.ok, .int .i64 k.gen, .int .i64 k.slot, .slice oa k.bytes.length oc] 62))
      generalize w3.alloc (.cells #[.bool k.ok, .int .i64 k.gen, .int .i64 k.slot, .slice oa k.bytes.length oc] 62) = w4 at hV4 hb4 hR4 ⊢
      rw [hko'.out] at hV4
      obtain ⟨_, v0, v1, v2, v3, vf⟩ := id hV4
      obtain ⟨_, r0, r1, r2, r3, r4, r5, r6, rf_⟩ := id hR4
      clear x0 x1
      go_wp2
      obtain ⟨hV9, hK9⟩ := hR4.put (.int .i64 0) (.int .i64 0) (.int .i64 0) (.int .i64 0) (.string ⟨#[]⟩) (.int .i64 0) (.slice none 0 0)
      generalize (((((((w4.setCell ⟨w.heap.size + 1, 0, none⟩ (.int .i64 0)).setCell ⟨w.heap.size + 1, 1, none⟩ (.int .i64 0)).setCell ⟨w.heap.size + 1, 2, none⟩ (.int .i64 0)).setCell ⟨w.heap.size + 1, 3, none⟩ (.int .i64 0)).setCell ⟨w.heap.size + 1, 4, none⟩ (.string ⟨#[]⟩)).setCell ⟨w.heap.size + 1, 5, none⟩ (.int .i64 0)).setCell ⟨w.heap.size + 1, 6, none⟩ (.slice none 0 0)) = w9 at hV9 hK9 ⊢
      obtain ⟨_, q0, q1, q2, q3, q4, q5, q6, _⟩ := id hV9
      exact bodyPost_ret (v := .tuple #[(TK.mk 0 0 zeroG).val none 0, .iface 132 (.agg #[.int .i64 1, .int .i64 0])]) (by simp [results, Tryz.results50, go_sem, q0, q1, q2, q3, q4, q5, q6, zeroG]) rfl ⟨hb4.trans (hK9.below hb4.size (fun z hz e => by omega)), Or.inr ⟨by rw [ht'.out], by rw [ht'.out]⟩⟩
    | true =>
      obtain ⟨ok, hbo⟩ := hid_ex (unB k.bytes).1
      obtain ⟨u, hu⟩ := hid_ex (unB k.bytes).2
      have hkb := newest_byteT hf hd
      rw [← hk.out] at hkb
      obtain ⟨hkb1, hkb2⟩ := hkb
      have hcp0 : True := trivial
      have hko' : Hid _ := hko
      go_enter Tryz.func50, Tryz.ntmps50
      go_upto_region 7 with (first
        | (go_at_call 29; refine (implDiskOk_any d l _ hd (ha.grow hA)).mono ?_; rintro e w2 ⟨rfl, hb2⟩; rw [hok'.out]; obtain ⟨_, x0, x1⟩ := hX0.grow hb2)
        | (go_at_call 27; refine (implNewest_any d l _ hd (ha.grow (gca hA hb2))).mono ?_; rw [hne]; rintro e w3 ⟨oa, oc, rfl, hcp, hM3, hb3⟩)
        | (go_at_call 92; refine (implUnpack_any oa oc k.bytes _ ((mb_atT hM3).grow (gal (gre _) (.cells #[.bool true, .int .i64 k.gen, .int .i64 k.slot, .slice oa k.bytes.length oc] 62))) hcp.out (by omega) hkb1).mono ?_; rintro e w5 ⟨ua, uc, ul, rfl, hul, huO, hb5⟩; rw [← hu.out] at hul; rw [← hbo.out, ← hu.out]))
      have hV4 := V4.new_at w3 (.bool true) (.int .i64 k.gen) (.int .i64 k.slot) (.slice oa k.bytes.length oc) 62 w3.heap.size rfl
      have hb4 := gal (gca (gca hA hb2) hb3) (.cells #[.bool true, .int .i64 k.gen, .int .i64 k.slot, .slice oa k.bytes.length oc] 62)
      have hR4 := (hR0.grow hb2).grow (gal hb3 (.cells #[.bool true, .int .i64 k.gen, .int .i64 k.slot, .slice oa k.bytes.length oc] 62))
      have hs3 : w3.heap.size < (w3.alloc (.cells #[.bool true, .int .i64 k.gen, .int .i64 k.slot, .slice oa k.bytes.length oc] 62)).heap.size := by simp
      generalize w3.alloc (.cells #[.bool true, .int .i64 k.gen, .int .i64 k.slot, .slice oa k.bytes.length oc] 62) = w4 at hV4 hb4 hR4 hb5 huO hs3 ⊢
      have hRP : w.heap.size + 1 < w3.heap.size := ((hR0.grow hb2).grow hb3).lt
      generalize w3.heap.size = PK at hV4 hs3 hRP ⊢
      have hS6 := Six.new w5 ok u.root (.slice ua u.nodes.length uc) 118
      have hb6 := gal hb5 (.cells #[.bool ok, .int .i64 u.root.kind, .int .i64 u.root.num, .string u.root.text, .int .i64 u.root.node, .slice ua u.nodes.length uc] 118)
      have hV6 := hV4.grow hb6
      have hR6 := hR4.grow hb6
      have hA6 := gca hb4 hb6
      have huO6 := huO.kept ((Kept.refl (fun _ => False) w5).alloc (.cells #[.bool ok, .int .i64 u.root.kind, .int .i64 u.root.num, .string u.root.text, .int .i64 u.root.node, .slice ua u.nodes.length uc] 118)) (fun _ _ e => e) (fun _ _ _ _ e => e)
      have hs45 := hb5.size
      generalize w5.alloc (.cells #[.bool ok, .int .i64 u.root.kind, .int .i64 u.root.num, .string u.root.text, .int .i64 u.root.node, .slice ua u.nodes.length uc] 118) = w6 at hS6 hb6 hV6 hR6 hA6 huO6 ⊢
      generalize w5.heap.size = PU at hS6 hs45 ⊢
      obtain ⟨_, v0, v1, v2, v3, vf⟩ := id hV6
      obtain ⟨_, s0, s1, s2, s3, s4, s5, sf⟩ := id hS6
      obtain ⟨_, r0, r1, r2, r3, r4, r5, r6, rf_⟩ := id hR6
      have hRl := hR4.lt
      cases ok with
      | false =>
        have ht : d.takeT = ⟨2, k.gen, zeroG⟩ := (if_neg (by rw [hok]; simp)).trans ((if_neg (by rw [← hk.out, hko]; simp)).trans ((if_pos (by rw [← hk.out]; exact hbo.out.symm)).trans (by rw [← hk.out])))
        have ht' : Hid _ := ht
        clear ht hok hko
        go_upto_region 8 with fail
        have hS0 : V4 w6.drew PK (.bool true) (.int .i64 k.gen) (.int .i64 k.slot) (.slice oa k.bytes.length oc) := hV6.grow (gdr (gre _))
        have hRd := hR6.grow (gdr (gre _))
        refine wp_regionU (fun u => V4 u PK (.bool true) (.int .i64 k.gen) (.int .i64 k.slot) (.slice oa k.bytes.length oc)) 99 (by kernel_rfl) hS0 (fun _ => ?_)
        have hAd : Below w.heap.size w w6.drew := gdr hA6
        generalize w6.drew = wd at hS0 hRd hAd ⊢
        refine anyU_take (i := 0) (v := ?_) rfl (by kernel_rfl) (by kernel_rfl) (by kernel_rfl) (by kernel_rfl) (fun _ _ _ h => h) (Or.inl ⟨by rfl, ?_⟩) hS0 ?_
        rotate_left
        · intro u hSu; obtain ⟨_, s0, s1, s2, s3, _⟩ := hSu; go_simp <;> with_reducible rfl
        simp only [Act.put, List.getElem_toArray, List.getElem_cons_zero, List.setIfInBounds_toArray, List.set_cons_zero, List.set_cons_succ]
        refine anyU_take (i := 1) (v := ?_) rfl (by kernel_rfl) (by kernel_rfl) (by kernel_rfl) (by kernel_rfl) (fun _ _ _ h => h) (Or.inl ⟨by rfl, ?_⟩) hS0 ?_
        rotate_left
        · intro u hSu; obtain ⟨_, s0, s1, s2, s3, _⟩ := hSu; go_simp <;> with_reducible rfl
        simp only [Act.put, List.getElem_toArray, List.getElem_cons_zero, List.getElem_cons_succ, List.setIfInBounds_toArray, List.set_cons_zero, List.set_cons_succ]
        refine anyU_take (i := 2) (v := ?_) rfl (by kernel_rfl) (by kernel_rfl) (by kernel_rfl) (by kernel_rfl) (fun _ _ _ h => h) (Or.inl ⟨by rfl, ?_⟩) hS0 ?_
        rotate_left
        · intro u hSu; obtain ⟨_, s0, s1, s2, s3, _⟩ := hSu; go_simp <;> with_reducible rfl
        simp only [Act.put, List.getElem_toArray, List.getElem_cons_zero, List.getElem_cons_succ, List.setIfInBounds_toArray, List.set_cons_zero, List.set_cons_succ]
        refine anyU_take (i := 3) (v := ?_) rfl (by kernel_rfl) (by kernel_rfl) (by kernel_rfl) (by kernel_rfl) (fun _ _ _ h => h) (Or.inl ⟨by rfl, ?_⟩) hS0 ?_
        rotate_left
        · intro u hSu; obtain ⟨_, s0, s1, s2, s3, _⟩ := hSu; go_simp <;> with_reducible rfl
        simp only [Act.put, List.getElem_toArray, List.getElem_cons_zero, List.getElem_cons_succ, List.setIfInBounds_toArray, List.set_cons_zero, List.set_cons_succ]
        refine anyU_take (i := 4) (v := ?_) rfl (by kernel_rfl) (by kernel_rfl) (by kernel_rfl) (by kernel_rfl) (fun _ _ _ h => h) (Or.inl ⟨by rfl, ?_⟩) hS0 ?_
        rotate_left
        · intro u hSu; obtain ⟨_, s0, s1, s2, s3, _⟩ := hSu; go_simp <;> with_reducible rfl
        simp only [Act.put, List.getElem_toArray, List.getElem_cons_zero, List.getElem_cons_succ, List.setIfInBounds_toArray, List.set_cons_zero, List.set_cons_succ]
        obtain ⟨_, d0, d1, d2, d3, d4, d5, d6, df_⟩ := id hRd
        refine anyU_one (i := 5) (by kernel_rfl) rfl (fun K hK => ?_)
        go_simp
        obtain ⟨hV9, hK9⟩ := hRd.put (.int .i64 0) (.int .i64 0) (.int .i64 0) (.int .i64 0) (.string ⟨#[]⟩) (.int .i64 0) (.slice none 0 0)
        refine hK.out _ _ (hS0.kept hK9 (by omega)) ?_
        clear hK
        have hS9 := hS0.kept hK9 (by omega)
        generalize (((((((wd.setCell ⟨w.heap.size + 1, 0, none⟩ (.int .i64 0)).setCell ⟨w.heap.size + 1, 1, none⟩ (.int .i64 0)).setCell ⟨w.heap.size + 1, 2, none⟩ (.int .i64 0)).setCell ⟨w.heap.size + 1, 3, none⟩ (.int .i64 0)).setCell ⟨w.heap.size + 1, 4, none⟩ (.string ⟨#[]⟩)).setCell ⟨w.heap.size + 1, 5, none⟩ (.int .i64 0)).setCell ⟨w.heap.size + 1, 6, none⟩ (.slice none 0 0)) = w9 at hV9 hK9 hS9 ⊢
        refine anyU_one (i := 6) (by kernel_rfl) rfl (fun K hK => ?_)
        go_simp
        refine hK.out _ _ hS9 ?_
        clear hK
        refine anyU_done (by kernel_rfl) ?_
        go_wp2
        obtain ⟨_, q0, q1, q2, q3, q4, q5, q6, _⟩ := id hV9
        exact bodyPost_ret (v := .tuple #[(TK.mk 0 0 zeroG).val none 0, .iface 132 (.agg #[.int .i64 2, .int .i64 k.gen])]) (by simp [results, Tryz.results50, go_sem, q0, q1, q2, q3, q4, q5, q6, zeroG]) rfl ⟨hAd.trans (hK9.below hAd.size (fun z hz e => by omega)), Or.inr ⟨by rw [ht'.out], by rw [ht'.out]⟩⟩
      | true =>
        have ht : d.takeT = ⟨0, k.gen, u⟩ := (if_neg (by rw [hok]; simp)).trans ((if_neg (by rw [← hk.out, hko]; simp)).trans ((if_neg (by rw [← hk.out, ← hbo.out]; simp)).trans (by rw [← hk.out, ← hu.out])))
        have ht' : Hid _ := ht
        clear ht hok hko
        go_wp2
        obtain ⟨hV9, hK9⟩ := hR6.put (.int .i64 0) (.int .i64 k.gen) (.int .i64 u.root.kind) (.int .i64 u.root.num) (.string u.root.text) (.int .i64 u.root.node) (.slice ua u.nodes.length uc)
        have hO9 := huO6.kept hK9 (fun j e hp => by have := (huO.nodes.lt j (by rw [e]; rfl)).1; omega) (fun x hx j e hp => by have := ((huO.vals x hx).lt j (by rw [e]; rfl)).1; omega)
        generalize (((((((w6.setCell ⟨w.heap.size + 1, 0, none⟩ (.int .i64 0)).setCell ⟨w.heap.size + 1, 1, none⟩ (.int .i64 k.gen)).setCell ⟨w.heap.size + 1, 2, none⟩ (.int .i64 u.root.kind)).setCell ⟨w.heap.size + 1, 3, none⟩ (.int .i64 u.root.num)).setCell ⟨w.heap.size + 1, 4, none⟩ (.string u.root.text)).setCell ⟨w.heap.size + 1, 5, none⟩ (.int .i64 u.root.node)).setCell ⟨w.heap.size + 1, 6, none⟩ (.slice ua u.nodes.length uc)) = w9 at hV9 hK9 hO9 ⊢
        obtain ⟨_, q0, q1, q2, q3, q4, q5, q6, _⟩ := id hV9
        exact bodyPost_ret (v := .tuple #[(TK.mk 0 k.gen u).val ua uc, .nilIface]) (by simp [results, Tryz.results50, go_sem, q0, q1, q2, q3, q4, q5, q6]) rfl ⟨hA6.trans (hK9.below hA6.size (fun z hz e => by omega)), Or.inl ⟨ua, uc, ul, by rw [ht'.out], by rw [ht'.out], by rw [ht'.out]; exact hul, hO9.le (by have := hb4.size; omega)⟩⟩

end Go.Proofs.YtmdpmdmilgbfiaaGreatDoor

/-
  TAKEC: Take. Own work.
-/
namespace Go.Proofs.YtmdpmdmilgbfiaaGreatDoor
open Go.RowKit

/-- what is taken up, in memory of its own -/
def TPo (t : TK) (w : World) (e : Ending) (w' : World) : Prop := ∃ na nc nl, e = .returned (t.val na nc) ∧ nl.map (·.n) = t.g.nodes ∧ OwnG w' w.heap.size na nc nl ∧ Below w.heap.size w w'

set_option maxHeartbeats 4000000 in
set_option maxRecDepth 100000 in
theorem implTake_any (d : DD) (l : DL) (w : World) (hd : d.Ok) (ha : DAt w l d) (hg : w.cell? ⟨0, 0, none⟩ = some (.iface 211 (.agg #[.pointer (some ⟨1, 80, none⟩)]))) : Calls Tryz.prog 17 #[d.val l] w (TPo d.takeT w) := by
  have hA := gal (gal (gre w) (.cells #[.slice l.ba d.blocks.length l.bc, .slice l.wa d.waiting.length l.wc] 46)) (.cells #[.int .i64 0, .int .i64 0, .int .i64 0, .int .i64 0, .string ⟨#[]⟩, .int .i64 0, .slice none 0 0] 34)
  have hX0 := (DBox.new w d l 46).grow (gal (gre _) (.cells #[.int .i64 0, .int .i64 0, .int .i64 0, .int .i64 0, .string ⟨#[]⟩, .int .i64 0, .slice none 0 0] 34))
  have hR0 := V7.new_at (w.alloc (.cells #[.slice l.ba d.blocks.length l.bc, .slice l.wa d.waiting.length l.wc] 46)) (.int .i64 0) (.int .i64 0) (.int .i64 0) (.int .i64 0) (.string ⟨#[]⟩) (.int .i64 0) (.slice none 0 0) 34 (w.heap.size + 1) (by simp)
  obtain ⟨t, ht⟩ := hid_ex d.takeT
  go_enter Tryz.func17, Tryz.ntmps17
  go_upto_region 1 with fail
  generalize (w.alloc (.cells #[.slice l.ba d.blocks.length l.bc, .slice l.wa d.waiting.length l.wc] 46)).alloc (.cells #[.int .i64 0, .int .i64 0, .int .i64 0, .int .i64 0, .string ⟨#[]⟩, .int .i64 0, .slice none 0 0] 34) = w1 at hA hX0 hR0 ⊢
  obtain ⟨_, x0, x1⟩ := id hX0
  have hR1l := hR0.lt
  have htu := takeUp_any d l w1 hd (ha.grow hA)
  unfold TUp at htu
  rw [← ht.out] at htu ⊢
  go_wp2_with (go_at_call 50; refine htu.mono ?_; rintro e w2 ⟨hb2, ⟨na, nc, nl, hc0, rfl, hnl, hO2⟩ | ⟨hz, rfl⟩⟩)
  · clear hc0
    refine (answered_nil t na nc w2).mono ?_
    rintro e w3 ⟨rfl, hb3⟩
    have hR3 := (hR0.grow hb2).grow hb3
    have hA3 := gca (gca hA hb2) hb3
    obtain ⟨_, r0, r1, r2, r3, r4, r5, r6, rf_⟩ := id hR3
    go_wp2
    obtain ⟨hV9, hK9⟩ := hR3.put (.int .i64 t.code) (.int .i64 t.gen) (.int .i64 t.g.root.kind) (.int .i64 t.g.root.num) (.string t.g.root.text) (.int .i64 t.g.root.node) (.slice na t.g.nodes.length nc)
    have hs12 := hb2.size
    have hO9 := (hO2.kept (Kept.of_below hb3 (fun _ => False)) (fun _ _ e => e) (fun _ _ _ _ e => e)).kept hK9 (fun j e hp => by have := (hO2.nodes.lt j (by rw [e]; rfl)).1; omega) (fun x hx j e hp => by have := ((hO2.vals x hx).lt j (by rw [e]; rfl)).1; omega)
    generalize (((((((w3.setCell ⟨w.heap.size + 1, 0, none⟩ (.int .i64 t.code)).setCell ⟨w.heap.size + 1, 1, none⟩ (.int .i64 t.gen)).setCell ⟨w.heap.size + 1, 2, none⟩ (.int .i64 t.g.root.kind)).setCell ⟨w.heap.size + 1, 3, none⟩ (.int .i64 t.g.root.num)).setCell ⟨w.heap.size + 1, 4, none⟩ (.string t.g.root.text)).setCell ⟨w.heap.size + 1, 5, none⟩ (.int .i64 t.g.root.node)).setCell ⟨w.heap.size + 1, 6, none⟩ (.slice na t.g.nodes.length nc)) = w9 at hV9 hK9 hO9 ⊢
    obtain ⟨_, q0, q1, q2, q3, q4, q5, q6, _⟩ := id hV9
    exact bodyPost_ret (v := t.val na nc) (by simp [results, Tryz.results17, go_sem, q0, q1, q2, q3, q4, q5, q6]) rfl (by rw [← ht.out]; exact ⟨na, nc, nl, rfl, hnl, hO9.le (by have := hA.size; omega), hA3.trans (hK9.below hA3.size (fun z hz e => by omega))⟩)
  · have hz' : Hid (t.g = zeroG) := hz
    clear hz
    refine (answered_hit ⟨0, 0, zeroG⟩ none 0 t.code t.gen w2 (cell_later (gca hA hb2) hg)).mono ?_
    rintro e w3 ⟨rfl, hb3⟩
    have hR3 := (hR0.grow hb2).grow hb3
    have hA3 := gca (gca hA hb2) hb3
    obtain ⟨_, r0, r1, r2, r3, r4, r5, r6, rf_⟩ := id hR3
    go_wp2
    obtain ⟨hV9, hK9⟩ := hR3.put (.int .i64 t.code) (.int .i64 t.gen) (.int .i64 zeroG.root.kind) (.int .i64 zeroG.root.num) (.string zeroG.root.text) (.int .i64 zeroG.root.node) (.slice none zeroG.nodes.length 0)
    generalize (((((((w3.setCell ⟨w.heap.size + 1, 0, none⟩ (.int .i64 t.code)).setCell ⟨w.heap.size + 1, 1, none⟩ (.int .i64 t.gen)).setCell ⟨w.heap.size + 1, 2, none⟩ (.int .i64 zeroG.root.kind)).setCell ⟨w.heap.size + 1, 3, none⟩ (.int .i64 zeroG.root.num)).setCell ⟨w.heap.size + 1, 4, none⟩ (.string zeroG.root.text)).setCell ⟨w.heap.size + 1, 5, none⟩ (.int .i64 zeroG.root.node)).setCell ⟨w.heap.size + 1, 6, none⟩ (.slice none zeroG.nodes.length 0)) = w9 at hV9 hK9 ⊢
    obtain ⟨_, q0, q1, q2, q3, q4, q5, q6, _⟩ := id hV9
    exact bodyPost_ret (v := t.val none 0) (by simp [results, Tryz.results17, go_sem, q0, q1, q2, q3, q4, q5, q6, hz'.out]) rfl (by rw [← ht.out]; exact ⟨none, 0, [], rfl, by rw [hz'.out]; rfl, own_nil _ _, hA3.trans (hK9.below hA3.size (fun z hz e => by omega))⟩)

end Go.Proofs.YtmdpmdmilgbfiaaGreatDoor

/-
  CANONS: the specification's Canon. Own work.
-/
namespace Go.Proofs.YtmdpmdmilgbfiaaGreatDoor
open Go.RowKit

/-- what the specification's Canon leaves -/
def CanonSPost (g : GG) (w : World) (e : Ending) (w' : World) : Prop :=
  ∃ (na : Option Addr) (nc : Nat), e = .returned ((canonZ g).val na nc) ∧ NodesAt w'.heap.size w' na (canonZ g).nodes ∧ Below w.heap.size w w'

set_option maxRecDepth 100000 in
theorem specCanonZ_any (a : Option Addr) (cap : Nat) (g : GG) (w : World) (hg : g.Ok) (ha : NodesAt w.heap.size w a g.nodes) :
    Calls Tryz.prog 23 #[g.val a cap] w (CanonSPost g w) := by
  have hR0 := Five.new_at (w.alloc (.cells #[.int .i64 g.root.kind, .int .i64 g.root.num, .string g.root.text, .int .i64 g.root.node, .slice a g.nodes.length cap] 32)) ⟨0, 0, ⟨#[]⟩, 0⟩ (.slice none 0 0) 32 (w.heap.size + 1) (by simp)
  have hX0 := (GBox.new w g a cap 32).grow (gal (gre _) (.cells #[.int .i64 0, .int .i64 0, .string ⟨#[]⟩, .int .i64 0, .slice none 0 0] 32))
  cases hok : okG g with
  | false =>
    have hz : Hid (canonZ g = ⟨⟨0, 0, ⟨#[]⟩, 0⟩, []⟩) := if_neg (by rw [hok]; exact Bool.false_ne_true)
    have hok' : Hid _ := hok
    go_enter Tryz.func23, Tryz.ntmps23
    go_wp2_with (go_at_call 48; refine (specGraphOk_any a cap g _ hg (ha.grow (gal (gal (gre _) _) _))).mono ?_; rintro e w1 ⟨rfl, hb1⟩; obtain ⟨rz, r0, r1, r2, r3, r4, rf⟩ := hR0.kept (Kept.of_below hb1 (fun _ => False)) (fun e => e); rw [hok'.out])
    refine bodyPost_ret (v := .agg #[.int .i64 0, .int .i64 0, .string ⟨#[]⟩, .int .i64 0, .slice none 0 0]) (by simp [results, Tryz.results23, go_sem, r0, r1, r2, r3, r4]) rfl ⟨none, 0, by rw [hz.out]; rfl, by rw [hz.out]; exact fun i hi => absurd hi (Nat.not_lt_zero _), ?_⟩
    have hb2 := gca (gal (gal (gre w) _) _) hb1
    exact ((((hb2.setCell (by simp) _).setCell (by simp) _).setCell (by simp) _).setCell (by simp) _).setCell (by simp) _
  | true =>
    have hz : Hid (canonZ g = canon g) := if_pos hok
    have hok' : Hid _ := hok
    go_enter Tryz.func23, Tryz.ntmps23
    go_wp2_with (first
      | (go_at_call 48; refine (specGraphOk_any a cap g _ hg (ha.grow (gal (gal (gre _) _) _))).mono ?_; rintro e w1 ⟨rfl, hb1⟩; obtain ⟨xz, x0, x1, x2, x3, x4⟩ := hX0.grow hb1; rw [hok'.out])
      | (go_at_call 61; refine (specCanon_new a cap g _ hok'.out (ha.grow (gca (gal (gal (gre _) _) _) hb1))).mono ?_; rintro e w3 ⟨na, nc, rfl, hn3, hb3⟩; have hR3 := hR0.kept (Kept.of_below (gca hb1 hb3) (fun _ => False)) (fun e => e); obtain ⟨rz, r0, r1, r2, r3, r4, rf⟩ := id hR3))
    have hC := (((((Kept.refl (fun b => b = w.heap.size + 1) w3).set (a := ⟨w.heap.size + 1, 0, none⟩) (fun _ => rfl) (.int .i64 (canon g).root.kind)).set (a := ⟨w.heap.size + 1, 1, none⟩) (fun _ => rfl) (.int .i64 (canon g).root.num)).set (a := ⟨w.heap.size + 1, 2, none⟩) (fun _ => rfl) (.string (canon g).root.text)).set (a := ⟨w.heap.size + 1, 3, none⟩) (fun _ => rfl) (.int .i64 (canon g).root.node)).set (a := ⟨w.heap.size + 1, 4, none⟩) (fun _ => rfl) (.slice na (canon g).nodes.length nc)
    have hw1 : w.heap.size + 1 + 1 ≤ w1.heap.size := by have h1 := hb1.size; simp at h1; omega
    have hN := hn3 _ _ hC (fun b hb => by omega)
    have hb4 := gca (gca (gal (gal (gre w) _) _) hb1) hb3
    refine bodyPost_ret (v := (canon g).val na nc) (by simp [results, Tryz.results23, go_sem, r0, r1, r2, r3, r4]) rfl ⟨na, nc, by rw [hz.out], by rw [hz.out]; exact hN, hb4.trans (hC.below hb4.size (fun k hk hp => by omega))⟩

end Go.Proofs.YtmdpmdmilgbfiaaGreatDoor

/-
  IBLANK: the program's Blank. Own work.
-/
namespace Go.Proofs.YtmdpmdmilgbfiaaGreatDoor
open Go.RowKit

set_option maxRecDepth 100000 in
theorem implBlank_any (w : World) : Calls Tryz.prog 25 #[] w (DPost blankD w) := by
  obtain ⟨Z, hZ⟩ := hid_ex driveZ.toArray
  have hz : ∀ u, (zeroValue 110).run Tryz.prog u = .ok (.agg Z) u := by rw [hZ.out]; exact (zero_of_info zero_drive).1
  have hw1 := gal (gre w) (.cells #[.slice none 0 0, .slice none 0 0] 46)
  have hs1 : (w.alloc (.cells #[.slice none 0 0, .slice none 0 0] 46)).heap.size = w.heap.size + 1 := by simp
  have r0 : (w.alloc (.cells #[.slice none 0 0, .slice none 0 0] 46)).cell? ⟨w.heap.size, 0, none⟩ = some (.slice none 0 0) := by simp
  have r1 : (w.alloc (.cells #[.slice none 0 0, .slice none 0 0] 46)).cell? ⟨w.heap.size, 1, none⟩ = some (.slice none 0 0) := by simp
  have rf : ∀ o, (w.alloc (.cells #[.slice none 0 0, .slice none 0 0] 46)).frozen? ⟨w.heap.size, o, none⟩ = false := fun o => by simp
  have hN0 := Drv.new (w.alloc (.cells #[.slice none 0 0, .slice none 0 0] 46))
  rw [← hZ.out, hs1] at hN0
  have hD0 : Dr _ (w.heap.size + 1) blankD.blocks none 0 [] .nilFunc := ⟨hN0, owns_none _ _ _ _, fun x hx => by cases hx⟩
  go_enter Tryz.func25, Tryz.ntmps25
  go_wp2_with (first
    | (refine wpList_alloc_big rfl 110 rfl Z hz ?_)
    | (go_at_call 57; refine (disk_any (w.heap.size + 1) blankD.blocks none 0 [] .nilFunc _ (by decide) hD0).mono ?_; rintro e w2 ⟨l, fa, ga, fc, gc, rfl, hmd, hb2⟩; have hb3 := gca (gal (gre _) (.cells Z 110)) hb2; have z0 := cell_later hb3 r0; have z1 := cell_later hb3 r1; have zf : ∀ o, w2.frozen? ⟨w.heap.size, o, none⟩ = false := (fun o => (hb3.frozen (p := ⟨w.heap.size, o, none⟩) (by show w.heap.size < _; omega)).trans (rf o))))
  obtain ⟨c0, c1, K⟩ := ret2 (A := .slice l.ba blankD.blocks.length l.bc) (B := .slice l.wa 0 l.wc) z0 z1
  refine bodyPost_ret (v := blankD.val l) (by simp [results, Tryz.results25, go_sem, c0, c1]; rfl) rfl ⟨l, fa, ga, fc, gc, rfl, MD.last (d := blankD) hmd K (by simp; omega) (by simp; omega) K.size, ?_⟩
  exact (gca hw1 hb3).trans (K.below (by have := hb3.size; omega) (fun z hz e => by omega))

end Go.Proofs.YtmdpmdmilgbfiaaGreatDoor

/-
  OPENB: what bytes that come in read as. Own work.
-/
namespace Go.Proofs.YtmdpmdmilgbfiaaGreatDoor
open Go.RowKit Go.ChangeShapes Go.WideShapes Go.Deep

set_option maxRecDepth 100000 in
theorem cellsU8 : Tryz.prog.cellsOf 5 = 1 := by kernel_rfl

theorem byte_of_wf {x : Int} (h : (Lit.int .u8 x).wf = true) : 0 ≤ x ∧ x < 256 := by
  simp [Lit.wf, IntKind.min, IntKind.max, IntKind.signed, IntKind.bits] at h
  omega

section
variable {H : Type} {enc : TypeId × Value → H} {w : World} {base : Nat} {held : Bool}

set_option maxRecDepth 100000 in
theorem openBytes {v : Value} {d : DataW H} {ps : List MemPlace} {r : Reach} {bd : Nat} (hv : Value.okWide Tryz.prog w r bd 22 v) (h : DataW.Trod enc Tryz.prog w base (fun _ => true) held 22 v d ps) :
    ∃ (bs : List Nat) (a : Option Addr) (cap : Nat), v = .slice a bs.length cap ∧ bs.length ≤ cap ∧ bs.length ≤ maxLen ∧ (∀ x, x ∈ bs → x < 256) ∧ BytesAt w a bs := by
  obtain ⟨fuel, h⟩ := h
  have hcs : v.cells.toList = [v] := by
    cases v <;> first | rfl | (exfalso; simp [Value.okWide, Cell.okWide, Cell.ok, Tryz.underlying22] at hv)
  rw [hcs] at h
  rcases open_ints Tryz.underlying22 Tryz.underlying5 cellsU8 h with ⟨e, _⟩ | ⟨a, len, cap, zs, e, _, hlc, hcm, hzl, _, hcell, hwf⟩
  · simp at e
    subst e
    exact ⟨[], none, 0, rfl, Nat.le_refl _, Nat.zero_le _, fun x hx => (by cases hx), fun i hi => absurd hi (Nat.not_lt_zero _)⟩
  · simp at e
    subst e
    simp at hzl
    have hl : ((zs.take len).map Int.toNat).length = len := by rw [List.length_map, List.length_take]; omega
    refine ⟨(zs.take len).map Int.toNat, some a, cap, by rw [hl], by omega, by omega, fun x hx => ?_, fun i hi => ?_⟩
    · obtain ⟨z, hz, rfl⟩ := List.mem_map.1 hx
      have := byte_of_wf (hwf z (List.mem_of_mem_take hz))
      omega
    · rw [hl] at hi
      have h1 := hcell i (by omega)
      obtain ⟨b, off, sp⟩ := a
      have h0 := hcell 0 (by omega)
      have hsp : sp = none := by simpa [Addr.add] using World.cell?_spot h0
      subst hsp
      refine ⟨b, off, rfl, ?_⟩
      have e1 : (⟨b, off, none⟩ : Addr).add i = ⟨b, off + i, none⟩ := by unfold Addr.add; simp
      rw [e1] at h1
      rw [h1]
      have h2 := byte_of_wf (hwf zs[i] (List.getElem_mem (by omega)))
      rw [getElem!_pos _ i (by rw [hl]; exact hi)]
      have e2 : ((zs.take len).map Int.toNat)[i]'(by rw [hl]; exact hi) = (zs[i]'(by omega)).toNat := by simp
      rw [e2]
      have e3 : zs.getD i 0 = zs[i]'(by omega) := by simp [List.getD, List.getElem?_eq_getElem (show i < zs.length by omega)]
      rw [e3]
      congr 2
      omega
end

end Go.Proofs.YtmdpmdmilgbfiaaGreatDoor
