import Derived.Test.YthjddpkegooobacGreatPartL

/-
  INEWEST: the program's Newest. Own work.
-/
namespace Go.Proofs.YthjddpkegooobacGreat
open Go.RowKit

/-- what is kept in a slot, as the program hands it back -/
def KMPost (k : KK) (w : World) (e : Ending) (w' : World) : Prop := ∃ oa c, e = .returned (k.val oa c) ∧ MB w' w.heap.size oa k.bytes ∧ Below w.heap.size w w'
theorem KMPost.no {w w' : World} (h : Below w.heap.size w w') : KMPost noK w (.returned (.agg #[.bool false, .int .i64 0, .int .i64 0, .slice none 0 0])) w' := ⟨none, 0, rfl, Or.inl rfl, h⟩

theorem anyU_skipH {P : Program} {ops : Array Oper} {Q : Exit → Act → World → Prop} {md : Region.Mode} {S : World → Prop} {lst : Nat} {i : Nat} {o : Oper} {fuel : Nat} {listed : Array Bool} {a : Act} {w : World} (hr : Region.ready md ops listed = [i]) (ho : ops[i]? = some o)
    (hw : Region.wanted o (yielded ops a.tmps) = false) (hS : S w) (h : anyU P md ops Q S lst fuel (listed.setIfInBounds i true) (a.put o.dst undef) w) : anyU P md ops Q S lst (fuel + 1) listed a w :=
  anyU_one hr ho (fun K hK => by rw [if_neg (by rw [hw]; exact Bool.false_ne_true)]; exact hK.out _ _ hS h)
theorem MB.kept4 {p : Nat → Prop} {w w' : World} {lo : Nat} {oa : Option Addr} {ys : List Nat} (h : MB w lo oa ys) (k : Kept p w w') (hp : ∀ b, lo ≤ b → b < w.heap.size → ¬ p b) : MB w' lo oa ys := by
  rcases h with rfl | ⟨G, n, rfl, hG, hB⟩
  · exact Or.inl rfl
  · exact Or.inr ⟨G, n, rfl, hG, hB.kept k (hp G hG hB.lt)⟩

set_option maxHeartbeats 1000000 in
set_option maxRecDepth 100000 in
theorem kept_any (p m : Nat) (d : DD) (pa : Option Addr) (pc : Nat) (kv : Value) (w : World) (hm : m < 2) (hf : d.Fit) (ho : d.Ok) (hDr : Dr w p d.blocks pa pc d.waiting kv) :
    Calls Tryz.prog 87 #[.agg #[.pointer (some ⟨p, 0, none⟩), .int .i64 (m : Int)]] w (KMPost (d.slotOf m) w) := by
  have hA := gal (gal (gre w) (.cells #[.pointer (some ⟨p, 0, none⟩), .int .i64 (m : Int)] 131)) (.cells #[.bool false, .int .i64 0, .int .i64 0, .slice none 0 0] 87)
  have hS0 := (SV.new w p m 131).grow (gal (gre _) (.cells #[.bool false, .int .i64 0, .int .i64 0, .slice none 0 0] 87))
  have hR0 := V4.new_at (w.alloc (.cells #[.pointer (some ⟨p, 0, none⟩), .int .i64 (m : Int)] 131)) (.bool false) (.int .i64 0) (.int .i64 0) (.slice none 0 0) 87 (w.heap.size + 1) (by simp)
  obtain ⟨h, hh⟩ := hid_ex (headOf (d.rd m))
  rcases headOf_cases (d.rd m) with hi | hi
  · rw [← hh.out] at hi
    obtain ⟨ok, gen, len, sum⟩ := h
    obtain ⟨rfl, hrng, hsum, heq⟩ := hi
    have hr := rng_i64 hrng
    simp only at hr
    obtain ⟨n, rfl⟩ : ∃ n : Nat, len = (n : Int) := ⟨len.toNat, by omega⟩
    clear hrng heq
    obtain ⟨img, himg⟩ := hid_ex (d.img m n)
    have hsl : Hid (d.slotOf m = if wrap64 (sumN img : Int) = sum then ⟨true, gen, (m : Int), img⟩ else noK) := by
      show _ = _
      unfold DD.slotOf
      rw [← hh.out, himg.out]
      simp
    go_enter Tryz.func87, Tryz.ntmps87
    go_upto_region 2 with (go_at_call 112; refine (head_any p m d.blocks pa pc d.waiting kv (d.rd m) _ (by omega) (by have := hf.wl; omega) rfl (DD.rd_len hf (by omega)) (DD.rd_byte hf ho (by omega)) (hDr.grow hA)).mono ?_; rw [← hh.out]; rintro e w1 ⟨rfl, hb1⟩)
    have hHb := HBox.new w1 true gen (n : Int) sum 92
    have hb2 := gal hb1 (.cells #[.bool true, .int .i64 gen, .int .i64 (n : Int), .int .i64 sum] 92)
    have hS2 := hS0.grow hb2
    have hR2 := hR0.grow hb2
    have hA2 := gca hA hb2
    have hRl := (hR0.grow hb1).lt
    generalize w1.alloc (.cells #[.bool true, .int .i64 gen, .int .i64 (n : Int), .int .i64 sum] 92) = w2 at hHb hb2 hS2 hR2 hA2 ⊢
    generalize w1.heap.size = H at hHb hRl ⊢
    clear hb1 hb2 hS0 hR0 hA
    obtain ⟨_, s0, s1⟩ := id hS2
    obtain ⟨_, p0, p1, p2, p3⟩ := id hHb
    go_upto_region 3 with (go_at_call 113; refine (image_any p m n d pa pc kv _ hm (by omega) hf ho (hDr.grow hA2)).mono ?_; rw [← himg.out]; rintro e w3 ⟨oa, c, rfl, hM, hb3⟩)
    have hS3 := hS2.grow hb3
    have hR3 := hR2.grow hb3
    have hH3 := hHb.kept (Kept.of_below hb3 (fun _ => False)) (fun e => e)
    have hA3 := gca hA2 hb3
    have hMt : BytesAt w3 oa img := hM.atH
    have hil : Hid (img.length = n) := by show _ = _; rw [himg.out]; exact DD.img_len hf hm (by omega)
    have hib : ∀ x, x ∈ img → x < 256 := by rw [himg.out]; exact DD.img_byte hf ho hm
    have hRs : w.heap.size + 1 < w2.heap.size := by have := hHb.lt; omega
    clear s0 s1 p0 p1 p2 p3
    by_cases t : wrap64 (sumN img : Int) = sum
    · have t' : (wrap64 (sumN img : Int) != sum) = false := by rw [t]; simp
      have t2 : (IntKind.i64.wrap (sumN img : Int) != sum) = false := by rw [← wrap64_eq, t]; simp
      have hsl2 : Hid (d.slotOf m = ⟨true, gen, (m : Int), img⟩) := hsl.out.trans (if_pos t)
      clear t
      have hB : Below w3.heap.size w3 w3.drew := gdr (gre _)
      refine wp_regionU (fun u => HBox u H true gen (n : Int) sum) 99 (by kernel_rfl) (hH3.kept (Kept.of_below hB (fun _ => False)) (fun e => e)) (fun _ => ?_)
      refine anyU_take (i := 0) (v := ?_) rfl (by kernel_rfl) (by kernel_rfl) (by kernel_rfl) (by kernel_rfl) (fun _ _ _ h => h) (Or.inl ⟨by rfl, ?_⟩) (hH3.kept (Kept.of_below hB (fun _ => False)) (fun e => e)) ?_
      rotate_left
      · intro u hSu; (try dsimp only at hSu); go_simp <;> with_reducible rfl
      simp only [Act.put, List.getElem_toArray, List.getElem_cons_zero, List.setIfInBounds_toArray, List.set_cons_zero, List.set_cons_succ]
      refine anyU_take (i := 1) (v := ?_) rfl (by kernel_rfl) (by kernel_rfl) (by kernel_rfl) (by kernel_rfl) (fun _ _ _ h => h) (Or.inl ⟨by rfl, ?_⟩) (hH3.kept (Kept.of_below hB (fun _ => False)) (fun e => e)) ?_
      rotate_left
      · intro u hSu; obtain ⟨_, s0, s1, s2, s3⟩ := hSu; go_simp <;> with_reducible rfl
      simp only [Act.put, List.getElem_toArray, List.getElem_cons_zero, List.getElem_cons_succ, List.setIfInBounds_toArray, List.set_cons_zero, List.set_cons_succ]
      refine anyU_take (i := 2) (v := ?_) rfl (by kernel_rfl) (by kernel_rfl) (by kernel_rfl) (by kernel_rfl) (fun _ _ _ h => h) (Or.inl ⟨by rfl, ?_⟩) (hH3.kept (Kept.of_below hB (fun _ => False)) (fun e => e)) ?_
      rotate_left
      · intro u hSu; (try dsimp only at hSu); go_simp <;> with_reducible rfl
      simp only [Act.put, List.getElem_toArray, List.getElem_cons_zero, List.getElem_cons_succ, List.setIfInBounds_toArray, List.set_cons_zero, List.set_cons_succ]
      refine anyU_take (i := 3) (v := ?_) rfl (by kernel_rfl) (by kernel_rfl) (by kernel_rfl) (by kernel_rfl) (fun _ _ _ h => h) (Or.inl ⟨by rfl, ?_⟩) (hH3.kept (Kept.of_below hB (fun _ => False)) (fun e => e)) ?_
      rotate_left
      · intro u hSu; (try dsimp only at hSu); go_simp <;> with_reducible rfl
      simp only [Act.put, List.getElem_toArray, List.getElem_cons_zero, List.getElem_cons_succ, List.setIfInBounds_toArray, List.set_cons_zero, List.set_cons_succ]
      refine anyU_take (i := 4) (v := ?_) rfl (by kernel_rfl) (by kernel_rfl) (by kernel_rfl) (by kernel_rfl) (fun _ _ _ h => h) (Or.inl ⟨by rfl, ?_⟩) (hH3.kept (Kept.of_below hB (fun _ => False)) (fun e => e)) ?_
      rotate_left
      · intro u hSu; (try dsimp only at hSu); go_simp <;> with_reducible rfl
      simp only [Act.put, List.getElem_toArray, List.getElem_cons_zero, List.getElem_cons_succ, List.setIfInBounds_toArray, List.set_cons_zero, List.set_cons_succ]
      refine anyU_take (i := 6) (v := ?_) rfl (by kernel_rfl) (by kernel_rfl) (by kernel_rfl) (by kernel_rfl) (fun _ _ _ h => h) (Or.inl ⟨by rfl, ?_⟩) (hH3.kept (Kept.of_below hB (fun _ => False)) (fun e => e)) ?_
      rotate_left
      · intro u hSu; (try dsimp only at hSu); go_simp <;> with_reducible rfl
      simp only [Act.put, List.getElem_toArray, List.getElem_cons_zero, List.getElem_cons_succ, List.setIfInBounds_toArray, List.set_cons_zero, List.set_cons_succ]
      refine anyU_take (i := 7) (v := ?_) rfl (by kernel_rfl) (by kernel_rfl) (by kernel_rfl) (by kernel_rfl) (fun _ _ _ h => h) (Or.inl ⟨by rfl, ?_⟩) (hH3.kept (Kept.of_below hB (fun _ => False)) (fun e => e)) ?_
      rotate_left
      · intro u hSu; obtain ⟨_, s0, s1, s2, s3⟩ := hSu; go_simp <;> with_reducible rfl
      simp only [Act.put, List.getElem_toArray, List.getElem_cons_zero, List.getElem_cons_succ, List.setIfInBounds_toArray, List.set_cons_zero, List.set_cons_succ]
      refine anyU_one (i := 5) (by kernel_rfl) rfl (fun K hK => ?_)
      go_simp
      refine (calls_argsS (implSumOf_any oa img c _ (hMt.grow hB) (by rw [hil.out]; unfold maxLen; omega) hib) (by rw [hil.out])).mono ?_
      rintro e w4 ⟨rfl, hb4⟩
      have hB := gca hB hb4
      refine hK.out _ _ (hH3.kept (Kept.of_below hB (fun _ => False)) (fun e => e)) ?_
      clear hK
      refine anyU_one (i := 8) (by kernel_rfl) rfl (fun K hK => ?_)
      go_simp
      refine hK.out _ _ (hH3.kept (Kept.of_below hB (fun _ => False)) (fun e => e)) ?_
      clear hK
      refine anyU_one (i := 9) (by kernel_rfl) rfl (fun K hK => ?_)
      go_simp
      refine hK.out _ _ (hH3.kept (Kept.of_below hB (fun _ => False)) (fun e => e)) ?_
      clear hK
      refine anyU_done (by kernel_rfl) ?_
      have hR4 := hR3.grow hB
      have hS4 := hS3.grow hB
      have hH4 := hH3.kept (Kept.of_below hB (fun _ => False)) (fun e => e)
      have hA4 := gca hA3 hB
      have hM4 := hM.kept4 (Kept.of_below hB (fun _ => False)) (fun _ _ _ e => e)
      obtain ⟨_, z0, z1, z2, z3, zf⟩ := id hR4
      obtain ⟨_, s0, s1⟩ := id hS4
      obtain ⟨_, p0, p1, p2, p3⟩ := id hH4
      go_upto_region 99 with fail
      obtain ⟨r0, r1, r2, r3, K⟩ := retV4 hR4 (.bool true) (.int .i64 gen) (.int .i64 (m : Int)) (.slice oa n c)
      refine bodyPost_ret (v := .agg #[.bool true, .int .i64 gen, .int .i64 (m : Int), .slice oa n c]) (by simp [results, Tryz.results87, go_sem, r0, r1, r2, r3]) rfl ?_
      rw [hsl2.out]
      refine ⟨oa, c, by rw [show n = img.length from hil.out.symm], ?_, hA4.trans (K.below (B := w.heap.size) hA4.size (fun k hk e => by omega))⟩
      exact (hM4.kept4 K (fun b h1 h2 e => by omega)).leH (by omega)
    · have t' : (wrap64 (sumN img : Int) != sum) = true := by simpa using t
      have t2 : (IntKind.i64.wrap (sumN img : Int) != sum) = true := by rw [← wrap64_eq]; simpa using t
      have hsl2 : Hid (d.slotOf m = noK) := hsl.out.trans (if_neg t)
      clear t
      have hB : Below w3.heap.size w3 w3.drew := gdr (gre _)
      refine wp_regionU (fun u => HBox u H true gen (n : Int) sum) 99 (by kernel_rfl) (hH3.kept (Kept.of_below hB (fun _ => False)) (fun e => e)) (fun _ => ?_)
      refine anyU_take (i := 0) (v := ?_) rfl (by kernel_rfl) (by kernel_rfl) (by kernel_rfl) (by kernel_rfl) (fun _ _ _ h => h) (Or.inl ⟨by rfl, ?_⟩) (hH3.kept (Kept.of_below hB (fun _ => False)) (fun e => e)) ?_
      rotate_left
      · intro u hSu; (try dsimp only at hSu); go_simp <;> with_reducible rfl
      simp only [Act.put, List.getElem_toArray, List.getElem_cons_zero, List.setIfInBounds_toArray, List.set_cons_zero, List.set_cons_succ]
      refine anyU_take (i := 1) (v := ?_) rfl (by kernel_rfl) (by kernel_rfl) (by kernel_rfl) (by kernel_rfl) (fun _ _ _ h => h) (Or.inl ⟨by rfl, ?_⟩) (hH3.kept (Kept.of_below hB (fun _ => False)) (fun e => e)) ?_
      rotate_left
      · intro u hSu; obtain ⟨_, s0, s1, s2, s3⟩ := hSu; go_simp <;> with_reducible rfl
      simp only [Act.put, List.getElem_toArray, List.getElem_cons_zero, List.getElem_cons_succ, List.setIfInBounds_toArray, List.set_cons_zero, List.set_cons_succ]
      refine anyU_take (i := 2) (v := ?_) rfl (by kernel_rfl) (by kernel_rfl) (by kernel_rfl) (by kernel_rfl) (fun _ _ _ h => h) (Or.inl ⟨by rfl, ?_⟩) (hH3.kept (Kept.of_below hB (fun _ => False)) (fun e => e)) ?_
      rotate_left
      · intro u hSu; (try dsimp only at hSu); go_simp <;> with_reducible rfl
      simp only [Act.put, List.getElem_toArray, List.getElem_cons_zero, List.getElem_cons_succ, List.setIfInBounds_toArray, List.set_cons_zero, List.set_cons_succ]
      refine anyU_take (i := 3) (v := ?_) rfl (by kernel_rfl) (by kernel_rfl) (by kernel_rfl) (by kernel_rfl) (fun _ _ _ h => h) (Or.inl ⟨by rfl, ?_⟩) (hH3.kept (Kept.of_below hB (fun _ => False)) (fun e => e)) ?_
      rotate_left
      · intro u hSu; (try dsimp only at hSu); go_simp <;> with_reducible rfl
      simp only [Act.put, List.getElem_toArray, List.getElem_cons_zero, List.getElem_cons_succ, List.setIfInBounds_toArray, List.set_cons_zero, List.set_cons_succ]
      refine anyU_take (i := 4) (v := ?_) rfl (by kernel_rfl) (by kernel_rfl) (by kernel_rfl) (by kernel_rfl) (fun _ _ _ h => h) (Or.inl ⟨by rfl, ?_⟩) (hH3.kept (Kept.of_below hB (fun _ => False)) (fun e => e)) ?_
      rotate_left
      · intro u hSu; (try dsimp only at hSu); go_simp <;> with_reducible rfl
      simp only [Act.put, List.getElem_toArray, List.getElem_cons_zero, List.getElem_cons_succ, List.setIfInBounds_toArray, List.set_cons_zero, List.set_cons_succ]
      refine anyU_take (i := 6) (v := ?_) rfl (by kernel_rfl) (by kernel_rfl) (by kernel_rfl) (by kernel_rfl) (fun _ _ _ h => h) (Or.inl ⟨by rfl, ?_⟩) (hH3.kept (Kept.of_below hB (fun _ => False)) (fun e => e)) ?_
      rotate_left
      · intro u hSu; (try dsimp only at hSu); go_simp <;> with_reducible rfl
      simp only [Act.put, List.getElem_toArray, List.getElem_cons_zero, List.getElem_cons_succ, List.setIfInBounds_toArray, List.set_cons_zero, List.set_cons_succ]
      refine anyU_take (i := 7) (v := ?_) rfl (by kernel_rfl) (by kernel_rfl) (by kernel_rfl) (by kernel_rfl) (fun _ _ _ h => h) (Or.inl ⟨by rfl, ?_⟩) (hH3.kept (Kept.of_below hB (fun _ => False)) (fun e => e)) ?_
      rotate_left
      · intro u hSu; obtain ⟨_, s0, s1, s2, s3⟩ := hSu; go_simp <;> with_reducible rfl
      simp only [Act.put, List.getElem_toArray, List.getElem_cons_zero, List.getElem_cons_succ, List.setIfInBounds_toArray, List.set_cons_zero, List.set_cons_succ]
      refine anyU_one (i := 5) (by kernel_rfl) rfl (fun K hK => ?_)
      go_simp
      refine (calls_argsS (implSumOf_any oa img c _ (hMt.grow hB) (by rw [hil.out]; unfold maxLen; omega) hib) (by rw [hil.out])).mono ?_
      rintro e w4 ⟨rfl, hb4⟩
      have hB := gca hB hb4
      refine hK.out _ _ (hH3.kept (Kept.of_below hB (fun _ => False)) (fun e => e)) ?_
      clear hK
      refine anyU_one (i := 8) (by kernel_rfl) rfl (fun K hK => ?_)
      go_simp
      refine hK.out _ _ (hH3.kept (Kept.of_below hB (fun _ => False)) (fun e => e)) ?_
      clear hK
      refine anyU_one (i := 9) (by kernel_rfl) rfl (fun K hK => ?_)
      go_simp
      refine hK.out _ _ (hH3.kept (Kept.of_below hB (fun _ => False)) (fun e => e)) ?_
      clear hK
      refine anyU_done (by kernel_rfl) ?_
      have hR4 := hR3.grow hB
      have hS4 := hS3.grow hB
      have hH4 := hH3.kept (Kept.of_below hB (fun _ => False)) (fun e => e)
      have hA4 := gca hA3 hB
      have hM4 := hM.kept4 (Kept.of_below hB (fun _ => False)) (fun _ _ _ e => e)
      obtain ⟨_, z0, z1, z2, z3, zf⟩ := id hR4
      obtain ⟨_, s0, s1⟩ := id hS4
      obtain ⟨_, p0, p1, p2, p3⟩ := id hH4
      go_upto_region 99 with fail
      obtain ⟨r0, r1, r2, r3, K⟩ := retV4 hR4 (.bool false) (.int .i64 0) (.int .i64 0) (.slice none 0 0)
      exact bodyPost_ret (v := noK.val none 0) (by simp [results, Tryz.results87, go_sem, r0, r1, r2, r3, noK]) rfl (by rw [hsl2.out]; exact KMPost.no (hA4.trans (K.below (B := w.heap.size) hA4.size (fun k hk e => by omega))))
  · rw [show d.slotOf m = noK from if_neg (fun e => by rw [hi] at e; cases e.1)]
    go_enter Tryz.func87, Tryz.ntmps87
    go_upto_region 2 with (go_at_call 112; refine (head_any p m d.blocks pa pc d.waiting kv (d.rd m) _ (by omega) (by have := hf.wl; omega) rfl (DD.rd_len hf (by omega)) (DD.rd_byte hf ho (by omega)) (hDr.grow hA)).mono ?_; rw [hi]; rintro e w1 ⟨rfl, hb1⟩)
    have hHb := HBox.new w1 false 0 0 0 92
    have hb2 := gal hb1 (.cells #[.bool false, .int .i64 0, .int .i64 0, .int .i64 0] 92)
    have hS2 := hS0.grow hb2
    have hR2 := hR0.grow hb2
    have hA2 := gca hA hb2
    have hRl := (hR0.grow hb1).lt
    generalize w1.alloc (.cells #[.bool false, .int .i64 0, .int .i64 0, .int .i64 0] 92) = w2 at hHb hb2 hS2 hR2 hA2 ⊢
    generalize w1.heap.size = H at hHb hRl ⊢
    clear hb1 hb2 hS0 hR0 hA
    obtain ⟨_, s0, s1⟩ := id hS2
    obtain ⟨_, p0, p1, p2, p3⟩ := id hHb
    go_upto_region 3 with (go_at_call 113; refine (image_any p m 0 d pa pc kv _ hm (by omega) hf ho (hDr.grow hA2)).mono ?_; rintro e w3 ⟨oa, c, rfl, hM, hb3⟩)
    have hR3 := hR2.grow hb3
    have hH3 := hHb.kept (Kept.of_below hb3 (fun _ => False)) (fun e => e)
    have hA3 := gca hA2 hb3
    clear s0 s1 p0 p1 p2 p3
    have hB : Below w3.heap.size w3 w3.drew := gdr (gre _)
    refine wp_regionU (fun u => HBox u H false 0 0 0) 99 (by kernel_rfl) (hH3.kept (Kept.of_below hB (fun _ => False)) (fun e => e)) (fun _ => ?_)
    refine anyU_take (i := 0) (v := ?_) rfl (by kernel_rfl) (by kernel_rfl) (by kernel_rfl) (by kernel_rfl) (fun _ _ _ h => h) (Or.inl ⟨by rfl, ?_⟩) (hH3.kept (Kept.of_below hB (fun _ => False)) (fun e => e)) ?_
    rotate_left
    · intro u hSu; (try dsimp only at hSu); go_simp <;> with_reducible rfl
    simp only [Act.put, List.getElem_toArray, List.getElem_cons_zero, List.setIfInBounds_toArray, List.set_cons_zero, List.set_cons_succ]
    refine anyU_take (i := 1) (v := ?_) rfl (by kernel_rfl) (by kernel_rfl) (by kernel_rfl) (by kernel_rfl) (fun _ _ _ h => h) (Or.inl ⟨by rfl, ?_⟩) (hH3.kept (Kept.of_below hB (fun _ => False)) (fun e => e)) ?_
    rotate_left
    · intro u hSu; obtain ⟨_, s0, s1, s2, s3⟩ := hSu; go_simp <;> with_reducible rfl
    simp only [Act.put, List.getElem_toArray, List.getElem_cons_zero, List.getElem_cons_succ, List.setIfInBounds_toArray, List.set_cons_zero, List.set_cons_succ]
    refine anyU_take (i := 2) (v := ?_) rfl (by kernel_rfl) (by kernel_rfl) (by kernel_rfl) (by kernel_rfl) (fun _ _ _ h => h) (Or.inl ⟨by rfl, ?_⟩) (hH3.kept (Kept.of_below hB (fun _ => False)) (fun e => e)) ?_
    rotate_left
    · intro u hSu; (try dsimp only at hSu); go_simp <;> with_reducible rfl
    simp only [Act.put, List.getElem_toArray, List.getElem_cons_zero, List.getElem_cons_succ, List.setIfInBounds_toArray, List.set_cons_zero, List.set_cons_succ]
    refine anyU_take (i := 3) (v := ?_) rfl (by kernel_rfl) (by kernel_rfl) (by kernel_rfl) (by kernel_rfl) (fun _ _ _ h => h) (Or.inl ⟨by rfl, ?_⟩) (hH3.kept (Kept.of_below hB (fun _ => False)) (fun e => e)) ?_
    rotate_left
    · intro u hSu; (try dsimp only at hSu); go_simp <;> with_reducible rfl
    simp only [Act.put, List.getElem_toArray, List.getElem_cons_zero, List.getElem_cons_succ, List.setIfInBounds_toArray, List.set_cons_zero, List.set_cons_succ]
    refine anyU_take (i := 4) (v := undef) rfl (by kernel_rfl) (by kernel_rfl) (by kernel_rfl) (by kernel_rfl) (fun _ _ _ h => h) (Or.inr ⟨by rfl, rfl⟩) (hH3.kept (Kept.of_below hB (fun _ => False)) (fun e => e)) ?_
    simp only [Act.put, List.getElem_toArray, List.getElem_cons_zero, List.getElem_cons_succ, List.setIfInBounds_toArray, List.set_cons_zero, List.set_cons_succ]
    refine anyU_take (i := 6) (v := undef) rfl (by kernel_rfl) (by kernel_rfl) (by kernel_rfl) (by kernel_rfl) (fun _ _ _ h => h) (Or.inr ⟨by rfl, rfl⟩) (hH3.kept (Kept.of_below hB (fun _ => False)) (fun e => e)) ?_
    simp only [Act.put, List.getElem_toArray, List.getElem_cons_zero, List.getElem_cons_succ, List.setIfInBounds_toArray, List.set_cons_zero, List.set_cons_succ]
    refine anyU_take (i := 7) (v := undef) rfl (by kernel_rfl) (by kernel_rfl) (by kernel_rfl) (by kernel_rfl) (fun _ _ _ h => h) (Or.inr ⟨by rfl, rfl⟩) (hH3.kept (Kept.of_below hB (fun _ => False)) (fun e => e)) ?_
    simp only [Act.put, List.getElem_toArray, List.getElem_cons_zero, List.getElem_cons_succ, List.setIfInBounds_toArray, List.set_cons_zero, List.set_cons_succ]
    refine anyU_skipH (i := 5) (by kernel_rfl) rfl (by rfl) (hH3.kept (Kept.of_below hB (fun _ => False)) (fun e => e)) ?_
    simp only [Act.put, List.getElem_toArray, List.getElem_cons_zero, List.getElem_cons_succ, List.setIfInBounds_toArray, List.set_cons_zero, List.set_cons_succ]
    refine anyU_skipH (i := 8) (by kernel_rfl) rfl (by rfl) (hH3.kept (Kept.of_below hB (fun _ => False)) (fun e => e)) ?_
    simp only [Act.put, List.getElem_toArray, List.getElem_cons_zero, List.getElem_cons_succ, List.setIfInBounds_toArray, List.set_cons_zero, List.set_cons_succ]
    refine anyU_one (i := 9) (by kernel_rfl) rfl (fun K hK => ?_)
    go_simp
    refine hK.out _ _ (hH3.kept (Kept.of_below hB (fun _ => False)) (fun e => e)) ?_
    clear hK
    refine anyU_done (by kernel_rfl) ?_
    have hR4 := hR3.grow hB
    have hA4 := gca hA3 hB
    generalize w3.drew = w4 at hB hR4 hA4 ⊢
    obtain ⟨_, z0, z1, z2, z3, zf⟩ := id hR4
    go_upto_region 99 with fail
    obtain ⟨r0, r1, r2, r3, K⟩ := retV4 hR4 (.bool false) (.int .i64 0) (.int .i64 0) (.slice none 0 0)
    refine bodyPost_ret (v := .agg #[.bool false, .int .i64 0, .int .i64 0, .slice none 0 0]) (by simp [results, Tryz.results87, go_sem, r0, r1, r2, r3]) rfl ?_
    exact KMPost.no (hA4.trans (K.below (B := w.heap.size) hA4.size (fun k hk e => by omega)))

end Go.Proofs.YthjddpkegooobacGreat

/-
  INEWEST2: the program's Newest, whole. Own work.
-/
namespace Go.Proofs.YthjddpkegooobacGreat
open Go.RowKit

theorem V4.put {w : World} {R : Nat} {a b c d : Value} (h : V4 w R a b c d) (A B C D : Value) : V4 ((((w.setCell ⟨R, 0, none⟩ A).setCell ⟨R, 1, none⟩ B).setCell ⟨R, 2, none⟩ C).setCell ⟨R, 3, none⟩ D) R A B C D := by
  obtain ⟨r0, r1, r2, r3, K⟩ := retV4 h A B C D
  refine ⟨Nat.lt_of_lt_of_le h.lt K.size, ?_, ?_, ?_, r3, fun o => ?_⟩
  · rw [World.cell?_setCell_other _ _ _ _ (by simp), World.cell?_setCell_other _ _ _ _ (by simp), World.cell?_setCell_other _ _ _ _ (by simp)]; exact r0
  · rw [World.cell?_setCell_other _ _ _ _ (by simp), World.cell?_setCell_other _ _ _ _ (by simp)]; exact r1
  · rw [World.cell?_setCell_other _ _ _ _ (by simp)]; exact r2
  · rw [World.frozen?_setCell, World.frozen?_setCell, World.frozen?_setCell, World.frozen?_setCell]; exact h.f o

/-- the best of the first slots -/
def DD.best (d : DD) : Nat → KK
  | 0 => noK
  | i + 1 => if (d.best i).gen < (d.slotOf i).gen then d.slotOf i else d.best i
theorem best_newest {d : DD} (hf : d.Fit) : d.best 2 = d.newestOf := by
  unfold DD.newestOf
  rw [newest_steps (DD.slot_fine hf (slot := 0) (by omega)) (DD.slot_fine hf (slot := 1) (by omega))]
  rfl

set_option maxHeartbeats 1000000 in
set_option maxRecDepth 100000 in
theorem implNewest_any (d : DD) (l : DL) (w : World) (hd : d.Ok) (ha : DAt w l d) :
    Calls Tryz.prog 50 #[d.val l] w (KMPost d.newest w) := by
  have hA := gal (gal (gre w) (.cells #[.slice l.ba d.blocks.length l.bc, .slice l.wa d.waiting.length l.wc] 35)) (.cells #[.bool false, .int .i64 0, .int .i64 0, .slice none 0 0] 87)
  have hX0 := (DBox.new w d l 35).grow (gal (gre _) (.cells #[.bool false, .int .i64 0, .int .i64 0, .slice none 0 0] 87))
  have hR0 := V4.new_at (w.alloc (.cells #[.slice l.ba d.blocks.length l.bc, .slice l.wa d.waiting.length l.wc] 35)) (.bool false) (.int .i64 0) (.int .i64 0) (.slice none 0 0) 87 (w.heap.size + 1) (by simp)
  cases hok : d.ok with
  | false =>
    have hok' : Hid _ := hok
    rw [show d.newest = noK from if_neg (by rw [hok]; simp)]
    clear hok
    go_enter Tryz.func50, Tryz.ntmps50
    go_upto_region 99 with (go_at_call 49; refine (implDiskOk_any d l _ hd (ha.grow hA)).mono ?_; rintro e w2 ⟨rfl, hb2⟩; rw [hok'.out]; have hR2 := hR0.grow hb2; obtain ⟨_, z0, z1, z2, z3, zf⟩ := id hR2)
    obtain ⟨c0, c1, c2, c3, K⟩ := retV4 hR2 (.bool false) (.int .i64 0) (.int .i64 0) (.slice none 0 0)
    exact bodyPost_ret (v := noK.val none 0) (by simp [results, Tryz.results50, go_sem, c0, c1, c2, c3, noK]) rfl (KMPost.no ((gca hA hb2).trans (K.below (B := w.heap.size) (gca hA hb2).size (fun k hk e => by omega))))
  | true =>
    have hok' : Hid _ := hok
    have hf := DD.fit hok
    have hn : Hid (d.newest = d.best 2) := by show _ = _; rw [best_newest hf]; exact if_pos hok
    clear hok
    go_enter Tryz.func50, Tryz.ntmps50
    go_wp2_with (first
      | (go_at_call 49; refine (implDiskOk_any d l _ hd (ha.grow hA)).mono ?_; rintro e w2 ⟨rfl, hb2⟩; rw [hok'.out]; obtain ⟨_, x0, x1⟩ := hX0.grow hb2)
      | (go_at_call 62; refine (driveOf_any d l _ hf (ha.grow (gca hA hb2))).mono ?_; rintro e w3 ⟨p, pa, pc, rfl, hp3, hDr, hb3⟩))
    have hN0 := V4.new_at w3 (.bool false) (.int .i64 0) (.int .i64 0) (.slice none 0 0) 87 w3.heap.size rfl
    have hb4 := gal hb3 (.cells #[.bool false, .int .i64 0, .int .i64 0, .slice none 0 0] 87)
    have hR4 := (hR0.grow hb2).grow hb4
    have hD4 := hDr.grow (gal (gre w3) (.cells #[.bool false, .int .i64 0, .int .i64 0, .slice none 0 0] 87))
    have hA4 := gca (gca hA hb2) hb4
    have hRN : w.heap.size + 1 < w3.heap.size := ((hR0.grow hb2).grow hb3).lt
    have hpN : p < w3.heap.size := hDr.d.lt
    have hoN : ∀ b, (Value.slice pa d.waiting.length pc).ownBlock = some b → b < w3.heap.size := fun b hb => (hDr.own.lt b hb).2
    generalize w3.alloc (.cells #[.bool false, .int .i64 0, .int .i64 0, .slice none 0 0] 87) = w4 at hN0 hb4 hR4 hD4 hA4 ⊢
    generalize w3.heap.size = N at hN0 hRN hpN hoN ⊢
    clear x0 x1 hb2 hb3 hb4 hX0 hR0 hA hDr hp3
    go_loopw [14] (fun a wr => ∃ (i : Nat) (k : KK) (oa : Option Addr) (c : Nat), a = .int .i64 (i : Int) ∧ i ≤ 2 ∧ Hid (d.best i = k) ∧ V4 wr N (.bool k.ok) (.int .i64 k.gen) (.int .i64 k.slot) (.slice oa k.bytes.length c) ∧ MB wr (N + 1) oa k.bytes ∧ Dr wr p d.blocks pa pc d.waiting .nilFunc ∧ V4 wr (w.heap.size + 1) (.bool false) (.int .i64 0) (.int .i64 0) (.slice none 0 0) ∧ Below w.heap.size w wr) (fun a _ => 2 - (intOf a).toNat)
    case atStart => exact ⟨0, noK, none, 0, rfl, by omega, rfl, hN0, Or.inl rfl, hD4, hR4, hA4⟩
    case round =>
      obtain ⟨i, k, oa, c, rfl, hi, hk, hN, hM, hD, hR, hb⟩ := hrel
      have hNl := hN.lt
      by_cases hlt : i < 2
      · have hd' : (i : Int) < 2 := by omega
        obtain ⟨s', hs'⟩ := hid_ex (d.slotOf i)
        have hbest : Hid (d.best (i + 1) = if k.gen < s'.gen then s' else k) := by show _ = _; rw [hs'.out, ← hk.out]; rfl
        go_upto_region 9 with (go_at_call 87; refine (kept_any p i d pa pc .nilFunc _ (by omega) hf hd hD).mono ?_; rw [← hs'.out]; rintro e w5 ⟨oa5, c5, rfl, hM5, hb5⟩)
        have hQ := V4.new_at w5 (.bool s'.ok) (.int .i64 s'.gen) (.int .i64 s'.slot) (.slice oa5 s'.bytes.length c5) 87 w5.heap.size rfl
        have hb6 := gal hb5 (.cells #[.bool s'.ok, .int .i64 s'.gen, .int .i64 s'.slot, .slice oa5 s'.bytes.length c5] 87)
        have hM6 := hM5.kept4 (Kept.of_below (gal (gre w5) (.cells #[.bool s'.ok, .int .i64 s'.gen, .int .i64 s'.slot, .slice oa5 s'.bytes.length c5] 87)) (fun _ => False)) (fun _ _ _ e => e)
        have hs5 := hb5.size
        generalize w5.alloc (.cells #[.bool s'.ok, .int .i64 s'.gen, .int .i64 s'.slot, .slice oa5 s'.bytes.length c5] 87) = w6 at hQ hb6 hM6 ⊢
        generalize w5.heap.size = Q at hQ hs5 ⊢
        have hN6 := hN.grow hb6
        have hMk6 := hM.kept4 (Kept.of_below hb6 (fun _ => False)) (fun _ _ _ e => e)
        have hD6 := hD.grow hb6
        have hR6 := hR.grow hb6
        have hB6 := gca hb hb6
        clear hM5 hb5 hN hM hD hR hb
        obtain ⟨_, q0, q1, q2, q3, qf⟩ := id hQ
        obtain ⟨_, n0, n1, n2, n3, nf⟩ := id hN6
        by_cases t : k.gen < s'.gen
        · have hbk : Hid (d.best (i + 1) = s') := hbest.out.trans (if_pos t)
          have hP := hN6.put (.bool s'.ok) (.int .i64 s'.gen) (.int .i64 s'.slot) (.slice oa5 s'.bytes.length c5)
          have K := (retV4 hN6 (.bool s'.ok) (.int .i64 s'.gen) (.int .i64 s'.slot) (.slice oa5 s'.bytes.length c5)).2.2.2.2
          go_wp2
          go_roundw
          case rel => exact ⟨i + 1, s', oa5, c5, by go_num, by omega, hbk, hP, (hM6.kept4 K (fun b h1 h2 e => by omega)).leH (by omega), hD6.keptH K (by omega) (fun b hb' e => by have := hoN b hb'; omega), hR6.kept K (by omega), hB6.trans (K.below (B := w.heap.size) hB6.size (fun z hz e => by omega))⟩
          case measure => simp [intOf]; omega
        · have hbk : Hid (d.best (i + 1) = k) := hbest.out.trans (if_neg t)
          go_wp2
          go_roundw
          case rel => exact ⟨i + 1, k, oa, c, by go_num, by omega, hbk, hN6, hMk6, hD6, hR6, hB6⟩
          case measure => simp [intOf]; omega
      · obtain rfl : i = 2 := by omega
        obtain ⟨_, n0, n1, n2, n3, nf⟩ := id hN
        obtain ⟨_, z0, z1, z2, z3, zf⟩ := id hR
        go_upto_region 99 with fail
        obtain ⟨r0, r1, r2, r3, K⟩ := retV4 hR (.bool k.ok) (.int .i64 k.gen) (.int .i64 k.slot) (.slice oa k.bytes.length c)
        refine bodyPost_ret (v := k.val oa c) (by simp [results, Tryz.results50, go_sem, r0, r1, r2, r3]) rfl ?_
        rw [hn.out, hk.out]
        exact ⟨oa, c, rfl, (hM.kept4 K (fun b h1 h2 e => by omega)).leH (by omega), hb.trans (K.below (B := w.heap.size) hb.size (fun z hz e => by omega))⟩

end Go.Proofs.YthjddpkegooobacGreat

/-
  REGIONT: two operations that may come up. Own work.
-/
namespace Go.Proofs.YthjddpkegooobacGreat
open Go.RowKit

/-- two may come up, neither the last -/
theorem anyU_pair {P : Program} {ops : Array Oper} {Q : Exit → Act → World → Prop} {md : Region.Mode} {S : World → Prop} {lst : Nat} {fuel : Nat} {listed : Array Bool} {a : Act} {w : World} {i j : Nat} {oi oj : Oper} (hr : Region.ready md ops listed = [i, j]) (hoi : ops[i]? = some oi) (hoj : ops[j]? = some oj)
    (h1 : ∀ K : Act → World → Prop, Shut (∀ a w, S w → anyU P md ops Q S lst fuel (listed.setIfInBounds i true) a w → K a w) → if Region.wanted oi (yielded ops a.tmps) = true then Oper.wp P oi a w K Q else K (a.put oi.dst undef) w)
    (h2 : ∀ K : Act → World → Prop, Shut (∀ a w, S w → anyU P md ops Q S lst fuel (listed.setIfInBounds j true) a w → K a w) → if Region.wanted oj (yielded ops a.tmps) = true then Oper.wp P oj a w K Q else K (a.put oj.dst undef) w) :
    anyU P md ops Q S lst (fuel + 1) listed a w := by
  refine ⟨fun h0 => (by rw [hr] at h0; cases h0), fun k hk => ?_⟩
  rw [hr] at hk
  rcases List.mem_cons.1 hk with e | hk
  · subst e; exact wpOp_step hoi (fun K' hK => h1 K' (fun a w hS hW => hK a w ⟨fun _ => hS, hW⟩))
  · obtain rfl : k = j := by simpa using hk
    exact wpOp_step hoj (fun K' hK => h2 K' (fun a w hS hW => hK a w ⟨fun _ => hS, hW⟩))

end Go.Proofs.YthjddpkegooobacGreat
