import Derived.ProofKit
import Derived.OpenShut
import Derived.Deep.Slices
import Derived.ShutString
import Derived.ChangeOld
import Derived.Test.YthjddpkegooobabPartNwL

/-
  INEWEST: the program's Newest. Own work.
-/
namespace Go.Proofs.Ythjddpkegooobab
open Go.RowKit

/-- what is kept in a slot, as the program hands it back -/
def KMPost (k : KK) (w : World) (e : Ending) (w' : World) : Prop := ∃ oa c, e = .returned (k.val oa c) ∧ Hid (k.bytes.length ≤ c) ∧ MB w' w.heap.size oa k.bytes ∧ Below w.heap.size w w'
theorem KMPost.no {w w' : World} (h : Below w.heap.size w w') : KMPost noK w (.returned (.agg #[.bool false, .int .i64 0, .int .i64 0, .slice none 0 0])) w' := ⟨none, 0, rfl, Nat.le_refl _, Or.inl rfl, h⟩

theorem anyU_skipH {P : Program} {ops : Array Oper} {Q : Exit → Act → World → Prop} {md : Region.Mode} {S : World → Prop} {lst : Nat} {i : Nat} {o : Oper} {fuel : Nat} {listed : Array Bool} {a : Act} {w : World} (hr : Region.ready md ops listed = [i]) (ho : ops[i]? = some o)
    (hw : Region.wanted o (yielded ops a.tmps) = false) (hS : S w) (h : anyU P md ops Q S lst fuel (listed.setIfInBounds i true) (a.put o.dst undef) w) : anyU P md ops Q S lst (fuel + 1) listed a w :=
  anyU_one hr ho (fun K hK => by rw [if_neg (by rw [hw]; exact Bool.false_ne_true)]; exact hK.out _ _ hS h)
theorem MB.kept4 {p : Nat → Prop} {w w' : World} {lo : Nat} {oa : Option Addr} {ys : List Nat} (h : MB w lo oa ys) (k : Kept p w w') (hp : ∀ b, lo ≤ b → b < w.heap.size → ¬ p b) : MB w' lo oa ys := by
  rcases h with rfl | ⟨G, n, rfl, hG, hB⟩
  · exact Or.inl rfl
  · exact Or.inr ⟨G, n, rfl, hG, hB.kept k (hp G hG hB.lt)⟩

set_option maxHeartbeats 1000000 in
set_option maxRecDepth 100000 in
theorem kept_any (p m : Nat) (d : DD) (pa : Option Addr) (pc : Nat) (kv : Value) (w : World) (hm : m < 2) (hf : d.Fit) (ho : d.Ok) (hDr : Dr w p d.blocks pa pc d.waiting kv) :
    Calls Try.prog 120 #[.agg #[.pointer (some ⟨p, 0, none⟩), .int .i64 (m : Int)]] w (KMPost (d.slotOf m) w) := by
  have hA := gal (gal (gre w) (.cells #[.pointer (some ⟨p, 0, none⟩), .int .i64 (m : Int)] 141)) (.cells #[.bool false, .int .i64 0, .int .i64 0, .slice none 0 0] 82)
  have hS0 := (SV.new w p m 141).grow (gal (gre _) (.cells #[.bool false, .int .i64 0, .int .i64 0, .slice none 0 0] 82))
  have hR0 := V4.new_at (w.alloc (.cells #[.pointer (some ⟨p, 0, none⟩), .int .i64 (m : Int)] 141)) (.bool false) (.int .i64 0) (.int .i64 0) (.slice none 0 0) 82 (w.heap.size + 1) (by simp)
  obtain ⟨h, hh⟩ := hid_ex (headOf (d.rd m))
  rcases headOf_cases (d.rd m) with hi | hi
  · rw [← hh.out] at hi
    obtain ⟨ok, gen, len, sum⟩ := h
    obtain ⟨rfl, hrng, hsum, heq⟩ := hi
    have hr := rng_i64 hrng
    simp only at hr
    obtain ⟨n, rfl⟩ : ∃ n : Nat, len = (n : Int) := ⟨len.toNat, by omega⟩
    clear hrng heq
    obtain ⟨img, himg⟩ := hid_ex (d.img m n)
    have hsl : Hid (d.slotOf m = if wrap64 (sumN img : Int) = sum then ⟨true, gen, (m : Int), img⟩ else noK) := by
      show _ = _
      unfold DD.slotOf
      rw [← hh.out, himg.out]
      simp
    go_enter Try.func120, Try.ntmps120
    go_upto_region 2 with (go_at_call 115; refine (head_any p m d.blocks pa pc d.waiting kv (d.rd m) _ (by omega) (by have := hf.wl; omega) rfl (DD.rd_len hf (by omega)) (DD.rd_byte hf ho (by omega)) (hDr.grow hA)).mono ?_; rw [← hh.out]; rintro e w1 ⟨rfl, hb1⟩)
    have hHb := HBox.new w1 true gen (n : Int) sum 74
    have hb2 := gal hb1 (.cells #[.bool true, .int .i64 gen, .int .i64 (n : Int), .int .i64 sum] 74)
    have hS2 := hS0.grow hb2
    have hR2 := hR0.grow hb2
    have hA2 := gca hA hb2
    have hRl := (hR0.grow hb1).lt
    generalize w1.alloc (.cells #[.bool true, .int .i64 gen, .int .i64 (n : Int), .int .i64 sum] 74) = w2 at hHb hb2 hS2 hR2 hA2 ⊢
    generalize w1.heap.size = H at hHb hRl ⊢
    clear hb1 hb2 hS0 hR0 hA
    obtain ⟨_, s0, s1⟩ := id hS2
    obtain ⟨_, p0, p1, p2, p3⟩ := id hHb
    go_upto_region 3 with (go_at_call 160; refine (image_any p m n d pa pc kv _ hm (by omega) hf ho (hDr.grow hA2)).mono ?_; rw [← himg.out]; rintro e w3 ⟨oa, c, rfl, hcp, hM, hb3⟩)
    have hS3 := hS2.grow hb3
    have hR3 := hR2.grow hb3
    have hH3 := hHb.kept (Kept.of_below hb3 (fun _ => False)) (fun e => e)
    have hA3 := gca hA2 hb3
    have hMt : BytesAt w3 oa img := hM.atH
    have hil : Hid (img.length = n) := by show _ = _; rw [himg.out]; exact DD.img_len hf hm (by omega)
    have hib : ∀ x, x ∈ img → x < 256 := by rw [himg.out]; exact DD.img_byte hf ho hm
    have hRs : w.heap.size + 1 < w2.heap.size := by have := hHb.lt; omega
    clear s0 s1 p0 p1 p2 p3
    by_cases t : wrap64 (sumN img : Int) = sum
    · have t' : (wrap64 (sumN img : Int) != sum) = false := by rw [t]; simp
      have t2 : (IntKind.i64.wrap (sumN img : Int) != sum) = false := by rw [← wrap64_eq, t]; simp
      have hsl2 : Hid (d.slotOf m = ⟨true, gen, (m : Int), img⟩) := hsl.out.trans (if_pos t)
      clear t
      have hB : Below w3.heap.size w3 w3.drew := gdr (gre _)
      refine wp_regionU (fun u => HBox u H true gen (n : Int) sum) 99 (by kernel_rfl) (hH3.kept (Kept.of_below hB (fun _ => False)) (fun e => e)) (fun _ => ?_)
      refine anyU_take (i := 0) (v := ?_) rfl (by kernel_rfl) (by kernel_rfl) (by kernel_rfl) (by kernel_rfl) (fun _ _ _ h => h) (Or.inl ⟨by rfl, ?_⟩) (hH3.kept (Kept.of_below hB (fun _ => False)) (fun e => e)) ?_
      rotate_left
      · intro u hSu; (try dsimp only at hSu); go_simp <;> with_reducible rfl
      simp only [Act.put, List.getElem_toArray, List.getElem_cons_zero, List.setIfInBounds_toArray, List.set_cons_zero, List.set_cons_succ]
      refine anyU_take (i := 1) (v := ?_) rfl (by kernel_rfl) (by kernel_rfl) (by kernel_rfl) (by kernel_rfl) (fun _ _ _ h => h) (Or.inl ⟨by rfl, ?_⟩) (hH3.kept (Kept.of_below hB (fun _ => False)) (fun e => e)) ?_
      rotate_left
      · intro u hSu; obtain ⟨_, s0, s1, s2, s3⟩ := hSu; go_simp <;> with_reducible rfl
      simp only [Act.put, List.getElem_toArray, List.getElem_cons_zero, List.getElem_cons_succ, List.setIfInBounds_toArray, List.set_cons_zero, List.set_cons_succ]
      refine anyU_take (i := 2) (v := ?_) rfl (by kernel_rfl) (by kernel_rfl) (by kernel_rfl) (by kernel_rfl) (fun _ _ _ h => h) (Or.inl ⟨by rfl, ?_⟩) (hH3.kept (Kept.of_below hB (fun _ => False)) (fun e => e)) ?_
      rotate_left
      · intro u hSu; (try dsimp only at hSu); go_simp <;> with_reducible rfl
      simp only [Act.put, List.getElem_toArray, List.getElem_cons_zero, List.getElem_cons_succ, List.setIfInBounds_toArray, List.set_cons_zero, List.set_cons_succ]
      refine anyU_take (i := 3) (v := ?_) rfl (by kernel_rfl) (by kernel_rfl) (by kernel_rfl) (by kernel_rfl) (fun _ _ _ h => h) (Or.inl ⟨by rfl, ?_⟩) (hH3.kept (Kept.of_below hB (fun _ => False)) (fun e => e)) ?_
      rotate_left
      · intro u hSu; (try dsimp only at hSu); go_simp <;> with_reducible rfl
      simp only [Act.put, List.getElem_toArray, List.getElem_cons_zero, List.getElem_cons_succ, List.setIfInBounds_toArray, List.set_cons_zero, List.set_cons_succ]
      refine anyU_take (i := 4) (v := ?_) rfl (by kernel_rfl) (by kernel_rfl) (by kernel_rfl) (by kernel_rfl) (fun _ _ _ h => h) (Or.inl ⟨by rfl, ?_⟩) (hH3.kept (Kept.of_below hB (fun _ => False)) (fun e => e)) ?_
      rotate_left
      · intro u hSu; (try dsimp only at hSu); go_simp <;> with_reducible rfl
      simp only [Act.put, List.getElem_toArray, List.getElem_cons_zero, List.getElem_cons_succ, List.setIfInBounds_toArray, List.set_cons_zero, List.set_cons_succ]
      refine anyU_take (i := 6) (v := ?_) rfl (by kernel_rfl) (by kernel_rfl) (by kernel_rfl) (by kernel_rfl) (fun _ _ _ h => h) (Or.inl ⟨by rfl, ?_⟩) (hH3.kept (Kept.of_below hB (fun _ => False)) (fun e => e)) ?_
      rotate_left
      · intro u hSu; (try dsimp only at hSu); go_simp <;> with_reducible rfl
      simp only [Act.put, List.getElem_toArray, List.getElem_cons_zero, List.getElem_cons_succ, List.setIfInBounds_toArray, List.set_cons_zero, List.set_cons_succ]
      refine anyU_take (i := 7) (v := ?_) rfl (by kernel_rfl) (by kernel_rfl) (by kernel_rfl) (by kernel_rfl) (fun _ _ _ h => h) (Or.inl ⟨by rfl, ?_⟩) (hH3.kept (Kept.of_below hB (fun _ => False)) (fun e => e)) ?_
      rotate_left
      · intro u hSu; obtain ⟨_, s0, s1, s2, s3⟩ := hSu; go_simp <;> with_reducible rfl
      simp only [Act.put, List.getElem_toArray, List.getElem_cons_zero, List.getElem_cons_succ, List.setIfInBounds_toArray, List.set_cons_zero, List.set_cons_succ]
      refine anyU_one (i := 5) (by kernel_rfl) rfl (fun K hK => ?_)
      go_simp
      refine (calls_argsS (implSumOf_any oa img c _ (hMt.grow hB) (by rw [hil.out]; unfold maxLen; omega) hib) (by rw [hil.out])).mono ?_
      rintro e w4 ⟨rfl, hb4⟩
      have hB := gca hB hb4
      refine hK.out _ _ (hH3.kept (Kept.of_below hB (fun _ => False)) (fun e => e)) ?_
      clear hK
      refine anyU_one (i := 8) (by kernel_rfl) rfl (fun K hK => ?_)
      go_simp
      refine hK.out _ _ (hH3.kept (Kept.of_below hB (fun _ => False)) (fun e => e)) ?_
      clear hK
      refine anyU_one (i := 9) (by kernel_rfl) rfl (fun K hK => ?_)
      go_simp
      refine hK.out _ _ (hH3.kept (Kept.of_below hB (fun _ => False)) (fun e => e)) ?_
      clear hK
      refine anyU_done (by kernel_rfl) ?_
      have hR4 := hR3.grow hB
      have hS4 := hS3.grow hB
      have hH4 := hH3.kept (Kept.of_below hB (fun _ => False)) (fun e => e)
      have hA4 := gca hA3 hB
      have hM4 := hM.kept4 (Kept.of_below hB (fun _ => False)) (fun _ _ _ e => e)
      obtain ⟨_, z0, z1, z2, z3, zf⟩ := id hR4
      obtain ⟨_, s0, s1⟩ := id hS4
      obtain ⟨_, p0, p1, p2, p3⟩ := id hH4
      go_upto_region 99 with fail
      obtain ⟨r0, r1, r2, r3, K⟩ := retV4 hR4 (.bool true) (.int .i64 gen) (.int .i64 (m : Int)) (.slice oa n c)
      refine bodyPost_ret (v := .agg #[.bool true, .int .i64 gen, .int .i64 (m : Int), .slice oa n c]) (by simp [results, Try.results120, go_sem, r0, r1, r2, r3]) rfl ?_
      rw [hsl2.out]
      refine ⟨oa, c, by rw [show n = img.length from hil.out.symm], (by show img.length ≤ c; rw [show img.length = n from hil.out]; exact hcp.out), ?_, hA4.trans (K.below (B := w.heap.size) hA4.size (fun k hk e => by omega))⟩
      exact (hM4.kept4 K (fun b h1 h2 e => by omega)).leH (by omega)
    · have t' : (wrap64 (sumN img : Int) != sum) = true := by simpa using t
      have t2 : (IntKind.i64.wrap (sumN img : Int) != sum) = true := by rw [← wrap64_eq]; simpa using t
      have hsl2 : Hid (d.slotOf m = noK) := hsl.out.trans (if_neg t)
      clear t
      have hB : Below w3.heap.size w3 w3.drew := gdr (gre _)
      refine wp_regionU (fun u => HBox u H true gen (n : Int) sum) 99 (by kernel_rfl) (hH3.kept (Kept.of_below hB (fun _ => False)) (fun e => e)) (fun _ => ?_)
      refine anyU_take (i := 0) (v := ?_) rfl (by kernel_rfl) (by kernel_rfl) (by kernel_rfl) (by kernel_rfl) (fun _ _ _ h => h) (Or.inl ⟨by rfl, ?_⟩) (hH3.kept (Kept.of_below hB (fun _ => False)) (fun e => e)) ?_
      rotate_left
      · intro u hSu; (try dsimp only at hSu); go_simp <;> with_reducible rfl
      simp only [Act.put, List.getElem_toArray, List.getElem_cons_zero, List.setIfInBounds_toArray, List.set_cons_zero, List.set_cons_succ]
      refine anyU_take (i := 1) (v := ?_) rfl (by kernel_rfl) (by kernel_rfl) (by kernel_rfl) (by kernel_rfl) (fun _ _ _ h => h) (Or.inl ⟨by rfl, ?_⟩) (hH3.kept (Kept.of_below hB (fun _ => False)) (fun e => e)) ?_
      rotate_left
      · intro u hSu; obtain ⟨_, s0, s1, s2, s3⟩ := hSu; go_simp <;> with_reducible rfl
      simp only [Act.put, List.getElem_toArray, List.getElem_cons_zero, List.getElem_cons_succ, List.setIfInBounds_toArray, List.set_cons_zero, List.set_cons_succ]
      refine anyU_take (i := 2) (v := ?_) rfl (by kernel_rfl) (by kernel_rfl) (by kernel_rfl) (by kernel_rfl) (fun _ _ _ h => h) (Or.inl ⟨by rfl, ?_⟩) (hH3.kept (Kept.of_below hB (fun _ => False)) (fun e => e)) ?_
      rotate_left
      · intro u hSu; (try dsimp only at hSu); go_simp <;> with_reducible rfl
      simp only [Act.put, List.getElem_toArray, List.getElem_cons_zero, List.getElem_cons_succ, List.setIfInBounds_toArray, List.set_cons_zero, List.set_cons_succ]
      refine anyU_take (i := 3) (v := ?_) rfl (by kernel_rfl) (by kernel_rfl) (by kernel_rfl) (by kernel_rfl) (fun _ _ _ h => h) (Or.inl ⟨by rfl, ?_⟩) (hH3.kept (Kept.of_below hB (fun _ => False)) (fun e => e)) ?_
      rotate_left
      · intro u hSu; (try dsimp only at hSu); go_simp <;> with_reducible rfl
      simp only [Act.put, List.getElem_toArray, List.getElem_cons_zero, List.getElem_cons_succ, List.setIfInBounds_toArray, List.set_cons_zero, List.set_cons_succ]
      refine anyU_take (i := 4) (v := ?_) rfl (by kernel_rfl) (by kernel_rfl) (by kernel_rfl) (by kernel_rfl) (fun _ _ _ h => h) (Or.inl ⟨by rfl, ?_⟩) (hH3.kept (Kept.of_below hB (fun _ => False)) (fun e => e)) ?_
      rotate_left
      · intro u hSu; (try dsimp only at hSu); go_simp <;> with_reducible rfl
      simp only [Act.put, List.getElem_toArray, List.getElem_cons_zero, List.getElem_cons_succ, List.setIfInBounds_toArray, List.set_cons_zero, List.set_cons_succ]
      refine anyU_take (i := 6) (v := ?_) rfl (by kernel_rfl) (by kernel_rfl) (by kernel_rfl) (by kernel_rfl) (fun _ _ _ h => h) (Or.inl ⟨by rfl, ?_⟩) (hH3.kept (Kept.of_below hB (fun _ => False)) (fun e => e)) ?_
      rotate_left
      · intro u hSu; (try dsimp only at hSu); go_simp <;> with_reducible rfl
      simp only [Act.put, List.getElem_toArray, List.getElem_cons_zero, List.getElem_cons_succ, List.setIfInBounds_toArray, List.set_cons_zero, List.set_cons_succ]
      refine anyU_take (i := 7) (v := ?_) rfl (by kernel_rfl) (by kernel_rfl) (by kernel_rfl) (by kernel_rfl) (fun _ _ _ h => h) (Or.inl ⟨by rfl, ?_⟩) (hH3.kept (Kept.of_below hB (fun _ => False)) (fun e => e)) ?_
      rotate_left
      · intro u hSu; obtain ⟨_, s0, s1, s2, s3⟩ := hSu; go_simp <;> with_reducible rfl
      simp only [Act.put, List.getElem_toArray, List.getElem_cons_zero, List.getElem_cons_succ, List.setIfInBounds_toArray, List.set_cons_zero, List.set_cons_succ]
      refine anyU_one (i := 5) (by kernel_rfl) rfl (fun K hK => ?_)
      go_simp
      refine (calls_argsS (implSumOf_any oa img c _ (hMt.grow hB) (by rw [hil.out]; unfold maxLen; omega) hib) (by rw [hil.out])).mono ?_
      rintro e w4 ⟨rfl, hb4⟩
      have hB := gca hB hb4
      refine hK.out _ _ (hH3.kept (Kept.of_below hB (fun _ => False)) (fun e => e)) ?_
      clear hK
      refine anyU_one (i := 8) (by kernel_rfl) rfl (fun K hK => ?_)
      go_simp
      refine hK.out _ _ (hH3.kept (Kept.of_below hB (fun _ => False)) (fun e => e)) ?_
      clear hK
      refine anyU_one (i := 9) (by kernel_rfl) rfl (fun K hK => ?_)
      go_simp
      refine hK.out _ _ (hH3.kept (Kept.of_below hB (fun _ => False)) (fun e => e)) ?_
      clear hK
      refine anyU_done (by kernel_rfl) ?_
      have hR4 := hR3.grow hB
      have hS4 := hS3.grow hB
      have hH4 := hH3.kept (Kept.of_below hB (fun _ => False)) (fun e => e)
      have hA4 := gca hA3 hB
      have hM4 := hM.kept4 (Kept.of_below hB (fun _ => False)) (fun _ _ _ e => e)
      obtain ⟨_, z0, z1, z2, z3, zf⟩ := id hR4
      obtain ⟨_, s0, s1⟩ := id hS4
      obtain ⟨_, p0, p1, p2, p3⟩ := id hH4
      go_upto_region 99 with fail
      obtain ⟨r0, r1, r2, r3, K⟩ := retV4 hR4 (.bool false) (.int .i64 0) (.int .i64 0) (.slice none 0 0)
      exact bodyPost_ret (v := noK.val none 0) (by simp [results, Try.results120, go_sem, r0, r1, r2, r3, noK]) rfl (by rw [hsl2.out]; exact KMPost.no (hA4.trans (K.below (B := w.heap.size) hA4.size (fun k hk e => by omega))))
  · rw [show d.slotOf m = noK from if_neg (fun e => by rw [hi] at e; cases e.1)]
    go_enter Try.func120, Try.ntmps120
    go_upto_region 2 with (go_at_call 115; refine (head_any p m d.blocks pa pc d.waiting kv (d.rd m) _ (by omega) (by have := hf.wl; omega) rfl (DD.rd_len hf (by omega)) (DD.rd_byte hf ho (by omega)) (hDr.grow hA)).mono ?_; rw [hi]; rintro e w1 ⟨rfl, hb1⟩)
    have hHb := HBox.new w1 false 0 0 0 74
    have hb2 := gal hb1 (.cells #[.bool false, .int .i64 0, .int .i64 0, .int .i64 0] 74)
    have hS2 := hS0.grow hb2
    have hR2 := hR0.grow hb2
    have hA2 := gca hA hb2
    have hRl := (hR0.grow hb1).lt
    generalize w1.alloc (.cells #[.bool false, .int .i64 0, .int .i64 0, .int .i64 0] 74) = w2 at hHb hb2 hS2 hR2 hA2 ⊢
    generalize w1.heap.size = H at hHb hRl ⊢
    clear hb1 hb2 hS0 hR0 hA
    obtain ⟨_, s0, s1⟩ := id hS2
    obtain ⟨_, p0, p1, p2, p3⟩ := id hHb
    go_upto_region 3 with (go_at_call 160; refine (image_any p m 0 d pa pc kv _ hm (by omega) hf ho (hDr.grow hA2)).mono ?_; rintro e w3 ⟨oa, c, rfl, hcp, hM, hb3⟩)
    have hR3 := hR2.grow hb3
    have hH3 := hHb.kept (Kept.of_below hb3 (fun _ => False)) (fun e => e)
    have hA3 := gca hA2 hb3
    clear s0 s1 p0 p1 p2 p3
    have hB : Below w3.heap.size w3 w3.drew := gdr (gre _)
    refine wp_regionU (fun u => HBox u H false 0 0 0) 99 (by kernel_rfl) (hH3.kept (Kept.of_below hB (fun _ => False)) (fun e => e)) (fun _ => ?_)
    refine anyU_take (i := 0) (v := ?_) rfl (by kernel_rfl) (by kernel_rfl) (by kernel_rfl) (by kernel_rfl) (fun _ _ _ h => h) (Or.inl ⟨by rfl, ?_⟩) (hH3.kept (Kept.of_below hB (fun _ => False)) (fun e => e)) ?_
    rotate_left
    · intro u hSu; (try dsimp only at hSu); go_simp <;> with_reducible rfl
    simp only [Act.put, List.getElem_toArray, List.getElem_cons_zero, List.setIfInBounds_toArray, List.set_cons_zero, List.set_cons_succ]
    refine anyU_take (i := 1) (v := ?_) rfl (by kernel_rfl) (by kernel_rfl) (by kernel_rfl) (by kernel_rfl) (fun _ _ _ h => h) (Or.inl ⟨by rfl, ?_⟩) (hH3.kept (Kept.of_below hB (fun _ => False)) (fun e => e)) ?_
    rotate_left
    · intro u hSu; obtain ⟨_, s0, s1, s2, s3⟩ := hSu; go_simp <;> with_reducible rfl
    simp only [Act.put, List.getElem_toArray, List.getElem_cons_zero, List.getElem_cons_succ, List.setIfInBounds_toArray, List.set_cons_zero, List.set_cons_succ]
    refine anyU_take (i := 2) (v := ?_) rfl (by kernel_rfl) (by kernel_rfl) (by kernel_rfl) (by kernel_rfl) (fun _ _ _ h => h) (Or.inl ⟨by rfl, ?_⟩) (hH3.kept (Kept.of_below hB (fun _ => False)) (fun e => e)) ?_
    rotate_left
    · intro u hSu; (try dsimp only at hSu); go_simp <;> with_reducible rfl
    simp only [Act.put, List.getElem_toArray, List.getElem_cons_zero, List.getElem_cons_succ, List.setIfInBounds_toArray, List.set_cons_zero, List.set_cons_succ]
    refine anyU_take (i := 3) (v := ?_) rfl (by kernel_rfl) (by kernel_rfl) (by kernel_rfl) (by kernel_rfl) (fun _ _ _ h => h) (Or.inl ⟨by rfl, ?_⟩) (hH3.kept (Kept.of_below hB (fun _ => False)) (fun e => e)) ?_
    rotate_left
    · intro u hSu; (try dsimp only at hSu); go_simp <;> with_reducible rfl
    simp only [Act.put, List.getElem_toArray, List.getElem_cons_zero, List.getElem_cons_succ, List.setIfInBounds_toArray, List.set_cons_zero, List.set_cons_succ]
    refine anyU_take (i := 4) (v := undef) rfl (by kernel_rfl) (by kernel_rfl) (by kernel_rfl) (by kernel_rfl) (fun _ _ _ h => h) (Or.inr ⟨by rfl, rfl⟩) (hH3.kept (Kept.of_below hB (fun _ => False)) (fun e => e)) ?_
    simp only [Act.put, List.getElem_toArray, List.getElem_cons_zero, List.getElem_cons_succ, List.setIfInBounds_toArray, List.set_cons_zero, List.set_cons_succ]
    refine anyU_take (i := 6) (v := undef) rfl (by kernel_rfl) (by kernel_rfl) (by kernel_rfl) (by kernel_rfl) (fun _ _ _ h => h) (Or.inr ⟨by rfl, rfl⟩) (hH3.kept (Kept.of_below hB (fun _ => False)) (fun e => e)) ?_
    simp only [Act.put, List.getElem_toArray, List.getElem_cons_zero, List.getElem_cons_succ, List.setIfInBounds_toArray, List.set_cons_zero, List.set_cons_succ]
    refine anyU_take (i := 7) (v := undef) rfl (by kernel_rfl) (by kernel_rfl) (by kernel_rfl) (by kernel_rfl) (fun _ _ _ h => h) (Or.inr ⟨by rfl, rfl⟩) (hH3.kept (Kept.of_below hB (fun _ => False)) (fun e => e)) ?_
    simp only [Act.put, List.getElem_toArray, List.getElem_cons_zero, List.getElem_cons_succ, List.setIfInBounds_toArray, List.set_cons_zero, List.set_cons_succ]
    refine anyU_skipH (i := 5) (by kernel_rfl) rfl (by rfl) (hH3.kept (Kept.of_below hB (fun _ => False)) (fun e => e)) ?_
    simp only [Act.put, List.getElem_toArray, List.getElem_cons_zero, List.getElem_cons_succ, List.setIfInBounds_toArray, List.set_cons_zero, List.set_cons_succ]
    refine anyU_skipH (i := 8) (by kernel_rfl) rfl (by rfl) (hH3.kept (Kept.of_below hB (fun _ => False)) (fun e => e)) ?_
    simp only [Act.put, List.getElem_toArray, List.getElem_cons_zero, List.getElem_cons_succ, List.setIfInBounds_toArray, List.set_cons_zero, List.set_cons_succ]
    refine anyU_one (i := 9) (by kernel_rfl) rfl (fun K hK => ?_)
    go_simp
    refine hK.out _ _ (hH3.kept (Kept.of_below hB (fun _ => False)) (fun e => e)) ?_
    clear hK
    refine anyU_done (by kernel_rfl) ?_
    have hR4 := hR3.grow hB
    have hA4 := gca hA3 hB
    generalize w3.drew = w4 at hB hR4 hA4 ⊢
    obtain ⟨_, z0, z1, z2, z3, zf⟩ := id hR4
    go_upto_region 99 with fail
    obtain ⟨r0, r1, r2, r3, K⟩ := retV4 hR4 (.bool false) (.int .i64 0) (.int .i64 0) (.slice none 0 0)
    refine bodyPost_ret (v := .agg #[.bool false, .int .i64 0, .int .i64 0, .slice none 0 0]) (by simp [results, Try.results120, go_sem, r0, r1, r2, r3]) rfl ?_
    exact KMPost.no (hA4.trans (K.below (B := w.heap.size) hA4.size (fun k hk e => by omega)))

end Go.Proofs.Ythjddpkegooobab

/-
  INEWEST2: the program's Newest, whole. Own work.
-/
namespace Go.Proofs.Ythjddpkegooobab
open Go.RowKit

theorem V4.put {w : World} {R : Nat} {a b c d : Value} (h : V4 w R a b c d) (A B C D : Value) : V4 ((((w.setCell ⟨R, 0, none⟩ A).setCell ⟨R, 1, none⟩ B).setCell ⟨R, 2, none⟩ C).setCell ⟨R, 3, none⟩ D) R A B C D := by
  obtain ⟨r0, r1, r2, r3, K⟩ := retV4 h A B C D
  refine ⟨Nat.lt_of_lt_of_le h.lt K.size, ?_, ?_, ?_, r3, fun o => ?_⟩
  · rw [World.cell?_setCell_other _ _ _ _ (by simp), World.cell?_setCell_other _ _ _ _ (by simp), World.cell?_setCell_other _ _ _ _ (by simp)]; exact r0
  · rw [World.cell?_setCell_other _ _ _ _ (by simp), World.cell?_setCell_other _ _ _ _ (by simp)]; exact r1
  · rw [World.cell?_setCell_other _ _ _ _ (by simp)]; exact r2
  · rw [World.frozen?_setCell, World.frozen?_setCell, World.frozen?_setCell, World.frozen?_setCell]; exact h.f o

/-- the best of the first slots -/
def DD.best (d : DD) : Nat → KK
  | 0 => noK
  | i + 1 => if (d.best i).gen < (d.slotOf i).gen then d.slotOf i else d.best i
theorem best_newest {d : DD} (hf : d.Fit) : d.best 2 = d.newestOf := by
  unfold DD.newestOf
  rw [newest_steps (DD.slot_fine hf (slot := 0) (by omega)) (DD.slot_fine hf (slot := 1) (by omega))]
  rfl

set_option maxHeartbeats 1000000 in
set_option maxRecDepth 100000 in
theorem implNewest_any (d : DD) (l : DL) (w : World) (hd : d.Ok) (ha : DAt w l d) :
    Calls Try.prog 57 #[d.val l] w (KMPost d.newest w) := by
  have hA := gal (gal (gre w) (.cells #[.slice l.ba d.blocks.length l.bc, .slice l.wa d.waiting.length l.wc] 50)) (.cells #[.bool false, .int .i64 0, .int .i64 0, .slice none 0 0] 82)
  have hX0 := (DBox.new w d l 50).grow (gal (gre _) (.cells #[.bool false, .int .i64 0, .int .i64 0, .slice none 0 0] 82))
  have hR0 := V4.new_at (w.alloc (.cells #[.slice l.ba d.blocks.length l.bc, .slice l.wa d.waiting.length l.wc] 50)) (.bool false) (.int .i64 0) (.int .i64 0) (.slice none 0 0) 82 (w.heap.size + 1) (by simp)
  cases hok : d.ok with
  | false =>
    have hok' : Hid _ := hok
    rw [show d.newest = noK from if_neg (by rw [hok]; simp)]
    clear hok
    go_enter Try.func57, Try.ntmps57
    go_upto_region 99 with (go_at_call 38; refine (implDiskOk_any d l _ hd (ha.grow hA)).mono ?_; rintro e w2 ⟨rfl, hb2⟩; rw [hok'.out]; have hR2 := hR0.grow hb2; obtain ⟨_, z0, z1, z2, z3, zf⟩ := id hR2)
    obtain ⟨c0, c1, c2, c3, K⟩ := retV4 hR2 (.bool false) (.int .i64 0) (.int .i64 0) (.slice none 0 0)
    exact bodyPost_ret (v := noK.val none 0) (by simp [results, Try.results57, go_sem, c0, c1, c2, c3, noK]) rfl (KMPost.no ((gca hA hb2).trans (K.below (B := w.heap.size) (gca hA hb2).size (fun k hk e => by omega))))
  | true =>
    have hok' : Hid _ := hok
    have hf := DD.fit hok
    have hn : Hid (d.newest = d.best 2) := by show _ = _; rw [best_newest hf]; exact if_pos hok
    clear hok
    go_enter Try.func57, Try.ntmps57
    go_wp2_with (first
      | (go_at_call 38; refine (implDiskOk_any d l _ hd (ha.grow hA)).mono ?_; rintro e w2 ⟨rfl, hb2⟩; rw [hok'.out]; obtain ⟨_, x0, x1⟩ := hX0.grow hb2)
      | (go_at_call 104; refine (driveOf_any d l _ hf (ha.grow (gca hA hb2))).mono ?_; rintro e w3 ⟨p, pa, pc, rfl, hp3, hDr, hb3⟩))
    have hN0 := V4.new_at w3 (.bool false) (.int .i64 0) (.int .i64 0) (.slice none 0 0) 82 w3.heap.size rfl
    have hb4 := gal hb3 (.cells #[.bool false, .int .i64 0, .int .i64 0, .slice none 0 0] 82)
    have hR4 := (hR0.grow hb2).grow hb4
    have hD4 := hDr.grow (gal (gre w3) (.cells #[.bool false, .int .i64 0, .int .i64 0, .slice none 0 0] 82))
    have hA4 := gca (gca hA hb2) hb4
    have hRN : w.heap.size + 1 < w3.heap.size := ((hR0.grow hb2).grow hb3).lt
    have hpN : p < w3.heap.size := hDr.d.lt
    have hoN : ∀ b, (Value.slice pa d.waiting.length pc).ownBlock = some b → b < w3.heap.size := fun b hb => (hDr.own.lt b hb).2
    generalize w3.alloc (.cells #[.bool false, .int .i64 0, .int .i64 0, .slice none 0 0] 82) = w4 at hN0 hb4 hR4 hD4 hA4 ⊢
    generalize w3.heap.size = N at hN0 hRN hpN hoN ⊢
    clear x0 x1 hb2 hb3 hb4 hX0 hR0 hA hDr hp3
    go_loopw [14] (fun a wr => ∃ (i : Nat) (k : KK) (oa : Option Addr) (c : Nat), a = .int .i64 (i : Int) ∧ i ≤ 2 ∧ Hid (d.best i = k) ∧ V4 wr N (.bool k.ok) (.int .i64 k.gen) (.int .i64 k.slot) (.slice oa k.bytes.length c) ∧ Hid (k.bytes.length ≤ c) ∧ MB wr (N + 1) oa k.bytes ∧ Dr wr p d.blocks pa pc d.waiting .nilFunc ∧ V4 wr (w.heap.size + 1) (.bool false) (.int .i64 0) (.int .i64 0) (.slice none 0 0) ∧ Below w.heap.size w wr) (fun a _ => 2 - (intOf a).toNat)
    case atStart => exact ⟨0, noK, none, 0, rfl, by omega, rfl, hN0, Nat.le_refl _, Or.inl rfl, hD4, hR4, hA4⟩
    case round =>
      obtain ⟨i, k, oa, c, rfl, hi, hk, hN, hcp, hM, hD, hR, hb⟩ := hrel
      have hNl := hN.lt
      by_cases hlt : i < 2
      · have hd' : (i : Int) < 2 := by omega
        obtain ⟨s', hs'⟩ := hid_ex (d.slotOf i)
        have hbest : Hid (d.best (i + 1) = if k.gen < s'.gen then s' else k) := by show _ = _; rw [hs'.out, ← hk.out]; rfl
        go_upto_region 9 with (go_at_call 120; refine (kept_any p i d pa pc .nilFunc _ (by omega) hf hd hD).mono ?_; rw [← hs'.out]; rintro e w5 ⟨oa5, c5, rfl, hcp5, hM5, hb5⟩)
        have hQ := V4.new_at w5 (.bool s'.ok) (.int .i64 s'.gen) (.int .i64 s'.slot) (.slice oa5 s'.bytes.length c5) 82 w5.heap.size rfl
        have hb6 := gal hb5 (.cells #[.bool s'.ok, .int .i64 s'.gen, .int .i64 s'.slot, .slice oa5 s'.bytes.length c5] 82)
        have hM6 := hM5.kept4 (Kept.of_below (gal (gre w5) (.cells #[.bool s'.ok, .int .i64 s'.gen, .int .i64 s'.slot, .slice oa5 s'.bytes.length c5] 82)) (fun _ => False)) (fun _ _ _ e => e)
        have hs5 := hb5.size
        generalize w5.alloc (.cells #[.bool s'.ok, .int .i64 s'.gen, .int .i64 s'.slot, .slice oa5 s'.bytes.length c5] 82) = w6 at hQ hb6 hM6 ⊢
        generalize w5.heap.size = Q at hQ hs5 ⊢
        have hN6 := hN.grow hb6
        have hMk6 := hM.kept4 (Kept.of_below hb6 (fun _ => False)) (fun _ _ _ e => e)
        have hD6 := hD.grow hb6
        have hR6 := hR.grow hb6
        have hB6 := gca hb hb6
        clear hM5 hb5 hN hM hD hR hb
        obtain ⟨_, q0, q1, q2, q3, qf⟩ := id hQ
        obtain ⟨_, n0, n1, n2, n3, nf⟩ := id hN6
        by_cases t : k.gen < s'.gen
        · have hbk : Hid (d.best (i + 1) = s') := hbest.out.trans (if_pos t)
          have hP := hN6.put (.bool s'.ok) (.int .i64 s'.gen) (.int .i64 s'.slot) (.slice oa5 s'.bytes.length c5)
          have K := (retV4 hN6 (.bool s'.ok) (.int .i64 s'.gen) (.int .i64 s'.slot) (.slice oa5 s'.bytes.length c5)).2.2.2.2
          go_wp2
          go_roundw
          case rel => exact ⟨i + 1, s', oa5, c5, by go_num, by omega, hbk, hP, hcp5, (hM6.kept4 K (fun b h1 h2 e => by omega)).leH (by omega), hD6.keptH K (by omega) (fun b hb' e => by have := hoN b hb'; omega), hR6.kept K (by omega), hB6.trans (K.below (B := w.heap.size) hB6.size (fun z hz e => by omega))⟩
          case measure => simp [intOf]; omega
        · have hbk : Hid (d.best (i + 1) = k) := hbest.out.trans (if_neg t)
          go_wp2
          go_roundw
          case rel => exact ⟨i + 1, k, oa, c, by go_num, by omega, hbk, hN6, hcp, hMk6, hD6, hR6, hB6⟩
          case measure => simp [intOf]; omega
      · obtain rfl : i = 2 := by omega
        obtain ⟨_, n0, n1, n2, n3, nf⟩ := id hN
        obtain ⟨_, z0, z1, z2, z3, zf⟩ := id hR
        go_upto_region 99 with fail
        obtain ⟨r0, r1, r2, r3, K⟩ := retV4 hR (.bool k.ok) (.int .i64 k.gen) (.int .i64 k.slot) (.slice oa k.bytes.length c)
        refine bodyPost_ret (v := k.val oa c) (by simp [results, Try.results57, go_sem, r0, r1, r2, r3]) rfl ?_
        rw [hn.out, hk.out]
        exact ⟨oa, c, rfl, hcp, (hM.kept4 K (fun b h1 h2 e => by omega)).leH (by omega), hb.trans (K.below (B := w.heap.size) hb.size (fun z hz e => by omega))⟩

end Go.Proofs.Ythjddpkegooobab

/-
  LAW: FnExactNewest, walked. Own work.
-/
namespace Go.Proofs.Ythjddpkegooobab
open Go.RowKit

theorem MB.bb {w : World} {lo : Nat} {oa : Option Addr} {ys : List Nat} (h : MB w lo oa ys) : BB w lo w.heap.size oa ys := by
  rcases h with h | ⟨G, n, h1, h2, h3⟩
  · exact Or.inl h
  · exact Or.inr ⟨G, n, h1, h2, h3.lt, h3⟩
theorem BB.growN {w w' : World} {lo hi : Nat} {oa : Option Addr} {ys : List Nat} (h : BB w lo hi oa ys) (hb : Below w.heap.size w w') : BB w' lo hi oa ys := by
  rcases h with h | ⟨G, n, h1, h2, h3, h4⟩
  · exact Or.inl h
  · exact Or.inr ⟨G, n, h1, h2, h3, h4.kept (Kept.of_below hb (fun _ => False)) (fun e => e)⟩
theorem BB.keptN {p : Nat → Prop} {w w' : World} {lo hi : Nat} {oa : Option Addr} {ys : List Nat} (h : BB w lo hi oa ys) (k : Kept p w w') (hn : ∀ b, lo ≤ b → b < hi → ¬ p b) : BB w' lo hi oa ys := by
  rcases h with h | ⟨G, n, h1, h2, h3, h4⟩
  · exact Or.inl h
  · exact Or.inr ⟨G, n, h1, h2, h3, h4.kept k (hn G h2 h3)⟩
/-- bytes at a place, below a bound -/
def BytesLoN (B : Nat) (w : World) (a : Option Addr) (bs : List Nat) : Prop := ∀ i, i < bs.length → ∃ b off, a = some ⟨b, off, none⟩ ∧ b < B ∧ w.cell? ⟨b, off + i, none⟩ = some (.int .u8 ((bs[i]! : Nat) : Int))
theorem BytesLoN.below {B : Nat} {w w' : World} {a : Option Addr} {bs : List Nat} (h : BytesLoN B w a bs) (hb : Below B w w') : BytesLoN B w' a bs := fun i hi => by
  obtain ⟨b, off, ha, hB, hc⟩ := h i hi
  exact ⟨b, off, ha, hB, (World.cell?_of_block (w := w) (hb.block b hB)).trans hc⟩
theorem BytesLoN.atN {B : Nat} {w : World} {a : Option Addr} {bs : List Nat} (h : BytesLoN B w a bs) : BytesAt w a bs := fun i hi => by
  obtain ⟨b, off, ha, _, hc⟩ := h i hi
  exact ⟨b, off, ha, hc⟩
theorem BytesAt.lowN {w : World} {a : Option Addr} {bs : List Nat} (h : BytesAt w a bs) : BytesLoN w.heap.size w a bs := fun i hi => by
  obtain ⟨b, off, ha, hc⟩ := h i hi
  exact ⟨b, off, ha, World.block_lt_of_cell? _ _ hc, hc⟩
theorem newest_len {d : DD} : d.newest.bytes.length ≤ 4096 := by
  unfold DD.newest
  split
  · rename_i h
    have hf := DD.fit h
    unfold DD.newestOf
    split
    · exact (DD.slot_fine hf (slot := 1) (by omega)).len
    · exact (DD.slot_fine hf (slot := 0) (by omega)).len
  · exact Nat.zero_le _

set_option maxRecDepth 100000 in
theorem eqKept_same (k : KK) (oa oa' : Option Addr) (c c' : Nat) (w : World) (hl : k.bytes.length ≤ 4096) (ha : BytesAt w oa k.bytes) (ha' : BytesAt w oa' k.bytes) :
    Calls Try.prog 58 #[k.val oa c, k.val oa' c'] w fun e w' => e = .returned (.bool true) ∧ Below w.heap.size w w' := by
  have b0 : (k.ok != k.ok) = false := by simp
  have b1 : (k.gen != k.gen) = false := by simp
  have b2 : (k.slot != k.slot) = false := by simp
  have hA := gal (gal (gre w) (.cells #[.bool k.ok, .int .i64 k.gen, .int .i64 k.slot, .slice oa k.bytes.length c] 82)) (.cells #[.bool k.ok, .int .i64 k.gen, .int .i64 k.slot, .slice oa' k.bytes.length c'] 82)
  go_enter Try.func58, Try.ntmps58
  go_wp2_with (first
    | (go_at_call 19; refine (eqByteS_same oa oa' k.bytes c c' _ (by unfold maxLen; omega) (ha.grow hA) (ha'.grow hA)).mono ?_; rintro e w1 ⟨rfl, hb1⟩)
    | go_quiet (fail))
  go_ret
  exact ⟨rfl, gca hA hb1⟩

set_option maxRecDepth 100000 in
theorem markKept_any (k : KK) (oa : Option Addr) (c lo hi : Nat) (w : World) (hl : k.bytes.length ≤ 4096) (hM : BB w lo hi oa k.bytes) :
    Calls Try.prog 59 #[k.val oa c, .int .i64 1] w fun e w' => e = .returned (.int .i64 ((1 + k.bytes.length : Nat) : Int)) ∧ BB w' lo hi oa (marksB 1 k.bytes.length) ∧ Kept (fun b => lo ≤ b ∧ b < hi) w w' := by
  have hA := gal (gre w) (.cells #[.bool k.ok, .int .i64 k.gen, .int .i64 k.slot, .slice oa k.bytes.length c] 82)
  go_enter Try.func59, Try.ntmps59
  go_wp2_with (go_at_call 22; rw [show (1 : Int) = ((1 : Nat) : Int) by rfl]; refine (markBytes_any oa k.bytes c 1 lo hi _ (by omega) (by decide) (hM.growN hA)).mono ?_; rintro e w1 ⟨rfl, hM1, hK1⟩)
  go_ret
  exact ⟨rfl, hM1, (Kept.of_below hA _).trans hK1 (fun b _ e => by
    rcases hM with h | ⟨G, n, h1, h2, h3, _⟩
    · exact absurd h e.1
    · have e2 := some_addr (h1.symm.trans e.2)
      omega)⟩

set_option maxRecDepth 100000 in
theorem heldKept_any (k : KK) (oa : Option Addr) (c lo hi : Nat) (w : World) (hl : k.bytes.length ≤ 4096) (hM : BB w lo hi oa (marksB 1 k.bytes.length)) :
    Calls Try.prog 60 #[k.val oa c, .int .i64 1] w fun e w' => e = .returned (.int .i64 ((1 + k.bytes.length : Nat) : Int)) ∧ Below w.heap.size w w' := by
  have hA := gal (gre w) (.cells #[.bool k.ok, .int .i64 k.gen, .int .i64 k.slot, .slice oa k.bytes.length c] 82)
  have hd : ¬ (((1 + k.bytes.length : Nat) : Int) < 0) := by omega
  obtain ⟨q, hq⟩ := hid_ex (1 + k.bytes.length)
  rw [← hq.out] at hd ⊢
  go_enter Try.func60, Try.ntmps60
  go_wp2_with (go_at_call 23; rw [show (1 : Int) = ((1 : Nat) : Int) by rfl]; refine (heldByteS_any oa k.bytes.length c 1 _ (by omega) (by decide) (hM.growN hA).bytes).mono ?_; rintro e w1 ⟨rfl, hb1⟩; rw [← hq.out])
  go_ret
  exact ⟨rfl, gca hA hb1⟩

set_option maxHeartbeats 2000000 in
set_option maxRecDepth 100000 in
theorem lawNewest (d : DD) (l : DL) (w : World) (hd : d.Ok) (ha : DAt w l d) :
    Calls Try.prog 13 #[d.val l] w fun e w' => e = .returned (.bool true) ∧ Below w.heap.size w w' := by
  have hX0 := DBox.new w d l 57
  have hA0 := gal (gre w) (.cells #[.slice l.ba d.blocks.length l.bc, .slice l.wa d.waiting.length l.wc] 57)
  by_cases hs1 : d.sz ≤ 1048576
  · have hs := DD.small hs1
    have hm1 : d.mend 1 ≤ 1099511627776 := by have := d.mend_sz 1; omega
    have hle1 : Hid (leftBy 1048576 d.sz = 1048576 - d.sz) := leftBy_pos (by omega)
    have hd1 : ¬ (1048576 - d.sz < 0) := by omega
    obtain ⟨k, hc⟩ := hid_ex d.newest
    have hkl : k.bytes.length ≤ 4096 := by rw [hc.out]; exact newest_len
    obtain ⟨mx, hmx⟩ := hid_ex (d.mend 1)
    have hmxn : ¬ ((mx : Int) < 0) := by omega
    obtain ⟨mq, hmq⟩ := hid_ex (1 + k.bytes.length)
    have hmqn : ¬ ((mq : Int) < 0) := by omega
    have hmm : ((mq : Int) != (mq : Int)) = false := by simp
    clear hs1
    go_enter Try.func13, Try.ntmps13
    go_upto_region 6 with (first
      | (go_at_call 35; refine (szDisk_any d l _ _ hd (by decide) (by decide) (ha.grow hA0)).mono ?_; rintro e w1 ⟨rfl, hb1⟩; rw [hle1.out]; obtain ⟨_, x0, x1⟩ := hX0.grow hb1)
      | (go_at_call 37; refine (toDisk_any d l _ hs (ha.grow (gca hA0 hb1))).mono ?_; rintro e w2 ⟨l2, bs2, xs2, rfl, hown2, hb2⟩)
      | (go_at_call 56; refine (specNewest_any d l2 _ hd hown2.at_).mono ?_; rw [← hc.out]; rintro e wA ⟨oa0, oc0, rfl, _, hat0, hlo0, hb3⟩))
    have hW0 := V4.new_at wA (.bool k.ok) (.int .i64 k.gen) (.int .i64 k.slot) (.slice oa0 k.bytes.length oc0) 82 wA.heap.size rfl
    have hA := gal (gca (gca (gca hA0 hb1) hb2) hb3) (.cells #[.bool k.ok, .int .i64 k.gen, .int .i64 k.slot, .slice oa0 k.bytes.length oc0] 82)
    have hXA := hX0.grow (gal (gca (gca hb1 hb2) hb3) (.cells #[.bool k.ok, .int .i64 k.gen, .int .i64 k.slot, .slice oa0 k.bytes.length oc0] 82))
    have hat := hat0.grow (gal (gre wA) (.cells #[.bool k.ok, .int .i64 k.gen, .int .i64 k.slot, .slice oa0 k.bytes.length oc0] 82))
    generalize wA.alloc (.cells #[.bool k.ok, .int .i64 k.gen, .int .i64 k.slot, .slice oa0 k.bytes.length oc0] 82) = wB at hW0 hA hXA hat ⊢
    generalize wA.heap.size = PW at hW0 ⊢
    obtain ⟨PA, hPA⟩ := hid_ex w.heap.size
    rw [← hPA.out] at hXA ⊢
    clear x0 x1 hb1 hb2 hb3 hown2 hX0 hA0 hat0 hlo0
    obtain ⟨_, x0, x1⟩ := id hXA
    go_upto_region 7 with (go_at_call 37; refine (toDisk_any d l _ hs (ha.grow hA)).mono ?_; rintro e w4 ⟨l4, bs4, xs4, rfl, hown4, hb4⟩)
    have hxB := DBox.new w4 d l4 50
    have hbB := gal hb4 (.cells #[.slice l4.ba d.blocks.length l4.bc, .slice l4.wa d.waiting.length l4.wc] 50)
    have hmx0 := hown4.md.grow (gal (gre w4) (.cells #[.slice l4.ba d.blocks.length l4.bc, .slice l4.wa d.waiting.length l4.wc] 50))
    have hs4 : (w4.alloc (.cells #[.slice l4.ba d.blocks.length l4.bc, .slice l4.wa d.waiting.length l4.wc] 50)).heap.size = w4.heap.size + 1 := by simp
    have hs4A := hb4.size
    generalize w4.alloc (.cells #[.slice l4.ba d.blocks.length l4.bc, .slice l4.wa d.waiting.length l4.wc] 50) = wC at hxB hbB hmx0 hs4 ⊢
    generalize w4.heap.size = PX at hxB hmx0 hs4 hs4A ⊢
    have hPAl := hXA.lt
    have hPWl := hW0.lt
    have hXB := hXA.grow hbB
    have hWB := hW0.grow hbB
    have hatB := hat.lowN
    have hBwB := gca hA hbB
    generalize hsAe : wB.heap.size = sA at hmx0 hbB hs4A hPAl hPWl hatB
    clear x0 x1 hb4 hown4 hXA hW0
    obtain ⟨_, x0, x1⟩ := id hxB
    go_upto_region 8 with (go_at_call 57; refine (implNewest_any d l4 _ hd hmx0.at_).mono ?_; rw [← hc.out]; rintro e w5 ⟨oag, ocg, rfl, _, hMg, hb5⟩)
    have hMB := hMg.bb
    have hG0 := V4.new_at w5 (.bool k.ok) (.int .i64 k.gen) (.int .i64 k.slot) (.slice oag k.bytes.length ocg) 82 w5.heap.size rfl
    have hbD := gal hb5 (.cells #[.bool k.ok, .int .i64 k.gen, .int .i64 k.slot, .slice oag k.bytes.length ocg] 82)
    have hMD := hMB.growN (gal (gre w5) (.cells #[.bool k.ok, .int .i64 k.gen, .int .i64 k.slot, .slice oag k.bytes.length ocg] 82))
    have hs5 := hb5.size
    generalize w5.alloc (.cells #[.bool k.ok, .int .i64 k.gen, .int .i64 k.slot, .slice oag k.bytes.length ocg] 82) = wD at hG0 hbD hMD ⊢
    generalize w5.heap.size = PG at hG0 hMD hs5 ⊢
    have hxD := hxB.grow hbD
    have hXD := hXB.grow hbD
    have hWD := hWB.grow hbD
    have hmxD := hmx0.grow hbD
    have hAD : Below sA wB wD := hbB.trans (hbD.mono (by omega))
    have hBwD := gca hBwB hbD
    generalize hsCe : wC.heap.size = sC at hMD hs4 hs5
    clear x0 x1 hxB hXB hmx0 hbB hb5 hMg hMB hWB hBwB
    obtain ⟨_, p0, p1, p2, p3, _⟩ := id hWD
    obtain ⟨_, q0, q1, q2, q3, _⟩ := id hG0
    go_upto_region 10 with (go_at_call 58; refine (eqKept_same k oag oa0 ocg oc0 _ hkl hMD.bytes (hatB.below hAD).atN).mono ?_; rintro e w6 ⟨rfl, hb6⟩)
    have hx6 := hxD.grow hb6
    have hX6 := hXD.grow hb6
    have hW6 := hWD.grow hb6
    have hG6 := hG0.grow hb6
    have hmx6 := hmxD.grow hb6
    have hM6 := hMD.growN hb6
    have hA6 := hAD.trans (hb6.mono (by have := hAD.size; omega))
    have hBw6 := gca hBwD hb6
    have hGl := hG0.lt
    clear p0 p1 p2 p3 q0 q1 q2 q3 hxD hXD hmxD hWD hG0 hMD hAD hBwD
    have hB : Below w6.heap.size w6 w6.drew := gdr (gre _)
    refine wp_regionU (fun u => DBox u PX d l4 ∧ DBox u PA d l) 99 (by kernel_rfl) ⟨hx6.grow hB, hX6.grow hB⟩ (fun _ => ?_)
    refine anyU_take (i := 0) (v := ?_) rfl (by kernel_rfl) (by kernel_rfl) (by kernel_rfl) (by kernel_rfl) (fun _ _ _ h => h) (Or.inl ⟨by rfl, ?_⟩) ⟨hx6.grow hB, hX6.grow hB⟩ ?_
    rotate_left
    · intro u hSu; obtain ⟨⟨_, s0, s1⟩, ⟨_, t0, t1⟩⟩ := hSu; go_simp <;> with_reducible rfl
    simp only [Act.put, List.getElem_toArray, List.getElem_cons_zero, List.setIfInBounds_toArray, List.set_cons_zero, List.set_cons_succ]
    refine anyU_take (i := 1) (v := ?_) rfl (by kernel_rfl) (by kernel_rfl) (by kernel_rfl) (by kernel_rfl) (fun _ _ _ h => h) (Or.inl ⟨by rfl, ?_⟩) ⟨hx6.grow hB, hX6.grow hB⟩ ?_
    rotate_left
    · intro u hSu; obtain ⟨⟨_, s0, s1⟩, ⟨_, t0, t1⟩⟩ := hSu; go_simp <;> with_reducible rfl
    simp only [Act.put, List.getElem_toArray, List.getElem_cons_zero, List.getElem_cons_succ, List.setIfInBounds_toArray, List.set_cons_zero, List.set_cons_succ]
    refine anyU_one (i := 2) (by kernel_rfl) rfl (fun K hK => ?_)
    go_simp
    refine (toDisk_any d l _ hs (ha.grow (gca hBw6 hB))).mono ?_
    rintro e w7 ⟨l7, bs7, xs7, rfl, hown7, hb7⟩
    have hB := gca hB hb7
    refine hK.out _ _ ⟨hx6.grow hB, hX6.grow hB⟩ ?_
    clear hK
    refine anyU_one (i := 3) (by kernel_rfl) rfl (fun K hK => ?_)
    go_simp
    refine (eqDisk_same d _ _ _ hd (hmx6.at_.grow hB) hown7.at_).mono ?_
    rintro e w8 ⟨rfl, hb8⟩
    have hB := gca hB hb8
    refine hK.out _ _ ⟨hx6.grow hB, hX6.grow hB⟩ ?_
    clear hK
    refine anyU_one (i := 4) (by kernel_rfl) rfl (fun K hK => ?_)
    go_simp
    refine hK.out _ _ ⟨hx6.grow hB, hX6.grow hB⟩ ?_
    clear hK
    refine anyU_done (by kernel_rfl) ?_
    have hx8 := hx6.grow hB
    have hX8 := hX6.grow hB
    have hW8 := hW6.grow hB
    have hG8 := hG6.grow hB
    have hmx8 := hmx6.grow hB
    have hM8 := hM6.growN hB
    have hA8 := hA6.trans (hB.mono (by have := hA6.size; omega))
    have hBw8 := gca hBw6 hB
    clear hx6 hX6 hmx6 hM6 hA6 hBw6 hB hown7 hb7 hb8 hW6 hG6
    obtain ⟨_, x0, x1⟩ := id hx8
    go_upto_region 14 with (go_at_call 33; rw [show (1 : Int) = ((1 : Nat) : Int) by rfl]; refine (markDisk_any d l4 1 sA PX _ _ _ _ _ hs hm1 (by omega) hmx8).mono ?_; rintro e w9 ⟨rfl, _, hK9⟩; rw [← hmx.out])
    have hX9 := hX8.kept hK9 (fun e => by omega)
    have hW9 := hW8.kept hK9 (fun e => by omega)
    have hG9 := hG8.kept hK9 (fun e => by omega)
    have hM9 := hM8.keptN hK9 (fun b hb _ e => by omega)
    have hA9 := hA8.trans (hK9.below (B := sA) (by have := hA8.size; omega) (fun z hz e => by omega))
    have hBw9 := hBw8.trans (hK9.below (B := w.heap.size) hBw8.size (fun z hz e => by have := hPA.out; omega))
    clear x0 x1 hx8 hX8 hmx8 hM8 hA8 hBw8 hK9 hW8 hG8
    obtain ⟨_, p0, p1, p2, p3, _⟩ := id hW9
    obtain ⟨_, q0, q1, q2, q3, _⟩ := id hG9
    go_upto_region 16 with (go_at_call 58; refine (eqKept_same k oag oa0 ocg oc0 _ hkl hM9.bytes (hatB.below hA9).atN).mono ?_; rintro e w10 ⟨rfl, hb10⟩)
    have hX10 := hX9.grow hb10
    have hW10 := hW9.grow hb10
    have hG10 := hG9.grow hb10
    have hM10 := hM9.growN hb10
    have hA10 := hA9.trans (hb10.mono (by have := hA9.size; omega))
    have hBw10 := gca hBw9 hb10
    clear p0 p1 p2 p3 q0 q1 q2 q3 hX9 hM9 hA9 hBw9 hW9 hG9
    obtain ⟨_, q0, q1, q2, q3, _⟩ := id hG10
    go_upto_region 18 with (go_at_call 59; refine (markKept_any k oag ocg sC PG _ hkl hM10).mono ?_; rintro e w11 ⟨rfl, hM11, hK11⟩; rw [← hmq.out])
    have hX11 := hX10.kept hK11 (fun e => by omega)
    have hW11 := hW10.kept hK11 (fun e => by omega)
    have hG11 := hG10.kept hK11 (fun e => by omega)
    have hA11 := hA10.trans (hK11.below (B := sA) (by have := hA10.size; omega) (fun z hz e => by omega))
    have hBw11 := hBw10.trans (hK11.below (B := w.heap.size) hBw10.size (fun z hz e => by have := hPA.out; omega))
    clear q0 q1 q2 q3 hX10 hM10 hA10 hBw10 hK11 hW10 hG10
    obtain ⟨_, q0, q1, q2, q3, _⟩ := id hG11
    go_upto_region 24 with (go_at_call 60; refine (heldKept_any k oag ocg sC PG _ hkl hM11).mono ?_; rintro e w12 ⟨rfl, hb12⟩; rw [← hmq.out])
    have hX12 := hX11.grow hb12
    have hW12 := hW11.grow hb12
    have hG12 := hG11.grow hb12
    have hM12 := hM11.growN hb12
    have hA12 := hA11.trans (hb12.mono (by have := hA11.size; omega))
    have hBw12 := gca hBw11 hb12
    clear q0 q1 q2 q3 hX11 hM11 hA11 hBw11 hW11 hG11
    obtain ⟨_, x0, x1⟩ := id hX12
    go_upto_region 25 with (first
      | (go_at_call 37; refine (toDisk_any d l _ hs (ha.grow hBw12)).mono ?_; rintro e w13 ⟨l13, bs13, xs13, rfl, hown13, hb13⟩)
      | (go_at_call 57; refine (implNewest_any d l13 _ hd hown13.at_).mono ?_; rw [← hc.out]; rintro e w14 ⟨oah, och, rfl, _, hMh, hb14⟩))
    have hH0 := V4.new_at w14 (.bool k.ok) (.int .i64 k.gen) (.int .i64 k.slot) (.slice oah k.bytes.length och) 82 w14.heap.size rfl
    have hbD := gal (gca hb13 hb14) (.cells #[.bool k.ok, .int .i64 k.gen, .int .i64 k.slot, .slice oah k.bytes.length och] 82)
    have hMh' := hMh.bb.growN (gal (gre w14) (.cells #[.bool k.ok, .int .i64 k.gen, .int .i64 k.slot, .slice oah k.bytes.length och] 82))
    generalize w14.alloc (.cells #[.bool k.ok, .int .i64 k.gen, .int .i64 k.slot, .slice oah k.bytes.length och] 82) = wE at hH0 hbD hMh' ⊢
    generalize w14.heap.size = PH at hH0 hMh' ⊢
    have hWE := hW12.grow hbD
    have hGE := hG12.grow hbD
    have hME := hM12.growN hbD
    have hAE := hA12.trans (hbD.mono (by have := hA12.size; omega))
    have hBwE := gca hBw12 hbD
    clear x0 x1 hX12 hM12 hA12 hBw12 hb13 hb14 hown13 hW12 hG12 hMh
    obtain ⟨_, p0, p1, p2, p3, _⟩ := id hWE
    obtain ⟨_, q0, q1, q2, q3, _⟩ := id hH0
    go_upto_region 27 with (go_at_call 58; refine (eqKept_same k oah oa0 och oc0 _ hkl hMh'.bytes (hatB.below hAE).atN).mono ?_; rintro e w15 ⟨rfl, hb15⟩)
    have hG15 := hGE.grow hb15
    have hM15 := hME.growN hb15
    have hBw15 := gca hBwE hb15
    clear p0 p1 p2 p3 q0 q1 q2 q3 hWE hGE hME hAE hBwE hH0 hMh'
    obtain ⟨_, q0, q1, q2, q3, _⟩ := id hG15
    go_wp2_with (go_at_call 60; refine (heldKept_any k oag ocg sC PG _ hkl hM15).mono ?_; rintro e w16 ⟨rfl, hb16⟩; rw [← hmq.out])
    go_ret
    exact ⟨rfl, gca hBw15 hb16⟩
  · have hle1 : Hid (leftBy 1048576 d.sz = -1) := leftBy_neg (by omega)
    go_enter Try.func13, Try.ntmps13
    go_wp2_with (go_at_call 35; refine (szDisk_any d l _ _ hd (by decide) (by decide) (ha.grow hA0)).mono ?_; rintro e w1 ⟨rfl, hb1⟩; rw [hle1.out])
    go_ret
    exact ⟨rfl, gca hA0 hb1⟩

end Go.Proofs.Ythjddpkegooobab

/-
  OPEND: what disks that come in read as. Own work.
-/
namespace Go.Proofs.Ythjddpkegooobab
open Go.RowKit Go.ChangeShapes Go.WideShapes Go.Deep

set_option maxRecDepth 100000 in
theorem dcellsInt : Try.prog.cellsOf 3 = 1 := by kernel_rfl
theorem dcellsU8 : Try.prog.cellsOf 5 = 1 := by kernel_rfl
theorem dcellsBytes : Try.prog.cellsOf 28 = 1 := by kernel_rfl
theorem dcellsWrite : Try.prog.cellsOf 187 = 2 := by kernel_rfl
theorem dcellsBlks : Try.prog.cellsOf 47 = 1 := by kernel_rfl
theorem dcellsWrites : Try.prog.cellsOf 55 = 1 := by kernel_rfl
theorem dcellsDisk : Try.prog.cellsOf 57 = 2 := by kernel_rfl

set_option maxRecDepth 100000 in
theorem di64_of_wf {n : Int} (h : (Lit.int .i64 n).wf = true) : I64 n := by
  have h := bounds_i64 h
  unfold I64
  omega
theorem dbyte_of_wf {x : Int} (h : (Lit.int .u8 x).wf = true) : 0 ≤ x ∧ x < 256 := by
  simp [Lit.wf, IntKind.min, IntKind.max, IntKind.signed, IntKind.bits] at h
  omega

section
variable {H : Type} {enc : TypeId × Value → H} {w : World} {base : Nat} {spare : Nat → Bool} {held : Bool}

set_option maxRecDepth 100000 in
/-- a list out of a family -/
theorem dlist_of {α : Type} [Inhabited α] {n : Nat} {p : Nat → α → Prop} (h : ∀ i, i < n → ∃ x, p i x) : ∃ l : List α, l.length = n ∧ ∀ i, i < n → p i l[i]! := by
  obtain ⟨f, hf⟩ := choose_lt h
  refine ⟨(List.range n).map f, by simp, fun i hi => ?_⟩
  have e : ((List.range n).map f)[i]! = f i := by
    rw [getElem!_pos _ i (by simpa using hi)]; simp
  rw [e]; exact hf i hi

set_option maxRecDepth 100000 in
theorem dall_of_at {α : Type} [Inhabited α] {p : α → Prop} {l : List α} (h : ∀ i, i < l.length → p l[i]!) : ∀ x, x ∈ l → p x := fun x hx => by
  obtain ⟨i, hi, e⟩ := List.getElem_of_mem hx
  have := h i hi
  rwa [getElem!_pos l i hi, e] at this

set_option maxRecDepth 100000 in
/-- an address at which elements lie is a plain one -/
theorem dplain_addr {a : Addr} {k : Nat} {cs : List Value} (hk : 0 < k) (h : w.cells? base (a.add (0 * k)) k = some cs) : a = ⟨a.block, a.off, none⟩ := by
  obtain ⟨_, hlen, hc⟩ := World.cells?_some h
  have h0 := hc 0 hk
  obtain ⟨b, off, spot⟩ := a
  match cs, hlen with
  | c :: _, _ =>
    have hspot : spot = none := by
      have h0' : w.cell? ((Addr.add ⟨b, off, spot⟩ (0 * k)).add 0) = some c := by simpa using h0
      simpa [Addr.add] using World.cell?_spot h0'
    rw [hspot]
  | [], h => simp at h; omega

set_option maxRecDepth 100000 in
theorem dcells_plain {b off n : Nat} {cs : List Value} (h : w.cells? base ⟨b, off, none⟩ n = some cs) : cs.length = n ∧ ∀ i, i < n → w.cell? ⟨b, off + i, none⟩ = cs[i]? := by
  obtain ⟨_, hlen, hc⟩ := World.cells?_some h
  exact ⟨hlen, fun i hi => by rw [← add_plain]; exact hc i hi⟩

set_option maxRecDepth 100000 in
theorem openByts {fuel : Nat} {cs : List Value} {x : DataW H × List MemPlace} (h : DataW.trod enc Try.prog w base spare held fuel 28 cs = some x) :
    ∃ (a : Option Addr) (cap : Nat) (bs : List Nat), cs = [.slice a bs.length cap] ∧ BOk bs ∧ BytesAt w a bs := by
  rcases open_slice Try.underlying28 h with ⟨rfl, _⟩ | ⟨a, len, cap, m, n, D, Pl, rfl, hb, hl, hm, hmm, _, hx⟩
  · exact ⟨none, 0, [], rfl, ⟨Nat.zero_le _, fun v hv => (by cases hv)⟩, fun i hi => absurd hi (Nat.not_lt_zero _)⟩
  · rw [dcellsU8] at hx
    have hle : len ≤ m := by rw [hmm]; split <;> omega
    obtain ⟨bs, hvl, hvs⟩ := dlist_of (α := Nat) (n := len) (p := fun i v => v < 256 ∧ w.cells? base (a.add (i * 1)) 1 = some [.int .u8 (v : Int)]) (fun i hi => by
      obtain ⟨cs', h1, h2⟩ := hx i (by omega)
      obtain ⟨z, e, _, hw⟩ := DataW.trod_int Try.underlying5 h2
      have hz := dbyte_of_wf hw
      refine ⟨z.toNat, by omega, ?_⟩
      rw [h1, e, Int.toNat_of_nonneg hz.1])
    subst hvl
    refine ⟨some a, cap, bs, rfl, ⟨by omega, dall_of_at fun i hi => (hvs i hi).1⟩, fun i hi => ?_⟩
    have hp := dplain_addr (by decide) (hvs 0 (by omega)).2
    have h1 := (hvs i hi).2
    rw [hp, add_plain] at h1
    obtain ⟨_, h2⟩ := dcells_plain h1
    have h3 := h2 0 (by decide)
    simp only [Nat.add_zero, Nat.mul_one] at h3
    exact ⟨a.block, a.off, by rw [← hp], h3⟩

set_option maxRecDepth 100000 in
theorem openBlks {fuel : Nat} {cs : List Value} {x : DataW H × List MemPlace} (h : DataW.trod enc Try.prog w base spare held fuel 47 cs = some x) :
    ∃ (a : Option Addr) (cap : Nat) (ls : List (List Nat)), cs = [.slice a ls.length cap] ∧ ls.length ≤ maxLen ∧ (∀ b, b ∈ ls → BOk b) ∧ BlksAt w a ls := by
  rcases open_slice Try.underlying47 h with ⟨rfl, _⟩ | ⟨a, len, cap, m, n, D, Pl, rfl, hb, hl, hm, hmm, _, hx⟩
  · exact ⟨none, 0, [], rfl, Nat.zero_le _, fun v hv => (by cases hv), fun i hi => absurd hi (Nat.not_lt_zero _)⟩
  · rw [dcellsBytes] at hx
    have hle : len ≤ m := by rw [hmm]; split <;> omega
    obtain ⟨ls, hvl, hvs⟩ := dlist_of (α := List Nat) (n := len) (p := fun i b => BOk b ∧ ∃ a' cap', w.cells? base (a.add (i * 1)) 1 = some [.slice a' b.length cap'] ∧ BytesAt w a' b) (fun i hi => by
      obtain ⟨cs', h1, h2⟩ := hx i (by omega)
      obtain ⟨a', cap', b, e, hok, hva⟩ := openByts h2
      exact ⟨b, hok, a', cap', by rw [h1, e], hva⟩)
    subst hvl
    refine ⟨some a, cap, ls, rfl, by omega, dall_of_at fun i hi => (hvs i hi).1, fun i hi => ?_⟩
    obtain ⟨_, _, _, hp0, _⟩ := hvs 0 (by omega)
    have hp := dplain_addr (by decide) hp0
    obtain ⟨_, a', cap', h1, hva⟩ := hvs i hi
    rw [hp, add_plain] at h1
    obtain ⟨_, h2⟩ := dcells_plain h1
    have h3 := h2 0 (by decide)
    simp only [Nat.add_zero, Nat.mul_one] at h3
    exact ⟨a.block, a.off, a', cap', by rw [← hp], h3, hva⟩

set_option maxRecDepth 100000 in
theorem openWrite {fuel : Nat} {cs : List Value} {x : DataW H × List MemPlace} (h : DataW.trod enc Try.prog w base spare held fuel 187 cs = some x) :
    ∃ (n : DW) (a : Option Addr) (cap : Nat), I64 n.block ∧ BOk n.bytes ∧ cs = [.int .i64 n.block, .slice a n.bytes.length cap] ∧ BytesAt w a n.bytes := by
  obtain ⟨xs, n, _, rfl, hl, hlen, hf⟩ := DataW.trod_struct Try.underlying187 h
  rw [dcellsWrite] at hl
  match xs, hlen, cs, hl with
  | [y0, y1], _, [c0, c1], _ =>
    have h0 := hf 0 _ rfl
    have h1 := hf 1 _ rfl
    simp [dcellsInt, dcellsBytes] at h0 h1
    obtain ⟨k, e0, rfl, w0⟩ := DataW.trod_int Try.underlying3 h0
    obtain ⟨a, cap, vs, e1, hok1, ha1⟩ := openByts h1
    simp at e0 e1
    subst e0 e1
    exact ⟨⟨k, vs⟩, a, cap, di64_of_wf w0, hok1, rfl, ha1⟩

set_option maxRecDepth 100000 in
theorem openWrites {fuel : Nat} {cs : List Value} {x : DataW H × List MemPlace} (h : DataW.trod enc Try.prog w base spare held fuel 55 cs = some x) :
    ∃ (a : Option Addr) (cap : Nat) (ls : List DW), cs = [.slice a ls.length cap] ∧ ls.length ≤ maxLen ∧ (∀ b, b ∈ ls → I64 b.block ∧ BOk b.bytes) ∧ WrsAt w a ls := by
  rcases open_slice Try.underlying55 h with ⟨rfl, _⟩ | ⟨a, len, cap, m, n, D, Pl, rfl, hb, hl, hm, hmm, _, hx⟩
  · exact ⟨none, 0, [], rfl, Nat.zero_le _, fun v hv => (by cases hv), fun i hi => absurd hi (Nat.not_lt_zero _)⟩
  · rw [dcellsWrite] at hx
    have hle : len ≤ m := by rw [hmm]; split <;> omega
    obtain ⟨ls, hvl, hvs⟩ := dlist_of (α := DW) (n := len) (p := fun i b => (I64 b.block ∧ BOk b.bytes) ∧ ∃ a' cap', w.cells? base (a.add (i * 2)) 2 = some [.int .i64 b.block, .slice a' b.bytes.length cap'] ∧ BytesAt w a' b.bytes) (fun i hi => by
      obtain ⟨cs', h1, h2⟩ := hx i (by omega)
      obtain ⟨b, a', cap', hi1, hok, e, hva⟩ := openWrite h2
      exact ⟨b, ⟨hi1, hok⟩, a', cap', by rw [h1, e], hva⟩)
    subst hvl
    refine ⟨some a, cap, ls, rfl, by omega, dall_of_at fun i hi => (hvs i hi).1, fun i hi => ?_⟩
    obtain ⟨_, _, _, hp0, _⟩ := hvs 0 (by omega)
    have hp := dplain_addr (by decide) hp0
    obtain ⟨_, a', cap', h1, hva⟩ := hvs i hi
    rw [hp, add_plain] at h1
    obtain ⟨_, h2⟩ := dcells_plain h1
    exact ⟨a.block, a.off, a', cap', by rw [← hp], h2 0 (by decide), h2 1 (by decide), hva⟩

set_option maxRecDepth 100000 in
theorem openDisk {v : Value} {d : DataW H} {ps : List MemPlace} {r : Reach} {bs : Nat} (hv : Value.okWide Try.prog w r bs 57 v) (h : DataW.Trod enc Try.prog w base spare held 57 v d ps) :
    ∃ (g : DD) (l : DL), g.Ok ∧ v = g.val l ∧ DAt w l g := by
  unfold Value.okWide at hv
  rw [Try.underlying57] at hv
  obtain ⟨cs, rfl, hsz, _⟩ := hv
  obtain ⟨fuel, h⟩ := h
  obtain ⟨xs, n, _, _, hl, hlen, hf⟩ := DataW.trod_struct Try.underlying57 h
  rw [dcellsDisk] at hsz
  obtain ⟨l⟩ := cs
  match xs, hlen, l, hsz with
  | [y0, y1], _, [c0, c1], _ =>
    have h0 := hf 0 _ rfl
    have h1 := hf 1 _ rfl
    simp [dcellsBlks, dcellsWrites, Value.cells] at h0 h1
    obtain ⟨a, cap, ls, e0, hl0, hb0, ha0⟩ := openBlks h0
    obtain ⟨a', cap', ws, e1, hl1, hw1, ha1⟩ := openWrites h1
    simp at e0 e1
    subst e0 e1
    exact ⟨⟨ls, ws⟩, ⟨a, cap, a', cap'⟩, ⟨hl0, hb0, hl1, fun x hx => (hw1 x hx).1, fun x hx => (hw1 x hx).2⟩, rfl, ha0, ha1⟩

end
end Go.Proofs.Ythjddpkegooobab

/-
  DONE: the row of FnExactNewest, proved. Own work.
-/
namespace Go.Proofs.Ythjddpkegooobab
open Go.ChangeShapes Go.WideShapes Go.ChangeAt Go.RowKit

set_option maxRecDepth 100000 in
theorem ownNewest : ownKnob Try.prog.godebug = none := by kernel_rfl
theorem laidOutNewest : laidOutB Try.prog = true := by kernel_rfl

set_option maxRecDepth 100000 in
theorem liftedNewest (os : Os) (started : os.Started) (H : Type) (enc : TypeId × Value → H) :
    ReturnsInHanded {} Try.checked os 13 .any (Rows.fnExactNewestSpec.pre6 enc Try.prog Try.f13 Rows.fnExactNewestRow.domain false) (Rows.fnExactNewestSpec.post enc Try.prog Try.f13 false true false false) := by
  refine returnsInHanded_of_change (C := Try.checked) ownNewest started (by kernel_rfl) Try.func13
    (ChangeSpec.witness6 (enc := enc) (C := Try.checked) false ⟨#[], #[.agg #[.slice none 0 0, .slice none 0 0]], []⟩ 8 (by kernel_rfl) (by kernel_rfl) (by kernel_rfl) (by kernel_rfl)) ?_
  intro W base args ds gs before hval0 hW hcnd _
  have hval : ∀ (j : Nat) t v, Try.f13.params[j]? = some t → args[j]? = some v → Value.okWide Try.prog W .any base t v := hval0
  have hW' := hW
  obtain ⟨p, q, hA0, hV, rfl, hfz, hnd⟩ := hW
  have hA : DataW.TrodAll enc Try.prog W 0 (fun _ => true) true Try.f13.params.toList args.toList ds p := hA0
  rw [Try.params13] at hA hval
  obtain ⟨v0, vs0, d0, ds0, p0, q0, hargs, rfl, rfl, h0, r0⟩ := trodAll_cons hA
  obtain ⟨rfl, rfl, rfl⟩ := trodAll_nil r0
  obtain rfl : args = #[v0] := by cases args; simp_all
  obtain ⟨rfl, rfl⟩ := trodVars_none hV
  have k0 := h0
  have lt0 : ∀ x ∈ p0, x.block < W.heap.size := by obtain ⟨m, hm⟩ := k0; exact DataW.trod_lt m _ _ _ hm
  obtain ⟨g, l, hg, rfl, ha⟩ := openDisk (hval 0 57 v0 rfl rfl) h0
  clear hA0 hval0
  refine (lawNewest g l W hg ha).mono fun e W' ⟨he, bel⟩ => ?_
  subst he
  exact ⟨_, rfl, _, _, _, [], _, [], hW', trodAll_mk1 (shut_bool Try.underlying4 _), (trodAll_cons_mk (Below.trod laidOutNewest (by kernel_rfl) (of_decide_eq_true (by kernel_rfl)) k0 bel lt0) trodAll_mk0), rfl, bel.frame _, fun h => by cases h⟩

set_option maxRecDepth 100000 in
theorem newest_holds : Rows.FnExactNewestSaid :=
  OpenClaim.holds_of_wide 13 Try.f13 rfl rfl rfl rfl rfl rfl rfl ⟨rfl, rfl, rfl, rfl, rfl⟩ rfl rfl rfl rfl rfl (by kernel_rfl) Try.func13 (by kernel_rfl)
    (of_decide_eq_true (by kernel_rfl)) (by unfold Func.isWrapper; first | (rw [if_pos (by decide +kernel)]; kernel_rfl) | (rw [if_neg (by decide +kernel)]; exact ⟨rfl, rfl⟩))
    (fun os started H enc _ => liftedNewest os started H enc)

end Go.Proofs.Ythjddpkegooobab
