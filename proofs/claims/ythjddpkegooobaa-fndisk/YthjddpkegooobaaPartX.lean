import Derived.Deep.AppendLies
import Derived.Test.YthjddpkegooobaaPartS

/-
  SIMAGE: the specification's slots. Own work.
-/
namespace Go.Proofs.Ythjddpkegooobaa
open Go.RowKit

/-- a struct of four cells, that may be written -/
structure V4 (w : World) (R : Nat) (a b c d : Value) : Prop where
  lt : R < w.heap.size
  c0 : w.cell? ⟨R, 0, none⟩ = some a
  c1 : w.cell? ⟨R, 1, none⟩ = some b
  c2 : w.cell? ⟨R, 2, none⟩ = some c
  c3 : w.cell? ⟨R, 3, none⟩ = some d
  f : ∀ o, w.frozen? ⟨R, o, none⟩ = false
theorem V4.kept {p : Nat → Prop} {w w' : World} {R : Nat} {a b c d : Value} (h : V4 w R a b c d) (k : Kept p w w') (hn : ¬ p R) : V4 w' R a b c d :=
  ⟨Nat.lt_of_lt_of_le h.lt k.size, k.cell h.c0 hn, k.cell h.c1 hn, k.cell h.c2 hn, k.cell h.c3 hn, fun o => (World.frozen?_of_block (w := w) (a := ⟨R, o, none⟩) (k.block R h.lt hn)).trans (h.f o)⟩
theorem V4.grow {w w' : World} {R : Nat} {a b c d : Value} (h : V4 w R a b c d) (k : Below w.heap.size w w') : V4 w' R a b c d := h.kept (Kept.of_below k (fun _ => False)) (fun e => e)
theorem V4.new_at (w : World) (a b c d : Value) (t : TypeId) (R : Nat) (hR : R = w.heap.size) : V4 (w.alloc (.cells #[a, b, c, d] t)) R a b c d := by
  subst hR
  exact ⟨by simp, by simp, by simp, by simp, by simp, fun o => by simp⟩
theorem retV4 {w : World} {R : Nat} {a b c d : Value} (hv : V4 w R a b c d) (A B C D : Value) :
    (w.setCell ⟨R, 0, none⟩ A).cell? ⟨R, 0, none⟩ = some A ∧ ((w.setCell ⟨R, 0, none⟩ A).setCell ⟨R, 1, none⟩ B).cell? ⟨R, 1, none⟩ = some B ∧ (((w.setCell ⟨R, 0, none⟩ A).setCell ⟨R, 1, none⟩ B).setCell ⟨R, 2, none⟩ C).cell? ⟨R, 2, none⟩ = some C ∧ ((((w.setCell ⟨R, 0, none⟩ A).setCell ⟨R, 1, none⟩ B).setCell ⟨R, 2, none⟩ C).setCell ⟨R, 3, none⟩ D).cell? ⟨R, 3, none⟩ = some D ∧
      Kept (fun b => b = R) w ((((w.setCell ⟨R, 0, none⟩ A).setCell ⟨R, 1, none⟩ B).setCell ⟨R, 2, none⟩ C).setCell ⟨R, 3, none⟩ D) := by
  refine ⟨World.cell?_setCell_same _ _ _ hv.c0, World.cell?_setCell_same _ _ _ ((World.cell?_setCell_other _ _ _ _ (by simp)).trans hv.c1), World.cell?_setCell_same _ _ _ (((World.cell?_setCell_other _ _ _ _ (by simp)).trans (World.cell?_setCell_other _ _ _ _ (by simp))).trans hv.c2), World.cell?_setCell_same _ _ _ ((((World.cell?_setCell_other _ _ _ _ (by simp)).trans (World.cell?_setCell_other _ _ _ _ (by simp))).trans (World.cell?_setCell_other _ _ _ _ (by simp))).trans hv.c3), ?_⟩
  exact ((((Kept.refl (fun b => b = R) w).set (a := ⟨R, 0, none⟩) (fun _ => rfl) A).set (a := ⟨R, 1, none⟩) (fun _ => rfl) B).set (a := ⟨R, 2, none⟩) (fun _ => rfl) C).set (a := ⟨R, 3, none⟩) (fun _ => rfl) D

theorem add_plainH (g off j : Nat) : Addr.add ⟨g, off, none⟩ j = ⟨g, off + j, none⟩ := by simp [Addr.add]
theorem bytes_news {w : World} {g off : Nat} {bs : List Nat} (h : BytesAt w (some ⟨g, off, none⟩) bs) : ∀ j u, (bcells bs)[j]? = some u → w.cell? (Addr.add ⟨g, off, none⟩ j) = some u := fun j u hu => by
  have hj : j < bs.length := by
    have := (List.getElem?_eq_some_iff.1 hu).1
    rwa [bcells_length] at this
  obtain ⟨b', off', e, hc⟩ := h j hj
  injection e with e
  injection e with e1 e2
  subst e1
  subst e2
  rw [bcells_get hj] at hu
  injection hu with hu
  rw [← hu, add_plainH]
  exact hc
theorem bcells_append (a b : List Nat) : bcells (a ++ b) = bcells a ++ bcells b := by simp [bcells]
theorem bytes_some {w : World} {oa : Option Addr} {bs : List Nat} (h : BytesAt w oa bs) (hl : 0 < bs.length) : ∃ g off, oa = some ⟨g, off, none⟩ ∧ g < w.heap.size := by
  obtain ⟨b, off, e, hc⟩ := h 0 hl
  exact ⟨b, off, e, World.block_lt_of_cell? _ _ hc⟩

theorem ownsRow_nilH (w : World) (base : Nat) (e : TypeId) : w.ownsRow base e 1 (.slice none 0 0) 0 (bcells []) := ⟨rfl, Or.inl ⟨rfl, rfl⟩⟩

/-- what is kept in a slot, as it is handed back -/
def KPost (k : KK) (w : World) (e : Ending) (w' : World) : Prop := ∃ oa c, e = .returned (k.val oa c) ∧ Hid (k.bytes.length ≤ c) ∧ BytesAt w' oa k.bytes ∧ (∀ g off, oa = some ⟨g, off, none⟩ → w.heap.size ≤ g) ∧ Below w.heap.size w w'
theorem KPost.no {w w' : World} (h : Below w.heap.size w w') : KPost noK w (.returned (.agg #[.bool false, .int .i64 0, .int .i64 0, .slice none 0 0])) w' := ⟨none, 0, rfl, Nat.le_refl _, fun i hi => absurd hi (Nat.not_lt_zero _), fun _ _ e => (by cases e), h⟩

theorem BytesAt.keptH {p : Nat → Prop} {w w' : World} {a : Option Addr} {bs : List Nat} (h : BytesAt w a bs) (k : Kept p w w') (hn : ∀ g off, a = some ⟨g, off, none⟩ → ¬ p g) : BytesAt w' a bs := fun i hi => by
  obtain ⟨b, off, ha, hc⟩ := h i hi
  exact ⟨b, off, ha, k.cell hc (hn b off ha)⟩
theorem BytesAt.takeH {w : World} {oa : Option Addr} {xs : List Nat} (h : BytesAt w oa xs) (n : Nat) : BytesAt w oa (xs.take n) := fun i hi => by
  have h1 : i < n ∧ i < xs.length := by rw [List.length_take] at hi; omega
  obtain ⟨b, off, e, hc⟩ := h i h1.2
  refine ⟨b, off, e, ?_⟩
  rw [getElem!_pos _ i hi, List.getElem_take, ← getElem!_pos xs i h1.2]
  exact hc
theorem calls_argsS {P : Program} {f : Nat} {a b : Array Value} {w : World} {Q : Ending → World → Prop} (h : Calls P f a w Q) (e : a = b) : Calls P f b w Q := by subst e; exact h

set_option maxRecDepth 100000 in
theorem l4first_any (m : Nat) (w : World) (hm : m < 2) : Calls Try.prog 165 #[.int .i64 (m : Int)] w fun e w' => e = .returned (.int .i64 (firstOf m : Nat)) ∧ Below w.heap.size w w' := by
  go_enter Try.func165, Try.ntmps165
  go_wp2
  go_ret
  exact ⟨congrArg (fun z => Ending.returned (.int .i64 z)) (by simp only [firstOf]; first | omega | (unfold wrap64; omega)), gre _⟩

set_option maxHeartbeats 2000000 in
set_option maxRecDepth 100000 in
theorem l4image_any (d : DD) (l : DL) (m : Nat) (w : World) (hf : d.Fit) (ho : d.Ok) (ha : DAt w l d) (hm : m < 2) :
    Calls Try.prog 168 #[d.val l, .int .i64 (m : Int)] w (KPost (d.slotOf m) w) := by
  have hA := gal (gal (gre w) (.cells #[.slice l.ba d.blocks.length l.bc, .slice l.wa d.waiting.length l.wc] 44)) (.cells #[.bool false, .int .i64 0, .int .i64 0, .slice none 0 0] 196)
  have hX0 := (DBox.new w d l 44).grow (gal (gre _) (.cells #[.bool false, .int .i64 0, .int .i64 0, .slice none 0 0] 196))
  have hR0 := V4.new_at (w.alloc (.cells #[.slice l.ba d.blocks.length l.bc, .slice l.wa d.waiting.length l.wc] 44)) (.bool false) (.int .i64 0) (.int .i64 0) (.slice none 0 0) 196 (w.heap.size + 1) (by simp)
  obtain ⟨h, hh⟩ := hid_ex (headOf (d.rd m))
  rcases headOf_cases (d.rd m) with hi | hi
  · rw [← hh.out] at hi
    obtain ⟨ok, gen, len, sum⟩ := h
    obtain ⟨rfl, hrng, hsum, heq⟩ := hi
    have hr := rng_i64 hrng
    simp only at hr
    obtain ⟨n, rfl⟩ : ∃ n : Nat, len = (n : Int) := ⟨len.toNat, by omega⟩
    clear hrng heq
    obtain ⟨img, himg⟩ := hid_ex (d.img m n)
    have hsl : Hid (d.slotOf m = if wrap64 (sumN img : Int) = sum then ⟨true, gen, (m : Int), img⟩ else noK) := by
      show _ = _
      unfold DD.slotOf
      rw [← hh.out, himg.out]
      simp
    obtain ⟨i0, hi0, hz0, hz1, hz2⟩ := info_parts info_u8
    go_enter Try.func168, Try.ntmps168
    go_wp2_with (go_at_call 163; refine (l4head_any d l m _ hf ho (ha.grow hA) (by omega)).mono ?_; rw [← hh.out]; rintro e w1 ⟨rfl, hb1⟩)
    have hHb := HBox.new w1 true gen (n : Int) sum 55
    have hb2 := gal hb1 (.cells #[.bool true, .int .i64 gen, .int .i64 (n : Int), .int .i64 sum] 55)
    have hX2 := hX0.grow hb2
    have hR2 := hR0.grow hb2
    have hA2 := gca hA hb2
    have hRl := (hR0.grow hb1).lt
    generalize w1.alloc (.cells #[.bool true, .int .i64 gen, .int .i64 (n : Int), .int .i64 sum] 55) = wH at hHb hb2 hX2 hR2 hA2 ⊢
    generalize w1.heap.size = H at hHb hRl ⊢
    clear hb1 hb2 hX0 hR0 hA
    have hHl := hHb.lt
    go_loopw [6, 7] (fun a k wr => ∃ (j : Nat) (oa : Option Addr) (c : Nat), a = .slice oa (64 * j) c ∧ k = .int .i64 (j : Int) ∧ j ≤ 64 ∧ 64 * j < n + 64 ∧ wr.ownsRow wH.heap.size 5 1 (.slice oa (64 * j) c) (64 * j) (bcells (d.cat (firstOf m) j)) ∧ Below wH.heap.size wH wr) (fun _ k _ => 64 - (intOf k).toNat)
    case atStart => exact ⟨0, none, 0, rfl, rfl, by omega, by omega, ownsRow_nilH _ _ _, gre _⟩
    case round =>
      obtain ⟨j, oa, c, rfl, rfl, hj, hjn, hO, hb⟩ := hrel
      obtain ⟨_, p0, p1, p2, p3⟩ := hHb.kept (Kept.of_below hb (fun _ => False)) (fun e => e)
      have hXr := hX2.grow hb
      obtain ⟨_, z0, z1, z2, z3, zf⟩ := hR2.grow hb
      by_cases hlt : 64 * j < n
      · have hd : ((64 * j : Nat) : Int) < (n : Int) := by omega
        have hd2 : (64 : Int) * (j : Int) < (n : Int) := by omega
        go_wp2_with (go_quiet (fail))
        have hB : Below wr.heap.size wr wr.drew := gdr (gre _)
        refine wp_regionU (fun u => DBox u w.heap.size d l) 99 (by kernel_rfl) (hXr.grow hB) (fun _ => ?_)
        refine anyU_take (i := 0) (v := ?_) rfl (by kernel_rfl) (by kernel_rfl) (by kernel_rfl) (by kernel_rfl) (fun _ _ _ h => h) (Or.inl ⟨by rfl, ?_⟩) (hXr.grow hB) ?_
        rotate_left
        · intro u hSu; (try dsimp only at hSu); go_simp <;> with_reducible rfl
        simp only [Act.put, List.getElem_toArray, List.getElem_cons_zero, List.setIfInBounds_toArray, List.set_cons_zero, List.set_cons_succ]
        refine anyU_take (i := 1) (v := ?_) rfl (by kernel_rfl) (by kernel_rfl) (by kernel_rfl) (by kernel_rfl) (fun _ _ _ h => h) (Or.inl ⟨by rfl, ?_⟩) (hXr.grow hB) ?_
        rotate_left
        · intro u hSu; obtain ⟨_, s0, s1⟩ := hSu; go_simp <;> with_reducible rfl
        simp only [Act.put, List.getElem_toArray, List.getElem_cons_zero, List.getElem_cons_succ, List.setIfInBounds_toArray, List.set_cons_zero, List.set_cons_succ]
        refine anyU_take (i := 2) (v := ?_) rfl (by kernel_rfl) (by kernel_rfl) (by kernel_rfl) (by kernel_rfl) (fun _ _ _ h => h) (Or.inl ⟨by rfl, ?_⟩) (hXr.grow hB) ?_
        rotate_left
        · intro u hSu; (try dsimp only at hSu); go_simp <;> with_reducible rfl
        simp only [Act.put, List.getElem_toArray, List.getElem_cons_zero, List.getElem_cons_succ, List.setIfInBounds_toArray, List.set_cons_zero, List.set_cons_succ]
        refine anyU_take (i := 4) (v := ?_) rfl (by kernel_rfl) (by kernel_rfl) (by kernel_rfl) (by kernel_rfl) (fun _ _ _ h => h) (Or.inl ⟨by rfl, ?_⟩) (hXr.grow hB) ?_
        rotate_left
        · intro u hSu; (try dsimp only at hSu); go_simp <;> with_reducible rfl
        simp only [Act.put, List.getElem_toArray, List.getElem_cons_zero, List.getElem_cons_succ, List.setIfInBounds_toArray, List.set_cons_zero, List.set_cons_succ]
        refine anyU_one (i := 3) (by kernel_rfl) rfl (fun K hK => ?_)
        go_simp
        refine (l4first_any m _ hm).mono ?_
        rintro e w3 ⟨rfl, hb3⟩
        have hB := gca hB hb3
        refine hK.out _ _ (hXr.grow hB) ?_
        clear hK
        refine anyU_one (i := 5) (by kernel_rfl) rfl (fun K hK => ?_)
        go_simp
        refine hK.out _ _ (hXr.grow hB) ?_
        clear hK
        have hrd := DD.rd_len hf (m := firstOf m + j) (by unfold firstOf; omega)
        obtain ⟨bs, hbs⟩ := hid_ex (d.rd (firstOf m + j))
        have hwr : IntKind.i64.wrap ((firstOf m : Nat) + (j : Int)) = ((firstOf m + j : Nat) : Int) := by rw [IntKind.wrap_i64]; unfold firstOf; omega
        have hbl : Hid (bs.length = 64) := by show _ = _; rw [hbs.out]; exact hrd
        refine anyU_one (i := 6) (by kernel_rfl) rfl (fun K hK => ?_)
        go_simp
        refine (calls_argsS (l3read_own d l (firstOf m + j) w3 hf (ha.grow (gca (gca hA2 hb) hB)) (by unfold firstOf; omega)) (by first | (rw [Int.natCast_add]; done) | (rw [Int.natCast_add]; rfl) | rw [hwr])).mono ?_
        rw [show readN d.blocks d.waiting ((firstOf m + j : Nat) : Int) d.waiting.length = bs from hbs.out.symm]
        rintro e w4 ⟨oa4, c4, rfl, hO4, hb4⟩
        have hB := gca hB hb4
        refine hK.out _ _ (hXr.grow hB) ?_
        clear hK
        have hO5 := (Kept.of_below hB (fun _ => False)).owns hO (fun _ _ e => e)
        obtain ⟨g4, off4, rfl, hg4⟩ := bytes_some (owns_bytes hO4) (by rw [hbl.out]; decide)
        have hn5 := bytes_news (owns_bytes hO4)
        have hs5 := hB.size
        have hsH := hb.size
        refine anyU_one (i := 7) (by kernel_rfl) rfl (fun K hK => ?_)
        refine step_append_lies _ (by rfl) (.tmp 22) (.tmp 28) 22 rfl wH.heap.size 5 i0 (.int .u8 0) 1 1 Try.underlying22 hi0 hz0 hz1 hz2 rfl (by decide) (.slice oa (64 * j) c) (64 * j) (bcells (d.cat (firstOf m) j)) (by rfl) hO5 ⟨g4, off4, none⟩ bs.length c4 (bcells bs) (by rfl) (by rw [bcells_length, Nat.mul_one]) hn5 cells_u8 (by rw [hbl.out]; decide) (by rw [hbl.out]; unfold maxLen; omega) (by rw [hbl.out]; omega) (by omega) w4.heap.size rfl ?_
        intro gg cc w6 hown6 hgrow6 hat6 hlt6
        have K6 := Kept.of_grown hgrow6
        have hX6 := (hXr.grow hB).kept K6 (fun e => by have := (hO5.lt _ e).1; have := hX2.lt; omega)
        refine hK.out _ _ hX6 ?_
        clear hK
        simp only [Act.put, List.getElem_toArray, List.getElem_cons_zero, List.getElem_cons_succ, List.setIfInBounds_toArray, List.set_cons_zero, List.set_cons_succ]
        refine anyU_one (i := 8) (by kernel_rfl) rfl (fun K hK => ?_)
        go_simp
        refine hK.out _ _ hX6 ?_
        clear hK
        refine anyU_done (by kernel_rfl) ?_
        have hb6 : Below wH.heap.size wH w6 := (hb.trans (hB.mono hsH)).trans (K6.below (B := wH.heap.size) (by omega) (fun k hk e => by have := (hO5.lt _ e).1; omega))
        rw [← bcells_append, hbl.out] at hown6
        have hcat : d.cat (firstOf m) j ++ bs = d.cat (firstOf m) (j + 1) := by rw [hbs.out]; rfl
        rw [hcat, show 64 * j + 64 = 64 * (j + 1) by omega] at hown6
        rw [hbl.out, show 64 * j + 64 = 64 * (j + 1) by omega]
        go_wp2
        go_roundw
        case rel => exact ⟨j + 1, some ⟨gg, 0, none⟩, cc, rfl, by go_num, by omega, by omega, hown6, hb6⟩
        case measure => simp [intOf]; omega
      · have hd : ¬ ((64 : Int) * (j : Int) < (n : Int)) := by omega
        have hcl := DD.cat_len hf (f := firstOf m) (j := j) (by unfold firstOf; omega)
        have hcap := owns_capH hO
        have himg' : (d.cat (firstOf m) j).take n = img := by rw [himg.out]; exact DD.img_part hf hm hj (by omega)
        have hil : Hid (img.length = n) := by show _ = _; rw [himg.out]; exact DD.img_len hf hm (by omega)
        have hib : ∀ x, x ∈ img → x < 256 := by rw [himg.out]; exact DD.img_byte hf ho hm
        have hbt : BytesAt wr oa img := by
          rw [← himg']
          rw [← hcl] at hO
          exact (owns_bytes hO).takeH n
        have hHr := hHb.kept (Kept.of_below hb (fun _ => False)) (fun e => e)
        have hRr := hR2.grow hb
        have q0 : (0 : Int) ≤ (n : Int) := by omega
        have q1 : (n : Int) ≤ (c : Int) := by omega
        clear himg' hO hcl hcap
        go_upto_region 10 with (go_quiet (fail))
        by_cases t : wrap64 (sumN img : Int) = sum
        · have t' : (IntKind.i64.wrap (sumN img : Int) != sum) = false := by rw [← wrap64_eq, t]; simp
          have hsl2 : Hid (d.slotOf m = ⟨true, gen, (m : Int), img⟩) := hsl.out.trans (if_pos t)
          clear t
          have hB : Below wr.heap.size wr wr.drew := gdr (gre _)
          refine wp_regionU (fun u => HBox u H true gen (n : Int) sum) 99 (by kernel_rfl) (hHr.kept (Kept.of_below hB (fun _ => False)) (fun e => e)) (fun _ => ?_)
          refine anyU_take (i := 0) (v := ?_) rfl (by kernel_rfl) (by kernel_rfl) (by kernel_rfl) (by kernel_rfl) (fun _ _ _ h => h) (Or.inl ⟨by rfl, ?_⟩) (hHr.kept (Kept.of_below hB (fun _ => False)) (fun e => e)) ?_
          rotate_left
          · intro u hSu; (try dsimp only at hSu); go_simp <;> with_reducible rfl
          simp only [Act.put, List.getElem_toArray, List.getElem_cons_zero, List.setIfInBounds_toArray, List.set_cons_zero, List.set_cons_succ]
          refine anyU_take (i := 3) (v := ?_) rfl (by kernel_rfl) (by kernel_rfl) (by kernel_rfl) (by kernel_rfl) (fun _ _ _ h => h) (Or.inl ⟨by rfl, ?_⟩) (hHr.kept (Kept.of_below hB (fun _ => False)) (fun e => e)) ?_
          rotate_left
          · intro u hSu; (try dsimp only at hSu); go_simp <;> with_reducible rfl
          simp only [Act.put, List.getElem_toArray, List.getElem_cons_zero, List.getElem_cons_succ, List.setIfInBounds_toArray, List.set_cons_zero, List.set_cons_succ]
          refine anyU_take (i := 4) (v := ?_) rfl (by kernel_rfl) (by kernel_rfl) (by kernel_rfl) (by kernel_rfl) (fun _ _ _ h => h) (Or.inl ⟨by rfl, ?_⟩) (hHr.kept (Kept.of_below hB (fun _ => False)) (fun e => e)) ?_
          rotate_left
          · intro u hSu; obtain ⟨_, s0, s1, s2, s3⟩ := hSu; go_simp <;> with_reducible rfl
          simp only [Act.put, List.getElem_toArray, List.getElem_cons_zero, List.getElem_cons_succ, List.setIfInBounds_toArray, List.set_cons_zero, List.set_cons_succ]
          refine anyU_one (i := 1) (by kernel_rfl) rfl (fun K hK => ?_)
          go_simp
          refine (calls_argsS (l2sum_any oa img c _ (hbt.grow hB) (by rw [hil.out]; unfold maxLen; omega) hib) (by rw [hil.out])).mono ?_
          rintro e w3 ⟨rfl, hb3⟩
          have hB := gca hB hb3
          refine hK.out _ _ (hHr.kept (Kept.of_below hB (fun _ => False)) (fun e => e)) ?_
          clear hK
          refine anyU_one (i := 2) (by kernel_rfl) rfl (fun K hK => ?_)
          go_simp
          refine hK.out _ _ (hHr.kept (Kept.of_below hB (fun _ => False)) (fun e => e)) ?_
          clear hK
          refine anyU_one (i := 5) (by kernel_rfl) rfl (fun K hK => ?_)
          go_simp
          refine hK.out _ _ (hHr.kept (Kept.of_below hB (fun _ => False)) (fun e => e)) ?_
          clear hK
          refine anyU_done (by kernel_rfl) ?_
          have hRf := hRr.grow hB
          have hBf := gca (gca hA2 hb) hB
          obtain ⟨_, z0, z1, z2, z3, zf⟩ := id hRf
          have hH3 := hHr.kept (Kept.of_below hB (fun _ => False)) (fun e => e)
          have hb3t := hbt.grow hB
          go_upto_region 12 with fail
          have hB2 : Below w3.heap.size w3 w3.drew := gdr (gre _)
          refine wp_regionU (fun u => HBox u H true gen (n : Int) sum) 6 (by kernel_rfl) (hH3.kept (Kept.of_below hB2 (fun _ => False)) (fun e => e)) (fun _ => ?_)
          refine anyU_take (i := 0) (v := ?_) rfl (by kernel_rfl) (by kernel_rfl) (by kernel_rfl) (by kernel_rfl) (fun _ _ _ h => h) (Or.inl ⟨by rfl, ?_⟩) (hH3.kept (Kept.of_below hB2 (fun _ => False)) (fun e => e)) ?_
          rotate_left
          · intro u hSu; (try dsimp only at hSu); go_simp <;> with_reducible rfl
          simp only [Act.put, List.getElem_toArray, List.getElem_cons_zero, List.setIfInBounds_toArray, List.set_cons_zero, List.set_cons_succ]
          refine anyU_take (i := 1) (v := ?_) rfl (by kernel_rfl) (by kernel_rfl) (by kernel_rfl) (by kernel_rfl) (fun _ _ _ h => h) (Or.inl ⟨by rfl, ?_⟩) (hH3.kept (Kept.of_below hB2 (fun _ => False)) (fun e => e)) ?_
          rotate_left
          · intro u hSu; obtain ⟨_, s0, s1, s2, s3⟩ := hSu; go_simp <;> with_reducible rfl
          simp only [Act.put, List.getElem_toArray, List.getElem_cons_zero, List.getElem_cons_succ, List.setIfInBounds_toArray, List.set_cons_zero, List.set_cons_succ]
          refine anyU_take (i := 2) (v := ?_) rfl (by kernel_rfl) (by kernel_rfl) (by kernel_rfl) (by kernel_rfl) (fun _ _ _ h => h) (Or.inl ⟨by rfl, ?_⟩) (hH3.kept (Kept.of_below hB2 (fun _ => False)) (fun e => e)) ?_
          rotate_left
          · intro u hSu; (try dsimp only at hSu); go_simp <;> with_reducible rfl
          simp only [Act.put, List.getElem_toArray, List.getElem_cons_zero, List.getElem_cons_succ, List.setIfInBounds_toArray, List.set_cons_zero, List.set_cons_succ]
          refine anyU_take (i := 3) (v := ?_) rfl (by kernel_rfl) (by kernel_rfl) (by kernel_rfl) (by kernel_rfl) (fun _ _ _ h => h) (Or.inl ⟨by rfl, ?_⟩) (hH3.kept (Kept.of_below hB2 (fun _ => False)) (fun e => e)) ?_
          rotate_left
          · intro u hSu; (try dsimp only at hSu); go_simp <;> with_reducible rfl
          simp only [Act.put, List.getElem_toArray, List.getElem_cons_zero, List.getElem_cons_succ, List.setIfInBounds_toArray, List.set_cons_zero, List.set_cons_succ]
          refine anyU_one (i := 4) (by kernel_rfl) rfl (fun K hK => ?_)
          go_simp
          refine (calls_argsS (l2copy_any oa img c _ (by rw [hil.out]; omega) (hb3t.grow hB2)) (by rw [hil.out])).mono ?_
          rintro e w5 ⟨oa5, c5, rfl, hO5, hb5⟩
          have hB2 := gca hB2 hb5
          refine hK.out _ _ (hH3.kept (Kept.of_below hB2 (fun _ => False)) (fun e => e)) ?_
          clear hK
          refine anyU_one (i := 5) (by kernel_rfl) rfl (fun K hK => ?_)
          go_simp
          refine hK.out _ _ (hH3.kept (Kept.of_below hB2 (fun _ => False)) (fun e => e)) ?_
          clear hK
          have hRg := hRf.grow hB2
          obtain ⟨_, z0, z1, z2, z3, zf⟩ := id hRg
          refine anyU_last (by kernel_rfl) rfl (by kernel_rfl) (fun K hK => ?_)
          go_simp
          refine hK.out _ _ ?_
          clear hK
          have hBg := gca hBf hB2
          go_wp2
          obtain ⟨c0, c1, c2, c3, K⟩ := retV4 hRg (.bool true) (.int .i64 gen) (.int .i64 (m : Int)) (.slice oa5 img.length c5)
          refine bodyPost_ret (v := .agg #[.bool true, .int .i64 gen, .int .i64 (m : Int), .slice oa5 img.length c5]) (by simp [results, Try.results168, go_sem, c0, c1, c2, c3]) rfl ⟨oa5, c5, by rw [hsl2.out], (by show _ ≤ c5; rw [hsl2.out]; exact owns_capH hO5), ?_, fun g off e => (by have h5 := hO5.lt g (by rw [e]; rfl); have := hH3.lt; have : w3.drew.heap.size = w3.heap.size := rfl; omega), hBg.trans (K.below (B := w.heap.size) hBg.size (fun k hk e => by omega))⟩
          rw [hsl2.out]
          exact (owns_bytes hO5).keptH K (fun g off e hp => by
            have h5 := hO5.lt g (by rw [e]; rfl)
            have := hH3.lt
            have := hB.size
            have : w3.drew.heap.size = w3.heap.size := rfl
            omega)
        · have t' : (IntKind.i64.wrap (sumN img : Int) != sum) = true := by rw [← wrap64_eq]; simpa using t
          have hsl2 : Hid (d.slotOf m = noK) := hsl.out.trans (if_neg t)
          clear t
          have hB : Below wr.heap.size wr wr.drew := gdr (gre _)
          refine wp_regionU (fun u => HBox u H true gen (n : Int) sum) 99 (by kernel_rfl) (hHr.kept (Kept.of_below hB (fun _ => False)) (fun e => e)) (fun _ => ?_)
          refine anyU_take (i := 0) (v := ?_) rfl (by kernel_rfl) (by kernel_rfl) (by kernel_rfl) (by kernel_rfl) (fun _ _ _ h => h) (Or.inl ⟨by rfl, ?_⟩) (hHr.kept (Kept.of_below hB (fun _ => False)) (fun e => e)) ?_
          rotate_left
          · intro u hSu; (try dsimp only at hSu); go_simp <;> with_reducible rfl
          simp only [Act.put, List.getElem_toArray, List.getElem_cons_zero, List.setIfInBounds_toArray, List.set_cons_zero, List.set_cons_succ]
          refine anyU_take (i := 3) (v := ?_) rfl (by kernel_rfl) (by kernel_rfl) (by kernel_rfl) (by kernel_rfl) (fun _ _ _ h => h) (Or.inl ⟨by rfl, ?_⟩) (hHr.kept (Kept.of_below hB (fun _ => False)) (fun e => e)) ?_
          rotate_left
          · intro u hSu; (try dsimp only at hSu); go_simp <;> with_reducible rfl
          simp only [Act.put, List.getElem_toArray, List.getElem_cons_zero, List.getElem_cons_succ, List.setIfInBounds_toArray, List.set_cons_zero, List.set_cons_succ]
          refine anyU_take (i := 4) (v := ?_) rfl (by kernel_rfl) (by kernel_rfl) (by kernel_rfl) (by kernel_rfl) (fun _ _ _ h => h) (Or.inl ⟨by rfl, ?_⟩) (hHr.kept (Kept.of_below hB (fun _ => False)) (fun e => e)) ?_
          rotate_left
          · intro u hSu; obtain ⟨_, s0, s1, s2, s3⟩ := hSu; go_simp <;> with_reducible rfl
          simp only [Act.put, List.getElem_toArray, List.getElem_cons_zero, List.getElem_cons_succ, List.setIfInBounds_toArray, List.set_cons_zero, List.set_cons_succ]
          refine anyU_one (i := 1) (by kernel_rfl) rfl (fun K hK => ?_)
          go_simp
          refine (calls_argsS (l2sum_any oa img c _ (hbt.grow hB) (by rw [hil.out]; unfold maxLen; omega) hib) (by rw [hil.out])).mono ?_
          rintro e w3 ⟨rfl, hb3⟩
          have hB := gca hB hb3
          refine hK.out _ _ (hHr.kept (Kept.of_below hB (fun _ => False)) (fun e => e)) ?_
          clear hK
          refine anyU_one (i := 2) (by kernel_rfl) rfl (fun K hK => ?_)
          go_simp
          refine hK.out _ _ (hHr.kept (Kept.of_below hB (fun _ => False)) (fun e => e)) ?_
          clear hK
          refine anyU_one (i := 5) (by kernel_rfl) rfl (fun K hK => ?_)
          go_simp
          refine hK.out _ _ (hHr.kept (Kept.of_below hB (fun _ => False)) (fun e => e)) ?_
          clear hK
          refine anyU_done (by kernel_rfl) ?_
          have hRf := hRr.grow hB
          have hBf := gca (gca hA2 hb) hB
          obtain ⟨_, z0, z1, z2, z3, zf⟩ := id hRf
          go_upto_region 99 with fail
          obtain ⟨c0, c1, c2, c3, K⟩ := retV4 hRf (.bool false) (.int .i64 0) (.int .i64 0) (.slice none 0 0)
          exact bodyPost_ret (v := noK.val none 0) (by simp [results, Try.results168, go_sem, c0, c1, c2, c3, noK]) rfl (by rw [hsl2.out]; exact KPost.no (hBf.trans (K.below (B := w.heap.size) hBf.size (fun k hk e => by omega))))
  · rw [show d.slotOf m = noK from if_neg (fun e => by rw [hi] at e; cases e.1)]
    go_enter Try.func168, Try.ntmps168
    go_upto_region 99 with (go_at_call 163; refine (l4head_any d l m _ hf ho (ha.grow hA) (by omega)).mono ?_; rw [hi]; rintro e w1 ⟨rfl, hb1⟩; have hR1 := (hR0.grow hb1).grow (gal (gre _) (.cells #[.bool false, .int .i64 0, .int .i64 0, .int .i64 0] 55)); obtain ⟨_, z0, z1, z2, z3, zf⟩ := id hR1)
    obtain ⟨c0, c1, c2, c3, K⟩ := retV4 hR1 (.bool false) (.int .i64 0) (.int .i64 0) (.slice none 0 0)
    have hB := gal (gca hA hb1) (.cells #[.bool false, .int .i64 0, .int .i64 0, .int .i64 0] 55)
    exact bodyPost_ret (v := noK.val none 0) (by simp [results, Try.results168, go_sem, c0, c1, c2, c3, noK]) rfl (KPost.no (hB.trans (K.below (B := w.heap.size) hB.size (fun k hk e => by omega))))

end Go.Proofs.Ythjddpkegooobaa

/-
  SNEWESTA: the specification's Newest. Own work.
-/
namespace Go.Proofs.Ythjddpkegooobaa
open Go.RowKit

abbrev KV4 (w : World) (R : Nat) (k : KK) (oa : Option Addr) (c : Nat) : Prop := V4 w R (.bool k.ok) (.int .i64 k.gen) (.int .i64 k.slot) (.slice oa k.bytes.length c)

set_option maxHeartbeats 1000000 in
set_option maxRecDepth 100000 in
theorem l4newest_any (d : DD) (l : DL) (w : World) (hf : d.Fit) (ho : d.Ok) (ha : DAt w l d) :
    Calls Try.prog 164 #[d.val l] w (KPost d.newestOf w) := by
  have hA := gal (gal (gre w) (.cells #[.slice l.ba d.blocks.length l.bc, .slice l.wa d.waiting.length l.wc] 44)) (.cells #[.bool false, .int .i64 0, .int .i64 0, .slice none 0 0] 196)
  have hX0 := (DBox.new w d l 44).grow (gal (gre _) (.cells #[.bool false, .int .i64 0, .int .i64 0, .slice none 0 0] 196))
  have hR0 := V4.new_at (w.alloc (.cells #[.slice l.ba d.blocks.length l.bc, .slice l.wa d.waiting.length l.wc] 44)) (.bool false) (.int .i64 0) (.int .i64 0) (.slice none 0 0) 196 (w.heap.size + 1) (by simp)
  obtain ⟨a, hka⟩ := hid_ex (d.slotOf 0)
  obtain ⟨b, hkb⟩ := hid_ex (d.slotOf 1)
  have hn : Hid (d.newestOf = if b.ok = true ∧ (a.ok = false ∨ a.gen < b.gen) then b else a) := by
    show _ = _
    unfold DD.newestOf
    rw [← hka.out, ← hkb.out]
  go_enter Try.func164, Try.ntmps164
  go_upto_region 2 with (go_at_call 168; refine (l4image_any d l 0 _ hf ho (ha.grow hA) (by omega)).mono ?_; rw [← hka.out]; rintro e w1 ⟨oa1, c1, rfl, hcp1, hb1t, hlo1, hb1⟩)
  have hKa := V4.new_at w1 (.bool a.ok) (.int .i64 a.gen) (.int .i64 a.slot) (.slice oa1 a.bytes.length c1) 196 w1.heap.size rfl
  have hb2 := gal hb1 (.cells #[.bool a.ok, .int .i64 a.gen, .int .i64 a.slot, .slice oa1 a.bytes.length c1] 196)
  have hat2 := hb1t.grow (gal (gre w1) (.cells #[.bool a.ok, .int .i64 a.gen, .int .i64 a.slot, .slice oa1 a.bytes.length c1] 196))
  have hX2 := hX0.grow hb2
  have hR2 := hR0.grow hb2
  have hA2 := gca hA hb2
  have hRl := (hR0.grow hb1).lt
  generalize w1.alloc (.cells #[.bool a.ok, .int .i64 a.gen, .int .i64 a.slot, .slice oa1 a.bytes.length c1] 196) = w2 at hKa hb2 hat2 hX2 hR2 hA2 ⊢
  generalize w1.heap.size = PA at hKa hRl ⊢
  clear hb1 hb2 hX0 hR0 hA hb1t
  obtain ⟨_, x0, x1⟩ := id hX2
  go_upto_region 3 with (go_at_call 168; refine (l4image_any d l 1 _ hf ho (ha.grow hA2) (by omega)).mono ?_; rw [← hkb.out]; rintro e w3 ⟨oa3, c3, rfl, hcp3, hb3t, hlo3, hb3⟩)
  have hKb := V4.new_at w3 (.bool b.ok) (.int .i64 b.gen) (.int .i64 b.slot) (.slice oa3 b.bytes.length c3) 196 w3.heap.size rfl
  have hb4 := gal hb3 (.cells #[.bool b.ok, .int .i64 b.gen, .int .i64 b.slot, .slice oa3 b.bytes.length c3] 196)
  have hbt4 := hb3t.grow (gal (gre w3) (.cells #[.bool b.ok, .int .i64 b.gen, .int .i64 b.slot, .slice oa3 b.bytes.length c3] 196))
  have hat4 := hat2.grow hb4
  have hKa4 := hKa.grow hb4
  have hR4 := hR2.grow hb4
  have hA4 := gca hA2 hb4
  have hPl := hKa.lt
  have hPs := hb3.size
  generalize w3.alloc (.cells #[.bool b.ok, .int .i64 b.gen, .int .i64 b.slot, .slice oa3 b.bytes.length c3] 196) = w4 at hKb hb4 hbt4 hat4 hKa4 hR4 hA4 ⊢
  generalize w3.heap.size = PB at hKb hPs ⊢
  clear x0 x1 hb3 hb4 hX2 hKa hR2 hat2 hb3t
  obtain ⟨_, p0, p1, p2, p3, pf⟩ := id hKa4
  obtain ⟨_, q0, q1, q2, q3, qf⟩ := id hKb
  obtain ⟨_, z0, z1, z2, z3, zf⟩ := id hR4
  have hfin : ∀ (k : KK) (oa : Option Addr) (c : Nat) (bs : List Nat), BytesAt w4 oa bs → (∀ g off, oa = some ⟨g, off, none⟩ → w.heap.size + 1 < g) → ∀ w', Kept (fun b => b = w.heap.size + 1) w4 w' → BytesAt w' oa bs ∧ (∀ g off, oa = some ⟨g, off, none⟩ → w.heap.size ≤ g) ∧ Below w.heap.size w w' := fun k oa c bs h1 h2 w' K =>
    ⟨h1.keptH K (fun g off e hp => by have := h2 g off e; omega), fun g off e => (by have := h2 g off e; omega), hA4.trans (K.below (B := w.heap.size) hA4.size (fun k hk e => by omega))⟩
  have ga1 : ∀ g off, oa1 = some ⟨g, off, none⟩ → w.heap.size + 1 < g := fun g off e => by have := hlo1 g off e; simp at this; omega
  have ga3 : ∀ g off, oa3 = some ⟨g, off, none⟩ → w.heap.size + 1 < g := fun g off e => by have := hlo3 g off e; omega
  have hsel : Hid (d.newestOf = a) ∧ b.ok = false ∨ Hid (d.newestOf = b) ∧ b.ok = true ∧ a.ok = false ∨ Hid (d.newestOf = b) ∧ b.ok = true ∧ a.ok = true ∧ a.gen < b.gen ∨ Hid (d.newestOf = a) ∧ b.ok = true ∧ a.ok = true ∧ ¬ (a.gen < b.gen) := by
    cases hbo : b.ok with
    | false => exact Or.inl ⟨hn.out.trans (if_neg (fun e => by rw [hbo] at e; cases e.1)), rfl⟩
    | true =>
      cases hao : a.ok with
      | false => exact Or.inr (Or.inl ⟨hn.out.trans (if_pos ⟨hbo, Or.inl hao⟩), rfl, rfl⟩)
      | true =>
        by_cases hg : a.gen < b.gen
        · exact Or.inr (Or.inr (Or.inl ⟨hn.out.trans (if_pos ⟨hbo, Or.inr hg⟩), rfl, rfl, hg⟩))
        · exact Or.inr (Or.inr (Or.inr ⟨hn.out.trans (if_neg (fun e => by rcases e.2 with e | e; · rw [hao] at e; cases e
                                                                          · exact hg e)), rfl, rfl, hg⟩))
  clear hn
  rcases hsel with ⟨hs, hbo⟩ | ⟨hs, hbo, hao⟩ | ⟨hs, hbo, hao, hg⟩ | ⟨hs, hbo, hao, hg⟩
  · rw [hbo] at q0
    go_upto_region 99 with fail
    obtain ⟨r0, r1, r2, r3, K⟩ := retV4 hR4 (.bool a.ok) (.int .i64 a.gen) (.int .i64 a.slot) (.slice oa1 a.bytes.length c1)
    exact bodyPost_ret (v := .agg #[.bool a.ok, .int .i64 a.gen, .int .i64 a.slot, .slice oa1 a.bytes.length c1]) (by simp [results, Try.results164, go_sem, r0, r1, r2, r3]) rfl ⟨oa1, c1, by rw [hs.out], (by show _ ≤ c1; rw [hs.out]; exact hcp1.out), by rw [hs.out]; exact (hfin a oa1 c1 _ hat4 ga1 _ K).1, (hfin a oa1 c1 _ hat4 ga1 _ K).2⟩
  · rw [hbo] at q0; rw [hao] at p0
    go_upto_region 99 with fail
    obtain ⟨r0, r1, r2, r3, K⟩ := retV4 hR4 (.bool true) (.int .i64 b.gen) (.int .i64 b.slot) (.slice oa3 b.bytes.length c3)
    exact bodyPost_ret (v := .agg #[.bool true, .int .i64 b.gen, .int .i64 b.slot, .slice oa3 b.bytes.length c3]) (by simp [results, Try.results164, go_sem, r0, r1, r2, r3]) rfl ⟨oa3, c3, by rw [hs.out]; simp only [KK.val, hbo], (by show _ ≤ c3; rw [hs.out]; exact hcp3.out), by rw [hs.out]; exact (hfin b oa3 c3 _ hbt4 ga3 _ K).1, (hfin b oa3 c3 _ hbt4 ga3 _ K).2⟩
  · rw [hbo] at q0; rw [hao] at p0
    go_upto_region 99 with fail
    obtain ⟨r0, r1, r2, r3, K⟩ := retV4 hR4 (.bool true) (.int .i64 b.gen) (.int .i64 b.slot) (.slice oa3 b.bytes.length c3)
    exact bodyPost_ret (v := .agg #[.bool true, .int .i64 b.gen, .int .i64 b.slot, .slice oa3 b.bytes.length c3]) (by simp [results, Try.results164, go_sem, r0, r1, r2, r3]) rfl ⟨oa3, c3, by rw [hs.out]; simp only [KK.val, hbo], (by show _ ≤ c3; rw [hs.out]; exact hcp3.out), by rw [hs.out]; exact (hfin b oa3 c3 _ hbt4 ga3 _ K).1, (hfin b oa3 c3 _ hbt4 ga3 _ K).2⟩
  · rw [hbo] at q0; rw [hao] at p0
    go_upto_region 99 with fail
    obtain ⟨r0, r1, r2, r3, K⟩ := retV4 hR4 (.bool true) (.int .i64 a.gen) (.int .i64 a.slot) (.slice oa1 a.bytes.length c1)
    exact bodyPost_ret (v := .agg #[.bool true, .int .i64 a.gen, .int .i64 a.slot, .slice oa1 a.bytes.length c1]) (by simp [results, Try.results164, go_sem, r0, r1, r2, r3]) rfl ⟨oa1, c1, by rw [hs.out]; simp only [KK.val, hao], (by show _ ≤ c1; rw [hs.out]; exact hcp1.out), by rw [hs.out]; exact (hfin a oa1 c1 _ hat4 ga1 _ K).1, (hfin a oa1 c1 _ hat4 ga1 _ K).2⟩

end Go.Proofs.Ythjddpkegooobaa

/-
  REGIONT: two operations that may come up. Own work.
-/
namespace Go.Proofs.Ythjddpkegooobaa
open Go.RowKit

/-- two may come up, neither the last -/
theorem anyU_pair {P : Program} {ops : Array Oper} {Q : Exit → Act → World → Prop} {md : Region.Mode} {S : World → Prop} {lst : Nat} {fuel : Nat} {listed : Array Bool} {a : Act} {w : World} {i j : Nat} {oi oj : Oper} (hr : Region.ready md ops listed = [i, j]) (hoi : ops[i]? = some oi) (hoj : ops[j]? = some oj)
    (h1 : ∀ K : Act → World → Prop, Shut (∀ a w, S w → anyU P md ops Q S lst fuel (listed.setIfInBounds i true) a w → K a w) → if Region.wanted oi (yielded ops a.tmps) = true then Oper.wp P oi a w K Q else K (a.put oi.dst undef) w)
    (h2 : ∀ K : Act → World → Prop, Shut (∀ a w, S w → anyU P md ops Q S lst fuel (listed.setIfInBounds j true) a w → K a w) → if Region.wanted oj (yielded ops a.tmps) = true then Oper.wp P oj a w K Q else K (a.put oj.dst undef) w) :
    anyU P md ops Q S lst (fuel + 1) listed a w := by
  refine ⟨fun h0 => (by rw [hr] at h0; cases h0), fun k hk => ?_⟩
  rw [hr] at hk
  rcases List.mem_cons.1 hk with e | hk
  · subst e; exact wpOp_step hoi (fun K' hK => h1 K' (fun a w hS hW => hK a w ⟨fun _ => hS, hW⟩))
  · obtain rfl : k = j := by simpa using hk
    exact wpOp_step hoj (fun K' hK => h2 K' (fun a w hS hW => hK a w ⟨fun _ => hS, hW⟩))

end Go.Proofs.Ythjddpkegooobaa
