import Derived.Test.YtmdpmdmilgbfiaaGreatDoorPartM
namespace Go.Proofs.YtmdpmdmilgbfiaaGreatDoor
open Go.RowKit
set_option maxRecDepth 100000
set_option maxHeartbeats 8000000
theorem run_slice_tail (u : World) (b : Nat) : (Instr.sliceAt 106 (.pointer (some ⟨b, 0, none⟩)) (some (.int .i64 4)) none none).run Tryz.prog u = .ok (.slice (some ⟨b, 4, none⟩) 60 60) u := by
 simp [Instr.sliceAt, run_underlying Tryz.underlying106, Instr.sureAddr, Instr.sliceBounds, go_sem, Addr.add]
theorem method_drive (p : Nat) (w : World) : (method 364 102 (.pointer (some ⟨p, 0, none⟩)) "loop.example/chest/impl.read").run Tryz.prog w = .ok (170, .pointer (some ⟨p, 0, none⟩)) w := by kernel_rfl
theorem rdLow_some : ∀ (k i : Nat) (n : Int) (r : List Nat), k ≤ r.length → ∃ x, rdLow k i n r = some (x, r.drop k)
 | 0, _, n, r, _ => ⟨n, rfl⟩
 | k + 1, i, n, x :: r, h => by
  obtain ⟨y, hy⟩ := rdLow_some k (i + 1) (orI n x i) r (by simpa using h)
  exact ⟨y, hy⟩
structure IRd (bs : List Nat) (g l s : Int) (r1 r2 r3 : List Nat) : Prop where
 e1 : rdLow 8 0 0 (bs.drop 4) = some (g, r1)
 e2 : rdLow 8 0 0 r1 = some (l, r2)
 e3 : rdLow 8 0 0 r2 = some (s, r3)
theorem ird {bs : List Nat} (h : bs.length = 64) : ∃ g l s r1 r2 r3, IRd bs g l s r1 r2 r3 := by
 obtain ⟨g, hg⟩ := rdLow_some 8 0 0 (bs.drop 4) (by rw [List.length_drop]; omega)
 obtain ⟨l, hl⟩ := rdLow_some 8 0 0 ((bs.drop 4).drop 8) (by rw [List.length_drop, List.length_drop]; omega)
 obtain ⟨s, hs⟩ := rdLow_some 8 0 0 (((bs.drop 4).drop 8).drop 8) (by rw [List.length_drop, List.length_drop, List.length_drop]; omega)
 exact ⟨g, l, s, _, _, _, hg, hl, hs⟩
theorem ird_is {bs : List Nat} {g l s : Int} {r1 r2 r3 : List Nat} (h : IRd bs g l s r1 r2 r3) {x : HH} (hx : x.Is bs) : g = x.gen ∧ l = x.len ∧ s = x.sum := by
 have hr := rng_i64 hx.rng
 obtain ⟨h1, h2, h3⟩ := h
 rw [hx.eq, headB_drop, rdLow_word (by unfold I64; omega)] at h1
 injection h1 with h1
 injection h1 with e1 e1'
 rw [← e1', rdLow_word (by unfold I64; omega)] at h2
 injection h2 with h2
 injection h2 with e2 e2'
 rw [← e2', rdLow_word hx.sum] at h3
 injection h3 with h3
 injection h3 with e3 e3'
 exact ⟨e1.symm, e2.symm, e3.symm⟩
theorem ird_sum {bs : List Nat} {g l s : Int} {r1 r2 r3 : List Nat} (h : IRd bs g l s r1 r2 r3) (hk : headOkB true g l = true) (he : headB g l s = bs) : I64 s := by
 have hr := rng_i64 hk
 obtain ⟨h1, h2, h3⟩ := h
 rw [← he, headB_drop, rdLow_word (by unfold I64; omega)] at h1
 injection h1 with h1
 injection h1 with e1 e1'
 rw [← e1', rdLow_word (by unfold I64; omega)] at h2
 injection h2 with h2
 injection h2 with e2 e2'
 have h4 := rdLow_back 8 0 0 (u64n s) (lowB 8 (sumN (headN g l s)) ++ List.replicate 28 0) (by omega) (by simp)
 rw [show IntKind.i64.wrap ((0 : Nat) : Int) = 0 by rw [IntKind.wrap_i64]; omega, e2', h3] at h4
 injection h4 with h4
 injection h4 with e3 e3'
 rw [e3, IntKind.wrap_i64]
 unfold I64
 omega
theorem readWord_known (b : Nat) (sa : Option Addr) (cap : Nat) (bs r : List Nat) (x : Int) (r' : List Nat) (w : World) (hR : Rd w b sa cap bs r) (hx : Hid (rdLow 8 0 0 r = some (x, r'))) :
  Calls Tryz.prog 106 #[.pointer (some ⟨b, 0, none⟩)] w fun e w' => e = .returned (.int .i64 x) ∧ Rd w' b sa cap bs r' ∧ Kept (fun k => k = b) w w' :=
 (readWord_any b sa cap bs r w hR).mono fun e w' ⟨hK, h⟩ => by
  rcases h with ⟨y, q, hf, he, hR'⟩ | ⟨hf, _⟩
  ·
   have e1 := hx.out.symm.trans hf.out
   injection e1 with e1
   injection e1 with e2 e3
   subst e2
   subst e3
   exact ⟨he, hR', hK⟩
  ·
   have e1 := hx.out.symm.trans hf.out
   cases e1
theorem Rd.new {w : World} {q : Nat} {bs : List Nat} (hb : ∀ x, x ∈ bs → x < 256) (hl : bs.length = 64) (ht : TRow w 106 q 64 bs) : Rd (w.alloc (.cells #[.slice (some ⟨q, 4, none⟩) 60 60, .int .i64 0] 175)) w.heap.size (some ⟨q, 4, none⟩) 60 (bs.drop 4) (bs.drop 4) := by
 have hd : (bs.drop 4).length = 60 := by rw [List.length_drop, hl]
 have hA := gal (gre w) (.cells #[.slice (some ⟨q, 4, none⟩) 60 60, .int .i64 0] 175)
 refine ⟨⟨0, ⟨by simp, by rw [hd]; simp, by simp, fun o => by simp⟩, Nat.zero_le _, rfl⟩, ?_, by omega, by omega, fun x hx => hb x (List.mem_of_mem_drop hx)⟩
 refine BytesLow.below (B := w.heap.size) (w := w) (fun i hi => ?_) hA
 obtain ⟨b, off, e, hc⟩ := ht.at_ (4 + i) (by omega)
 refine ⟨q, 4, rfl, ht.lt, ?_⟩
 injection e with e
 injection e with e3 e4
 subst e3
 subst e4
 rw [getElem!_pos (bs.drop 4) i hi, List.getElem_drop]
 rw [getElem!_pos bs (4 + i) (by omega), Nat.zero_add] at hc
 exact hc
theorem headBB_byte (ok : Bool) (gen len sum : Int) : ∀ x, x ∈ headBB ok gen len sum → x < 256 := by
 unfold headBB
 split
 ·
  intro x hx
  unfold headB at hx
  rcases List.mem_append.1 hx with hx | hx
  ·
   rcases List.mem_append.1 hx with hx | hx
   · exact headN_byte gen len sum x hx
   · exact lowB_byte _ _ _ hx
  · rw [List.eq_of_mem_replicate hx]; decide
 ·
  intro x hx
  cases hx
theorem calls_argsH {P : Program} {f : Nat} {a b : Array Value} {w : World} {Q : Ending → World → Prop} (h : Calls P f a w Q) (e : a = b) : Calls P f b w Q := by subst e; exact h
structure SV (w : World) (b p m : Nat) : Prop where
 lt : b < w.heap.size
 c0 : w.cell? ⟨b, 0, none⟩ = some (.pointer (some ⟨p, 0, none⟩))
 c1 : w.cell? ⟨b, 1, none⟩ = some (.int .i64 (m : Int))
theorem SV.kept {q : Nat → Prop} {w w' : World} {b p m : Nat} (h : SV w b p m) (k : Kept q w w') (hn : ¬ q b) : SV w' b p m :=
 ⟨Nat.lt_of_lt_of_le h.lt k.size, k.cell h.c0 hn, k.cell h.c1 hn⟩
theorem SV.grow {w w' : World} {b p m : Nat} (h : SV w b p m) (k : Below w.heap.size w w') : SV w' b p m := h.kept (Kept.of_below k (fun _ => False)) (fun e => e)
theorem SV.new (w : World) (p m : Nat) (t : TypeId) : SV (w.alloc (.cells #[.pointer (some ⟨p, 0, none⟩), .int .i64 (m : Int)] t)) w.heap.size p m := ⟨by simp, by simp, by simp⟩
theorem head_any (p m : Nat) (bl : List (List Nat)) (pa : Option Addr) (pc : Nat) (ws : List DW) (kv : Value) (bs : List Nat) (w : World) (hm : m < 130) (hw : ws.length ≤ 201) (hbs : Hid (readN bl ws (m : Int) ws.length = bs)) (hbl : Hid (bs.length = 64)) (hbb : ∀ x, x ∈ bs → x < 256) (hDr : Dr w p bl pa pc ws kv) :
  Calls Tryz.prog 65 #[.agg #[.pointer (some ⟨p, 0, none⟩), .int .i64 (m : Int)]] w fun e w' => e = .returned (headOf bs).val ∧ Below w.heap.size w w' := by
 have hz64 := (zero_of_info zero_content).1
 have hSl := run_slice_content
 have hSl4 := run_slice_tail
 have hMe := method_drive p
 obtain ⟨G, L, S, r1, r2, r3, hE⟩ := ird hbl.out
 have E1 : Hid _ := hE.e1
 have E2 : Hid _ := hE.e2
 have E3 : Hid _ := hE.e3
 have hyl : Hid ((bcells bs).length = 64) := by show _ = _; rw [bcells_length, hbl.out]
 have hA := gal (gal (gre w) (.cells #[.pointer (some ⟨p, 0, none⟩), .int .i64 (m : Int)] 121)) (.cells #[.bool false, .int .i64 0, .int .i64 0, .int .i64 0] 65)
 have hR0 := HV.new_at (w.alloc (.cells #[.pointer (some ⟨p, 0, none⟩), .int .i64 (m : Int)] 121)) noH 65 (w.heap.size + 1) (by simp)
 go_enter Tryz.func65, Tryz.ntmps65
 go_upto_region 2 with (first
  | (go_at_call 170; refine (read_any p bl pa pc ws kv (m : Int) _ (by omega) (by omega) hw (hDr.grow hA)).mono ?_; rw [hbs.out]; rintro e w1 ⟨rfl, hb1⟩)
  | (refine wpList_alloc_big rfl 106 rfl _ hz64 ?_)
  | (refine wpList_store_new rfl 106 _ _ rfl _ (bcells bs).toArray rfl rfl (by rw [size_content]; simp [hyl.out]) (by simp [zeros, hyl.out]) (all_oneCell_toArray cells_u8) ?_))
 have hrow := row_new w1 bs 106
 rw [hbl.out] at hrow
 have hb2 := gal hb1 (.cells (bcells bs).toArray 106)
 have hs2 : w1.heap.size + 1 = (w1.alloc (.cells (bcells bs).toArray 106)).heap.size := by simp
 have hRl := (hR0.grow hb1).box.lt
 generalize w1.alloc (.cells (bcells bs).toArray 106) = w2 at hrow hb2 hs2 ⊢
 generalize w1.heap.size = q at hrow hs2 hRl ⊢
 have hRd := Rd.new hbb hbl.out hrow
 have hb3 := gal hb2 (.cells #[.slice (some ⟨q, 4, none⟩) 60 60, .int .i64 0] 175)
 have hrow3 := hrow.kept (Kept.of_below (gal (gre w2) (.cells #[.slice (some ⟨q, 4, none⟩) 60 60, .int .i64 0] 175)) (fun _ => False)) (fun e => e)
 go_upto_region 3 with fail
 generalize w2.alloc (.cells #[.slice (some ⟨q, 4, none⟩) 60 60, .int .i64 0] 175) = w3 at hRd hb3 hrow3 ⊢
 rw [← hs2] at hRd ⊢
 clear hrow hb2 hs2
 have hR3 := hR0.grow hb3
 have hA3 := gca hA hb3
 go_upto_region 4 with (first
  | (go_at_call 106; refine (readWord_known _ _ _ _ r2 S r3 w5 hRd2 E3).mono ?_; rintro e w6 ⟨rfl, hRd3, hK3⟩)
  | (go_at_call 106; refine (readWord_known _ _ _ _ r1 L r2 w4 hRd1 E2).mono ?_; rintro e w5 ⟨rfl, hRd2, hK2⟩)
  | (go_at_call 106; refine (readWord_known _ _ _ _ _ G r1 w3 hRd E1).mono ?_; rintro e w4 ⟨rfl, hRd1, hK1⟩))
 have hK := (hK1.trans hK2 (fun _ _ h => h)).trans hK3 (fun _ _ h => h)
 have hR6 := hR3.kept hK (by omega)
 have hrow6 := hrow3.kept hK (by omega)
 have hA6 := hA3.trans (hK.below (B := w.heap.size) hA3.size (fun k hk e => by omega))
 have hb7 := gal (gre w6) (.cells #[.bool true, .int .i64 G, .int .i64 L, .int .i64 S] 65)
 have hHv := HV.new_at w6 ⟨true, G, L, S⟩ 65 w6.heap.size rfl
 have hR7 := hR6.grow hb7
 have hrow7 := hrow6.kept (Kept.of_below hb7 (fun _ => False)) (fun e => e)
 have hA7 := gca hA6 hb7
 have hHl := hRd3.lt
 generalize w6.alloc (.cells #[.bool true, .int .i64 G, .int .i64 L, .int .i64 S] 65) = w7 at hb7 hHv hR7 hrow7 hA7 ⊢
 generalize w6.heap.size = H at hb7 hHv ⊢
 clear hRd hRd1 hRd2 hRd3 hK1 hK2 hK3 hK hR3 hR6 hrow3 hrow6 hA3 hA6
 have hB : Below w7.heap.size w7 w7.drew := gdr (gre _)
 by_cases t : headBB true G L S = bs
 ·
  have t' : Hid (decide (headBB true G L S = bs) = true) := decide_eq_true t
  have hk : headOkB true G L = true := by
   cases hk : headOkB true G L with
   | true => rfl
   | false =>
    rw [show headBB true G L S = [] from if_neg (by rw [hk]; simp)] at t
    have := hbl.out
    rw [← t] at this
    simp at this
  have hhe : headB G L S = bs := by rw [← t]; exact (if_pos hk).symm
  have hans : Hid (headOf bs = ⟨true, G, L, S⟩) := headOf_yes (x := ⟨true, G, L, S⟩) ⟨rfl, hk, ird_sum hE hk hhe, hhe.symm⟩
  clear t hk hhe hE
  refine wp_regionU (fun u => HBox u H true G L S) 99 (by kernel_rfl) (hHv.grow hB).box (fun _ => ?_)
  refine anyU_tk (i := 0) rfl (hHv.grow hB).box (fun u hSu => by obtain ⟨_, s0, s1, s2, s3⟩ := hSu; go_simp <;> with_reducible rfl) ?_
  simp only [Act.put, List.getElem_toArray, List.getElem_cons_zero, List.setIfInBounds_toArray, List.set_cons_zero, List.set_cons_succ]
  refine anyU_take (i := 2) (v := ?_) rfl (by kernel_rfl) (by kernel_rfl) (by kernel_rfl) (by kernel_rfl) (fun _ _ _ h => h) (Or.inl ⟨by rfl, ?_⟩) (hHv.grow hB).box ?_
  rotate_left
  · intro u hSu; go_simp <;> with_reducible rfl
  simp only [Act.put, List.getElem_toArray, List.getElem_cons_zero, List.getElem_cons_succ, List.setIfInBounds_toArray, List.set_cons_zero, List.set_cons_succ]
  refine anyU_one (i := 1) (by kernel_rfl) rfl (fun K hK => ?_)
  go_simp
  refine (implHeadBlock_any true G L S _).mono ?_
  rintro e w8 ⟨oa8, c8, rfl, hM8, hb8⟩
  have hB := gca hB hb8
  refine hK.out _ _ (hHv.grow hB).box ?_
  clear hK
  refine anyU_one (i := 3) (by kernel_rfl) rfl (fun K hK => ?_)
  go_simp
  refine (calls_argsH (bytesEqual_any oa8 (some ⟨q, 0, none⟩) (headBB true G L S) bs c8 64 w8 (headBB_byte true G L S) hbb hM8.atH (hrow7.at_.grow hB)) (by rw [hbl.out])).mono ?_
  rintro e w9 ⟨rfl, hb9⟩
  rw [t'.out]
  have hB := gca hB hb9
  refine hK.out _ _ (hHv.grow hB).box ?_
  clear hK
  refine anyU_one (i := 4) (by kernel_rfl) rfl (fun K hK => ?_)
  go_simp
  refine hK.out _ _ (hHv.grow hB).box ?_
  clear hK
  refine anyU_done (by kernel_rfl) ?_
  have hR9 := hR7.grow hB
  have hH9 := hHv.grow hB
  have hA9 := gca hA7 hB
  clear hB hb8 hb9 hM8
  obtain ⟨⟨_, z0, z1, z2, z3⟩, zf⟩ := id hR9
  obtain ⟨⟨_, y0, y1, y2, y3⟩, yf⟩ := id hH9
  go_upto_region 99 with fail
  obtain ⟨c0, c1, c2, c3, K⟩ := ret4 hR9 (.bool true) (.int .i64 G) (.int .i64 L) (.int .i64 S)
  exact bodyPost_ret (v := headV true G L S) (by simp [results, Tryz.results65, go_sem, c0, c1, c2, c3]) rfl ⟨by rw [hans.out], hA9.trans (K.below (B := w.heap.size) hA9.size (fun k hk e => by omega))⟩
 ·
  have t' : Hid (decide (headBB true G L S = bs) = false) := decide_eq_false t
  have hans : Hid (headOf bs = noH) := headOf_no (bs := bs) (fun x hx => by
   obtain ⟨e1, e2, e3⟩ := ird_is hE hx
   refine t ?_
   rw [e1, e2, e3]
   exact (if_pos hx.rng).trans hx.eq.symm)
  clear t hE
  refine wp_regionU (fun u => HBox u H true G L S) 99 (by kernel_rfl) (hHv.grow hB).box (fun _ => ?_)
  refine anyU_tk (i := 0) rfl (hHv.grow hB).box (fun u hSu => by obtain ⟨_, s0, s1, s2, s3⟩ := hSu; go_simp <;> with_reducible rfl) ?_
  simp only [Act.put, List.getElem_toArray, List.getElem_cons_zero, List.setIfInBounds_toArray, List.set_cons_zero, List.set_cons_succ]
  refine anyU_take (i := 2) (v := ?_) rfl (by kernel_rfl) (by kernel_rfl) (by kernel_rfl) (by kernel_rfl) (fun _ _ _ h => h) (Or.inl ⟨by rfl, ?_⟩) (hHv.grow hB).box ?_
  rotate_left
  · intro u hSu; go_simp <;> with_reducible rfl
  simp only [Act.put, List.getElem_toArray, List.getElem_cons_zero, List.getElem_cons_succ, List.setIfInBounds_toArray, List.set_cons_zero, List.set_cons_succ]
  refine anyU_one (i := 1) (by kernel_rfl) rfl (fun K hK => ?_)
  go_simp
  refine (implHeadBlock_any true G L S _).mono ?_
  rintro e w8 ⟨oa8, c8, rfl, hM8, hb8⟩
  have hB := gca hB hb8
  refine hK.out _ _ (hHv.grow hB).box ?_
  clear hK
  refine anyU_one (i := 3) (by kernel_rfl) rfl (fun K hK => ?_)
  go_simp
  refine (calls_argsH (bytesEqual_any oa8 (some ⟨q, 0, none⟩) (headBB true G L S) bs c8 64 w8 (headBB_byte true G L S) hbb hM8.atH (hrow7.at_.grow hB)) (by rw [hbl.out])).mono ?_
  rintro e w9 ⟨rfl, hb9⟩
  rw [t'.out]
  have hB := gca hB hb9
  refine hK.out _ _ (hHv.grow hB).box ?_
  clear hK
  refine anyU_one (i := 4) (by kernel_rfl) rfl (fun K hK => ?_)
  go_simp
  refine hK.out _ _ (hHv.grow hB).box ?_
  clear hK
  refine anyU_done (by kernel_rfl) ?_
  have hR9 := hR7.grow hB
  have hH9 := hHv.grow hB
  have hA9 := gca hA7 hB
  clear hB hb8 hb9 hM8
  obtain ⟨⟨_, z0, z1, z2, z3⟩, zf⟩ := id hR9
  obtain ⟨⟨_, y0, y1, y2, y3⟩, yf⟩ := id hH9
  go_upto_region 99 with fail
  obtain ⟨c0, c1, c2, c3, K⟩ := ret4 hR9 (.bool false) (.int .i64 0) (.int .i64 0) (.int .i64 0)
  exact bodyPost_ret (v := noH.val) (by simp [results, Tryz.results65, go_sem, c0, c1, c2, c3]) rfl ⟨by rw [hans.out], hA9.trans (K.below (B := w.heap.size) hA9.size (fun k hk e => by omega))⟩
theorem imageBegin_any (m : Nat) (w : World) (hm : m < 2) : Calls Tryz.prog 53 #[.int .i64 (m : Int)] w fun e w' => e = .returned (.int .i64 (firstOf m : Nat)) ∧ Below w.heap.size w w' := by
 go_enter Tryz.func53, Tryz.ntmps53
 go_wp2
 go_ret
 exact ⟨congrArg (fun z => Ending.returned (.int .i64 z)) (by simp only [firstOf]; first | omega | (unfold wrap64; omega)), gre _⟩
theorem run_slice_upto (u : World) (b k : Nat) (z : Int) (hz : z = (k : Int)) (hk : k ≤ 64) : (Instr.sliceAt 106 (.pointer (some ⟨b, 0, none⟩)) none (some (.int .i64 z)) none).run Tryz.prog u = .ok (.slice (some ⟨b, 0, none⟩) k 64) u := by
 subst hz
 have h1 : (k : Int) ≤ 64 := by omega
 simp [Instr.sliceAt, run_underlying Tryz.underlying106, Instr.sureAddr, Instr.sliceBounds, go_sem, Addr.add, h1]
def ImgPost (n : Nat) (ys : List Nat) (w : World) (e : Ending) (w' : World) : Prop := ∃ oa c, e = .returned (.slice oa n c) ∧ Hid (n ≤ c) ∧ MB w' w.heap.size oa ys ∧ Below w.heap.size w w'
theorem Dr.keptH {q : Nat → Prop} {w w' : World} {p : Nat} {bl : List (List Nat)} {pa : Option Addr} {pc : Nat} {ws : List DW} {k : Value} (h : Dr w p bl pa pc ws k) (K : Kept q w w') (hp : ¬ q p) (ho : ∀ b, (Value.slice pa ws.length pc).ownBlock = some b → ¬ q b) : Dr w' p bl pa pc ws k :=
 ⟨h.d.kept K hp, K.owns h.own (fun z hz e => ho z hz e), h.w64⟩
theorem MB.leH {w : World} {lo lo' : Nat} {oa : Option Addr} {ys : List Nat} (h : MB w lo oa ys) (hl : lo' ≤ lo) : MB w lo' oa ys := by
 rcases h with h | ⟨G, n, h1, h2, h3⟩
 · exact Or.inl h
 · exact Or.inr ⟨G, n, h1, by omega, h3⟩
theorem owns_madeH (u : World) (n : Nat) (h : n ≤ 4096) : (u.alloc (.cells (madeCells #[.int .u8 0] n) 5)).ownsRow u.heap.size 5 1 (.slice (some ⟨u.heap.size, 0, none⟩) 0 n) 0 (bcells []) :=
 ⟨rfl, Or.inr ⟨u.heap.size, n, _, rfl, Nat.le_refl _, heap_alloc_last u _, Nat.zero_le _, by unfold maxLen; omega, by rw [size_madeCells, Nat.mul_one], by simp [bcells]⟩⟩
theorem owns_mb {w : World} {base n c : Nat} {oa : Option Addr} {bs : List Nat} (h : w.ownsRow base 5 1 (.slice oa n c) n (bcells bs)) (hl : bs.length = n) : MB w base oa bs := by
 rcases h.2 with ⟨e, e2⟩ | ⟨g, cap, cur, hv, hb, hg, h1, h2, h3, h4⟩
 · exact Or.inl (List.eq_nil_of_length_eq_zero (by omega))
 ·
  injection hv with e1 _ e3
  subst e1
  refine Or.inr ⟨g, cap, rfl, hb, cur, hg, by omega, by omega, fun i hi => ?_⟩
  have h5 : (cur.toList.take (n * 1))[i]? = (bcells bs)[i]? := by rw [h4]
  rw [List.getElem?_take_of_lt (by omega), Array.getElem?_toList, bcells_get hi] at h5
  exact h5
theorem image_any (p m n : Nat) (d : DD) (pa : Option Addr) (pc : Nat) (kv : Value) (w : World) (hm : m < 2) (hn : n ≤ 4096) (hf : d.Fit) (_ho : d.Ok) (hDr : Dr w p d.blocks pa pc d.waiting kv) :
  Calls Tryz.prog 105 #[.agg #[.pointer (some ⟨p, 0, none⟩), .int .i64 (m : Int)], .int .i64 (n : Int)] w (ImgPost n (d.img m n) w) := by
 have hz64 := (zero_of_info zero_content).1
 have hMe := method_drive p
 obtain ⟨i0, hi0, hz0, hz1, hz2⟩ := info_parts info_u8
 have hmk : ∀ u : World, (Instr.makeSlice 22 (.int .i64 0) (.int .i64 (n : Int))).run Tryz.prog u = .ok (.slice (some ⟨u.heap.size, 0, none⟩) 0 n) (u.alloc (.cells (madeCells #[.int .u8 0] n) 5)) := fun u => by
  have h := run_make (P := Tryz.prog) u 22 5 i0 _ Tryz.underlying22 hi0 hz0 .i64 .i64 0 (n : Int) (by omega) (by omega) (by rw [hz2]; omega) (by omega)
  simpa [hz1, Value.cells] using h
 have hS0 := SV.new w p m 121
 have hA := gal (gre w) (.cells #[.pointer (some ⟨p, 0, none⟩), .int .i64 (m : Int)] 121)
 go_enter Tryz.func105, Tryz.ntmps105
 go_wp2_with (go_at_call 53; refine (imageBegin_any m _ hm).mono ?_; rintro e w1 ⟨rfl, hb1⟩)
 have hS1 := (hS0.grow (gal (gre _) (.cells (madeCells #[.int .u8 0] n) 5))).grow hb1
 have hA1 := gca (gal hA (.cells (madeCells #[.int .u8 0] n) 5)) hb1
 have hD1 := hDr.grow hA1
 have hO1 : w1.ownsRow (w.heap.size + 1) 5 1 (.slice (some ⟨w.heap.size + 1, 0, none⟩) 0 n) 0 (bcells []) := by
  have hO := owns_madeH (w.alloc (.cells #[.pointer (some ⟨p, 0, none⟩), .int .i64 (m : Int)] 121)) n (by omega)
  rw [World.size_alloc] at hO
  exact (Kept.of_below hb1 (fun _ => False)).owns hO (fun _ _ e => e)
 have hSl1 := hS1.lt
 have hfo : firstOf m ≤ 66 := by unfold firstOf; omega
 clear hb1 hS0 hA hmk
 go_loopw [5, 6] (fun a k wr => ∃ (j g c : Nat), a = .slice (some ⟨g, 0, none⟩) (min (64 * j) n) c ∧ k = .int .i64 ((firstOf m + j : Nat) : Int) ∧ j ≤ 64 ∧ 64 * j < n + 64 ∧ wr.ownsRow (w.heap.size + 1) 5 1 (.slice (some ⟨g, 0, none⟩) (min (64 * j) n) c) (min (64 * j) n) (bcells ((d.cat (firstOf m) j).take n)) ∧ Dr wr p d.blocks pa pc d.waiting kv ∧ SV wr w.heap.size p m ∧ Below w.heap.size w wr) (fun _ k _ => 200 - (intOf k).toNat)
 case atStart => exact ⟨0, w.heap.size + 1, n, by simp, rfl, by omega, by omega, by simpa [DD.cat] using hO1, hD1, hS1, hA1⟩
 case round =>
  obtain ⟨j, g, c, rfl, rfl, hj, hjn, hO, hD, hS, hb⟩ := hrel
  obtain ⟨_, s0, s1⟩ := id hS
  by_cases hlt : 64 * j < n
  ·
   obtain ⟨cu, hcu⟩ := hid_ex (min (64 * j) n)
   have hcj : Hid (cu = 64 * j) := by show _ = _; rw [hcu.out]; omega
   rw [← hcu.out] at hO ⊢
   have hd : (cu : Int) < (n : Int) := by have := hcj.out; omega
   obtain ⟨bs, hbs⟩ := hid_ex (d.rd (firstOf m + j))
   have hbl : Hid (bs.length = 64) := by show _ = _; rw [hbs.out]; exact DD.rd_len hf (m := firstOf m + j) (by unfold firstOf; omega)
   have hyl : Hid ((bcells bs).length = 64) := by show _ = _; rw [bcells_length, hbl.out]
   by_cases hm1 : (n : Int) - (cu : Int) < 64
   ·
    obtain ⟨k, hk0'⟩ := hid_ex (n - cu)
    have hk : Hid (k = min 64 (n - cu)) := by show _ = _; rw [hk0'.out]; have := hcj.out; omega
    have hk64 : k ≤ 64 := by rw [hk.out]; omega
    have hSl := fun (u : World) (b : Nat) => run_slice_upto u b k ((n : Int) - (cu : Int)) (by rw [hk0'.out]; have := hcj.out; omega) hk64
    go_upto_region 6 with (first
     | (go_at_call 170; refine (read_any p d.blocks pa pc d.waiting kv ((firstOf m + j : Nat) : Int) _ (by omega) (by unfold firstOf; omega) (by have := hf.wl; omega) hD).mono ?_; rw [show readN d.blocks d.waiting ((firstOf m + j : Nat) : Int) d.waiting.length = bs from hbs.out.symm]; rintro e w3 ⟨rfl, hb3⟩)
     | (refine wpList_alloc_big rfl 106 rfl _ hz64 ?_)
     | (refine wpList_store_new rfl 106 _ _ rfl _ (bcells bs).toArray rfl rfl (by rw [size_content]; simp [hyl.out]) (by simp [zeros, hyl.out]) (all_oneCell_toArray cells_u8) ?_))
    have hrow := row_new w3 bs 106
    rw [hbl.out] at hrow
    have hb4 := gal hb3 (.cells (bcells bs).toArray 106)
    have hs4 : (w3.alloc (.cells (bcells bs).toArray 106)).heap.size = w3.heap.size + 1 := by simp
    generalize w3.alloc (.cells (bcells bs).toArray 106) = w4 at hrow hb4 hs4 ⊢
    have hO4 := (Kept.of_below hb4 (fun _ => False)).owns hO (fun _ _ e => e)
    have hS4 := hS.grow hb4
    have hD4 := hD.grow hb4
    have hB4 := gca hb hb4
    have hk0 : 0 < k := by rw [hk.out]; have := hcj.out; omega
    have htk : (bs.take k).length = k := by rw [List.length_take, hbl.out]; omega
    have hn4 := bytes_news (hrow.at_.takeH k)
    have hsB := hB4.size
    have hsS := hS4.lt
    generalize w3.heap.size = q at hrow hs4 hn4 ⊢
    have hs4' : Hid _ := hs4
    clear hs4 s0 s1
    go_wp2_with (at_builtin; refine wpList_append_lies _ rfl (.tmp 24) (.tmp 30) 22 rfl (w.heap.size + 1) 5 i0 (.int .u8 0) 1 1 Tryz.underlying22 hi0 hz0 hz1 hz2 rfl (by decide) _ _ _ rfl hO4 ⟨q, 0, none⟩ k 64 (bcells (bs.take k)) rfl (by rw [bcells_length, htk, Nat.mul_one]) hn4 cells_u8 hk0 (by have := hcj.out; unfold maxLen; omega) (by have := hcj.out; omega) (by omega) w4.heap.size rfl ?_; intro g5 c5 w5 hown5 hgrow5 hat5 hlt5)
    have K5 := Kept.of_grown hgrow5
    have hcat : (d.cat (firstOf m) j).take n ++ bs.take k = (d.cat (firstOf m) (j + 1)).take n := by
     have hcl := DD.cat_len hf (f := firstOf m) (j := j) (by unfold firstOf; omega)
     have h1 : (d.cat (firstOf m) j).take n = d.cat (firstOf m) j := List.take_of_length_le (by omega)
     have h2 : bs.take k = bs.take (n - 64 * j) := by
      have h3 := hcj.out
      by_cases h4 : 64 ≤ n - 64 * j
      · rw [List.take_of_length_le (by rw [hbl.out, hk.out]; omega), List.take_of_length_le (by rw [hbl.out]; omega)]
      ·
       congr 1
       rw [hk.out]; omega
     rw [h1, h2]
     show _ = (d.cat (firstOf m) j ++ d.rd (firstOf m + j)).take n
     rw [List.take_append, ← hbs.out, hcl, h1]
    have hcu5 : cu + k = min (64 * (j + 1)) n := by have := hcj.out; rw [hk.out]; omega
    rw [← bcells_append, hcat, hcu5] at hown5
    have hown5' : Hid _ := hown5
    have hcu5' : Hid _ := hcu5
    clear hown5 hcu5
    go_roundw
    case rel =>
     refine ⟨j + 1, g5, c5, by rw [← hcu5'.out], congrArg (Value.int .i64) (by omega), by have := hcj.out; omega, by have := hcj.out; omega, hown5'.out, ?_, hS4.kept K5 (fun e => by have := (hO4.lt _ e).1; omega), hB4.trans (K5.below (B := w.heap.size) hB4.size (fun z hz e => by have := (hO4.lt _ e).1; omega))⟩
     exact hD4.keptH K5 (fun e => by have := (hO4.lt _ e).1; have := hDr.d.lt; omega) (fun b hb' e => by have := (hO4.lt _ e).1; have := (hDr.own.lt b hb').2; omega)
    case measure => simp [intOf]; omega
   ·
    have hk : Hid (64 = min 64 (n - cu)) := by show _ = _; have := hcj.out; omega
    have hSl := fun (u : World) (b : Nat) => run_slice_upto u b 64 64 rfl (Nat.le_refl _)
    go_upto_region 6 with (first
     | (go_at_call 170; refine (read_any p d.blocks pa pc d.waiting kv ((firstOf m + j : Nat) : Int) _ (by omega) (by unfold firstOf; omega) (by have := hf.wl; omega) hD).mono ?_; rw [show readN d.blocks d.waiting ((firstOf m + j : Nat) : Int) d.waiting.length = bs from hbs.out.symm]; rintro e w3 ⟨rfl, hb3⟩)
     | (refine wpList_alloc_big rfl 106 rfl _ hz64 ?_)
     | (refine wpList_store_new rfl 106 _ _ rfl _ (bcells bs).toArray rfl rfl (by rw [size_content]; simp [hyl.out]) (by simp [zeros, hyl.out]) (all_oneCell_toArray cells_u8) ?_))
    have hrow := row_new w3 bs 106
    rw [hbl.out] at hrow
    have hb4 := gal hb3 (.cells (bcells bs).toArray 106)
    have hs4 : (w3.alloc (.cells (bcells bs).toArray 106)).heap.size = w3.heap.size + 1 := by simp
    generalize w3.alloc (.cells (bcells bs).toArray 106) = w4 at hrow hb4 hs4 ⊢
    have hO4 := (Kept.of_below hb4 (fun _ => False)).owns hO (fun _ _ e => e)
    have hS4 := hS.grow hb4
    have hD4 := hD.grow hb4
    have hB4 := gca hb hb4
    have hk0 : 0 < 64 := by decide
    have htk : (bs.take 64).length = 64 := by rw [List.length_take, hbl.out]; rfl
    have hn4 := bytes_news (hrow.at_.takeH 64)
    have hsB := hB4.size
    have hsS := hS4.lt
    generalize w3.heap.size = q at hrow hs4 hn4 ⊢
    have hs4' : Hid _ := hs4
    clear hs4 s0 s1
    go_wp2_with (at_builtin; refine wpList_append_lies _ rfl (.tmp 24) (.tmp 30) 22 rfl (w.heap.size + 1) 5 i0 (.int .u8 0) 1 1 Tryz.underlying22 hi0 hz0 hz1 hz2 rfl (by decide) _ _ _ rfl hO4 ⟨q, 0, none⟩ 64 64 (bcells (bs.take 64)) rfl (by rw [bcells_length, htk, Nat.mul_one]) hn4 cells_u8 hk0 (by have := hcj.out; unfold maxLen; omega) (by have := hcj.out; omega) (by omega) w4.heap.size rfl ?_; intro g5 c5 w5 hown5 hgrow5 hat5 hlt5)
    have K5 := Kept.of_grown hgrow5
    have hcat : (d.cat (firstOf m) j).take n ++ bs.take 64 = (d.cat (firstOf m) (j + 1)).take n := by
     have hcl := DD.cat_len hf (f := firstOf m) (j := j) (by unfold firstOf; omega)
     have h1 : (d.cat (firstOf m) j).take n = d.cat (firstOf m) j := List.take_of_length_le (by omega)
     have h2 : bs.take 64 = bs.take (n - 64 * j) := by
      have h3 := hcj.out
      by_cases h4 : 64 ≤ n - 64 * j
      · rw [List.take_of_length_le (by rw [hbl.out]; exact Nat.le_refl _), List.take_of_length_le (by rw [hbl.out]; omega)]
      ·
       congr 1
       have := hk.out; omega
     rw [h1, h2]
     show _ = (d.cat (firstOf m) j ++ d.rd (firstOf m + j)).take n
     rw [List.take_append, ← hbs.out, hcl, h1]
    have hcu5 : cu + 64 = min (64 * (j + 1)) n := by have := hcj.out; have := hk.out; omega
    rw [← bcells_append, hcat, hcu5] at hown5
    have hown5' : Hid _ := hown5
    have hcu5' : Hid _ := hcu5
    clear hown5 hcu5
    go_roundw
    case rel =>
     refine ⟨j + 1, g5, c5, by rw [← hcu5'.out], congrArg (Value.int .i64) (by omega), by have := hcj.out; omega, by have := hcj.out; omega, hown5'.out, ?_, hS4.kept K5 (fun e => by have := (hO4.lt _ e).1; omega), hB4.trans (K5.below (B := w.heap.size) hB4.size (fun z hz e => by have := (hO4.lt _ e).1; omega))⟩
     exact hD4.keptH K5 (fun e => by have := (hO4.lt _ e).1; have := hDr.d.lt; omega) (fun b hb' e => by have := (hO4.lt _ e).1; have := (hDr.own.lt b hb').2; omega)
    case measure => simp [intOf]; omega
  ·
   have hd : ¬ (((min (64 * j) n : Nat) : Int) < (n : Int)) := by omega
   have hmin : min (64 * j) n = n := by omega
   rw [hmin] at hO hd ⊢
   go_wp2
   go_ret
   have hil := DD.img_len hf hm hn
   have himg : (d.cat (firstOf m) j).take n = d.img m n := DD.img_part hf hm hj (by omega)
   rw [himg] at hO
   exact ⟨some ⟨g, 0, none⟩, c, rfl, owns_capH hO, (owns_mb hO hil).leH (by omega), hb⟩
def KMPost (k : KK) (w : World) (e : Ending) (w' : World) : Prop := ∃ oa c, e = .returned (k.val oa c) ∧ Hid (k.bytes.length ≤ c) ∧ MB w' w.heap.size oa k.bytes ∧ Below w.heap.size w w'
theorem KMPost.no {w w' : World} (h : Below w.heap.size w w') : KMPost noK w (.returned (.agg #[.bool false, .int .i64 0, .int .i64 0, .slice none 0 0])) w' := ⟨none, 0, rfl, Nat.le_refl _, Or.inl rfl, h⟩
theorem anyU_skipH {P : Program} {ops : Array Oper} {Q : Exit → Act → World → Prop} {md : Region.Mode} {S : World → Prop} {lst : Nat} {i : Nat} {o : Oper} {fuel : Nat} {listed : Array Bool} {a : Act} {w : World} (hr : Region.ready md ops listed = [i]) (ho : ops[i]? = some o)
  (hw : Region.wanted o (yielded ops a.tmps) = false) (hS : S w) (h : anyU P md ops Q S lst fuel (listed.setIfInBounds i true) (a.put o.dst undef) w) : anyU P md ops Q S lst (fuel + 1) listed a w :=
 anyU_one hr ho (fun K hK => by rw [if_neg (by rw [hw]; exact Bool.false_ne_true)]; exact hK.out _ _ hS h)
theorem MB.kept4 {p : Nat → Prop} {w w' : World} {lo : Nat} {oa : Option Addr} {ys : List Nat} (h : MB w lo oa ys) (k : Kept p w w') (hp : ∀ b, lo ≤ b → b < w.heap.size → ¬ p b) : MB w' lo oa ys := by
 rcases h with rfl | ⟨G, n, rfl, hG, hB⟩
 · exact Or.inl rfl
 · exact Or.inr ⟨G, n, rfl, hG, hB.kept k (hp G hG hB.lt)⟩
theorem kept_any (p m : Nat) (d : DD) (pa : Option Addr) (pc : Nat) (kv : Value) (w : World) (hm : m < 2) (hf : d.Fit) (ho : d.Ok) (hDr : Dr w p d.blocks pa pc d.waiting kv) :
  Calls Tryz.prog 64 #[.agg #[.pointer (some ⟨p, 0, none⟩), .int .i64 (m : Int)]] w (KMPost (d.slotOf m) w) := by
 have hA := gal (gal (gre w) (.cells #[.pointer (some ⟨p, 0, none⟩), .int .i64 (m : Int)] 121)) (.cells #[.bool false, .int .i64 0, .int .i64 0, .slice none 0 0] 62)
 have hS0 := (SV.new w p m 121).grow (gal (gre _) (.cells #[.bool false, .int .i64 0, .int .i64 0, .slice none 0 0] 62))
 have hR0 := V4.new_at (w.alloc (.cells #[.pointer (some ⟨p, 0, none⟩), .int .i64 (m : Int)] 121)) (.bool false) (.int .i64 0) (.int .i64 0) (.slice none 0 0) 62 (w.heap.size + 1) (by simp)
 obtain ⟨h, hh⟩ := hid_ex (headOf (d.rd m))
 rcases headOf_cases (d.rd m) with hi | hi
 ·
  rw [← hh.out] at hi
  obtain ⟨ok, gen, len, sum⟩ := h
  obtain ⟨rfl, hrng, hsum, heq⟩ := hi
  have hr := rng_i64 hrng
  simp only at hr
  obtain ⟨n, rfl⟩ : ∃ n : Nat, len = (n : Int) := ⟨len.toNat, by omega⟩
  clear hrng heq
  obtain ⟨img, himg⟩ := hid_ex (d.img m n)
  have hsl : Hid (d.slotOf m = if wrap64 (sumN img : Int) = sum then ⟨true, gen, (m : Int), img⟩ else noK) := by
   show _ = _
   unfold DD.slotOf
   rw [← hh.out, himg.out]
   simp
  go_enter Tryz.func64, Tryz.ntmps64
  go_upto_region 2 with (go_at_call 65; refine (head_any p m d.blocks pa pc d.waiting kv (d.rd m) _ (by omega) (by have := hf.wl; omega) rfl (DD.rd_len hf (by omega)) (DD.rd_byte hf ho (by omega)) (hDr.grow hA)).mono ?_; rw [← hh.out]; rintro e w1 ⟨rfl, hb1⟩)
  have hHb := HBox.new w1 true gen (n : Int) sum 65
  have hb2 := gal hb1 (.cells #[.bool true, .int .i64 gen, .int .i64 (n : Int), .int .i64 sum] 65)
  have hS2 := hS0.grow hb2
  have hR2 := hR0.grow hb2
  have hA2 := gca hA hb2
  have hRl := (hR0.grow hb1).lt
  generalize w1.alloc (.cells #[.bool true, .int .i64 gen, .int .i64 (n : Int), .int .i64 sum] 65) = w2 at hHb hb2 hS2 hR2 hA2 ⊢
  generalize w1.heap.size = H at hHb hRl ⊢
  clear hb1 hb2 hS0 hR0 hA
  obtain ⟨_, s0, s1⟩ := id hS2
  obtain ⟨_, p0, p1, p2, p3⟩ := id hHb
  go_upto_region 3 with (go_at_call 105; refine (image_any p m n d pa pc kv _ hm (by omega) hf ho (hDr.grow hA2)).mono ?_; rw [← himg.out]; rintro e w3 ⟨oa, c, rfl, hcp, hM, hb3⟩)
  have hS3 := hS2.grow hb3
  have hR3 := hR2.grow hb3
  have hH3 := hHb.kept (Kept.of_below hb3 (fun _ => False)) (fun e => e)
  have hA3 := gca hA2 hb3
  have hMt : BytesAt w3 oa img := hM.atH
  have hil : Hid (img.length = n) := by show _ = _; rw [himg.out]; exact DD.img_len hf hm (by omega)
  have hib : ∀ x, x ∈ img → x < 256 := by rw [himg.out]; exact DD.img_byte hf ho hm
  have hRs : w.heap.size + 1 < w2.heap.size := by have := hHb.lt; omega
  clear s0 s1 p0 p1 p2 p3
  by_cases t : wrap64 (sumN img : Int) = sum
  ·
   have t' : (wrap64 (sumN img : Int) != sum) = false := by rw [t]; simp
   have t2 : (IntKind.i64.wrap (sumN img : Int) != sum) = false := by rw [← wrap64_eq, t]; simp
   have hsl2 : Hid (d.slotOf m = ⟨true, gen, (m : Int), img⟩) := hsl.out.trans (if_pos t)
   clear t
   have hB : Below w3.heap.size w3 w3.drew := gdr (gre _)
   refine wp_regionU (fun u => HBox u H true gen (n : Int) sum) 99 (by kernel_rfl) (hH3.kept (Kept.of_below hB (fun _ => False)) (fun e => e)) (fun _ => ?_)
   refine anyU_tk (i := 0) rfl (hH3.kept (Kept.of_below hB (fun _ => False)) (fun e => e)) (fun u hSu => by (try dsimp only at hSu); go_simp <;> with_reducible rfl) ?_
   refine anyU_tk (i := 1) rfl (hH3.kept (Kept.of_below hB (fun _ => False)) (fun e => e)) (fun u hSu => by obtain ⟨_, s0, s1, s2, s3⟩ := hSu; go_simp <;> with_reducible rfl) ?_
   refine anyU_tk (i := 2) rfl (hH3.kept (Kept.of_below hB (fun _ => False)) (fun e => e)) (fun u hSu => by (try dsimp only at hSu); go_simp <;> with_reducible rfl) ?_
   refine anyU_tk (i := 3) rfl (hH3.kept (Kept.of_below hB (fun _ => False)) (fun e => e)) (fun u hSu => by (try dsimp only at hSu); go_simp <;> with_reducible rfl) ?_
   refine anyU_tk (i := 4) rfl (hH3.kept (Kept.of_below hB (fun _ => False)) (fun e => e)) (fun u hSu => by (try dsimp only at hSu); go_simp <;> with_reducible rfl) ?_
   refine anyU_tk (i := 6) rfl (hH3.kept (Kept.of_below hB (fun _ => False)) (fun e => e)) (fun u hSu => by (try dsimp only at hSu); go_simp <;> with_reducible rfl) ?_
   refine anyU_tk (i := 7) rfl (hH3.kept (Kept.of_below hB (fun _ => False)) (fun e => e)) (fun u hSu => by obtain ⟨_, s0, s1, s2, s3⟩ := hSu; go_simp <;> with_reducible rfl) ?_
   simp only [Act.put, List.getElem_toArray, List.getElem_cons_zero, List.getElem_cons_succ, List.setIfInBounds_toArray, List.set_cons_zero, List.set_cons_succ]
   refine anyU_one (i := 5) (by kernel_rfl) rfl (fun K hK => ?_)
   go_simp
   refine (calls_argsS (implSumOf_any oa img c _ (hMt.grow hB) (by rw [hil.out]; unfold maxLen; omega) hib) (by rw [hil.out])).mono ?_
   rintro e w4 ⟨rfl, hb4⟩
   have hB := gca hB hb4
   refine hK.out _ _ (hH3.kept (Kept.of_below hB (fun _ => False)) (fun e => e)) ?_
   clear hK
   refine anyU_one (i := 8) (by kernel_rfl) rfl (fun K hK => ?_)
   go_simp
   refine hK.out _ _ (hH3.kept (Kept.of_below hB (fun _ => False)) (fun e => e)) ?_
   clear hK
   refine anyU_one (i := 9) (by kernel_rfl) rfl (fun K hK => ?_)
   go_simp
   refine hK.out _ _ (hH3.kept (Kept.of_below hB (fun _ => False)) (fun e => e)) ?_
   clear hK
   refine anyU_done (by kernel_rfl) ?_
   have hR4 := hR3.grow hB
   have hS4 := hS3.grow hB
   have hH4 := hH3.kept (Kept.of_below hB (fun _ => False)) (fun e => e)
   have hA4 := gca hA3 hB
   have hM4 := hM.kept4 (Kept.of_below hB (fun _ => False)) (fun _ _ _ e => e)
   obtain ⟨_, z0, z1, z2, z3, zf⟩ := id hR4
   obtain ⟨_, s0, s1⟩ := id hS4
   obtain ⟨_, p0, p1, p2, p3⟩ := id hH4
   go_upto_region 99 with fail
   obtain ⟨r0, r1, r2, r3, K⟩ := retV4 hR4 (.bool true) (.int .i64 gen) (.int .i64 (m : Int)) (.slice oa n c)
   refine bodyPost_ret (v := .agg #[.bool true, .int .i64 gen, .int .i64 (m : Int), .slice oa n c]) (by simp [results, Tryz.results64, go_sem, r0, r1, r2, r3]) rfl ?_
   rw [hsl2.out]
   refine ⟨oa, c, by rw [show n = img.length from hil.out.symm], (by show img.length ≤ c; rw [show img.length = n from hil.out]; exact hcp.out), ?_, hA4.trans (K.below (B := w.heap.size) hA4.size (fun k hk e => by omega))⟩
   exact (hM4.kept4 K (fun b h1 h2 e => by omega)).leH (by omega)
  ·
   have t' : (wrap64 (sumN img : Int) != sum) = true := by simpa using t
   have t2 : (IntKind.i64.wrap (sumN img : Int) != sum) = true := by rw [← wrap64_eq]; simpa using t
   have hsl2 : Hid (d.slotOf m = noK) := hsl.out.trans (if_neg t)
   clear t
   have hB : Below w3.heap.size w3 w3.drew := gdr (gre _)
   refine wp_regionU (fun u => HBox u H true gen (n : Int) sum) 99 (by kernel_rfl) (hH3.kept (Kept.of_below hB (fun _ => False)) (fun e => e)) (fun _ => ?_)
   refine anyU_tk (i := 0) rfl (hH3.kept (Kept.of_below hB (fun _ => False)) (fun e => e)) (fun u hSu => by (try dsimp only at hSu); go_simp <;> with_reducible rfl) ?_
   refine anyU_tk (i := 1) rfl (hH3.kept (Kept.of_below hB (fun _ => False)) (fun e => e)) (fun u hSu => by obtain ⟨_, s0, s1, s2, s3⟩ := hSu; go_simp <;> with_reducible rfl) ?_
   refine anyU_tk (i := 2) rfl (hH3.kept (Kept.of_below hB (fun _ => False)) (fun e => e)) (fun u hSu => by (try dsimp only at hSu); go_simp <;> with_reducible rfl) ?_
   refine anyU_tk (i := 3) rfl (hH3.kept (Kept.of_below hB (fun _ => False)) (fun e => e)) (fun u hSu => by (try dsimp only at hSu); go_simp <;> with_reducible rfl) ?_
   refine anyU_tk (i := 4) rfl (hH3.kept (Kept.of_below hB (fun _ => False)) (fun e => e)) (fun u hSu => by (try dsimp only at hSu); go_simp <;> with_reducible rfl) ?_
   refine anyU_tk (i := 6) rfl (hH3.kept (Kept.of_below hB (fun _ => False)) (fun e => e)) (fun u hSu => by (try dsimp only at hSu); go_simp <;> with_reducible rfl) ?_
   refine anyU_tk (i := 7) rfl (hH3.kept (Kept.of_below hB (fun _ => False)) (fun e => e)) (fun u hSu => by obtain ⟨_, s0, s1, s2, s3⟩ := hSu; go_simp <;> with_reducible rfl) ?_
   simp only [Act.put, List.getElem_toArray, List.getElem_cons_zero, List.getElem_cons_succ, List.setIfInBounds_toArray, List.set_cons_zero, List.set_cons_succ]
   refine anyU_one (i := 5) (by kernel_rfl) rfl (fun K hK => ?_)
   go_simp
   refine (calls_argsS (implSumOf_any oa img c _ (hMt.grow hB) (by rw [hil.out]; unfold maxLen; omega) hib) (by rw [hil.out])).mono ?_
   rintro e w4 ⟨rfl, hb4⟩
   have hB := gca hB hb4
   refine hK.out _ _ (hH3.kept (Kept.of_below hB (fun _ => False)) (fun e => e)) ?_
   clear hK
   refine anyU_one (i := 8) (by kernel_rfl) rfl (fun K hK => ?_)
   go_simp
   refine hK.out _ _ (hH3.kept (Kept.of_below hB (fun _ => False)) (fun e => e)) ?_
   clear hK
   refine anyU_one (i := 9) (by kernel_rfl) rfl (fun K hK => ?_)
   go_simp
   refine hK.out _ _ (hH3.kept (Kept.of_below hB (fun _ => False)) (fun e => e)) ?_
   clear hK
   refine anyU_done (by kernel_rfl) ?_
   have hR4 := hR3.grow hB
   have hS4 := hS3.grow hB
   have hH4 := hH3.kept (Kept.of_below hB (fun _ => False)) (fun e => e)
   have hA4 := gca hA3 hB
   have hM4 := hM.kept4 (Kept.of_below hB (fun _ => False)) (fun _ _ _ e => e)
   obtain ⟨_, z0, z1, z2, z3, zf⟩ := id hR4
   obtain ⟨_, s0, s1⟩ := id hS4
   obtain ⟨_, p0, p1, p2, p3⟩ := id hH4
   go_upto_region 99 with fail
   obtain ⟨r0, r1, r2, r3, K⟩ := retV4 hR4 (.bool false) (.int .i64 0) (.int .i64 0) (.slice none 0 0)
   exact bodyPost_ret (v := noK.val none 0) (by simp [results, Tryz.results64, go_sem, r0, r1, r2, r3, noK]) rfl (by rw [hsl2.out]; exact KMPost.no (hA4.trans (K.below (B := w.heap.size) hA4.size (fun k hk e => by omega))))
 ·
  rw [show d.slotOf m = noK from if_neg (fun e => by rw [hi] at e; cases e.1)]
  go_enter Tryz.func64, Tryz.ntmps64
  go_upto_region 2 with (go_at_call 65; refine (head_any p m d.blocks pa pc d.waiting kv (d.rd m) _ (by omega) (by have := hf.wl; omega) rfl (DD.rd_len hf (by omega)) (DD.rd_byte hf ho (by omega)) (hDr.grow hA)).mono ?_; rw [hi]; rintro e w1 ⟨rfl, hb1⟩)
  have hHb := HBox.new w1 false 0 0 0 65
  have hb2 := gal hb1 (.cells #[.bool false, .int .i64 0, .int .i64 0, .int .i64 0] 65)
  have hS2 := hS0.grow hb2
  have hR2 := hR0.grow hb2
  have hA2 := gca hA hb2
  have hRl := (hR0.grow hb1).lt
  generalize w1.alloc (.cells #[.bool false, .int .i64 0, .int .i64 0, .int .i64 0] 65) = w2 at hHb hb2 hS2 hR2 hA2 ⊢
  generalize w1.heap.size = H at hHb hRl ⊢
  clear hb1 hb2 hS0 hR0 hA
  obtain ⟨_, s0, s1⟩ := id hS2
  obtain ⟨_, p0, p1, p2, p3⟩ := id hHb
  go_upto_region 3 with (go_at_call 105; refine (image_any p m 0 d pa pc kv _ hm (by omega) hf ho (hDr.grow hA2)).mono ?_; rintro e w3 ⟨oa, c, rfl, hcp, hM, hb3⟩)
  have hR3 := hR2.grow hb3
  have hH3 := hHb.kept (Kept.of_below hb3 (fun _ => False)) (fun e => e)
  have hA3 := gca hA2 hb3
  clear s0 s1 p0 p1 p2 p3
  have hB : Below w3.heap.size w3 w3.drew := gdr (gre _)
  refine wp_regionU (fun u => HBox u H false 0 0 0) 99 (by kernel_rfl) (hH3.kept (Kept.of_below hB (fun _ => False)) (fun e => e)) (fun _ => ?_)
  refine anyU_tk (i := 0) rfl (hH3.kept (Kept.of_below hB (fun _ => False)) (fun e => e)) (fun u hSu => by (try dsimp only at hSu); go_simp <;> with_reducible rfl) ?_
  refine anyU_tk (i := 1) rfl (hH3.kept (Kept.of_below hB (fun _ => False)) (fun e => e)) (fun u hSu => by obtain ⟨_, s0, s1, s2, s3⟩ := hSu; go_simp <;> with_reducible rfl) ?_
  refine anyU_tk (i := 2) rfl (hH3.kept (Kept.of_below hB (fun _ => False)) (fun e => e)) (fun u hSu => by (try dsimp only at hSu); go_simp <;> with_reducible rfl) ?_
  refine anyU_tk (i := 3) rfl (hH3.kept (Kept.of_below hB (fun _ => False)) (fun e => e)) (fun u hSu => by (try dsimp only at hSu); go_simp <;> with_reducible rfl) ?_
  simp only [Act.put, List.getElem_toArray, List.getElem_cons_zero, List.getElem_cons_succ, List.setIfInBounds_toArray, List.set_cons_zero, List.set_cons_succ]
  refine anyU_take (i := 4) (v := undef) rfl (by kernel_rfl) (by kernel_rfl) (by kernel_rfl) (by kernel_rfl) (fun _ _ _ h => h) (Or.inr ⟨by rfl, rfl⟩) (hH3.kept (Kept.of_below hB (fun _ => False)) (fun e => e)) ?_
  simp only [Act.put, List.getElem_toArray, List.getElem_cons_zero, List.getElem_cons_succ, List.setIfInBounds_toArray, List.set_cons_zero, List.set_cons_succ]
  refine anyU_take (i := 6) (v := undef) rfl (by kernel_rfl) (by kernel_rfl) (by kernel_rfl) (by kernel_rfl) (fun _ _ _ h => h) (Or.inr ⟨by rfl, rfl⟩) (hH3.kept (Kept.of_below hB (fun _ => False)) (fun e => e)) ?_
  simp only [Act.put, List.getElem_toArray, List.getElem_cons_zero, List.getElem_cons_succ, List.setIfInBounds_toArray, List.set_cons_zero, List.set_cons_succ]
  refine anyU_take (i := 7) (v := undef) rfl (by kernel_rfl) (by kernel_rfl) (by kernel_rfl) (by kernel_rfl) (fun _ _ _ h => h) (Or.inr ⟨by rfl, rfl⟩) (hH3.kept (Kept.of_below hB (fun _ => False)) (fun e => e)) ?_
  simp only [Act.put, List.getElem_toArray, List.getElem_cons_zero, List.getElem_cons_succ, List.setIfInBounds_toArray, List.set_cons_zero, List.set_cons_succ]
  refine anyU_skipH (i := 5) (by kernel_rfl) rfl (by rfl) (hH3.kept (Kept.of_below hB (fun _ => False)) (fun e => e)) ?_
  simp only [Act.put, List.getElem_toArray, List.getElem_cons_zero, List.getElem_cons_succ, List.setIfInBounds_toArray, List.set_cons_zero, List.set_cons_succ]
  refine anyU_skipH (i := 8) (by kernel_rfl) rfl (by rfl) (hH3.kept (Kept.of_below hB (fun _ => False)) (fun e => e)) ?_
  simp only [Act.put, List.getElem_toArray, List.getElem_cons_zero, List.getElem_cons_succ, List.setIfInBounds_toArray, List.set_cons_zero, List.set_cons_succ]
  refine anyU_one (i := 9) (by kernel_rfl) rfl (fun K hK => ?_)
  go_simp
  refine hK.out _ _ (hH3.kept (Kept.of_below hB (fun _ => False)) (fun e => e)) ?_
  clear hK
  refine anyU_done (by kernel_rfl) ?_
  have hR4 := hR3.grow hB
  have hA4 := gca hA3 hB
  generalize w3.drew = w4 at hB hR4 hA4 ⊢
  obtain ⟨_, z0, z1, z2, z3, zf⟩ := id hR4
  go_upto_region 99 with fail
  obtain ⟨r0, r1, r2, r3, K⟩ := retV4 hR4 (.bool false) (.int .i64 0) (.int .i64 0) (.slice none 0 0)
  refine bodyPost_ret (v := .agg #[.bool false, .int .i64 0, .int .i64 0, .slice none 0 0]) (by simp [results, Tryz.results64, go_sem, r0, r1, r2, r3]) rfl ?_
  exact KMPost.no (hA4.trans (K.below (B := w.heap.size) hA4.size (fun k hk e => by omega)))
theorem V4.put {w : World} {R : Nat} {a b c d : Value} (h : V4 w R a b c d) (A B C D : Value) : V4 ((((w.setCell ⟨R, 0, none⟩ A).setCell ⟨R, 1, none⟩ B).setCell ⟨R, 2, none⟩ C).setCell ⟨R, 3, none⟩ D) R A B C D := by
 obtain ⟨r0, r1, r2, r3, K⟩ := retV4 h A B C D
 refine ⟨Nat.lt_of_lt_of_le h.lt K.size, ?_, ?_, ?_, r3, fun o => ?_⟩
 · rw [World.cell?_setCell_other _ _ _ _ (by simp), World.cell?_setCell_other _ _ _ _ (by simp), World.cell?_setCell_other _ _ _ _ (by simp)]; exact r0
 · rw [World.cell?_setCell_other _ _ _ _ (by simp), World.cell?_setCell_other _ _ _ _ (by simp)]; exact r1
 · rw [World.cell?_setCell_other _ _ _ _ (by simp)]; exact r2
 · rw [World.frozen?_setCell, World.frozen?_setCell, World.frozen?_setCell, World.frozen?_setCell]; exact h.f o
def DD.best (d : DD) : Nat → KK
 | 0 => noK
 | i + 1 => if (d.best i).gen < (d.slotOf i).gen then d.slotOf i else d.best i
theorem best_newest {d : DD} (hf : d.Fit) : d.best 2 = d.newestOf := by
 unfold DD.newestOf
 rw [newest_steps (DD.slot_fine hf (slot := 0) (by omega)) (DD.slot_fine hf (slot := 1) (by omega))]
 rfl
theorem implNewest_any (d : DD) (l : DL) (w : World) (hd : d.Ok) (ha : DAt w l d) :
  Calls Tryz.prog 27 #[d.val l] w (KMPost d.newest w) := by
 have hA := gal (gal (gre w) (.cells #[.slice l.ba d.blocks.length l.bc, .slice l.wa d.waiting.length l.wc] 46)) (.cells #[.bool false, .int .i64 0, .int .i64 0, .slice none 0 0] 62)
 have hX0 := (DBox.new w d l 46).grow (gal (gre _) (.cells #[.bool false, .int .i64 0, .int .i64 0, .slice none 0 0] 62))
 have hR0 := V4.new_at (w.alloc (.cells #[.slice l.ba d.blocks.length l.bc, .slice l.wa d.waiting.length l.wc] 46)) (.bool false) (.int .i64 0) (.int .i64 0) (.slice none 0 0) 62 (w.heap.size + 1) (by simp)
 cases hok : d.ok with
 | false =>
  have hok' : Hid _ := hok
  rw [show d.newest = noK from if_neg (by rw [hok]; simp)]
  clear hok
  go_enter Tryz.func27, Tryz.ntmps27
  go_upto_region 99 with (go_at_call 29; refine (implDiskOk_any d l _ hd (ha.grow hA)).mono ?_; rintro e w2 ⟨rfl, hb2⟩; rw [hok'.out]; have hR2 := hR0.grow hb2; obtain ⟨_, z0, z1, z2, z3, zf⟩ := id hR2)
  obtain ⟨c0, c1, c2, c3, K⟩ := retV4 hR2 (.bool false) (.int .i64 0) (.int .i64 0) (.slice none 0 0)
  exact bodyPost_ret (v := noK.val none 0) (by simp [results, Tryz.results27, go_sem, c0, c1, c2, c3, noK]) rfl (KMPost.no ((gca hA hb2).trans (K.below (B := w.heap.size) (gca hA hb2).size (fun k hk e => by omega))))
 | true =>
  have hok' : Hid _ := hok
  have hf := DD.fit hok
  have hn : Hid (d.newest = d.best 2) := by show _ = _; rw [best_newest hf]; exact if_pos hok
  clear hok
  go_enter Tryz.func27, Tryz.ntmps27
  go_wp2_with (first
   | (go_at_call 29; refine (implDiskOk_any d l _ hd (ha.grow hA)).mono ?_; rintro e w2 ⟨rfl, hb2⟩; rw [hok'.out]; obtain ⟨_, x0, x1⟩ := hX0.grow hb2)
   | (go_at_call 54; refine (driveOf_any d l _ hf (ha.grow (gca hA hb2))).mono ?_; rintro e w3 ⟨p, pa, pc, rfl, hp3, hDr, hb3⟩))
  have hN0 := V4.new_at w3 (.bool false) (.int .i64 0) (.int .i64 0) (.slice none 0 0) 62 w3.heap.size rfl
  have hb4 := gal hb3 (.cells #[.bool false, .int .i64 0, .int .i64 0, .slice none 0 0] 62)
  have hR4 := (hR0.grow hb2).grow hb4
  have hD4 := hDr.grow (gal (gre w3) (.cells #[.bool false, .int .i64 0, .int .i64 0, .slice none 0 0] 62))
  have hA4 := gca (gca hA hb2) hb4
  have hRN : w.heap.size + 1 < w3.heap.size := ((hR0.grow hb2).grow hb3).lt
  have hpN : p < w3.heap.size := hDr.d.lt
  have hoN : ∀ b, (Value.slice pa d.waiting.length pc).ownBlock = some b → b < w3.heap.size := fun b hb => (hDr.own.lt b hb).2
  generalize w3.alloc (.cells #[.bool false, .int .i64 0, .int .i64 0, .slice none 0 0] 62) = w4 at hN0 hb4 hR4 hD4 hA4 ⊢
  generalize w3.heap.size = N at hN0 hRN hpN hoN ⊢
  clear x0 x1 hb2 hb3 hb4 hX0 hR0 hA hDr hp3
  go_loopw [14] (fun a wr => ∃ (i : Nat) (k : KK) (oa : Option Addr) (c : Nat), a = .int .i64 (i : Int) ∧ i ≤ 2 ∧ Hid (d.best i = k) ∧ V4 wr N (.bool k.ok) (.int .i64 k.gen) (.int .i64 k.slot) (.slice oa k.bytes.length c) ∧ Hid (k.bytes.length ≤ c) ∧ MB wr (N + 1) oa k.bytes ∧ Dr wr p d.blocks pa pc d.waiting .nilFunc ∧ V4 wr (w.heap.size + 1) (.bool false) (.int .i64 0) (.int .i64 0) (.slice none 0 0) ∧ Below w.heap.size w wr) (fun a _ => 2 - (intOf a).toNat)
  case atStart => exact ⟨0, noK, none, 0, rfl, by omega, rfl, hN0, Nat.le_refl _, Or.inl rfl, hD4, hR4, hA4⟩
  case round =>
   obtain ⟨i, k, oa, c, rfl, hi, hk, hN, hcp, hM, hD, hR, hb⟩ := hrel
   have hNl := hN.lt
   by_cases hlt : i < 2
   ·
    have hd' : (i : Int) < 2 := by omega
    obtain ⟨s', hs'⟩ := hid_ex (d.slotOf i)
    have hbest : Hid (d.best (i + 1) = if k.gen < s'.gen then s' else k) := by show _ = _; rw [hs'.out, ← hk.out]; rfl
    go_upto_region 9 with (go_at_call 64; refine (kept_any p i d pa pc .nilFunc _ (by omega) hf hd hD).mono ?_; rw [← hs'.out]; rintro e w5 ⟨oa5, c5, rfl, hcp5, hM5, hb5⟩)
    have hQ := V4.new_at w5 (.bool s'.ok) (.int .i64 s'.gen) (.int .i64 s'.slot) (.slice oa5 s'.bytes.length c5) 62 w5.heap.size rfl
    have hb6 := gal hb5 (.cells #[.bool s'.ok, .int .i64 s'.gen, .int .i64 s'.slot, .slice oa5 s'.bytes.length c5] 62)
    have hM6 := hM5.kept4 (Kept.of_below (gal (gre w5) (.cells #[.bool s'.ok, .int .i64 s'.gen, .int .i64 s'.slot, .slice oa5 s'.bytes.length c5] 62)) (fun _ => False)) (fun _ _ _ e => e)
    have hs5 := hb5.size
    generalize w5.alloc (.cells #[.bool s'.ok, .int .i64 s'.gen, .int .i64 s'.slot, .slice oa5 s'.bytes.length c5] 62) = w6 at hQ hb6 hM6 ⊢
    generalize w5.heap.size = Q at hQ hs5 ⊢
    have hN6 := hN.grow hb6
    have hMk6 := hM.kept4 (Kept.of_below hb6 (fun _ => False)) (fun _ _ _ e => e)
    have hD6 := hD.grow hb6
    have hR6 := hR.grow hb6
    have hB6 := gca hb hb6
    clear hM5 hb5 hN hM hD hR hb
    obtain ⟨_, q0, q1, q2, q3, qf⟩ := id hQ
    obtain ⟨_, n0, n1, n2, n3, nf⟩ := id hN6
    by_cases t : k.gen < s'.gen
    ·
     have hbk : Hid (d.best (i + 1) = s') := hbest.out.trans (if_pos t)
     have hP := hN6.put (.bool s'.ok) (.int .i64 s'.gen) (.int .i64 s'.slot) (.slice oa5 s'.bytes.length c5)
     have K := (retV4 hN6 (.bool s'.ok) (.int .i64 s'.gen) (.int .i64 s'.slot) (.slice oa5 s'.bytes.length c5)).2.2.2.2
     go_wp2
     go_roundw
     case rel => exact ⟨i + 1, s', oa5, c5, by go_num, by omega, hbk, hP, hcp5, (hM6.kept4 K (fun b h1 h2 e => by omega)).leH (by omega), hD6.keptH K (by omega) (fun b hb' e => by have := hoN b hb'; omega), hR6.kept K (by omega), hB6.trans (K.below (B := w.heap.size) hB6.size (fun z hz e => by omega))⟩
     case measure => simp [intOf]; omega
    ·
     have hbk : Hid (d.best (i + 1) = k) := hbest.out.trans (if_neg t)
     go_wp2
     go_roundw
     case rel => exact ⟨i + 1, k, oa, c, by go_num, by omega, hbk, hN6, hcp, hMk6, hD6, hR6, hB6⟩
     case measure => simp [intOf]; omega
   ·
    obtain rfl : i = 2 := by omega
    obtain ⟨_, n0, n1, n2, n3, nf⟩ := id hN
    obtain ⟨_, z0, z1, z2, z3, zf⟩ := id hR
    go_upto_region 99 with fail
    obtain ⟨r0, r1, r2, r3, K⟩ := retV4 hR (.bool k.ok) (.int .i64 k.gen) (.int .i64 k.slot) (.slice oa k.bytes.length c)
    refine bodyPost_ret (v := k.val oa c) (by simp [results, Tryz.results27, go_sem, r0, r1, r2, r3]) rfl ?_
    rw [hn.out, hk.out]
    exact ⟨oa, c, rfl, hcp, (hM.kept4 K (fun b h1 h2 e => by omega)).leH (by omega), hb.trans (K.below (B := w.heap.size) hb.size (fun z hz e => by omega))⟩
theorem anyU_pair {P : Program} {ops : Array Oper} {Q : Exit → Act → World → Prop} {md : Region.Mode} {S : World → Prop} {lst : Nat} {fuel : Nat} {listed : Array Bool} {a : Act} {w : World} {i j : Nat} {oi oj : Oper} (hr : Region.ready md ops listed = [i, j]) (hoi : ops[i]? = some oi) (hoj : ops[j]? = some oj)
  (h1 : ∀ K : Act → World → Prop, Shut (∀ a w, S w → anyU P md ops Q S lst fuel (listed.setIfInBounds i true) a w → K a w) → if Region.wanted oi (yielded ops a.tmps) = true then Oper.wp P oi a w K Q else K (a.put oi.dst undef) w)
  (h2 : ∀ K : Act → World → Prop, Shut (∀ a w, S w → anyU P md ops Q S lst fuel (listed.setIfInBounds j true) a w → K a w) → if Region.wanted oj (yielded ops a.tmps) = true then Oper.wp P oj a w K Q else K (a.put oj.dst undef) w) :
  anyU P md ops Q S lst (fuel + 1) listed a w := by
 refine ⟨fun h0 => (by rw [hr] at h0; cases h0), fun k hk => ?_⟩
 rw [hr] at hk
 rcases List.mem_cons.1 hk with e | hk
 · subst e; exact wpOp_step hoi (fun K' hK => h1 K' (fun a w hS hW => hK a w ⟨fun _ => hS, hW⟩))
 ·
  obtain rfl : k = j := by simpa using hk
  exact wpOp_step hoj (fun K' hK => h2 K' (fun a w hS hW => hK a w ⟨fun _ => hS, hW⟩))
end Go.Proofs.YtmdpmdmilgbfiaaGreatDoor
