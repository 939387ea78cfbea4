import Derived.Test.YthjddpkegooobaaPartZI

/-
  LAWDK: FnDisk, walked. Own work.
-/
namespace Go.Proofs.Ythjddpkegooobaa
open Go.RowKit

theorem ownsK_made {w : World} {base n : Nat} (hb : base ≤ w.heap.size) (hn : n ≤ maxLen) : (w.alloc (.cells (madeCells #[.bool false] n) 4)).ownsRow base 4 1 (.slice (some ⟨w.heap.size, 0, none⟩) n n) n (kcells (List.replicate n false)) := by
  refine ⟨by simp [kcells], Or.inr ⟨w.heap.size, n, _, rfl, hb, blk_new_at _ _ _ rfl, Nat.le_refl _, hn, by rw [size_madeCells]; omega, ?_⟩⟩
  apply List.ext_getElem?
  intro i
  by_cases hi : i < n
  · rw [List.getElem?_take_of_lt (by omega), Array.getElem?_toList]
    simp [madeCells, kcells, hi, Nat.mod_one]
  · rw [List.getElem?_eq_none (by simp; omega), List.getElem?_eq_none (by simp [kcells]; omega)]
theorem field_blk (a b : Value) (u : World) : (Instr.field 44 (.agg #[a, b]) 0).run Try.prog u = .ok a u := by
  first | kernel_rfl | rfl | simp [go_sem, Try.underlying44]
theorem read_len {d : DD} (hd : d.Ok) (b : Int) : (d.read b).length ≤ maxLen := by
  unfold DD.read
  split
  · rename_i h
    simp only [Bool.and_eq_true, decide_eq_true_eq] at h
    have hf := DD.fit h.1
    exact readN_mem (p := fun x => x.length ≤ maxLen) (fun x hx => (hd.bb x hx).len) (fun x hx => (hd.wb x hx).len) (by rw [hf.bl]; omega) _ (Nat.le_refl _)
  · exact Nat.zero_le _
theorem zeroD_Ok : zeroD.Ok := ⟨Nat.zero_le _, fun b hb => (by cases hb), Nat.zero_le _, fun x hx => (by cases hx), fun x hx => (by cases hx)⟩
theorem put_OkZ {d : DD} {k : Int} {b : List Nat} (hd : d.Ok) (hk : I64 k) (hb : BOk b) : (d.put k b).Ok := by
  by_cases h : d.ok = true ∧ wrOk ⟨k, b⟩ = true ∧ d.waiting.length ≠ 200
  · exact put_Ok hd h.1 hk hb
  · rw [put_none h]; exact zeroD_Ok
theorem trues_set (n j : Nat) (hj : j < n) : (kcells (List.replicate j true ++ List.replicate (n - j) false)).set j (.bool true) = kcells (List.replicate (j + 1) true ++ List.replicate (n - (j + 1)) false) := by
  unfold kcells
  rw [← List.map_set]
  congr 1
  rw [List.set_append_right _ _ (by simp), List.length_replicate, Nat.sub_self, show n - j = (n - (j + 1)) + 1 by omega, List.replicate_succ, List.set_cons_zero, List.replicate_succ', List.append_assoc]
  rfl
theorem spec_at {d : DD} {w : World} {ba wa : Option Addr} {bc wc B : Nat} {lb : List LB} {lw : List LW} (mb : lb.map (·.l) = d.blocks) (mw : lw.map (·.x) = d.waiting) (sb : SB B w ba bc lb) (sw : SW B w wa wc lw) : DAt w ⟨ba, bc, wa, wc⟩ d := ⟨by rw [← mb]; exact sb.at_, by rw [← mw]; exact sw.at_⟩

set_option maxHeartbeats 8000000 in
set_option maxRecDepth 100000 in
theorem lawDk (a : Option Addr) (cap : Nat) (bs : List Nat) (w : World) (ha : BytesAt w a bs) (hl : bs.length ≤ maxLen) (hx : ∀ x, x ∈ bs → x < 256) (hs : ∀ g off, a = some ⟨g, off, none⟩ → g < w.heap.size) :
    Calls Try.prog 5 #[.slice a bs.length cap] w fun e w' => e = .returned (.bool true) ∧ Below w.heap.size w w' := by
  have hml := hl
  unfold maxLen at hml
  by_cases hs1 : bs.length ≤ 1048576
  case neg =>
    have hd : ((1048576 : Int) < (bs.length : Int)) := by omega
    go_enter Try.func5, Try.ntmps5
    go_wp2
    go_ret
    exact ⟨rfl, gre _⟩
  have hd : ¬ ((1048576 : Int) < (bs.length : Int)) := by omega
  go_enter Try.func5, Try.ntmps5
  go_upto_region 4 with (go_at_call 25; refine (drawPut_any a bs cap _ ha hx hl hs).mono ?_; rintro e w1 ⟨d, l, k, ka, ks, kc, rfl, hO, hdA, hkI, hkl, hkx, hka, hb1⟩; simp only [DD.val])
  have hV2 := VB.new w1 (.slice l.ba d.blocks.length l.bc) (.slice l.wa d.waiting.length l.wc) 44
  have hA2 := gal (gre w1) (.cells #[.slice l.ba d.blocks.length l.bc, .slice l.wa d.waiting.length l.wc] 44)
  have hB2 := gal hb1 (.cells #[.slice l.ba d.blocks.length l.bc, .slice l.wa d.waiting.length l.wc] 44)
  have hdA2 := hdA.grow hA2
  have hka2 := hka.grow hA2
  generalize w1.alloc (.cells #[.slice l.ba d.blocks.length l.bc, .slice l.wa d.waiting.length l.wc] 44) = w2 at hV2 hA2 hB2 hdA2 hka2 ⊢
  generalize w1.heap.size = D at hV2 ⊢
  clear hdA hka hb1 hA2
  have hB : Below w2.heap.size w2 w2.drew := gdr (gre _)
  refine wp_regionU (fun u => VB u D (.slice l.ba d.blocks.length l.bc) (.slice l.wa d.waiting.length l.wc)) 99 (by kernel_rfl) (hV2.grow hB) (fun _ => ?_)
  refine anyU_tk (i := 0) rfl (hV2.grow hB) (fun u hSu => by obtain ⟨v0, v1, _⟩ := hSu; go_simp <;> with_reducible rfl) ?_
  simp only [Act.put, List.getElem_toArray, List.getElem_cons_zero, List.setIfInBounds_toArray, List.set_cons_zero, List.set_cons_succ]
  refine anyU_tk (i := 2) rfl (hV2.grow hB) (fun u hSu => by obtain ⟨v0, v1, _⟩ := hSu; go_simp <;> with_reducible rfl) ?_
  simp only [Act.put, List.getElem_toArray, List.getElem_cons_zero, List.getElem_cons_succ, List.setIfInBounds_toArray, List.set_cons_zero, List.set_cons_succ]
  refine anyU_one (i := 1) (by kernel_rfl) rfl (fun K hK => ?_)
  go_simp
  refine (implDiskOk_any d l _ hO (hdA2.grow hB)).mono ?_
  rintro e w3 ⟨rfl, hb3⟩
  have hB := gca hB hb3
  refine hK.out _ _ (hV2.grow hB) ?_
  clear hK
  refine anyU_one (i := 3) (by kernel_rfl) rfl (fun K hK => ?_)
  go_simp
  refine (specDiskOk_any d l _ hO (hdA2.grow hB)).mono ?_
  rintro e w4 ⟨rfl, hb4⟩
  have hB := gca hB hb4
  refine hK.out _ _ (hV2.grow hB) ?_
  clear hK
  refine anyU_tk (i := 4) (v := .bool false) rfl (hV2.grow hB) (fun u hSu => by obtain ⟨v0, v1, _⟩ := hSu; go_simp <;> first | rfl | simp) ?_
  simp only [Act.put, List.getElem_toArray, List.getElem_cons_zero, List.getElem_cons_succ, List.setIfInBounds_toArray, List.set_cons_zero, List.set_cons_succ]
  refine anyU_done (by kernel_rfl) ?_
  have hV4 := hV2.grow hB
  have hdA4 := hdA2.grow hB
  have hka4 := hka2.grow hB
  have hB4 := gca hB2 hB
  clear hV2 hdA2 hka2 hB2 hB hb3 hb4
  have hbk : BOk ks := ⟨by unfold maxLen; omega, hkx⟩
  have hpc := implPut_any d l k ka ks kc w4 hO hdA4 hkI (by unfold maxLen; omega) hka4
  have hsp := fun (u : World) (hu : Below w4.heap.size w4 u) => specPut_any d l k ka ks kc u hO (hdA4.grow hu) hkI (by unfold maxLen; omega) (hka4.grow hu)
  have hO0 := put_OkZ (k := k) (b := ks) hO hkI hbk
  have hpz : ¬ (d.ok = true ∧ wrOk ⟨k, ks⟩ = true ∧ d.waiting.length ≠ 200) → Hid (d.put k ks = zeroD) := fun h => put_none h
  have hpr : d.ok = true ∧ wrOk ⟨k, ks⟩ = true ∧ d.waiting.length ≠ 200 → Hid ((d.put k ks).ok = true ∧ (d.put k ks).blocks = d.blocks ∧ (d.put k ks).read k = ks) := fun h => put_read h.1 h.2.1 h.2.2
  obtain ⟨e0, he0⟩ := hid_ex (d.put k ks)
  rw [← he0.out] at hpc hO0 hpz hpr
  simp only [← he0.out] at hsp
  obtain ⟨v0, v1, _⟩ := id hV4
  go_upto_region 7 with (go_at_call 28; refine hpc.mono ?_; rintro e w5 ⟨l1, fa1, fb1, fc1, fe1, rfl, hM5, hb5⟩)
  have hE6 := VB.new w5 (.slice l1.ba e0.blocks.length l1.bc) (.slice l1.wa e0.waiting.length l1.wc) 44
  have hA6 := gal (gre w5) (.cells #[.slice l1.ba e0.blocks.length l1.bc, .slice l1.wa e0.waiting.length l1.wc] 44)
  have hM6 := hM5.grow hA6
  have hb46 := gca hb5 hA6
  generalize w5.alloc (.cells #[.slice l1.ba e0.blocks.length l1.bc, .slice l1.wa e0.waiting.length l1.wc] 44) = w6 at hE6 hA6 hM6 hb46 ⊢
  have hEw : w4.heap.size ≤ w5.heap.size := hb5.size
  generalize w5.heap.size = Ev at hE6 hEw ⊢
  have hV6 := hV4.grow hb46
  have hDE : D ≠ Ev := by have := hV4.lt; omega
  clear v0 v1 hM5 hb5 hA6 hpc
  have hB : Below w6.heap.size w6 w6.drew := gdr (gre _)
  refine wp_regionU (fun u => VB u D (.slice l.ba d.blocks.length l.bc) (.slice l.wa d.waiting.length l.wc) ∧ VB u Ev (.slice l1.ba e0.blocks.length l1.bc) (.slice l1.wa e0.waiting.length l1.wc)) 99 (by kernel_rfl) ⟨hV6.grow hB, hE6.grow hB⟩ (fun _ => ?_)
  refine anyU_tk (i := 0) rfl ⟨hV6.grow hB, hE6.grow hB⟩ (fun u hSu => by obtain ⟨⟨v0, v1, _⟩, ⟨x0, x1, _⟩⟩ := hSu; go_simp <;> with_reducible rfl) ?_
  simp only [Act.put, List.getElem_toArray, List.getElem_cons_zero, List.setIfInBounds_toArray, List.set_cons_zero, List.set_cons_succ]
  refine anyU_tk (i := 1) rfl ⟨hV6.grow hB, hE6.grow hB⟩ (fun u hSu => by obtain ⟨⟨v0, v1, _⟩, ⟨x0, x1, _⟩⟩ := hSu; go_simp <;> with_reducible rfl) ?_
  simp only [Act.put, List.getElem_toArray, List.getElem_cons_zero, List.getElem_cons_succ, List.setIfInBounds_toArray, List.set_cons_zero, List.set_cons_succ]
  refine anyU_tk (i := 2) rfl ⟨hV6.grow hB, hE6.grow hB⟩ (fun u hSu => by obtain ⟨⟨v0, v1, _⟩, ⟨x0, x1, _⟩⟩ := hSu; go_simp <;> with_reducible rfl) ?_
  simp only [Act.put, List.getElem_toArray, List.getElem_cons_zero, List.getElem_cons_succ, List.setIfInBounds_toArray, List.set_cons_zero, List.set_cons_succ]
  refine anyU_tk (i := 3) rfl ⟨hV6.grow hB, hE6.grow hB⟩ (fun u hSu => by obtain ⟨⟨v0, v1, _⟩, ⟨x0, x1, _⟩⟩ := hSu; go_simp <;> with_reducible rfl) ?_
  simp only [Act.put, List.getElem_toArray, List.getElem_cons_zero, List.getElem_cons_succ, List.setIfInBounds_toArray, List.set_cons_zero, List.set_cons_succ]
  refine anyU_one (i := 4) (by kernel_rfl) rfl (fun K hK => ?_)
  go_simp
  refine (hsp _ (gca hb46 hB)).mono ?_
  rintro e w7 ⟨lb, lw, ba, bc, wa, wu, rfl, mb, mw, sb, sw, hb7⟩
  have hB := gca hB hb7
  refine hK.out _ _ ⟨hV6.grow hB, hE6.grow hB⟩ ?_
  clear hK
  refine anyU_one (i := 5) (by kernel_rfl) rfl (fun K hK => ?_)
  go_simp
  refine (wDisk_same e0 l1 ⟨ba, bc, wa, wu⟩ _ hO0 (hM6.at_.grow hB) (spec_at mb mw sb sw)).mono ?_
  rintro e w8 ⟨rfl, hb8⟩
  have hB := gca hB hb8
  refine hK.out _ _ ⟨hV6.grow hB, hE6.grow hB⟩ ?_
  clear hK
  refine anyU_tk (i := 6) rfl ⟨hV6.grow hB, hE6.grow hB⟩ (fun u hSu => by obtain ⟨⟨v0, v1, _⟩, ⟨x0, x1, _⟩⟩ := hSu; go_simp <;> with_reducible rfl) ?_
  simp only [Act.put, List.getElem_toArray, List.getElem_cons_zero, List.getElem_cons_succ, List.setIfInBounds_toArray, List.set_cons_zero, List.set_cons_succ]
  refine anyU_done (by kernel_rfl) ?_
  have hV8 := hV6.grow hB
  have hE8 := hE6.grow hB
  have hM8 := hM6.grow hB
  have hdA8 := (hdA4.grow hb46).grow hB
  have b48 := gca hb46 hB
  have hka8 := (hka4.grow hb46).grow hB
  have hB8 := gca (gca hB4 hb46) hB
  clear hV6 hE6 hM6 hka4 hb46 hB hb7 hb8 hsp sb sw hV4
  obtain ⟨v0, v1, _⟩ := id hV8
  obtain ⟨dk, hdk⟩ := hid_ex d.ok
  have hdc := fun (u : World) (hu : Below w8.heap.size w8 u) => specDiskOk_any d l u hO (hdA8.grow hu)
  simp only [← hdk.out] at hdc
  cases dk with
  | false =>
    have hz := hpz (fun h => by have := hdk.out; rw [h.1] at this; cases this)
    have hl0 : e0.blocks.length = 0 := by rw [hz.out]; rfl
    have hsy := fun (u : World) (hu : Below w8.heap.size w8 u) => implSync_any d l u hO (hdA8.grow hu)
    rw [settle_no hdk.out.symm] at hsy
    obtain ⟨zz, hzz⟩ := hid_ex zeroD
    simp only [← hzz.out] at hsy
    have hzl : zz.blocks.length = 0 := by rw [hzz.out]; rfl
    have hfl := field_blk
    obtain ⟨x0, x1, _⟩ := id hE8
    go_wp2_with (first
      | (go_at_call 27; refine (hdc _ (gre _)).mono ?_; rintro e w9 ⟨rfl, hb9⟩; obtain ⟨v0, v1, _⟩ := hV8.grow hb9; obtain ⟨x0, x1, _⟩ := hE8.grow hb9)
      | (go_at_call 31; refine (hsy _ hb9).mono ?_; rintro e w10 ⟨l2, fa2, fb2, fc2, fe2, rfl, hM2, hb10⟩; simp only [DD.val]))
    go_ret
    exact ⟨rfl, gca (gca hB8 hb9) hb10⟩
  | true =>
    go_upto_if 54 with (go_at_call 27; refine (hdc _ (gre _)).mono ?_; rintro e w9 ⟨rfl, hb9⟩; obtain ⟨x0, x1, _⟩ := hE8.grow hb9)
    have hV9 := hV8.grow hb9
    have hE9 := hE8.grow hb9
    have hM9 := hM8.grow hb9
    have b49 := gca b48 hb9
    have hka9 := hka8.grow hb9
    have hB9 := gca hB8 hb9
    clear v0 v1 x0 x1 hV8 hE8 hM8 hdA8 hka8 hB8 hdc hb9 b48
    go_cut [] from 12 (fun wc => ∃ (e : DD) (le : DL), Hid (e.ok = true) ∧ e.Ok ∧ VB wc Ev (.slice le.ba e.blocks.length le.bc) (.slice le.wa e.waiting.length le.wc) ∧ DAt wc le e ∧ Below w.heap.size w wc)
    case first =>
      by_cases hv : d.ok = true ∧ wrOk ⟨k, ks⟩ = true ∧ d.waiting.length ≠ 200
      · have hp := hpr hv
        have hb130 : Hid (e0.blocks.length = 130) := by show _ = _; rw [hp.out.2.1]; exact (DD.fit hv.1).bl
        have hnz : ¬ ((e0.blocks.length : Int) = 0) := by rw [hb130.out]; decide
        obtain ⟨x0, x1, _⟩ := id hE9
        have hrd := implRead_any e0 l1 k w9 hO0 hM9.at_ hkI
        rw [hp.out.2.2] at hrd
        go_wp2_with (first
          | (go_at_call 32; refine hrd.mono ?_; rintro e w10 ⟨oa, oc, rfl, hMT, hb10⟩)
          | (go_at_call 18; refine (wBytes_same oa ka ks oc kc _ (by unfold maxLen; omega) hMT.at_ (hka9.grow hb10)).mono ?_; rintro e w11 ⟨rfl, hb11⟩))
        go_meet
        case rel => exact ⟨e0, l1, hp.out.1, hO0, (hE9.grow hb10).grow hb11, (hM9.at_.grow hb10).grow hb11, gca (gca hB9 hb10) hb11⟩
      · have hz := hpz hv
        have hl0 : e0.blocks.length = 0 := by rw [hz.out]; rfl
        obtain ⟨v0, v1, _⟩ := id hV9
        obtain ⟨x0, x1, xf⟩ := id hE9
        have hK := (Kept.one w9 Ev 0 (.slice l.ba d.blocks.length l.bc)).trans (Kept.one (w9.setCell ⟨Ev, 0, none⟩ (.slice l.ba d.blocks.length l.bc)) Ev 1 (.slice l.wa d.waiting.length l.wc)) (fun _ _ e => e)
        have hE10 := (hE9.set0 (.slice l.ba d.blocks.length l.bc)).set1 (.slice l.wa d.waiting.length l.wc)
        have b410 := b49.trans (hK.below b49.size (fun z hz e => by omega))
        go_wp2
        generalize (w9.setCell ⟨Ev, 0, none⟩ (.slice l.ba d.blocks.length l.bc)).setCell ⟨Ev, 1, none⟩ (.slice l.wa d.waiting.length l.wc) = w10 at hK hE10 b410 ⊢
        go_meet
        case rel => exact ⟨d, l, hdk.out.symm, hO, hE10, hdA4.grow b410, gca hB4 b410⟩
    obtain ⟨e, le, hek, heO, hE, hdE, hBc⟩ := hcut
    generalize wc = w10 at hE hdE hBc ⊢
    have h130 : e.blocks.length = 130 := (DD.fit hek.out).bl
    obtain ⟨eb, eo, hle⟩ : ∃ b off, le.ba = some ⟨b, off, none⟩ := by
      obtain ⟨_, b, off, _, _, _, _, h, _⟩ := hdE.b.get (k := 0) (by omega)
      exact ⟨b, off, h⟩
    have h130' : Hid (e.blocks.length = 130) := h130
    clear h130
    obtain ⟨lba, lbc, lwa, lwc⟩ := le
    simp only at hle hE
    subst hle
    clear hV9 hE9 hM9 hka9 hB9 b49 hdA4 hB4 hO hO0 hpz hpr
    have hf := DD.fit hek.out
    have hwl := hf.wl
    obtain ⟨q1, q2⟩ := settle_okP hek.out keepAll
    have q3 := settle_okA heO hek.out keepAll
    have hall := settle_all e
    have hnon := settle_none hek.out
    have hread := fun (m : Nat) (hm : m < 130) => settle_read hek.out hm
    have hnil := fun keep => settle_nilD q1 q2 keep
    have hsy := implSync_any e ⟨some ⟨eb, eo, none⟩, lbc, lwa, lwc⟩ w10 heO hdE
    obtain ⟨s0, hs0⟩ := hid_ex (e.settle keepAll)
    rw [← hs0.out] at q1 q2 q3 hsy hall
    simp only [← hs0.out] at hread hnil
    have hq1 : Hid (s0.ok = true) := q1
    have hq2 : Hid (s0.waiting = []) := q2
    have hall' : Hid _ := hall
    have hnon' : Hid _ := hnon
    have hnil' : Hid _ := hnil
    have hread' : Hid _ := hread
    clear q1 q2 hall hnon hnil hread
    obtain ⟨x0, x1, _⟩ := id hE
    go_upto_region 16 with (go_at_call 31; refine hsy.mono ?_; rintro e w11 ⟨ls, fs, gs, cs, ds, rfl, hMs, hb11⟩)
    have hS12 := VB.new w11 (.slice ls.ba s0.blocks.length ls.bc) (.slice ls.wa s0.waiting.length ls.wc) 44
    have hA12 := gal (gre w11) (.cells #[.slice ls.ba s0.blocks.length ls.bc, .slice ls.wa s0.waiting.length ls.wc] 44)
    have hMs := hMs.grow hA12
    have hE12 := (hE.grow hb11).grow hA12
    have hdE12 := (hdE.grow hb11).grow hA12
    have hB12 := gca (gca hBc hb11) hA12
    generalize w11.alloc (.cells #[.slice ls.ba s0.blocks.length ls.bc, .slice ls.wa s0.waiting.length ls.wc] 44) = w12 at hS12 hA12 hMs hE12 hdE12 hB12 ⊢
    generalize w11.heap.size = Sx at hS12 ⊢
    clear x0 x1 hb11 hA12 hE hdE hBc hsy
    obtain ⟨n, hn⟩ := hid_ex e.waiting.length
    have hn200 : n ≤ 200 := by rw [hn.out]; exact hwl
    obtain ⟨i0, hi, hz0, hz1, hz2⟩ := info_parts info_bool
    obtain ⟨Mc, hMc⟩ := hid_ex (madeCells #[Value.bool false] n)
    have hmk : ∀ u : World, (Instr.makeSlice 52 (.int .i64 (e.waiting.length : Int)) (.int .i64 (e.waiting.length : Int))).run Try.prog u = .ok (.slice (some ⟨u.heap.size, 0, none⟩) n n) (u.alloc (.cells Mc 4)) := fun u => by
      have h := run_make (P := Try.prog) u 52 4 i0 _ Try.underlying52 hi hz0 .i64 .i64 (n : Int) (n : Int) (by omega) (Int.le_refl _) (by rw [hz2]; omega) (by omega)
      rw [hMc.out, ← hn.out]
      simpa [hz1, Value.cells] using h
    have hown : (w12.alloc (.cells Mc 4)).ownsRow w12.heap.size 4 1 (.slice (some ⟨w12.heap.size, 0, none⟩) n n) n (kcells (List.replicate 0 true ++ List.replicate (n - 0) false)) := by rw [hMc.out]; exact ownsK_made (Nat.le_refl _) (by unfold maxLen; omega)
    have hA13 := gal (gre w12) (.cells Mc 4)
    obtain ⟨x0, x1, _⟩ := id hE12
    go_upto_region 17 with fail
    generalize w12.alloc (.cells Mc 4) = w13 at hown hA13 ⊢
    obtain ⟨g, hg⟩ := hid_ex w12.heap.size
    rw [← hg.out] at hown ⊢
    clear hmk x0 x1
    go_wp2
    go_loopw [70] (fun i wr => ∃ j : Nat, j ≤ n ∧ i = .int .i64 j ∧ wr.ownsRow g 4 1 (.slice (some ⟨g, 0, none⟩) n n) n (kcells (List.replicate j true ++ List.replicate (n - j) false)) ∧ Kept (fun z => z = g) w13 wr) (fun i _ => n - (intOf i).toNat)
    case atStart => exact ⟨0, Nat.zero_le _, rfl, hown, Kept.refl _ _⟩
    case round =>
      clear hown
      obtain ⟨j, hj, rfl, hOj, hKj⟩ := hrel
      by_cases hlt : j < n
      case pos =>
        have hjn : (j : Int) < (n : Int) := by omega
        have j0 : (0 : Int) ≤ (j : Int) := by omega
        obtain ⟨⟨cv, hcv⟩, hfz⟩ := owns_at hOj (j := j) hlt
        have hO2 := owns_set hOj j (.bool true)
        rw [trues_set n j hlt] at hO2
        have hK2 := hKj.trans (Kept.one wr g j (.bool true)) (fun _ _ e => e)
        go_wp2
        generalize wr.setCell ⟨g, j, none⟩ (.bool true) = w14 at hO2 hK2 ⊢
        go_roundw
        case rel => exact ⟨j + 1, by omega, by go_num, hO2, hK2⟩
        case measure => simp [intOf]; omega
      obtain rfl : j = n := by omega
      have hjn : ¬ ((j : Int) < (j : Int)) := by omega
      have hB14 : Below w12.heap.size w12 wr := hA13.trans (hKj.below hA13.size (fun z hz e => by have := hg.out; omega))
      have hkb : BoolsAt wr (some ⟨g, 0, none⟩) (List.replicate j true) := by
        have h := hOj
        rw [show j - j = 0 by omega, List.replicate_zero, List.append_nil] at h
        have h2 := kcells_at (ks := List.replicate j true) (by rw [List.length_replicate]; exact h)
        exact h2
      have hE14 := hE12.grow hB14
      have hdE14 := hdE12.grow hB14
      have hS14 := hS12.grow hB14
      have hM14 := hMs.grow hB14
      have hBB := gca hB12 hB14
      clear hE12 hdE12 hS12 hMs hB12 hB14 hOj hKj hA13
      have hcr := fun (u : World) (hu : Below wr.heap.size wr u) => implCrash_any e ⟨some ⟨eb, eo, none⟩, lbc, lwa, lwc⟩ (some ⟨g, 0, none⟩) (List.replicate j true) j u heO (hdE14.grow hu) (by rw [List.length_replicate]; unfold maxLen; omega) (fun i hi => (hkb i hi).imp fun b h => h.imp fun off h => ⟨h.1, cell_later hu h.2⟩)
      have hcs := fun (u : World) (hu : Below wr.heap.size wr u) => implCrash_any s0 ls (some ⟨g, 0, none⟩) (List.replicate j true) j u q3 (hM14.grow hu).at_ (by rw [List.length_replicate]; unfold maxLen; omega) (fun i hi => (hkb i hi).imp fun b h => h.imp fun off h => ⟨h.1, cell_later hu h.2⟩)
      have hall2 : e.settle (keepOf (List.replicate j true)) = s0 := by rw [hn.out]; exact hall'.out
      simp only [List.length_replicate, hall2] at hcr
      simp only [List.length_replicate, hnil'.out] at hcs
      clear hall2
      go_upto_region 22 with fail
      have hB : Below wr.heap.size wr wr.drew := gdr (gre _)
      refine wp_regionU (fun u => VB u Sx (.slice ls.ba s0.blocks.length ls.bc) (.slice ls.wa s0.waiting.length ls.wc) ∧ VB u Ev (.slice (some ⟨eb, eo, none⟩) e.blocks.length lbc) (.slice lwa e.waiting.length lwc)) 99 (by kernel_rfl) ⟨hS14.grow hB, hE14.grow hB⟩ (fun _ => ?_)
      refine anyU_tk (i := 0) rfl ⟨hS14.grow hB, hE14.grow hB⟩ (fun u hSu => by obtain ⟨⟨s0_, s1, _⟩, ⟨x0, x1, _⟩⟩ := hSu; go_simp <;> with_reducible rfl) ?_
      simp only [Act.put, List.getElem_toArray, List.getElem_cons_zero, List.setIfInBounds_toArray, List.set_cons_zero, List.set_cons_succ]
      refine anyU_tk (i := 1) rfl ⟨hS14.grow hB, hE14.grow hB⟩ (fun u hSu => by obtain ⟨⟨s0_, s1, _⟩, ⟨x0, x1, _⟩⟩ := hSu; go_simp <;> with_reducible rfl) ?_
      simp only [Act.put, List.getElem_toArray, List.getElem_cons_zero, List.getElem_cons_succ, List.setIfInBounds_toArray, List.set_cons_zero, List.set_cons_succ]
      refine anyU_tk (i := 2) rfl ⟨hS14.grow hB, hE14.grow hB⟩ (fun u hSu => by obtain ⟨⟨s0_, s1, _⟩, ⟨x0, x1, _⟩⟩ := hSu; go_simp <;> with_reducible rfl) ?_
      simp only [Act.put, List.getElem_toArray, List.getElem_cons_zero, List.getElem_cons_succ, List.setIfInBounds_toArray, List.set_cons_zero, List.set_cons_succ]
      refine anyU_tk (i := 3) (v := .bool false) rfl ⟨hS14.grow hB, hE14.grow hB⟩ (fun u hSu => by obtain ⟨⟨s0_, s1, _⟩, ⟨x0, x1, _⟩⟩ := hSu; go_simp <;> simp [hq2.out]) ?_
      simp only [Act.put, List.getElem_toArray, List.getElem_cons_zero, List.getElem_cons_succ, List.setIfInBounds_toArray, List.set_cons_zero, List.set_cons_succ]
      refine anyU_tk (i := 4) rfl ⟨hS14.grow hB, hE14.grow hB⟩ (fun u hSu => by obtain ⟨⟨s0_, s1, _⟩, ⟨x0, x1, _⟩⟩ := hSu; go_simp <;> with_reducible rfl) ?_
      simp only [Act.put, List.getElem_toArray, List.getElem_cons_zero, List.getElem_cons_succ, List.setIfInBounds_toArray, List.set_cons_zero, List.set_cons_succ]
      refine anyU_tk (i := 5) rfl ⟨hS14.grow hB, hE14.grow hB⟩ (fun u hSu => by obtain ⟨⟨s0_, s1, _⟩, ⟨x0, x1, _⟩⟩ := hSu; go_simp <;> with_reducible rfl) ?_
      simp only [Act.put, List.getElem_toArray, List.getElem_cons_zero, List.getElem_cons_succ, List.setIfInBounds_toArray, List.set_cons_zero, List.set_cons_succ]
      refine anyU_tk (i := 6) rfl ⟨hS14.grow hB, hE14.grow hB⟩ (fun u hSu => by obtain ⟨⟨s0_, s1, _⟩, ⟨x0, x1, _⟩⟩ := hSu; go_simp <;> with_reducible rfl) ?_
      simp only [Act.put, List.getElem_toArray, List.getElem_cons_zero, List.getElem_cons_succ, List.setIfInBounds_toArray, List.set_cons_zero, List.set_cons_succ]
      refine anyU_tk (i := 7) rfl ⟨hS14.grow hB, hE14.grow hB⟩ (fun u hSu => by obtain ⟨⟨s0_, s1, _⟩, ⟨x0, x1, _⟩⟩ := hSu; go_simp <;> with_reducible rfl) ?_
      simp only [Act.put, List.getElem_toArray, List.getElem_cons_zero, List.getElem_cons_succ, List.setIfInBounds_toArray, List.set_cons_zero, List.set_cons_succ]
      refine anyU_one (i := 8) (by kernel_rfl) rfl (fun K hK => ?_)
      go_simp
      refine (hcr _ hB).mono ?_
      rintro e_ w15 ⟨lc, fa_, fb_, fc_, fe_, rfl, hMc, hb15⟩
      have hB := gca hB hb15
      refine hK.out _ _ ⟨hS14.grow hB, hE14.grow hB⟩ ?_
      clear hK
      refine anyU_one (i := 9) (by kernel_rfl) rfl (fun K hK => ?_)
      go_simp
      refine (wDisk_same s0 ls lc _ q3 (hM14.grow hB).at_ hMc.at_).mono ?_
      rintro e_ w16 ⟨rfl, hb16⟩
      have hB := gca hB hb16
      refine hK.out _ _ ⟨hS14.grow hB, hE14.grow hB⟩ ?_
      clear hK
      refine anyU_tk (i := 10) rfl ⟨hS14.grow hB, hE14.grow hB⟩ (fun u hSu => by obtain ⟨⟨s0_, s1, _⟩, ⟨x0, x1, _⟩⟩ := hSu; go_simp <;> with_reducible rfl) ?_
      simp only [Act.put, List.getElem_toArray, List.getElem_cons_zero, List.getElem_cons_succ, List.setIfInBounds_toArray, List.set_cons_zero, List.set_cons_succ]
      refine anyU_tk (i := 11) rfl ⟨hS14.grow hB, hE14.grow hB⟩ (fun u hSu => by obtain ⟨⟨s0_, s1, _⟩, ⟨x0, x1, _⟩⟩ := hSu; go_simp <;> with_reducible rfl) ?_
      simp only [Act.put, List.getElem_toArray, List.getElem_cons_zero, List.getElem_cons_succ, List.setIfInBounds_toArray, List.set_cons_zero, List.set_cons_succ]
      refine anyU_done (by kernel_rfl) ?_
      have hE16 := hE14.grow hB
      have hdE16 := hdE14.grow hB
      have hS16 := hS14.grow hB
      have hM16 := hM14.grow hB
      have hBB16 := gca hBB hB
      have b14 := hB
      clear hE14 hdE14 hS14 hBB hB hb15 hb16 hMc hcr
      obtain ⟨n0, hn0⟩ := hid_ex (DD.mk e.blocks [])
      have hnO : n0.Ok := by rw [hn0.out]; exact ⟨heO.bl, heO.bb, Nat.zero_le _, fun x hx => (by cases hx), fun x hx => (by cases hx)⟩
      have hnb : Hid (n0.blocks = e.blocks) := by show _ = _; rw [hn0.out]
      have hnw : Hid (n0.waiting = []) := by show _ = _; rw [hn0.out]
      have hcn := implCrash_any e ⟨some ⟨eb, eo, none⟩, lbc, lwa, lwc⟩ none [] 0 w16 heO hdE16 (Nat.zero_le _) (fun i hi => absurd hi (Nat.not_lt_zero _))
      have hsn := fun (u : World) (hu : Below w16.heap.size w16 u) => specCrash_any e ⟨some ⟨eb, eo, none⟩, lbc, lwa, lwc⟩ none [] 0 u heO (hdE16.grow hu) (Nat.zero_le _) (fun i hi => absurd hi (Nat.not_lt_zero _))
      simp only [List.length_nil, hnon'.out, ← hn0.out] at hcn hsn
      obtain ⟨x0, x1, _⟩ := id hE16
      go_upto_region 25 with (go_at_call 33; refine hcn.mono ?_; rintro e_ w17 ⟨ln, fa_, fb_, fc_, fe_, rfl, hMn, hb17⟩)
      obtain ⟨nb, no, hln⟩ : ∃ b off, ln.ba = some ⟨b, off, none⟩ := by
        obtain ⟨_, b, off, _, _, _, _, h, _⟩ := hMn.at_.b.get (k := 0) (by rw [hnb.out, h130'.out]; decide)
        exact ⟨b, off, h⟩
      have hnA := hMn.at_
      obtain ⟨nba, nbc, nwa, nwc⟩ := ln
      simp only at hln ⊢
      subst hln
      have hN18 := VB.new w17 (.slice (some ⟨nb, no, none⟩) n0.blocks.length nbc) (.slice nwa n0.waiting.length nwc) 44
      have hA18 := gal (gre w17) (.cells #[.slice (some ⟨nb, no, none⟩) n0.blocks.length nbc, .slice nwa n0.waiting.length nwc] 44)
      have hnA := hnA.grow hA18
      have b16 := gca hb17 hA18
      generalize w17.alloc (.cells #[.slice (some ⟨nb, no, none⟩) n0.blocks.length nbc, .slice nwa n0.waiting.length nwc] 44) = w18 at hN18 hA18 hnA b16 ⊢
      generalize w17.heap.size = Nx at hN18 ⊢
      have hE18 := hE16.grow b16
      have hdE18 := hdE16.grow b16
      have hS18 := hS16.grow b16
      have hM18 := hM16.grow b16
      have hBB18 := gca hBB16 b16
      have b1418 := gca b14 b16
      clear x0 x1 hMn hb17 hcn hA18 hE16 hS16 hM16 hBB16 b14
      have hB : Below w18.heap.size w18 w18.drew := gdr (gre _)
      refine wp_regionU (fun u => VB u Nx (.slice (some ⟨nb, no, none⟩) n0.blocks.length nbc) (.slice nwa n0.waiting.length nwc) ∧ VB u Ev (.slice (some ⟨eb, eo, none⟩) e.blocks.length lbc) (.slice lwa e.waiting.length lwc)) 99 (by kernel_rfl) ⟨hN18.grow hB, hE18.grow hB⟩ (fun _ => ?_)
      refine anyU_tk (i := 0) rfl ⟨hN18.grow hB, hE18.grow hB⟩ (fun u hSu => by obtain ⟨⟨s0_, s1, _⟩, ⟨x0, x1, _⟩⟩ := hSu; go_simp <;> with_reducible rfl) ?_
      simp only [Act.put, List.getElem_toArray, List.getElem_cons_zero, List.setIfInBounds_toArray, List.set_cons_zero, List.set_cons_succ]
      refine anyU_tk (i := 1) rfl ⟨hN18.grow hB, hE18.grow hB⟩ (fun u hSu => by obtain ⟨⟨s0_, s1, _⟩, ⟨x0, x1, _⟩⟩ := hSu; go_simp <;> with_reducible rfl) ?_
      simp only [Act.put, List.getElem_toArray, List.getElem_cons_zero, List.getElem_cons_succ, List.setIfInBounds_toArray, List.set_cons_zero, List.set_cons_succ]
      refine anyU_one (i := 2) (by kernel_rfl) rfl (fun K hK => ?_)
      go_simp
      refine (hsn _ (gca b16 hB)).mono ?_
      rintro e_ w19 ⟨lb_, lw_, ba_, bc_, wa_, wu_, rfl, mb, mw, sb, sw, hb19⟩
      have hB := gca hB hb19
      refine hK.out _ _ ⟨hN18.grow hB, hE18.grow hB⟩ ?_
      clear hK
      refine anyU_one (i := 3) (by kernel_rfl) rfl (fun K hK => ?_)
      go_simp
      refine (wDisk_same n0 ⟨some ⟨nb, no, none⟩, nbc, nwa, nwc⟩ ⟨ba_, bc_, wa_, wu_⟩ _ hnO (hnA.grow hB) (spec_at mb mw sb sw)).mono ?_
      rintro e_ w20 ⟨rfl, hb20⟩
      have hB := gca hB hb20
      refine hK.out _ _ ⟨hN18.grow hB, hE18.grow hB⟩ ?_
      clear hK
      refine anyU_tk (i := 4) rfl ⟨hN18.grow hB, hE18.grow hB⟩ (fun u hSu => by obtain ⟨⟨s0_, s1, _⟩, ⟨x0, x1, _⟩⟩ := hSu; go_simp <;> with_reducible rfl) ?_
      simp only [Act.put, List.getElem_toArray, List.getElem_cons_zero, List.getElem_cons_succ, List.setIfInBounds_toArray, List.set_cons_zero, List.set_cons_succ]
      refine anyU_done (by kernel_rfl) ?_
      have hE20 := hE18.grow hB
      have hdE20 := hdE18.grow hB
      have hS20 := hS18.grow hB
      have hM20 := hM18.grow hB
      have hN20 := hN18.grow hB
      have hnA20 := hnA.grow hB
      have hBB20 := gca hBB18 hB
      have b1420 := gca b1418 hB
      clear hE18 hdE18 hS18 hM18 hN18 hnA hBB18 b1418 hB hb19 hb20 hsn sb sw b16
      go_wp2
      go_loopw [11] (fun v u => ∃ i : Nat, i ≤ 8 ∧ v = .int .i64 i ∧ Below w20.heap.size w20 u) (fun v _ => 8 - (intOf v).toNat)
      case atStart => exact ⟨0, Nat.zero_le _, rfl, gre _⟩
      case round =>
        obtain ⟨i, hi8, rfl, hbi⟩ := hrel
        rename World => wi
        by_cases hlt8 : i < 8
        case pos =>
          have hil : (i : Int) < 8 := by omega
          have i0_ : (0 : Int) ≤ (i : Int) := by omega
          have i1 : (i : Int) < (n0.blocks.length : Int) := by rw [hnb.out, h130'.out]; omega
          have i2 : (i : Int) < (e.blocks.length : Int) := by rw [h130'.out]; omega
          obtain ⟨m1, b1, o1, av, cv, hvk, hvm, hba, c0, hva⟩ := (hnA20.grow hbi).b.get (k := i) (by rw [hnb.out, h130'.out]; omega)
          obtain ⟨m2, b2, o2, av', cv', hvk', hvm', hba', d0, hva'⟩ := (hdE20.grow hbi).b.get (k := i) (by rw [h130'.out]; omega)
          obtain rfl : m2 = m1 := by rw [hvk.out, hvk'.out, hnb.out]
          simp only [Option.some.injEq, Addr.mk.injEq, and_true] at hba hba'
          obtain ⟨rfl, rfl⟩ := hba
          obtain ⟨rfl, rfl⟩ := hba'
          have hvl := (heO.bb m2 hvm').len
          have hr1 := fun (u : World) (hu : Below wi.heap.size wi u) => implRead_any s0 ls (i : Int) u q3 ((hM20.grow hbi).grow hu).at_ (small_i64 (by omega))
          have hr2 := fun (u : World) (hu : Below wi.heap.size wi u) => implRead_any e ⟨some ⟨eb, eo, none⟩, lbc, lwa, lwc⟩ (i : Int) u heO ((hdE20.grow hbi).grow hu) (small_i64 (by omega))
          simp only [hread'.out i (by omega)] at hr1
          have hyl := read_len heO (i : Int)
          obtain ⟨y, hy⟩ := hid_ex (e.read (i : Int))
          simp only [← hy.out] at hr1 hr2
          rw [← hy.out] at hyl
          have hNi := hN20.grow hbi
          have hEi := hE20.grow hbi
          have hSi := hS20.grow hbi
          clear hvk hvk' hvm hvm'
          go_upto_region 30 with fail
          have hB : Below wi.heap.size wi wi.drew := gdr (gre _)
          refine wp_regionU (fun u => VB u Sx (.slice ls.ba s0.blocks.length ls.bc) (.slice ls.wa s0.waiting.length ls.wc) ∧ VB u Ev (.slice (some ⟨eb, eo, none⟩) e.blocks.length lbc) (.slice lwa e.waiting.length lwc) ∧ VB u Nx (.slice (some ⟨nb, no, none⟩) n0.blocks.length nbc) (.slice nwa n0.waiting.length nwc) ∧ u.cell? ⟨nb, no + i, none⟩ = some (.slice av m2.length cv) ∧ u.cell? ⟨eb, eo + i, none⟩ = some (.slice av' m2.length cv')) 99 (by kernel_rfl) ⟨hSi.grow hB, hEi.grow hB, hNi.grow hB, (Kept.of_below hB (fun _ => False)).cell c0 (fun e => e), (Kept.of_below hB (fun _ => False)).cell d0 (fun e => e)⟩ (fun _ => ?_)
          refine anyU_tk (i := 0) rfl ⟨hSi.grow hB, hEi.grow hB, hNi.grow hB, (Kept.of_below hB (fun _ => False)).cell c0 (fun e => e), (Kept.of_below hB (fun _ => False)).cell d0 (fun e => e)⟩ (fun u hSu => by obtain ⟨⟨s0_, s1, _⟩, ⟨x0, x1, _⟩, ⟨n0_, n1, _⟩, c0_, d0_⟩ := hSu; go_simp <;> with_reducible rfl) ?_
          simp only [Act.put, List.getElem_toArray, List.getElem_cons_zero, List.setIfInBounds_toArray, List.set_cons_zero, List.set_cons_succ]
          refine anyU_tk (i := 1) rfl ⟨hSi.grow hB, hEi.grow hB, hNi.grow hB, (Kept.of_below hB (fun _ => False)).cell c0 (fun e => e), (Kept.of_below hB (fun _ => False)).cell d0 (fun e => e)⟩ (fun u hSu => by obtain ⟨⟨s0_, s1, _⟩, ⟨x0, x1, _⟩, ⟨n0_, n1, _⟩, c0_, d0_⟩ := hSu; go_simp <;> with_reducible rfl) ?_
          simp only [Act.put, List.getElem_toArray, List.getElem_cons_zero, List.getElem_cons_succ, List.setIfInBounds_toArray, List.set_cons_zero, List.set_cons_succ]
          refine anyU_tk (i := 3) rfl ⟨hSi.grow hB, hEi.grow hB, hNi.grow hB, (Kept.of_below hB (fun _ => False)).cell c0 (fun e => e), (Kept.of_below hB (fun _ => False)).cell d0 (fun e => e)⟩ (fun u hSu => by obtain ⟨⟨s0_, s1, _⟩, ⟨x0, x1, _⟩, ⟨n0_, n1, _⟩, c0_, d0_⟩ := hSu; go_simp <;> with_reducible rfl) ?_
          simp only [Act.put, List.getElem_toArray, List.getElem_cons_zero, List.getElem_cons_succ, List.setIfInBounds_toArray, List.set_cons_zero, List.set_cons_succ]
          refine anyU_tk (i := 4) rfl ⟨hSi.grow hB, hEi.grow hB, hNi.grow hB, (Kept.of_below hB (fun _ => False)).cell c0 (fun e => e), (Kept.of_below hB (fun _ => False)).cell d0 (fun e => e)⟩ (fun u hSu => by obtain ⟨⟨s0_, s1, _⟩, ⟨x0, x1, _⟩, ⟨n0_, n1, _⟩, c0_, d0_⟩ := hSu; go_simp <;> with_reducible rfl) ?_
          simp only [Act.put, List.getElem_toArray, List.getElem_cons_zero, List.getElem_cons_succ, List.setIfInBounds_toArray, List.set_cons_zero, List.set_cons_succ]
          refine anyU_one (i := 2) (by kernel_rfl) rfl (fun K hK => ?_)
          go_simp
          refine (hr1 _ hB).mono ?_
          rintro e_ w21 ⟨ra, rc, rfl, hMT1, hb21⟩
          have hB := gca hB hb21
          refine hK.out _ _ ⟨hSi.grow hB, hEi.grow hB, hNi.grow hB, (Kept.of_below hB (fun _ => False)).cell c0 (fun e => e), (Kept.of_below hB (fun _ => False)).cell d0 (fun e => e)⟩ ?_
          clear hK
          refine anyU_one (i := 5) (by kernel_rfl) rfl (fun K hK => ?_)
          go_simp
          refine (hr2 _ hB).mono ?_
          rintro e_ w22 ⟨ra2, rc2, rfl, hMT2, hb22⟩
          have hB := gca hB hb22
          refine hK.out _ _ ⟨hSi.grow hB, hEi.grow hB, hNi.grow hB, (Kept.of_below hB (fun _ => False)).cell c0 (fun e => e), (Kept.of_below hB (fun _ => False)).cell d0 (fun e => e)⟩ ?_
          clear hK
          refine anyU_one (i := 6) (by kernel_rfl) rfl (fun K hK => ?_)
          go_simp
          refine (wBytes_same ra ra2 y rc rc2 _ hyl (hMT1.at_.grow hb22) hMT2.at_).mono ?_
          rintro e_ w23 ⟨rfl, hb23⟩
          have hB := gca hB hb23
          refine hK.out _ _ ⟨hSi.grow hB, hEi.grow hB, hNi.grow hB, (Kept.of_below hB (fun _ => False)).cell c0 (fun e => e), (Kept.of_below hB (fun _ => False)).cell d0 (fun e => e)⟩ ?_
          clear hK
          refine anyU_tk (i := 7) rfl ⟨hSi.grow hB, hEi.grow hB, hNi.grow hB, (Kept.of_below hB (fun _ => False)).cell c0 (fun e => e), (Kept.of_below hB (fun _ => False)).cell d0 (fun e => e)⟩ (fun u hSu => by obtain ⟨⟨s0_, s1, _⟩, ⟨x0, x1, _⟩, ⟨n0_, n1, _⟩, c0_, d0_⟩ := hSu; go_simp <;> with_reducible rfl) ?_
          simp only [Act.put, List.getElem_toArray, List.getElem_cons_zero, List.getElem_cons_succ, List.setIfInBounds_toArray, List.set_cons_zero, List.set_cons_succ]
          refine anyU_tk (i := 8) rfl ⟨hSi.grow hB, hEi.grow hB, hNi.grow hB, (Kept.of_below hB (fun _ => False)).cell c0 (fun e => e), (Kept.of_below hB (fun _ => False)).cell d0 (fun e => e)⟩ (fun u hSu => by obtain ⟨⟨s0_, s1, _⟩, ⟨x0, x1, _⟩, ⟨n0_, n1, _⟩, c0_, d0_⟩ := hSu; go_simp <;> with_reducible rfl) ?_
          simp only [Act.put, List.getElem_toArray, List.getElem_cons_zero, List.getElem_cons_succ, List.setIfInBounds_toArray, List.set_cons_zero, List.set_cons_succ]
          refine anyU_tk (i := 9) rfl ⟨hSi.grow hB, hEi.grow hB, hNi.grow hB, (Kept.of_below hB (fun _ => False)).cell c0 (fun e => e), (Kept.of_below hB (fun _ => False)).cell d0 (fun e => e)⟩ (fun u hSu => by obtain ⟨⟨s0_, s1, _⟩, ⟨x0, x1, _⟩, ⟨n0_, n1, _⟩, c0_, d0_⟩ := hSu; go_simp <;> with_reducible rfl) ?_
          simp only [Act.put, List.getElem_toArray, List.getElem_cons_zero, List.getElem_cons_succ, List.setIfInBounds_toArray, List.set_cons_zero, List.set_cons_succ]
          refine anyU_tk (i := 10) rfl ⟨hSi.grow hB, hEi.grow hB, hNi.grow hB, (Kept.of_below hB (fun _ => False)).cell c0 (fun e => e), (Kept.of_below hB (fun _ => False)).cell d0 (fun e => e)⟩ (fun u hSu => by obtain ⟨⟨s0_, s1, _⟩, ⟨x0, x1, _⟩, ⟨n0_, n1, _⟩, c0_, d0_⟩ := hSu; go_simp <;> with_reducible rfl) ?_
          simp only [Act.put, List.getElem_toArray, List.getElem_cons_zero, List.getElem_cons_succ, List.setIfInBounds_toArray, List.set_cons_zero, List.set_cons_succ]
          refine anyU_tk (i := 11) rfl ⟨hSi.grow hB, hEi.grow hB, hNi.grow hB, (Kept.of_below hB (fun _ => False)).cell c0 (fun e => e), (Kept.of_below hB (fun _ => False)).cell d0 (fun e => e)⟩ (fun u hSu => by obtain ⟨⟨s0_, s1, _⟩, ⟨x0, x1, _⟩, ⟨n0_, n1, _⟩, c0_, d0_⟩ := hSu; go_simp <;> with_reducible rfl) ?_
          simp only [Act.put, List.getElem_toArray, List.getElem_cons_zero, List.getElem_cons_succ, List.setIfInBounds_toArray, List.set_cons_zero, List.set_cons_succ]
          refine anyU_tk (i := 12) rfl ⟨hSi.grow hB, hEi.grow hB, hNi.grow hB, (Kept.of_below hB (fun _ => False)).cell c0 (fun e => e), (Kept.of_below hB (fun _ => False)).cell d0 (fun e => e)⟩ (fun u hSu => by obtain ⟨⟨s0_, s1, _⟩, ⟨x0, x1, _⟩, ⟨n0_, n1, _⟩, c0_, d0_⟩ := hSu; go_simp <;> with_reducible rfl) ?_
          simp only [Act.put, List.getElem_toArray, List.getElem_cons_zero, List.getElem_cons_succ, List.setIfInBounds_toArray, List.set_cons_zero, List.set_cons_succ]
          refine anyU_tk (i := 13) rfl ⟨hSi.grow hB, hEi.grow hB, hNi.grow hB, (Kept.of_below hB (fun _ => False)).cell c0 (fun e => e), (Kept.of_below hB (fun _ => False)).cell d0 (fun e => e)⟩ (fun u hSu => by obtain ⟨⟨s0_, s1, _⟩, ⟨x0, x1, _⟩, ⟨n0_, n1, _⟩, c0_, d0_⟩ := hSu; go_simp <;> with_reducible rfl) ?_
          simp only [Act.put, List.getElem_toArray, List.getElem_cons_zero, List.getElem_cons_succ, List.setIfInBounds_toArray, List.set_cons_zero, List.set_cons_succ]
          refine anyU_tk (i := 14) rfl ⟨hSi.grow hB, hEi.grow hB, hNi.grow hB, (Kept.of_below hB (fun _ => False)).cell c0 (fun e => e), (Kept.of_below hB (fun _ => False)).cell d0 (fun e => e)⟩ (fun u hSu => by obtain ⟨⟨s0_, s1, _⟩, ⟨x0, x1, _⟩, ⟨n0_, n1, _⟩, c0_, d0_⟩ := hSu; go_simp <;> with_reducible rfl) ?_
          simp only [Act.put, List.getElem_toArray, List.getElem_cons_zero, List.getElem_cons_succ, List.setIfInBounds_toArray, List.set_cons_zero, List.set_cons_succ]
          refine anyU_tk (i := 15) rfl ⟨hSi.grow hB, hEi.grow hB, hNi.grow hB, (Kept.of_below hB (fun _ => False)).cell c0 (fun e => e), (Kept.of_below hB (fun _ => False)).cell d0 (fun e => e)⟩ (fun u hSu => by obtain ⟨⟨s0_, s1, _⟩, ⟨x0, x1, _⟩, ⟨n0_, n1, _⟩, c0_, d0_⟩ := hSu; go_simp <;> with_reducible rfl) ?_
          simp only [Act.put, List.getElem_toArray, List.getElem_cons_zero, List.getElem_cons_succ, List.setIfInBounds_toArray, List.set_cons_zero, List.set_cons_succ]
          refine anyU_tk (i := 16) rfl ⟨hSi.grow hB, hEi.grow hB, hNi.grow hB, (Kept.of_below hB (fun _ => False)).cell c0 (fun e => e), (Kept.of_below hB (fun _ => False)).cell d0 (fun e => e)⟩ (fun u hSu => by obtain ⟨⟨s0_, s1, _⟩, ⟨x0, x1, _⟩, ⟨n0_, n1, _⟩, c0_, d0_⟩ := hSu; go_simp <;> with_reducible rfl) ?_
          simp only [Act.put, List.getElem_toArray, List.getElem_cons_zero, List.getElem_cons_succ, List.setIfInBounds_toArray, List.set_cons_zero, List.set_cons_succ]
          refine anyU_tk (i := 17) rfl ⟨hSi.grow hB, hEi.grow hB, hNi.grow hB, (Kept.of_below hB (fun _ => False)).cell c0 (fun e => e), (Kept.of_below hB (fun _ => False)).cell d0 (fun e => e)⟩ (fun u hSu => by obtain ⟨⟨s0_, s1, _⟩, ⟨x0, x1, _⟩, ⟨n0_, n1, _⟩, c0_, d0_⟩ := hSu; go_simp <;> with_reducible rfl) ?_
          simp only [Act.put, List.getElem_toArray, List.getElem_cons_zero, List.getElem_cons_succ, List.setIfInBounds_toArray, List.set_cons_zero, List.set_cons_succ]
          refine anyU_tk (i := 18) rfl ⟨hSi.grow hB, hEi.grow hB, hNi.grow hB, (Kept.of_below hB (fun _ => False)).cell c0 (fun e => e), (Kept.of_below hB (fun _ => False)).cell d0 (fun e => e)⟩ (fun u hSu => by obtain ⟨⟨s0_, s1, _⟩, ⟨x0, x1, _⟩, ⟨n0_, n1, _⟩, c0_, d0_⟩ := hSu; go_simp <;> with_reducible rfl) ?_
          simp only [Act.put, List.getElem_toArray, List.getElem_cons_zero, List.getElem_cons_succ, List.setIfInBounds_toArray, List.set_cons_zero, List.set_cons_succ]
          refine anyU_one (i := 19) (by kernel_rfl) rfl (fun K hK => ?_)
          go_simp
          refine (wBytes_same av av' m2 cv cv' _ hvl (hva.grow hB) (hva'.grow hB)).mono ?_
          rintro e_ w24 ⟨rfl, hb24⟩
          have hB := gca hB hb24
          refine hK.out _ _ ⟨hSi.grow hB, hEi.grow hB, hNi.grow hB, (Kept.of_below hB (fun _ => False)).cell c0 (fun e => e), (Kept.of_below hB (fun _ => False)).cell d0 (fun e => e)⟩ ?_
          clear hK
          refine anyU_tk (i := 20) rfl ⟨hSi.grow hB, hEi.grow hB, hNi.grow hB, (Kept.of_below hB (fun _ => False)).cell c0 (fun e => e), (Kept.of_below hB (fun _ => False)).cell d0 (fun e => e)⟩ (fun u hSu => by obtain ⟨⟨s0_, s1, _⟩, ⟨x0, x1, _⟩, ⟨n0_, n1, _⟩, c0_, d0_⟩ := hSu; go_simp <;> with_reducible rfl) ?_
          simp only [Act.put, List.getElem_toArray, List.getElem_cons_zero, List.getElem_cons_succ, List.setIfInBounds_toArray, List.set_cons_zero, List.set_cons_succ]
          refine anyU_tk (i := 21) rfl ⟨hSi.grow hB, hEi.grow hB, hNi.grow hB, (Kept.of_below hB (fun _ => False)).cell c0 (fun e => e), (Kept.of_below hB (fun _ => False)).cell d0 (fun e => e)⟩ (fun u hSu => by obtain ⟨⟨s0_, s1, _⟩, ⟨x0, x1, _⟩, ⟨n0_, n1, _⟩, c0_, d0_⟩ := hSu; go_simp <;> with_reducible rfl) ?_
          simp only [Act.put, List.getElem_toArray, List.getElem_cons_zero, List.getElem_cons_succ, List.setIfInBounds_toArray, List.set_cons_zero, List.set_cons_succ]
          refine anyU_done (by kernel_rfl) ?_
          go_wp2
          go_roundw
          case rel => exact ⟨i + 1, by omega, by go_num, gca hbi hB⟩
          case measure => simp [intOf]; omega
        have hil : ¬ ((i : Int) < 8) := by omega
        have hNi := hN20.grow hbi
        have hSi := hS20.grow hbi
        have hMi := hM20.grow hbi
        have hBi := gca hBB20 hbi
        have b14i := gca b1420 hbi
        go_upto_region 32 with fail
        have hB : Below wi.heap.size wi wi.drew := gdr (gre _)
        refine wp_regionU (fun u => VB u Nx (.slice (some ⟨nb, no, none⟩) n0.blocks.length nbc) (.slice nwa n0.waiting.length nwc) ∧ VB u Sx (.slice ls.ba s0.blocks.length ls.bc) (.slice ls.wa s0.waiting.length ls.wc)) 99 (by kernel_rfl) ⟨hNi.grow hB, hSi.grow hB⟩ (fun _ => ?_)
        refine anyU_tk (i := 0) rfl ⟨hNi.grow hB, hSi.grow hB⟩ (fun u hSu => by obtain ⟨⟨n0_, n1, _⟩, ⟨s0_, s1, _⟩⟩ := hSu; go_simp <;> with_reducible rfl) ?_
        simp only [Act.put, List.getElem_toArray, List.getElem_cons_zero, List.setIfInBounds_toArray, List.set_cons_zero, List.set_cons_succ]
        refine anyU_tk (i := 1) rfl ⟨hNi.grow hB, hSi.grow hB⟩ (fun u hSu => by obtain ⟨⟨n0_, n1, _⟩, ⟨s0_, s1, _⟩⟩ := hSu; go_simp <;> with_reducible rfl) ?_
        simp only [Act.put, List.getElem_toArray, List.getElem_cons_zero, List.getElem_cons_succ, List.setIfInBounds_toArray, List.set_cons_zero, List.set_cons_succ]
        refine anyU_tk (i := 2) rfl ⟨hNi.grow hB, hSi.grow hB⟩ (fun u hSu => by obtain ⟨⟨n0_, n1, _⟩, ⟨s0_, s1, _⟩⟩ := hSu; go_simp <;> with_reducible rfl) ?_
        simp only [Act.put, List.getElem_toArray, List.getElem_cons_zero, List.getElem_cons_succ, List.setIfInBounds_toArray, List.set_cons_zero, List.set_cons_succ]
        refine anyU_tk (i := 3) (v := .bool true) rfl ⟨hNi.grow hB, hSi.grow hB⟩ (fun u hSu => by obtain ⟨⟨n0_, n1, _⟩, ⟨s0_, s1, _⟩⟩ := hSu; go_simp <;> simp [hnw.out]) ?_
        simp only [Act.put, List.getElem_toArray, List.getElem_cons_zero, List.getElem_cons_succ, List.setIfInBounds_toArray, List.set_cons_zero, List.set_cons_succ]
        refine anyU_tk (i := 4) rfl ⟨hNi.grow hB, hSi.grow hB⟩ (fun u hSu => by obtain ⟨⟨n0_, n1, _⟩, ⟨s0_, s1, _⟩⟩ := hSu; go_simp <;> with_reducible rfl) ?_
        simp only [Act.put, List.getElem_toArray, List.getElem_cons_zero, List.getElem_cons_succ, List.setIfInBounds_toArray, List.set_cons_zero, List.set_cons_succ]
        refine anyU_tk (i := 5) rfl ⟨hNi.grow hB, hSi.grow hB⟩ (fun u hSu => by obtain ⟨⟨n0_, n1, _⟩, ⟨s0_, s1, _⟩⟩ := hSu; go_simp <;> with_reducible rfl) ?_
        simp only [Act.put, List.getElem_toArray, List.getElem_cons_zero, List.getElem_cons_succ, List.setIfInBounds_toArray, List.set_cons_zero, List.set_cons_succ]
        refine anyU_tk (i := 6) rfl ⟨hNi.grow hB, hSi.grow hB⟩ (fun u hSu => by obtain ⟨⟨n0_, n1, _⟩, ⟨s0_, s1, _⟩⟩ := hSu; go_simp <;> with_reducible rfl) ?_
        simp only [Act.put, List.getElem_toArray, List.getElem_cons_zero, List.getElem_cons_succ, List.setIfInBounds_toArray, List.set_cons_zero, List.set_cons_succ]
        refine anyU_tk (i := 8) rfl ⟨hNi.grow hB, hSi.grow hB⟩ (fun u hSu => by obtain ⟨⟨n0_, n1, _⟩, ⟨s0_, s1, _⟩⟩ := hSu; go_simp <;> with_reducible rfl) ?_
        simp only [Act.put, List.getElem_toArray, List.getElem_cons_zero, List.getElem_cons_succ, List.setIfInBounds_toArray, List.set_cons_zero, List.set_cons_succ]
        refine anyU_one (i := 7) (by kernel_rfl) rfl (fun K hK => ?_)
        go_simp
        refine (hcs _ (gca b14i hB)).mono ?_
        rintro e_ w25 ⟨lc, fa_, fb_, fc_, fe_, rfl, hMc, hb25⟩
        have hB := gca hB hb25
        refine hK.out _ _ ⟨hNi.grow hB, hSi.grow hB⟩ ?_
        clear hK
        refine anyU_one (i := 9) (by kernel_rfl) rfl (fun K hK => ?_)
        go_simp
        refine (wDisk_same s0 lc ls _ q3 hMc.at_ (hMi.grow hB).at_).mono ?_
        rintro e_ w26 ⟨rfl, hb26⟩
        have hB := gca hB hb26
        refine hK.out _ _ ⟨hNi.grow hB, hSi.grow hB⟩ ?_
        clear hK
        refine anyU_tk (i := 10) rfl ⟨hNi.grow hB, hSi.grow hB⟩ (fun u hSu => by obtain ⟨⟨n0_, n1, _⟩, ⟨s0_, s1, _⟩⟩ := hSu; go_simp <;> with_reducible rfl) ?_
        simp only [Act.put, List.getElem_toArray, List.getElem_cons_zero, List.getElem_cons_succ, List.setIfInBounds_toArray, List.set_cons_zero, List.set_cons_succ]
        refine anyU_tk (i := 11) rfl ⟨hNi.grow hB, hSi.grow hB⟩ (fun u hSu => by obtain ⟨⟨n0_, n1, _⟩, ⟨s0_, s1, _⟩⟩ := hSu; go_simp <;> with_reducible rfl) ?_
        simp only [Act.put, List.getElem_toArray, List.getElem_cons_zero, List.getElem_cons_succ, List.setIfInBounds_toArray, List.set_cons_zero, List.set_cons_succ]
        refine anyU_done (by kernel_rfl) ?_
        go_wp2
        go_ret
        exact ⟨rfl, gca hBi hB⟩

end Go.Proofs.Ythjddpkegooobaa
