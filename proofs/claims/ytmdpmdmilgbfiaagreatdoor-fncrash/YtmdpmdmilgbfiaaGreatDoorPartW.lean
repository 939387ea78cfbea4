import Derived.Test.YtmdpmdmilgbfiaaGreatDoorPartL
import Derived.Test.YtmdpmdmilgbfiaaGreatDoorPartV

namespace Go.Proofs.YtmdpmdmilgbfiaaGreatDoor
open Go.RowKit

theorem owns_at {w : World} {base e n cap g : Nat} {xs : List Value} (h : w.ownsRow base e 1 (.slice (some ⟨g, 0, none⟩) n cap) n xs) {j : Nat} (hj : j < n) : (∃ v, w.cell? ⟨g, j, none⟩ = some v) ∧ ∀ o, w.frozen? ⟨g, o, none⟩ = false := by
  rcases h.2 with ⟨e0, _⟩ | ⟨g', cap', cur, hv, hb, hg, h1, h2, h3, h4⟩
  · simp at e0
  · simp only [Value.slice.injEq] at hv
    obtain ⟨e1, _, rfl⟩ := hv
    obtain rfl := some_addr e1
    refine ⟨⟨cur[j]'(by omega), ?_⟩, fun o => ?_⟩
    · simp [World.cell?, hg, show j < cur.size by omega]
    · simp [World.frozen?, hg]
theorem owns_set {w : World} {base e n cap g : Nat} {xs : List Value} (h : w.ownsRow base e 1 (.slice (some ⟨g, 0, none⟩) n cap) n xs) (j : Nat) (v : Value) : (w.setCell ⟨g, j, none⟩ v).ownsRow base e 1 (.slice (some ⟨g, 0, none⟩) n cap) n (xs.set j v) := by
  refine ⟨by rw [List.length_set]; exact h.1, ?_⟩
  rcases h.2 with ⟨e0, _⟩ | ⟨g', cap', cur, hv, hb, hg, h1, h2, h3, h4⟩
  · simp at e0
  · simp only [Value.slice.injEq] at hv
    obtain ⟨e1, _, rfl⟩ := hv
    obtain rfl := some_addr e1
    refine Or.inr ⟨g, cap, cur.setIfInBounds j v, rfl, hb, by simp [World.setCell, Array.getElem?_modify, hg], h1, h2, by rw [Array.size_setIfInBounds]; exact h3, ?_⟩
    rw [Array.toList_setIfInBounds, List.take_set, h4]
theorem SB.setAt {base : Nat} {w : World} {g bc : Nat} {lb : List LB} (h : SB base w (some ⟨g, 0, none⟩) bc lb) {y : LB} {j : Nat} (_hj : j < lb.length) (hy : w.ownsRow base 5 1 (.slice y.a y.l.length y.cap) y.l.length (bcells y.l)) : SB base (w.setCell ⟨g, j, none⟩ y.v) (some ⟨g, 0, none⟩) bc (lb.set j y) := by
  have hb : ∀ {x : LB}, w.ownsRow base 5 1 (.slice x.a x.l.length x.cap) x.l.length (bcells x.l) → (w.setCell ⟨g, j, none⟩ y.v).ownsRow base 5 1 (.slice x.a x.l.length x.cap) x.l.length (bcells x.l) := fun hx => (Kept.one w g j y.v).owns hx (fun z hz e => by subst e; exact not_B_of_S (owns_isS h.own (z := z) rfl).1 (owns_isB hx hz).1)
  refine ⟨by rw [List.length_set, List.map_set]; exact owns_set h.own j y.v, fun x hx => ?_⟩
  rcases List.mem_or_eq_of_mem_set hx with e | e
  · exact hb (h.byt x e)
  · subst e; exact hb hy
theorem settleN_congr {keep keep' : Nat → Bool} (bl : List (List Nat)) (ws : List DW) : ∀ j, (∀ i, i < j → keep i = keep' i) → settleN keep bl ws j = settleN keep' bl ws j
  | 0, _ => rfl
  | j + 1, h => by
    simp only [settleN]
    rw [h j (by omega), settleN_congr bl ws j (fun i hi => h i (by omega))]

def SSInv (w wr : World) (d : DD) (ks : List Bool) (base g bc R V k : Nat) : Prop := ∃ lb : List LB, Hid (lb.length = 130) ∧ Hid (lb.map (·.l) = settleN (keepOf ks) d.blocks d.waiting k) ∧ SB base wr (some ⟨g, 0, none⟩) bc lb ∧ VB wr V (.slice (some ⟨g, 0, none⟩) lb.length bc) (.slice none 0 0) ∧ VB wr R (.slice none 0 0) (.slice none 0 0) ∧ Below w.heap.size w wr

set_option maxHeartbeats 4000000 in
set_option maxRecDepth 100000 in
theorem l3settle_any (d : DD) (l : DL) (ka : Option Addr) (ks : List Bool) (kc : Nat) (w : World) (hd : d.Fit) (ha : DAt w l d) (hkl : ks.length ≤ maxLen) (hk0 : BoolsAt w ka ks) : Calls Tryz.prog 71 #[d.val l, .slice ka ks.length kc] w (CPost ⟨settleN (keepOf ks) d.blocks d.waiting d.waiting.length, []⟩ w) := by
  have hs : d.Small := ⟨by have := hd.bl; omega, fun b hb => by have := hd.bb b hb; omega, by have := hd.wl; omega, fun x hx => by have := (hd.wb x hx).2.2; omega⟩
  unfold maxLen at hkl
  have hw0 := gal (gre w) (.cells #[.slice l.ba d.blocks.length l.bc, .slice l.wa d.waiting.length l.wc] 46)
  have hX0 := DBox.new w d l 46
  have hs0 : (w.alloc (.cells #[.slice l.ba d.blocks.length l.bc, .slice l.wa d.waiting.length l.wc] 46)).heap.size = w.heap.size + 1 := by simp
  go_enter Tryz.func71, Tryz.ntmps71
  go_upto_region 1 with fail
  generalize hXe0 : w.heap.size = X0 at hX0 hs0 hw0 ⊢
  generalize w.alloc (.cells #[.slice l.ba d.blocks.length l.bc, .slice l.wa d.waiting.length l.wc] 46) = w0 at hw0 hX0 hs0 ⊢
  have hw1 := gal (gre w0) (.cells #[.slice none 0 0, .slice none 0 0] 46)
  have hR := VB.new_at w0 (.slice none 0 0) (.slice none 0 0) 46 (X0 + 1) hs0.symm
  have hX := hX0.grow hw1
  have hs1 : (w0.alloc (.cells #[.slice none 0 0, .slice none 0 0] 46)).heap.size = X0 + 1 + 1 := by simp [hs0]
  generalize w0.alloc (.cells #[.slice none 0 0, .slice none 0 0] 46) = wA at hw1 hR hX hs1 ⊢
  have hwA : Below w.heap.size w wA := by rw [← hXe0] at hw0; exact gca hw0 hw1
  have hXe : Hid (X0 = w.heap.size) := hXe0.symm
  obtain ⟨R, hRe⟩ := hid_ex (X0 + 1)
  rw [← hRe.out] at hR ⊢
  have x0 := hX.c0
  have x1 := hX.c1
  have haA := ha.grow hwA
  clear hX0 hw0 hs0 hw1
  go_upto_region 3 with (go_at_call 68; refine (l3copy_any d l _ hs haA).mono ?_; rintro e w2 ⟨lb0, lw0, ba, bc, wa0, wc0, rfl, hlb0, hlw0, hL0, hW0, hb2⟩)
  have hlen0 : lb0.length = 130 := by rw [← hd.bl, ← hlb0]; simp
  obtain ⟨g, rfl⟩ : ∃ g, ba = some ⟨g, 0, none⟩ := by
    obtain ⟨g, c, e, _⟩ := hL0.own.form (by omega)
    simp only [Value.slice.injEq] at e
    exact ⟨g, e.1⟩
  have hgl := (hL0.own.lt g rfl).2
  have hgb := (hL0.own.lt g rfl).1
  have hA3 := gal (gre w2) (.cells #[.slice (some ⟨g, 0, none⟩) d.blocks.length bc, .slice none 0 0] 46)
  have hV0 := VB.new w2 (.slice (some ⟨g, 0, none⟩) d.blocks.length bc) (.slice none 0 0) 46
  have hb3 := gca hb2 hA3
  have hX3 := hX.grow hb3
  have hI0 : SSInv w (w2.alloc (.cells #[.slice (some ⟨g, 0, none⟩) d.blocks.length bc, .slice none 0 0] 46)) d ks (X0 + 1 + 1) g bc R w2.heap.size 0 :=
    ⟨lb0, hlen0, hlb0, by rw [← hs1]; exact hL0.grow hA3, by rw [hlen0, ← hd.bl]; exact hV0, hR.grow hb3, hwA.trans (hb3.mono hwA.size)⟩
  generalize w2.alloc (.cells #[.slice (some ⟨g, 0, none⟩) d.blocks.length bc, .slice none 0 0] 46) = w3 at hA3 hV0 hb3 hX3 hI0 ⊢
  generalize w2.heap.size = V at hI0 hgl ⊢
  obtain ⟨base, hbe⟩ := hid_ex (X0 + 1 + 1)
  rw [← hbe.out] at hI0
  rw [hs1, ← hbe.out] at hgb
  have y1 := hX3.c1
  clear hV0 hL0 hW0 hb2 hA3 hb3 hX3 x0 x1 hX hR haA hwA hlb0 hlw0 hlen0 hs1
  go_wp2
  go_loopw [14] (fun i wr => ∃ k : Nat, k ≤ d.waiting.length ∧ i = .int .i64 k ∧ SSInv w wr d ks base g bc R V k) (fun i _ => d.waiting.length - (intOf i).toNat)
  case atStart => exact ⟨0, Nat.zero_le _, rfl, hI0⟩
  case round =>
    obtain ⟨k, hk, rfl, lb, hll, hlm, hL, hV, hR, hb⟩ := hrel
    clear hI0 y1
    by_cases hlt : k < d.waiting.length
    · obtain ⟨n, b, off, av, cv, hvk, hvm, hba, c0, c1, hva⟩ := (ha.w.grow hb).get hlt
      rw [hba]
      have i0 : (0 : Int) ≤ (k : Int) := by omega
      have i1 : (k : Int) < (d.waiting.length : Int) := by omega
      have hwl := hd.wl
      obtain ⟨hn0, hn1, hn64'⟩ := hd.wb n hvm
      have hn64 : Hid _ := hn64'
      clear hn64'
      obtain ⟨m, hm⟩ : ∃ m : Nat, n.block = (m : Int) := ⟨n.block.toNat, by omega⟩
      rw [hm] at c0
      go_upto_region 6 with fail
      have hAl := gal (gre wr) (.cells #[.int .i64 (m : Int), .slice av n.bytes.length cv] 125)
      have hLA := hL.grow hAl
      have hVA := hV.grow hAl
      have hRA := hR.grow hAl
      have hbA := gal hb (.cells #[.int .i64 (m : Int), .slice av n.bytes.length cv] 125)
      have hvaA := hva.grow hAl
      have hkA := hk0.grow hbA
      have q0 : (wr.alloc (.cells #[.int .i64 (m : Int), .slice av n.bytes.length cv] 125)).cell? ⟨wr.heap.size, 0, none⟩ = some (.int .i64 (m : Int)) := by simp
      have q1 : (wr.alloc (.cells #[.int .i64 (m : Int), .slice av n.bytes.length cv] 125)).cell? ⟨wr.heap.size, 1, none⟩ = some (.slice av n.bytes.length cv) := by simp
      have hsC : (wr.alloc (.cells #[.int .i64 (m : Int), .slice av n.bytes.length cv] 125)).heap.size = wr.heap.size + 1 := by simp
      generalize wr.alloc (.cells #[.int .i64 (m : Int), .slice av n.bytes.length cv] 125) = wC at hAl hLA hVA hRA hbA hvaA hkA q0 q1 hsC ⊢
      generalize hQ : wr.heap.size = Q at q0 q1 hsC ⊢
      have hm130 : m < 130 := by omega
      have j0 : (0 : Int) ≤ (m : Int) := by omega
      have j1 : (m : Int) < (lb.length : Int) := by have := hll.out; omega
      have hmt' : Hid (n.block.toNat = m) := by show _ = _; omega
      have hm' : Hid _ := hm
      clear hva hL hV hR hb c0 c1 hAl hm hn0 hn1
      have hll' := hll.out
      have hSk : ∀ (u u' : World), Below u.heap.size u u' → (u.cell? ⟨V, 0, none⟩ = some (.slice (some ⟨g, 0, none⟩) lb.length bc) ∧ u.cell? ⟨Q, 0, none⟩ = some (.int .i64 (m : Int)) ∧ u.cell? ⟨Q, 1, none⟩ = some (.slice av n.bytes.length cv)) → (u'.cell? ⟨V, 0, none⟩ = some (.slice (some ⟨g, 0, none⟩) lb.length bc) ∧ u'.cell? ⟨Q, 0, none⟩ = some (.int .i64 (m : Int)) ∧ u'.cell? ⟨Q, 1, none⟩ = some (.slice av n.bytes.length cv)) := fun u u' hb h => ⟨cell_later hb h.1, cell_later hb h.2.1, cell_later hb h.2.2⟩
      have hll2 : Hid _ := hll'
      clear hll'
      by_cases hkk : k < ks.length
      · obtain ⟨kb, ko, rfl, hkc⟩ := hkA k hkk
        have l1 : (k : Int) < (ks.length : Int) := by omega
        cases hx : ks[k]! with
        | true =>
          rw [hx] at hkc
          have hst : Hid (settleN (keepOf ks) d.blocks d.waiting (k + 1) = setB (settleN (keepOf ks) d.blocks d.waiting k) n) := by show _ = _; simp only [settleN]; rw [if_pos (by simp only [keepOf, hx, hkk, decide_true, Bool.and_self]), ← hvk.out]
          clear hx
          go_upto_region 7 with fail
          refine wp_regionU (fun u => u.cell? ⟨V, 0, none⟩ = some (.slice (some ⟨g, 0, none⟩) lb.length bc) ∧ u.cell? ⟨Q, 0, none⟩ = some (.int .i64 (m : Int)) ∧ u.cell? ⟨Q, 1, none⟩ = some (.slice av n.bytes.length cv)) 8 (by kernel_rfl) ⟨(hVA.grow (gdr (gre wC))).v0, q0, q1⟩ (fun hS0 => ?_)
          have hLd := hLA.grow (gdr (gre wC))
          have hVd := hVA.grow (gdr (gre wC))
          have hRd := hRA.grow (gdr (gre wC))
          have hbd := gdr hbA
          have hvd := hvaA.grow (gdr (gre wC))
          generalize wC.drew = wd at hLd hVd hRd hbd hvd hS0 ⊢
          refine anyU_take (i := 0) (v := ?_) rfl (by kernel_rfl) (by kernel_rfl) (by kernel_rfl) (by kernel_rfl) (fun _ _ _ h => h) (Or.inl ⟨by rfl, ?_⟩) hS0 ?_
          rotate_left
          · intro u hSu; obtain ⟨s0, s1, s2⟩ := hSu; go_simp <;> with_reducible rfl
          simp only [Act.put, List.getElem_toArray, List.getElem_cons_zero, List.setIfInBounds_toArray, List.set_cons_zero, List.set_cons_succ]
          refine anyU_take (i := 1) (v := ?_) rfl (by kernel_rfl) (by kernel_rfl) (by kernel_rfl) (by kernel_rfl) (fun _ _ _ h => h) (Or.inl ⟨by rfl, ?_⟩) hS0 ?_
          rotate_left
          · intro u hSu; obtain ⟨s0, s1, s2⟩ := hSu; go_simp <;> with_reducible rfl
          simp only [Act.put, List.getElem_toArray, List.getElem_cons_zero, List.getElem_cons_succ, List.setIfInBounds_toArray, List.set_cons_zero, List.set_cons_succ]
          refine anyU_take (i := 2) (v := ?_) rfl (by kernel_rfl) (by kernel_rfl) (by kernel_rfl) (by kernel_rfl) (fun _ _ _ h => h) (Or.inl ⟨by rfl, ?_⟩) hS0 ?_
          rotate_left
          · intro u hSu; obtain ⟨s0, s1, s2⟩ := hSu; go_simp <;> with_reducible rfl
          simp only [Act.put, List.getElem_toArray, List.getElem_cons_zero, List.getElem_cons_succ, List.setIfInBounds_toArray, List.set_cons_zero, List.set_cons_succ]
          refine anyU_take (i := 3) (v := ?_) rfl (by kernel_rfl) (by kernel_rfl) (by kernel_rfl) (by kernel_rfl) (fun _ _ _ h => h) (Or.inl ⟨by rfl, ?_⟩) hS0 ?_
          rotate_left
          · intro u hSu; obtain ⟨s0, s1, s2⟩ := hSu; go_simp <;> with_reducible rfl
          simp only [Act.put, List.getElem_toArray, List.getElem_cons_zero, List.getElem_cons_succ, List.setIfInBounds_toArray, List.set_cons_zero, List.set_cons_succ]
          refine anyU_take (i := 4) (v := ?_) rfl (by kernel_rfl) (by kernel_rfl) (by kernel_rfl) (by kernel_rfl) (fun _ _ _ h => h) (Or.inl ⟨by rfl, ?_⟩) hS0 ?_
          rotate_left
          · intro u hSu; obtain ⟨s0, s1, s2⟩ := hSu; go_simp <;> with_reducible rfl
          simp only [Act.put, List.getElem_toArray, List.getElem_cons_zero, List.getElem_cons_succ, List.setIfInBounds_toArray, List.set_cons_zero, List.set_cons_succ]
          refine anyU_take (i := 5) (v := ?_) rfl (by kernel_rfl) (by kernel_rfl) (by kernel_rfl) (by kernel_rfl) (fun _ _ _ h => h) (Or.inl ⟨by rfl, ?_⟩) hS0 ?_
          rotate_left
          · intro u hSu; obtain ⟨s0, s1, s2⟩ := hSu; go_simp <;> with_reducible rfl
          simp only [Act.put, List.getElem_toArray, List.getElem_cons_zero, List.getElem_cons_succ, List.setIfInBounds_toArray, List.set_cons_zero, List.set_cons_succ]
          refine anyU_one (i := 6) (by kernel_rfl) rfl (fun K hK => ?_)
          go_simp
          refine (l2copy_any av n.bytes cv _ (hs.wb n hvm) hvd).mono ?_
          rintro e w1 ⟨oa, oc, rfl, hoy, hB1⟩
          have hS1 := hSk _ _ hB1 hS0
          refine hK.out _ _ hS1 ?_
          clear hK
          have hL1 := hLd.grow hB1
          have hV1 := hVd.grow hB1
          have hR1 := hRd.grow hB1
          have hbel1 := gca hbd hB1
          have hy : w1.ownsRow base 5 1 (.slice oa n.bytes.length oc) n.bytes.length (bcells n.bytes) := owns_le hoy (by have := hVd.lt; omega)
          refine anyU_one (i := 7) (by kernel_rfl) rfl (fun K hK => ?_)
          go_simp
          refine hK.out _ _ hS1 ?_
          clear hK
          obtain ⟨⟨rv, rc⟩, rf⟩ := owns_at hL1.own (j := m) (by have := hll2.out; omega)
          refine anyU_last (by kernel_rfl) rfl (by kernel_rfl) (fun K hK => ?_)
          go_simp
          refine hK.out _ _ ?_
          clear hK
          have hL2 := hL1.setAt (y := ⟨n.bytes, oa, oc⟩) (j := m) (by have := hll2.out; omega) hy
          have hKs := Kept.one w1 g m (.slice oa n.bytes.length oc)
          have hV2 := hV1.kept hKs (by have := hll2.out; omega)
          have hR2 := hR1.kept hKs (by have := hRe.out; have := hbe.out; have hgb := (owns_isS hL1.own (z := g) rfl).2; omega)
          have hbel2 := hbel1.trans (hKs.below (B := w.heap.size) hbel1.size (fun z hz e => by have hgb := (owns_isS hL1.own (z := g) rfl).2; have := hXe.out; have := hbe.out; omega))
          go_wp2
          go_roundw
          case rel => exact ⟨k + 1, by omega, by go_num, lb.set m ⟨n.bytes, oa, oc⟩, by show _ = _; rw [List.length_set]; exact hll.out, by show _ = _; rw [hst.out, List.map_set, hlm.out, setB, hmt'.out], hL2, by rw [List.length_set]; exact hV2, hR2, hbel2⟩
          case measure => simp [intOf]; omega
        | false =>
          rw [hx] at hkc
          have hst : Hid (settleN (keepOf ks) d.blocks d.waiting (k + 1) = settleN (keepOf ks) d.blocks d.waiting k) := by show _ = _; simp only [settleN]; rw [if_neg (by simp [keepOf, hx])]
          clear hx
          go_wp2
          go_roundw
          case rel => exact ⟨k + 1, by omega, by go_num, lb, hll, by show _ = _; rw [hst.out]; exact hlm.out, hLA, hVA, hRA, hbA⟩
          case measure => simp [intOf]; omega
      · have l1 : ¬ ((k : Int) < (ks.length : Int)) := by omega
        have hst : Hid (settleN (keepOf ks) d.blocks d.waiting (k + 1) = settleN (keepOf ks) d.blocks d.waiting k) := by show _ = _; simp only [settleN]; rw [if_neg (by simp [keepOf, hkk])]
        go_wp2
        go_roundw
        case rel => exact ⟨k + 1, by omega, by go_num, lb, hll, by show _ = _; rw [hst.out]; exact hlm.out, hLA, hVA, hRA, hbA⟩
        case measure => simp [intOf]; omega
    · obtain rfl : k = d.waiting.length := by omega
      have y0 := hV.v0
      have y1 := hV.v1
      have z0 := hR.v0
      have z1 := hR.v1
      have zf := hR.vf
      obtain ⟨c0, c1, K⟩ := ret2 (A := .slice (some ⟨g, 0, none⟩) lb.length bc) (B := .slice none 0 0) z0 z1
      have hRb : R < base := by have := hbe.out; have := hRe.out; omega
      have hfL := ((hL.set (V := R) hRb 0 (.slice (some ⟨g, 0, none⟩) lb.length bc)).set (V := R) hRb 1 (.slice none 0 0)).le (base' := w.heap.size) (by have := hbe.out; have := hXe.out; omega)
      have hbel := hb.trans (K.below hb.size (fun z hz e => by have := hRe.out; have := hXe.out; omega))
      have hlen2 : Hid ((settleN (keepOf ks) d.blocks d.waiting d.waiting.length).length = lb.length) := by show _ = _; rw [settleN_length, hd.bl, hll.out]
      clear K hRb
      go_wp2
      refine bodyPost_ret (v := .agg #[.slice (some ⟨g, 0, none⟩) lb.length bc, .slice none 0 0]) (by simp [results, Tryz.results71, go_sem, c0, c1]) rfl ⟨lb, [], some ⟨g, 0, none⟩, bc, none, 0, by rw [DD.val, hlen2.out]; rfl, hlm.out, rfl, hfL, SW.nil _ _, hbel⟩

end Go.Proofs.YtmdpmdmilgbfiaaGreatDoor

namespace Go.Proofs.YtmdpmdmilgbfiaaGreatDoor
open Go.RowKit

set_option maxRecDepth 100000 in
theorem info_bool : (Tryz.prog.info? 4).map (fun i => (i.zero, i.size, i.bytes)) = some (some (.bool false), 1, 1) := by kernel_rfl

set_option maxRecDepth 100000 in
theorem l3all_any (n : Nat) (w : World) (hn : n ≤ 1048576) :
    Calls Tryz.prog 139 #[.int .i64 n] w fun e w' => ∃ b, e = .returned (.slice (some ⟨b, 0, none⟩) n n) ∧ BoolsAt w' (some ⟨b, 0, none⟩) (List.replicate n true) ∧ Below w.heap.size w w' := by
  obtain ⟨i0, hi, hz0, hz1, hz2⟩ := info_parts info_bool
  have hmk : ∀ u : World, (Instr.makeSlice 39 (.int .i64 (n : Int)) (.int .i64 (n : Int))).run Tryz.prog u =
      .ok (.slice (some ⟨u.heap.size, 0, none⟩) n n) (u.alloc (.cells (madeCells #[.bool false] n) 4)) := fun u => by
    have h := run_make (P := Tryz.prog) u 39 4 i0 _ Tryz.underlying39 hi hz0 .i64 .i64 (n : Int) (n : Int) (by omega) (Int.le_refl _) (by rw [hz2]; omega) (by omega)
    simpa [hz1, Value.cells] using h
  go_enter Tryz.func139, Tryz.ntmps139
  go_wp2
  go_loopw [9] (fun i wr => ∃ (k : Nat) (f : Nat → Value), k ≤ n ∧ i = .int .i64 k ∧ wr.rowIs w.heap.size 4 n f ∧ (∀ j, j < k → f j = .bool true) ∧ Below w.heap.size w wr) (fun i _ => n - (intOf i).toNat)
  case atStart => exact ⟨0, _, Nat.zero_le _, rfl, rowIs_made_any _ _ _ _, fun i hi => absurd hi (Nat.not_lt_zero _), (Below.refl _ _).alloc (Nat.le_refl _) _⟩
  case round =>
    obtain ⟨k, f, hk, rfl, hrow, hin, hb⟩ := hrel
    by_cases hlt : k < n
    · have d0 := hrow.cell hlt
      have f0 := hrow.frozen
      have i0' : (0 : Int) ≤ (k : Int) := by omega
      have i1 : (k : Int) < (n : Int) := by omega
      go_wp2
      go_roundw
      case rel =>
        refine ⟨k + 1, _, by omega, by go_num, hrow.set _ _, fun j hj => ?_, hb.setCell (Nat.le_refl _) _⟩
        show (if j = k then _ else _) = _
        split
        · rfl
        · exact hin j (by omega)
      case measure => simp [intOf]; omega
    · obtain rfl : k = n := by omega
      go_wp2
      go_ret
      refine ⟨_, rfl, fun i hi => ⟨_, 0, rfl, ?_⟩, hb⟩
      have hi' : i < k := by simpa using hi
      rw [Nat.zero_add, getElem!_pos _ i hi, List.getElem_replicate, ← hin i hi']
      exact hrow.cell hi'

theorem keepOf_all {n i : Nat} (h : i < n) : keepOf (List.replicate n true) i = keepAll i := by
  simp [keepOf, keepAll, h]
theorem zero_at (w : World) : DAt w ⟨none, 0, none, 0⟩ zeroD := ⟨fun _i hi => absurd hi (Nat.not_lt_zero _), fun _i hi => absurd hi (Nat.not_lt_zero _)⟩
theorem settle_yes {d : DD} (h : d.ok = true) (keep : Nat → Bool) : d.settle keep = ⟨settleN keep d.blocks d.waiting d.waiting.length, []⟩ := if_pos h
theorem settle_no {d : DD} (h : d.ok = false) (keep : Nat → Bool) : d.settle keep = zeroD := if_neg (by rw [h]; exact Bool.false_ne_true)

end Go.Proofs.YtmdpmdmilgbfiaaGreatDoor

namespace Go.Proofs.YtmdpmdmilgbfiaaGreatDoor
open Go.RowKit

theorem calls_args {P : Program} {f : Nat} {a b : Array Value} {w : World} {Q : Ending → World → Prop} (h : Calls P f a w Q) (e : a = b) : Calls P f b w Q := by subst e; exact h
theorem CPost.zero {w w' : World} (h : Below w.heap.size w w') : CPost zeroD w (.returned (.agg #[.slice none 0 0, .slice none 0 0])) w' := ⟨[], [], none, 0, none, 0, rfl, rfl, rfl, SB.nil _ _, SW.nil _ _, h⟩
theorem CPost.at_ {d : DD} {w w' : World} {e : Ending} (h : CPost d w e w') : SBPost d w e w' := by
  obtain ⟨lb, lw, ba, bc, wa, wc, rfl, h1, h2, h3, h4, h5⟩ := h
  refine ⟨_, rfl, ⟨?_, ?_⟩, h5⟩
  · have := h3.at_
    rwa [h1] at this
  · have := h4.at_
    rwa [h2] at this

set_option maxRecDepth 100000 in
theorem specSync_any (d : DD) (l : DL) (w : World) (hd : d.Ok) (ha : DAt w l d) : Calls Tryz.prog 113 #[d.val l] w (CPost (d.settle keepAll) w) := by
  have hA := gal (gal (gre w) (.cells #[.slice l.ba d.blocks.length l.bc, .slice l.wa d.waiting.length l.wc] 46)) (.cells #[.slice none 0 0, .slice none 0 0] 46)
  have hX0 := (DBox.new w d l 46).grow (gal (gre _) (.cells #[.slice none 0 0, .slice none 0 0] 46))
  have hR0 := VB.new_at (w.alloc (.cells #[.slice l.ba d.blocks.length l.bc, .slice l.wa d.waiting.length l.wc] 46)) (.slice none 0 0) (.slice none 0 0) 46 (w.heap.size + 1) (by simp)
  cases hok : d.ok with
  | false =>
    have hok' : Hid _ := hok
    clear hok
    rw [settle_no hok'.out]
    go_enter Tryz.func113, Tryz.ntmps113
    go_wp2_with (go_at_call 30; refine (specDiskOk_any d l _ hd (ha.grow hA)).mono ?_; rintro e w2 ⟨rfl, hb2⟩; rw [hok'.out]; obtain ⟨z0, z1, zf⟩ := hR0.grow hb2)
    obtain ⟨c0, c1, K⟩ := ret2 (A := .slice none 0 0) (B := .slice none 0 0) z0 z1
    refine bodyPost_ret (v := .agg #[.slice none 0 0, .slice none 0 0]) (by simp [results, Tryz.results113, go_sem, c0, c1]) rfl (CPost.zero ?_)
    exact (gca hA hb2).trans (K.below (gca hA hb2).size (fun z hz e => by omega))
  | true =>
    have hok' : Hid _ := hok
    clear hok
    have hsn : settleN (keepOf (List.replicate d.waiting.length true)) d.blocks d.waiting d.waiting.length = settleN keepAll d.blocks d.waiting d.waiting.length := settleN_congr _ _ _ (fun i hi => keepOf_all hi)
    rw [settle_yes hok'.out, ← hsn]
    obtain ⟨d', hd'⟩ := hid_ex (DD.mk (settleN (keepOf (List.replicate d.waiting.length true)) d.blocks d.waiting d.waiting.length) [])
    rw [← hd'.out]
    clear hsn
    go_enter Tryz.func113, Tryz.ntmps113
    go_upto_region 3 with (go_at_call 30; refine (specDiskOk_any d l _ hd (ha.grow hA)).mono ?_; rintro e w2 ⟨rfl, hb2⟩; rw [hok'.out])
    have hX2 := hX0.grow hb2
    have hR2 := hR0.grow hb2
    have hb2A := gca hA hb2
    refine wp_regionU (fun u => DBox u w.heap.size d l) 6 (by kernel_rfl) (hX2.grow (gdr (gre w2))) (fun hS0 => ?_)
    have hRd := hR2.grow (gdr (gre w2))
    have hbd := gdr hb2A
    generalize w2.drew = wd at hRd hbd hS0 ⊢
    refine anyU_take (i := 0) (v := ?_) rfl (by kernel_rfl) (by kernel_rfl) (by kernel_rfl) (by kernel_rfl) (fun _ _ _ h => h) (Or.inl ⟨by rfl, ?_⟩) hS0 ?_
    rotate_left
    · intro u hSu; obtain ⟨_, s0, s1⟩ := hSu; go_simp <;> with_reducible rfl
    simp only [Act.put, List.getElem_toArray, List.getElem_cons_zero, List.setIfInBounds_toArray, List.set_cons_zero, List.set_cons_succ]
    refine anyU_take (i := 1) (v := ?_) rfl (by kernel_rfl) (by kernel_rfl) (by kernel_rfl) (by kernel_rfl) (fun _ _ _ h => h) (Or.inl ⟨by rfl, ?_⟩) hS0 ?_
    rotate_left
    · intro u hSu; obtain ⟨_, s0, s1⟩ := hSu; go_simp <;> with_reducible rfl
    simp only [Act.put, List.getElem_toArray, List.getElem_cons_zero, List.getElem_cons_succ, List.setIfInBounds_toArray, List.set_cons_zero, List.set_cons_succ]
    refine anyU_take (i := 2) (v := ?_) rfl (by kernel_rfl) (by kernel_rfl) (by kernel_rfl) (by kernel_rfl) (fun _ _ _ h => h) (Or.inl ⟨by rfl, ?_⟩) hS0 ?_
    rotate_left
    · intro u hSu; obtain ⟨_, s0, s1⟩ := hSu; go_simp <;> with_reducible rfl
    simp only [Act.put, List.getElem_toArray, List.getElem_cons_zero, List.getElem_cons_succ, List.setIfInBounds_toArray, List.set_cons_zero, List.set_cons_succ]
    refine anyU_take (i := 3) (v := ?_) rfl (by kernel_rfl) (by kernel_rfl) (by kernel_rfl) (by kernel_rfl) (fun _ _ _ h => h) (Or.inl ⟨by rfl, ?_⟩) hS0 ?_
    rotate_left
    · intro u hSu; obtain ⟨_, s0, s1⟩ := hSu; go_simp <;> with_reducible rfl
    simp only [Act.put, List.getElem_toArray, List.getElem_cons_zero, List.getElem_cons_succ, List.setIfInBounds_toArray, List.set_cons_zero, List.set_cons_succ]
    refine anyU_one (i := 4) (by kernel_rfl) rfl (fun K hK => ?_)
    go_simp
    refine (l3all_any d.waiting.length _ (by have := (DD.fit hok'.out).wl; omega)).mono ?_
    rintro e w3 ⟨kb, rfl, hks, hb3⟩
    have hS3 := hS0.grow hb3
    refine hK.out _ _ hS3 ?_
    clear hK
    refine anyU_one (i := 5) (by kernel_rfl) rfl (fun K hK => ?_)
    go_simp
    have hll : (List.replicate d.waiting.length true).length = d.waiting.length := List.length_replicate
    refine (calls_args (l3settle_any d l (some ⟨kb, 0, none⟩) (List.replicate d.waiting.length true) d.waiting.length w3 (DD.fit hok'.out) (ha.grow (gca hbd hb3)) (by rw [hll]; exact hd.wl) hks) (by rw [hll])).mono ?_
    rw [← hd'.out]
    rintro e w4 ⟨lb, lw, ba, bc, wa, wc, rfl, hlb, hlw, hL4, hW4, hb4⟩
    have hS4 := hS3.grow hb4
    refine hK.out _ _ hS4 ?_
    clear hK
    have hR4 := (hRd.grow hb3).grow hb4
    have z0 := hR4.v0
    have z1 := hR4.v1
    have zf := hR4.vf
    refine anyU_last (by kernel_rfl) rfl (by kernel_rfl) (fun K hK => ?_)
    go_simp
    refine hK.out _ _ ?_
    clear hK
    have hball := gca (gca hbd hb3) hb4
    go_wp2
    obtain ⟨c0, c1, K⟩ := ret2 (A := .slice ba d'.blocks.length bc) (B := .slice wa d'.waiting.length wc) z0 z1
    have hRl : w.heap.size + 1 < w3.heap.size := by have := hRd.lt; have := hb3.size; omega
    have hfL := ((hL4.set (V := w.heap.size + 1) hRl 0 (.slice ba d'.blocks.length bc)).set (V := w.heap.size + 1) hRl 1 (.slice wa d'.waiting.length wc)).le (base' := w.heap.size) (by omega)
    have hfW := ((hW4.set (V := w.heap.size + 1) hRl 0 (.slice ba d'.blocks.length bc)).set (V := w.heap.size + 1) hRl 1 (.slice wa d'.waiting.length wc)).le (base' := w.heap.size) (by omega)
    refine bodyPost_ret (v := .agg #[.slice ba d'.blocks.length bc, .slice wa d'.waiting.length wc]) (by simp [results, Tryz.results113, go_sem, c0, c1]) rfl ⟨lb, lw, ba, bc, wa, wc, rfl, hlb, hlw, hfL, hfW, ?_⟩
    exact hball.trans (K.below hball.size (fun z hz e => by omega))

end Go.Proofs.YtmdpmdmilgbfiaaGreatDoor

namespace Go.Proofs.YtmdpmdmilgbfiaaGreatDoor
open Go.RowKit

def IsD (w : World) (b : Nat) : Prop := ∃ c, w.heap[b]? = some (.cells c 46 (0, 0))
theorem IsD.kept {p : Nat → Prop} {w w' : World} {b : Nat} (h : IsD w b) (K : Kept p w w') (hn : ¬ p b) : IsD w' b := by
  obtain ⟨c, hc⟩ := h
  exact ⟨c, (K.block b (Array.getElem?_eq_some_iff.1 hc).1 hn).trans hc⟩
theorem IsD.grow {w w' : World} {b : Nat} (h : IsD w b) (hb : Below w.heap.size w w') : IsD w' b := h.kept (Kept.of_below hb (fun _ => False)) (fun e => e)
theorem not_W_of_D {w : World} {b : Nat} (h : IsD w b) : ¬ IsW w b := fun ⟨c, hc⟩ => by
  obtain ⟨c', hc'⟩ := h
  rw [hc] at hc'
  simp at hc'
theorem not_B_of_D {w : World} {b : Nat} (h : IsD w b) : ¬ IsB w b := fun ⟨c, hc⟩ => by
  obtain ⟨c', hc'⟩ := h
  rw [hc] at hc'
  simp at hc'
theorem not_S_of_D {w : World} {b : Nat} (h : IsD w b) : ¬ IsS w b := fun ⟨c, hc⟩ => by
  obtain ⟨c', hc'⟩ := h
  rw [hc] at hc'
  simp at hc'
theorem put_no1 {d : DD} {b : Int} {bs : List Nat} (h : d.ok = false) : d.put b bs = zeroD := by simp [DD.put, h]
theorem put_no2 {d : DD} {b : Int} {bs : List Nat} (h : wrOk ⟨b, bs⟩ = false) : d.put b bs = zeroD := by simp [DD.put, h]
theorem put_no3 {d : DD} {b : Int} {bs : List Nat} (h : d.waiting.length = 200) : d.put b bs = zeroD := by simp [DD.put, h]
theorem put_yes {d : DD} {b : Int} {bs : List Nat} (h : d.ok = true) (h2 : wrOk ⟨b, bs⟩ = true) (h3 : d.waiting.length ≠ 200) : d.put b bs = ⟨d.blocks, d.waiting ++ [⟨b, bs⟩]⟩ := by simp [DD.put, h, h2, h3]

set_option maxHeartbeats 4000000 in
set_option maxRecDepth 100000 in
theorem specPut_any (d : DD) (l : DL) (b : Int) (ka : Option Addr) (ks : List Nat) (kc : Nat) (w : World) (hd : d.Ok) (ha : DAt w l d) (_hb : I64 b) (hkl : ks.length ≤ maxLen) (hka : BytesAt w ka ks) : Calls Tryz.prog 114 #[d.val l, .int .i64 b, .slice ka ks.length kc] w (CPost (d.put b ks) w) := by
  have hA := gal (gal (gre w) (.cells #[.slice l.ba d.blocks.length l.bc, .slice l.wa d.waiting.length l.wc] 46)) (.cells #[.slice none 0 0, .slice none 0 0] 46)
  have hX0 := (DBox.new w d l 46).grow (gal (gre _) (.cells #[.slice none 0 0, .slice none 0 0] 46))
  have hR0 := VB.new_at (w.alloc (.cells #[.slice l.ba d.blocks.length l.bc, .slice l.wa d.waiting.length l.wc] 46)) (.slice none 0 0) (.slice none 0 0) 46 (w.heap.size + 1) (by simp)
  have hkl' := hkl
  unfold maxLen at hkl'
  cases hok : d.ok with
  | false =>
    have hok' : Hid _ := hok
    clear hok
    rw [put_no1 hok'.out]
    go_enter Tryz.func114, Tryz.ntmps114
    go_wp2_with (go_at_call 30; refine (specDiskOk_any d l _ hd (ha.grow hA)).mono ?_; rintro e w2 ⟨rfl, hb2⟩; rw [hok'.out]; obtain ⟨z0, z1, zf⟩ := hR0.grow hb2; obtain ⟨_, x0, x1⟩ := hX0.grow hb2)
    obtain ⟨c0, c1, K⟩ := ret2 (A := .slice none 0 0) (B := .slice none 0 0) z0 z1
    refine bodyPost_ret (v := .agg #[.slice none 0 0, .slice none 0 0]) (by simp [results, Tryz.results114, go_sem, c0, c1]) rfl (CPost.zero ?_)
    exact (gca hA hb2).trans (K.below (gca hA hb2).size (fun z hz e => by omega))
  | true =>
    have hok' : Hid _ := hok
    clear hok
    have hfit := DD.fit hok'.out
    by_cases g0 : b < 0
    · rw [put_no2 (by simp [wrOk]; omega)]
      go_enter Tryz.func114, Tryz.ntmps114
      go_wp2_with (go_at_call 30; refine (specDiskOk_any d l _ hd (ha.grow hA)).mono ?_; rintro e w2 ⟨rfl, hb2⟩; rw [hok'.out]; obtain ⟨z0, z1, zf⟩ := hR0.grow hb2; obtain ⟨_, x0, x1⟩ := hX0.grow hb2)
      obtain ⟨c0, c1, K⟩ := ret2 (A := .slice none 0 0) (B := .slice none 0 0) z0 z1
      refine bodyPost_ret (v := .agg #[.slice none 0 0, .slice none 0 0]) (by simp [results, Tryz.results114, go_sem, c0, c1]) rfl (CPost.zero ?_)
      exact (gca hA hb2).trans (K.below (gca hA hb2).size (fun z hz e => by omega))
    · by_cases g1 : b ≥ 130
      · rw [put_no2 (by simp [wrOk]; omega)]
        go_enter Tryz.func114, Tryz.ntmps114
        go_wp2_with (go_at_call 30; refine (specDiskOk_any d l _ hd (ha.grow hA)).mono ?_; rintro e w2 ⟨rfl, hb2⟩; rw [hok'.out]; obtain ⟨z0, z1, zf⟩ := hR0.grow hb2; obtain ⟨_, x0, x1⟩ := hX0.grow hb2)
        obtain ⟨c0, c1, K⟩ := ret2 (A := .slice none 0 0) (B := .slice none 0 0) z0 z1
        refine bodyPost_ret (v := .agg #[.slice none 0 0, .slice none 0 0]) (by simp [results, Tryz.results114, go_sem, c0, c1]) rfl (CPost.zero ?_)
        exact (gca hA hb2).trans (K.below (gca hA hb2).size (fun z hz e => by omega))
      · by_cases g2 : ks.length = 64
        · have hn64 : Hid _ := g2
          have t2 : ((ks.length : Int) != 64) = false := by simp; omega
          by_cases g3 : d.waiting.length = 200
          · have t3 : ((d.waiting.length : Int) == 200) = true := by simp; omega
            rw [put_no3 g3]
            clear g2 g3
            go_enter Tryz.func114, Tryz.ntmps114
            go_wp2_with (go_at_call 30; refine (specDiskOk_any d l _ hd (ha.grow hA)).mono ?_; rintro e w2 ⟨rfl, hb2⟩; rw [hok'.out]; obtain ⟨z0, z1, zf⟩ := hR0.grow hb2; obtain ⟨_, x0, x1⟩ := hX0.grow hb2)
            obtain ⟨c0, c1, K⟩ := ret2 (A := .slice none 0 0) (B := .slice none 0 0) z0 z1
            refine bodyPost_ret (v := .agg #[.slice none 0 0, .slice none 0 0]) (by simp [results, Tryz.results114, go_sem, c0, c1]) rfl (CPost.zero ?_)
            exact (gca hA hb2).trans (K.below (gca hA hb2).size (fun z hz e => by omega))
          · have t3 : ((d.waiting.length : Int) == 200) = false := by simp; omega
            rw [put_yes hok'.out (by simp [wrOk, g2]; omega) g3]
            obtain ⟨k0, hkk, hk0, hk1, hk2⟩ := info_parts info_implWrite
            have hs : d.Small := ⟨by have := hfit.bl; omega, fun b hb => by have := hfit.bb b hb; omega, by have := hfit.wl; omega, fun x hx => by have := (hfit.wb x hx).2.2; omega⟩
            clear g2 g3
            go_enter Tryz.func114, Tryz.ntmps114
            go_upto_region 4 with (first
              | (go_at_call 30; refine (specDiskOk_any d l _ hd (ha.grow hA)).mono ?_; rintro e w1 ⟨rfl, hb1⟩; rw [hok'.out]; obtain ⟨_, x0, x1⟩ := hX0.grow hb1)
              | (go_at_call 68; refine (l3copy_any d l _ hs (ha.grow (gca hA hb1))).mono ?_; rintro e w2 ⟨lb, lw, ba, bc, wa, wc, rfl, hlb, hlw, hL2, hW2, hb2⟩))
            have hAl := gal (gre w2) (.cells #[.slice ba d.blocks.length bc, .slice wa d.waiting.length wc] 46)
            have hL3 := hL2.grow hAl
            have hW3 := hW2.grow hAl
            have hV3 := VB.new w2 (.slice ba d.blocks.length bc) (.slice wa d.waiting.length wc) 46
            have hD3 : IsD (w2.alloc (.cells #[.slice ba d.blocks.length bc, .slice wa d.waiting.length wc] 46)) w2.heap.size := ⟨_, blk_new_at _ _ _ rfl⟩
            have hR3 := (hR0.grow hb1).grow (gca hb2 hAl)
            have hb3A := gca (gca hA hb1) (gca hb2 hAl)
            have hbs : Hid (w.heap.size + 1 < w1.heap.size) := (hR0.grow hb1).lt
            have hVb : Hid (w1.heap.size ≤ w2.heap.size) := hb2.size
            have hlwl : Hid (lw.length = d.waiting.length) := by show _ = _; rw [← hlw]; simp
            generalize w2.alloc (.cells #[.slice ba d.blocks.length bc, .slice wa d.waiting.length wc] 46) = w3 at hAl hL3 hW3 hV3 hD3 hR3 hb3A ⊢
            generalize w2.heap.size = V at hV3 hD3 hVb ⊢
            generalize w1.heap.size = base at hL3 hW3 hbs hVb
            clear hAl hL2 hW2 hb2 hb1 x0 x1 hX0 hA
            refine wp_regionU (fun u => u.cell? ⟨V, 1, none⟩ = some (.slice wa d.waiting.length wc)) 9 (by kernel_rfl) (hV3.grow (gdr (gre w3))).v1 (fun hS0 => ?_)
            have hLd := hL3.grow (gdr (gre w3))
            have hWd := hW3.grow (gdr (gre w3))
            have hVd := hV3.grow (gdr (gre w3))
            have hRd := hR3.grow (gdr (gre w3))
            have hDd := hD3.grow (gdr (gre w3))
            have hbd := gdr hb3A
            have hvd := (hka.grow hb3A).grow (gdr (gre w3))
            generalize w3.drew = wd at hLd hWd hVd hRd hDd hbd hvd hS0 ⊢
            refine anyU_take (i := 0) (v := ?_) rfl (by kernel_rfl) (by kernel_rfl) (by kernel_rfl) (by kernel_rfl) (fun _ _ _ h => h) (Or.inl ⟨by rfl, ?_⟩) hS0 ?_
            rotate_left
            · intro u hSu; (try dsimp only at hSu); go_simp <;> with_reducible rfl
            simp only [Act.put, List.getElem_toArray, List.getElem_cons_zero, List.setIfInBounds_toArray, List.set_cons_zero, List.set_cons_succ]
            refine anyU_take (i := 1) (v := ?_) rfl (by kernel_rfl) (by kernel_rfl) (by kernel_rfl) (by kernel_rfl) (fun _ _ _ h => h) (Or.inl ⟨by rfl, ?_⟩) hS0 ?_
            rotate_left
            · intro u hSu; (try dsimp only at hSu); go_simp <;> with_reducible rfl
            simp only [Act.put, List.getElem_toArray, List.getElem_cons_zero, List.getElem_cons_succ, List.setIfInBounds_toArray, List.set_cons_zero, List.set_cons_succ]
            refine anyU_take (i := 2) (v := ?_) rfl (by kernel_rfl) (by kernel_rfl) (by kernel_rfl) (by kernel_rfl) (fun _ _ _ h => h) (Or.inl ⟨by rfl, ?_⟩) hS0 ?_
            rotate_left
            · intro u hSu; (try dsimp only at hSu); go_simp <;> with_reducible rfl
            simp only [Act.put, List.getElem_toArray, List.getElem_cons_zero, List.getElem_cons_succ, List.setIfInBounds_toArray, List.set_cons_zero, List.set_cons_succ]
            refine anyU_take (i := 3) (v := ?_) rfl (by kernel_rfl) (by kernel_rfl) (by kernel_rfl) (by kernel_rfl) (fun _ _ _ h => h) (Or.inl ⟨by rfl, ?_⟩) hS0 ?_
            rotate_left
            · intro u hSu; (try dsimp only at hSu); go_simp <;> with_reducible rfl
            simp only [Act.put, List.getElem_toArray, List.getElem_cons_zero, List.getElem_cons_succ, List.setIfInBounds_toArray, List.set_cons_zero, List.set_cons_succ]
            refine anyU_one (i := 4) (by kernel_rfl) rfl (fun K hK => ?_)
            go_simp
            refine (l2copy_any ka ks kc _ (by have := hn64.out; omega) hvd).mono ?_
            rintro e w4 ⟨oa, oc, rfl, hoy, hB1⟩
            have hS1 := cell_later hB1 hS0
            refine hK.out _ _ hS1 ?_
            clear hK
            have hL1 := hLd.grow hB1
            have hW1 := hWd.grow hB1
            have hV1 := hVd.grow hB1
            have hR1 := hRd.grow hB1
            have hD1 := hDd.grow hB1
            have hbel1 := gca hbd hB1
            have hy : w4.ownsRow base 5 1 (.slice oa ks.length oc) ks.length (bcells ks) := owns_le hoy (by have := hVd.lt; have := hVb.out; omega)
            refine anyU_one (i := 5) (by kernel_rfl) rfl (fun K hK => ?_)
            go_simp
            refine hK.out _ _ hS1 ?_
            clear hK
            have hB2 := gal (gre w4) (.cells #[.int .i64 b, .slice oa ks.length oc] 125)
            have hS2 := cell_later hB2 hS1
            have hS2' : Hid _ := hS2
            clear hS2
            refine anyU_one (i := 6) (by kernel_rfl) rfl (fun K hK => ?_)
            go_simp
            refine hK.out _ _ hS2'.out ?_
            clear hK
            have hL2 := hL1.grow hB2
            have hW2 := hW1.grow hB2
            have hV2 := hV1.grow hB2
            have hR2 := hR1.grow hB2
            have hD2 := hD1.grow hB2
            have hbel2 := gca hbel1 hB2
            have hy2 := (Kept.of_below hB2 (fun _ => False)).owns hy (fun _ _ e => e)
            have hnew := World.news_of_block (cs := #[.int .i64 b, .slice oa ks.length oc]) (t := 125) (fr := (0, 0)) (blk_new_at w4 (.cells #[.int .i64 b, .slice oa ks.length oc] 125) _ rfl)
            have hs2 : (w4.alloc (.cells #[.int .i64 b, .slice oa ks.length oc] 125)).heap.size = w4.heap.size + 1 := by simp
            generalize w4.alloc (.cells #[.int .i64 b, .slice oa ks.length oc] 125) = w5 at hB2 hS2' hL2 hW2 hV2 hR2 hD2 hbel2 hy2 hnew hs2 ⊢
            have hwl := hfit.wl
            refine anyU_one (i := 7) (by kernel_rfl) rfl (fun K hK => ?_)
            refine step_append_lies _ (by rfl) (.tmp 34) (.tmp 39) 44 rfl base 125 k0 _ 2 32 Tryz.underlying44 hkk hk0 hk1 hk2 rfl (by decide) (.slice wa d.waiting.length wc) d.waiting.length (wCells lw) (by rfl) (by have := hW2.own; rw [hlwl.out] at this; exact this) ⟨w4.heap.size, 0, none⟩ 1 1 [.int .i64 b, .slice oa ks.length oc] (by rfl) rfl hnew (by simp [Value.oneCell']) (by decide) (by unfold maxLen; omega) (by omega) (by have := hV2.lt; have := hVb.out; omega) (w4.heap.size + 1) hs2 ?_
            intro gg cc w6 hown5 hgrow5 hat5 hlt5
            have K5 := Kept.of_grown hgrow5
            have hz5 : ∀ z, (Value.slice wa d.waiting.length wc).ownBlock = some z → IsW w5 z ∧ base ≤ z := fun z e => by have h8 := hW2.own; rw [hlwl.out] at h8; exact owns_isW h8 e
            have hW5 := hW2.push (y := ⟨⟨b, ks⟩, oa, oc⟩) hy2 (by rw [hlwl.out]; exact hown5) (by rw [hlwl.out]; exact hgrow5)
            have hL5 := hL2.kept K5 (fun z e _ => ⟨fun hS => not_W_of_S hS (hz5 z e).1, not_B_of_W (hz5 z e).1⟩)
            have hV5 := hV2.kept K5 (fun e => not_W_of_D hD2 (hz5 _ e).1)
            have hR5 := hR2.kept K5 (fun e => by have := (hz5 _ e).2; have := hbs.out; omega)
            have hD5 := hD2.kept K5 (fun e => not_W_of_D hD2 (hz5 _ e).1)
            refine hK.out _ _ hV5.v1 ?_
            clear hK
            simp only [Act.put, List.getElem_toArray, List.getElem_cons_zero, List.getElem_cons_succ, List.setIfInBounds_toArray, List.set_cons_zero, List.set_cons_succ]
            refine anyU_one (i := 8) (by kernel_rfl) rfl (fun K hK => ?_)
            go_simp
            refine hK.out _ _ hV5.v1 ?_
            clear hK
            have fz := hV5.vf
            have c8 := hV5.v1
            refine anyU_last (by kernel_rfl) rfl (by kernel_rfl) (fun K hK => ?_)
            go_simp
            refine hK.out _ _ ?_
            clear hK
            have hbel5 := hbel2.trans (K5.below (B := w.heap.size) hbel2.size (fun z hz e => by have := (hz5 _ e).2; have := hbs.out; omega))
            have K6 := Kept.one w6 V 1 (.slice (some ⟨gg, 0, none⟩) (d.waiting.length + 1) cc)
            have hW6 := hW5.kept K6 (fun z e _ => by subst e; exact ⟨not_W_of_D hD5, not_B_of_D hD5⟩)
            have hL6 := hL5.kept K6 (fun z e _ => by subst e; exact ⟨not_S_of_D hD5, not_B_of_D hD5⟩)
            have hV6 := hV5.set1 (.slice (some ⟨gg, 0, none⟩) (d.waiting.length + 1) cc)
            have hR6 := hR5.kept K6 (by have := hVb.out; have := hbs.out; omega)
            have hbel6 := hbel5.trans (K6.below (B := w.heap.size) hbel5.size (fun z hz e => by have := hVb.out; have := hbs.out; omega))
            generalize w6.setCell ⟨V, 1, none⟩ (.slice (some ⟨gg, 0, none⟩) (d.waiting.length + 1) cc) = w7 at hW6 hL6 hV6 hR6 hbel6 ⊢
            have y0 := hV6.v0
            have y1 := hV6.v1
            have z0 := hR6.v0
            have z1 := hR6.v1
            have zf := hR6.vf
            obtain ⟨c0, c1, K⟩ := ret2 (A := .slice ba d.blocks.length bc) (B := .slice (some ⟨gg, 0, none⟩) (d.waiting.length + 1) cc) z0 z1
            have hRb : w.heap.size + 1 < base := by have := hbs.out; omega
            have hfL := ((hL6.set (V := w.heap.size + 1) hRb 0 (.slice ba d.blocks.length bc)).set (V := w.heap.size + 1) hRb 1 (.slice (some ⟨gg, 0, none⟩) (d.waiting.length + 1) cc)).le (base' := w.heap.size) (by omega)
            have hfW := ((hW6.set (V := w.heap.size + 1) hRb 0 (.slice ba d.blocks.length bc)).set (V := w.heap.size + 1) hRb 1 (.slice (some ⟨gg, 0, none⟩) (d.waiting.length + 1) cc)).le (base' := w.heap.size) (by omega)
            have hbel := hbel6.trans (K.below hbel6.size (fun z hz e => by omega))
            clear K hRb
            go_wp2
            refine bodyPost_ret (v := .agg #[.slice ba d.blocks.length bc, .slice (some ⟨gg, 0, none⟩) (d.waiting.length + 1) cc]) (by simp [results, Tryz.results114, go_sem, c0, c1]) rfl ⟨lb, lw ++ [⟨⟨b, ks⟩, oa, oc⟩], ba, bc, some ⟨gg, 0, none⟩, cc, by simp [DD.val], hlb, by rw [List.map_append, hlw]; rfl, hfL, hfW, hbel⟩
        · have t2 : ((ks.length : Int) != 64) = true := by simp; omega
          rw [put_no2 (by simp [wrOk, g2])]
          clear g2
          go_enter Tryz.func114, Tryz.ntmps114
          go_wp2_with (go_at_call 30; refine (specDiskOk_any d l _ hd (ha.grow hA)).mono ?_; rintro e w2 ⟨rfl, hb2⟩; rw [hok'.out]; obtain ⟨z0, z1, zf⟩ := hR0.grow hb2; obtain ⟨_, x0, x1⟩ := hX0.grow hb2)
          obtain ⟨c0, c1, K⟩ := ret2 (A := .slice none 0 0) (B := .slice none 0 0) z0 z1
          refine bodyPost_ret (v := .agg #[.slice none 0 0, .slice none 0 0]) (by simp [results, Tryz.results114, go_sem, c0, c1]) rfl (CPost.zero ?_)
          exact (gca hA hb2).trans (K.below (gca hA hb2).size (fun z hz e => by omega))

end Go.Proofs.YtmdpmdmilgbfiaaGreatDoor
