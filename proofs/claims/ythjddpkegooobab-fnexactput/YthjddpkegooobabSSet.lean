/-
  SSET: the specification carries writes out. Own work.
-/
import Derived.Test.YthjddpkegooobabSL3
import Derived.Test.YthjddpkegooobabDPowA
namespace Go.Proofs.Ythjddpkegooobab
open Go.RowKit

theorem owns_at {w : World} {base e n cap g : Nat} {xs : List Value} (h : w.ownsRow base e 1 (.slice (some ⟨g, 0, none⟩) n cap) n xs) {j : Nat} (hj : j < n) : (∃ v, w.cell? ⟨g, j, none⟩ = some v) ∧ ∀ o, w.frozen? ⟨g, o, none⟩ = false := by
  rcases h.2 with ⟨e0, _⟩ | ⟨g', cap', cur, hv, hb, hg, h1, h2, h3, h4⟩
  · simp at e0
  · simp only [Value.slice.injEq] at hv
    obtain ⟨e1, _, rfl⟩ := hv
    obtain rfl := some_addr e1
    refine ⟨⟨cur[j]'(by omega), ?_⟩, fun o => ?_⟩
    · simp [World.cell?, hg, show j < cur.size by omega]
    · simp [World.frozen?, hg]
theorem owns_set {w : World} {base e n cap g : Nat} {xs : List Value} (h : w.ownsRow base e 1 (.slice (some ⟨g, 0, none⟩) n cap) n xs) (j : Nat) (v : Value) : (w.setCell ⟨g, j, none⟩ v).ownsRow base e 1 (.slice (some ⟨g, 0, none⟩) n cap) n (xs.set j v) := by
  refine ⟨by rw [List.length_set]; exact h.1, ?_⟩
  rcases h.2 with ⟨e0, _⟩ | ⟨g', cap', cur, hv, hb, hg, h1, h2, h3, h4⟩
  · simp at e0
  · simp only [Value.slice.injEq] at hv
    obtain ⟨e1, _, rfl⟩ := hv
    obtain rfl := some_addr e1
    refine Or.inr ⟨g, cap, cur.setIfInBounds j v, rfl, hb, by simp [World.setCell, Array.getElem?_modify, hg], h1, h2, by rw [Array.size_setIfInBounds]; exact h3, ?_⟩
    rw [Array.toList_setIfInBounds, List.take_set, h4]
theorem SB.setAt {base : Nat} {w : World} {g bc : Nat} {lb : List LB} (h : SB base w (some ⟨g, 0, none⟩) bc lb) {y : LB} {j : Nat} (_hj : j < lb.length) (hy : w.ownsRow base 5 1 (.slice y.a y.l.length y.cap) y.l.length (bcells y.l)) : SB base (w.setCell ⟨g, j, none⟩ y.v) (some ⟨g, 0, none⟩) bc (lb.set j y) := by
  have hb : ∀ {x : LB}, w.ownsRow base 5 1 (.slice x.a x.l.length x.cap) x.l.length (bcells x.l) → (w.setCell ⟨g, j, none⟩ y.v).ownsRow base 5 1 (.slice x.a x.l.length x.cap) x.l.length (bcells x.l) := fun hx => (Kept.one w g j y.v).owns hx (fun z hz e => by subst e; exact not_B_of_S (owns_isS h.own (z := z) rfl).1 (owns_isB hx hz).1)
  refine ⟨by rw [List.length_set, List.map_set]; exact owns_set h.own j y.v, fun x hx => ?_⟩
  rcases List.mem_or_eq_of_mem_set hx with e | e
  · exact hb (h.byt x e)
  · subst e; exact hb hy
theorem settleN_congr {keep keep' : Nat → Bool} (bl : List (List Nat)) (ws : List DW) : ∀ j, (∀ i, i < j → keep i = keep' i) → settleN keep bl ws j = settleN keep' bl ws j
  | 0, _ => rfl
  | j + 1, h => by
    simp only [settleN]
    rw [h j (by omega), settleN_congr bl ws j (fun i hi => h i (by omega))]

def SSInv (w wr : World) (d : DD) (ks : List Bool) (base g bc R V k : Nat) : Prop := ∃ lb : List LB, Hid (lb.length = 130) ∧ Hid (lb.map (·.l) = settleN (keepOf ks) d.blocks d.waiting k) ∧ SB base wr (some ⟨g, 0, none⟩) bc lb ∧ VB wr V (.slice (some ⟨g, 0, none⟩) lb.length bc) (.slice none 0 0) ∧ VB wr R (.slice none 0 0) (.slice none 0 0) ∧ Below w.heap.size w wr

set_option maxHeartbeats 4000000 in
set_option maxRecDepth 100000 in
theorem l3settle_any (d : DD) (l : DL) (ka : Option Addr) (ks : List Bool) (kc : Nat) (w : World) (hd : d.Fit) (ha : DAt w l d) (hkl : ks.length ≤ maxLen) (hk0 : BoolsAt w ka ks) : Calls Try.prog 106 #[d.val l, .slice ka ks.length kc] w (CPost ⟨settleN (keepOf ks) d.blocks d.waiting d.waiting.length, []⟩ w) := by
  have hs : d.Small := ⟨by have := hd.bl; omega, fun b hb => by have := hd.bb b hb; omega, by have := hd.wl; omega, fun x hx => by have := (hd.wb x hx).2.2; omega⟩
  unfold maxLen at hkl
  have hw0 := gal (gre w) (.cells #[.slice l.ba d.blocks.length l.bc, .slice l.wa d.waiting.length l.wc] 50)
  have hX0 := DBox.new w d l 50
  have hs0 : (w.alloc (.cells #[.slice l.ba d.blocks.length l.bc, .slice l.wa d.waiting.length l.wc] 50)).heap.size = w.heap.size + 1 := by simp
  go_enter Try.func106, Try.ntmps106
  go_upto_region 1 with fail
  generalize hXe0 : w.heap.size = X0 at hX0 hs0 hw0 ⊢
  generalize w.alloc (.cells #[.slice l.ba d.blocks.length l.bc, .slice l.wa d.waiting.length l.wc] 50) = w0 at hw0 hX0 hs0 ⊢
  have hw1 := gal (gre w0) (.cells #[.slice none 0 0, .slice none 0 0] 50)
  have hR := VB.new_at w0 (.slice none 0 0) (.slice none 0 0) 50 (X0 + 1) hs0.symm
  have hX := hX0.grow hw1
  have hs1 : (w0.alloc (.cells #[.slice none 0 0, .slice none 0 0] 50)).heap.size = X0 + 1 + 1 := by simp [hs0]
  generalize w0.alloc (.cells #[.slice none 0 0, .slice none 0 0] 50) = wA at hw1 hR hX hs1 ⊢
  have hwA : Below w.heap.size w wA := by rw [← hXe0] at hw0; exact gca hw0 hw1
  have hXe : Hid (X0 = w.heap.size) := hXe0.symm
  obtain ⟨R, hRe⟩ := hid_ex (X0 + 1)
  rw [← hRe.out] at hR ⊢
  have x0 := hX.c0
  have x1 := hX.c1
  have haA := ha.grow hwA
  clear hX0 hw0 hs0 hw1
  go_upto_region 3 with (go_at_call 102; refine (l3copy_any d l _ hs haA).mono ?_; rintro e w2 ⟨lb0, lw0, ba, bc, wa0, wc0, rfl, hlb0, hlw0, hL0, hW0, hb2⟩)
  have hlen0 : lb0.length = 130 := by rw [← hd.bl, ← hlb0]; simp
  obtain ⟨g, rfl⟩ : ∃ g, ba = some ⟨g, 0, none⟩ := by
    obtain ⟨g, c, e, _⟩ := hL0.own.form (by omega)
    simp only [Value.slice.injEq] at e
    exact ⟨g, e.1⟩
  have hgl := (hL0.own.lt g rfl).2
  have hgb := (hL0.own.lt g rfl).1
  have hA3 := gal (gre w2) (.cells #[.slice (some ⟨g, 0, none⟩) d.blocks.length bc, .slice none 0 0] 50)
  have hV0 := VB.new w2 (.slice (some ⟨g, 0, none⟩) d.blocks.length bc) (.slice none 0 0) 50
  have hb3 := gca hb2 hA3
  have hX3 := hX.grow hb3
  have hI0 : SSInv w (w2.alloc (.cells #[.slice (some ⟨g, 0, none⟩) d.blocks.length bc, .slice none 0 0] 50)) d ks (X0 + 1 + 1) g bc R w2.heap.size 0 :=
    ⟨lb0, hlen0, hlb0, by rw [← hs1]; exact hL0.grow hA3, by rw [hlen0, ← hd.bl]; exact hV0, hR.grow hb3, hwA.trans (hb3.mono hwA.size)⟩
  generalize w2.alloc (.cells #[.slice (some ⟨g, 0, none⟩) d.blocks.length bc, .slice none 0 0] 50) = w3 at hA3 hV0 hb3 hX3 hI0 ⊢
  generalize w2.heap.size = V at hI0 hgl ⊢
  obtain ⟨base, hbe⟩ := hid_ex (X0 + 1 + 1)
  rw [← hbe.out] at hI0
  rw [hs1, ← hbe.out] at hgb
  have y1 := hX3.c1
  clear hV0 hL0 hW0 hb2 hA3 hb3 hX3 x0 x1 hX hR haA hwA hlb0 hlw0 hlen0 hs1
  go_wp2
  go_loopw [14] (fun i wr => ∃ k : Nat, k ≤ d.waiting.length ∧ i = .int .i64 k ∧ SSInv w wr d ks base g bc R V k) (fun i _ => d.waiting.length - (intOf i).toNat)
  case atStart => exact ⟨0, Nat.zero_le _, rfl, hI0⟩
  case round =>
    obtain ⟨k, hk, rfl, lb, hll, hlm, hL, hV, hR, hb⟩ := hrel
    clear hI0 y1
    by_cases hlt : k < d.waiting.length
    · obtain ⟨n, b, off, av, cv, hvk, hvm, hba, c0, c1, hva⟩ := (ha.w.grow hb).get hlt
      rw [hba]
      have i0 : (0 : Int) ≤ (k : Int) := by omega
      have i1 : (k : Int) < (d.waiting.length : Int) := by omega
      have hwl := hd.wl
      obtain ⟨hn0, hn1, hn64'⟩ := hd.wb n hvm
      have hn64 : Hid _ := hn64'
      clear hn64'
      obtain ⟨m, hm⟩ : ∃ m : Nat, n.block = (m : Int) := ⟨n.block.toNat, by omega⟩
      rw [hm] at c0
      go_upto_region 6 with fail
      have hAl := gal (gre wr) (.cells #[.int .i64 (m : Int), .slice av n.bytes.length cv] 133)
      have hLA := hL.grow hAl
      have hVA := hV.grow hAl
      have hRA := hR.grow hAl
      have hbA := gal hb (.cells #[.int .i64 (m : Int), .slice av n.bytes.length cv] 133)
      have hvaA := hva.grow hAl
      have hkA := hk0.grow hbA
      have q0 : (wr.alloc (.cells #[.int .i64 (m : Int), .slice av n.bytes.length cv] 133)).cell? ⟨wr.heap.size, 0, none⟩ = some (.int .i64 (m : Int)) := by simp
      have q1 : (wr.alloc (.cells #[.int .i64 (m : Int), .slice av n.bytes.length cv] 133)).cell? ⟨wr.heap.size, 1, none⟩ = some (.slice av n.bytes.length cv) := by simp
      have hsC : (wr.alloc (.cells #[.int .i64 (m : Int), .slice av n.bytes.length cv] 133)).heap.size = wr.heap.size + 1 := by simp
      generalize wr.alloc (.cells #[.int .i64 (m : Int), .slice av n.bytes.length cv] 133) = wC at hAl hLA hVA hRA hbA hvaA hkA q0 q1 hsC ⊢
      generalize hQ : wr.heap.size = Q at q0 q1 hsC ⊢
      have hm130 : m < 130 := by omega
      have j0 : (0 : Int) ≤ (m : Int) := by omega
      have j1 : (m : Int) < (lb.length : Int) := by have := hll.out; omega
      have hmt' : Hid (n.block.toNat = m) := by show _ = _; omega
      have hm' : Hid _ := hm
      clear hva hL hV hR hb c0 c1 hAl hm hn0 hn1
      have hll' := hll.out
      have hSk : ∀ (u u' : World), Below u.heap.size u u' → (u.cell? ⟨V, 0, none⟩ = some (.slice (some ⟨g, 0, none⟩) lb.length bc) ∧ u.cell? ⟨Q, 0, none⟩ = some (.int .i64 (m : Int)) ∧ u.cell? ⟨Q, 1, none⟩ = some (.slice av n.bytes.length cv)) → (u'.cell? ⟨V, 0, none⟩ = some (.slice (some ⟨g, 0, none⟩) lb.length bc) ∧ u'.cell? ⟨Q, 0, none⟩ = some (.int .i64 (m : Int)) ∧ u'.cell? ⟨Q, 1, none⟩ = some (.slice av n.bytes.length cv)) := fun u u' hb h => ⟨cell_later hb h.1, cell_later hb h.2.1, cell_later hb h.2.2⟩
      have hll2 : Hid _ := hll'
      clear hll'
      by_cases hkk : k < ks.length
      · obtain ⟨kb, ko, rfl, hkc⟩ := hkA k hkk
        have l1 : (k : Int) < (ks.length : Int) := by omega
        cases hx : ks[k]! with
        | true =>
          rw [hx] at hkc
          have hst : Hid (settleN (keepOf ks) d.blocks d.waiting (k + 1) = setB (settleN (keepOf ks) d.blocks d.waiting k) n) := by show _ = _; simp only [settleN]; rw [if_pos (by simp only [keepOf, hx, hkk, decide_true, Bool.and_self]), ← hvk.out]
          clear hx
          go_upto_region 7 with fail
          refine wp_regionU (fun u => u.cell? ⟨V, 0, none⟩ = some (.slice (some ⟨g, 0, none⟩) lb.length bc) ∧ u.cell? ⟨Q, 0, none⟩ = some (.int .i64 (m : Int)) ∧ u.cell? ⟨Q, 1, none⟩ = some (.slice av n.bytes.length cv)) 8 (by kernel_rfl) ⟨(hVA.grow (gdr (gre wC))).v0, q0, q1⟩ (fun hS0 => ?_)
          have hLd := hLA.grow (gdr (gre wC))
          have hVd := hVA.grow (gdr (gre wC))
          have hRd := hRA.grow (gdr (gre wC))
          have hbd := gdr hbA
          have hvd := hvaA.grow (gdr (gre wC))
          generalize wC.drew = wd at hLd hVd hRd hbd hvd hS0 ⊢
          refine anyU_take (i := 0) (v := ?_) rfl (by kernel_rfl) (by kernel_rfl) (by kernel_rfl) (by kernel_rfl) (fun _ _ _ h => h) (Or.inl ⟨by rfl, ?_⟩) hS0 ?_
          rotate_left
          · intro u hSu; obtain ⟨s0, s1, s2⟩ := hSu; go_simp <;> with_reducible rfl
          simp only [Act.put, List.getElem_toArray, List.getElem_cons_zero, List.setIfInBounds_toArray, List.set_cons_zero, List.set_cons_succ]
          refine anyU_take (i := 1) (v := ?_) rfl (by kernel_rfl) (by kernel_rfl) (by kernel_rfl) (by kernel_rfl) (fun _ _ _ h => h) (Or.inl ⟨by rfl, ?_⟩) hS0 ?_
          rotate_left
          · intro u hSu; obtain ⟨s0, s1, s2⟩ := hSu; go_simp <;> with_reducible rfl
          simp only [Act.put, List.getElem_toArray, List.getElem_cons_zero, List.getElem_cons_succ, List.setIfInBounds_toArray, List.set_cons_zero, List.set_cons_succ]
          refine anyU_take (i := 2) (v := ?_) rfl (by kernel_rfl) (by kernel_rfl) (by kernel_rfl) (by kernel_rfl) (fun _ _ _ h => h) (Or.inl ⟨by rfl, ?_⟩) hS0 ?_
          rotate_left
          · intro u hSu; obtain ⟨s0, s1, s2⟩ := hSu; go_simp <;> with_reducible rfl
          simp only [Act.put, List.getElem_toArray, List.getElem_cons_zero, List.getElem_cons_succ, List.setIfInBounds_toArray, List.set_cons_zero, List.set_cons_succ]
          refine anyU_take (i := 3) (v := ?_) rfl (by kernel_rfl) (by kernel_rfl) (by kernel_rfl) (by kernel_rfl) (fun _ _ _ h => h) (Or.inl ⟨by rfl, ?_⟩) hS0 ?_
          rotate_left
          · intro u hSu; obtain ⟨s0, s1, s2⟩ := hSu; go_simp <;> with_reducible rfl
          simp only [Act.put, List.getElem_toArray, List.getElem_cons_zero, List.getElem_cons_succ, List.setIfInBounds_toArray, List.set_cons_zero, List.set_cons_succ]
          refine anyU_take (i := 4) (v := ?_) rfl (by kernel_rfl) (by kernel_rfl) (by kernel_rfl) (by kernel_rfl) (fun _ _ _ h => h) (Or.inl ⟨by rfl, ?_⟩) hS0 ?_
          rotate_left
          · intro u hSu; obtain ⟨s0, s1, s2⟩ := hSu; go_simp <;> with_reducible rfl
          simp only [Act.put, List.getElem_toArray, List.getElem_cons_zero, List.getElem_cons_succ, List.setIfInBounds_toArray, List.set_cons_zero, List.set_cons_succ]
          refine anyU_take (i := 5) (v := ?_) rfl (by kernel_rfl) (by kernel_rfl) (by kernel_rfl) (by kernel_rfl) (fun _ _ _ h => h) (Or.inl ⟨by rfl, ?_⟩) hS0 ?_
          rotate_left
          · intro u hSu; obtain ⟨s0, s1, s2⟩ := hSu; go_simp <;> with_reducible rfl
          simp only [Act.put, List.getElem_toArray, List.getElem_cons_zero, List.getElem_cons_succ, List.setIfInBounds_toArray, List.set_cons_zero, List.set_cons_succ]
          refine anyU_one (i := 6) (by kernel_rfl) rfl (fun K hK => ?_)
          go_simp
          refine (l2copy_any av n.bytes cv _ (hs.wb n hvm) hvd).mono ?_
          rintro e w1 ⟨oa, oc, rfl, hoy, hB1⟩
          have hS1 := hSk _ _ hB1 hS0
          refine hK.out _ _ hS1 ?_
          clear hK
          have hL1 := hLd.grow hB1
          have hV1 := hVd.grow hB1
          have hR1 := hRd.grow hB1
          have hbel1 := gca hbd hB1
          have hy : w1.ownsRow base 5 1 (.slice oa n.bytes.length oc) n.bytes.length (bcells n.bytes) := owns_le hoy (by have := hVd.lt; omega)
          refine anyU_one (i := 7) (by kernel_rfl) rfl (fun K hK => ?_)
          go_simp
          refine hK.out _ _ hS1 ?_
          clear hK
          obtain ⟨⟨rv, rc⟩, rf⟩ := owns_at hL1.own (j := m) (by have := hll2.out; omega)
          refine anyU_last (by kernel_rfl) rfl (by kernel_rfl) (fun K hK => ?_)
          go_simp
          refine hK.out _ _ ?_
          clear hK
          have hL2 := hL1.setAt (y := ⟨n.bytes, oa, oc⟩) (j := m) (by have := hll2.out; omega) hy
          have hKs := Kept.one w1 g m (.slice oa n.bytes.length oc)
          have hV2 := hV1.kept hKs (by have := hll2.out; omega)
          have hR2 := hR1.kept hKs (by have := hRe.out; have := hbe.out; have hgb := (owns_isS hL1.own (z := g) rfl).2; omega)
          have hbel2 := hbel1.trans (hKs.below (B := w.heap.size) hbel1.size (fun z hz e => by have hgb := (owns_isS hL1.own (z := g) rfl).2; have := hXe.out; have := hbe.out; omega))
          go_wp2
          go_roundw
          case rel => exact ⟨k + 1, by omega, by go_num, lb.set m ⟨n.bytes, oa, oc⟩, by show _ = _; rw [List.length_set]; exact hll.out, by show _ = _; rw [hst.out, List.map_set, hlm.out, setB, hmt'.out], hL2, by rw [List.length_set]; exact hV2, hR2, hbel2⟩
          case measure => simp [intOf]; omega
        | false =>
          rw [hx] at hkc
          have hst : Hid (settleN (keepOf ks) d.blocks d.waiting (k + 1) = settleN (keepOf ks) d.blocks d.waiting k) := by show _ = _; simp only [settleN]; rw [if_neg (by simp [keepOf, hx])]
          clear hx
          go_wp2
          go_roundw
          case rel => exact ⟨k + 1, by omega, by go_num, lb, hll, by show _ = _; rw [hst.out]; exact hlm.out, hLA, hVA, hRA, hbA⟩
          case measure => simp [intOf]; omega
      · have l1 : ¬ ((k : Int) < (ks.length : Int)) := by omega
        have hst : Hid (settleN (keepOf ks) d.blocks d.waiting (k + 1) = settleN (keepOf ks) d.blocks d.waiting k) := by show _ = _; simp only [settleN]; rw [if_neg (by simp [keepOf, hkk])]
        go_wp2
        go_roundw
        case rel => exact ⟨k + 1, by omega, by go_num, lb, hll, by show _ = _; rw [hst.out]; exact hlm.out, hLA, hVA, hRA, hbA⟩
        case measure => simp [intOf]; omega
    · obtain rfl : k = d.waiting.length := by omega
      have y0 := hV.v0
      have y1 := hV.v1
      have z0 := hR.v0
      have z1 := hR.v1
      have zf := hR.vf
      obtain ⟨c0, c1, K⟩ := ret2 (A := .slice (some ⟨g, 0, none⟩) lb.length bc) (B := .slice none 0 0) z0 z1
      have hRb : R < base := by have := hbe.out; have := hRe.out; omega
      have hfL := ((hL.set (V := R) hRb 0 (.slice (some ⟨g, 0, none⟩) lb.length bc)).set (V := R) hRb 1 (.slice none 0 0)).le (base' := w.heap.size) (by have := hbe.out; have := hXe.out; omega)
      have hbel := hb.trans (K.below hb.size (fun z hz e => by have := hRe.out; have := hXe.out; omega))
      have hlen2 : Hid ((settleN (keepOf ks) d.blocks d.waiting d.waiting.length).length = lb.length) := by show _ = _; rw [settleN_length, hd.bl, hll.out]
      clear K hRb
      go_wp2
      refine bodyPost_ret (v := .agg #[.slice (some ⟨g, 0, none⟩) lb.length bc, .slice none 0 0]) (by simp [results, Try.results106, go_sem, c0, c1]) rfl ⟨lb, [], some ⟨g, 0, none⟩, bc, none, 0, by rw [DD.val, hlen2.out]; rfl, hlm.out, rfl, hfL, SW.nil _ _, hbel⟩

end Go.Proofs.Ythjddpkegooobab
