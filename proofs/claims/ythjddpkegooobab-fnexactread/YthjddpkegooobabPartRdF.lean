import Derived.Laws.EntriesVeiled
import Derived.Deep.RegionHeld3
import Derived.Test.YthjddpkegooobabPartRdD
import Derived.Test.YthjddpkegooobabPartRdE

/-
  DPOW: the power goes. Own work.
-/
namespace Go.Proofs.Ythjddpkegooobab
open Go.RowKit

def keepAll (_ : Nat) : Bool := true

set_option maxRecDepth 100000 in
theorem syncKeeps_any (j : Nat) (w : World) : Calls Try.prog 156 #[.int .i64 j] w fun e w' => e = .returned (.bool (keepAll j)) ∧ Below w.heap.size w w' := by
  go_enter Try.func156, Try.ntmps156
  go_wp2
  go_ret
  exact ⟨rfl, gre _⟩

/-- bools at a place -/
def BoolsAt (w : World) (a : Option Addr) (ks : List Bool) : Prop := ∀ i, i < ks.length → ∃ b off, a = some ⟨b, off, none⟩ ∧ w.cell? ⟨b, off + i, none⟩ = some (.bool ks[i]!)
theorem BoolsAt.grow {w w' : World} {a : Option Addr} {ks : List Bool} (h : BoolsAt w a ks) (hb : Below w.heap.size w w') : BoolsAt w' a ks := fun i hi => by
  obtain ⟨b, off, ha, hc⟩ := h i hi
  exact ⟨b, off, ha, cell_later hb hc⟩
def keepOf (ks : List Bool) (i : Nat) : Bool := decide (i < ks.length) && ks[i]!

set_option maxHeartbeats 4000000 in
set_option maxRecDepth 100000 in
theorem powerSyncK_any (p : Nat) (bl : List (List Nat)) (pa : Option Addr) (pc : Nat) (ws : List DW) (w : World) (hw : ws.length ≤ 201) (hwb : ∀ x, x ∈ ws → 0 ≤ x.block ∧ x.block < 130) (h : Dr w p bl pa pc ws (.func (.func 156) #[] #[])) :
    Calls Try.prog 113 #[.pointer (some ⟨p, 0, none⟩)] w fun e w' => e = .returned (.tuple #[]) ∧ Dr w' p (settleN keepAll bl ws ws.length) none 0 [] (.func (.func 156) #[] #[]) ∧ Kept (fun z => z = p) w w' := by
  have hz65 := (zero_of_info zero_pending).1
  have x0 := h.d.ws
  have hpl0 := h.d.lt
  go_enter Try.func113, Try.ntmps113
  go_wp2
  go_loopw [9] (fun i wr => ∃ k : Nat, k ≤ ws.length ∧ i = .int .i64 k ∧ Dr wr p (settleN keepAll bl ws k) pa pc ws (.func (.func 156) #[] #[]) ∧ Kept (fun z => z = p) w wr) (fun i _ => ws.length - (intOf i).toNat)
  case atStart => exact ⟨0, Nat.zero_le _, rfl, h, Kept.refl _ _⟩
  case round =>
    obtain ⟨k, hk, rfl, hD, hb⟩ := hrel
    clear x0
    by_cases hlt : k < ws.length
    · obtain ⟨g, rfl, hg1, hgl, hrg⟩ := owns_pend hD.own hD.w64 hlt
      obtain ⟨n, hn⟩ := hid_ex ws[k]!
      rw [← hn.out] at hrg
      have hnm : n ∈ ws := by rw [hn.out]; exact mem_at hlt
      have hn64 : Hid (n.bytes.length = 64) := h.w64 _ hnm
      have hpl : n.pc.length = 65 := pc_length hn64.out
      have hbl64 : (bcells n.bytes).length = 64 := by rw [bcells_length]; exact hn64.out
      obtain ⟨hn0, hn1⟩ := hwb n hnm
      obtain ⟨m, hm⟩ : ∃ m : Nat, n.block = (m : Int) := ⟨n.block.toNat, by omega⟩
      have i0 : (0 : Int) ≤ (k : Int) := by omega
      have i1 : (k : Int) < (ws.length : Int) := by omega
      go_upto_region 3 with (first
        | (refine wpList_load_mid rfl 184 _ rfl g (k * 65) rfl n.pc _ hrg Try.underlying184 rfl (by rw [size_pending, hpl]) ?_)
        | (refine wpList_alloc_big rfl 184 rfl _ hz65 ?_)
        | (refine wpList_store_new rfl 184 _ _ rfl _ n.pc.toArray rfl rfl (by rw [size_pending]; simp [hpl]) (by simp [zeros, hpl]) (all_oneCell_toArray pc_one) ?_))
      have hDA := hD.grow (gal (gre wr) (.cells n.pc.toArray 184))
      have hbA : Kept (fun z => z = p) w (wr.alloc (.cells n.pc.toArray 184)) := hb.alloc _
      have hrn := range_new wr n.pc 184
      have hr1 : (wr.alloc (.cells n.pc.toArray 184)).rangeAt wr.heap.size 1 (bcells n.bytes) := range_drop (cs := [.int .i64 n.block]) hrn
      have hq1 : (wr.alloc (.cells n.pc.toArray 184)).cell? ⟨wr.heap.size, 0, none⟩ = some (.int .i64 (m : Int)) := by rw [← hm]; exact hrn 0 _ rfl
      have hsC : (wr.alloc (.cells n.pc.toArray 184)).heap.size = wr.heap.size + 1 := by simp
      generalize wr.alloc (.cells n.pc.toArray 184) = wC at hDA hbA hr1 hq1 hsC ⊢
      clear hrn hrg
      generalize wr.heap.size = Q at hr1 hq1 hsC hgl ⊢
      have kf := hDA.d.kf
      have hm130 : m < 130 := by omega
      have j0 : (0 : Int) ≤ (m : Int) := by omega
      have j1 : (m : Int) < 130 := by omega
      have hmt : n.block.toNat = m := by omega
      have hmt' : Hid _ := hmt
      have hm' : Hid _ := hm
      have hn0' : Hid _ := hn0
      have hn1' : Hid _ := hn1
      clear hmt hm hn0 hn1
      cases hkp : keepAll k with
      | true =>
        have hkp' : Hid _ := hkp
        have hst : Hid (settleN keepAll bl ws (k + 1) = setB (settleN keepAll bl ws k) n) := by show _ = _; simp only [settleN]; rw [if_pos hkp, ← hn.out]
        clear hkp
        go_upto_region 4 with (go_at_call 156; refine (syncKeeps_any k _).mono ?_; rintro e w2 ⟨rfl, hb2⟩; obtain ⟨hD2, hb2A, hq2, hr2⟩ : Dr w2 p (settleN keepAll bl ws k) (some ⟨g, 0, none⟩) pc ws (.func (.func 156) #[] #[]) ∧ Kept (fun z => z = p) w w2 ∧ w2.cell? ⟨Q, 0, none⟩ = some (.int .i64 (m : Int)) ∧ w2.rangeAt Q 1 (bcells n.bytes) := ⟨hDA.grow hb2, hbA.trans (Kept.of_below hb2 (fun z => z = p)) (fun _ _ e => e), cell_later hb2 hq1, range_grow hr1 hb2⟩; rw [hkp'.out])
        refine wp_regionU (fun u => u.cell? ⟨Q, 0, none⟩ = some (.int .i64 (m : Int)) ∧ u.rangeAt Q 1 (bcells n.bytes)) 8 (by kernel_rfl) ⟨hq2, hr2⟩ (fun hS0 => ?_)
        refine anyU_take (i := 0) (v := ?_) rfl (by kernel_rfl) (by kernel_rfl) (by kernel_rfl) (by kernel_rfl) (fun _ _ _ h => h) (Or.inl ⟨by rfl, ?_⟩) hS0 ?_
        rotate_left
        · intro u hSu; obtain ⟨s0, s1⟩ := hSu; go_simp <;> with_reducible rfl
        simp only [Act.put, List.getElem_toArray, List.getElem_cons_zero, List.setIfInBounds_toArray, List.set_cons_zero, List.set_cons_succ]
        refine anyU_take (i := 1) (v := ?_) rfl (by kernel_rfl) (by kernel_rfl) (by kernel_rfl) (by kernel_rfl) (fun _ _ _ h => h) (Or.inl ⟨by rfl, ?_⟩) hS0 ?_
        rotate_left
        · intro u hSu; obtain ⟨s0, s1⟩ := hSu; go_simp <;> with_reducible rfl
        simp only [Act.put, List.getElem_toArray, List.getElem_cons_zero, List.getElem_cons_succ, List.setIfInBounds_toArray, List.set_cons_zero, List.set_cons_succ]
        refine anyU_take (i := 2) (v := ?_) rfl (by kernel_rfl) (by kernel_rfl) (by kernel_rfl) (by kernel_rfl) (fun _ _ _ h => h) (Or.inl ⟨by rfl, ?_⟩) hS0 ?_
        rotate_left
        · intro u hSu; obtain ⟨s0, s1⟩ := hSu; go_simp <;> with_reducible rfl
        simp only [Act.put, List.getElem_toArray, List.getElem_cons_zero, List.getElem_cons_succ, List.setIfInBounds_toArray, List.set_cons_zero, List.set_cons_succ]
        refine anyU_take (i := 3) (v := ?_) rfl (by kernel_rfl) (by kernel_rfl) (by kernel_rfl) (by kernel_rfl) (fun _ _ _ h => h) (Or.inl ⟨by rfl, ?_⟩) hS0 ?_
        rotate_left
        · intro u hSu; obtain ⟨s0, s1⟩ := hSu; go_simp <;> with_reducible rfl
        simp only [Act.put, List.getElem_toArray, List.getElem_cons_zero, List.getElem_cons_succ, List.setIfInBounds_toArray, List.set_cons_zero, List.set_cons_succ]
        refine anyU_take (i := 4) rfl (by kernel_rfl) (by kernel_rfl) (by kernel_rfl) (by kernel_rfl) (fun _ _ _ h => h) (yieldsIf_load_mid (by rfl) 121 (.tmp 23) rfl Q 1 (by rfl) (bcells n.bytes) _ (fun _ hS => hS.2) Try.underlying121 rfl (by rw [size_content, hbl64])) hS0 ?_
        simp only [Act.put, List.getElem_toArray, List.getElem_cons_zero, List.getElem_cons_succ, List.setIfInBounds_toArray, List.set_cons_zero, List.set_cons_succ]
        obtain ⟨s0, s1⟩ := id hS0
        refine anyU_one (i := 5) (by kernel_rfl) rfl (fun K hK => ?_)
        go_simp
        refine hK.out _ _ hS0 ?_
        clear hK
        refine anyU_one (i := 6) (by kernel_rfl) rfl (fun K hK => ?_)
        go_simp
        refine hK.out _ _ hS0 ?_
        clear hK
        refine anyU_one (i := 7) (by kernel_rfl) rfl (fun K hK => ?_)
        go_simp
        refine hK.out _ _ hS0 ?_
        clear hK
        refine anyU_last (by kernel_rfl) rfl (by kernel_rfl) (fun K hK => ?_)
        rw [if_pos (by rfl)]
        refine wp_store_mid 121 (.tmp 27) (.tmp 24) rfl p (m * 64) (bcells n.bytes).toArray (by rfl) (by rfl) (by rw [List.size_toArray, hbl64]; exact there_part (hD2.d.grow (gdr (gre w2))).th (Nat.zero_le _) (by omega)) (by rw [size_content, List.size_toArray, hbl64]) (all_oneCell_toArray cells_u8) ?_
        refine hK.out _ _ ?_
        clear hK
        simp only [Act.put, List.getElem_toArray, List.getElem_cons_zero, List.getElem_cons_succ]
        have hfin := (hD2.d.grow (gdr (gre w2))).setB (x := n) hn0'.out hn1'.out hn64.out
        rw [hmt'.out, ← hst.out] at hfin
        have hKs := Kept.setCells (p := fun z => z = p) (bcells n.bytes) (m * 64) (Kept.refl _ w2.drew) (fun _ => rfl)
        go_wp2
        go_roundw
        case rel => exact ⟨k + 1, by omega, by go_num, ⟨hfin, hKs.owns (hD2.grow (gdr (gre w2))).own (fun z hz e => by have := (hD2.own.lt z hz).1; omega), h.w64⟩, hb2A.drew.trans hKs (fun _ _ e => e)⟩
        case measure => simp [intOf]; omega
      | false =>
        have hkp' : Hid _ := hkp
        have hst : Hid (settleN keepAll bl ws (k + 1) = settleN keepAll bl ws k) := by show _ = _; simp only [settleN]; rw [if_neg (by rw [hkp]; exact Bool.false_ne_true)]
        clear hkp
        go_wp2_with (go_at_call 156; refine (syncKeeps_any k _).mono ?_; rintro e w2 ⟨rfl, hb2⟩; rw [hkp'.out])
        go_roundw
        case rel => exact ⟨k + 1, by omega, by go_num, by rw [hst.out]; exact hDA.grow hb2, hbA.trans (Kept.of_below hb2 (fun z => z = p)) (fun _ _ e => e)⟩
        case measure => simp [intOf]; omega
    · obtain rfl : k = ws.length := by omega
      have x0 := hD.d.ws
      have xf := hD.d.frozen (o := 8320) (by decide)
      have hfin := hD.d.setW (.slice none 0 0)
      go_wp2
      first | go_end0 | refine bodyPost_ret (results_none rfl _ _ _) rfl ?_
      exact ⟨rfl, ⟨hfin, owns_none _ _ _ _, fun x hx => (by cases hx)⟩, hb.trans (Kept.one wr p 8320 _) (fun _ _ e => e)⟩

theorem powerSync_any (p : Nat) (bl : List (List Nat)) (pa : Option Addr) (pc : Nat) (ws : List DW) (w : World) (hw : ws.length ≤ 201) (hwb : ∀ x, x ∈ ws → 0 ≤ x.block ∧ x.block < 130) (h : Dr w p bl pa pc ws (.func (.func 156) #[] #[])) :
    Calls Try.prog 113 #[.pointer (some ⟨p, 0, none⟩)] w fun e w' => e = .returned (.tuple #[]) ∧ Dr w' p (settleN keepAll bl ws ws.length) none 0 [] (.func (.func 156) #[] #[]) ∧ Below p w w' :=
  (powerSyncK_any p bl pa pc ws w hw hwb h).mono fun _ _ ⟨he, hD, hK⟩ => ⟨he, hD, hK.below (by have := h.d.lt; omega) (fun z hz e => by omega)⟩

end Go.Proofs.Ythjddpkegooobab

/-
  SSET: the specification carries writes out. Own work.
-/
namespace Go.Proofs.Ythjddpkegooobab
open Go.RowKit

theorem owns_at {w : World} {base e n cap g : Nat} {xs : List Value} (h : w.ownsRow base e 1 (.slice (some ⟨g, 0, none⟩) n cap) n xs) {j : Nat} (hj : j < n) : (∃ v, w.cell? ⟨g, j, none⟩ = some v) ∧ ∀ o, w.frozen? ⟨g, o, none⟩ = false := by
  rcases h.2 with ⟨e0, _⟩ | ⟨g', cap', cur, hv, hb, hg, h1, h2, h3, h4⟩
  · simp at e0
  · simp only [Value.slice.injEq] at hv
    obtain ⟨e1, _, rfl⟩ := hv
    obtain rfl := some_addr e1
    refine ⟨⟨cur[j]'(by omega), ?_⟩, fun o => ?_⟩
    · simp [World.cell?, hg, show j < cur.size by omega]
    · simp [World.frozen?, hg]
theorem owns_set {w : World} {base e n cap g : Nat} {xs : List Value} (h : w.ownsRow base e 1 (.slice (some ⟨g, 0, none⟩) n cap) n xs) (j : Nat) (v : Value) : (w.setCell ⟨g, j, none⟩ v).ownsRow base e 1 (.slice (some ⟨g, 0, none⟩) n cap) n (xs.set j v) := by
  refine ⟨by rw [List.length_set]; exact h.1, ?_⟩
  rcases h.2 with ⟨e0, _⟩ | ⟨g', cap', cur, hv, hb, hg, h1, h2, h3, h4⟩
  · simp at e0
  · simp only [Value.slice.injEq] at hv
    obtain ⟨e1, _, rfl⟩ := hv
    obtain rfl := some_addr e1
    refine Or.inr ⟨g, cap, cur.setIfInBounds j v, rfl, hb, by simp [World.setCell, Array.getElem?_modify, hg], h1, h2, by rw [Array.size_setIfInBounds]; exact h3, ?_⟩
    rw [Array.toList_setIfInBounds, List.take_set, h4]
theorem SB.setAt {base : Nat} {w : World} {g bc : Nat} {lb : List LB} (h : SB base w (some ⟨g, 0, none⟩) bc lb) {y : LB} {j : Nat} (_hj : j < lb.length) (hy : w.ownsRow base 5 1 (.slice y.a y.l.length y.cap) y.l.length (bcells y.l)) : SB base (w.setCell ⟨g, j, none⟩ y.v) (some ⟨g, 0, none⟩) bc (lb.set j y) := by
  have hb : ∀ {x : LB}, w.ownsRow base 5 1 (.slice x.a x.l.length x.cap) x.l.length (bcells x.l) → (w.setCell ⟨g, j, none⟩ y.v).ownsRow base 5 1 (.slice x.a x.l.length x.cap) x.l.length (bcells x.l) := fun hx => (Kept.one w g j y.v).owns hx (fun z hz e => by subst e; exact not_B_of_S (owns_isS h.own (z := z) rfl).1 (owns_isB hx hz).1)
  refine ⟨by rw [List.length_set, List.map_set]; exact owns_set h.own j y.v, fun x hx => ?_⟩
  rcases List.mem_or_eq_of_mem_set hx with e | e
  · exact hb (h.byt x e)
  · subst e; exact hb hy
theorem settleN_congr {keep keep' : Nat → Bool} (bl : List (List Nat)) (ws : List DW) : ∀ j, (∀ i, i < j → keep i = keep' i) → settleN keep bl ws j = settleN keep' bl ws j
  | 0, _ => rfl
  | j + 1, h => by
    simp only [settleN]
    rw [h j (by omega), settleN_congr bl ws j (fun i hi => h i (by omega))]

def SSInv (w wr : World) (d : DD) (ks : List Bool) (base g bc R V k : Nat) : Prop := ∃ lb : List LB, Hid (lb.length = 130) ∧ Hid (lb.map (·.l) = settleN (keepOf ks) d.blocks d.waiting k) ∧ SB base wr (some ⟨g, 0, none⟩) bc lb ∧ VB wr V (.slice (some ⟨g, 0, none⟩) lb.length bc) (.slice none 0 0) ∧ VB wr R (.slice none 0 0) (.slice none 0 0) ∧ Below w.heap.size w wr

set_option maxHeartbeats 4000000 in
set_option maxRecDepth 100000 in
theorem l3settle_any (d : DD) (l : DL) (ka : Option Addr) (ks : List Bool) (kc : Nat) (w : World) (hd : d.Fit) (ha : DAt w l d) (hkl : ks.length ≤ maxLen) (hk0 : BoolsAt w ka ks) : Calls Try.prog 106 #[d.val l, .slice ka ks.length kc] w (CPost ⟨settleN (keepOf ks) d.blocks d.waiting d.waiting.length, []⟩ w) := by
  have hs : d.Small := ⟨by have := hd.bl; omega, fun b hb => by have := hd.bb b hb; omega, by have := hd.wl; omega, fun x hx => by have := (hd.wb x hx).2.2; omega⟩
  unfold maxLen at hkl
  have hw0 := gal (gre w) (.cells #[.slice l.ba d.blocks.length l.bc, .slice l.wa d.waiting.length l.wc] 50)
  have hX0 := DBox.new w d l 50
  have hs0 : (w.alloc (.cells #[.slice l.ba d.blocks.length l.bc, .slice l.wa d.waiting.length l.wc] 50)).heap.size = w.heap.size + 1 := by simp
  go_enter Try.func106, Try.ntmps106
  go_upto_region 1 with fail
  generalize hXe0 : w.heap.size = X0 at hX0 hs0 hw0 ⊢
  generalize w.alloc (.cells #[.slice l.ba d.blocks.length l.bc, .slice l.wa d.waiting.length l.wc] 50) = w0 at hw0 hX0 hs0 ⊢
  have hw1 := gal (gre w0) (.cells #[.slice none 0 0, .slice none 0 0] 50)
  have hR := VB.new_at w0 (.slice none 0 0) (.slice none 0 0) 50 (X0 + 1) hs0.symm
  have hX := hX0.grow hw1
  have hs1 : (w0.alloc (.cells #[.slice none 0 0, .slice none 0 0] 50)).heap.size = X0 + 1 + 1 := by simp [hs0]
  generalize w0.alloc (.cells #[.slice none 0 0, .slice none 0 0] 50) = wA at hw1 hR hX hs1 ⊢
  have hwA : Below w.heap.size w wA := by rw [← hXe0] at hw0; exact gca hw0 hw1
  have hXe : Hid (X0 = w.heap.size) := hXe0.symm
  obtain ⟨R, hRe⟩ := hid_ex (X0 + 1)
  rw [← hRe.out] at hR ⊢
  have x0 := hX.c0
  have x1 := hX.c1
  have haA := ha.grow hwA
  clear hX0 hw0 hs0 hw1
  go_upto_region 3 with (go_at_call 102; refine (l3copy_any d l _ hs haA).mono ?_; rintro e w2 ⟨lb0, lw0, ba, bc, wa0, wc0, rfl, hlb0, hlw0, hL0, hW0, hb2⟩)
  have hlen0 : lb0.length = 130 := by rw [← hd.bl, ← hlb0]; simp
  obtain ⟨g, rfl⟩ : ∃ g, ba = some ⟨g, 0, none⟩ := by
    obtain ⟨g, c, e, _⟩ := hL0.own.form (by omega)
    simp only [Value.slice.injEq] at e
    exact ⟨g, e.1⟩
  have hgl := (hL0.own.lt g rfl).2
  have hgb := (hL0.own.lt g rfl).1
  have hA3 := gal (gre w2) (.cells #[.slice (some ⟨g, 0, none⟩) d.blocks.length bc, .slice none 0 0] 50)
  have hV0 := VB.new w2 (.slice (some ⟨g, 0, none⟩) d.blocks.length bc) (.slice none 0 0) 50
  have hb3 := gca hb2 hA3
  have hX3 := hX.grow hb3
  have hI0 : SSInv w (w2.alloc (.cells #[.slice (some ⟨g, 0, none⟩) d.blocks.length bc, .slice none 0 0] 50)) d ks (X0 + 1 + 1) g bc R w2.heap.size 0 :=
    ⟨lb0, hlen0, hlb0, by rw [← hs1]; exact hL0.grow hA3, by rw [hlen0, ← hd.bl]; exact hV0, hR.grow hb3, hwA.trans (hb3.mono hwA.size)⟩
  generalize w2.alloc (.cells #[.slice (some ⟨g, 0, none⟩) d.blocks.length bc, .slice none 0 0] 50) = w3 at hA3 hV0 hb3 hX3 hI0 ⊢
  generalize w2.heap.size = V at hI0 hgl ⊢
  obtain ⟨base, hbe⟩ := hid_ex (X0 + 1 + 1)
  rw [← hbe.out] at hI0
  rw [hs1, ← hbe.out] at hgb
  have y1 := hX3.c1
  clear hV0 hL0 hW0 hb2 hA3 hb3 hX3 x0 x1 hX hR haA hwA hlb0 hlw0 hlen0 hs1
  go_wp2
  go_loopw [14] (fun i wr => ∃ k : Nat, k ≤ d.waiting.length ∧ i = .int .i64 k ∧ SSInv w wr d ks base g bc R V k) (fun i _ => d.waiting.length - (intOf i).toNat)
  case atStart => exact ⟨0, Nat.zero_le _, rfl, hI0⟩
  case round =>
    obtain ⟨k, hk, rfl, lb, hll, hlm, hL, hV, hR, hb⟩ := hrel
    clear hI0 y1
    by_cases hlt : k < d.waiting.length
    · obtain ⟨n, b, off, av, cv, hvk, hvm, hba, c0, c1, hva⟩ := (ha.w.grow hb).get hlt
      rw [hba]
      have i0 : (0 : Int) ≤ (k : Int) := by omega
      have i1 : (k : Int) < (d.waiting.length : Int) := by omega
      have hwl := hd.wl
      obtain ⟨hn0, hn1, hn64'⟩ := hd.wb n hvm
      have hn64 : Hid _ := hn64'
      clear hn64'
      obtain ⟨m, hm⟩ : ∃ m : Nat, n.block = (m : Int) := ⟨n.block.toNat, by omega⟩
      rw [hm] at c0
      go_upto_region 6 with fail
      have hAl := gal (gre wr) (.cells #[.int .i64 (m : Int), .slice av n.bytes.length cv] 133)
      have hLA := hL.grow hAl
      have hVA := hV.grow hAl
      have hRA := hR.grow hAl
      have hbA := gal hb (.cells #[.int .i64 (m : Int), .slice av n.bytes.length cv] 133)
      have hvaA := hva.grow hAl
      have hkA := hk0.grow hbA
      have q0 : (wr.alloc (.cells #[.int .i64 (m : Int), .slice av n.bytes.length cv] 133)).cell? ⟨wr.heap.size, 0, none⟩ = some (.int .i64 (m : Int)) := by simp
      have q1 : (wr.alloc (.cells #[.int .i64 (m : Int), .slice av n.bytes.length cv] 133)).cell? ⟨wr.heap.size, 1, none⟩ = some (.slice av n.bytes.length cv) := by simp
      have hsC : (wr.alloc (.cells #[.int .i64 (m : Int), .slice av n.bytes.length cv] 133)).heap.size = wr.heap.size + 1 := by simp
      generalize wr.alloc (.cells #[.int .i64 (m : Int), .slice av n.bytes.length cv] 133) = wC at hAl hLA hVA hRA hbA hvaA hkA q0 q1 hsC ⊢
      generalize hQ : wr.heap.size = Q at q0 q1 hsC ⊢
      have hm130 : m < 130 := by omega
      have j0 : (0 : Int) ≤ (m : Int) := by omega
      have j1 : (m : Int) < (lb.length : Int) := by have := hll.out; omega
      have hmt' : Hid (n.block.toNat = m) := by show _ = _; omega
      have hm' : Hid _ := hm
      clear hva hL hV hR hb c0 c1 hAl hm hn0 hn1
      have hll' := hll.out
      have hSk : ∀ (u u' : World), Below u.heap.size u u' → (u.cell? ⟨V, 0, none⟩ = some (.slice (some ⟨g, 0, none⟩) lb.length bc) ∧ u.cell? ⟨Q, 0, none⟩ = some (.int .i64 (m : Int)) ∧ u.cell? ⟨Q, 1, none⟩ = some (.slice av n.bytes.length cv)) → (u'.cell? ⟨V, 0, none⟩ = some (.slice (some ⟨g, 0, none⟩) lb.length bc) ∧ u'.cell? ⟨Q, 0, none⟩ = some (.int .i64 (m : Int)) ∧ u'.cell? ⟨Q, 1, none⟩ = some (.slice av n.bytes.length cv)) := fun u u' hb h => ⟨cell_later hb h.1, cell_later hb h.2.1, cell_later hb h.2.2⟩
      have hll2 : Hid _ := hll'
      clear hll'
      by_cases hkk : k < ks.length
      · obtain ⟨kb, ko, rfl, hkc⟩ := hkA k hkk
        have l1 : (k : Int) < (ks.length : Int) := by omega
        cases hx : ks[k]! with
        | true =>
          rw [hx] at hkc
          have hst : Hid (settleN (keepOf ks) d.blocks d.waiting (k + 1) = setB (settleN (keepOf ks) d.blocks d.waiting k) n) := by show _ = _; simp only [settleN]; rw [if_pos (by simp only [keepOf, hx, hkk, decide_true, Bool.and_self]), ← hvk.out]
          clear hx
          go_upto_region 7 with fail
          refine wp_regionU (fun u => u.cell? ⟨V, 0, none⟩ = some (.slice (some ⟨g, 0, none⟩) lb.length bc) ∧ u.cell? ⟨Q, 0, none⟩ = some (.int .i64 (m : Int)) ∧ u.cell? ⟨Q, 1, none⟩ = some (.slice av n.bytes.length cv)) 8 (by kernel_rfl) ⟨(hVA.grow (gdr (gre wC))).v0, q0, q1⟩ (fun hS0 => ?_)
          have hLd := hLA.grow (gdr (gre wC))
          have hVd := hVA.grow (gdr (gre wC))
          have hRd := hRA.grow (gdr (gre wC))
          have hbd := gdr hbA
          have hvd := hvaA.grow (gdr (gre wC))
          generalize wC.drew = wd at hLd hVd hRd hbd hvd hS0 ⊢
          refine anyU_take (i := 0) (v := ?_) rfl (by kernel_rfl) (by kernel_rfl) (by kernel_rfl) (by kernel_rfl) (fun _ _ _ h => h) (Or.inl ⟨by rfl, ?_⟩) hS0 ?_
          rotate_left
          · intro u hSu; obtain ⟨s0, s1, s2⟩ := hSu; go_simp <;> with_reducible rfl
          simp only [Act.put, List.getElem_toArray, List.getElem_cons_zero, List.setIfInBounds_toArray, List.set_cons_zero, List.set_cons_succ]
          refine anyU_take (i := 1) (v := ?_) rfl (by kernel_rfl) (by kernel_rfl) (by kernel_rfl) (by kernel_rfl) (fun _ _ _ h => h) (Or.inl ⟨by rfl, ?_⟩) hS0 ?_
          rotate_left
          · intro u hSu; obtain ⟨s0, s1, s2⟩ := hSu; go_simp <;> with_reducible rfl
          simp only [Act.put, List.getElem_toArray, List.getElem_cons_zero, List.getElem_cons_succ, List.setIfInBounds_toArray, List.set_cons_zero, List.set_cons_succ]
          refine anyU_take (i := 2) (v := ?_) rfl (by kernel_rfl) (by kernel_rfl) (by kernel_rfl) (by kernel_rfl) (fun _ _ _ h => h) (Or.inl ⟨by rfl, ?_⟩) hS0 ?_
          rotate_left
          · intro u hSu; obtain ⟨s0, s1, s2⟩ := hSu; go_simp <;> with_reducible rfl
          simp only [Act.put, List.getElem_toArray, List.getElem_cons_zero, List.getElem_cons_succ, List.setIfInBounds_toArray, List.set_cons_zero, List.set_cons_succ]
          refine anyU_take (i := 3) (v := ?_) rfl (by kernel_rfl) (by kernel_rfl) (by kernel_rfl) (by kernel_rfl) (fun _ _ _ h => h) (Or.inl ⟨by rfl, ?_⟩) hS0 ?_
          rotate_left
          · intro u hSu; obtain ⟨s0, s1, s2⟩ := hSu; go_simp <;> with_reducible rfl
          simp only [Act.put, List.getElem_toArray, List.getElem_cons_zero, List.getElem_cons_succ, List.setIfInBounds_toArray, List.set_cons_zero, List.set_cons_succ]
          refine anyU_take (i := 4) (v := ?_) rfl (by kernel_rfl) (by kernel_rfl) (by kernel_rfl) (by kernel_rfl) (fun _ _ _ h => h) (Or.inl ⟨by rfl, ?_⟩) hS0 ?_
          rotate_left
          · intro u hSu; obtain ⟨s0, s1, s2⟩ := hSu; go_simp <;> with_reducible rfl
          simp only [Act.put, List.getElem_toArray, List.getElem_cons_zero, List.getElem_cons_succ, List.setIfInBounds_toArray, List.set_cons_zero, List.set_cons_succ]
          refine anyU_take (i := 5) (v := ?_) rfl (by kernel_rfl) (by kernel_rfl) (by kernel_rfl) (by kernel_rfl) (fun _ _ _ h => h) (Or.inl ⟨by rfl, ?_⟩) hS0 ?_
          rotate_left
          · intro u hSu; obtain ⟨s0, s1, s2⟩ := hSu; go_simp <;> with_reducible rfl
          simp only [Act.put, List.getElem_toArray, List.getElem_cons_zero, List.getElem_cons_succ, List.setIfInBounds_toArray, List.set_cons_zero, List.set_cons_succ]
          refine anyU_one (i := 6) (by kernel_rfl) rfl (fun K hK => ?_)
          go_simp
          refine (l2copy_any av n.bytes cv _ (hs.wb n hvm) hvd).mono ?_
          rintro e w1 ⟨oa, oc, rfl, hoy, hB1⟩
          have hS1 := hSk _ _ hB1 hS0
          refine hK.out _ _ hS1 ?_
          clear hK
          have hL1 := hLd.grow hB1
          have hV1 := hVd.grow hB1
          have hR1 := hRd.grow hB1
          have hbel1 := gca hbd hB1
          have hy : w1.ownsRow base 5 1 (.slice oa n.bytes.length oc) n.bytes.length (bcells n.bytes) := owns_le hoy (by have := hVd.lt; omega)
          refine anyU_one (i := 7) (by kernel_rfl) rfl (fun K hK => ?_)
          go_simp
          refine hK.out _ _ hS1 ?_
          clear hK
          obtain ⟨⟨rv, rc⟩, rf⟩ := owns_at hL1.own (j := m) (by have := hll2.out; omega)
          refine anyU_last (by kernel_rfl) rfl (by kernel_rfl) (fun K hK => ?_)
          go_simp
          refine hK.out _ _ ?_
          clear hK
          have hL2 := hL1.setAt (y := ⟨n.bytes, oa, oc⟩) (j := m) (by have := hll2.out; omega) hy
          have hKs := Kept.one w1 g m (.slice oa n.bytes.length oc)
          have hV2 := hV1.kept hKs (by have := hll2.out; omega)
          have hR2 := hR1.kept hKs (by have := hRe.out; have := hbe.out; have hgb := (owns_isS hL1.own (z := g) rfl).2; omega)
          have hbel2 := hbel1.trans (hKs.below (B := w.heap.size) hbel1.size (fun z hz e => by have hgb := (owns_isS hL1.own (z := g) rfl).2; have := hXe.out; have := hbe.out; omega))
          go_wp2
          go_roundw
          case rel => exact ⟨k + 1, by omega, by go_num, lb.set m ⟨n.bytes, oa, oc⟩, by show _ = _; rw [List.length_set]; exact hll.out, by show _ = _; rw [hst.out, List.map_set, hlm.out, setB, hmt'.out], hL2, by rw [List.length_set]; exact hV2, hR2, hbel2⟩
          case measure => simp [intOf]; omega
        | false =>
          rw [hx] at hkc
          have hst : Hid (settleN (keepOf ks) d.blocks d.waiting (k + 1) = settleN (keepOf ks) d.blocks d.waiting k) := by show _ = _; simp only [settleN]; rw [if_neg (by simp [keepOf, hx])]
          clear hx
          go_wp2
          go_roundw
          case rel => exact ⟨k + 1, by omega, by go_num, lb, hll, by show _ = _; rw [hst.out]; exact hlm.out, hLA, hVA, hRA, hbA⟩
          case measure => simp [intOf]; omega
      · have l1 : ¬ ((k : Int) < (ks.length : Int)) := by omega
        have hst : Hid (settleN (keepOf ks) d.blocks d.waiting (k + 1) = settleN (keepOf ks) d.blocks d.waiting k) := by show _ = _; simp only [settleN]; rw [if_neg (by simp [keepOf, hkk])]
        go_wp2
        go_roundw
        case rel => exact ⟨k + 1, by omega, by go_num, lb, hll, by show _ = _; rw [hst.out]; exact hlm.out, hLA, hVA, hRA, hbA⟩
        case measure => simp [intOf]; omega
    · obtain rfl : k = d.waiting.length := by omega
      have y0 := hV.v0
      have y1 := hV.v1
      have z0 := hR.v0
      have z1 := hR.v1
      have zf := hR.vf
      obtain ⟨c0, c1, K⟩ := ret2 (A := .slice (some ⟨g, 0, none⟩) lb.length bc) (B := .slice none 0 0) z0 z1
      have hRb : R < base := by have := hbe.out; have := hRe.out; omega
      have hfL := ((hL.set (V := R) hRb 0 (.slice (some ⟨g, 0, none⟩) lb.length bc)).set (V := R) hRb 1 (.slice none 0 0)).le (base' := w.heap.size) (by have := hbe.out; have := hXe.out; omega)
      have hbel := hb.trans (K.below hb.size (fun z hz e => by have := hRe.out; have := hXe.out; omega))
      have hlen2 : Hid ((settleN (keepOf ks) d.blocks d.waiting d.waiting.length).length = lb.length) := by show _ = _; rw [settleN_length, hd.bl, hll.out]
      clear K hRb
      go_wp2
      refine bodyPost_ret (v := .agg #[.slice (some ⟨g, 0, none⟩) lb.length bc, .slice none 0 0]) (by simp [results, Try.results106, go_sem, c0, c1]) rfl ⟨lb, [], some ⟨g, 0, none⟩, bc, none, 0, by rw [DD.val, hlen2.out]; rfl, hlm.out, rfl, hfL, SW.nil _ _, hbel⟩

end Go.Proofs.Ythjddpkegooobab

/-
  SALL: the specification's Sync and Crash. Own work.
-/
namespace Go.Proofs.Ythjddpkegooobab
open Go.RowKit

set_option maxRecDepth 100000 in
theorem info_bool : (Try.prog.info? 4).map (fun i => (i.zero, i.size, i.bytes)) = some (some (.bool false), 1, 1) := by kernel_rfl

set_option maxRecDepth 100000 in
theorem l3all_any (n : Nat) (w : World) (hn : n ≤ 1048576) :
    Calls Try.prog 107 #[.int .i64 n] w fun e w' => ∃ b, e = .returned (.slice (some ⟨b, 0, none⟩) n n) ∧ BoolsAt w' (some ⟨b, 0, none⟩) (List.replicate n true) ∧ Below w.heap.size w w' := by
  obtain ⟨i0, hi, hz0, hz1, hz2⟩ := info_parts info_bool
  have hmk : ∀ u : World, (Instr.makeSlice 67 (.int .i64 (n : Int)) (.int .i64 (n : Int))).run Try.prog u =
      .ok (.slice (some ⟨u.heap.size, 0, none⟩) n n) (u.alloc (.cells (madeCells #[.bool false] n) 4)) := fun u => by
    have h := run_make (P := Try.prog) u 67 4 i0 _ Try.underlying67 hi hz0 .i64 .i64 (n : Int) (n : Int) (by omega) (Int.le_refl _) (by rw [hz2]; omega) (by omega)
    simpa [hz1, Value.cells] using h
  go_enter Try.func107, Try.ntmps107
  go_wp2
  go_loopw [9] (fun i wr => ∃ (k : Nat) (f : Nat → Value), k ≤ n ∧ i = .int .i64 k ∧ wr.rowIs w.heap.size 4 n f ∧ (∀ j, j < k → f j = .bool true) ∧ Below w.heap.size w wr) (fun i _ => n - (intOf i).toNat)
  case atStart => exact ⟨0, _, Nat.zero_le _, rfl, rowIs_made_any _ _ _ _, fun i hi => absurd hi (Nat.not_lt_zero _), (Below.refl _ _).alloc (Nat.le_refl _) _⟩
  case round =>
    obtain ⟨k, f, hk, rfl, hrow, hin, hb⟩ := hrel
    by_cases hlt : k < n
    · have d0 := hrow.cell hlt
      have f0 := hrow.frozen
      have i0' : (0 : Int) ≤ (k : Int) := by omega
      have i1 : (k : Int) < (n : Int) := by omega
      go_wp2
      go_roundw
      case rel =>
        refine ⟨k + 1, _, by omega, by go_num, hrow.set _ _, fun j hj => ?_, hb.setCell (Nat.le_refl _) _⟩
        show (if j = k then _ else _) = _
        split
        · rfl
        · exact hin j (by omega)
      case measure => simp [intOf]; omega
    · obtain rfl : k = n := by omega
      go_wp2
      go_ret
      refine ⟨_, rfl, fun i hi => ⟨_, 0, rfl, ?_⟩, hb⟩
      have hi' : i < k := by simpa using hi
      rw [Nat.zero_add, getElem!_pos _ i hi, List.getElem_replicate, ← hin i hi']
      exact hrow.cell hi'

theorem keepOf_all {n i : Nat} (h : i < n) : keepOf (List.replicate n true) i = keepAll i := by
  simp [keepOf, keepAll, h]
theorem zero_at (w : World) : DAt w ⟨none, 0, none, 0⟩ zeroD := ⟨fun _i hi => absurd hi (Nat.not_lt_zero _), fun _i hi => absurd hi (Nat.not_lt_zero _)⟩
theorem settle_yes {d : DD} (h : d.ok = true) (keep : Nat → Bool) : d.settle keep = ⟨settleN keep d.blocks d.waiting d.waiting.length, []⟩ := if_pos h
theorem settle_no {d : DD} (h : d.ok = false) (keep : Nat → Bool) : d.settle keep = zeroD := if_neg (by rw [h]; exact Bool.false_ne_true)

end Go.Proofs.Ythjddpkegooobab

/-
  SSYNC: the specification's Sync and Crash. Own work.
-/
namespace Go.Proofs.Ythjddpkegooobab
open Go.RowKit

theorem calls_args {P : Program} {f : Nat} {a b : Array Value} {w : World} {Q : Ending → World → Prop} (h : Calls P f a w Q) (e : a = b) : Calls P f b w Q := by subst e; exact h
theorem CPost.zero {w w' : World} (h : Below w.heap.size w w') : CPost zeroD w (.returned (.agg #[.slice none 0 0, .slice none 0 0])) w' := ⟨[], [], none, 0, none, 0, rfl, rfl, rfl, SB.nil _ _, SW.nil _ _, h⟩
theorem CPost.at_ {d : DD} {w w' : World} {e : Ending} (h : CPost d w e w') : SBPost d w e w' := by
  obtain ⟨lb, lw, ba, bc, wa, wc, rfl, h1, h2, h3, h4, h5⟩ := h
  refine ⟨_, rfl, ⟨?_, ?_⟩, h5⟩
  · have := h3.at_
    rwa [h1] at this
  · have := h4.at_
    rwa [h2] at this

set_option maxRecDepth 100000 in
theorem specSync_any (d : DD) (l : DL) (w : World) (hd : d.Ok) (ha : DAt w l d) : Calls Try.prog 41 #[d.val l] w (CPost (d.settle keepAll) w) := by
  have hA := gal (gal (gre w) (.cells #[.slice l.ba d.blocks.length l.bc, .slice l.wa d.waiting.length l.wc] 50)) (.cells #[.slice none 0 0, .slice none 0 0] 50)
  have hX0 := (DBox.new w d l 50).grow (gal (gre _) (.cells #[.slice none 0 0, .slice none 0 0] 50))
  have hR0 := VB.new_at (w.alloc (.cells #[.slice l.ba d.blocks.length l.bc, .slice l.wa d.waiting.length l.wc] 50)) (.slice none 0 0) (.slice none 0 0) 50 (w.heap.size + 1) (by simp)
  cases hok : d.ok with
  | false =>
    have hok' : Hid _ := hok
    clear hok
    rw [settle_no hok'.out]
    go_enter Try.func41, Try.ntmps41
    go_wp2_with (go_at_call 36; refine (specDiskOk_any d l _ hd (ha.grow hA)).mono ?_; rintro e w2 ⟨rfl, hb2⟩; rw [hok'.out]; obtain ⟨z0, z1, zf⟩ := hR0.grow hb2)
    obtain ⟨c0, c1, K⟩ := ret2 (A := .slice none 0 0) (B := .slice none 0 0) z0 z1
    refine bodyPost_ret (v := .agg #[.slice none 0 0, .slice none 0 0]) (by simp [results, Try.results41, go_sem, c0, c1]) rfl (CPost.zero ?_)
    exact (gca hA hb2).trans (K.below (gca hA hb2).size (fun z hz e => by omega))
  | true =>
    have hok' : Hid _ := hok
    clear hok
    have hsn : settleN (keepOf (List.replicate d.waiting.length true)) d.blocks d.waiting d.waiting.length = settleN keepAll d.blocks d.waiting d.waiting.length := settleN_congr _ _ _ (fun i hi => keepOf_all hi)
    rw [settle_yes hok'.out, ← hsn]
    obtain ⟨d', hd'⟩ := hid_ex (DD.mk (settleN (keepOf (List.replicate d.waiting.length true)) d.blocks d.waiting d.waiting.length) [])
    rw [← hd'.out]
    clear hsn
    go_enter Try.func41, Try.ntmps41
    go_upto_region 3 with (go_at_call 36; refine (specDiskOk_any d l _ hd (ha.grow hA)).mono ?_; rintro e w2 ⟨rfl, hb2⟩; rw [hok'.out])
    have hX2 := hX0.grow hb2
    have hR2 := hR0.grow hb2
    have hb2A := gca hA hb2
    refine wp_regionU (fun u => DBox u w.heap.size d l) 6 (by kernel_rfl) (hX2.grow (gdr (gre w2))) (fun hS0 => ?_)
    have hRd := hR2.grow (gdr (gre w2))
    have hbd := gdr hb2A
    generalize w2.drew = wd at hRd hbd hS0 ⊢
    refine anyU_take (i := 0) (v := ?_) rfl (by kernel_rfl) (by kernel_rfl) (by kernel_rfl) (by kernel_rfl) (fun _ _ _ h => h) (Or.inl ⟨by rfl, ?_⟩) hS0 ?_
    rotate_left
    · intro u hSu; obtain ⟨_, s0, s1⟩ := hSu; go_simp <;> with_reducible rfl
    simp only [Act.put, List.getElem_toArray, List.getElem_cons_zero, List.setIfInBounds_toArray, List.set_cons_zero, List.set_cons_succ]
    refine anyU_take (i := 1) (v := ?_) rfl (by kernel_rfl) (by kernel_rfl) (by kernel_rfl) (by kernel_rfl) (fun _ _ _ h => h) (Or.inl ⟨by rfl, ?_⟩) hS0 ?_
    rotate_left
    · intro u hSu; obtain ⟨_, s0, s1⟩ := hSu; go_simp <;> with_reducible rfl
    simp only [Act.put, List.getElem_toArray, List.getElem_cons_zero, List.getElem_cons_succ, List.setIfInBounds_toArray, List.set_cons_zero, List.set_cons_succ]
    refine anyU_take (i := 2) (v := ?_) rfl (by kernel_rfl) (by kernel_rfl) (by kernel_rfl) (by kernel_rfl) (fun _ _ _ h => h) (Or.inl ⟨by rfl, ?_⟩) hS0 ?_
    rotate_left
    · intro u hSu; obtain ⟨_, s0, s1⟩ := hSu; go_simp <;> with_reducible rfl
    simp only [Act.put, List.getElem_toArray, List.getElem_cons_zero, List.getElem_cons_succ, List.setIfInBounds_toArray, List.set_cons_zero, List.set_cons_succ]
    refine anyU_take (i := 3) (v := ?_) rfl (by kernel_rfl) (by kernel_rfl) (by kernel_rfl) (by kernel_rfl) (fun _ _ _ h => h) (Or.inl ⟨by rfl, ?_⟩) hS0 ?_
    rotate_left
    · intro u hSu; obtain ⟨_, s0, s1⟩ := hSu; go_simp <;> with_reducible rfl
    simp only [Act.put, List.getElem_toArray, List.getElem_cons_zero, List.getElem_cons_succ, List.setIfInBounds_toArray, List.set_cons_zero, List.set_cons_succ]
    refine anyU_one (i := 4) (by kernel_rfl) rfl (fun K hK => ?_)
    go_simp
    refine (l3all_any d.waiting.length _ (by have := (DD.fit hok'.out).wl; omega)).mono ?_
    rintro e w3 ⟨kb, rfl, hks, hb3⟩
    have hS3 := hS0.grow hb3
    refine hK.out _ _ hS3 ?_
    clear hK
    refine anyU_one (i := 5) (by kernel_rfl) rfl (fun K hK => ?_)
    go_simp
    have hll : (List.replicate d.waiting.length true).length = d.waiting.length := List.length_replicate
    refine (calls_args (l3settle_any d l (some ⟨kb, 0, none⟩) (List.replicate d.waiting.length true) d.waiting.length w3 (DD.fit hok'.out) (ha.grow (gca hbd hb3)) (by rw [hll]; exact hd.wl) hks) (by rw [hll])).mono ?_
    rw [← hd'.out]
    rintro e w4 ⟨lb, lw, ba, bc, wa, wc, rfl, hlb, hlw, hL4, hW4, hb4⟩
    have hS4 := hS3.grow hb4
    refine hK.out _ _ hS4 ?_
    clear hK
    have hR4 := (hRd.grow hb3).grow hb4
    have z0 := hR4.v0
    have z1 := hR4.v1
    have zf := hR4.vf
    refine anyU_last (by kernel_rfl) rfl (by kernel_rfl) (fun K hK => ?_)
    go_simp
    refine hK.out _ _ ?_
    clear hK
    have hball := gca (gca hbd hb3) hb4
    go_wp2
    obtain ⟨c0, c1, K⟩ := ret2 (A := .slice ba d'.blocks.length bc) (B := .slice wa d'.waiting.length wc) z0 z1
    have hRl : w.heap.size + 1 < w3.heap.size := by have := hRd.lt; have := hb3.size; omega
    have hfL := ((hL4.set (V := w.heap.size + 1) hRl 0 (.slice ba d'.blocks.length bc)).set (V := w.heap.size + 1) hRl 1 (.slice wa d'.waiting.length wc)).le (base' := w.heap.size) (by omega)
    have hfW := ((hW4.set (V := w.heap.size + 1) hRl 0 (.slice ba d'.blocks.length bc)).set (V := w.heap.size + 1) hRl 1 (.slice wa d'.waiting.length wc)).le (base' := w.heap.size) (by omega)
    refine bodyPost_ret (v := .agg #[.slice ba d'.blocks.length bc, .slice wa d'.waiting.length wc]) (by simp [results, Try.results41, go_sem, c0, c1]) rfl ⟨lb, lw, ba, bc, wa, wc, rfl, hlb, hlw, hfL, hfW, ?_⟩
    exact hball.trans (K.below hball.size (fun z hz e => by omega))

end Go.Proofs.Ythjddpkegooobab

/-
  ISYNC: the program's Sync and Crash. Own work.
-/
namespace Go.Proofs.Ythjddpkegooobab
open Go.RowKit

theorem md_zero (w : World) (lo hi : Nat) : MD w lo hi ⟨none, 0, none, 0⟩ zeroD (fun _ => none) (fun _ => none) (fun _ => 0) (fun _ => 0) :=
  ⟨⟨fun h => absurd h (Nat.lt_irrefl _), fun _i hi => absurd hi (Nat.not_lt_zero _), fun _i _j _ hj => absurd hj (Nat.not_lt_zero _)⟩, ⟨fun h => absurd h (Nat.lt_irrefl _), fun _i hi => absurd hi (Nat.not_lt_zero _), fun _i _j _ hj => absurd hj (Nat.not_lt_zero _)⟩, fun _i _j hi _ => absurd hi (Nat.not_lt_zero _)⟩
theorem DPost.zero {w w' : World} (h : Below w.heap.size w w') : DPost zeroD w (.returned (.agg #[.slice none 0 0, .slice none 0 0])) w' := ⟨⟨none, 0, none, 0⟩, _, _, _, _, rfl, md_zero _ _ _, h⟩
theorem VB.below {w w' : World} {V p : Nat} {s0 s1 : Value} (h : VB w V s0 s1) (hb : Below p w w') (hV : V < p) : VB w' V s0 s1 :=
  ⟨(World.cell?_of_block (w := w) (hb.block V hV)).trans h.v0, (World.cell?_of_block (w := w) (hb.block V hV)).trans h.v1, fun o => (World.frozen?_of_block (w := w) (a := ⟨V, o, none⟩) (hb.block V hV)).trans (h.vf o)⟩

set_option maxHeartbeats 1000000 in
set_option maxRecDepth 100000 in
theorem syncK_any (p : Nat) (bl : List (List Nat)) (pa : Option Addr) (pc : Nat) (ws : List DW) (kv : Value) (w : World) (hw : ws.length ≤ 201) (hwb : ∀ x, x ∈ ws → 0 ≤ x.block ∧ x.block < 130) (hDr : Dr w p bl pa pc ws kv) :
    Calls Try.prog 108 #[.pointer (some ⟨p, 0, none⟩)] w fun e w' => e = .returned (.tuple #[]) ∧ Dr w' p (settleN keepAll bl ws ws.length) none 0 [] (.func (.func 156) #[] #[]) ∧ Kept (fun z => z = p) w w' := by
  have kf := hDr.d.kf
  have kz := hDr.d.frozen (o := 8321) (by decide)
  go_enter Try.func108, Try.ntmps108
  go_upto_region 1 with fail
  have hD4 := hDr.d.setK (.func (.func 156) #[] #[])
  have K4 := Kept.one w p 8321 (.func (.func 156) #[] #[])
  have hO4 := K4.owns hDr.own (fun z hz e => by have := (hDr.own.lt z hz).1; omega)
  have hDr4 : Dr (w.setCell ⟨p, 8321, none⟩ (.func (.func 156) #[] #[])) p bl pa pc ws (.func (.func 156) #[] #[]) := ⟨hD4, hO4, hDr.w64⟩
  generalize w.setCell ⟨p, 8321, none⟩ (.func (.func 156) #[] #[]) = w4 at hD4 K4 hO4 hDr4 ⊢
  clear hD4 hO4 kf kz
  go_wp2_with (go_at_call 113; refine (powerSyncK_any p bl pa pc ws _ hw hwb hDr4).mono ?_; rintro e w5 ⟨rfl, hDr5, hb5⟩)
  go_end0
  exact ⟨rfl, hDr5, K4.trans hb5 (fun _ _ e => e)⟩

theorem sync_any (p : Nat) (bl : List (List Nat)) (pa : Option Addr) (pc : Nat) (ws : List DW) (kv : Value) (w : World) (hw : ws.length ≤ 201) (hwb : ∀ x, x ∈ ws → 0 ≤ x.block ∧ x.block < 130) (hDr : Dr w p bl pa pc ws kv) :
    Calls Try.prog 108 #[.pointer (some ⟨p, 0, none⟩)] w fun e w' => e = .returned (.tuple #[]) ∧ Dr w' p (settleN keepAll bl ws ws.length) none 0 [] (.func (.func 156) #[] #[]) ∧ Below p w w' :=
  (syncK_any p bl pa pc ws kv w hw hwb hDr).mono fun _ _ ⟨he, hD, hK⟩ => ⟨he, hD, hK.below (by have := hDr.d.lt; omega) (fun z hz e => by omega)⟩

end Go.Proofs.Ythjddpkegooobab

/-
  DEQ: the laws' comparisons of disks, where both are the same. Own work.
-/
namespace Go.Proofs.Ythjddpkegooobab
open Go.RowKit

set_option maxRecDepth 100000 in
theorem eqByteSS_same (a a' : Option Addr) (cap cap' : Nat) (ns : List (List Nat)) (w : World) (hl : ns.length ≤ maxLen) (hv : ∀ n, n ∈ ns → n.length ≤ maxLen) (ha : BlksAt w a ns) (ha' : BlksAt w a' ns) :
    Calls Try.prog 91 #[.slice a ns.length cap, .slice a' ns.length cap'] w fun e w' => e = .returned (.bool true) ∧ Below w.heap.size w w' := by
  unfold maxLen at hl
  have hne : ((ns.length : Int) != (ns.length : Int)) = false := by simp
  go_enter Try.func91, Try.ntmps91
  go_wp2
  go_loopw [5] (fun i wr => ∃ k : Nat, k ≤ ns.length ∧ i = .int .i64 k ∧ Below w.heap.size w wr) (fun i _ => ns.length - (intOf i).toNat)
  case atStart => exact ⟨0, Nat.zero_le _, rfl, Below.refl _ _⟩
  case round =>
    obtain ⟨k, hk, rfl, hb⟩ := hrel
    by_cases hlt : k < ns.length
    · obtain ⟨n, b, off, av, cv, hvk, hvm, rfl, c0, hva⟩ := (ha.grow hb).get hlt
      obtain ⟨n', b', off', av', cv', hvk', hvm', rfl, d0, hva'⟩ := (ha'.grow hb).get hlt
      have e : n' = n := by rw [hvk.out, hvk'.out]
      subst e
      have i0 : (0 : Int) ≤ (k : Int) := by omega
      have i1 : (k : Int) < (ns.length : Int) := by omega
      have hvl := hv n' hvm
      have hv1 : BytesAt wr.drew av n' := hva.grow (gdr (gre _))
      have hv2 : BytesAt wr.drew av' n' := hva'.grow (gdr (gre _))
      clear ha ha' hvk hvk' hva hva'
      go_wp2
      go_region_held3 (fun w' => w'.cell? ⟨b, off + k, none⟩ = some (.slice av n'.length cv) ∧ w'.cell? ⟨b', off' + k, none⟩ = some (.slice av' n'.length cv')) (first | go_keep | (go_split_ands; refine ⟨?_, ?_⟩ <;> exact cell_later hb' (by assumption))) ((go_at_call 19; refine (eqByteS_same av av' n' cv cv' _ hvl hv1 hv2).mono ?_; rintro e w' ⟨rfl, hb'⟩))
      go_wp2
      go_roundw
      case rel => exact ⟨k + 1, by omega, by go_num, gca (gdr hb) hb'⟩
      case measure => simp [intOf]; omega
    · go_wp2
      go_ret
      exact ⟨rfl, hb⟩

set_option maxRecDepth 100000 in
theorem eqWrite_same (x : DW) (a a' : Option Addr) (cap cap' : Nat) (w : World) (hl : x.bytes.length ≤ maxLen) (ha : BytesAt w a x.bytes) (ha' : BytesAt w a' x.bytes) :
    Calls Try.prog 151 #[x.val a cap, x.val a' cap'] w fun e w' => e = .returned (.bool true) ∧ Below w.heap.size w w' := by
  have hne : ((x.block : Int) != (x.block : Int)) = false := by simp
  go_enter Try.func151, Try.ntmps151
  go_wp2_with (go_at_call 19; refine (eqByteS_same a a' x.bytes cap cap' _ hl (ha.grow (gal (gal (gre _) _) _)) (ha'.grow (gal (gal (gre _) _) _))).mono ?_; rintro e w' ⟨rfl, hb'⟩)
  go_ret
  exact ⟨rfl, gca (gal (gal (gre _) _) _) hb'⟩

set_option maxRecDepth 100000 in
theorem eqWriteS_same (a a' : Option Addr) (cap cap' : Nat) (ns : List DW) (w : World) (hl : ns.length ≤ maxLen) (hv : ∀ n, n ∈ ns → n.bytes.length ≤ maxLen) (ha : WrsAt w a ns) (ha' : WrsAt w a' ns) :
    Calls Try.prog 92 #[.slice a ns.length cap, .slice a' ns.length cap'] w fun e w' => e = .returned (.bool true) ∧ Below w.heap.size w w' := by
  unfold maxLen at hl
  have hne : ((ns.length : Int) != (ns.length : Int)) = false := by simp
  go_enter Try.func92, Try.ntmps92
  go_wp2
  go_loopw [5] (fun i wr => ∃ k : Nat, k ≤ ns.length ∧ i = .int .i64 k ∧ Below w.heap.size w wr) (fun i _ => ns.length - (intOf i).toNat)
  case atStart => exact ⟨0, Nat.zero_le _, rfl, Below.refl _ _⟩
  case round =>
    obtain ⟨k, hk, rfl, hb⟩ := hrel
    by_cases hlt : k < ns.length
    · obtain ⟨n, b, off, av, cv, hvk, hvm, rfl, c0, c1, hva⟩ := (ha.grow hb).get hlt
      obtain ⟨n', b', off', av', cv', hvk', hvm', rfl, d0, d1, hva'⟩ := (ha'.grow hb).get hlt
      have e : n' = n := by rw [hvk.out, hvk'.out]
      subst e
      have i0 : (0 : Int) ≤ (k : Int) := by omega
      have i1 : (k : Int) < (ns.length : Int) := by omega
      have hvl := hv n' hvm
      have hv1 : BytesAt wr.drew av n'.bytes := hva.grow (gdr (gre _))
      have hv2 : BytesAt wr.drew av' n'.bytes := hva'.grow (gdr (gre _))
      clear ha ha' hvk hvk' hva hva'
      go_wp2
      go_region_held3 (fun w' => w'.cell? ⟨b, off + k * 2, none⟩ = some (.int .i64 n'.block) ∧ w'.cell? ⟨b, off + k * 2 + 1, none⟩ = some (.slice av n'.bytes.length cv) ∧ w'.cell? ⟨b', off' + k * 2, none⟩ = some (.int .i64 n'.block) ∧ w'.cell? ⟨b', off' + k * 2 + 1, none⟩ = some (.slice av' n'.bytes.length cv')) (first | go_keep | (go_split_ands; refine ⟨?_, ?_, ?_, ?_⟩ <;> exact cell_later hb' (by assumption))) ((go_at_call 151; refine (eqWrite_same n' av av' cv cv' _ hvl hv1 hv2).mono ?_; rintro e w' ⟨rfl, hb'⟩))
      go_wp2
      go_roundw
      case rel => exact ⟨k + 1, by omega, by go_num, gca (gdr hb) hb'⟩
      case measure => simp [intOf]; omega
    · go_wp2
      go_ret
      exact ⟨rfl, hb⟩

set_option maxRecDepth 100000 in
theorem eqDisk_same (d : DD) (l l' : DL) (w : World) (hd : d.Ok) (ha : DAt w l d) (ha' : DAt w l' d) :
    Calls Try.prog 32 #[d.val l, d.val l'] w fun e w' => e = .returned (.bool true) ∧ Below w.heap.size w w' := by
  have hA := gal (gal (gre w) (.cells #[.slice l.ba d.blocks.length l.bc, .slice l.wa d.waiting.length l.wc] 50)) (.cells #[.slice l'.ba d.blocks.length l'.bc, .slice l'.wa d.waiting.length l'.wc] 50)
  go_enter Try.func32, Try.ntmps32
  go_wp2_with (first
    | (go_at_call 91; refine (eqByteSS_same l.ba l'.ba l.bc l'.bc d.blocks _ hd.bl (fun n hn => (hd.bb n hn).len) (ha.b.grow hA) (ha'.b.grow hA)).mono ?_; rintro e w' ⟨rfl, hb'⟩; obtain ⟨hc, hf⟩ := bcell hb')
    | (go_at_call 92; refine (eqWriteS_same l.wa l'.wa l.wc l'.wc d.waiting _ hd.wl (fun n hn => (hd.wb n hn).len) (ha.w.grow (gca hA hb')) (ha'.w.grow (gca hA hb'))).mono ?_; rintro e w'' ⟨rfl, hb''⟩))
  go_ret
  exact ⟨rfl, gca (gca hA hb') hb''⟩

end Go.Proofs.Ythjddpkegooobab

/-
  LAW: FnExactBlank, walked. Own work.
-/
namespace Go.Proofs.Ythjddpkegooobab
open Go.RowKit

theorem DD.Fit.small {d : DD} (h : d.Fit) : d.Small := ⟨by have := h.bl; omega, fun b hb => by have := h.bb b hb; omega, by have := h.wl; omega, fun x hx => by have := (h.wb x hx).2.2; omega⟩
theorem szBs_64 {l : List (List Nat)} (h : ∀ b, b ∈ l → b.length = 64) : szBs l = 64 * l.length := by
  induction l with
  | nil => simp [szBs]
  | cons x r ih =>
    have h1 := ih (fun b hb => h b (List.mem_cons_of_mem _ hb))
    have h2 := h x (List.mem_cons_self ..)
    simp only [szBs, List.length_cons]
    omega
theorem szWs_64 {l : List DW} (h : ∀ b, b ∈ l → b.bytes.length = 64) : szWs l = 64 * l.length := by
  induction l with
  | nil => simp [szWs]
  | cons x r ih =>
    have h1 := ih (fun b hb => h b (List.mem_cons_of_mem _ hb))
    have h2 := h x (List.mem_cons_self ..)
    simp only [szWs, List.length_cons]
    omega
theorem DD.Fit.mend {d : DD} (h : d.Fit) : d.mend 1 ≤ 1099511627776 := by
  have h1 := d.mend_sz 1
  unfold DD.sz at h1
  rw [szBs_64 h.bb, szWs_64 (fun b hb => (h.wb b hb).2.2)] at h1
  have := h.bl
  have := h.wl
  omega
theorem blank_fit : blankD.Fit := ⟨by simp [blankD], by simp [blankD], fun b hb => by rw [List.eq_of_mem_replicate hb]; simp, fun x hx => by cases hx⟩
theorem blank_ok : blankD.Ok := ⟨by simp [blankD, maxLen], fun b hb => by rw [List.eq_of_mem_replicate hb]; exact ⟨by simp [maxLen], fun x hx => by rw [List.eq_of_mem_replicate hx]; decide⟩, by simp [blankD], fun x hx => (by cases hx), fun x hx => (by cases hx)⟩

end Go.Proofs.Ythjddpkegooobab

/-
  DSZ: the laws' sizes of disks. Own work.
-/
namespace Go.Proofs.Ythjddpkegooobab
open Go.RowKit

set_option maxRecDepth 100000 in
theorem szByteS_any (a : Option Addr) (n cap : Nat) (left : Int) (w : World) (hl : n ≤ maxLen) (h0 : 0 ≤ left) (h1 : left ≤ 1048576) :
    Calls Try.prog 152 #[.slice a n cap, .int .i64 left] w fun e w' => e = .returned (.int .i64 (leftBy left n)) ∧ Below w.heap.size w w' := by
  unfold maxLen at hl
  go_enter Try.func152, Try.ntmps152
  go_wp2
  all_goals go_ret
  · exact ⟨ret_int (leftBy_neg (by assumption)).symm, gre _⟩
  · exact ⟨ret_int (leftBy_pos (Int.not_lt.2 (by assumption))).symm, gre _⟩

set_option maxRecDepth 100000 in
theorem szByteSS_any (a : Option Addr) (cap : Nat) (vs : List (List Nat)) (left : Int) (w : World) (hl : vs.length ≤ maxLen) (hv : ∀ v, v ∈ vs → v.length ≤ maxLen) (h0 : 0 ≤ left) (h1 : left ≤ 1048576) (ha : BlksAt w a vs) :
    Calls Try.prog 97 #[.slice a vs.length cap, .int .i64 left] w fun e w' => e = .returned (.int .i64 (leftBy left (vs.length + szBs vs))) ∧ Below w.heap.size w w' := by
  unfold maxLen at hl
  have hsn := szBs_nonneg vs
  go_enter Try.func97, Try.ntmps97
  go_wp2
  · go_ret
    exact ⟨ret_int (leftBy_neg (by omega)).symm, gre _⟩
  go_loopw [1, 5] (fun l i wr => ∃ k : Nat, k ≤ vs.length ∧ i = .int .i64 k ∧ l = .int .i64 (left - vs.length - szBs (vs.take k)) ∧ 0 ≤ left - vs.length - szBs (vs.take k) ∧ Below w.heap.size w wr) (fun _ i _ => vs.length - (intOf i).toNat)
  case atStart => exact ⟨0, Nat.zero_le _, rfl, by simp [szBs], by simp [szBs]; omega, gre _⟩
  case round =>
    obtain ⟨k, hk, rfl, rfl, hpos, hb⟩ := hrel
    by_cases hlt : k < vs.length
    · obtain ⟨v, b, off, a', c', hvk, hvm, rfl, hc, hva⟩ := (ha.grow hb).get hlt
      have hstep : Hid (szBs (vs.take (k + 1)) = szBs (vs.take k) + v.length) := by rw [hvk.out]; exact szBs_take_succ vs k hlt
      have hle := szBs_take_le vs (k + 1)
      have hn0 := szBs_nonneg (vs.take k)
      go_wp2_with (go_at_call 152; refine (szByteS_any a' v.length c' _ _ (hv v hvm) (by omega) (by omega)).mono ?_; rintro e w' ⟨rfl, hb'⟩)
      · go_ret
        have hn := leftBy_of_neg (by assumption)
        have hs := hstep.out
        exact ⟨ret_int (leftBy_neg (by omega)).symm, gca hb hb'⟩
      · have hn := leftBy_of_nonneg (by assumption)
        have hs := hstep.out
        go_roundw
        case rel => exact ⟨k + 1, by omega, by go_num, by rw [hn.1, hs]; go_num, by omega, gca hb hb'⟩
        case measure => simp [intOf]; omega
    · go_wp2
      go_ret
      have e : k = vs.length := by omega
      subst e
      rw [List.take_length] at hpos
      exact ⟨ret_int (by rw [List.take_length, leftBy_pos (by omega)]; omega), hb⟩

set_option maxRecDepth 100000 in
theorem szWrite_any (x : DW) (a : Option Addr) (cap : Nat) (left : Int) (w : World) (hl : x.bytes.length ≤ maxLen) (h0 : 0 ≤ left) (h1 : left ≤ 1048576) :
    Calls Try.prog 153 #[x.val a cap, .int .i64 left] w fun e w' => e = .returned (.int .i64 (leftBy left x.bytes.length)) ∧ Below w.heap.size w w' := by
  go_enter Try.func153, Try.ntmps153
  go_wp2_with (go_at_call 152; refine (szByteS_any a x.bytes.length cap _ _ hl h0 h1).mono ?_; rintro e w' ⟨rfl, hb'⟩)
  · go_ret
    have hneg := leftBy_of_neg (by assumption)
    exact ⟨ret_int (leftBy_neg (by omega)).symm, gca (gal (gre _) _) hb'⟩
  · go_ret
    exact ⟨rfl, gca (gal (gre _) _) hb'⟩

set_option maxRecDepth 100000 in
theorem szWriteS_any (a : Option Addr) (cap : Nat) (vs : List DW) (left : Int) (w : World) (hl : vs.length ≤ maxLen) (hv : ∀ v, v ∈ vs → v.bytes.length ≤ maxLen) (h0 : 0 ≤ left) (h1 : left ≤ 1048576) (ha : WrsAt w a vs) :
    Calls Try.prog 98 #[.slice a vs.length cap, .int .i64 left] w fun e w' => e = .returned (.int .i64 (leftBy left (vs.length + szWs vs))) ∧ Below w.heap.size w w' := by
  unfold maxLen at hl
  have hsn := szWs_nonneg vs
  go_enter Try.func98, Try.ntmps98
  go_wp2
  · go_ret
    exact ⟨ret_int (leftBy_neg (by omega)).symm, gre _⟩
  go_loopw [1, 5] (fun l i wr => ∃ k : Nat, k ≤ vs.length ∧ i = .int .i64 k ∧ l = .int .i64 (left - vs.length - szWs (vs.take k)) ∧ 0 ≤ left - vs.length - szWs (vs.take k) ∧ Below w.heap.size w wr) (fun _ i _ => vs.length - (intOf i).toNat)
  case atStart => exact ⟨0, Nat.zero_le _, rfl, by simp [szWs], by simp [szWs]; omega, gre _⟩
  case round =>
    obtain ⟨k, hk, rfl, rfl, hpos, hb⟩ := hrel
    by_cases hlt : k < vs.length
    · obtain ⟨v, b, off, a', c', hvk, hvm, rfl, hc, hc2, hva⟩ := (ha.grow hb).get hlt
      have hstep : Hid (szWs (vs.take (k + 1)) = szWs (vs.take k) + v.bytes.length) := by rw [hvk.out]; exact szWs_take_succ vs k hlt
      have hle := szWs_take_le vs (k + 1)
      have hn0 := szWs_nonneg (vs.take k)
      go_wp2_with (go_at_call 153; refine (szWrite_any v a' c' _ _ (hv v hvm) (by omega) (by omega)).mono ?_; rintro e w' ⟨rfl, hb'⟩)
      · go_ret
        have hn := leftBy_of_neg (by assumption)
        have hs := hstep.out
        exact ⟨ret_int (leftBy_neg (by omega)).symm, gca hb hb'⟩
      · have hn := leftBy_of_nonneg (by assumption)
        have hs := hstep.out
        go_roundw
        case rel => exact ⟨k + 1, by omega, by go_num, by rw [hn.1, hs]; go_num, by omega, gca hb hb'⟩
        case measure => simp [intOf]; omega
    · go_wp2
      go_ret
      have e : k = vs.length := by omega
      subst e
      rw [List.take_length] at hpos
      exact ⟨ret_int (by rw [List.take_length, leftBy_pos (by omega)]; omega), hb⟩

set_option maxRecDepth 100000 in
theorem szDisk_any (d : DD) (l : DL) (left : Int) (w : World) (hd : d.Ok) (h0 : 0 ≤ left) (h1 : left ≤ 1048576) (ha : DAt w l d) :
    Calls Try.prog 35 #[d.val l, .int .i64 left] w fun e w' => e = .returned (.int .i64 (leftBy left d.sz)) ∧ Below w.heap.size w w' := by
  have hz : Hid (d.sz = (d.blocks.length + szBs d.blocks) + (d.waiting.length + szWs d.waiting)) := rfl
  have hrz := szBs_nonneg d.blocks
  have hnz := szWs_nonneg d.waiting
  go_enter Try.func35, Try.ntmps35
  go_wp2_with (go_at_call 97; refine (szByteSS_any l.ba l.bc d.blocks _ _ hd.bl (fun v hv => (hd.bb v hv).len) h0 h1 (ha.b.grow (gal (gre _) _))).mono ?_; rintro e w' ⟨rfl, hb'⟩; obtain ⟨hc, hf⟩ := bcell hb')
  · go_ret
    have hneg := leftBy_of_neg (by assumption)
    have := hz.out
    exact ⟨ret_int (leftBy_neg (by omega)).symm, gca (gal (gre _) _) hb'⟩
  · have hnn := leftBy_of_nonneg (by assumption)
    have hB : Below w.heap.size w w' := gca (gal (gre _) _) hb'
    have hle : leftBy left (d.blocks.length + szBs d.blocks) ≤ 1048576 := by omega
    have hge : 0 ≤ leftBy left (d.blocks.length + szBs d.blocks) := by omega
    have hnn' : Hid _ := hnn
    clear hnn
    go_wp2_with (go_at_call 98; refine (szWriteS_any l.wa l.wc d.waiting _ _ hd.wl (fun v hv => (hd.wb v hv).len) hge hle (ha.w.grow hB)).mono ?_; rintro e w'' ⟨rfl, hb''⟩)
    · go_ret
      have hneg := leftBy_of_neg (by assumption)
      have := hz.out
      have := hnn'.out
      exact ⟨ret_int (leftBy_neg (by omega)).symm, gca hB hb''⟩
    · go_ret
      have h1 := leftBy_of_nonneg (by assumption)
      have := hz.out
      have := hnn'.out
      exact ⟨ret_int (by rw [h1.1, leftBy_pos (s := d.sz) (by omega)]; omega), gca hB hb''⟩

end Go.Proofs.Ythjddpkegooobab

/-
  REGIONV: the end of a region that draws its order. Own work.
-/
namespace Go.Proofs.Ythjddpkegooobab
open Go.RowKit

/-- none may come up any more -/
theorem anyU_done {P : Program} {ops : Array Oper} {Q : Exit → Act → World → Prop} {md : Region.Mode} {S : World → Prop} {lst : Nat} {fuel : Nat} {listed : Array Bool} {a : Act} {w : World} (hd : Region.ready md ops listed = []) (hQ : Q .normal a w) : anyU P md ops Q S lst fuel listed a w := by
  cases fuel with
  | zero => exact ⟨hd, hQ⟩
  | succ f => exact ⟨fun _ => hQ, fun i hi => by rw [hd] at hi; cases hi⟩

end Go.Proofs.Ythjddpkegooobab

/-
  LAW: FnExactSync, walked. Own work.
-/
namespace Go.Proofs.Ythjddpkegooobab
open Go.RowKit

/-- disks that a law may hold against each other, and mark -/
structure DD.Tame (d : DD) : Prop where
  ok : d.Ok
  small : d.Small
  mend : d.mend 1 ≤ 1099511627776
theorem zero_tame : zeroD.Tame := ⟨⟨Nat.zero_le _, fun b hb => (by cases hb), Nat.zero_le _, fun x hx => (by cases hx), fun x hx => (by cases hx)⟩, ⟨Nat.zero_le _, fun b hb => (by cases hb), Nat.zero_le _, fun x hx => (by cases hx)⟩, by decide⟩
theorem DD.Fit.tame {d : DD} (h : d.Fit) (hok : d.Ok) : d.Tame := ⟨hok, h.small, h.mend⟩
theorem settle_tame {d : DD} (hd : d.Ok) (keep : Nat → Bool) : (d.settle keep).Tame := by
  cases hok : d.ok with
  | false => rw [settle_no hok]; exact zero_tame
  | true =>
    have hf := DD.fit hok
    rw [settle_yes hok]
    refine DD.Fit.tame ⟨by show (settleN _ _ _ _).length = 130; rw [settleN_length]; exact hf.bl, Nat.zero_le _, settleN_all hf.bb (fun x hx => (hf.wb x hx).2.2) _ (Nat.le_refl _), fun x hx => (by cases hx)⟩ ⟨by show (settleN _ _ _ _).length ≤ maxLen; rw [settleN_length]; exact hd.bl, settleN_all hd.bb hd.wb _ (Nat.le_refl _), Nat.zero_le _, fun x hx => (by cases hx), fun x hx => (by cases hx)⟩
theorem DD.small_mend {d : DD} (h : d.sz ≤ 1048576) : d.mend 1 ≤ 1099511627776 := by have := d.mend_sz 1; omega

end Go.Proofs.Ythjddpkegooobab

/-
  DPOW: the power goes. Own work.
-/
namespace Go.Proofs.Ythjddpkegooobab
open Go.RowKit

set_option maxRecDepth 100000 in
theorem crashKeeps_any (j K : Nat) (ka : Option Addr) (ks : List Bool) (kc : Nat) (w : World) (hj : j ≤ 1000) (_hl : ks.length ≤ maxLen) (hc : w.cell? ⟨K, 0, none⟩ = some (.slice ka ks.length kc)) (ha : BoolsAt w ka ks) :
    Calls Try.prog 112 #[.int .i64 j, .pointer (some ⟨K, 0, none⟩)] w fun e w' => e = .returned (.bool (keepOf ks j)) ∧ Below w.heap.size w w' := by
  by_cases hlt : j < ks.length
  · obtain ⟨b, off, rfl, hb⟩ := ha j hlt
    have i0 : (0 : Int) ≤ (j : Int) := by omega
    have i1 : (j : Int) < (ks.length : Int) := by omega
    have he : Hid (keepOf ks j = ks[j]!) := by show _ = _; simp [keepOf, hlt]
    obtain ⟨x, hx⟩ := hid_ex ks[j]!
    rw [← hx.out] at hb
    go_enter Try.func112, Try.ntmps112
    go_wp2
    go_ret
    exact ⟨by rw [he.out, ← hx.out]; rfl, gre _⟩
  · have i1 : ¬ ((j : Int) < (ks.length : Int)) := by omega
    have he : Hid (keepOf ks j = false) := by show _ = _; simp [keepOf]; omega
    go_enter Try.func112, Try.ntmps112
    go_wp2
    go_ret
    exact ⟨by rw [he.out]; rfl, gre _⟩

end Go.Proofs.Ythjddpkegooobab
