import Derived.Deep.QuietTactic
import Derived.BigQuiet
import Derived.Deep.RegionHeld3
import Derived.Laws.EntriesVeiled
import Derived.Test.YthjddpkegooobaaPartY

/-
  WSAME: the laws' comparisons, where both are the same. Own work.
-/
namespace Go.Proofs.Ythjddpkegooobaa
open Go.RowKit

set_option maxRecDepth 100000 in
theorem wBytes_same (a a' : Option Addr) (bs : List Nat) (cap cap' : Nat) (w : World) (hl : bs.length ≤ maxLen) (ha : BytesAt w a bs) (ha' : BytesAt w a' bs) :
    Calls Try.prog 18 #[.slice a bs.length cap, .slice a' bs.length cap'] w fun e w' => e = .returned (.bool true) ∧ Below w.heap.size w w' := by
  unfold maxLen at hl
  have hne : ((bs.length : Int) != (bs.length : Int)) = false := by simp
  go_enter Try.func18, Try.ntmps18
  go_wp2
  go_loopw [13] (fun i wr => ∃ (k : Nat), k ≤ bs.length ∧ i = .int .i64 k ∧ Below w.heap.size w wr) (fun i _ => bs.length - (intOf i).toNat)
  case atStart => exact ⟨0, Nat.zero_le _, rfl, gre _⟩
  case round =>
    obtain ⟨k, hk, rfl, hb⟩ := hrel
    by_cases hlt : k < bs.length
    · obtain ⟨x, b, off, hxk, hxm, rfl, hc⟩ := (ha.grow hb).get hlt
      obtain ⟨y, b', off', hyk, hym, rfl, hc'⟩ := (ha'.grow hb).get hlt
      obtain rfl : y = x := by rw [hyk.out, hxk.out]
      have hn2 : ((y : Int) != (y : Int)) = false := by simp
      go_wp2_with (go_quiet (fail))
      go_roundw
      case rel => exact ⟨k + 1, by omega, by go_num, hb.trans ⟨rfl, rfl, rfl, Nat.le_refl _, fun _ _ => rfl⟩⟩
      case measure => simp [intOf]; omega
    · go_wp2
      go_ret
      exact ⟨rfl, hb⟩

/-- a graph's own variable -/
structure WBox (w : World) (p : Nat) (s : Value) : Prop where
  c4 : w.cell? ⟨p, 4, none⟩ = some s
theorem WBox.grow {w w' : World} {p : Nat} {s : Value} (h : WBox w p s) (hb : Below w.heap.size w w') : WBox w' p s := ⟨(World.cell?_of_block (w := w) (hb.block p (World.block_lt_of_cell? w ⟨p, 4, none⟩ h.c4))).trans h.c4⟩

set_option maxHeartbeats 4000000 in
set_option maxRecDepth 100000 in
theorem wGraph_same (a a' : Option Addr) (cap cap' : Nat) (g : GG) (w : World) (hg : g.Ok) (ha : NodesAt w.heap.size w a g.nodes) (ha' : NodesAt w.heap.size w a' g.nodes) :
    Calls Try.prog 13 #[g.val a cap, g.val a' cap'] w fun e w' => e = .returned (.bool true) ∧ Below w.heap.size w w' := by
  have hgl := hg.len
  unfold maxLen at hgl
  have hne : ((g.nodes.length : Int) != (g.nodes.length : Int)) = false := by simp
  have hA := gal (gal (gre w) (.cells #[.int .i64 g.root.kind, .int .i64 g.root.num, .string g.root.text, .int .i64 g.root.node, .slice a g.nodes.length cap] 27)) (.cells #[.int .i64 g.root.kind, .int .i64 g.root.num, .string g.root.text, .int .i64 g.root.node, .slice a' g.nodes.length cap'] 27)
  have hX0 : WBox ((w.alloc (.cells #[.int .i64 g.root.kind, .int .i64 g.root.num, .string g.root.text, .int .i64 g.root.node, .slice a g.nodes.length cap] 27)).alloc (.cells #[.int .i64 g.root.kind, .int .i64 g.root.num, .string g.root.text, .int .i64 g.root.node, .slice a' g.nodes.length cap'] 27)) w.heap.size (.slice a g.nodes.length cap) := WBox.grow ⟨by simp⟩ (gal (gre _) _)
  have hY0 : WBox ((w.alloc (.cells #[.int .i64 g.root.kind, .int .i64 g.root.num, .string g.root.text, .int .i64 g.root.node, .slice a g.nodes.length cap] 27)).alloc (.cells #[.int .i64 g.root.kind, .int .i64 g.root.num, .string g.root.text, .int .i64 g.root.node, .slice a' g.nodes.length cap'] 27)) (w.heap.size + 1) (.slice a' g.nodes.length cap') := by
    have e : (w.alloc (.cells #[.int .i64 g.root.kind, .int .i64 g.root.num, .string g.root.text, .int .i64 g.root.node, .slice a g.nodes.length cap] 27)).heap.size = w.heap.size + 1 := by simp
    rw [← e]; exact ⟨by simp⟩
  go_enter Try.func13, Try.ntmps13
  go_wp2
  generalize (w.alloc (.cells #[.int .i64 g.root.kind, .int .i64 g.root.num, .string g.root.text, .int .i64 g.root.node, .slice a g.nodes.length cap] 27)).alloc (.cells #[.int .i64 g.root.kind, .int .i64 g.root.num, .string g.root.text, .int .i64 g.root.node, .slice a' g.nodes.length cap'] 27) = wA at hA hX0 hY0 ⊢
  go_loopw [24] (fun i wr => ∃ k : Nat, k ≤ g.nodes.length ∧ i = .int .i64 k ∧ Below wA.heap.size wA wr) (fun i _ => g.nodes.length - (intOf i).toNat)
  case atStart => exact ⟨0, Nat.zero_le _, rfl, gre _⟩
  case round =>
    obtain ⟨k, hk, rfl, hb⟩ := hrel
    by_cases hlt : k < g.nodes.length
    · have hB := gca hA hb
      obtain ⟨n, b, off, av, cv, hvk, hvm, rfl, hbs, hva⟩ := (ha.grow hB).get hlt
      obtain ⟨n', b', off', av', cv', hvk', hvm', rfl, hbs', hva'⟩ := (ha'.grow hB).get hlt
      obtain rfl : n' = n := by rw [hvk.out, hvk'.out]
      have x4 := (hX0.grow hb).c4
      have y4 := (hY0.grow hb).c4
      have c0 := hva.tag
      have c1 := hva.sl
      have d0 := hva'.tag
      have d1 := hva'.sl
      have hv1 := hva.vals
      have hv2 := hva'.vals
      have i0 : (0 : Int) ≤ (k : Int) := by omega
      have i1 : (k : Int) < (g.nodes.length : Int) := by omega
      have hnl := (hg.nodes n' hvm).len
      unfold maxLen at hnl
      have t1 : ((n'.tag : Int) != n'.tag) = false := by simp
      have t2 : ((n'.vals.length : Int) != (n'.vals.length : Int)) = false := by simp
      clear hva hva' hvk hvk' ha ha'
      go_wp2_with (go_quiet (fail))
      rename World => wB
      go_loopw [64] (fun i wr2 => ∃ j : Nat, j ≤ n'.vals.length ∧ i = .int .i64 j ∧ Below wB.heap.size wB wr2) (fun i _ => n'.vals.length - (intOf i).toNat)
      case atStart => exact ⟨0, Nat.zero_le _, rfl, by first | exact gre _ | exact (gre wB).trans ⟨rfl, rfl, rfl, Nat.le_refl _, fun _ _ => rfl⟩⟩
      case round =>
        obtain ⟨j, hj, rfl, hb2⟩ := hrel
        by_cases hlt2 : j < n'.vals.length
        · obtain ⟨v, vb, vo, hvj, hvm2, rfl, hvb, hvv⟩ := (hv1.grow hb2).get hlt2
          obtain ⟨v', vb', vo', hvj', hvm2', rfl, hvb', hvv'⟩ := (hv2.grow hb2).get hlt2
          obtain rfl : v' = v := by rw [hvj.out, hvj'.out]
          have c1' := cell_later hb2 c1
          have d1' := cell_later hb2 d1
          have x4' := cell_later hb2 x4
          have y4' := cell_later hb2 y4
          have e0 := hvv.kind
          have e1 := hvv.num
          have e2 := hvv.text
          have e3 := hvv.node
          have f0 := hvv'.kind
          have f1 := hvv'.num
          have f2 := hvv'.text
          have f3 := hvv'.node
          have j0 : (0 : Int) ≤ (j : Int) := by omega
          have j1 : (j : Int) < (n'.vals.length : Int) := by omega
          clear hvv hvv' hvj hvj' c0 c1 d0 d1 x4 y4 hv1 hv2
          go_wp2_with (go_quiet (fail))
          go_roundw
          case rel => exact ⟨j + 1, by omega, by go_num, by first | exact hb2 | exact hb2.trans ⟨rfl, rfl, rfl, Nat.le_refl _, fun _ _ => rfl⟩⟩
          case measure => simp [intOf]; omega
        · go_wp2
          go_roundw
          case rel => exact ⟨k + 1, by omega, by go_num, gca hb hb2⟩
          case measure => simp [intOf]; omega
    · go_wp2
      go_ret
      exact ⟨rfl, gca hA hb⟩

end Go.Proofs.Ythjddpkegooobaa

/-
  DPOW: the power goes. Own work.
-/
namespace Go.Proofs.Ythjddpkegooobaa
open Go.RowKit

set_option maxRecDepth 100000 in
theorem crashKeeps_any (j K : Nat) (ka : Option Addr) (ks : List Bool) (kc : Nat) (w : World) (hj : j ≤ 1000) (_hl : ks.length ≤ maxLen) (hc : w.cell? ⟨K, 0, none⟩ = some (.slice ka ks.length kc)) (ha : BoolsAt w ka ks) :
    Calls Try.prog 89 #[.int .i64 j, .pointer (some ⟨K, 0, none⟩)] w fun e w' => e = .returned (.bool (keepOf ks j)) ∧ Below w.heap.size w w' := by
  by_cases hlt : j < ks.length
  · obtain ⟨b, off, rfl, hb⟩ := ha j hlt
    have i0 : (0 : Int) ≤ (j : Int) := by omega
    have i1 : (j : Int) < (ks.length : Int) := by omega
    have he : Hid (keepOf ks j = ks[j]!) := by show _ = _; simp [keepOf, hlt]
    obtain ⟨x, hx⟩ := hid_ex ks[j]!
    rw [← hx.out] at hb
    go_enter Try.func89, Try.ntmps89
    go_wp2
    go_ret
    exact ⟨by rw [he.out, ← hx.out]; rfl, gre _⟩
  · have i1 : ¬ ((j : Int) < (ks.length : Int)) := by omega
    have he : Hid (keepOf ks j = false) := by show _ = _; simp [keepOf]; omega
    go_enter Try.func89, Try.ntmps89
    go_wp2
    go_ret
    exact ⟨by rw [he.out]; rfl, gre _⟩

end Go.Proofs.Ythjddpkegooobaa

/-
  DPOW2: the power goes, and some is kept. Own work.
-/
namespace Go.Proofs.Ythjddpkegooobaa
open Go.RowKit

theorem BoolsAt.below {w w' : World} {a : Option Addr} {ks : List Bool} {p : Nat} (h : BoolsAt w a ks) (hb : Below p w w') (hp : ∀ b off, a = some ⟨b, off, none⟩ → 0 < ks.length → b < p) : BoolsAt w' a ks := fun i hi => by
  obtain ⟨b, off, ha, hc⟩ := h i hi
  exact ⟨b, off, ha, (World.cell?_of_block (w := w) (hb.block b (hp b off ha (by omega)))).trans hc⟩

set_option maxHeartbeats 4000000 in
set_option maxRecDepth 100000 in
theorem powerCrash_any (p : Nat) (bl : List (List Nat)) (pa : Option Addr) (pc : Nat) (ws : List DW) (K : Nat) (ka : Option Addr) (ks : List Bool) (kc : Nat) (w : World) (hw : ws.length ≤ 201) (hwb : ∀ x, x ∈ ws → 0 ≤ x.block ∧ x.block < 130) (hkl : ks.length ≤ maxLen) (hKp : K < p) (hKc0 : w.cell? ⟨K, 0, none⟩ = some (.slice ka ks.length kc)) (hKb0 : BoolsAt w ka ks) (hkp0 : ∀ b off, ka = some ⟨b, off, none⟩ → 0 < ks.length → b < p) (h : Dr w p bl pa pc ws (.func (.func 89) #[] #[.pointer (some ⟨K, 0, none⟩)])) :
    Calls Try.prog 90 #[.pointer (some ⟨p, 0, none⟩)] w fun e w' => e = .returned (.tuple #[]) ∧ Dr w' p (settleN (keepOf ks) bl ws ws.length) none 0 [] (.func (.func 89) #[] #[.pointer (some ⟨K, 0, none⟩)]) ∧ Below p w w' := by
  have hz65 := (zero_of_info zero_pending).1
  have x0 := h.d.ws
  have hpl0 := h.d.lt
  go_enter Try.func90, Try.ntmps90
  go_wp2
  go_loopw [9] (fun i wr => ∃ k : Nat, k ≤ ws.length ∧ i = .int .i64 k ∧ Dr wr p (settleN (keepOf ks) bl ws k) pa pc ws (.func (.func 89) #[] #[.pointer (some ⟨K, 0, none⟩)]) ∧ Below p w wr) (fun i _ => ws.length - (intOf i).toNat)
  case atStart => exact ⟨0, Nat.zero_le _, rfl, h, Below.refl _ _⟩
  case round =>
    obtain ⟨k, hk, rfl, hD, hb⟩ := hrel
    clear x0
    by_cases hlt : k < ws.length
    · obtain ⟨g, rfl, hg1, hgl, hrg⟩ := owns_pend hD.own hD.w64 hlt
      obtain ⟨n, hn⟩ := hid_ex ws[k]!
      rw [← hn.out] at hrg
      have hnm : n ∈ ws := by rw [hn.out]; exact mem_at hlt
      have hn64 : Hid (n.bytes.length = 64) := h.w64 _ hnm
      have hpl : n.pc.length = 65 := pc_length hn64.out
      have hbl64 : (bcells n.bytes).length = 64 := by rw [bcells_length]; exact hn64.out
      obtain ⟨hn0, hn1⟩ := hwb n hnm
      obtain ⟨m, hm⟩ : ∃ m : Nat, n.block = (m : Int) := ⟨n.block.toNat, by omega⟩
      have i0 : (0 : Int) ≤ (k : Int) := by omega
      have i1 : (k : Int) < (ws.length : Int) := by omega
      go_upto_region 3 with (first
        | (refine wpList_load_mid rfl 166 _ rfl g (k * 65) rfl n.pc _ hrg Try.underlying166 rfl (by rw [size_pending, hpl]) ?_)
        | (refine wpList_alloc_big rfl 166 rfl _ hz65 ?_)
        | (refine wpList_store_new rfl 166 _ _ rfl _ n.pc.toArray rfl rfl (by rw [size_pending]; simp [hpl]) (by simp [zeros, hpl]) (all_oneCell_toArray pc_one) ?_))
      have hDA := hD.grow (gal (gre wr) (.cells n.pc.toArray 166))
      have hbA : Below p w (wr.alloc (.cells n.pc.toArray 166)) := hb.alloc (by have := hD.d.lt; omega) _
      have hrn := range_new wr n.pc 166
      have hr1 : (wr.alloc (.cells n.pc.toArray 166)).rangeAt wr.heap.size 1 (bcells n.bytes) := range_drop (cs := [.int .i64 n.block]) hrn
      have hq1 : (wr.alloc (.cells n.pc.toArray 166)).cell? ⟨wr.heap.size, 0, none⟩ = some (.int .i64 (m : Int)) := by rw [← hm]; exact hrn 0 _ rfl
      have hsC : (wr.alloc (.cells n.pc.toArray 166)).heap.size = wr.heap.size + 1 := by simp
      generalize wr.alloc (.cells n.pc.toArray 166) = wC at hDA hbA hr1 hq1 hsC ⊢
      clear hrn hrg
      generalize wr.heap.size = Q at hr1 hq1 hsC hgl ⊢
      have kf := hDA.d.kf
      have hm130 : m < 130 := by omega
      have j0 : (0 : Int) ≤ (m : Int) := by omega
      have j1 : (m : Int) < 130 := by omega
      have hmt : n.block.toNat = m := by omega
      have hmt' : Hid _ := hmt
      have hm' : Hid _ := hm
      have hn0' : Hid _ := hn0
      have hn1' : Hid _ := hn1
      clear hmt hm hn0 hn1
      have hKc : wC.cell? ⟨K, 0, none⟩ = some (.slice ka ks.length kc) := (World.cell?_of_block (w := w) (hbA.block K hKp)).trans hKc0
      have hKb : BoolsAt wC ka ks := hKb0.below hbA hkp0
      cases hkp : (keepOf ks) k with
      | true =>
        have hkp' : Hid _ := hkp
        have hst : Hid (settleN (keepOf ks) bl ws (k + 1) = setB (settleN (keepOf ks) bl ws k) n) := by show _ = _; simp only [settleN]; rw [if_pos hkp, ← hn.out]
        clear hkp
        go_upto_region 4 with (go_at_call 89; refine (crashKeeps_any k K ka ks kc _ (by omega) hkl hKc hKb).mono ?_; rintro e w2 ⟨rfl, hb2⟩; obtain ⟨hD2, hb2A, hq2, hr2⟩ : Dr w2 p (settleN (keepOf ks) bl ws k) (some ⟨g, 0, none⟩) pc ws (.func (.func 89) #[] #[.pointer (some ⟨K, 0, none⟩)]) ∧ Below p w w2 ∧ w2.cell? ⟨Q, 0, none⟩ = some (.int .i64 (m : Int)) ∧ w2.rangeAt Q 1 (bcells n.bytes) := ⟨hDA.grow hb2, hbA.trans (hb2.mono (by have := hDA.d.lt; omega)), cell_later hb2 hq1, range_grow hr1 hb2⟩; rw [hkp'.out])
        refine wp_regionU (fun u => u.cell? ⟨Q, 0, none⟩ = some (.int .i64 (m : Int)) ∧ u.rangeAt Q 1 (bcells n.bytes)) 8 (by kernel_rfl) ⟨hq2, hr2⟩ (fun hS0 => ?_)
        refine anyU_take (i := 0) (v := ?_) rfl (by kernel_rfl) (by kernel_rfl) (by kernel_rfl) (by kernel_rfl) (fun _ _ _ h => h) (Or.inl ⟨by rfl, ?_⟩) hS0 ?_
        rotate_left
        · intro u hSu; obtain ⟨s0, s1⟩ := hSu; go_simp <;> with_reducible rfl
        simp only [Act.put, List.getElem_toArray, List.getElem_cons_zero, List.setIfInBounds_toArray, List.set_cons_zero, List.set_cons_succ]
        refine anyU_take (i := 1) (v := ?_) rfl (by kernel_rfl) (by kernel_rfl) (by kernel_rfl) (by kernel_rfl) (fun _ _ _ h => h) (Or.inl ⟨by rfl, ?_⟩) hS0 ?_
        rotate_left
        · intro u hSu; obtain ⟨s0, s1⟩ := hSu; go_simp <;> with_reducible rfl
        simp only [Act.put, List.getElem_toArray, List.getElem_cons_zero, List.getElem_cons_succ, List.setIfInBounds_toArray, List.set_cons_zero, List.set_cons_succ]
        refine anyU_take (i := 2) (v := ?_) rfl (by kernel_rfl) (by kernel_rfl) (by kernel_rfl) (by kernel_rfl) (fun _ _ _ h => h) (Or.inl ⟨by rfl, ?_⟩) hS0 ?_
        rotate_left
        · intro u hSu; obtain ⟨s0, s1⟩ := hSu; go_simp <;> with_reducible rfl
        simp only [Act.put, List.getElem_toArray, List.getElem_cons_zero, List.getElem_cons_succ, List.setIfInBounds_toArray, List.set_cons_zero, List.set_cons_succ]
        refine anyU_take (i := 3) (v := ?_) rfl (by kernel_rfl) (by kernel_rfl) (by kernel_rfl) (by kernel_rfl) (fun _ _ _ h => h) (Or.inl ⟨by rfl, ?_⟩) hS0 ?_
        rotate_left
        · intro u hSu; obtain ⟨s0, s1⟩ := hSu; go_simp <;> with_reducible rfl
        simp only [Act.put, List.getElem_toArray, List.getElem_cons_zero, List.getElem_cons_succ, List.setIfInBounds_toArray, List.set_cons_zero, List.set_cons_succ]
        refine anyU_take (i := 4) rfl (by kernel_rfl) (by kernel_rfl) (by kernel_rfl) (by kernel_rfl) (fun _ _ _ h => h) (yieldsIf_load_mid (by rfl) 110 (.tmp 23) rfl Q 1 (by rfl) (bcells n.bytes) _ (fun _ hS => hS.2) Try.underlying110 rfl (by rw [size_content, hbl64])) hS0 ?_
        simp only [Act.put, List.getElem_toArray, List.getElem_cons_zero, List.getElem_cons_succ, List.setIfInBounds_toArray, List.set_cons_zero, List.set_cons_succ]
        obtain ⟨s0, s1⟩ := id hS0
        refine anyU_one (i := 5) (by kernel_rfl) rfl (fun K hK => ?_)
        go_simp
        refine hK.out _ _ hS0 ?_
        clear hK
        refine anyU_one (i := 6) (by kernel_rfl) rfl (fun K hK => ?_)
        go_simp
        refine hK.out _ _ hS0 ?_
        clear hK
        refine anyU_one (i := 7) (by kernel_rfl) rfl (fun K hK => ?_)
        go_simp
        refine hK.out _ _ hS0 ?_
        clear hK
        refine anyU_last (by kernel_rfl) rfl (by kernel_rfl) (fun K hK => ?_)
        rw [if_pos (by rfl)]
        refine wp_store_mid 110 (.tmp 27) (.tmp 24) rfl p (m * 64) (bcells n.bytes).toArray (by rfl) (by rfl) (by rw [List.size_toArray, hbl64]; exact there_part (hD2.d.grow (gdr (gre w2))).th (Nat.zero_le _) (by omega)) (by rw [size_content, List.size_toArray, hbl64]) (all_oneCell_toArray cells_u8) ?_
        refine hK.out _ _ ?_
        clear hK
        simp only [Act.put, List.getElem_toArray, List.getElem_cons_zero, List.getElem_cons_succ]
        have hfin := (hD2.d.grow (gdr (gre w2))).setB (x := n) hn0'.out hn1'.out hn64.out
        rw [hmt'.out, ← hst.out] at hfin
        have hKs := Kept.setCells (p := fun z => z = p) (bcells n.bytes) (m * 64) (Kept.refl _ w2.drew) (fun _ => rfl)
        go_wp2
        go_roundw
        case rel => exact ⟨k + 1, by omega, by go_num, ⟨hfin, hKs.owns (hD2.grow (gdr (gre w2))).own (fun z hz e => by have := (hD2.own.lt z hz).1; omega), h.w64⟩, (hb2A.trans (gdr (gre w2) |>.mono (by have := hD2.d.lt; omega))).trans (hKs.below (by have := hD2.d.lt; show p ≤ w2.heap.size; omega) (fun z hz e => by omega))⟩
        case measure => simp [intOf]; omega
      | false =>
        have hkp' : Hid _ := hkp
        have hst : Hid (settleN (keepOf ks) bl ws (k + 1) = settleN (keepOf ks) bl ws k) := by show _ = _; simp only [settleN]; rw [if_neg (by rw [hkp]; exact Bool.false_ne_true)]
        clear hkp
        go_wp2_with (go_at_call 89; refine (crashKeeps_any k K ka ks kc _ (by omega) hkl hKc hKb).mono ?_; rintro e w2 ⟨rfl, hb2⟩; rw [hkp'.out])
        go_roundw
        case rel => exact ⟨k + 1, by omega, by go_num, by rw [hst.out]; exact hDA.grow hb2, hbA.trans (hb2.mono (by have := hDA.d.lt; omega))⟩
        case measure => simp [intOf]; omega
    · obtain rfl : k = ws.length := by omega
      have x0 := hD.d.ws
      have xf := hD.d.frozen (o := 8320) (by decide)
      have hfin := hD.d.setW (.slice none 0 0)
      go_wp2
      first | go_end0 | refine bodyPost_ret (results_none rfl _ _ _) rfl ?_
      exact ⟨rfl, ⟨hfin, owns_none _ _ _ _, fun x hx => (by cases hx)⟩, hb.trans ((Kept.one wr p 8320 _).below (by have := hD.d.lt; omega) (fun z hz e => by omega))⟩

end Go.Proofs.Ythjddpkegooobaa

/-
  ICRASH: the program's Crash. Own work.
-/
namespace Go.Proofs.Ythjddpkegooobaa
open Go.RowKit

set_option maxHeartbeats 1000000 in
set_option maxRecDepth 100000 in
theorem implCrash_any (d : DD) (l : DL) (ka : Option Addr) (ks : List Bool) (kc : Nat) (w : World) (hd : d.Ok) (ha : DAt w l d) (hkl : ks.length ≤ maxLen) (hk0 : BoolsAt w ka ks) : Calls Try.prog 33 #[d.val l, .slice ka ks.length kc] w (DPost (d.settle (keepOf ks)) w) := by
  have hmf : ∀ (fn : Fn) (first cap : Array Value) (w : World), (Instr.makeFunc fn first cap).run Try.prog w = .ok (.func fn first cap) w := fun _ _ _ _ => rfl
  have hA := gal (gal (gal (gre w) (.cells #[.slice l.ba d.blocks.length l.bc, .slice l.wa d.waiting.length l.wc] 44)) (.cells #[.slice ka ks.length kc] 52)) (.cells #[.slice none 0 0, .slice none 0 0] 44)
  have hX0 := (DBox.new w d l 44).grow (gal (gal (gre _) (.cells #[.slice ka ks.length kc] 52)) (.cells #[.slice none 0 0, .slice none 0 0] 44))
  have hR0 := VB.new_at ((w.alloc (.cells #[.slice l.ba d.blocks.length l.bc, .slice l.wa d.waiting.length l.wc] 44)).alloc (.cells #[.slice ka ks.length kc] 52)) (.slice none 0 0) (.slice none 0 0) 44 (w.heap.size + 1 + 1) (by simp)
  have hK0 : (((w.alloc (.cells #[.slice l.ba d.blocks.length l.bc, .slice l.wa d.waiting.length l.wc] 44)).alloc (.cells #[.slice ka ks.length kc] 52)).alloc (.cells #[.slice none 0 0, .slice none 0 0] 44)).cell? ⟨w.heap.size + 1, 0, none⟩ = some (.slice ka ks.length kc) := by
    have e1 : (w.alloc (.cells #[.slice l.ba d.blocks.length l.bc, .slice l.wa d.waiting.length l.wc] 44)).heap.size = w.heap.size + 1 := by simp
    refine cell_later (gal (gre _) _) ?_
    rw [← e1]; simp
  have hkf0 : ∀ b off, ka = some ⟨b, off, none⟩ → 0 < ks.length → b < w.heap.size := fun b off e h0 => by
    obtain ⟨b', off', e', hc'⟩ := hk0 0 h0
    have h1 := World.block_lt_of_cell? _ _ hc'
    rw [e] at e'
    have h2 := congrArg (fun q => q.map Addr.block) e'
    simp at h1 h2
    omega
  cases hok : d.ok with
  | false =>
    have hok' : Hid _ := hok
    clear hok
    rw [settle_no hok'.out]
    go_enter Try.func33, Try.ntmps33
    go_wp2_with (go_at_call 26; refine (implDiskOk_any d l _ hd (ha.grow hA)).mono ?_; rintro e w2 ⟨rfl, hb2⟩; rw [hok'.out]; obtain ⟨z0, z1, zf⟩ := hR0.grow hb2)
    obtain ⟨c0, c1, K⟩ := ret2 (A := .slice none 0 0) (B := .slice none 0 0) z0 z1
    refine bodyPost_ret (v := .agg #[.slice none 0 0, .slice none 0 0]) (by simp [results, Try.results33, go_sem, c0, c1]) rfl (DPost.zero ?_)
    exact (gca hA hb2).trans (K.below (gca hA hb2).size (fun z hz e => by omega))
  | true =>
    have hok' : Hid _ := hok
    clear hok
    have hfit := DD.fit hok'.out
    rw [settle_yes hok'.out]
    obtain ⟨d', hd'⟩ := hid_ex (DD.mk (settleN (keepOf ks) d.blocks d.waiting d.waiting.length) [])
    rw [← hd'.out]
    go_enter Try.func33, Try.ntmps33
    go_upto_region 4 with (first
      | (go_at_call 26; refine (implDiskOk_any d l _ hd (ha.grow hA)).mono ?_; rintro e w2 ⟨rfl, hb2⟩; rw [hok'.out]; obtain ⟨_, x0, x1⟩ := hX0.grow hb2)
      | (go_at_call 81; refine (driveOf_any d l _ hfit (ha.grow (gca hA hb2))).mono ?_; rintro e w3 ⟨p, pa, pc, rfl, hp3, hDr, hb3⟩))
    have hR3 := (hR0.grow hb2).grow hb3
    have hb3A := gca (gca hA hb2) hb3
    have hRp : w.heap.size + 1 + 1 < p := by have := (hR0.grow hb2).lt; omega
    have hwp : w.heap.size ≤ p := by have := (gca hA hb2).size; omega
    have hkp : ∀ b off, ka = some ⟨b, off, none⟩ → 0 < ks.length → b < p := fun b off e h0 => Nat.lt_of_lt_of_le (hkf0 b off e h0) hwp
    have kf := hDr.d.kf
    have kz := hDr.d.frozen (o := 8321) (by decide)
    have hKc3 := cell_later hb3 (cell_later hb2 hK0)
    have hKb3 := hk0.grow hb3A
    go_upto_region 5 with fail
    have hD4 := hDr.d.setK (.func (.func 89) #[] #[.pointer (some ⟨w.heap.size + 1, 0, none⟩)])
    have K4 := Kept.one w3 p 8321 (.func (.func 89) #[] #[.pointer (some ⟨w.heap.size + 1, 0, none⟩)])
    have hO4 := K4.owns hDr.own (fun z hz e => by have := (hDr.own.lt z hz).1; omega)
    have hR4 := hR3.kept K4 (by omega)
    have hb4 := hb3A.trans (K4.below hb3A.size (fun z hz e => by omega))
    have hDr4 : Dr (w3.setCell ⟨p, 8321, none⟩ (.func (.func 89) #[] #[.pointer (some ⟨w.heap.size + 1, 0, none⟩)])) p d.blocks pa pc d.waiting (.func (.func 89) #[] #[.pointer (some ⟨w.heap.size + 1, 0, none⟩)]) := ⟨hD4, hO4, hDr.w64⟩
    have hKc4 := K4.cell hKc3 (by omega)
    have hKb4 : BoolsAt _ ka ks := hKb3.below (K4.below (B := p) (Nat.le_of_lt hDr.d.lt) (fun z hz e => by omega)) hkp
    generalize w3.setCell ⟨p, 8321, none⟩ (.func (.func 89) #[] #[.pointer (some ⟨w.heap.size + 1, 0, none⟩)]) = w4 at hD4 K4 hO4 hR4 hb4 hDr4 hKc4 hKb4 ⊢
    clear hD4 K4 hO4 hDr kf kz hR3 hb3A
    go_upto_region 6 with (go_at_call 90; refine (powerCrash_any p d.blocks pa pc d.waiting (w.heap.size + 1) ka ks kc _ (by have := hfit.wl; omega) (fun x hx => ⟨(hfit.wb x hx).1, (hfit.wb x hx).2.1⟩) hkl (by omega) hKc4 hKb4 hkp hDr4).mono ?_; rintro e w5 ⟨rfl, hDr5, hb5⟩)
    have hR5 := hR4.below hb5 hRp
    have hb5A := hb4.trans (hb5.mono hwp)
    go_upto_region 99 with (go_at_call 83; refine (disk_any p _ none 0 [] _ _ (by decide) hDr5).mono ?_; rw [← hd'.out]; rintro e w6 ⟨l6, fa, ga, fc, gc, rfl, hmd, hb6⟩; obtain ⟨z0, z1, zf⟩ := hR5.grow hb6)
    obtain ⟨c0, c1, K⟩ := ret2 (A := .slice l6.ba d'.blocks.length l6.bc) (B := .slice l6.wa d'.waiting.length l6.wc) z0 z1
    have hb6A := gca hb5A hb6
    refine bodyPost_ret (v := d'.val l6) (by simp [results, Try.results33, go_sem, c0, c1]) rfl ⟨l6, fa, ga, fc, gc, rfl, hmd.last K (by have := hR5.lt; omega) (by have := hb5A.size; omega) K.size, ?_⟩
    exact hb6A.trans (K.below hb6A.size (fun z hz e => by omega))

end Go.Proofs.Ythjddpkegooobaa

/-
  SSYNC: the specification's Sync and Crash. Own work.
-/
namespace Go.Proofs.Ythjddpkegooobaa
open Go.RowKit

set_option maxRecDepth 100000 in
theorem specCrash_any (d : DD) (l : DL) (ka : Option Addr) (ks : List Bool) (kc : Nat) (w : World) (hd : d.Ok) (ha : DAt w l d) (hkl : ks.length ≤ maxLen) (hk0 : BoolsAt w ka ks) : Calls Try.prog 34 #[d.val l, .slice ka ks.length kc] w (CPost (d.settle (keepOf ks)) w) := by
  have hA := gal (gal (gre w) (.cells #[.slice l.ba d.blocks.length l.bc, .slice l.wa d.waiting.length l.wc] 44)) (.cells #[.slice none 0 0, .slice none 0 0] 44)
  have hX0 := (DBox.new w d l 44).grow (gal (gre _) (.cells #[.slice none 0 0, .slice none 0 0] 44))
  have hR0 := VB.new_at (w.alloc (.cells #[.slice l.ba d.blocks.length l.bc, .slice l.wa d.waiting.length l.wc] 44)) (.slice none 0 0) (.slice none 0 0) 44 (w.heap.size + 1) (by simp)
  cases hok : d.ok with
  | false =>
    have hok' : Hid _ := hok
    clear hok
    rw [settle_no hok'.out]
    go_enter Try.func34, Try.ntmps34
    go_wp2_with (go_at_call 27; refine (specDiskOk_any d l _ hd (ha.grow hA)).mono ?_; rintro e w2 ⟨rfl, hb2⟩; rw [hok'.out]; obtain ⟨z0, z1, zf⟩ := hR0.grow hb2)
    obtain ⟨c0, c1, K⟩ := ret2 (A := .slice none 0 0) (B := .slice none 0 0) z0 z1
    refine bodyPost_ret (v := .agg #[.slice none 0 0, .slice none 0 0]) (by simp [results, Try.results34, go_sem, c0, c1]) rfl (CPost.zero ?_)
    exact (gca hA hb2).trans (K.below (gca hA hb2).size (fun z hz e => by omega))
  | true =>
    have hok' : Hid _ := hok
    clear hok
    rw [settle_yes hok'.out]
    obtain ⟨d', hd'⟩ := hid_ex (DD.mk (settleN (keepOf ks) d.blocks d.waiting d.waiting.length) [])
    rw [← hd'.out]
    go_enter Try.func34, Try.ntmps34
    go_wp2_with (first
      | (go_at_call 27; refine (specDiskOk_any d l _ hd (ha.grow hA)).mono ?_; rintro e w2 ⟨rfl, hb2⟩; rw [hok'.out]; obtain ⟨_, x0, x1⟩ := hX0.grow hb2)
      | (go_at_call 91; refine (l3settle_any d l ka ks kc _ (DD.fit hok'.out) (ha.grow (gca hA hb2)) hkl (hk0.grow (gca hA hb2))).mono ?_; rw [← hd'.out]; rintro e w3 ⟨lb, lw, ba, bc, wa, wc, rfl, hlb, hlw, hL3, hW3, hb3⟩; obtain ⟨z0, z1, zf⟩ := (hR0.grow hb2).grow hb3))
    have hball := gca (gca hA hb2) hb3
    obtain ⟨c0, c1, K⟩ := ret2 (A := .slice ba d'.blocks.length bc) (B := .slice wa d'.waiting.length wc) z0 z1
    have hRl : w.heap.size + 1 < w2.heap.size := by have := hb2.size; simp at this; omega
    have hfL := ((hL3.set (V := w.heap.size + 1) hRl 0 (.slice ba d'.blocks.length bc)).set (V := w.heap.size + 1) hRl 1 (.slice wa d'.waiting.length wc)).le (base' := w.heap.size) (by omega)
    have hfW := ((hW3.set (V := w.heap.size + 1) hRl 0 (.slice ba d'.blocks.length bc)).set (V := w.heap.size + 1) hRl 1 (.slice wa d'.waiting.length wc)).le (base' := w.heap.size) (by omega)
    refine bodyPost_ret (v := .agg #[.slice ba d'.blocks.length bc, .slice wa d'.waiting.length wc]) (by simp [results, Try.results34, go_sem, c0, c1]) rfl ⟨lb, lw, ba, bc, wa, wc, rfl, hlb, hlw, hfL, hfW, ?_⟩
    exact hball.trans (K.below hball.size (fun z hz e => by omega))

end Go.Proofs.Ythjddpkegooobaa

/-
  ISYNC: the program's Sync and Crash. Own work.
-/
namespace Go.Proofs.Ythjddpkegooobaa
open Go.RowKit

set_option maxHeartbeats 1000000 in
set_option maxRecDepth 100000 in
theorem implSync_any (d : DD) (l : DL) (w : World) (hd : d.Ok) (ha : DAt w l d) : Calls Try.prog 31 #[d.val l] w (DPost (d.settle keepAll) w) := by
  have hA := gal (gal (gre w) (.cells #[.slice l.ba d.blocks.length l.bc, .slice l.wa d.waiting.length l.wc] 44)) (.cells #[.slice none 0 0, .slice none 0 0] 44)
  have hX0 := (DBox.new w d l 44).grow (gal (gre _) (.cells #[.slice none 0 0, .slice none 0 0] 44))
  have hR0 := VB.new_at (w.alloc (.cells #[.slice l.ba d.blocks.length l.bc, .slice l.wa d.waiting.length l.wc] 44)) (.slice none 0 0) (.slice none 0 0) 44 (w.heap.size + 1) (by simp)
  cases hok : d.ok with
  | false =>
    have hok' : Hid _ := hok
    clear hok
    rw [settle_no hok'.out]
    go_enter Try.func31, Try.ntmps31
    go_wp2_with (go_at_call 26; refine (implDiskOk_any d l _ hd (ha.grow hA)).mono ?_; rintro e w2 ⟨rfl, hb2⟩; rw [hok'.out]; obtain ⟨z0, z1, zf⟩ := hR0.grow hb2)
    obtain ⟨c0, c1, K⟩ := ret2 (A := .slice none 0 0) (B := .slice none 0 0) z0 z1
    refine bodyPost_ret (v := .agg #[.slice none 0 0, .slice none 0 0]) (by simp [results, Try.results31, go_sem, c0, c1]) rfl (DPost.zero ?_)
    exact (gca hA hb2).trans (K.below (gca hA hb2).size (fun z hz e => by omega))
  | true =>
    have hok' : Hid _ := hok
    clear hok
    have hfit := DD.fit hok'.out
    rw [settle_yes hok'.out]
    obtain ⟨d', hd'⟩ := hid_ex (DD.mk (settleN keepAll d.blocks d.waiting d.waiting.length) [])
    rw [← hd'.out]
    go_enter Try.func31, Try.ntmps31
    go_upto_region 4 with (first
      | (go_at_call 26; refine (implDiskOk_any d l _ hd (ha.grow hA)).mono ?_; rintro e w2 ⟨rfl, hb2⟩; rw [hok'.out]; obtain ⟨_, x0, x1⟩ := hX0.grow hb2)
      | (go_at_call 81; refine (driveOf_any d l _ hfit (ha.grow (gca hA hb2))).mono ?_; rintro e w3 ⟨p, pa, pc, rfl, hp3, hDr, hb3⟩))
    have hR3 := (hR0.grow hb2).grow hb3
    have hb3A := gca (gca hA hb2) hb3
    have hRp : w.heap.size + 1 < p := by have := (hR0.grow hb2).lt; omega
    have hwp : w.heap.size ≤ p := by have := (gca hA hb2).size; omega
    go_upto_region 5 with (go_at_call 86; refine (sync_any p d.blocks pa pc d.waiting _ _ (by have := hfit.wl; omega) (fun x hx => ⟨(hfit.wb x hx).1, (hfit.wb x hx).2.1⟩) hDr).mono ?_; rintro e w5 ⟨rfl, hDr5, hb5⟩)
    have hR5 := hR3.below hb5 hRp
    have hb5A := hb3A.trans (hb5.mono hwp)
    go_upto_region 99 with (go_at_call 83; refine (disk_any p _ none 0 [] _ _ (by decide) hDr5).mono ?_; rw [← hd'.out]; rintro e w6 ⟨l6, fa, ga, fc, gc, rfl, hmd, hb6⟩; obtain ⟨z0, z1, zf⟩ := hR5.grow hb6)
    obtain ⟨c0, c1, K⟩ := ret2 (A := .slice l6.ba d'.blocks.length l6.bc) (B := .slice l6.wa d'.waiting.length l6.wc) z0 z1
    have hb6A := gca hb5A hb6
    refine bodyPost_ret (v := d'.val l6) (by simp [results, Try.results31, go_sem, c0, c1]) rfl ⟨l6, fa, ga, fc, gc, rfl, hmd.last K (by have := hR5.lt; omega) (by have := hb5A.size; omega) K.size, ?_⟩
    exact hb6A.trans (K.below hb6A.size (fun z hz e => by omega))

end Go.Proofs.Ythjddpkegooobaa

/-
  IPUT: the program's Put. Own work.
-/
namespace Go.Proofs.Ythjddpkegooobaa
open Go.RowKit

set_option maxHeartbeats 4000000 in
set_option maxRecDepth 100000 in
theorem implPut_any (d : DD) (l : DL) (b : Int) (ka : Option Addr) (ks : List Nat) (kc : Nat) (w : World) (hd : d.Ok) (ha : DAt w l d) (hb : I64 b) (hkl : ks.length ≤ maxLen) (hka : BytesAt w ka ks) : Calls Try.prog 28 #[d.val l, .int .i64 b, .slice ka ks.length kc] w (DPost (d.put b ks) w) := by
  have hA := gal (gal (gre w) (.cells #[.slice l.ba d.blocks.length l.bc, .slice l.wa d.waiting.length l.wc] 44)) (.cells #[.slice none 0 0, .slice none 0 0] 44)
  have hX0 := (DBox.new w d l 44).grow (gal (gre _) (.cells #[.slice none 0 0, .slice none 0 0] 44))
  have hR0 := VB.new_at (w.alloc (.cells #[.slice l.ba d.blocks.length l.bc, .slice l.wa d.waiting.length l.wc] 44)) (.slice none 0 0) (.slice none 0 0) 44 (w.heap.size + 1) (by simp)
  cases hok : d.ok with
  | false =>
    have hok' : Hid _ := hok
    clear hok
    rw [put_no1 hok'.out]
    go_enter Try.func28, Try.ntmps28
    go_wp2_with (go_at_call 26; refine (implDiskOk_any d l _ hd (ha.grow hA)).mono ?_; rintro e w2 ⟨rfl, hb2⟩; rw [hok'.out]; obtain ⟨z0, z1, zf⟩ := hR0.grow hb2)
    obtain ⟨c0, c1, K⟩ := ret2 (A := .slice none 0 0) (B := .slice none 0 0) z0 z1
    refine bodyPost_ret (v := .agg #[.slice none 0 0, .slice none 0 0]) (by simp [results, Try.results28, go_sem, c0, c1]) rfl (DPost.zero ?_)
    exact (gca hA hb2).trans (K.below (gca hA hb2).size (fun z hz e => by omega))
  | true =>
    have hok' : Hid _ := hok
    clear hok
    have hfit := DD.fit hok'.out
    have hwl := hfit.wl
    by_cases hno : wrOk ⟨b, ks⟩ = false ∨ d.waiting.length = 200
    · have hno' : Hid _ := hno
      have hz : d.put b ks = zeroD := by
        rcases hno with h | h
        · exact put_no2 h
        · exact put_no3 h
      rw [hz]
      clear hno hz
      go_enter Try.func28, Try.ntmps28
      go_wp2_with (first
        | (go_at_call 26; refine (implDiskOk_any d l _ hd (ha.grow hA)).mono ?_; rintro e w2 ⟨rfl, hb2⟩; rw [hok'.out]; obtain ⟨_, x0, x1⟩ := hX0.grow hb2)
        | (go_at_call 81; refine (driveOf_any d l _ hfit (ha.grow (gca hA hb2))).mono ?_; rintro e w4 ⟨p, pa, pc, rfl, hp4, hDr, hb4⟩)
        | (go_at_call 82; refine (drvPut_no ⟨b, ks⟩ ka kc p d.blocks pa pc d.waiting .nilFunc _ hb hkl (by omega) hno'.out hDr).mono ?_; rintro e w5 ⟨rfl, hb5⟩; obtain ⟨z0, z1, zf⟩ := ((hR0.grow hb2).grow hb4).grow hb5))
      obtain ⟨c0, c1, K⟩ := ret2 (A := .slice none 0 0) (B := .slice none 0 0) z0 z1
      refine bodyPost_ret (v := .agg #[.slice none 0 0, .slice none 0 0]) (by simp [results, Try.results28, go_sem, c0, c1]) rfl (DPost.zero ?_)
      exact (gca (gca (gca hA hb2) hb4) hb5).trans (K.below (gca (gca (gca hA hb2) hb4) hb5).size (fun z hz e => by omega))
    · obtain ⟨hwr, g3⟩ : wrOk ⟨b, ks⟩ = true ∧ d.waiting.length ≠ 200 := ⟨by cases h : wrOk ⟨b, ks⟩ with | true => rfl | false => exact absurd (Or.inl h) hno, fun h => hno (Or.inr h)⟩
      have hwr' : Hid _ := hwr
      have g3' : Hid _ := g3
      rw [put_yes hok'.out hwr g3]
      clear hwr g3 hno
      obtain ⟨d', hd'⟩ := hid_ex (DD.mk d.blocks (d.waiting ++ [⟨b, ks⟩]))
      rw [← hd'.out]
      have hn64 : Hid (ks.length = 64) := by have := hwr'.out; simp only [wrOk, Bool.and_eq_true, decide_eq_true_eq] at this; exact this.2
      have hfar0 : ∀ b off, ka = some ⟨b, off, none⟩ → b < w.heap.size := fun b off e => by
        obtain ⟨b', off', e', hc'⟩ := hka 0 (by have := hn64.out; omega)
        have h1 := World.block_lt_of_cell? _ _ hc'
        rw [e] at e'
        have h2 := congrArg (fun q => q.map Addr.block) e'
        simp at h1 h2
        omega
      go_enter Try.func28, Try.ntmps28
      go_wp2_with (first
        | (go_at_call 26; refine (implDiskOk_any d l _ hd (ha.grow hA)).mono ?_; rintro e w2 ⟨rfl, hb2⟩; rw [hok'.out]; obtain ⟨_, x0, x1⟩ := hX0.grow hb2)
        | (go_at_call 81; refine (driveOf_any d l _ hfit (ha.grow (gca hA hb2))).mono ?_; rintro e w4 ⟨p, pa, pc, rfl, hp4, hDr, hb4⟩; have hR4 := (hR0.grow hb2).grow hb4; have hb4A := gca (gca hA hb2) hb4; have hwp : w.heap.size + 1 < p := (by have := (hR0.grow hb2).lt; omega); have hfar : ∀ b off, ka = some ⟨b, off, none⟩ → b < p := (fun b off e => by have := hfar0 b off e; omega))
        | (go_at_call 82; refine (drvPut_yes ⟨b, ks⟩ ka kc p d.blocks pa pc d.waiting .nilFunc _ hb hkl (by omega) hwr'.out g3'.out (hka.grow hb4A) hfar hDr).mono ?_; rintro e w5 ⟨rfl, pa5, pc5, hDr5, hK5⟩; have hR5 := hR4.kept hK5 (by omega); have hb5A := hb4A.trans (hK5.below (B := w.heap.size) hb4A.size (fun z hz e => by omega)))
        | (go_at_call 83; refine (disk_any p _ pa5 pc5 _ _ _ (by rw [List.length_append]; simp; have := g3'.out; omega) hDr5).mono ?_; rw [← hd'.out]; rintro e w6 ⟨l6, fa, ga, fc, gc, rfl, hmd, hb6⟩; obtain ⟨z0, z1, zf⟩ := hR5.grow hb6))
      obtain ⟨c0, c1, K⟩ := ret2 (A := .slice l6.ba d'.blocks.length l6.bc) (B := .slice l6.wa d'.waiting.length l6.wc) z0 z1
      have hb6A := gca hb5A hb6
      refine bodyPost_ret (v := d'.val l6) (by simp [results, Try.results28, go_sem, c0, c1]) rfl ⟨l6, fa, ga, fc, gc, rfl, hmd.last K (by have := hR5.lt; omega) (by have := hb5A.size; omega) K.size, ?_⟩
      exact hb6A.trans (K.below hb6A.size (fun z hz e => by omega))

end Go.Proofs.Ythjddpkegooobaa
