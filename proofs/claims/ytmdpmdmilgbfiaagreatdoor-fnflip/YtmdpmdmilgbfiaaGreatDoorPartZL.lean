import Derived.Test.YtmdpmdmilgbfiaaGreatDoorPartZI
import Derived.Test.YtmdpmdmilgbfiaaGreatDoorPartZJ
import Derived.Test.YtmdpmdmilgbfiaaGreatDoorPartZK

/-
  LAWFLIP: FnFlip, walked. Own work.
-/
namespace Go.Proofs.YtmdpmdmilgbfiaaGreatDoor
open Go.RowKit

theorem shl_u8 {t : Nat} (ht : t < 8) : 2 ^ t < 256 ∧ 2 ^ t ≠ 0 := by
  have : t = 0 ∨ t = 1 ∨ t = 2 ∨ t = 3 ∨ t = 4 ∨ t = 5 ∨ t = 6 ∨ t = 7 := by omega
  rcases this with rfl | rfl | rfl | rfl | rfl | rfl | rfl | rfl <;> decide

theorem xor_u8G (a b : Nat) (ha : a < 256) (hb : b < 256) : bits .xor .u8 (a : Int) (b : Int) = ((a ^^^ b : Nat) : Int) := by
  have h := xor_u8F a b ha hb
  rw [IntKind.wrap_u8', show (b : Int) % 256 = (b : Int) by omega] at h
  exact h

set_option maxHeartbeats 8000000 in
set_option maxRecDepth 100000 in
theorem lawFlip (a a' : Option Addr) (cap cap' : Nat) (bs bs' : List Nat) (w : World) (ha : BytesAt w a bs) (ha' : BytesAt w a' bs') (hl : bs.length ≤ maxLen) (hl' : bs'.length ≤ maxLen) (hx : ∀ x, x ∈ bs → x < 256) (hx' : ∀ x, x ∈ bs' → x < 256)
    (hs : ∀ g off, a = some ⟨g, off, none⟩ → g < w.heap.size) (hs' : ∀ g off, a' = some ⟨g, off, none⟩ → g < w.heap.size)
    (hg : w.cell? ⟨0, 0, none⟩ = some (.iface 211 (.agg #[.pointer (some ⟨1, 80, none⟩)]))) :
    Calls Tryz.prog 6 #[.slice a bs.length cap, .slice a' bs'.length cap'] w fun e w' => e = .returned (.bool true) ∧ Below w.heap.size w w' := by
  have hml := hl
  have hml' := hl'
  unfold maxLen at hml hml'
  by_cases hs1 : bs.length ≤ 1048576
  case neg =>
    have hd : ((1048576 : Int) < (bs.length : Int)) := by omega
    go_enter Tryz.func6, Tryz.ntmps6
    go_wp2
    go_ret
    exact ⟨rfl, gre _⟩
  by_cases hs2 : bs'.length ≤ 1048576
  case neg =>
    have hd : ¬ ((1048576 : Int) < (bs.length : Int)) := by omega
    have hd2 : ((1048576 : Int) < (bs'.length : Int)) := by omega
    go_enter Tryz.func6, Tryz.ntmps6
    go_wp2
    go_ret
    exact ⟨rfl, gre _⟩
  have hd : ¬ ((1048576 : Int) < (bs.length : Int)) := by omega
  have hd2 : ¬ ((1048576 : Int) < (bs'.length : Int)) := by omega
  go_enter Tryz.func6, Tryz.ntmps6
  go_upto_region 4 with (go_at_call 13; refine (drawn_any a bs cap _ ha hx hl hs).mono ?_; rintro e w1 ⟨g, ga, gc, gl, rfl, hgn, hgO, hgok, hgw, hb1⟩)
  have hG2 := Five.new_at w1 g.root (.slice ga g.nodes.length gc) 32 w1.heap.size rfl
  have hb2 := gal hb1 (.cells #[.int .i64 g.root.kind, .int .i64 g.root.num, .string g.root.text, .int .i64 g.root.node, .slice ga g.nodes.length gc] 32)
  have hgw2 := hgw.kept (Kept.of_below (gal (gre w1) (.cells #[.int .i64 g.root.kind, .int .i64 g.root.num, .string g.root.text, .int .i64 g.root.node, .slice ga g.nodes.length gc] 32)) (fun _ => False)) (fun _ _ e => e) (fun _ _ _ _ e => e)
  generalize w1.alloc (.cells #[.int .i64 g.root.kind, .int .i64 g.root.num, .string g.root.text, .int .i64 g.root.node, .slice ga g.nodes.length gc] 32) = w2 at hG2 hb2 hgw2 ⊢
  generalize w1.heap.size = G at hG2 ⊢
  clear hgw hb1
  go_upto_region 5 with (go_at_call 13; refine (drawn_any a' bs' cap' _ (ha'.grow hb2) hx' hl' (fun b off e => Nat.lt_of_lt_of_le (hs' b off e) hb2.size)).mono ?_; rintro e w3 ⟨h, ha2, hc2, gl2, rfl, hhn, hhO, hhok, hhw, hb3⟩)
  have hH4 := Five.new_at w3 h.root (.slice ha2 h.nodes.length hc2) 32 w3.heap.size rfl
  have hb34 := gal hb3 (.cells #[.int .i64 h.root.kind, .int .i64 h.root.num, .string h.root.text, .int .i64 h.root.node, .slice ha2 h.nodes.length hc2] 32)
  have hhN4 := (hhw.kept (Kept.of_below (gal (gre w3) (.cells #[.int .i64 h.root.kind, .int .i64 h.root.num, .string h.root.text, .int .i64 h.root.node, .slice ha2 h.nodes.length hc2] 32)) (fun _ => False)) (fun _ _ e => e) (fun _ _ _ _ e => e)).at_
  have hgN4 := (hgw2.kept (Kept.of_below hb34 (fun _ => False)) (fun _ _ e => e) (fun _ _ _ _ e => e)).at_
  rw [hhn] at hhN4
  rw [hgn] at hgN4
  have hG4 := hG2.kept (Kept.of_below hb34 (fun _ => False)) (fun e => e)
  have hB4 := gca hb2 hb34
  generalize w3.alloc (.cells #[.int .i64 h.root.kind, .int .i64 h.root.num, .string h.root.text, .int .i64 h.root.node, .slice ha2 h.nodes.length hc2] 32) = w4 at hH4 hb34 hhN4 hgN4 hG4 hB4 ⊢
  generalize w3.heap.size = H at hH4 ⊢
  clear hhw hb3 hgw2 hG2 hb34 hb2
  obtain ⟨_, g0, g1, g2, g3, g4, _⟩ := id hG4
  obtain ⟨_, h0, h1, h2, h3, h4, _⟩ := id hH4
  obtain ⟨p, hp⟩ := hid_ex (packB g)
  obtain ⟨q, hq⟩ := hid_ex (packB h)
  by_cases hp0 : p.length = 0
  case pos =>
    have hcp : (p.length : Int) = 0 := by omega
    go_upto_region 6 with (go_at_call_of 16 (g.root.kind); refine (specPack_any ga gc g _ hgO hgN4).mono ?_; rintro e w5 ⟨oa5, oc5, rfl, _, hb5⟩; rw [← hp.out]; obtain ⟨_, h0, h1, h2, h3, h4, _⟩ := hH4.kept (Kept.of_below hb5 (fun _ => False)) (fun e => e))
    have hGx := hG4.kept (Kept.of_below hb5 (fun _ => False)) (fun e => e)
    have hgNx := hgN4.grow hb5
    have hBx := gca hB4 hb5
    clear g0 g1 g2 g3 g4 h0 h1 h2 h3 h4 hcp
    have hB : Below w5.heap.size w5 w5.drew := gdr (gre _)
    refine wp_regionU (fun u => Five u G g.root (.slice ga g.nodes.length gc)) 99 (by kernel_rfl) (hGx.kept (Kept.of_below hB (fun _ => False)) (fun e => e)) (fun _ => ?_)
    refine anyU_take (i := 0) (v := ?_) rfl (by kernel_rfl) (by kernel_rfl) (by kernel_rfl) (by kernel_rfl) (fun _ _ _ h => h) (Or.inl ⟨by rfl, ?_⟩) (hGx.kept (Kept.of_below hB (fun _ => False)) (fun e => e)) ?_
    rotate_left
    · intro u hSu; obtain ⟨_, s0, s1, s2, s3, s4, _⟩ := hSu; go_simp <;> with_reducible rfl
    simp only [Act.put, List.getElem_toArray, List.getElem_cons_zero, List.setIfInBounds_toArray, List.set_cons_zero, List.set_cons_succ]
    refine anyU_take (i := 3) (v := ?_) rfl (by kernel_rfl) (by kernel_rfl) (by kernel_rfl) (by kernel_rfl) (fun _ _ _ h => h) (Or.inl ⟨by rfl, ?_⟩) (hGx.kept (Kept.of_below hB (fun _ => False)) (fun e => e)) ?_
    rotate_left
    · intro u hSu; obtain ⟨_, s0, s1, s2, s3, s4, _⟩ := hSu; go_simp <;> with_reducible rfl
    simp only [Act.put, List.getElem_toArray, List.getElem_cons_zero, List.getElem_cons_succ, List.setIfInBounds_toArray, List.set_cons_zero, List.set_cons_succ]
    refine anyU_one (i := 1) (by kernel_rfl) rfl (fun K hK => ?_)
    go_simp
    refine (implPack_any ga gc g _ hgO (hgNx.grow hB)).mono ?_
    rintro e w7 ⟨oa7, oc7, rfl, _, hb7⟩
    rw [← hp.out]
    have hB := gca hB hb7
    refine hK.out _ _ (hGx.kept (Kept.of_below hB (fun _ => False)) (fun e => e)) ?_
    clear hK
    refine anyU_take (i := 2) (v := ?_) rfl (by kernel_rfl) (by kernel_rfl) (by kernel_rfl) (by kernel_rfl) (fun _ _ _ h => h) (Or.inl ⟨by rfl, ?_⟩) (hGx.kept (Kept.of_below hB (fun _ => False)) (fun e => e)) ?_
    rotate_left
    · intro u hSu; obtain ⟨_, s0, s1, s2, s3, s4, _⟩ := hSu; go_simp <;> with_reducible rfl
    simp only [Act.put, List.getElem_toArray, List.getElem_cons_zero, List.getElem_cons_succ, List.setIfInBounds_toArray, List.set_cons_zero, List.set_cons_succ]
    refine anyU_one (i := 4) (by kernel_rfl) rfl (fun K hK => ?_)
    go_simp
    refine (specPack_any ga gc g _ hgO (hgNx.grow hB)).mono ?_
    rintro e w8 ⟨oa8, oc8, rfl, _, hb8⟩
    rw [← hp.out]
    have hB := gca hB hb8
    refine hK.out _ _ (hGx.kept (Kept.of_below hB (fun _ => False)) (fun e => e)) ?_
    clear hK
    refine anyU_take (i := 5) (v := ?_) rfl (by kernel_rfl) (by kernel_rfl) (by kernel_rfl) (by kernel_rfl) (fun _ _ _ h => h) (Or.inl ⟨by rfl, ?_⟩) (hGx.kept (Kept.of_below hB (fun _ => False)) (fun e => e)) ?_
    rotate_left
    · intro u hSu; obtain ⟨_, s0, s1, s2, s3, s4, _⟩ := hSu; go_simp <;> with_reducible rfl
    simp only [Act.put, List.getElem_toArray, List.getElem_cons_zero, List.getElem_cons_succ, List.setIfInBounds_toArray, List.set_cons_zero, List.set_cons_succ]
    refine anyU_take (i := 6) (v := .bool true) rfl (by kernel_rfl) (by kernel_rfl) (by kernel_rfl) (by kernel_rfl) (fun _ _ _ h => h) (Or.inl ⟨by rfl, ?_⟩) (hGx.kept (Kept.of_below hB (fun _ => False)) (fun e => e)) ?_
    · intro u hSu; obtain ⟨_, s0, s1, s2, s3, s4, _⟩ := hSu; go_simp <;> first | rfl | simp
    simp only [Act.put, List.getElem_toArray, List.getElem_cons_zero, List.getElem_cons_succ, List.setIfInBounds_toArray, List.set_cons_zero, List.set_cons_succ]
    refine anyU_take (i := 7) (v := ?_) rfl (by kernel_rfl) (by kernel_rfl) (by kernel_rfl) (by kernel_rfl) (fun _ _ _ h => h) (Or.inl ⟨by rfl, ?_⟩) (hGx.kept (Kept.of_below hB (fun _ => False)) (fun e => e)) ?_
    rotate_left
    · intro u hSu; obtain ⟨_, s0, s1, s2, s3, s4, _⟩ := hSu; go_simp <;> with_reducible rfl
    simp only [Act.put, List.getElem_toArray, List.getElem_cons_zero, List.getElem_cons_succ, List.setIfInBounds_toArray, List.set_cons_zero, List.set_cons_succ]
    refine anyU_done (by kernel_rfl) ?_
    go_wp2
    go_ret
    exact ⟨rfl, gca hBx hB⟩
  have hcp : ((p.length : Int) == 0) = false := beq_eq_false_iff_ne.2 (by omega)
  by_cases hq0 : q.length = 0
  case pos =>
    have hcq : (q.length : Int) = 0 := by omega
    go_upto_region 6 with (first | (go_at_call_of 16 (g.root.kind); refine (specPack_any ga gc g _ hgO hgN4).mono ?_; rintro e w5 ⟨oa5, oc5, rfl, _, hb5⟩; rw [← hp.out]; obtain ⟨_, h0, h1, h2, h3, h4, _⟩ := hH4.kept (Kept.of_below hb5 (fun _ => False)) (fun e => e)) | (go_at_call_of 16 (h.root.kind); refine (specPack_any ha2 hc2 h _ hhO (hhN4.grow hb5)).mono ?_; rintro e w6 ⟨oa6, oc6, rfl, _, hb6⟩; rw [← hq.out]))
    have hb56 := gca hb5 hb6
    have hGx := hG4.kept (Kept.of_below hb56 (fun _ => False)) (fun e => e)
    have hgNx := hgN4.grow hb56
    have hBx := gca hB4 hb56
    clear g0 g1 g2 g3 g4 h0 h1 h2 h3 h4 hcp hcq
    have hB : Below w6.heap.size w6 w6.drew := gdr (gre _)
    refine wp_regionU (fun u => Five u G g.root (.slice ga g.nodes.length gc)) 99 (by kernel_rfl) (hGx.kept (Kept.of_below hB (fun _ => False)) (fun e => e)) (fun _ => ?_)
    refine anyU_take (i := 0) (v := ?_) rfl (by kernel_rfl) (by kernel_rfl) (by kernel_rfl) (by kernel_rfl) (fun _ _ _ h => h) (Or.inl ⟨by rfl, ?_⟩) (hGx.kept (Kept.of_below hB (fun _ => False)) (fun e => e)) ?_
    rotate_left
    · intro u hSu; obtain ⟨_, s0, s1, s2, s3, s4, _⟩ := hSu; go_simp <;> with_reducible rfl
    simp only [Act.put, List.getElem_toArray, List.getElem_cons_zero, List.setIfInBounds_toArray, List.set_cons_zero, List.set_cons_succ]
    refine anyU_take (i := 3) (v := ?_) rfl (by kernel_rfl) (by kernel_rfl) (by kernel_rfl) (by kernel_rfl) (fun _ _ _ h => h) (Or.inl ⟨by rfl, ?_⟩) (hGx.kept (Kept.of_below hB (fun _ => False)) (fun e => e)) ?_
    rotate_left
    · intro u hSu; obtain ⟨_, s0, s1, s2, s3, s4, _⟩ := hSu; go_simp <;> with_reducible rfl
    simp only [Act.put, List.getElem_toArray, List.getElem_cons_zero, List.getElem_cons_succ, List.setIfInBounds_toArray, List.set_cons_zero, List.set_cons_succ]
    refine anyU_one (i := 1) (by kernel_rfl) rfl (fun K hK => ?_)
    go_simp
    refine (implPack_any ga gc g _ hgO (hgNx.grow hB)).mono ?_
    rintro e w7 ⟨oa7, oc7, rfl, _, hb7⟩
    rw [← hp.out]
    have hB := gca hB hb7
    refine hK.out _ _ (hGx.kept (Kept.of_below hB (fun _ => False)) (fun e => e)) ?_
    clear hK
    refine anyU_take (i := 2) (v := ?_) rfl (by kernel_rfl) (by kernel_rfl) (by kernel_rfl) (by kernel_rfl) (fun _ _ _ h => h) (Or.inl ⟨by rfl, ?_⟩) (hGx.kept (Kept.of_below hB (fun _ => False)) (fun e => e)) ?_
    rotate_left
    · intro u hSu; obtain ⟨_, s0, s1, s2, s3, s4, _⟩ := hSu; go_simp <;> with_reducible rfl
    simp only [Act.put, List.getElem_toArray, List.getElem_cons_zero, List.getElem_cons_succ, List.setIfInBounds_toArray, List.set_cons_zero, List.set_cons_succ]
    refine anyU_one (i := 4) (by kernel_rfl) rfl (fun K hK => ?_)
    go_simp
    refine (specPack_any ga gc g _ hgO (hgNx.grow hB)).mono ?_
    rintro e w8 ⟨oa8, oc8, rfl, _, hb8⟩
    rw [← hp.out]
    have hB := gca hB hb8
    refine hK.out _ _ (hGx.kept (Kept.of_below hB (fun _ => False)) (fun e => e)) ?_
    clear hK
    refine anyU_take (i := 5) (v := ?_) rfl (by kernel_rfl) (by kernel_rfl) (by kernel_rfl) (by kernel_rfl) (fun _ _ _ h => h) (Or.inl ⟨by rfl, ?_⟩) (hGx.kept (Kept.of_below hB (fun _ => False)) (fun e => e)) ?_
    rotate_left
    · intro u hSu; obtain ⟨_, s0, s1, s2, s3, s4, _⟩ := hSu; go_simp <;> with_reducible rfl
    simp only [Act.put, List.getElem_toArray, List.getElem_cons_zero, List.getElem_cons_succ, List.setIfInBounds_toArray, List.set_cons_zero, List.set_cons_succ]
    refine anyU_take (i := 6) (v := .bool true) rfl (by kernel_rfl) (by kernel_rfl) (by kernel_rfl) (by kernel_rfl) (fun _ _ _ h => h) (Or.inl ⟨by rfl, ?_⟩) (hGx.kept (Kept.of_below hB (fun _ => False)) (fun e => e)) ?_
    · intro u hSu; obtain ⟨_, s0, s1, s2, s3, s4, _⟩ := hSu; go_simp <;> first | rfl | simp
    simp only [Act.put, List.getElem_toArray, List.getElem_cons_zero, List.getElem_cons_succ, List.setIfInBounds_toArray, List.set_cons_zero, List.set_cons_succ]
    refine anyU_take (i := 7) (v := ?_) rfl (by kernel_rfl) (by kernel_rfl) (by kernel_rfl) (by kernel_rfl) (fun _ _ _ h => h) (Or.inl ⟨by rfl, ?_⟩) (hGx.kept (Kept.of_below hB (fun _ => False)) (fun e => e)) ?_
    rotate_left
    · intro u hSu; obtain ⟨_, s0, s1, s2, s3, s4, _⟩ := hSu; go_simp <;> with_reducible rfl
    simp only [Act.put, List.getElem_toArray, List.getElem_cons_zero, List.getElem_cons_succ, List.setIfInBounds_toArray, List.set_cons_zero, List.set_cons_succ]
    refine anyU_done (by kernel_rfl) ?_
    go_wp2
    go_ret
    exact ⟨rfl, gca hBx hB⟩
  have hcq : ((q.length : Int) == 0) = false := beq_eq_false_iff_ne.2 (by omega)
  have hpne : packB g ≠ [] := fun e => hp0 (by rw [hp.out, e]; rfl)
  have hqne : packB h ≠ [] := fun e => hq0 (by rw [hq.out, e]; rfl)
  obtain ⟨o, T⟩ := two_keeps hgO hpne hqne
  obtain ⟨d0, hd0⟩ := hid_ex blankD
  obtain ⟨d1, hd1⟩ := hid_ex (blankD.keep g)
  obtain ⟨d2, hd2⟩ := hid_ex ((blankD.keep g).keep h)
  rw [← hd2.out] at T
  have hO0 : d0.Ok := by rw [hd0.out]; exact blank_goodK.o
  have hO1 : d1.Ok := by
    obtain ⟨_, _, n1⟩ := (KInv.zero zeroG).step (by omega) hgO hpne
    rw [hd1.out]
    exact n1.inv.gd.o
  have hK0 : ∀ (u : World) (l : DL), DAt u l d0 → NodesAt u.heap.size u ga g.nodes → Calls Tryz.prog 26 #[d0.val l, g.val ga gc] u (DPost d1 u) := fun u l h1 h2 => by
    rw [hd1.out, ← hd0.out]
    exact implKeep_any d0 l ga gc g u hO0 h1 hgO h2
  have hK1 : ∀ (u : World) (l : DL), DAt u l d1 → NodesAt u.heap.size u ha2 h.nodes → Calls Tryz.prog 26 #[d1.val l, h.val ha2 hc2] u (DPost d2 u) := fun u l h1 h2 => by
    rw [hd2.out, ← hd1.out]
    exact implKeep_any d1 l ha2 hc2 h u hO1 h1 hhO h2
  have hKb : ∀ (u : World), Calls Tryz.prog 25 #[] u (DPost d0 u) := fun u => by
    rw [hd0.out]
    exact implBlank_any u
  go_upto_region 7 with (first | (go_at_call_of 16 (g.root.kind); refine (specPack_any ga gc g _ hgO hgN4).mono ?_; rintro e w5 ⟨oa5, oc5, rfl, _, hb5⟩; rw [← hp.out]; obtain ⟨_, h0, h1, h2, h3, h4, _⟩ := hH4.kept (Kept.of_below hb5 (fun _ => False)) (fun e => e)) | (go_at_call_of 16 (h.root.kind); refine (specPack_any ha2 hc2 h _ hhO (hhN4.grow hb5)).mono ?_; rintro e w6 ⟨oa6, oc6, rfl, _, hb6⟩; rw [← hq.out]))
  have hb56 := gca hb5 hb6
  have hG6 := hG4.kept (Kept.of_below hb56 (fun _ => False)) (fun e => e)
  have hH6 := hH4.kept (Kept.of_below hb56 (fun _ => False)) (fun e => e)
  have hgN6 := hgN4.grow hb56
  have hhN6 := hhN4.grow hb56
  have hB6 := gca hB4 hb56
  clear g0 g1 g2 g3 g4 h0 h1 h2 h3 h4 hcp hcq hb56 hb5 hb6 hG4 hH4 hgN4 hhN4 hB4
  go_cut [7] from 11 (fun v wc => ∃ (D : Nat) (l : DL) (lo hi : Nat) (fa fb : Nat → Option Addr) (fc fe : Nat → Nat), v = .pointer (some ⟨D, 0, none⟩) ∧ VB wc D (.slice l.ba d2.blocks.length l.bc) (.slice l.wa d2.waiting.length l.wc) ∧ MD wc lo hi l d2 fa fb fc fe ∧ hi ≤ wc.heap.size ∧ (hi ≤ D ∨ D < lo) ∧ w6.heap.size ≤ lo ∧ w6.heap.size ≤ D ∧ Below w6.heap.size w6 wc)
  case first =>
    have hB : Below w6.heap.size w6 w6.drew := gdr (gre _)
    refine wp_regionU (fun u => Five u G g.root (.slice ga g.nodes.length gc) ∧ Five u H h.root (.slice ha2 h.nodes.length hc2)) 6 (by kernel_rfl) ⟨hG6.kept (Kept.of_below hB (fun _ => False)) (fun e => e), hH6.kept (Kept.of_below hB (fun _ => False)) (fun e => e)⟩ (fun _ => ?_)
    generalize w6.drew = w7 at hB ⊢
    refine anyU_take (i := 1) (v := ?_) rfl (by kernel_rfl) (by kernel_rfl) (by kernel_rfl) (by kernel_rfl) (fun _ _ _ h => h) (Or.inl ⟨by rfl, ?_⟩) ⟨hG6.kept (Kept.of_below hB (fun _ => False)) (fun e => e), hH6.kept (Kept.of_below hB (fun _ => False)) (fun e => e)⟩ ?_
    rotate_left
    · intro u hSu; obtain ⟨⟨_, s0, s1, s2, s3, s4, _⟩, ⟨_, t0, t1, t2, t3, t4, _⟩⟩ := hSu; go_simp <;> with_reducible rfl
    simp only [Act.put, List.getElem_toArray, List.getElem_cons_zero, List.getElem_cons_succ, List.setIfInBounds_toArray, List.set_cons_zero, List.set_cons_succ]
    refine anyU_take (i := 3) (v := ?_) rfl (by kernel_rfl) (by kernel_rfl) (by kernel_rfl) (by kernel_rfl) (fun _ _ _ h => h) (Or.inl ⟨by rfl, ?_⟩) ⟨hG6.kept (Kept.of_below hB (fun _ => False)) (fun e => e), hH6.kept (Kept.of_below hB (fun _ => False)) (fun e => e)⟩ ?_
    rotate_left
    · intro u hSu; obtain ⟨⟨_, s0, s1, s2, s3, s4, _⟩, ⟨_, t0, t1, t2, t3, t4, _⟩⟩ := hSu; go_simp <;> with_reducible rfl
    simp only [Act.put, List.getElem_toArray, List.getElem_cons_zero, List.getElem_cons_succ, List.setIfInBounds_toArray, List.set_cons_zero, List.set_cons_succ]
    refine anyU_pair (i := 0) (j := 5) (by kernel_rfl) rfl rfl (fun K hK => ?_) (fun K hK => ?_)
    · skip
      go_simp
      refine (hKb _).mono ?_
      rintro e w8 ⟨l0, fa0, fb0, fc0, fe0, rfl, hM0, hbN⟩
      have hB := gca hB hbN
      refine hK.out _ _ ⟨hG6.kept (Kept.of_below hB (fun _ => False)) (fun e => e), hH6.kept (Kept.of_below hB (fun _ => False)) (fun e => e)⟩ ?_
      clear hK
      refine anyU_pair (i := 2) (j := 5) (by kernel_rfl) rfl rfl (fun K hK => ?_) (fun K hK => ?_)
      · skip
        go_simp
        refine (hK0 _ l0 hM0.at_ (hgN6.grow hB)).mono ?_
        rintro e w9 ⟨l1, fa1, fb1, fc1, fe1, rfl, hM1, hbN⟩
        have hB := gca hB hbN
        refine hK.out _ _ ⟨hG6.kept (Kept.of_below hB (fun _ => False)) (fun e => e), hH6.kept (Kept.of_below hB (fun _ => False)) (fun e => e)⟩ ?_
        clear hK
        refine anyU_pair (i := 4) (j := 5) (by kernel_rfl) rfl rfl (fun K hK => ?_) (fun K hK => ?_)
        · skip
          go_simp
          refine (hK1 _ l1 hM1.at_ (hhN6.grow hB)).mono ?_
          rintro e w10 ⟨l2, fa2, fb2, fc2, fe2, rfl, hM2, hbN⟩
          have hlo2 := hB.size
          have hhi : w10.heap.size ≤ w10.heap.size := Nat.le_refl _
          have hB := gca hB hbN
          obtain ⟨lo2, hlo⟩ := hid_ex w9.heap.size
          obtain ⟨hi2, hhe⟩ := hid_ex w10.heap.size
          rw [← hlo.out, ← hhe.out] at hM2
          rw [← hlo.out] at hlo2
          have hhi : hi2 ≤ _ := Nat.le_of_eq hhe.out
          refine hK.out _ _ ⟨hG6.kept (Kept.of_below hB (fun _ => False)) (fun e => e), hH6.kept (Kept.of_below hB (fun _ => False)) (fun e => e)⟩ ?_
          clear hK
          refine anyU_one (i := 5) (by kernel_rfl) rfl (fun K hK => ?_)
          go_simp
          obtain ⟨w11, hwa⟩ : ∃ u, Hid (u = w10.alloc (.cells #[.slice none 0 0, .slice none 0 0] 46)) := ⟨_, rfl⟩
          obtain ⟨D, hD⟩ := hid_ex w10.heap.size
          rw [← hwa.out, ← hD.out]
          have hbA : Below w10.heap.size w10 w11 := by rw [hwa.out]; exact gal (gre _) _
          have hvb : VB w11 D (.slice none 0 0) (.slice none 0 0) := by rw [hwa.out, hD.out]; exact VB.new _ _ _ _
          have hDw : w6.heap.size ≤ D := by rw [hD.out]; exact hB.size
          have hB := gca hB hbA
          have hM2 := hM2.grow hbA
          have hrl : hi2 ≤ D ∨ D < lo2 := Or.inl (by rw [hD.out]; exact hhi)
          have hhi := Nat.le_trans hhi hbA.size
          refine hK.out _ _ ⟨hG6.kept (Kept.of_below hB (fun _ => False)) (fun e => e), hH6.kept (Kept.of_below hB (fun _ => False)) (fun e => e)⟩ ?_
          clear hK
          obtain ⟨z0, z1, zf⟩ := id hvb
          refine anyU_last (by kernel_rfl) rfl (by kernel_rfl) (fun K hK => ?_)
          go_simp
          refine hK.out _ _ ?_
          clear hK
          have hKP : Kept (fun z => z = D) w11 ((w11.setCell ⟨D, 0, none⟩ (.slice l2.ba d2.blocks.length l2.bc)).setCell ⟨D, 1, none⟩ (.slice l2.wa d2.waiting.length l2.wc)) := ((Kept.refl (fun z => z = D) w11).set (a := ⟨D, 0, none⟩) (fun _ => rfl) _).set (a := ⟨D, 1, none⟩) (fun _ => rfl) _
          have hv5 := (hvb.set0 (.slice l2.ba d2.blocks.length l2.bc)).set1 (.slice l2.wa d2.waiting.length l2.wc)
          have hM5 := hM2.out hKP (fun b hb1 hb2 e => by omega)
          have hB5 : Below w6.heap.size w6 ((w11.setCell ⟨D, 0, none⟩ (.slice l2.ba d2.blocks.length l2.bc)).setCell ⟨D, 1, none⟩ (.slice l2.wa d2.waiting.length l2.wc)) := hB.trans (hKP.below hB.size (fun z hz e => by omega))
          have hh5 := Nat.le_trans hhi hKP.size
          generalize ((w11.setCell ⟨D, 0, none⟩ (.slice l2.ba d2.blocks.length l2.bc)).setCell ⟨D, 1, none⟩ (.slice l2.wa d2.waiting.length l2.wc)) = wz at hv5 hM5 hB5 hh5 ⊢
          go_wp2
          go_meet
          case rel => exact ⟨D, l2, lo2, hi2, fa2, fb2, fc2, fe2, rfl, hv5, hM5, hh5, hrl, hlo2, hDw, hB5⟩
        · skip
          go_simp
          obtain ⟨w10, hwa⟩ : ∃ u, Hid (u = w9.alloc (.cells #[.slice none 0 0, .slice none 0 0] 46)) := ⟨_, rfl⟩
          obtain ⟨D, hD⟩ := hid_ex w9.heap.size
          rw [← hwa.out, ← hD.out]
          have hbA : Below w9.heap.size w9 w10 := by rw [hwa.out]; exact gal (gre _) _
          have hvb : VB w10 D (.slice none 0 0) (.slice none 0 0) := by rw [hwa.out, hD.out]; exact VB.new _ _ _ _
          have hDw : w6.heap.size ≤ D := by rw [hD.out]; exact hB.size
          have hB := gca hB hbA
          have hM1 := hM1.grow hbA
          refine hK.out _ _ ⟨hG6.kept (Kept.of_below hB (fun _ => False)) (fun e => e), hH6.kept (Kept.of_below hB (fun _ => False)) (fun e => e)⟩ ?_
          clear hK
          refine anyU_one (i := 4) (by kernel_rfl) rfl (fun K hK => ?_)
          go_simp
          have hrl := hvb.lt
          refine (hK1 _ l1 hM1.at_ (hhN6.grow hB)).mono ?_
          rintro e w11 ⟨l2, fa2, fb2, fc2, fe2, rfl, hM2, hbN⟩
          have hlo2 := hB.size
          have hhi : w11.heap.size ≤ w11.heap.size := Nat.le_refl _
          have hvb := hvb.grow hbN
          have hB := gca hB hbN
          obtain ⟨lo2, hlo⟩ := hid_ex w10.heap.size
          obtain ⟨hi2, hhe⟩ := hid_ex w11.heap.size
          rw [← hlo.out, ← hhe.out] at hM2
          rw [← hlo.out] at hlo2
          rw [← hlo.out] at hrl
          have hrl := Or.inr (a := hi2 ≤ D) hrl
          have hhi : hi2 ≤ _ := Nat.le_of_eq hhe.out
          refine hK.out _ _ ⟨hG6.kept (Kept.of_below hB (fun _ => False)) (fun e => e), hH6.kept (Kept.of_below hB (fun _ => False)) (fun e => e)⟩ ?_
          clear hK
          obtain ⟨z0, z1, zf⟩ := id hvb
          refine anyU_last (by kernel_rfl) rfl (by kernel_rfl) (fun K hK => ?_)
          go_simp
          refine hK.out _ _ ?_
          clear hK
          have hKP : Kept (fun z => z = D) w11 ((w11.setCell ⟨D, 0, none⟩ (.slice l2.ba d2.blocks.length l2.bc)).setCell ⟨D, 1, none⟩ (.slice l2.wa d2.waiting.length l2.wc)) := ((Kept.refl (fun z => z = D) w11).set (a := ⟨D, 0, none⟩) (fun _ => rfl) _).set (a := ⟨D, 1, none⟩) (fun _ => rfl) _
          have hv5 := (hvb.set0 (.slice l2.ba d2.blocks.length l2.bc)).set1 (.slice l2.wa d2.waiting.length l2.wc)
          have hM5 := hM2.out hKP (fun b hb1 hb2 e => by omega)
          have hB5 : Below w6.heap.size w6 ((w11.setCell ⟨D, 0, none⟩ (.slice l2.ba d2.blocks.length l2.bc)).setCell ⟨D, 1, none⟩ (.slice l2.wa d2.waiting.length l2.wc)) := hB.trans (hKP.below hB.size (fun z hz e => by omega))
          have hh5 := Nat.le_trans hhi hKP.size
          generalize ((w11.setCell ⟨D, 0, none⟩ (.slice l2.ba d2.blocks.length l2.bc)).setCell ⟨D, 1, none⟩ (.slice l2.wa d2.waiting.length l2.wc)) = wz at hv5 hM5 hB5 hh5 ⊢
          go_wp2
          go_meet
          case rel => exact ⟨D, l2, lo2, hi2, fa2, fb2, fc2, fe2, rfl, hv5, hM5, hh5, hrl, hlo2, hDw, hB5⟩
      · skip
        go_simp
        obtain ⟨w9, hwa⟩ : ∃ u, Hid (u = w8.alloc (.cells #[.slice none 0 0, .slice none 0 0] 46)) := ⟨_, rfl⟩
        obtain ⟨D, hD⟩ := hid_ex w8.heap.size
        rw [← hwa.out, ← hD.out]
        have hbA : Below w8.heap.size w8 w9 := by rw [hwa.out]; exact gal (gre _) _
        have hvb : VB w9 D (.slice none 0 0) (.slice none 0 0) := by rw [hwa.out, hD.out]; exact VB.new _ _ _ _
        have hDw : w6.heap.size ≤ D := by rw [hD.out]; exact hB.size
        have hB := gca hB hbA
        have hM0 := hM0.grow hbA
        refine hK.out _ _ ⟨hG6.kept (Kept.of_below hB (fun _ => False)) (fun e => e), hH6.kept (Kept.of_below hB (fun _ => False)) (fun e => e)⟩ ?_
        clear hK
        refine anyU_one (i := 2) (by kernel_rfl) rfl (fun K hK => ?_)
        go_simp
        refine (hK0 _ l0 hM0.at_ (hgN6.grow hB)).mono ?_
        rintro e w10 ⟨l1, fa1, fb1, fc1, fe1, rfl, hM1, hbN⟩
        have hvb := hvb.grow hbN
        have hB := gca hB hbN
        refine hK.out _ _ ⟨hG6.kept (Kept.of_below hB (fun _ => False)) (fun e => e), hH6.kept (Kept.of_below hB (fun _ => False)) (fun e => e)⟩ ?_
        clear hK
        refine anyU_one (i := 4) (by kernel_rfl) rfl (fun K hK => ?_)
        go_simp
        have hrl := hvb.lt
        refine (hK1 _ l1 hM1.at_ (hhN6.grow hB)).mono ?_
        rintro e w11 ⟨l2, fa2, fb2, fc2, fe2, rfl, hM2, hbN⟩
        have hlo2 := hB.size
        have hhi : w11.heap.size ≤ w11.heap.size := Nat.le_refl _
        have hvb := hvb.grow hbN
        have hB := gca hB hbN
        obtain ⟨lo2, hlo⟩ := hid_ex w10.heap.size
        obtain ⟨hi2, hhe⟩ := hid_ex w11.heap.size
        rw [← hlo.out, ← hhe.out] at hM2
        rw [← hlo.out] at hlo2
        rw [← hlo.out] at hrl
        have hrl := Or.inr (a := hi2 ≤ D) hrl
        have hhi : hi2 ≤ _ := Nat.le_of_eq hhe.out
        refine hK.out _ _ ⟨hG6.kept (Kept.of_below hB (fun _ => False)) (fun e => e), hH6.kept (Kept.of_below hB (fun _ => False)) (fun e => e)⟩ ?_
        clear hK
        obtain ⟨z0, z1, zf⟩ := id hvb
        refine anyU_last (by kernel_rfl) rfl (by kernel_rfl) (fun K hK => ?_)
        go_simp
        refine hK.out _ _ ?_
        clear hK
        have hKP : Kept (fun z => z = D) w11 ((w11.setCell ⟨D, 0, none⟩ (.slice l2.ba d2.blocks.length l2.bc)).setCell ⟨D, 1, none⟩ (.slice l2.wa d2.waiting.length l2.wc)) := ((Kept.refl (fun z => z = D) w11).set (a := ⟨D, 0, none⟩) (fun _ => rfl) _).set (a := ⟨D, 1, none⟩) (fun _ => rfl) _
        have hv5 := (hvb.set0 (.slice l2.ba d2.blocks.length l2.bc)).set1 (.slice l2.wa d2.waiting.length l2.wc)
        have hM5 := hM2.out hKP (fun b hb1 hb2 e => by omega)
        have hB5 : Below w6.heap.size w6 ((w11.setCell ⟨D, 0, none⟩ (.slice l2.ba d2.blocks.length l2.bc)).setCell ⟨D, 1, none⟩ (.slice l2.wa d2.waiting.length l2.wc)) := hB.trans (hKP.below hB.size (fun z hz e => by omega))
        have hh5 := Nat.le_trans hhi hKP.size
        generalize ((w11.setCell ⟨D, 0, none⟩ (.slice l2.ba d2.blocks.length l2.bc)).setCell ⟨D, 1, none⟩ (.slice l2.wa d2.waiting.length l2.wc)) = wz at hv5 hM5 hB5 hh5 ⊢
        go_wp2
        go_meet
        case rel => exact ⟨D, l2, lo2, hi2, fa2, fb2, fc2, fe2, rfl, hv5, hM5, hh5, hrl, hlo2, hDw, hB5⟩
    · skip
      go_simp
      obtain ⟨w8, hwa⟩ : ∃ u, Hid (u = w7.alloc (.cells #[.slice none 0 0, .slice none 0 0] 46)) := ⟨_, rfl⟩
      obtain ⟨D, hD⟩ := hid_ex w7.heap.size
      rw [← hwa.out, ← hD.out]
      have hbA : Below w7.heap.size w7 w8 := by rw [hwa.out]; exact gal (gre _) _
      have hvb : VB w8 D (.slice none 0 0) (.slice none 0 0) := by rw [hwa.out, hD.out]; exact VB.new _ _ _ _
      have hDw : w6.heap.size ≤ D := by rw [hD.out]; exact hB.size
      have hB := gca hB hbA
      refine hK.out _ _ ⟨hG6.kept (Kept.of_below hB (fun _ => False)) (fun e => e), hH6.kept (Kept.of_below hB (fun _ => False)) (fun e => e)⟩ ?_
      clear hK
      refine anyU_one (i := 0) (by kernel_rfl) rfl (fun K hK => ?_)
      go_simp
      refine (hKb _).mono ?_
      rintro e w9 ⟨l0, fa0, fb0, fc0, fe0, rfl, hM0, hbN⟩
      have hvb := hvb.grow hbN
      have hB := gca hB hbN
      refine hK.out _ _ ⟨hG6.kept (Kept.of_below hB (fun _ => False)) (fun e => e), hH6.kept (Kept.of_below hB (fun _ => False)) (fun e => e)⟩ ?_
      clear hK
      refine anyU_one (i := 2) (by kernel_rfl) rfl (fun K hK => ?_)
      go_simp
      refine (hK0 _ l0 hM0.at_ (hgN6.grow hB)).mono ?_
      rintro e w10 ⟨l1, fa1, fb1, fc1, fe1, rfl, hM1, hbN⟩
      have hvb := hvb.grow hbN
      have hB := gca hB hbN
      refine hK.out _ _ ⟨hG6.kept (Kept.of_below hB (fun _ => False)) (fun e => e), hH6.kept (Kept.of_below hB (fun _ => False)) (fun e => e)⟩ ?_
      clear hK
      refine anyU_one (i := 4) (by kernel_rfl) rfl (fun K hK => ?_)
      go_simp
      have hrl := hvb.lt
      refine (hK1 _ l1 hM1.at_ (hhN6.grow hB)).mono ?_
      rintro e w11 ⟨l2, fa2, fb2, fc2, fe2, rfl, hM2, hbN⟩
      have hlo2 := hB.size
      have hhi : w11.heap.size ≤ w11.heap.size := Nat.le_refl _
      have hvb := hvb.grow hbN
      have hB := gca hB hbN
      obtain ⟨lo2, hlo⟩ := hid_ex w10.heap.size
      obtain ⟨hi2, hhe⟩ := hid_ex w11.heap.size
      rw [← hlo.out, ← hhe.out] at hM2
      rw [← hlo.out] at hlo2
      rw [← hlo.out] at hrl
      have hrl := Or.inr (a := hi2 ≤ D) hrl
      have hhi : hi2 ≤ _ := Nat.le_of_eq hhe.out
      refine hK.out _ _ ⟨hG6.kept (Kept.of_below hB (fun _ => False)) (fun e => e), hH6.kept (Kept.of_below hB (fun _ => False)) (fun e => e)⟩ ?_
      clear hK
      obtain ⟨z0, z1, zf⟩ := id hvb
      refine anyU_last (by kernel_rfl) rfl (by kernel_rfl) (fun K hK => ?_)
      go_simp
      refine hK.out _ _ ?_
      clear hK
      have hKP : Kept (fun z => z = D) w11 ((w11.setCell ⟨D, 0, none⟩ (.slice l2.ba d2.blocks.length l2.bc)).setCell ⟨D, 1, none⟩ (.slice l2.wa d2.waiting.length l2.wc)) := ((Kept.refl (fun z => z = D) w11).set (a := ⟨D, 0, none⟩) (fun _ => rfl) _).set (a := ⟨D, 1, none⟩) (fun _ => rfl) _
      have hv5 := (hvb.set0 (.slice l2.ba d2.blocks.length l2.bc)).set1 (.slice l2.wa d2.waiting.length l2.wc)
      have hM5 := hM2.out hKP (fun b hb1 hb2 e => by omega)
      have hB5 : Below w6.heap.size w6 ((w11.setCell ⟨D, 0, none⟩ (.slice l2.ba d2.blocks.length l2.bc)).setCell ⟨D, 1, none⟩ (.slice l2.wa d2.waiting.length l2.wc)) := hB.trans (hKP.below hB.size (fun z hz e => by omega))
      have hh5 := Nat.le_trans hhi hKP.size
      generalize ((w11.setCell ⟨D, 0, none⟩ (.slice l2.ba d2.blocks.length l2.bc)).setCell ⟨D, 1, none⟩ (.slice l2.wa d2.waiting.length l2.wc)) = wz at hv5 hM5 hB5 hh5 ⊢
      go_wp2
      go_meet
      case rel => exact ⟨D, l2, lo2, hi2, fa2, fb2, fc2, fe2, rfl, hv5, hM5, hh5, hrl, hlo2, hDw, hB5⟩
  obtain ⟨D, l, lo, hi, fa, fb, fc, fe, rfl, hV7, hM7, hhi7, hrl, hlo, hDw, hb67⟩ := hcut
  generalize wc = w7 at hV7 hM7 hhi7 hb67 ⊢
  clear hH6 hhN6 hK0 hK1 hKb hO0 hO1 hd0 hd1 hd2 hDw
  have hnwc := implNewest_any d2 l w7 T.gd.o hM7.at_
  rw [T.k, ← hq.out] at hnwc
  have hok := T.gd.ok
  have hol := T.lt
  have hqm : q.length ≤ 4096 := by rw [hq.out]; exact packB_lenK h
  obtain ⟨v0, v1, _⟩ := id hV7
  go_upto_region 9 with (go_at_call 27; refine hnwc.mono ?_; rintro e w8 ⟨ka, kc, rfl, _, _, hb8⟩)
  have hV9 := V4.new_at w8 (.bool true) (.int .i64 2) (.int .i64 (o : Int)) (.slice ka q.length kc) 62 w8.heap.size rfl
  have hb9 := gal hb8 (.cells #[.bool true, .int .i64 2, .int .i64 (o : Int), .slice ka q.length kc] 62)
  generalize w8.alloc (.cells #[.bool true, .int .i64 2, .int .i64 (o : Int), .slice ka q.length kc] 62) = w9 at hV9 hb9 ⊢
  have hKP7 : w7.heap.size ≤ w8.heap.size := hb8.size
  generalize w8.heap.size = KP at hV9 hKP7 ⊢
  have hV7 := hV7.grow hb9
  have hM7 := hM7.grow hb9
  have hhi7 := Nat.le_trans hhi7 hb9.size
  have hb67 := gca hb67 hb9
  clear v0 v1 hb8 hnwc hb9
  obtain ⟨v0, v1, _⟩ := id hV7
  obtain ⟨_, k0, k1, k2, k3, _⟩ := id hV9
  have n1 : ¬ ((o : Int) < 0) := by omega
  have n2 : ¬ ((1 : Int) < (o : Int)) := by omega
  have n3 : ¬ ((4096 : Int) < (q.length : Int)) := by omega
  go_upto_region 11 with (go_at_call 30; refine (specDiskOk_any d2 l _ T.gd.o hM7.at_).mono ?_; rintro e w10 ⟨rfl, hb10⟩; rw [hok])
  have hV9 := hV9.grow hb10
  have hV7 := hV7.grow hb10
  have hM7 := hM7.grow hb10
  have hhi7 := Nat.le_trans hhi7 hb10.size
  have hb67 := gca hb67 hb10
  clear v0 v1 k0 k1 k2 k3 n1 n2 n3 hb10
  obtain ⟨n36, h36⟩ := hid_ex (q.length + 36)
  have hB : Below w10.heap.size w10 w10.drew := gdr (gre _)
  refine wp_regionU (fun u => V4 u KP (.bool true) (.int .i64 2) (.int .i64 (o : Int)) (.slice ka q.length kc)) 99 (by kernel_rfl) (hV9.grow hB) (fun _ => ?_)
  refine anyU_take (i := 0) (v := ?_) rfl (by kernel_rfl) (by kernel_rfl) (by kernel_rfl) (by kernel_rfl) (fun _ _ _ h => h) (Or.inl ⟨by rfl, ?_⟩) (hV9.grow hB) ?_
  rotate_left
  · intro u hSu; obtain ⟨_, k0, k1, k2, k3, _⟩ := hSu; go_simp <;> with_reducible rfl
  simp only [Act.put, List.getElem_toArray, List.getElem_cons_zero, List.setIfInBounds_toArray, List.set_cons_zero, List.set_cons_succ]
  refine anyU_take (i := 2) (v := ?_) rfl (by kernel_rfl) (by kernel_rfl) (by kernel_rfl) (by kernel_rfl) (fun _ _ _ h => h) (Or.inl ⟨by rfl, ?_⟩) (hV9.grow hB) ?_
  rotate_left
  · intro u hSu; obtain ⟨_, k0, k1, k2, k3, _⟩ := hSu; go_simp <;> with_reducible rfl
  simp only [Act.put, List.getElem_toArray, List.getElem_cons_zero, List.getElem_cons_succ, List.setIfInBounds_toArray, List.set_cons_zero, List.set_cons_succ]
  refine anyU_take (i := 6) (v := ?_) rfl (by kernel_rfl) (by kernel_rfl) (by kernel_rfl) (by kernel_rfl) (fun _ _ _ h => h) (Or.inl ⟨by rfl, ?_⟩) (hV9.grow hB) ?_
  rotate_left
  · intro u hSu; obtain ⟨_, k0, k1, k2, k3, _⟩ := hSu; go_simp <;> with_reducible rfl
  simp only [Act.put, List.getElem_toArray, List.getElem_cons_zero, List.getElem_cons_succ, List.setIfInBounds_toArray, List.set_cons_zero, List.set_cons_succ]
  refine anyU_take (i := 7) (v := ?_) rfl (by kernel_rfl) (by kernel_rfl) (by kernel_rfl) (by kernel_rfl) (fun _ _ _ h => h) (Or.inl ⟨by rfl, ?_⟩) (hV9.grow hB) ?_
  rotate_left
  · intro u hSu; obtain ⟨_, k0, k1, k2, k3, _⟩ := hSu; go_simp <;> with_reducible rfl
  simp only [Act.put, List.getElem_toArray, List.getElem_cons_zero, List.getElem_cons_succ, List.setIfInBounds_toArray, List.set_cons_zero, List.set_cons_succ]
  refine anyU_take (i := 8) (v := ?_) rfl (by kernel_rfl) (by kernel_rfl) (by kernel_rfl) (by kernel_rfl) (fun _ _ _ h => h) (Or.inl ⟨by rfl, ?_⟩) (hV9.grow hB) ?_
  rotate_left
  · intro u hSu; obtain ⟨_, k0, k1, k2, k3, _⟩ := hSu; go_simp <;> with_reducible rfl
  simp only [Act.put, List.getElem_toArray, List.getElem_cons_zero, List.getElem_cons_succ, List.setIfInBounds_toArray, List.set_cons_zero, List.set_cons_succ]
  refine anyU_take (i := 9) (v := .int .i64 (n36 : Int)) rfl (by kernel_rfl) (by kernel_rfl) (by kernel_rfl) (by kernel_rfl) (fun _ _ _ h => h) (Or.inl ⟨by rfl, ?_⟩) (hV9.grow hB) ?_
  · intro u hSu; obtain ⟨_, k0, k1, k2, k3, _⟩ := hSu; have := h36.out; go_simp <;> (rw [IntKind.wrap_i64]; omega)
  simp only [Act.put, List.getElem_toArray, List.getElem_cons_zero, List.getElem_cons_succ, List.setIfInBounds_toArray, List.set_cons_zero, List.set_cons_succ]
  refine anyU_one (i := 1) (by kernel_rfl) rfl (fun K hK => ?_)
  go_simp
  refine (wByte_any a' bs' cap' 0 _ (ha'.grow (gca (gca hB6 hb67) hB)) hl' hx').mono ?_
  rintro e w11 ⟨x0, hx0, rfl, hb11⟩
  have hB := gca hB hb11
  refine hK.out _ _ (hV9.grow hB) ?_
  clear hK
  refine anyU_one (i := 3) (by kernel_rfl) rfl (fun K hK => ?_)
  go_simp
  refine (wByte_any a' bs' cap' 1 _ (ha'.grow (gca (gca hB6 hb67) hB)) hl' hx').mono ?_
  rintro e w12 ⟨x1, hx1, rfl, hb12⟩
  have hB := gca hB hb12
  obtain ⟨z1, hz1⟩ := hid_ex (256 * x1)
  obtain ⟨z, hz⟩ := hid_ex (x0 + z1)
  obtain ⟨t, ht⟩ := hid_ex (z % n36)
  have htl : t < n36 := by rw [ht.out]; exact Nat.mod_lt _ (by have := h36.out; omega)
  have hrm : Int.tmod (z : Int) (n36 : Int) = (t : Int) := by rw [ht.out]; exact (Int.ofNat_tmod z n36).symm
  have hn36 : ¬ ((n36 : Int) = 0) := by have := h36.out; omega
  refine hK.out _ _ (hV9.grow hB) ?_
  clear hK
  refine anyU_take (i := 4) (v := .int .i64 (z1 : Int)) rfl (by kernel_rfl) (by kernel_rfl) (by kernel_rfl) (by kernel_rfl) (fun _ _ _ h => h) (Or.inl ⟨by rfl, ?_⟩) (hV9.grow hB) ?_
  · intro u hSu; obtain ⟨_, k0, k1, k2, k3, _⟩ := hSu; have := hz1.out; go_simp <;> (rw [IntKind.wrap_i64]; omega)
  simp only [Act.put, List.getElem_toArray, List.getElem_cons_zero, List.getElem_cons_succ, List.setIfInBounds_toArray, List.set_cons_zero, List.set_cons_succ]
  refine anyU_take (i := 5) (v := .int .i64 (z : Int)) rfl (by kernel_rfl) (by kernel_rfl) (by kernel_rfl) (by kernel_rfl) (fun _ _ _ h => h) (Or.inl ⟨by rfl, ?_⟩) (hV9.grow hB) ?_
  · intro u hSu; obtain ⟨_, k0, k1, k2, k3, _⟩ := hSu; have := hz1.out; have := hz.out; go_simp <;> (rw [IntKind.wrap_i64]; omega)
  simp only [Act.put, List.getElem_toArray, List.getElem_cons_zero, List.getElem_cons_succ, List.setIfInBounds_toArray, List.set_cons_zero, List.set_cons_succ]
  refine anyU_take (i := 10) (v := .int .i64 (t : Int)) rfl (by kernel_rfl) (by kernel_rfl) (by kernel_rfl) (by kernel_rfl) (fun _ _ _ h => h) (Or.inl ⟨by rfl, ?_⟩) (hV9.grow hB) ?_
  · intro u hSu; obtain ⟨_, k0, k1, k2, k3, _⟩ := hSu; go_simp <;> (have := h36.out; omega)
  simp only [Act.put, List.getElem_toArray, List.getElem_cons_zero, List.getElem_cons_succ, List.setIfInBounds_toArray, List.set_cons_zero, List.set_cons_succ]
  refine anyU_take (i := 11) (v := ?_) rfl (by kernel_rfl) (by kernel_rfl) (by kernel_rfl) (by kernel_rfl) (fun _ _ _ h => h) (Or.inl ⟨by rfl, ?_⟩) (hV9.grow hB) ?_
  rotate_left
  · intro u hSu; obtain ⟨_, k0, k1, k2, k3, _⟩ := hSu; go_simp <;> with_reducible rfl
  simp only [Act.put, List.getElem_toArray, List.getElem_cons_zero, List.getElem_cons_succ, List.setIfInBounds_toArray, List.set_cons_zero, List.set_cons_succ]
  refine anyU_done (by kernel_rfl) ?_
  have hV9 := hV9.grow hB
  have hV7 := hV7.grow hB
  have hM7 := hM7.grow hB
  have hhi7 := Nat.le_trans hhi7 hB.size
  have hb67 := gca hb67 hB
  clear hB hb11 hb12 hrm hn36 hx0 hx1
  obtain ⟨_, k0, k1, k2, k3, _⟩ := id hV9
  go_upto_if 90 with fail
  go_cut [9, 10] from 11 (fun u v wc => ∃ (y m : Nat), u = .int .i64 (y : Int) ∧ v = .int .i64 (m : Int) ∧ Flips o q.length m y ∧ w12 = wc)
  case first =>
    by_cases h36t : t < 36
    · have hc36 : ¬ ((36 : Int) ≤ (t : Int)) := by omega
      go_wp2
      go_meet
      case rel => exact ⟨t, o, rfl, rfl, ⟨by omega, by omega, Or.inl ⟨rfl, h36t⟩⟩, rfl⟩
    · have hc36 : (36 : Int) ≤ (t : Int) := by omega
      obtain ⟨r, hr⟩ := hid_ex (t - 36)
      have er : (t : Int) - 36 = (r : Int) := by have := hr.out; omega
      have hrq : r < q.length := by have := hr.out; have := h36.out; omega
      go_wp2
      go_meet
      case rel => exact ⟨r % 64, firstOf o + r / 64, congrArg (Value.int IntKind.i64) (by omega), congrArg (Value.int IntKind.i64) (by unfold firstOf; omega), ⟨by unfold firstOf; omega, by omega, Or.inr ⟨r, hrq, rfl, rfl⟩⟩, rfl⟩
  obtain ⟨y, m, rfl, rfl, F, hwc⟩ := hcut
  obtain rfl := hwc
  clear k0 k1 k2 k3 hV9
  have hf := DD.fit T.gd.ok
  have hml : m < d2.blocks.length := by rw [hf.bl]; exact F.ml
  have hr64 : d2.blocks[m]!.length = 64 := hf.bb _ (mem_at hml)
  have hy64 := F.yl
  obtain ⟨Rb, n1, f1, hg1, hg2, hg3, hg4, hg5, hg6⟩ := hM7.b.row (by omega)
  obtain ⟨B, nB, e1, e2, e3, e4⟩ : ∃ B n, fa m = some ⟨B, 0, none⟩ ∧ lo ≤ B ∧ B < hi ∧ BRow w12 B n d2.blocks[m]! := by
    rcases hM7.b.byt m hml with e | h
    · rw [e] at hr64; cases hr64
    · exact h
  have c1 := hg4.cell (i := m) (by omega)
  rw [hg6 m hml, e1] at c1
  have c1' : w12.cell? ⟨Rb, m, none⟩ = some (.slice (some ⟨B, 0, none⟩) 64 (fc m)) := by rw [c1]; simp only [hr64]
  have c2 := e4.cell (i := y) (by omega)
  obtain ⟨n0, hn0⟩ := hid_ex d2.blocks[m]![y]!
  have hnb : n0 < 256 := by rw [hn0.out]; exact (T.gd.o.bb _ (mem_at hml)).byte _ (mem_at (by omega))
  rw [← hn0.out] at c2
  obtain ⟨v0, v1, vf⟩ := id hV7
  rw [hg1] at v0
  have i0 : (0 : Int) ≤ (m : Int) := by omega
  have i1 : (m : Int) < (d2.blocks.length : Int) := by omega
  have j0 : (0 : Int) ≤ (y : Int) := by omega
  have j1 : (y : Int) < (64 : Int) := by omega
  clear hg2 hg3 hg4 hg5 hg6 c1
  go_upto_region 16 with fail
  have hB : Below w12.heap.size w12 w12.drew := gdr (gre _)
  refine wp_regionU (fun u => u.cell? ⟨D, 0, none⟩ = some (.slice (some ⟨Rb, 0, none⟩) d2.blocks.length l.bc) ∧ u.cell? ⟨Rb, m, none⟩ = some (.slice (some ⟨B, 0, none⟩) 64 (fc m)) ∧ u.cell? ⟨B, y, none⟩ = some (.int .u8 (n0 : Int))) 21 (by kernel_rfl) ⟨(Kept.of_below hB (fun _ => False)).cell v0 (fun e => e), (Kept.of_below hB (fun _ => False)).cell c1' (fun e => e), (Kept.of_below hB (fun _ => False)).cell c2 (fun e => e)⟩ (fun _ => ?_)
  refine anyU_take (i := 0) (v := ?_) rfl (by kernel_rfl) (by kernel_rfl) (by kernel_rfl) (by kernel_rfl) (fun _ _ _ h => h) (Or.inl ⟨by rfl, ?_⟩) ⟨(Kept.of_below hB (fun _ => False)).cell v0 (fun e => e), (Kept.of_below hB (fun _ => False)).cell c1' (fun e => e), (Kept.of_below hB (fun _ => False)).cell c2 (fun e => e)⟩ ?_
  rotate_left
  · intro u hSu; obtain ⟨s0, s1, s2⟩ := hSu; go_simp <;> with_reducible rfl
  simp only [Act.put, List.getElem_toArray, List.getElem_cons_zero, List.setIfInBounds_toArray, List.set_cons_zero, List.set_cons_succ]
  refine anyU_take (i := 1) (v := ?_) rfl (by kernel_rfl) (by kernel_rfl) (by kernel_rfl) (by kernel_rfl) (fun _ _ _ h => h) (Or.inl ⟨by rfl, ?_⟩) ⟨(Kept.of_below hB (fun _ => False)).cell v0 (fun e => e), (Kept.of_below hB (fun _ => False)).cell c1' (fun e => e), (Kept.of_below hB (fun _ => False)).cell c2 (fun e => e)⟩ ?_
  rotate_left
  · intro u hSu; obtain ⟨s0, s1, s2⟩ := hSu; go_simp <;> with_reducible rfl
  simp only [Act.put, List.getElem_toArray, List.getElem_cons_zero, List.getElem_cons_succ, List.setIfInBounds_toArray, List.set_cons_zero, List.set_cons_succ]
  refine anyU_take (i := 2) (v := ?_) rfl (by kernel_rfl) (by kernel_rfl) (by kernel_rfl) (by kernel_rfl) (fun _ _ _ h => h) (Or.inl ⟨by rfl, ?_⟩) ⟨(Kept.of_below hB (fun _ => False)).cell v0 (fun e => e), (Kept.of_below hB (fun _ => False)).cell c1' (fun e => e), (Kept.of_below hB (fun _ => False)).cell c2 (fun e => e)⟩ ?_
  rotate_left
  · intro u hSu; obtain ⟨s0, s1, s2⟩ := hSu; go_simp <;> with_reducible rfl
  simp only [Act.put, List.getElem_toArray, List.getElem_cons_zero, List.getElem_cons_succ, List.setIfInBounds_toArray, List.set_cons_zero, List.set_cons_succ]
  refine anyU_take (i := 3) (v := ?_) rfl (by kernel_rfl) (by kernel_rfl) (by kernel_rfl) (by kernel_rfl) (fun _ _ _ h => h) (Or.inl ⟨by rfl, ?_⟩) ⟨(Kept.of_below hB (fun _ => False)).cell v0 (fun e => e), (Kept.of_below hB (fun _ => False)).cell c1' (fun e => e), (Kept.of_below hB (fun _ => False)).cell c2 (fun e => e)⟩ ?_
  rotate_left
  · intro u hSu; obtain ⟨s0, s1, s2⟩ := hSu; go_simp <;> with_reducible rfl
  simp only [Act.put, List.getElem_toArray, List.getElem_cons_zero, List.getElem_cons_succ, List.setIfInBounds_toArray, List.set_cons_zero, List.set_cons_succ]
  refine anyU_take (i := 4) (v := ?_) rfl (by kernel_rfl) (by kernel_rfl) (by kernel_rfl) (by kernel_rfl) (fun _ _ _ h => h) (Or.inl ⟨by rfl, ?_⟩) ⟨(Kept.of_below hB (fun _ => False)).cell v0 (fun e => e), (Kept.of_below hB (fun _ => False)).cell c1' (fun e => e), (Kept.of_below hB (fun _ => False)).cell c2 (fun e => e)⟩ ?_
  rotate_left
  · intro u hSu; obtain ⟨s0, s1, s2⟩ := hSu; go_simp <;> with_reducible rfl
  simp only [Act.put, List.getElem_toArray, List.getElem_cons_zero, List.getElem_cons_succ, List.setIfInBounds_toArray, List.set_cons_zero, List.set_cons_succ]
  refine anyU_take (i := 5) (v := ?_) rfl (by kernel_rfl) (by kernel_rfl) (by kernel_rfl) (by kernel_rfl) (fun _ _ _ h => h) (Or.inl ⟨by rfl, ?_⟩) ⟨(Kept.of_below hB (fun _ => False)).cell v0 (fun e => e), (Kept.of_below hB (fun _ => False)).cell c1' (fun e => e), (Kept.of_below hB (fun _ => False)).cell c2 (fun e => e)⟩ ?_
  rotate_left
  · intro u hSu; obtain ⟨s0, s1, s2⟩ := hSu; go_simp <;> with_reducible rfl
  simp only [Act.put, List.getElem_toArray, List.getElem_cons_zero, List.getElem_cons_succ, List.setIfInBounds_toArray, List.set_cons_zero, List.set_cons_succ]
  refine anyU_take (i := 6) (v := ?_) rfl (by kernel_rfl) (by kernel_rfl) (by kernel_rfl) (by kernel_rfl) (fun _ _ _ h => h) (Or.inl ⟨by rfl, ?_⟩) ⟨(Kept.of_below hB (fun _ => False)).cell v0 (fun e => e), (Kept.of_below hB (fun _ => False)).cell c1' (fun e => e), (Kept.of_below hB (fun _ => False)).cell c2 (fun e => e)⟩ ?_
  rotate_left
  · intro u hSu; obtain ⟨s0, s1, s2⟩ := hSu; go_simp <;> with_reducible rfl
  simp only [Act.put, List.getElem_toArray, List.getElem_cons_zero, List.getElem_cons_succ, List.setIfInBounds_toArray, List.set_cons_zero, List.set_cons_succ]
  refine anyU_take (i := 7) (v := ?_) rfl (by kernel_rfl) (by kernel_rfl) (by kernel_rfl) (by kernel_rfl) (fun _ _ _ h => h) (Or.inl ⟨by rfl, ?_⟩) ⟨(Kept.of_below hB (fun _ => False)).cell v0 (fun e => e), (Kept.of_below hB (fun _ => False)).cell c1' (fun e => e), (Kept.of_below hB (fun _ => False)).cell c2 (fun e => e)⟩ ?_
  rotate_left
  · intro u hSu; obtain ⟨s0, s1, s2⟩ := hSu; go_simp <;> with_reducible rfl
  simp only [Act.put, List.getElem_toArray, List.getElem_cons_zero, List.getElem_cons_succ, List.setIfInBounds_toArray, List.set_cons_zero, List.set_cons_succ]
  refine anyU_take (i := 8) (v := ?_) rfl (by kernel_rfl) (by kernel_rfl) (by kernel_rfl) (by kernel_rfl) (fun _ _ _ h => h) (Or.inl ⟨by rfl, ?_⟩) ⟨(Kept.of_below hB (fun _ => False)).cell v0 (fun e => e), (Kept.of_below hB (fun _ => False)).cell c1' (fun e => e), (Kept.of_below hB (fun _ => False)).cell c2 (fun e => e)⟩ ?_
  rotate_left
  · intro u hSu; obtain ⟨s0, s1, s2⟩ := hSu; go_simp <;> with_reducible rfl
  simp only [Act.put, List.getElem_toArray, List.getElem_cons_zero, List.getElem_cons_succ, List.setIfInBounds_toArray, List.set_cons_zero, List.set_cons_succ]
  refine anyU_take (i := 9) (v := ?_) rfl (by kernel_rfl) (by kernel_rfl) (by kernel_rfl) (by kernel_rfl) (fun _ _ _ h => h) (Or.inl ⟨by rfl, ?_⟩) ⟨(Kept.of_below hB (fun _ => False)).cell v0 (fun e => e), (Kept.of_below hB (fun _ => False)).cell c1' (fun e => e), (Kept.of_below hB (fun _ => False)).cell c2 (fun e => e)⟩ ?_
  rotate_left
  · intro u hSu; obtain ⟨s0, s1, s2⟩ := hSu; go_simp <;> with_reducible rfl
  simp only [Act.put, List.getElem_toArray, List.getElem_cons_zero, List.getElem_cons_succ, List.setIfInBounds_toArray, List.set_cons_zero, List.set_cons_succ]
  refine anyU_take (i := 10) (v := ?_) rfl (by kernel_rfl) (by kernel_rfl) (by kernel_rfl) (by kernel_rfl) (fun _ _ _ h => h) (Or.inl ⟨by rfl, ?_⟩) ⟨(Kept.of_below hB (fun _ => False)).cell v0 (fun e => e), (Kept.of_below hB (fun _ => False)).cell c1' (fun e => e), (Kept.of_below hB (fun _ => False)).cell c2 (fun e => e)⟩ ?_
  rotate_left
  · intro u hSu; obtain ⟨s0, s1, s2⟩ := hSu; go_simp <;> with_reducible rfl
  simp only [Act.put, List.getElem_toArray, List.getElem_cons_zero, List.getElem_cons_succ, List.setIfInBounds_toArray, List.set_cons_zero, List.set_cons_succ]
  refine anyU_take (i := 11) (v := ?_) rfl (by kernel_rfl) (by kernel_rfl) (by kernel_rfl) (by kernel_rfl) (fun _ _ _ h => h) (Or.inl ⟨by rfl, ?_⟩) ⟨(Kept.of_below hB (fun _ => False)).cell v0 (fun e => e), (Kept.of_below hB (fun _ => False)).cell c1' (fun e => e), (Kept.of_below hB (fun _ => False)).cell c2 (fun e => e)⟩ ?_
  rotate_left
  · intro u hSu; obtain ⟨s0, s1, s2⟩ := hSu; go_simp <;> with_reducible rfl
  simp only [Act.put, List.getElem_toArray, List.getElem_cons_zero, List.getElem_cons_succ, List.setIfInBounds_toArray, List.set_cons_zero, List.set_cons_succ]
  refine anyU_take (i := 12) (v := ?_) rfl (by kernel_rfl) (by kernel_rfl) (by kernel_rfl) (by kernel_rfl) (fun _ _ _ h => h) (Or.inl ⟨by rfl, ?_⟩) ⟨(Kept.of_below hB (fun _ => False)).cell v0 (fun e => e), (Kept.of_below hB (fun _ => False)).cell c1' (fun e => e), (Kept.of_below hB (fun _ => False)).cell c2 (fun e => e)⟩ ?_
  rotate_left
  · intro u hSu; obtain ⟨s0, s1, s2⟩ := hSu; go_simp <;> with_reducible rfl
  simp only [Act.put, List.getElem_toArray, List.getElem_cons_zero, List.getElem_cons_succ, List.setIfInBounds_toArray, List.set_cons_zero, List.set_cons_succ]
  refine anyU_take (i := 13) (v := ?_) rfl (by kernel_rfl) (by kernel_rfl) (by kernel_rfl) (by kernel_rfl) (fun _ _ _ h => h) (Or.inl ⟨by rfl, ?_⟩) ⟨(Kept.of_below hB (fun _ => False)).cell v0 (fun e => e), (Kept.of_below hB (fun _ => False)).cell c1' (fun e => e), (Kept.of_below hB (fun _ => False)).cell c2 (fun e => e)⟩ ?_
  rotate_left
  · intro u hSu; obtain ⟨s0, s1, s2⟩ := hSu; go_simp <;> with_reducible rfl
  simp only [Act.put, List.getElem_toArray, List.getElem_cons_zero, List.getElem_cons_succ, List.setIfInBounds_toArray, List.set_cons_zero, List.set_cons_succ]
  refine anyU_take (i := 14) (v := ?_) rfl (by kernel_rfl) (by kernel_rfl) (by kernel_rfl) (by kernel_rfl) (fun _ _ _ h => h) (Or.inl ⟨by rfl, ?_⟩) ⟨(Kept.of_below hB (fun _ => False)).cell v0 (fun e => e), (Kept.of_below hB (fun _ => False)).cell c1' (fun e => e), (Kept.of_below hB (fun _ => False)).cell c2 (fun e => e)⟩ ?_
  rotate_left
  · intro u hSu; obtain ⟨s0, s1, s2⟩ := hSu; go_simp <;> with_reducible rfl
  simp only [Act.put, List.getElem_toArray, List.getElem_cons_zero, List.getElem_cons_succ, List.setIfInBounds_toArray, List.set_cons_zero, List.set_cons_succ]
  refine anyU_one (i := 15) (by kernel_rfl) rfl (fun K hK => ?_)
  go_simp
  refine (wByte_any a' bs' cap' 2 _ (ha'.grow (gca (gca hB6 hb67) hB)) hl' hx').mono ?_
  rintro e w13 ⟨x2, hx2, rfl, hb13⟩
  have hB := gca hB hb13
  obtain ⟨t8, ht8⟩ := hid_ex (x2 % 8)
  have ht88 : t8 < 8 := by rw [ht8.out]; exact Nat.mod_lt _ (by decide)
  have hrm8 : Int.tmod (x2 : Int) 8 = (t8 : Int) := by rw [ht8.out]; exact (Int.ofNat_tmod x2 8).symm
  obtain ⟨vv, hvv⟩ := hid_ex (2 ^ t8)
  have hv256 : vv < 256 := by rw [hvv.out]; exact (shl_u8 ht88).1
  have hvv0 : vv ≠ 0 := by rw [hvv.out]; exact (shl_u8 ht88).2
  refine hK.out _ _ ⟨(Kept.of_below hB (fun _ => False)).cell v0 (fun e => e), (Kept.of_below hB (fun _ => False)).cell c1' (fun e => e), (Kept.of_below hB (fun _ => False)).cell c2 (fun e => e)⟩ ?_
  clear hK
  refine anyU_take (i := 16) (v := .int .i64 (t8 : Int)) rfl (by kernel_rfl) (by kernel_rfl) (by kernel_rfl) (by kernel_rfl) (fun _ _ _ h => h) (Or.inl ⟨by rfl, ?_⟩) ⟨(Kept.of_below hB (fun _ => False)).cell v0 (fun e => e), (Kept.of_below hB (fun _ => False)).cell c1' (fun e => e), (Kept.of_below hB (fun _ => False)).cell c2 (fun e => e)⟩ ?_
  · intro u hSu; obtain ⟨s0, s1, s2⟩ := hSu; go_simp <;> first | rfl | (rw [IntKind.wrap_i64]; omega)
  simp only [Act.put, List.getElem_toArray, List.getElem_cons_zero, List.getElem_cons_succ, List.setIfInBounds_toArray, List.set_cons_zero, List.set_cons_succ]
  clear hrm8
  refine anyU_take (i := 17) (v := .int .u64 (t8 : Int)) rfl (by kernel_rfl) (by kernel_rfl) (by kernel_rfl) (by kernel_rfl) (fun _ _ _ h => h) (Or.inl ⟨by rfl, ?_⟩) ⟨(Kept.of_below hB (fun _ => False)).cell v0 (fun e => e), (Kept.of_below hB (fun _ => False)).cell c1' (fun e => e), (Kept.of_below hB (fun _ => False)).cell c2 (fun e => e)⟩ ?_
  · intro u hSu; obtain ⟨s0, s1, s2⟩ := hSu; go_simp <;> first | rfl | (rw [IntKind.wrap_u64]; omega)
  simp only [Act.put, List.getElem_toArray, List.getElem_cons_zero, List.getElem_cons_succ, List.setIfInBounds_toArray, List.set_cons_zero, List.set_cons_succ]
  refine anyU_take (i := 18) (v := .int .u8 (vv : Int)) rfl (by kernel_rfl) (by kernel_rfl) (by kernel_rfl) (by kernel_rfl) (fun _ _ _ h => h) (Or.inl ⟨by rfl, ?_⟩) ⟨(Kept.of_below hB (fun _ => False)).cell v0 (fun e => e), (Kept.of_below hB (fun _ => False)).cell c1' (fun e => e), (Kept.of_below hB (fun _ => False)).cell c2 (fun e => e)⟩ ?_
  · intro u hSu; obtain ⟨s0, s1, s2⟩ := hSu; rw [hvv.out]; clear hvv hv256 hvv0 ht8; have h8 : t8 = 0 ∨ t8 = 1 ∨ t8 = 2 ∨ t8 = 3 ∨ t8 = 4 ∨ t8 = 5 ∨ t8 = 6 ∨ t8 = 7 := (by omega); rcases h8 with rfl | rfl | rfl | rfl | rfl | rfl | rfl | rfl <;> go_simp <;> rfl
  simp only [Act.put, List.getElem_toArray, List.getElem_cons_zero, List.getElem_cons_succ, List.setIfInBounds_toArray, List.set_cons_zero, List.set_cons_succ]
  refine anyU_take (i := 19) (v := .int .u8 ((n0 ^^^ vv : Nat) : Int)) rfl (by kernel_rfl) (by kernel_rfl) (by kernel_rfl) (by kernel_rfl) (fun _ _ _ h => h) (Or.inl ⟨by rfl, ?_⟩) ⟨(Kept.of_below hB (fun _ => False)).cell v0 (fun e => e), (Kept.of_below hB (fun _ => False)).cell c1' (fun e => e), (Kept.of_below hB (fun _ => False)).cell c2 (fun e => e)⟩ ?_
  · intro u hSu; obtain ⟨s0, s1, s2⟩ := hSu; go_simp <;> rw [xor_u8G n0 vv hnb hv256]
  simp only [Act.put, List.getElem_toArray, List.getElem_cons_zero, List.getElem_cons_succ, List.setIfInBounds_toArray, List.set_cons_zero, List.set_cons_succ]
  refine anyU_take (i := 20) (v := ?_) rfl (by kernel_rfl) (by kernel_rfl) (by kernel_rfl) (by kernel_rfl) (fun _ _ _ h => h) (Or.inl ⟨by rfl, ?_⟩) ⟨(Kept.of_below hB (fun _ => False)).cell v0 (fun e => e), (Kept.of_below hB (fun _ => False)).cell c1' (fun e => e), (Kept.of_below hB (fun _ => False)).cell c2 (fun e => e)⟩ ?_
  rotate_left
  · intro u hSu; obtain ⟨s0, s1, s2⟩ := hSu; go_simp <;> with_reducible rfl
  simp only [Act.put, List.getElem_toArray, List.getElem_cons_zero, List.getElem_cons_succ, List.setIfInBounds_toArray, List.set_cons_zero, List.set_cons_succ]
  refine anyU_last (by kernel_rfl) rfl (by kernel_rfl) (fun K hK => ?_)
  have hM13 := hM7.grow hB
  have hMf := hM13.flip (v := vv) T.gd.w hml (by omega : y < _) e1
  simp only [← hn0.out] at hMf
  obtain ⟨G', nB', e1', _, _, e4'⟩ : ∃ G n, fa m = some ⟨G, 0, none⟩ ∧ lo ≤ G ∧ G < hi ∧ BRow w13 G n d2.blocks[m]! := by
    rcases hM13.b.byt m hml with e | h
    · rw [e] at hr64; cases hr64
    · exact h
  obtain rfl := some_addr (e1.symm.trans e1')
  have kf := e4'.frozen
  obtain ⟨s0, s1, s2⟩ : w13.cell? ⟨D, 0, none⟩ = some (.slice (some ⟨Rb, 0, none⟩) d2.blocks.length l.bc) ∧ w13.cell? ⟨Rb, m, none⟩ = some (.slice (some ⟨B, 0, none⟩) 64 (fc m)) ∧ w13.cell? ⟨B, y, none⟩ = some (.int .u8 (n0 : Int)) := ⟨(Kept.of_below hB (fun _ => False)).cell v0 (fun e => e), (Kept.of_below hB (fun _ => False)).cell c1' (fun e => e), (Kept.of_below hB (fun _ => False)).cell c2 (fun e => e)⟩
  go_simp
  have hK14 := Kept.one w13 B y (.int .u8 ((n0 ^^^ vv : Nat) : Int))
  have hV14 := (hV7.grow hB).kept hK14 (by omega)
  have hb614 : Below w6.heap.size w6 (w13.setCell ⟨B, y, none⟩ (.int .u8 ((n0 ^^^ vv : Nat) : Int))) := (gca hb67 hB).trans (hK14.below (gca hb67 hB).size (fun z hz e => by omega))
  refine hK.out _ _ ?_
  clear hK
  generalize w13.setCell ⟨B, y, none⟩ (.int .u8 ((n0 ^^^ vv : Nat) : Int)) = w14 at hMf hK14 hV14 hb614 ⊢
  clear s0 s1 s2 kf e4' hB hM13 hb13 v0 v1 vf c1' c2 hK14 hM7 hV7
  have hgdf := flip_goodK (y := y) T.gd F.ml hv256
  have htf := flip_take T hgO hpne (by rw [← hq.out]; exact F) hv256 hvv0
  have hl3 := flipB_length d2.blocks m y vv
  obtain ⟨d3, hd3⟩ := hid_ex (d2.flip m y vv)
  have hl3' : d2.blocks.length = d3.blocks.length := by rw [hd3.out]; exact hl3.symm
  have hw3' : d2.waiting.length = d3.waiting.length := by rw [hd3.out]; rfl
  rw [← hd3.out] at hMf hgdf htf
  rw [hl3', hw3'] at hV14
  obtain ⟨c, hc2⟩ := hid_ex (canon g)
  have hcz : Hid (canonZ g = c) := (by show _ = _; rw [hc2.out]; exact if_pos hgok)
  have hcO : c.Ok := by rw [hc2.out]; exact canon_ok hgO hgok
  rw [← hc2.out] at htf
  have hG14 := hG6.kept (Kept.of_below hb614 (fun _ => False)) (fun e => e)
  have hgN14 := hgN6.grow hb614
  have hB14 := gca hB6 hb614
  have htk := fun (u : World) (hb : Below w14.heap.size w14 u) => implTake_any d3 l u hgdf.o (hMf.grow hb).at_ (cell_later (gca hB14 hb) hg)
  rw [htf] at htk
  clear hg1 hl3 hl3' hw3' i0 i1 j0 j1 hml hr64
  go_upto_region 17 with fail
  have hB : Below w14.heap.size w14 w14.drew := gdr (gre _)
  refine wp_regionU (fun u => VB u D (.slice l.ba d3.blocks.length l.bc) (.slice l.wa d3.waiting.length l.wc) ∧ Five u G g.root (.slice ga g.nodes.length gc)) 99 (by kernel_rfl) ⟨hV14.grow hB, hG14.kept (Kept.of_below hB (fun _ => False)) (fun e => e)⟩ (fun _ => ?_)
  refine anyU_take (i := 0) (v := ?_) rfl (by kernel_rfl) (by kernel_rfl) (by kernel_rfl) (by kernel_rfl) (fun _ _ _ h => h) (Or.inl ⟨by rfl, ?_⟩) ⟨hV14.grow hB, hG14.kept (Kept.of_below hB (fun _ => False)) (fun e => e)⟩ ?_
  rotate_left
  · intro u hSu; obtain ⟨⟨v0, v1, _⟩, ⟨_, g0, g1, g2, g3, g4, _⟩⟩ := hSu; go_simp <;> with_reducible rfl
  simp only [Act.put, List.getElem_toArray, List.getElem_cons_zero, List.setIfInBounds_toArray, List.set_cons_zero, List.set_cons_succ]
  refine anyU_take (i := 2) (v := ?_) rfl (by kernel_rfl) (by kernel_rfl) (by kernel_rfl) (by kernel_rfl) (fun _ _ _ h => h) (Or.inl ⟨by rfl, ?_⟩) ⟨hV14.grow hB, hG14.kept (Kept.of_below hB (fun _ => False)) (fun e => e)⟩ ?_
  rotate_left
  · intro u hSu; obtain ⟨⟨v0, v1, _⟩, ⟨_, g0, g1, g2, g3, g4, _⟩⟩ := hSu; go_simp <;> with_reducible rfl
  simp only [Act.put, List.getElem_toArray, List.getElem_cons_zero, List.getElem_cons_succ, List.setIfInBounds_toArray, List.set_cons_zero, List.set_cons_succ]
  refine anyU_one (i := 1) (by kernel_rfl) rfl (fun K hK => ?_)
  go_simp
  refine (htk _ hB).mono ?_
  rintro e w15 ⟨ta, tc, tl, rfl, htn, hto, hb15⟩
  have hB := gca hB hb15
  have htN := hto.at_
  rw [htn] at htN
  refine hK.out _ _ ⟨hV14.grow hB, hG14.kept (Kept.of_below hB (fun _ => False)) (fun e => e)⟩ ?_
  clear hK
  refine anyU_one (i := 3) (by kernel_rfl) rfl (fun K hK => ?_)
  go_simp
  refine (specCanonZ_any ga gc g _ hgO (hgN14.grow hB)).mono ?_
  rintro e w16 ⟨ca, cc, rfl, hcN, hb16⟩
  rw [hcz.out] at hcN ⊢
  have hB := gca hB hb16
  refine hK.out _ _ ⟨hV14.grow hB, hG14.kept (Kept.of_below hB (fun _ => False)) (fun e => e)⟩ ?_
  clear hK
  refine anyU_take (i := 4) (v := ?_) rfl (by kernel_rfl) (by kernel_rfl) (by kernel_rfl) (by kernel_rfl) (fun _ _ _ h => h) (Or.inl ⟨by rfl, ?_⟩) ⟨hV14.grow hB, hG14.kept (Kept.of_below hB (fun _ => False)) (fun e => e)⟩ ?_
  rotate_left
  · intro u hSu; obtain ⟨⟨v0, v1, _⟩, ⟨_, g0, g1, g2, g3, g4, _⟩⟩ := hSu; go_simp <;> with_reducible rfl
  simp only [Act.put, List.getElem_toArray, List.getElem_cons_zero, List.getElem_cons_succ, List.setIfInBounds_toArray, List.set_cons_zero, List.set_cons_succ]
  refine anyU_one (i := 5) (by kernel_rfl) rfl (fun K hK => ?_)
  go_simp
  refine (wTaken_same ⟨0, 1, c⟩ ta ca tc cc _ hcO (htN.grow hb16) hcN).mono ?_
  rintro e w17 ⟨rfl, hb17⟩
  have hB := gca hB hb17
  refine hK.out _ _ ⟨hV14.grow hB, hG14.kept (Kept.of_below hB (fun _ => False)) (fun e => e)⟩ ?_
  clear hK
  refine anyU_take (i := 6) (v := ?_) rfl (by kernel_rfl) (by kernel_rfl) (by kernel_rfl) (by kernel_rfl) (fun _ _ _ h => h) (Or.inl ⟨by rfl, ?_⟩) ⟨hV14.grow hB, hG14.kept (Kept.of_below hB (fun _ => False)) (fun e => e)⟩ ?_
  rotate_left
  · intro u hSu; obtain ⟨⟨v0, v1, _⟩, ⟨_, g0, g1, g2, g3, g4, _⟩⟩ := hSu; go_simp <;> with_reducible rfl
  simp only [Act.put, List.getElem_toArray, List.getElem_cons_zero, List.getElem_cons_succ, List.setIfInBounds_toArray, List.set_cons_zero, List.set_cons_succ]
  refine anyU_done (by kernel_rfl) ?_
  go_wp2
  go_ret
  exact ⟨rfl, gca hB14 hB⟩

end Go.Proofs.YtmdpmdmilgbfiaaGreatDoor
