/-
  LAW: FnExactPack, walked. Own work.
-/
import Derived.Test.YtnbikemmnpldcabBytes
import Derived.Test.YtnbikemmnpldcabLater
import Derived.Test.YtnbikemmnpldcabRegionV
import Derived.Test.YtnbikemmnpldcabTo
import Derived.Test.YtnbikemmnpldcabSmall
import Derived.Test.YtnbikemmnpldcabSz
import Derived.Test.YtnbikemmnpldcabEq
namespace Go.Proofs.Ytnbikemmnpldcab
open Go.RowKit

/-- bytes at a place, below a bound -/
def BytesLow (B : Nat) (w : World) (a : Option Addr) (bs : List Nat) : Prop := ∀ i, i < bs.length → ∃ b off, a = some ⟨b, off, none⟩ ∧ b < B ∧ w.cell? ⟨b, off + i, none⟩ = some (.int .u8 ((bs[i]! : Nat) : Int))
set_option maxRecDepth 100000 in
theorem BytesLow.below {B : Nat} {w w' : World} {a : Option Addr} {bs : List Nat} (h : BytesLow B w a bs) (hb : Below B w w') : BytesLow B w' a bs := fun i hi => by
  obtain ⟨b, off, ha, hB, hc⟩ := h i hi
  exact ⟨b, off, ha, hB, (World.cell?_of_block (w := w) (hb.block b hB)).trans hc⟩
set_option maxRecDepth 100000 in
theorem BytesLow.at_ {B : Nat} {w : World} {a : Option Addr} {bs : List Nat} (h : BytesLow B w a bs) : BytesAt w a bs := fun i hi => by
  obtain ⟨b, off, ha, _, hc⟩ := h i hi
  exact ⟨b, off, ha, hc⟩
set_option maxRecDepth 100000 in
theorem BytesAt.low {w : World} {a : Option Addr} {bs : List Nat} (h : BytesAt w a bs) : BytesLow w.heap.size w a bs := fun i hi => by
  obtain ⟨b, off, ha, hc⟩ := h i hi
  exact ⟨b, off, ha, World.block_lt_of_cell? _ _ hc, hc⟩
set_option maxRecDepth 100000 in
theorem MB.at_ {w : World} {lo : Nat} {oa : Option Addr} {ys : List Nat} (h : MB w lo oa ys) : BytesAt w oa ys := by
  rcases h with rfl | ⟨G, n, rfl, _, hB⟩
  · exact fun i hi => absurd hi (Nat.not_lt_zero _)
  · exact brow_bytes hB
set_option maxRecDepth 100000 in
theorem MB.kept {p : Nat → Prop} {w w' : World} {lo : Nat} {oa : Option Addr} {ys : List Nat} (h : MB w lo oa ys) (k : Kept p w w') (hp : ∀ b, lo ≤ b → b < w.heap.size → ¬ p b) : MB w' lo oa ys := by
  rcases h with rfl | ⟨G, n, rfl, hG, hB⟩
  · exact Or.inl rfl
  · exact Or.inr ⟨G, n, rfl, hG, hB.kept k (hp G hG hB.lt)⟩
set_option maxRecDepth 100000 in
theorem MB.grow {w w' : World} {lo : Nat} {oa : Option Addr} {ys : List Nat} (h : MB w lo oa ys) (k : Below w.heap.size w w') : MB w' lo oa ys := h.kept (Kept.of_below k (fun _ => False)) (fun _ _ _ e => e)

theorem packB_len (g : GG) : (packB g).length ≤ 4096 := by
  unfold packB
  split
  · rename_i h; exact h.2
  · exact Nat.zero_le _

set_option maxHeartbeats 4000000 in
set_option maxRecDepth 100000 in
theorem lawPack (a : Option Addr) (cap : Nat) (g : GG) (w : World) (hg : g.Ok) (ha : NodesAt w.heap.size w a g.nodes) :
    Calls Try.prog 3 #[g.val a cap] w fun e w' => e = .returned (.bool true) ∧ Below w.heap.size w w' := by
  have hX0 := GBox.new w g a cap 26
  by_cases hs1 : g.sz ≤ 1048576
  · obtain ⟨hl, hv⟩ := GG.small hs1
    have hle1 : Hid (leftBy 1048576 g.sz = 1048576 - g.sz) := leftBy_pos (by omega)
    have hd1 : ¬ (1048576 - g.sz < 0) := by omega
    obtain ⟨p, hp⟩ := hid_ex (packB g)
    have hpl : p.length ≤ 4096 := by rw [hp.out]; exact packB_len g
    go_enter Try.func3, Try.ntmps3
    go_wp2_with (first
      | (go_at_call 13; refine (szGraph_any a cap g _ _ hg (by decide) (by decide) (ha.grow (gal (gre _) _))).mono ?_; rintro e w1 ⟨rfl, hb1⟩; rw [hle1.out]; obtain ⟨xz, x0, x1, x2, x3, x4⟩ := hX0.grow hb1)
      | (go_at_call 15; refine (toGraph_any a cap g _ hl hv (ha.grow hA3)).mono ?_; rintro e w4 ⟨b4, bs4, rfl, hbb4, hown4, hb4⟩)
      | (go_at_call 15; refine (toGraph_any a cap g _ hl hv (ha.grow (gca (gal (gre _) _) hb1))).mono ?_; rintro e w2 ⟨b2, bs2, rfl, hbb2, hown2, hb2⟩)
      | (go_at_call 14; refine (specPack_any _ _ g _ hg hown2.at_).mono ?_; rintro e w3 ⟨oa3, cap3, rfl, hO3, hb3⟩; rw [← hp.out] at hO3 ⊢; have hA3 : Below w.heap.size w w3 := gca (gca (gca (gal (gre _) _) hb1) hb2) hb3; have hX3 := hX0.grow (gca (gca hb1 hb2) hb3); obtain ⟨xz, x0, x1, x2, x3, x4⟩ := id hX3; have hP3 := (owns_bytes hO3).low)
      | (go_at_call 16; refine (implPack_any _ _ g _ hg (hown4.below (gal (gre _) _)).at_).mono ?_; rintro e w5 ⟨oa5, cap5, rfl, hM5, hb5⟩; rw [← hp.out] at hM5 ⊢; simp only [World.size_alloc] at hM5)
      | (go_at_call 17; refine (eqByteS_same _ _ p _ _ _ (by unfold maxLen; omega) hM5.at_ (hP3.below (gca (gal hb4 _) hb5)).at_).mono ?_; rintro e w6 ⟨rfl, hb6⟩))
    have hx6 := (GBox.new w4 g (some ⟨b4, 0, none⟩) g.nodes.length 33).grow (gca hb5 hb6)
    have hL6 : Below w3.heap.size w3 w6 := gca (gca (gal hb4 _) hb5) hb6
    have hX6 := hX3.grow hL6
    have hown6 := (hown4.below (gal (gre w4) (.cells #[.int .i64 g.root.kind, .int .i64 g.root.num, .string g.root.text, .int .i64 g.root.node, .slice (some ⟨b4, 0, none⟩) g.nodes.length g.nodes.length] 33))).below (gca hb5 hb6)
    have hM6 := hM5.grow hb6
    have hbx : ∀ b, Touch (some ⟨b4, 0, none⟩) g.nodes.length (fun i => some ⟨bs4 i, 0, none⟩) b → w3.heap.size ≤ b ∧ b < w4.heap.size := fun b hb => by have := hown4.touch hb; omega
    have hpX : w3.heap.size ≤ w4.heap.size := hb4.size
    generalize w4.heap.size = pX at hx6 hM6 hbx hpX ⊢
    clear hX0 hb1 hb2 hb3 hb4 hb5 hb6 hown2 hown4 hO3 hM5 hbb2 hbb4 xz x0 x1 x2 x3 x4
    have hB : Below w6.heap.size w6 w6.drew := gdr (gre _)
    refine wp_regionU (fun u => GBox u pX g (some ⟨b4, 0, none⟩) g.nodes.length ∧ GBox u w.heap.size g a cap) 99 (by kernel_rfl) ⟨hx6.grow hB, hX6.grow hB⟩ (fun _ => ?_)
    refine anyU_take (i := 0) (v := ?_) rfl (by kernel_rfl) (by kernel_rfl) (by kernel_rfl) (by kernel_rfl) (fun _ _ _ h => h) (Or.inl ⟨by rfl, ?_⟩) ⟨hx6.grow hB, hX6.grow hB⟩ ?_
    rotate_left
    · intro u hSu; obtain ⟨⟨_, s0, s1, s2, s3, s4⟩, ⟨_, t0, t1, t2, t3, t4⟩⟩ := hSu; go_simp <;> with_reducible rfl
    simp only [Act.put, List.getElem_toArray, List.getElem_cons_zero, List.setIfInBounds_toArray, List.set_cons_zero, List.set_cons_succ]
    refine anyU_take (i := 1) (v := ?_) rfl (by kernel_rfl) (by kernel_rfl) (by kernel_rfl) (by kernel_rfl) (fun _ _ _ h => h) (Or.inl ⟨by rfl, ?_⟩) ⟨hx6.grow hB, hX6.grow hB⟩ ?_
    rotate_left
    · intro u hSu; obtain ⟨⟨_, s0, s1, s2, s3, s4⟩, ⟨_, t0, t1, t2, t3, t4⟩⟩ := hSu; go_simp <;> with_reducible rfl
    simp only [Act.put, List.getElem_toArray, List.getElem_cons_zero, List.getElem_cons_succ, List.setIfInBounds_toArray, List.set_cons_zero, List.set_cons_succ]
    refine anyU_one (i := 2) (by kernel_rfl) rfl (fun K hK => ?_)
    go_simp
    refine (toGraph_any a cap g _ hl hv (ha.grow (gca hA3 (gca hL6 hB)))).mono ?_
    rintro e w7 ⟨b7, bs7, rfl, hbb7, hown7, hb7⟩
    have hB := gca hB hb7
    refine hK.out _ _ ⟨hx6.grow hB, hX6.grow hB⟩ ?_
    clear hK
    refine anyU_one (i := 3) (by kernel_rfl) rfl (fun K hK => ?_)
    go_simp
    refine (eqGraph_same _ _ _ _ g _ hg (hown6.at_.grow hB) hown7.at_).mono ?_
    rintro e w8 ⟨rfl, hb8⟩
    have hB := gca hB hb8
    refine hK.out _ _ ⟨hx6.grow hB, hX6.grow hB⟩ ?_
    clear hK
    refine anyU_one (i := 4) (by kernel_rfl) rfl (fun K hK => ?_)
    go_simp
    refine hK.out _ _ ⟨hx6.grow hB, hX6.grow hB⟩ ?_
    clear hK
    refine anyU_done (by kernel_rfl) ?_
    have hx8 := hx6.grow hB
    have hL8 := gca hL6 hB
    have hown8 := hown6.below hB
    have hM8 := hM6.grow hB
    clear hx6 hX6 hown6 hM6 hB hown7 hb7 hb8 hL6
    obtain ⟨xz, x0, x1, x2, x3, x4⟩ := id hx8
    have hm1 : mEnd 1 g.nodes ≤ 1099511627776 := by have h9 := mEnd_sz g.nodes 1; have h8 := g.root.sz_nonneg; have h7 := hs1; unfold GG.sz at h7; omega
    have hd2 : ¬ (((mEnd 1 g.nodes : Nat) : Int) < 0) := by omega
    obtain ⟨m1, hm1'⟩ := hid_ex (1 + p.length)
    have hd3 : ¬ ((m1 : Int) < 0) := by omega
    have hd4 : ((m1 : Int) != (m1 : Int)) = false := by simp
    go_wp2_with (first
      | (go_at_call 19; rw [show (1 : Int) = ((1 : Nat) : Int) by rfl]; refine (markGraph_any g _ _ _ _ 1 _ (by omega) hm1 (by unfold maxLen; omega) hown8.mg).mono ?_; rintro e w9 ⟨rfl, hK9, _⟩; have hL9 := hL8.trans (hK9.below hL8.size (fun k hk hp => by have := hbx _ hp; omega)); have hM9 := hM8.kept hK9 (fun b hb _ hp => by have := hbx _ hp; omega))
      | (go_at_call 17; refine (eqByteS_same _ _ p _ _ _ (by unfold maxLen; omega) hM14.at_ (hP3.below hL14).at_).mono ?_; rintro e w15 ⟨rfl, hb15⟩; have hL15 := gca hL14 hb15; have hM15 := hM12.grow (gca (gca hb13 hb14) hb15))
      | (go_at_call 17; refine (eqByteS_same _ _ p _ _ _ (by unfold maxLen; omega) hM9.at_ (hP3.below hL9).at_).mono ?_; rintro e w10 ⟨rfl, hb10⟩; have hL10 := gca hL9 hb10; have hM10 := hM9.grow hb10)
      | (go_at_call 20; rw [show (1 : Int) = ((1 : Nat) : Int) by rfl]; refine (markByteS_any oa5 p cap5 1 (pX + 1) _ (by omega) (by omega) hM10).mono ?_; rintro e w11 ⟨rfl, hM11, hK11⟩; rw [← hm1'.out]; have hL11 := hL10.trans (hK11.below hL10.size (fun k hk hp => by omega)))
      | (go_at_call 21; rw [show (1 : Int) = ((1 : Nat) : Int) by rfl]; refine (heldByteS_any oa5 p.length cap5 1 _ (by omega) (by omega) hM15.at_).mono ?_; rintro e w16 ⟨rfl, hb16⟩; rw [← hm1'.out])
      | (go_at_call 21; rw [show (1 : Int) = ((1 : Nat) : Int) by rfl]; refine (heldByteS_any oa5 p.length cap5 1 _ (by omega) (by omega) hM11.at_).mono ?_; rintro e w12 ⟨rfl, hb12⟩; rw [← hm1'.out]; have hL12 := gca hL11 hb12; have hM12 := hM11.grow hb12; obtain ⟨yz, y0, y1, y2, y3, y4⟩ := hX3.grow hL12)
      | (go_at_call 15; refine (toGraph_any a cap g _ hl hv (ha.grow (gca hA3 hL12))).mono ?_; rintro e w13 ⟨b13, bs13, rfl, hbb13, hown13, hb13⟩)
      | (go_at_call 16; refine (implPack_any _ _ g _ hg hown13.at_).mono ?_; rintro e w14 ⟨oa14, cap14, rfl, hM14, hb14⟩; rw [← hp.out] at hM14 ⊢; have hL14 := gca (gca hL12 hb13) hb14))
    go_ret
    exact ⟨rfl, gca hA3 (gca hL15 hb16)⟩
  · have hle1 : Hid (leftBy 1048576 g.sz = -1) := leftBy_neg (by omega)
    go_enter Try.func3, Try.ntmps3
    go_wp2_with (go_at_call 13; refine (szGraph_any a cap g _ _ hg (by decide) (by decide) (ha.grow (gal (gre _) _))).mono ?_; rintro e w1 ⟨rfl, hb1⟩; rw [hle1.out])
    go_ret
    exact ⟨rfl, gca (gal (gre _) _) hb1⟩

end Go.Proofs.Ytnbikemmnpldcab
