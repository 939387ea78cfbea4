import Derived.ProofKit
import Derived.OpenShut
import Derived.Deep.Slices
import Derived.ShutString
import Derived.ChangeOld
import Derived.Test.YthjddpkegooobabPartPkH

/-
  LAW: FnExactPack, walked. Own work.
-/
namespace Go.Proofs.Ythjddpkegooobab
open Go.RowKit

/-- bytes at a place, below a bound -/
def BytesLow (B : Nat) (w : World) (a : Option Addr) (bs : List Nat) : Prop := ∀ i, i < bs.length → ∃ b off, a = some ⟨b, off, none⟩ ∧ b < B ∧ w.cell? ⟨b, off + i, none⟩ = some (.int .u8 ((bs[i]! : Nat) : Int))
set_option maxRecDepth 100000 in
theorem BytesLow.below {B : Nat} {w w' : World} {a : Option Addr} {bs : List Nat} (h : BytesLow B w a bs) (hb : Below B w w') : BytesLow B w' a bs := fun i hi => by
  obtain ⟨b, off, ha, hB, hc⟩ := h i hi
  exact ⟨b, off, ha, hB, (World.cell?_of_block (w := w) (hb.block b hB)).trans hc⟩
set_option maxRecDepth 100000 in
theorem BytesLow.at_ {B : Nat} {w : World} {a : Option Addr} {bs : List Nat} (h : BytesLow B w a bs) : BytesAt w a bs := fun i hi => by
  obtain ⟨b, off, ha, _, hc⟩ := h i hi
  exact ⟨b, off, ha, hc⟩
set_option maxRecDepth 100000 in
theorem BytesAt.low {w : World} {a : Option Addr} {bs : List Nat} (h : BytesAt w a bs) : BytesLow w.heap.size w a bs := fun i hi => by
  obtain ⟨b, off, ha, hc⟩ := h i hi
  exact ⟨b, off, ha, World.block_lt_of_cell? _ _ hc, hc⟩
set_option maxRecDepth 100000 in
theorem MB.at_ {w : World} {lo : Nat} {oa : Option Addr} {ys : List Nat} (h : MB w lo oa ys) : BytesAt w oa ys := by
  rcases h with rfl | ⟨G, n, rfl, _, hB⟩
  · exact fun i hi => absurd hi (Nat.not_lt_zero _)
  · exact brow_bytes hB
set_option maxRecDepth 100000 in
theorem MB.kept {p : Nat → Prop} {w w' : World} {lo : Nat} {oa : Option Addr} {ys : List Nat} (h : MB w lo oa ys) (k : Kept p w w') (hp : ∀ b, lo ≤ b → b < w.heap.size → ¬ p b) : MB w' lo oa ys := by
  rcases h with rfl | ⟨G, n, rfl, hG, hB⟩
  · exact Or.inl rfl
  · exact Or.inr ⟨G, n, rfl, hG, hB.kept k (hp G hG hB.lt)⟩
set_option maxRecDepth 100000 in
theorem MB.grow {w w' : World} {lo : Nat} {oa : Option Addr} {ys : List Nat} (h : MB w lo oa ys) (k : Below w.heap.size w w') : MB w' lo oa ys := h.kept (Kept.of_below k (fun _ => False)) (fun _ _ _ e => e)

theorem packB_len (g : GG) : (packB g).length ≤ 4096 := by
  unfold packB
  split
  · rename_i h; exact h.2
  · exact Nat.zero_le _

set_option maxHeartbeats 4000000 in
set_option maxRecDepth 100000 in
theorem lawPack (a : Option Addr) (cap : Nat) (g : GG) (w : World) (hg : g.Ok) (ha : NodesAt w.heap.size w a g.nodes) :
    Calls Try.prog 3 #[g.val a cap] w fun e w' => e = .returned (.bool true) ∧ Below w.heap.size w w' := by
  have hX0 := GBox.new w g a cap 26
  by_cases hs1 : g.sz ≤ 1048576
  · obtain ⟨hl, hv⟩ := GG.small hs1
    have hle1 : Hid (leftBy 1048576 g.sz = 1048576 - g.sz) := leftBy_pos (by omega)
    have hd1 : ¬ (1048576 - g.sz < 0) := by omega
    obtain ⟨p, hp⟩ := hid_ex (packB g)
    have hpl : p.length ≤ 4096 := by rw [hp.out]; exact packB_len g
    go_enter Try.func3, Try.ntmps3
    go_wp2_with (first
      | (go_at_call 15; refine (szGraph_any a cap g _ _ hg (by decide) (by decide) (ha.grow (gal (gre _) _))).mono ?_; rintro e w1 ⟨rfl, hb1⟩; rw [hle1.out]; obtain ⟨xz, x0, x1, x2, x3, x4⟩ := hX0.grow hb1)
      | (go_at_call 17; refine (toGraph_any a cap g _ hl hv (ha.grow hA3)).mono ?_; rintro e w4 ⟨b4, bs4, rfl, hbb4, hown4, hb4⟩)
      | (go_at_call 17; refine (toGraph_any a cap g _ hl hv (ha.grow (gca (gal (gre _) _) hb1))).mono ?_; rintro e w2 ⟨b2, bs2, rfl, hbb2, hown2, hb2⟩)
      | (go_at_call 16; refine (specPack_any _ _ g _ hg hown2.at_).mono ?_; rintro e w3 ⟨oa3, cap3, rfl, hO3, hb3⟩; rw [← hp.out] at hO3 ⊢; have hA3 : Below w.heap.size w w3 := gca (gca (gca (gal (gre _) _) hb1) hb2) hb3; have hX3 := hX0.grow (gca (gca hb1 hb2) hb3); obtain ⟨xz, x0, x1, x2, x3, x4⟩ := id hX3; have hP3 := (owns_bytesO hO3).low)
      | (go_at_call 18; refine (implPack_any _ _ g _ hg (hown4.below (gal (gre _) _)).at_).mono ?_; rintro e w5 ⟨oa5, cap5, rfl, hM5, hb5⟩; rw [← hp.out] at hM5 ⊢; simp only [World.size_alloc] at hM5)
      | (go_at_call 19; refine (eqByteS_same _ _ p _ _ _ (by unfold maxLen; omega) hM5.at_ (hP3.below (gca (gal hb4 _) hb5)).at_).mono ?_; rintro e w6 ⟨rfl, hb6⟩))
    have hx6 := (GBox.new w4 g (some ⟨b4, 0, none⟩) g.nodes.length 33).grow (gca hb5 hb6)
    have hL6 : Below w3.heap.size w3 w6 := gca (gca (gal hb4 _) hb5) hb6
    have hX6 := hX3.grow hL6
    have hown6 := (hown4.below (gal (gre w4) (.cells #[.int .i64 g.root.kind, .int .i64 g.root.num, .string g.root.text, .int .i64 g.root.node, .slice (some ⟨b4, 0, none⟩) g.nodes.length g.nodes.length] 33))).below (gca hb5 hb6)
    have hM6 := hM5.grow hb6
    have hbx : ∀ b, Touch (some ⟨b4, 0, none⟩) g.nodes.length (fun i => some ⟨bs4 i, 0, none⟩) b → w3.heap.size ≤ b ∧ b < w4.heap.size := fun b hb => by have := hown4.touch hb; omega
    have hpX : w3.heap.size ≤ w4.heap.size := hb4.size
    generalize w4.heap.size = pX at hx6 hM6 hbx hpX ⊢
    clear hX0 hb1 hb2 hb3 hb4 hb5 hb6 hown2 hown4 hO3 hM5 hbb2 hbb4 xz x0 x1 x2 x3 x4
    have hB : Below w6.heap.size w6 w6.drew := gdr (gre _)
    refine wp_regionU (fun u => GBox u pX g (some ⟨b4, 0, none⟩) g.nodes.length ∧ GBox u w.heap.size g a cap) 99 (by kernel_rfl) ⟨hx6.grow hB, hX6.grow hB⟩ (fun _ => ?_)
    refine anyU_take (i := 0) (v := ?_) rfl (by kernel_rfl) (by kernel_rfl) (by kernel_rfl) (by kernel_rfl) (fun _ _ _ h => h) (Or.inl ⟨by rfl, ?_⟩) ⟨hx6.grow hB, hX6.grow hB⟩ ?_
    rotate_left
    · intro u hSu; obtain ⟨⟨_, s0, s1, s2, s3, s4⟩, ⟨_, t0, t1, t2, t3, t4⟩⟩ := hSu; go_simp <;> with_reducible rfl
    simp only [Act.put, List.getElem_toArray, List.getElem_cons_zero, List.setIfInBounds_toArray, List.set_cons_zero, List.set_cons_succ]
    refine anyU_take (i := 1) (v := ?_) rfl (by kernel_rfl) (by kernel_rfl) (by kernel_rfl) (by kernel_rfl) (fun _ _ _ h => h) (Or.inl ⟨by rfl, ?_⟩) ⟨hx6.grow hB, hX6.grow hB⟩ ?_
    rotate_left
    · intro u hSu; obtain ⟨⟨_, s0, s1, s2, s3, s4⟩, ⟨_, t0, t1, t2, t3, t4⟩⟩ := hSu; go_simp <;> with_reducible rfl
    simp only [Act.put, List.getElem_toArray, List.getElem_cons_zero, List.getElem_cons_succ, List.setIfInBounds_toArray, List.set_cons_zero, List.set_cons_succ]
    refine anyU_one (i := 2) (by kernel_rfl) rfl (fun K hK => ?_)
    go_simp
    refine (toGraph_any a cap g _ hl hv (ha.grow (gca hA3 (gca hL6 hB)))).mono ?_
    rintro e w7 ⟨b7, bs7, rfl, hbb7, hown7, hb7⟩
    have hB := gca hB hb7
    refine hK.out _ _ ⟨hx6.grow hB, hX6.grow hB⟩ ?_
    clear hK
    refine anyU_one (i := 3) (by kernel_rfl) rfl (fun K hK => ?_)
    go_simp
    refine (eqGraph_same _ _ _ _ g _ hg (hown6.at_.grow hB) hown7.at_).mono ?_
    rintro e w8 ⟨rfl, hb8⟩
    have hB := gca hB hb8
    refine hK.out _ _ ⟨hx6.grow hB, hX6.grow hB⟩ ?_
    clear hK
    refine anyU_one (i := 4) (by kernel_rfl) rfl (fun K hK => ?_)
    go_simp
    refine hK.out _ _ ⟨hx6.grow hB, hX6.grow hB⟩ ?_
    clear hK
    refine anyU_done (by kernel_rfl) ?_
    have hx8 := hx6.grow hB
    have hL8 := gca hL6 hB
    have hown8 := hown6.below hB
    have hM8 := hM6.grow hB
    clear hx6 hX6 hown6 hM6 hB hown7 hb7 hb8 hL6
    obtain ⟨xz, x0, x1, x2, x3, x4⟩ := id hx8
    have hm1 : mEnd 1 g.nodes ≤ 1099511627776 := by have h9 := mEnd_sz g.nodes 1; have h8 := g.root.sz_nonneg; have h7 := hs1; unfold GG.sz at h7; omega
    have hd2 : ¬ (((mEnd 1 g.nodes : Nat) : Int) < 0) := by omega
    obtain ⟨m1, hm1'⟩ := hid_ex (1 + p.length)
    have hd3 : ¬ ((m1 : Int) < 0) := by omega
    have hd4 : ((m1 : Int) != (m1 : Int)) = false := by simp
    go_wp2_with (first
      | (go_at_call 21; rw [show (1 : Int) = ((1 : Nat) : Int) by rfl]; refine (markGraph_any g _ _ _ _ 1 _ (by omega) hm1 (by unfold maxLen; omega) hown8.mg).mono ?_; rintro e w9 ⟨rfl, hK9, _⟩; have hL9 := hL8.trans (hK9.below hL8.size (fun k hk hp => by have := hbx _ hp; omega)); have hM9 := hM8.kept hK9 (fun b hb _ hp => by have := hbx _ hp; omega))
      | (go_at_call 19; refine (eqByteS_same _ _ p _ _ _ (by unfold maxLen; omega) hM14.at_ (hP3.below hL14).at_).mono ?_; rintro e w15 ⟨rfl, hb15⟩; have hL15 := gca hL14 hb15; have hM15 := hM12.grow (gca (gca hb13 hb14) hb15))
      | (go_at_call 19; refine (eqByteS_same _ _ p _ _ _ (by unfold maxLen; omega) hM9.at_ (hP3.below hL9).at_).mono ?_; rintro e w10 ⟨rfl, hb10⟩; have hL10 := gca hL9 hb10; have hM10 := hM9.grow hb10)
      | (go_at_call 22; rw [show (1 : Int) = ((1 : Nat) : Int) by rfl]; refine (markByteS_any oa5 p cap5 1 (pX + 1) _ (by omega) (by omega) hM10).mono ?_; rintro e w11 ⟨rfl, hM11, hK11⟩; rw [← hm1'.out]; have hL11 := hL10.trans (hK11.below hL10.size (fun k hk hp => by omega)))
      | (go_at_call 23; rw [show (1 : Int) = ((1 : Nat) : Int) by rfl]; refine (heldByteS_any oa5 p.length cap5 1 _ (by omega) (by omega) hM15.at_).mono ?_; rintro e w16 ⟨rfl, hb16⟩; rw [← hm1'.out])
      | (go_at_call 23; rw [show (1 : Int) = ((1 : Nat) : Int) by rfl]; refine (heldByteS_any oa5 p.length cap5 1 _ (by omega) (by omega) hM11.at_).mono ?_; rintro e w12 ⟨rfl, hb12⟩; rw [← hm1'.out]; have hL12 := gca hL11 hb12; have hM12 := hM11.grow hb12; obtain ⟨yz, y0, y1, y2, y3, y4⟩ := hX3.grow hL12)
      | (go_at_call 17; refine (toGraph_any a cap g _ hl hv (ha.grow (gca hA3 hL12))).mono ?_; rintro e w13 ⟨b13, bs13, rfl, hbb13, hown13, hb13⟩)
      | (go_at_call 18; refine (implPack_any _ _ g _ hg hown13.at_).mono ?_; rintro e w14 ⟨oa14, cap14, rfl, hM14, hb14⟩; rw [← hp.out] at hM14 ⊢; have hL14 := gca (gca hL12 hb13) hb14))
    go_ret
    exact ⟨rfl, gca hA3 (gca hL15 hb16)⟩
  · have hle1 : Hid (leftBy 1048576 g.sz = -1) := leftBy_neg (by omega)
    go_enter Try.func3, Try.ntmps3
    go_wp2_with (go_at_call 15; refine (szGraph_any a cap g _ _ hg (by decide) (by decide) (ha.grow (gal (gre _) _))).mono ?_; rintro e w1 ⟨rfl, hb1⟩; rw [hle1.out])
    go_ret
    exact ⟨rfl, gca (gal (gre _) _) hb1⟩

end Go.Proofs.Ythjddpkegooobab

/-
  OPEN: what the laws' graphs that come in read as. Own work.
-/
namespace Go.Proofs.Ythjddpkegooobab
open Go.RowKit Go.ChangeShapes Go.WideShapes Go.Deep

set_option maxRecDepth 100000 in
theorem cellsInt : Try.prog.cellsOf 3 = 1 := by kernel_rfl
theorem cellsInt64 : Try.prog.cellsOf 2 = 1 := by kernel_rfl
theorem cellsString : Try.prog.cellsOf 9 = 1 := by kernel_rfl
set_option maxRecDepth 100000 in
theorem cellsVal : Try.prog.cellsOf 23 = 4 := by kernel_rfl
theorem cellsNode : Try.prog.cellsOf 156 = 2 := by kernel_rfl
theorem cellsGraph : Try.prog.cellsOf 26 = 5 := by kernel_rfl
set_option maxRecDepth 100000 in
theorem cellsVals : Try.prog.cellsOf 154 = 1 := by kernel_rfl
theorem cellsNodes : Try.prog.cellsOf 24 = 1 := by kernel_rfl

set_option maxRecDepth 100000 in
theorem i64_of_wf {n : Int} (h : (Lit.int .i64 n).wf = true) : I64 n := by
  have h := bounds_i64 h
  unfold I64
  omega

section
variable {H : Type} {enc : TypeId × Value → H} {w : World} {base : Nat} {spare : Nat → Bool} {held : Bool}

set_option maxRecDepth 100000 in
theorem openVal {fuel : Nat} {cs : List Value} {x : DataW H × List MemPlace} (h : DataW.trod enc Try.prog w base spare held fuel 23 cs = some x) :
    ∃ v : GV, v.Ok ∧ cs = [.int .i64 v.kind, .int .i64 v.num, .string v.text, .int .i64 v.node] ∧ x.2 = [] := by
  obtain ⟨xs, n, _, rfl, hl, hlen, hf⟩ := DataW.trod_struct Try.underlying23 h
  rw [cellsVal] at hl
  match xs, hlen, cs, hl with
  | [y0, y1, y2, y3], _, [c0, c1, c2, c3], _ =>
    have h0 := hf 0 _ rfl
    have h1 := hf 1 _ rfl
    have h2 := hf 2 _ rfl
    have h3 := hf 3 _ rfl
    simp [cellsInt, cellsInt64, cellsString] at h0 h1 h2 h3
    obtain ⟨k, e0, rfl, w0⟩ := DataW.trod_int Try.underlying3 h0
    obtain ⟨m, e1, rfl, w1⟩ := DataW.trod_int Try.underlying2 h1
    obtain ⟨s, e2, rfl, w2⟩ := DataW.trod_string Try.underlying9 h2
    obtain ⟨q, e3, rfl, w3⟩ := DataW.trod_int Try.underlying3 h3
    simp at e0 e1 e2 e3
    subst e0 e1 e2 e3
    exact ⟨⟨k, m, s, q⟩, ⟨i64_of_wf w0, i64_of_wf w1, w2, i64_of_wf w3⟩, rfl, rfl⟩

set_option maxRecDepth 100000 in
/-- a list out of a family -/
theorem list_of {α : Type} [Inhabited α] {n : Nat} {p : Nat → α → Prop} (h : ∀ i, i < n → ∃ x, p i x) : ∃ l : List α, l.length = n ∧ ∀ i, i < n → p i l[i]! := by
  obtain ⟨f, hf⟩ := choose_lt h
  refine ⟨(List.range n).map f, by simp, fun i hi => ?_⟩
  have e : ((List.range n).map f)[i]! = f i := by
    rw [getElem!_pos _ i (by simpa using hi)]; simp
  rw [e]; exact hf i hi

set_option maxRecDepth 100000 in
theorem all_of_at {α : Type} [Inhabited α] {p : α → Prop} {l : List α} (h : ∀ i, i < l.length → p l[i]!) : ∀ x, x ∈ l → p x := fun x hx => by
  obtain ⟨i, hi, e⟩ := List.getElem_of_mem hx
  have := h i hi
  rwa [getElem!_pos l i hi, e] at this

set_option maxRecDepth 100000 in
/-- an address at which elements lie is a plain one -/
theorem plain_addr {a : Addr} {k : Nat} {cs : List Value} (hk : 0 < k) (h : w.cells? base (a.add (0 * k)) k = some cs) : a = ⟨a.block, a.off, none⟩ := by
  obtain ⟨_, hlen, hc⟩ := World.cells?_some h
  have h0 := hc 0 hk
  obtain ⟨b, off, spot⟩ := a
  match cs, hlen with
  | c :: _, _ =>
    have hspot : spot = none := by
      have h0' : w.cell? ((Addr.add ⟨b, off, spot⟩ (0 * k)).add 0) = some c := by simpa using h0
      simpa [Addr.add] using World.cell?_spot h0'
    rw [hspot]
  | [], h => simp at h; omega

set_option maxRecDepth 100000 in
theorem cells_plain {b off n : Nat} {cs : List Value} (h : w.cells? base ⟨b, off, none⟩ n = some cs) : cs.length = n ∧ ∀ i, i < n → w.cell? ⟨b, off + i, none⟩ = cs[i]? := by
  obtain ⟨_, hlen, hc⟩ := World.cells?_some h
  exact ⟨hlen, fun i hi => by rw [← add_plain]; exact hc i hi⟩

set_option maxRecDepth 100000 in
theorem openVals {fuel : Nat} {cs : List Value} {x : DataW H × List MemPlace} (h : DataW.trod enc Try.prog w base spare held fuel 154 cs = some x) :
    ∃ (a : Option Addr) (cap : Nat) (vs : List GV), cs = [.slice a vs.length cap] ∧ vs.length ≤ maxLen ∧ (∀ v, v ∈ vs → v.Ok) ∧ ValsAt w.heap.size w a vs := by
  rcases open_slice Try.underlying154 h with ⟨rfl, _⟩ | ⟨a, len, cap, m, n, D, Pl, rfl, hb, hl, hm, hmm, _, hx⟩
  · exact ⟨none, 0, [], rfl, Nat.zero_le _, fun v hv => (by cases hv), fun i hi => absurd hi (Nat.not_lt_zero _)⟩
  · rw [cellsVal] at hx
    have hle : len ≤ m := by rw [hmm]; split <;> omega
    obtain ⟨vs, hvl, hvs⟩ := list_of (α := GV) (n := len) (p := fun i v => v.Ok ∧ w.cells? base (a.add (i * 4)) 4 = some [.int .i64 v.kind, .int .i64 v.num, .string v.text, .int .i64 v.node]) (fun i hi => by
      obtain ⟨cs', h1, h2⟩ := hx i (by omega)
      obtain ⟨v, hv, e, _⟩ := openVal h2
      exact ⟨v, hv, by rw [h1, e]⟩)
    subst hvl
    refine ⟨some a, cap, vs, rfl, by omega, all_of_at fun i hi => (hvs i hi).1, fun i hi => ?_⟩
    have hp := plain_addr (by decide) (hvs 0 (by omega)).2
    refine ⟨a.block, a.off, by rw [← hp], ?_, ?_⟩
    · have h1 := (hvs i hi).2
      rw [hp, add_plain] at h1
      obtain ⟨_, h2⟩ := cells_plain h1
      have h3 := h2 0 (by decide)
      exact World.block_lt_of_cell? w ⟨a.block, a.off + i * 4 + 0, none⟩ h3
    · have h1 := (hvs i hi).2
      rw [hp, add_plain] at h1
      obtain ⟨_, h2⟩ := cells_plain h1
      exact ⟨h2 0 (by decide), h2 1 (by decide), h2 2 (by decide), h2 3 (by decide)⟩

set_option maxRecDepth 100000 in
theorem openNode {fuel : Nat} {cs : List Value} {x : DataW H × List MemPlace} (h : DataW.trod enc Try.prog w base spare held fuel 156 cs = some x) :
    ∃ (n : GN) (a : Option Addr) (cap : Nat), n.Ok ∧ cs = [.int .i64 n.tag, .slice a n.vals.length cap] ∧ ValsAt w.heap.size w a n.vals := by
  obtain ⟨xs, n, _, rfl, hl, hlen, hf⟩ := DataW.trod_struct Try.underlying156 h
  rw [cellsNode] at hl
  match xs, hlen, cs, hl with
  | [y0, y1], _, [c0, c1], _ =>
    have h0 := hf 0 _ rfl
    have h1 := hf 1 _ rfl
    simp [cellsInt, cellsVals] at h0 h1
    obtain ⟨k, e0, rfl, w0⟩ := DataW.trod_int Try.underlying3 h0
    obtain ⟨a, cap, vs, e1, hl1, hv1, ha1⟩ := openVals h1
    simp at e0 e1
    subst e0 e1
    exact ⟨⟨k, vs⟩, a, cap, ⟨i64_of_wf w0, hl1, hv1⟩, rfl, ha1⟩

set_option maxRecDepth 100000 in
theorem openNodes {fuel : Nat} {cs : List Value} {x : DataW H × List MemPlace} (h : DataW.trod enc Try.prog w base spare held fuel 24 cs = some x) :
    ∃ (a : Option Addr) (cap : Nat) (ns : List GN), cs = [.slice a ns.length cap] ∧ ns.length ≤ maxLen ∧ (∀ n, n ∈ ns → n.Ok) ∧ NodesAt w.heap.size w a ns := by
  rcases open_slice Try.underlying24 h with ⟨rfl, _⟩ | ⟨a, len, cap, m, n, D, Pl, rfl, hb, hl, hm, hmm, _, hx⟩
  · exact ⟨none, 0, [], rfl, Nat.zero_le _, fun v hv => (by cases hv), fun i hi => absurd hi (Nat.not_lt_zero _)⟩
  · rw [cellsNode] at hx
    have hle : len ≤ m := by rw [hmm]; split <;> omega
    obtain ⟨ns, hvl, hvs⟩ := list_of (α := GN) (n := len) (p := fun i n => n.Ok ∧ ∃ a' cap', w.cells? base (a.add (i * 2)) 2 = some [.int .i64 n.tag, .slice a' n.vals.length cap'] ∧ ValsAt w.heap.size w a' n.vals) (fun i hi => by
      obtain ⟨cs', h1, h2⟩ := hx i (by omega)
      obtain ⟨v, a', cap', hv, e, hva⟩ := openNode h2
      exact ⟨v, hv, a', cap', by rw [h1, e], hva⟩)
    subst hvl
    refine ⟨some a, cap, ns, rfl, by omega, all_of_at fun i hi => (hvs i hi).1, fun i hi => ?_⟩
    obtain ⟨_, _, _, hp0, _⟩ := hvs 0 (by omega)
    have hp := plain_addr (by decide) hp0
    obtain ⟨_, a', cap', h1, hva⟩ := hvs i hi
    rw [hp, add_plain] at h1
    obtain ⟨_, h2⟩ := cells_plain h1
    exact ⟨a.block, a.off, a', cap', by rw [← hp], World.block_lt_of_cell? w ⟨a.block, a.off + i * 2 + 0, none⟩ (h2 0 (by decide)), h2 0 (by decide), h2 1 (by decide), hva⟩

set_option maxRecDepth 100000 in
theorem openGraph {v : Value} {d : DataW H} {ps : List MemPlace} {r : Reach} {bs : Nat} (hv : Value.okWide Try.prog w r bs 26 v) (h : DataW.Trod enc Try.prog w base spare held 26 v d ps) :
    ∃ (g : GG) (a : Option Addr) (cap : Nat), g.Ok ∧ v = g.val a cap ∧ NodesAt w.heap.size w a g.nodes := by
  unfold Value.okWide at hv
  rw [Try.underlying26] at hv
  obtain ⟨cs, rfl, hsz, _⟩ := hv
  obtain ⟨fuel, h⟩ := h
  obtain ⟨xs, n, _, _, hl, hlen, hf⟩ := DataW.trod_struct Try.underlying26 h
  rw [cellsGraph] at hsz
  obtain ⟨l⟩ := cs
  match xs, hlen, l, hsz with
  | [y0, y1], _, [c0, c1, c2, c3, c4], _ =>
    have h0 := hf 0 _ rfl
    have h1 := hf 1 _ rfl
    simp [cellsVal, cellsNodes, Value.cells] at h0 h1
    obtain ⟨rv, hrv, e0, _⟩ := openVal h0
    obtain ⟨a, cap, ns, e1, hl1, hn1, ha1⟩ := openNodes h1
    simp at e0 e1
    obtain ⟨rfl, rfl, rfl, rfl⟩ := e0
    subst e1
    exact ⟨⟨rv, ns⟩, a, cap, ⟨hrv, hl1, hn1⟩, rfl, ha1⟩

end
end Go.Proofs.Ythjddpkegooobab

/-
  DONE: the row of FnExactPack, proved. Own work.
-/
namespace Go.Proofs.Ythjddpkegooobab
open Go.ChangeShapes Go.WideShapes Go.ChangeAt Go.RowKit

set_option maxRecDepth 100000 in
theorem ownPack : ownKnob Try.prog.godebug = none := by kernel_rfl
theorem laidOutPack : laidOutB Try.prog = true := by kernel_rfl

set_option maxRecDepth 100000 in
theorem liftedPack (os : Os) (started : os.Started) (H : Type) (enc : TypeId × Value → H) :
    ReturnsInHanded {} Try.checked os 3 .any (Rows.fnExactPackSpec.pre6 enc Try.prog Try.f3 Rows.fnExactPackRow.domain false) (Rows.fnExactPackSpec.post enc Try.prog Try.f3 false true false false) := by
  refine returnsInHanded_of_change (C := Try.checked) ownPack started (by kernel_rfl) Try.func3
    (ChangeSpec.witness6 (enc := enc) (C := Try.checked) false ⟨#[], #[.agg #[.int .i64 0, .int .i64 0, .string .empty, .int .i64 0, .slice none 0 0]], []⟩ 8 (by kernel_rfl) (by kernel_rfl) (by kernel_rfl) (by kernel_rfl)) ?_
  intro W base args ds gs before hval0 hW hcnd _
  have hval : ∀ (j : Nat) t v, Try.f3.params[j]? = some t → args[j]? = some v → Value.okWide Try.prog W .any base t v := hval0
  have hW' := hW
  obtain ⟨p, q, hA0, hV, rfl, hfz, hnd⟩ := hW
  have hA : DataW.TrodAll enc Try.prog W 0 (fun _ => true) true Try.f3.params.toList args.toList ds p := hA0
  rw [Try.params3] at hA hval
  obtain ⟨v0, vs0, d0, ds0, p0, q0, hargs, rfl, rfl, h0, r0⟩ := trodAll_cons hA
  obtain ⟨rfl, rfl, rfl⟩ := trodAll_nil r0
  obtain rfl : args = #[v0] := by cases args; simp_all
  obtain ⟨rfl, rfl⟩ := trodVars_none hV
  have k0 := h0
  have lt0 : ∀ x ∈ p0, x.block < W.heap.size := by obtain ⟨m, hm⟩ := k0; exact DataW.trod_lt m _ _ _ hm
  obtain ⟨g, a, cap, hg, rfl, ha⟩ := openGraph (hval 0 26 v0 rfl rfl) h0
  clear hA0 hval0
  refine (lawPack a cap g W hg ha).mono fun e W' ⟨he, bel⟩ => ?_
  subst he
  exact ⟨_, rfl, _, _, _, [], _, [], hW', trodAll_mk1 (shut_bool Try.underlying4 _), (trodAll_cons_mk (Below.trod laidOutPack (by kernel_rfl) (of_decide_eq_true (by kernel_rfl)) k0 bel lt0) trodAll_mk0), rfl, bel.frame _, fun h => by cases h⟩

set_option maxRecDepth 100000 in
theorem pack_holds : Rows.FnExactPackSaid :=
  OpenClaim.holds_of_wide 3 Try.f3 rfl rfl rfl rfl rfl rfl rfl ⟨rfl, rfl, rfl, rfl, rfl⟩ rfl rfl rfl rfl rfl (by kernel_rfl) Try.func3 (by kernel_rfl)
    (of_decide_eq_true (by kernel_rfl)) (by unfold Func.isWrapper; first | (rw [if_pos (by decide +kernel)]; kernel_rfl) | (rw [if_neg (by decide +kernel)]; exact ⟨rfl, rfl⟩))
    (fun os started H enc _ => liftedPack os started H enc)

end Go.Proofs.Ythjddpkegooobab
