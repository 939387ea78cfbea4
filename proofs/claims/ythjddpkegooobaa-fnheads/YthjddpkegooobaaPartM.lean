import Derived.Deep.QuietTactic
import Derived.BigQuiet
import Derived.Deep.RegionHeld3
import Derived.Test.YthjddpkegooobaaPartL

/-
  SSYNC: the specification's Sync and Crash. Own work.
-/
namespace Go.Proofs.Ythjddpkegooobaa
open Go.RowKit

theorem calls_args {P : Program} {f : Nat} {a b : Array Value} {w : World} {Q : Ending → World → Prop} (h : Calls P f a w Q) (e : a = b) : Calls P f b w Q := by subst e; exact h
theorem CPost.zero {w w' : World} (h : Below w.heap.size w w') : CPost zeroD w (.returned (.agg #[.slice none 0 0, .slice none 0 0])) w' := ⟨[], [], none, 0, none, 0, rfl, rfl, rfl, SB.nil _ _, SW.nil _ _, h⟩
theorem CPost.at_ {d : DD} {w w' : World} {e : Ending} (h : CPost d w e w') : SBPost d w e w' := by
  obtain ⟨lb, lw, ba, bc, wa, wc, rfl, h1, h2, h3, h4, h5⟩ := h
  refine ⟨_, rfl, ⟨?_, ?_⟩, h5⟩
  · have := h3.at_
    rwa [h1] at this
  · have := h4.at_
    rwa [h2] at this

set_option maxRecDepth 100000 in
theorem specCrash_any (d : DD) (l : DL) (ka : Option Addr) (ks : List Bool) (kc : Nat) (w : World) (hd : d.Ok) (ha : DAt w l d) (hkl : ks.length ≤ maxLen) (hk0 : BoolsAt w ka ks) : Calls Try.prog 34 #[d.val l, .slice ka ks.length kc] w (CPost (d.settle (keepOf ks)) w) := by
  have hA := gal (gal (gre w) (.cells #[.slice l.ba d.blocks.length l.bc, .slice l.wa d.waiting.length l.wc] 44)) (.cells #[.slice none 0 0, .slice none 0 0] 44)
  have hX0 := (DBox.new w d l 44).grow (gal (gre _) (.cells #[.slice none 0 0, .slice none 0 0] 44))
  have hR0 := VB.new_at (w.alloc (.cells #[.slice l.ba d.blocks.length l.bc, .slice l.wa d.waiting.length l.wc] 44)) (.slice none 0 0) (.slice none 0 0) 44 (w.heap.size + 1) (by simp)
  cases hok : d.ok with
  | false =>
    have hok' : Hid _ := hok
    clear hok
    rw [settle_no hok'.out]
    go_enter Try.func34, Try.ntmps34
    go_wp2_with (go_at_call 27; refine (specDiskOk_any d l _ hd (ha.grow hA)).mono ?_; rintro e w2 ⟨rfl, hb2⟩; rw [hok'.out]; obtain ⟨z0, z1, zf⟩ := hR0.grow hb2)
    obtain ⟨c0, c1, K⟩ := ret2 (A := .slice none 0 0) (B := .slice none 0 0) z0 z1
    refine bodyPost_ret (v := .agg #[.slice none 0 0, .slice none 0 0]) (by simp [results, Try.results34, go_sem, c0, c1]) rfl (CPost.zero ?_)
    exact (gca hA hb2).trans (K.below (gca hA hb2).size (fun z hz e => by omega))
  | true =>
    have hok' : Hid _ := hok
    clear hok
    rw [settle_yes hok'.out]
    obtain ⟨d', hd'⟩ := hid_ex (DD.mk (settleN (keepOf ks) d.blocks d.waiting d.waiting.length) [])
    rw [← hd'.out]
    go_enter Try.func34, Try.ntmps34
    go_wp2_with (first
      | (go_at_call 27; refine (specDiskOk_any d l _ hd (ha.grow hA)).mono ?_; rintro e w2 ⟨rfl, hb2⟩; rw [hok'.out]; obtain ⟨_, x0, x1⟩ := hX0.grow hb2)
      | (go_at_call 91; refine (l3settle_any d l ka ks kc _ (DD.fit hok'.out) (ha.grow (gca hA hb2)) hkl (hk0.grow (gca hA hb2))).mono ?_; rw [← hd'.out]; rintro e w3 ⟨lb, lw, ba, bc, wa, wc, rfl, hlb, hlw, hL3, hW3, hb3⟩; obtain ⟨z0, z1, zf⟩ := (hR0.grow hb2).grow hb3))
    have hball := gca (gca hA hb2) hb3
    obtain ⟨c0, c1, K⟩ := ret2 (A := .slice ba d'.blocks.length bc) (B := .slice wa d'.waiting.length wc) z0 z1
    have hRl : w.heap.size + 1 < w2.heap.size := by have := hb2.size; simp at this; omega
    have hfL := ((hL3.set (V := w.heap.size + 1) hRl 0 (.slice ba d'.blocks.length bc)).set (V := w.heap.size + 1) hRl 1 (.slice wa d'.waiting.length wc)).le (base' := w.heap.size) (by omega)
    have hfW := ((hW3.set (V := w.heap.size + 1) hRl 0 (.slice ba d'.blocks.length bc)).set (V := w.heap.size + 1) hRl 1 (.slice wa d'.waiting.length wc)).le (base' := w.heap.size) (by omega)
    refine bodyPost_ret (v := .agg #[.slice ba d'.blocks.length bc, .slice wa d'.waiting.length wc]) (by simp [results, Try.results34, go_sem, c0, c1]) rfl ⟨lb, lw, ba, bc, wa, wc, rfl, hlb, hlw, hfL, hfW, ?_⟩
    exact hball.trans (K.below hball.size (fun z hz e => by omega))

set_option maxRecDepth 100000 in
theorem specSync_any (d : DD) (l : DL) (w : World) (hd : d.Ok) (ha : DAt w l d) : Calls Try.prog 166 #[d.val l] w (CPost (d.settle keepAll) w) := by
  have hA := gal (gal (gre w) (.cells #[.slice l.ba d.blocks.length l.bc, .slice l.wa d.waiting.length l.wc] 44)) (.cells #[.slice none 0 0, .slice none 0 0] 44)
  have hX0 := (DBox.new w d l 44).grow (gal (gre _) (.cells #[.slice none 0 0, .slice none 0 0] 44))
  have hR0 := VB.new_at (w.alloc (.cells #[.slice l.ba d.blocks.length l.bc, .slice l.wa d.waiting.length l.wc] 44)) (.slice none 0 0) (.slice none 0 0) 44 (w.heap.size + 1) (by simp)
  cases hok : d.ok with
  | false =>
    have hok' : Hid _ := hok
    clear hok
    rw [settle_no hok'.out]
    go_enter Try.func166, Try.ntmps166
    go_wp2_with (go_at_call 27; refine (specDiskOk_any d l _ hd (ha.grow hA)).mono ?_; rintro e w2 ⟨rfl, hb2⟩; rw [hok'.out]; obtain ⟨z0, z1, zf⟩ := hR0.grow hb2)
    obtain ⟨c0, c1, K⟩ := ret2 (A := .slice none 0 0) (B := .slice none 0 0) z0 z1
    refine bodyPost_ret (v := .agg #[.slice none 0 0, .slice none 0 0]) (by simp [results, Try.results166, go_sem, c0, c1]) rfl (CPost.zero ?_)
    exact (gca hA hb2).trans (K.below (gca hA hb2).size (fun z hz e => by omega))
  | true =>
    have hok' : Hid _ := hok
    clear hok
    have hsn : settleN (keepOf (List.replicate d.waiting.length true)) d.blocks d.waiting d.waiting.length = settleN keepAll d.blocks d.waiting d.waiting.length := settleN_congr _ _ _ (fun i hi => keepOf_all hi)
    rw [settle_yes hok'.out, ← hsn]
    obtain ⟨d', hd'⟩ := hid_ex (DD.mk (settleN (keepOf (List.replicate d.waiting.length true)) d.blocks d.waiting d.waiting.length) [])
    rw [← hd'.out]
    clear hsn
    go_enter Try.func166, Try.ntmps166
    go_upto_region 3 with (go_at_call 27; refine (specDiskOk_any d l _ hd (ha.grow hA)).mono ?_; rintro e w2 ⟨rfl, hb2⟩; rw [hok'.out])
    have hX2 := hX0.grow hb2
    have hR2 := hR0.grow hb2
    have hb2A := gca hA hb2
    refine wp_regionU (fun u => DBox u w.heap.size d l) 6 (by kernel_rfl) (hX2.grow (gdr (gre w2))) (fun hS0 => ?_)
    have hRd := hR2.grow (gdr (gre w2))
    have hbd := gdr hb2A
    generalize w2.drew = wd at hRd hbd hS0 ⊢
    refine anyU_take (i := 0) (v := ?_) rfl (by kernel_rfl) (by kernel_rfl) (by kernel_rfl) (by kernel_rfl) (fun _ _ _ h => h) (Or.inl ⟨by rfl, ?_⟩) hS0 ?_
    rotate_left
    · intro u hSu; obtain ⟨_, s0, s1⟩ := hSu; go_simp <;> with_reducible rfl
    simp only [Act.put, List.getElem_toArray, List.getElem_cons_zero, List.setIfInBounds_toArray, List.set_cons_zero, List.set_cons_succ]
    refine anyU_take (i := 1) (v := ?_) rfl (by kernel_rfl) (by kernel_rfl) (by kernel_rfl) (by kernel_rfl) (fun _ _ _ h => h) (Or.inl ⟨by rfl, ?_⟩) hS0 ?_
    rotate_left
    · intro u hSu; obtain ⟨_, s0, s1⟩ := hSu; go_simp <;> with_reducible rfl
    simp only [Act.put, List.getElem_toArray, List.getElem_cons_zero, List.getElem_cons_succ, List.setIfInBounds_toArray, List.set_cons_zero, List.set_cons_succ]
    refine anyU_take (i := 2) (v := ?_) rfl (by kernel_rfl) (by kernel_rfl) (by kernel_rfl) (by kernel_rfl) (fun _ _ _ h => h) (Or.inl ⟨by rfl, ?_⟩) hS0 ?_
    rotate_left
    · intro u hSu; obtain ⟨_, s0, s1⟩ := hSu; go_simp <;> with_reducible rfl
    simp only [Act.put, List.getElem_toArray, List.getElem_cons_zero, List.getElem_cons_succ, List.setIfInBounds_toArray, List.set_cons_zero, List.set_cons_succ]
    refine anyU_take (i := 3) (v := ?_) rfl (by kernel_rfl) (by kernel_rfl) (by kernel_rfl) (by kernel_rfl) (fun _ _ _ h => h) (Or.inl ⟨by rfl, ?_⟩) hS0 ?_
    rotate_left
    · intro u hSu; obtain ⟨_, s0, s1⟩ := hSu; go_simp <;> with_reducible rfl
    simp only [Act.put, List.getElem_toArray, List.getElem_cons_zero, List.getElem_cons_succ, List.setIfInBounds_toArray, List.set_cons_zero, List.set_cons_succ]
    refine anyU_one (i := 4) (by kernel_rfl) rfl (fun K hK => ?_)
    go_simp
    refine (l3all_any d.waiting.length _ (by have := (DD.fit hok'.out).wl; omega)).mono ?_
    rintro e w3 ⟨kb, rfl, hks, hb3⟩
    have hS3 := hS0.grow hb3
    refine hK.out _ _ hS3 ?_
    clear hK
    refine anyU_one (i := 5) (by kernel_rfl) rfl (fun K hK => ?_)
    go_simp
    have hll : (List.replicate d.waiting.length true).length = d.waiting.length := List.length_replicate
    refine (calls_args (l3settle_any d l (some ⟨kb, 0, none⟩) (List.replicate d.waiting.length true) d.waiting.length w3 (DD.fit hok'.out) (ha.grow (gca hbd hb3)) (by rw [hll]; exact hd.wl) hks) (by rw [hll])).mono ?_
    rw [← hd'.out]
    rintro e w4 ⟨lb, lw, ba, bc, wa, wc, rfl, hlb, hlw, hL4, hW4, hb4⟩
    have hS4 := hS3.grow hb4
    refine hK.out _ _ hS4 ?_
    clear hK
    have hR4 := (hRd.grow hb3).grow hb4
    have z0 := hR4.v0
    have z1 := hR4.v1
    have zf := hR4.vf
    refine anyU_last (by kernel_rfl) rfl (by kernel_rfl) (fun K hK => ?_)
    go_simp
    refine hK.out _ _ ?_
    clear hK
    have hball := gca (gca hbd hb3) hb4
    go_wp2
    obtain ⟨c0, c1, K⟩ := ret2 (A := .slice ba d'.blocks.length bc) (B := .slice wa d'.waiting.length wc) z0 z1
    have hRl : w.heap.size + 1 < w3.heap.size := by have := hRd.lt; have := hb3.size; omega
    have hfL := ((hL4.set (V := w.heap.size + 1) hRl 0 (.slice ba d'.blocks.length bc)).set (V := w.heap.size + 1) hRl 1 (.slice wa d'.waiting.length wc)).le (base' := w.heap.size) (by omega)
    have hfW := ((hW4.set (V := w.heap.size + 1) hRl 0 (.slice ba d'.blocks.length bc)).set (V := w.heap.size + 1) hRl 1 (.slice wa d'.waiting.length wc)).le (base' := w.heap.size) (by omega)
    refine bodyPost_ret (v := .agg #[.slice ba d'.blocks.length bc, .slice wa d'.waiting.length wc]) (by simp [results, Try.results166, go_sem, c0, c1]) rfl ⟨lb, lw, ba, bc, wa, wc, rfl, hlb, hlw, hfL, hfW, ?_⟩
    exact hball.trans (K.below hball.size (fun z hz e => by omega))

end Go.Proofs.Ythjddpkegooobaa

/-
  HDPLAIN: a head, written onto a blank disk, plain. Own work.
-/
namespace Go.Proofs.Ythjddpkegooobaa
open Go.RowKit

/-- a blank disk on which a block was written and kept -/
def oneD (m : Nat) (bs : List Nat) : DD := ⟨setB blankD.blocks ⟨(m : Int), bs⟩, []⟩
theorem blank_okB : blankD.ok = true := by decide +kernel
theorem put_blank {m : Nat} {bs : List Nat} (hm : m < 130) (hl : bs.length = 64) : blankD.put (m : Int) bs = ⟨blankD.blocks, [⟨(m : Int), bs⟩]⟩ := by
  have h1 : wrOk ⟨(m : Int), bs⟩ = true := by simp [wrOk, hl]; omega
  unfold DD.put
  rw [blank_okB, h1]
  rfl
theorem fit_ok {d : DD} (h : d.Fit) : d.ok = true := by
  unfold DD.ok
  simp only [Bool.and_eq_true, decide_eq_true_eq, List.all_eq_true]
  refine ⟨⟨⟨h.bl, h.wl⟩, fun b hb => by simpa [blOk] using h.bb b hb⟩, fun x hx => ?_⟩
  have := h.wb x hx
  simp only [wrOk, Bool.and_eq_true, decide_eq_true_eq]
  exact ⟨⟨this.1, this.2.1⟩, this.2.2⟩
theorem blank_fitH : blankD.Fit := DD.fit blank_okB
theorem putd_fit {m : Nat} {bs : List Nat} (hm : m < 130) (hl : bs.length = 64) : (DD.mk blankD.blocks [⟨(m : Int), bs⟩]).Fit :=
  ⟨blank_fitH.bl, by simp, blank_fitH.bb, fun x hx => by
    obtain rfl : x = ⟨(m : Int), bs⟩ := by simpa using hx
    exact ⟨by simp, by simp only; omega, hl⟩⟩
theorem oneD_fit {m : Nat} {bs : List Nat} (hl : bs.length = 64) : (oneD m bs).Fit :=
  ⟨by show (setB _ _).length = 130; rw [setB_length]; exact blank_fitH.bl, by simp [oneD], setB_all (p := fun b => b.length = 64) blank_fitH.bb hl, fun x hx => by cases hx⟩
theorem settle_put {m : Nat} {bs : List Nat} (hm : m < 130) (hl : bs.length = 64) : (DD.mk blankD.blocks [⟨(m : Int), bs⟩]).settle keepAll = oneD m bs := by
  unfold DD.settle
  rw [if_pos (fit_ok (putd_fit hm hl))]
  rfl
theorem blank_byte : ∀ b, b ∈ blankD.blocks → BOk b := fun b hb => by
  rw [List.eq_of_mem_replicate hb]
  exact ⟨by simp [maxLen], fun x hx => by rw [List.eq_of_mem_replicate hx]; decide⟩
theorem putd_okD {m : Nat} {bs : List Nat} (hm : m < 130) (hb : BOk bs) : (DD.mk blankD.blocks [⟨(m : Int), bs⟩]).Ok :=
  ⟨by rw [blank_fitH.bl]; decide, blank_byte, by show 1 ≤ maxLen; decide, fun x hx => by
    obtain rfl : x = ⟨(m : Int), bs⟩ := by simpa using hx
    unfold I64; simp only; omega, fun x hx => by
    obtain rfl : x = ⟨(m : Int), bs⟩ := by simpa using hx
    exact hb⟩
theorem oneD_okD {m : Nat} {bs : List Nat} (hb : BOk bs) : (oneD m bs).Ok :=
  ⟨by show (setB _ _).length ≤ maxLen; rw [setB_length, blank_fitH.bl]; decide, setB_all blank_byte hb, by show 0 ≤ maxLen; exact Nat.zero_le _, fun x hx => (by cases hx), fun x hx => (by cases hx)⟩
theorem oneD_rd {m k : Nat} {bs : List Nat} (hk : k < 130) : (oneD m bs).rd k = if k = m then bs else List.replicate 64 0 := by
  show (setB blankD.blocks ⟨(m : Int), bs⟩)[((k : Nat) : Int).toNat]! = _
  rw [Int.toNat_natCast, setB_get (by rw [blank_fitH.bl]; exact hk)]
  simp only [Int.toNat_natCast]
  split
  · rfl
  · rw [getElem!_pos blankD.blocks k (by rw [blank_fitH.bl]; exact hk)]
    exact List.eq_of_mem_replicate (n := 130) (List.getElem_mem _)
theorem headOf_zero : headOf (List.replicate 64 0) = noH := headOf_no fun x hx => by
  have h := congrArg (fun l => l[0]!) hx.eq
  simp [headB, headN] at h
theorem heads_plain {slot : Nat} {gen len sum : Int} (hs : slot < 2) (hk : headOkB true gen len = true) (hsum : I64 sum) :
    (oneD slot (headB gen len sum)).headOf (slot : Int) = ⟨true, gen, len, sum⟩ ∧ (oneD slot (headB gen len sum)).headOf (1 - (slot : Int)) = noH := by
  have hf := fit_ok (oneD_fit (m := slot) (headB_length gen len sum))
  refine ⟨?_, ?_⟩
  · refine (if_pos ⟨hf, by omega, by omega⟩).trans ?_
    rw [Int.toNat_natCast, oneD_rd (by omega), if_pos rfl]
    exact headOf_yes ⟨rfl, hk, hsum, rfl⟩
  · refine (if_pos ⟨hf, by omega, by omega⟩).trans ?_
    rw [show (1 - (slot : Int)).toNat = 1 - slot by omega, oneD_rd (by omega), if_neg (by omega)]
    exact headOf_zero

end Go.Proofs.Ythjddpkegooobaa

/-
  WSAME: the laws' comparisons, where both are the same. Own work.
-/
namespace Go.Proofs.Ythjddpkegooobaa
open Go.RowKit

set_option maxRecDepth 100000 in
theorem wBytes_same (a a' : Option Addr) (bs : List Nat) (cap cap' : Nat) (w : World) (hl : bs.length ≤ maxLen) (ha : BytesAt w a bs) (ha' : BytesAt w a' bs) :
    Calls Try.prog 18 #[.slice a bs.length cap, .slice a' bs.length cap'] w fun e w' => e = .returned (.bool true) ∧ Below w.heap.size w w' := by
  unfold maxLen at hl
  have hne : ((bs.length : Int) != (bs.length : Int)) = false := by simp
  go_enter Try.func18, Try.ntmps18
  go_wp2
  go_loopw [13] (fun i wr => ∃ (k : Nat), k ≤ bs.length ∧ i = .int .i64 k ∧ Below w.heap.size w wr) (fun i _ => bs.length - (intOf i).toNat)
  case atStart => exact ⟨0, Nat.zero_le _, rfl, gre _⟩
  case round =>
    obtain ⟨k, hk, rfl, hb⟩ := hrel
    by_cases hlt : k < bs.length
    · obtain ⟨x, b, off, hxk, hxm, rfl, hc⟩ := (ha.grow hb).get hlt
      obtain ⟨y, b', off', hyk, hym, rfl, hc'⟩ := (ha'.grow hb).get hlt
      obtain rfl : y = x := by rw [hyk.out, hxk.out]
      have hn2 : ((y : Int) != (y : Int)) = false := by simp
      go_wp2_with (go_quiet (fail))
      go_roundw
      case rel => exact ⟨k + 1, by omega, by go_num, hb.trans ⟨rfl, rfl, rfl, Nat.le_refl _, fun _ _ => rfl⟩⟩
      case measure => simp [intOf]; omega
    · go_wp2
      go_ret
      exact ⟨rfl, hb⟩

/-- a graph's own variable -/
structure WBox (w : World) (p : Nat) (s : Value) : Prop where
  c4 : w.cell? ⟨p, 4, none⟩ = some s
theorem WBox.grow {w w' : World} {p : Nat} {s : Value} (h : WBox w p s) (hb : Below w.heap.size w w') : WBox w' p s := ⟨(World.cell?_of_block (w := w) (hb.block p (World.block_lt_of_cell? w ⟨p, 4, none⟩ h.c4))).trans h.c4⟩

set_option maxHeartbeats 4000000 in
set_option maxRecDepth 100000 in
theorem wGraph_same (a a' : Option Addr) (cap cap' : Nat) (g : GG) (w : World) (hg : g.Ok) (ha : NodesAt w.heap.size w a g.nodes) (ha' : NodesAt w.heap.size w a' g.nodes) :
    Calls Try.prog 13 #[g.val a cap, g.val a' cap'] w fun e w' => e = .returned (.bool true) ∧ Below w.heap.size w w' := by
  have hgl := hg.len
  unfold maxLen at hgl
  have hne : ((g.nodes.length : Int) != (g.nodes.length : Int)) = false := by simp
  have hA := gal (gal (gre w) (.cells #[.int .i64 g.root.kind, .int .i64 g.root.num, .string g.root.text, .int .i64 g.root.node, .slice a g.nodes.length cap] 27)) (.cells #[.int .i64 g.root.kind, .int .i64 g.root.num, .string g.root.text, .int .i64 g.root.node, .slice a' g.nodes.length cap'] 27)
  have hX0 : WBox ((w.alloc (.cells #[.int .i64 g.root.kind, .int .i64 g.root.num, .string g.root.text, .int .i64 g.root.node, .slice a g.nodes.length cap] 27)).alloc (.cells #[.int .i64 g.root.kind, .int .i64 g.root.num, .string g.root.text, .int .i64 g.root.node, .slice a' g.nodes.length cap'] 27)) w.heap.size (.slice a g.nodes.length cap) := WBox.grow ⟨by simp⟩ (gal (gre _) _)
  have hY0 : WBox ((w.alloc (.cells #[.int .i64 g.root.kind, .int .i64 g.root.num, .string g.root.text, .int .i64 g.root.node, .slice a g.nodes.length cap] 27)).alloc (.cells #[.int .i64 g.root.kind, .int .i64 g.root.num, .string g.root.text, .int .i64 g.root.node, .slice a' g.nodes.length cap'] 27)) (w.heap.size + 1) (.slice a' g.nodes.length cap') := by
    have e : (w.alloc (.cells #[.int .i64 g.root.kind, .int .i64 g.root.num, .string g.root.text, .int .i64 g.root.node, .slice a g.nodes.length cap] 27)).heap.size = w.heap.size + 1 := by simp
    rw [← e]; exact ⟨by simp⟩
  go_enter Try.func13, Try.ntmps13
  go_wp2
  generalize (w.alloc (.cells #[.int .i64 g.root.kind, .int .i64 g.root.num, .string g.root.text, .int .i64 g.root.node, .slice a g.nodes.length cap] 27)).alloc (.cells #[.int .i64 g.root.kind, .int .i64 g.root.num, .string g.root.text, .int .i64 g.root.node, .slice a' g.nodes.length cap'] 27) = wA at hA hX0 hY0 ⊢
  go_loopw [24] (fun i wr => ∃ k : Nat, k ≤ g.nodes.length ∧ i = .int .i64 k ∧ Below wA.heap.size wA wr) (fun i _ => g.nodes.length - (intOf i).toNat)
  case atStart => exact ⟨0, Nat.zero_le _, rfl, gre _⟩
  case round =>
    obtain ⟨k, hk, rfl, hb⟩ := hrel
    by_cases hlt : k < g.nodes.length
    · have hB := gca hA hb
      obtain ⟨n, b, off, av, cv, hvk, hvm, rfl, hbs, hva⟩ := (ha.grow hB).get hlt
      obtain ⟨n', b', off', av', cv', hvk', hvm', rfl, hbs', hva'⟩ := (ha'.grow hB).get hlt
      obtain rfl : n' = n := by rw [hvk.out, hvk'.out]
      have x4 := (hX0.grow hb).c4
      have y4 := (hY0.grow hb).c4
      have c0 := hva.tag
      have c1 := hva.sl
      have d0 := hva'.tag
      have d1 := hva'.sl
      have hv1 := hva.vals
      have hv2 := hva'.vals
      have i0 : (0 : Int) ≤ (k : Int) := by omega
      have i1 : (k : Int) < (g.nodes.length : Int) := by omega
      have hnl := (hg.nodes n' hvm).len
      unfold maxLen at hnl
      have t1 : ((n'.tag : Int) != n'.tag) = false := by simp
      have t2 : ((n'.vals.length : Int) != (n'.vals.length : Int)) = false := by simp
      clear hva hva' hvk hvk' ha ha'
      go_wp2_with (go_quiet (fail))
      rename World => wB
      go_loopw [64] (fun i wr2 => ∃ j : Nat, j ≤ n'.vals.length ∧ i = .int .i64 j ∧ Below wB.heap.size wB wr2) (fun i _ => n'.vals.length - (intOf i).toNat)
      case atStart => exact ⟨0, Nat.zero_le _, rfl, by first | exact gre _ | exact (gre wB).trans ⟨rfl, rfl, rfl, Nat.le_refl _, fun _ _ => rfl⟩⟩
      case round =>
        obtain ⟨j, hj, rfl, hb2⟩ := hrel
        by_cases hlt2 : j < n'.vals.length
        · obtain ⟨v, vb, vo, hvj, hvm2, rfl, hvb, hvv⟩ := (hv1.grow hb2).get hlt2
          obtain ⟨v', vb', vo', hvj', hvm2', rfl, hvb', hvv'⟩ := (hv2.grow hb2).get hlt2
          obtain rfl : v' = v := by rw [hvj.out, hvj'.out]
          have c1' := cell_later hb2 c1
          have d1' := cell_later hb2 d1
          have x4' := cell_later hb2 x4
          have y4' := cell_later hb2 y4
          have e0 := hvv.kind
          have e1 := hvv.num
          have e2 := hvv.text
          have e3 := hvv.node
          have f0 := hvv'.kind
          have f1 := hvv'.num
          have f2 := hvv'.text
          have f3 := hvv'.node
          have j0 : (0 : Int) ≤ (j : Int) := by omega
          have j1 : (j : Int) < (n'.vals.length : Int) := by omega
          clear hvv hvv' hvj hvj' c0 c1 d0 d1 x4 y4 hv1 hv2
          go_wp2_with (go_quiet (fail))
          go_roundw
          case rel => exact ⟨j + 1, by omega, by go_num, by first | exact hb2 | exact hb2.trans ⟨rfl, rfl, rfl, Nat.le_refl _, fun _ _ => rfl⟩⟩
          case measure => simp [intOf]; omega
        · go_wp2
          go_roundw
          case rel => exact ⟨k + 1, by omega, by go_num, gca hb hb2⟩
          case measure => simp [intOf]; omega
    · go_wp2
      go_ret
      exact ⟨rfl, gca hA hb⟩

end Go.Proofs.Ythjddpkegooobaa

/-
  DREAD: the drive reads. Own work.
-/
namespace Go.Proofs.Ythjddpkegooobaa
open Go.RowKit

theorem results_cell_mid {P : Program} {fn : Func} {p : Tmp} {ty : TypeId} (h : fn.results = #[.cell p ty]) (tmps : Array Value) (w : World) (g o : Nat) (cs : List Value) (d : TypeDesc)
    (hp : tmps.getD p undef = .pointer (some ⟨g, o, none⟩)) (hc : w.rangeAt g o cs) (hu : P.underlying ty = some d) (hd : d.isRow = true) (hi : (P.info? ty).map (·.size) = some cs.length) :
    (results fn tmps).run P w = .ok (.agg cs.toArray) w := by
  have hp' : tmps[p]?.getD undef = .pointer (some ⟨g, o, none⟩) := by simpa [Array.getD_eq_getD_getElem?] using hp
  simp [results, h, hp', asAddr, run_loadVar_mid w g o ty cs d hc hu hd hi]

/-- while it looks for the last write -/
structure RdS (w wr : World) (A B : Nat) (cur : List Nat) : Prop where
  bel : Below w.heap.size w wr
  ta : wr.there A 0 64
  rb : wr.rangeAt B 0 (bcells cur)
  tb : wr.there B 0 64
  len : cur.length = 64
theorem RdS.grow {w wr w' : World} {A B : Nat} {cur : List Nat} (h : RdS w wr A B cur) (hb : Below wr.heap.size wr w') (hA : A < wr.heap.size) (hB : B < wr.heap.size) : RdS w w' A B cur :=
  ⟨gca h.bel hb, there_same h.ta (hb.block A hA), range_same h.rb (hb.block B hB), there_same h.tb (hb.block B hB), h.len⟩
theorem there_lt {w : World} {b o n : Nat} (h : w.there b o n) (hn : 0 < n) : b < w.heap.size := by
  obtain ⟨v, hv⟩ := Option.isSome_iff_exists.1 (h 0 hn).1
  exact World.block_lt_of_cell? w ⟨b, o + 0, none⟩ hv

set_option maxHeartbeats 4000000 in
set_option maxRecDepth 100000 in
theorem read_any (p : Nat) (bl : List (List Nat)) (pa : Option Addr) (pc : Nat) (ws : List DW) (kv : Value) (b : Int) (w : World) (hb0 : 0 ≤ b) (hb1 : b < 130) (hw : ws.length ≤ 201) (h : Dr w p bl pa pc ws kv) :
    Calls Try.prog 88 #[.pointer (some ⟨p, 0, none⟩), .int .i64 b] w fun e w' => e = .returned (.agg (bcells (readN bl ws b ws.length)).toArray) ∧ Below w.heap.size w w' := by
  obtain ⟨m, rfl⟩ : ∃ m : Nat, b = (m : Int) := ⟨b.toNat, by omega⟩
  have hm : m < 130 := by omega
  have hz64 := (zero_of_info zero_content).1
  have hz65 := (zero_of_info zero_pending).1
  have hlen := h.d.len
  have h64 := h.d.all64
  obtain ⟨c0, hc0⟩ := hid_ex bl[m]!
  have hl0 : c0.length = 64 := by rw [hc0.out]; exact h64 _ (mem_at (by omega))
  have hcl : (bcells c0).length = 64 := by rw [bcells_length, hl0]
  have hr1 : (w.alloc (.cells (zeros 64).toArray 110)).rangeAt p (m * 64) (bcells c0) := by rw [hc0.out]; exact World.rangeAt_alloc (h.d.rng m hm) _
  go_enter Try.func88, Try.ntmps88
  go_upto_region 2 with (first
    | (refine wpList_load_mid rfl 110 _ rfl p (m * 64) rfl (bcells c0) _ hr1 Try.underlying110 rfl (by rw [size_content, hcl]) ?_)
    | (refine wpList_alloc_big rfl 110 rfl _ hz64 ?_)
    | (refine wpList_store_new rfl 110 _ _ rfl _ (bcells c0).toArray rfl rfl (by rw [size_content]; simp [hcl]) (by simp [zeros, hcl]) (all_oneCell_toArray cells_u8) ?_))
  have e0 : (w.alloc (.cells (zeros 64).toArray 110)).heap.size = w.heap.size + 1 := by simp
  try rw [e0]
  have hS0 : RdS w ((w.alloc (.cells (zeros 64).toArray 110)).alloc (.cells (bcells c0).toArray 110)) w.heap.size (w.heap.size + 1) c0 := by
    have e1 : (w.alloc (.cells (zeros 64).toArray 110)).heap.size = w.heap.size + 1 := by simp
    have r := range_new (w.alloc (.cells (zeros 64).toArray 110)) (bcells c0) 110
    have t := there_new (w.alloc (.cells (zeros 64).toArray 110)) (bcells c0) 110
    have t0 := there_new w (zeros 64) 110
    rw [e1] at r t
    rw [hcl] at t
    rw [show (zeros 64).length = 64 from List.length_replicate] at t0
    exact ⟨gal (gal (gre _) _) _, World.there_alloc t0 _, r, t, hl0⟩
  generalize (w.alloc (.cells (zeros 64).toArray 110)).alloc (.cells (bcells c0).toArray 110) = wA at hS0 ⊢
  obtain ⟨A, hA⟩ := hid_ex w.heap.size
  obtain ⟨B, hB⟩ := hid_ex (w.heap.size + 1)
  rw [← hB.out] at hS0 ⊢
  rw [← hA.out] at hS0 ⊢
  have hAB : A < B := by rw [hA.out, hB.out]; omega
  have hDr := h.grow hS0.bel
  have x0 := hDr.d.ws
  clear hr1 hcl hDr
  go_wp2
  go_loopw [19] (fun i wr => ∃ (k : Nat) (cur : List Nat), k ≤ ws.length ∧ i = .int .i64 k ∧ Hid (cur = readN bl ws (m : Int) k) ∧ RdS w wr A B cur) (fun i _ => ws.length - (intOf i).toNat)
  case atStart => exact ⟨0, c0, Nat.zero_le _, rfl, by show _ = _; rw [hc0.out]; rfl, hS0⟩
  case round =>
    obtain ⟨k, cur, hk, rfl, hcur, hS⟩ := hrel
    have hAl := there_lt hS.ta (by decide)
    have hBl := there_lt hS.tb (by decide)
    by_cases hlt : k < ws.length
    · have hDrk := h.grow hS.bel
      obtain ⟨g, rfl, _, hgl, hrg⟩ := owns_pend hDrk.own hDrk.w64 hlt
      obtain ⟨n, hn⟩ := hid_ex ws[k]!
      rw [← hn.out] at hrg
      have hn64 : Hid (n.bytes.length = 64) := by show _ = _; rw [hn.out]; exact h.w64 _ (mem_at hlt)
      have hpl : n.pc.length = 65 := pc_length hn64.out
      have hbl64 : (bcells n.bytes).length = 64 := by rw [bcells_length]; exact hn64.out
      have i0 : (0 : Int) ≤ (k : Int) := by omega
      have i1 : (k : Int) < (ws.length : Int) := by omega
      clear hDrk
      go_upto_region 5 with (first
        | (refine wpList_load_mid rfl 166 _ rfl g (k * 65) rfl n.pc _ hrg Try.underlying166 rfl (by rw [size_pending, hpl]) ?_)
        | (refine wpList_alloc_big rfl 166 rfl _ hz65 ?_)
        | (refine wpList_store_new rfl 166 _ _ rfl _ n.pc.toArray rfl rfl (by rw [size_pending]; simp [hpl]) (by simp [zeros, hpl]) (all_oneCell_toArray pc_one) ?_))
      have hSA := hS.grow (gal (gre wr) (.cells n.pc.toArray 166)) hAl hBl
      have hrn := range_new wr n.pc 166
      have hby : (wr.alloc (.cells n.pc.toArray 166)).rangeAt wr.heap.size 1 (bcells n.bytes) := range_drop (cs := [.int .i64 n.block]) hrn
      have hq0 : (wr.alloc (.cells n.pc.toArray 166)).cell? ⟨wr.heap.size, 0, none⟩ = some (.int .i64 n.block) := hrn 0 _ rfl
      generalize wr.alloc (.cells n.pc.toArray 166) = wC at hSA hby hq0 ⊢
      clear hrn hS
      generalize wr.heap.size = Q at hby hq0 hAl hBl ⊢
      by_cases heq : n.block = (m : Int)
      · have t1 : (n.block == (m : Int)) = true := by simp [heq]
        have hst : Hid (n.bytes = readN bl ws (m : Int) (k + 1)) := by show _ = _; simp only [readN]; rw [← hn.out, if_pos heq]
        clear heq
        go_wp2_with (first
          | (refine wpList_load_mid rfl 110 _ rfl Q 1 rfl (bcells n.bytes) _ hby Try.underlying110 rfl (by rw [size_content, hbl64]) ?_)
          | (refine wpList_store_mid rfl 110 _ _ rfl B 0 (bcells n.bytes).toArray rfl rfl (by rw [List.size_toArray, hbl64]; exact hSA.tb) (by rw [size_content, List.size_toArray, hbl64]) (all_oneCell_toArray cells_u8) ?_))
        go_roundw
        case rel =>
          refine ⟨k + 1, n.bytes, by omega, by go_num, hst, ?_⟩
          exact ⟨(Kept.setCells (p := fun z => z = B) _ _ (Kept.refl _ wC) (fun _ => rfl)).below (by have := hSA.bel.size; omega) (fun z hz e => by have := hB.out; omega) |> hSA.bel.trans, World.there_setCells hSA.ta _ _ _, World.rangeAt_setCells_same _ _ _ _ (by rw [hbl64]; exact hSA.tb), World.there_setCells hSA.tb _ _ _, hn64.out⟩
        case measure => simp [intOf]; omega
      · have t1 : (n.block == (m : Int)) = false := by simpa using heq
        have hst : Hid (cur = readN bl ws (m : Int) (k + 1)) := by show _ = _; simp only [readN]; rw [← hn.out, if_neg heq, hcur.out]
        clear heq
        go_wp2
        go_roundw
        case rel => exact ⟨k + 1, cur, by omega, by go_num, hst, hSA⟩
        case measure => simp [intOf]; omega
    · obtain rfl : k = ws.length := by omega
      have hcl : (bcells cur).length = 64 := by rw [bcells_length, hS.len]
      go_wp2_with (first
        | (refine wpList_load_mid rfl 110 _ rfl B 0 rfl (bcells cur) _ hS.rb Try.underlying110 rfl (by rw [size_content, hcl]) ?_)
        | (refine wpList_store_mid rfl 110 _ _ rfl A 0 (bcells cur).toArray rfl rfl (by rw [List.size_toArray, hcl]; exact hS.ta) (by rw [size_content, List.size_toArray, hcl]) (all_oneCell_toArray cells_u8) ?_))
      refine bodyPost_ret (results_cell_mid Try.results88 _ _ A 0 (bcells cur) _ rfl (World.rangeAt_setCells_same _ _ _ _ (by rw [hcl]; exact hS.ta)) Try.underlying110 rfl (by rw [size_content, hcl])) rfl ⟨by rw [hcur.out], ?_⟩
      exact hS.bel.trans ((Kept.setCells (p := fun z => z = A) _ _ (Kept.refl _ wr) (fun _ => rfl)).below hS.bel.size (fun z hz e => by have := hA.out; omega))

end Go.Proofs.Ythjddpkegooobaa

/-
  IREAD: the program's Read. Own work.
-/
namespace Go.Proofs.Ythjddpkegooobaa
open Go.RowKit

/-- bytes that open a row of any type -/
def TRow (w : World) (t a n : Nat) (xs : List Nat) : Prop := ∃ f, w.rowIs a t n f ∧ xs.length ≤ n ∧ ∀ i, i < xs.length → f i = .int .u8 ((xs[i]! : Nat) : Int)
theorem TRow.at_ {w : World} {t a n : Nat} {xs : List Nat} (h : TRow w t a n xs) : BytesAt w (some ⟨a, 0, none⟩) xs := fun i hi => by
  obtain ⟨f, hr, hl, hf⟩ := h
  exact ⟨a, 0, rfl, by rw [Nat.zero_add, ← hf i hi]; exact hr.cell (by omega)⟩
theorem TRow.lt {w : World} {t a n : Nat} {xs : List Nat} (h : TRow w t a n xs) : a < w.heap.size := by obtain ⟨f, hr, _⟩ := h; exact hr.lt
theorem TRow.kept {p : Nat → Prop} {w w' : World} {t a n : Nat} {xs : List Nat} (h : TRow w t a n xs) (k : Kept p w w') (hn : ¬ p a) : TRow w' t a n xs := by
  obtain ⟨f, hr, r⟩ := h
  exact ⟨f, k.rowIs hr hn, r⟩
/-- bytes that are handed back, in memory of their own -/
def MT (w : World) (lo hi : Nat) (oa : Option Addr) (ys : List Nat) : Prop := ys = [] ∨ ∃ q, oa = some ⟨q, 0, none⟩ ∧ lo ≤ q ∧ q < hi ∧ TRow w 110 q 64 ys
theorem MT.at_ {w : World} {lo hi : Nat} {oa : Option Addr} {ys : List Nat} (h : MT w lo hi oa ys) : BytesAt w oa ys := by
  rcases h with rfl | ⟨q, rfl, _, _, h⟩
  · exact fun i hi => absurd hi (Nat.not_lt_zero _)
  · exact h.at_
theorem MT.kept {p : Nat → Prop} {w w' : World} {lo hi : Nat} {oa : Option Addr} {ys : List Nat} (h : MT w lo hi oa ys) (k : Kept p w w') (hn : ∀ b, lo ≤ b → b < hi → ¬ p b) : MT w' lo hi oa ys := by
  rcases h with h | ⟨q, h1, h2, h3, h4⟩
  · exact Or.inl h
  · exact Or.inr ⟨q, h1, h2, h3, h4.kept k (hn q h2 h3)⟩
theorem MT.grow {w w' : World} {lo hi : Nat} {oa : Option Addr} {ys : List Nat} (h : MT w lo hi oa ys) (hb : Below w.heap.size w w') : MT w' lo hi oa ys := h.kept (Kept.of_below hb (fun _ => False)) (fun _ _ _ e => e)
def TPost (ys : List Nat) (w : World) (e : Ending) (w' : World) : Prop := ∃ oa c, e = .returned (.slice oa ys.length c) ∧ MT w' w.heap.size w'.heap.size oa ys ∧ Below w.heap.size w w'

theorem row_new (w : World) (ys : List Nat) (t : TypeId) : TRow (w.alloc (.cells (bcells ys).toArray t)) t w.heap.size ys.length ys := by
  refine ⟨fun i => .int .u8 ((ys[i]! : Nat) : Int), ⟨_, heap_alloc_last w _, by simp [bcells], fun i hi => ?_⟩, Nat.le_refl _, fun i hi => rfl⟩
  rw [List.getElem?_toArray, bcells_get hi]

set_option maxHeartbeats 1000000 in
set_option maxRecDepth 100000 in
theorem implRead_any (d : DD) (l : DL) (b : Int) (w : World) (hd : d.Ok) (ha : DAt w l d) (hb : I64 b) : Calls Try.prog 32 #[d.val l, .int .i64 b] w (TPost (d.read b) w) := by
  have hA := gal (gre w) (.cells #[.slice l.ba d.blocks.length l.bc, .slice l.wa d.waiting.length l.wc] 44)
  have hX0 := DBox.new w d l 44
  have hz64 := (zero_of_info zero_content).1
  have hSl := run_slice_content
  cases hok : d.ok with
  | false =>
    have hok' : Hid _ := hok
    clear hok
    rw [read_no1 hok'.out]
    go_enter Try.func32, Try.ntmps32
    go_wp2_with (go_at_call 26; refine (implDiskOk_any d l _ hd (ha.grow hA)).mono ?_; rintro e w2 ⟨rfl, hb2⟩; rw [hok'.out])
    go_ret
    exact ⟨none, 0, rfl, Or.inl rfl, gca hA hb2⟩
  | true =>
    have hok' : Hid _ := hok
    clear hok
    have hfit := DD.fit hok'.out
    cases hbk : (decide (0 ≤ b) && decide (b < 130)) with
    | false =>
      have hbk' : Hid _ := hbk
      clear hbk
      rw [read_no2 hbk'.out]
      go_enter Try.func32, Try.ntmps32
      go_wp2_with (first
        | (go_at_call 26; refine (implDiskOk_any d l _ hd (ha.grow hA)).mono ?_; rintro e w2 ⟨rfl, hb2⟩; rw [hok'.out])
        | (go_at_call 87; refine (hasBlock_any b _ hb).mono ?_; rintro e w3 ⟨rfl, hb3⟩; rw [hbk'.out]))
      go_ret
      exact ⟨none, 0, rfl, Or.inl rfl, gca (gca hA hb2) hb3⟩
    | true =>
      have hbk' : Hid _ := hbk
      have hb2' : 0 ≤ b ∧ b < 130 := by simpa using hbk
      obtain ⟨m, rfl⟩ : ∃ m : Nat, b = (m : Int) := ⟨b.toNat, by omega⟩
      have hm : m < 130 := by omega
      clear hbk
      rw [read_yes hok'.out hm]
      obtain ⟨ys, hys⟩ := hid_ex (readN d.blocks d.waiting (m : Int) d.waiting.length)
      have hy64 : ys.length = 64 := by
        rw [hys.out]
        exact readN_mem (p := fun x => x.length = 64) hfit.bb (fun x hx => (hfit.wb x hx).2.2) (by rw [hfit.bl]; simpa using hm) _ (Nat.le_refl _)
      have hyl : (bcells ys).length = 64 := by rw [bcells_length, hy64]
      rw [← hys.out]
      go_enter Try.func32, Try.ntmps32
      go_upto_region 4 with (first
        | (go_at_call 26; refine (implDiskOk_any d l _ hd (ha.grow hA)).mono ?_; rintro e w2 ⟨rfl, hb2⟩; rw [hok'.out])
        | (go_at_call 87; refine (hasBlock_any _ _ hb).mono ?_; rintro e w3 ⟨rfl, hb3⟩; rw [hbk'.out]; obtain ⟨_, x0, x1⟩ := (hX0.grow hb2).grow hb3)
        | (go_at_call 81; refine (driveOf_any d l _ hfit (ha.grow (gca (gca hA hb2) hb3))).mono ?_; rintro e w4 ⟨p, pa, pc, rfl, hp4, hDr, hb4⟩)
        | (go_at_call 88; refine (read_any p d.blocks pa pc d.waiting .nilFunc (m : Int) _ (by omega) (by omega) (by have := hfit.wl; omega) hDr).mono ?_; rw [← hys.out]; rintro e w5 ⟨rfl, hb5⟩)
        | (refine wpList_alloc_big rfl 110 rfl _ hz64 ?_)
        | (refine wpList_store_new rfl 110 _ _ rfl _ (bcells ys).toArray rfl rfl (by rw [size_content]; simp [hyl]) (by simp [zeros, hyl]) (all_oneCell_toArray cells_u8) ?_))
      have hr := row_new w5 ys 110
      have hbA := gal (gca (gca (gca (gca hA hb2) hb3) hb4) hb5) (.cells (bcells ys).toArray 110)
      have hs5 := (gca (gca (gca (gca hA hb2) hb3) hb4) hb5).size
      rw [hy64] at hr
      have hy64' : Hid _ := hy64
      clear hy64
      go_wp2
      go_ret
      exact ⟨some ⟨w5.heap.size, 0, none⟩, 64, by rw [hy64'.out]; rfl, Or.inr ⟨w5.heap.size, rfl, hs5, by simp, hr⟩, hbA⟩

end Go.Proofs.Ythjddpkegooobaa

/-
  BEQUAL: the library's comparing of bytes. Own work.
-/
namespace Go.Proofs.Ythjddpkegooobaa
open Go.RowKit

theorem bs_strB {xs : List Nat} (h : ∀ x, x ∈ xs → x < 256) : bsOf (strB xs) = xs := by
  unfold bsOf strB strOfNums
  show ((xs.map _).map _).map _ = xs
  rw [List.map_map, List.map_map]
  conv => rhs; rw [← List.map_id xs]
  apply List.map_congr_left
  intro x hx
  show (UInt8.ofNat ((x : Int)).toNat).toNat = x
  have := h x hx
  simp []
  omega
theorem strB_eq {xs ys : List Nat} (hx : ∀ x, x ∈ xs → x < 256) (hy : ∀ x, x ∈ ys → x < 256) : ((strB xs).toList == (strB ys).toList) = decide (xs = ys) := by
  by_cases h : xs = ys
  · subst h; simp
  · rw [decide_eq_false h, beq_eq_false_iff_ne]
    intro e
    apply h
    have e2 : strB xs = strB ys := by
      apply ByteArray.ext
      apply Array.ext'
      rw [← ByteArray.toList_eq, ← ByteArray.toList_eq]; exact e
    rw [← bs_strB hx, e2, bs_strB hy]

set_option maxRecDepth 100000 in
theorem bytesEqual_any (a a' : Option Addr) (xs ys : List Nat) (c c' : Nat) (w : World) (hx : ∀ x, x ∈ xs → x < 256) (hy : ∀ x, x ∈ ys → x < 256) (ha : BytesAt w a xs) (ha' : BytesAt w a' ys) :
    Calls Try.prog 67 #[.slice a xs.length c, .slice a' ys.length c'] w fun e w' => e = .returned (.bool (decide (xs = ys))) ∧ Below w.heap.size w w' := by
  have h1 := conv_text (n := xs.length) (c := c) ha rfl
  have h2 := conv_text (n := ys.length) (c := c') ha' rfl
  have h3 := strB_eq hx hy
  go_enter Try.func67, Try.ntmps67
  go_wp2
  go_ret
  exact ⟨by first | rfl | rw [← h3]; rfl, gre _⟩

end Go.Proofs.Ythjddpkegooobaa

/-
  REGIONV: the end of a region that draws its order. Own work.
-/
namespace Go.Proofs.Ythjddpkegooobaa
open Go.RowKit

/-- none may come up any more -/
theorem anyU_done {P : Program} {ops : Array Oper} {Q : Exit → Act → World → Prop} {md : Region.Mode} {S : World → Prop} {lst : Nat} {fuel : Nat} {listed : Array Bool} {a : Act} {w : World} (hd : Region.ready md ops listed = []) (hQ : Q .normal a w) : anyU P md ops Q S lst fuel listed a w := by
  cases fuel with
  | zero => exact ⟨hd, hQ⟩
  | succ f => exact ⟨fun _ => hQ, fun i hi => by rw [hd] at hi; cases hi⟩

end Go.Proofs.Ythjddpkegooobaa

/-
  IHEAD2: the program's HeadOf. Own work.
-/
namespace Go.Proofs.Ythjddpkegooobaa
open Go.RowKit

theorem run_slice_tail (u : World) (b : Nat) : (Instr.sliceAt 110 (.pointer (some ⟨b, 0, none⟩)) (some (.int .i64 4)) none none).run Try.prog u = .ok (.slice (some ⟨b, 4, none⟩) 60 60) u := by
  simp [Instr.sliceAt, run_underlying Try.underlying110, Instr.sureAddr, Instr.sliceBounds, go_sem, Addr.add]
set_option maxRecDepth 100000 in
theorem method_drive (p : Nat) (w : World) : (method 316 106 (.pointer (some ⟨p, 0, none⟩)) "loop.example/chest/impl.read").run Try.prog w = .ok (88, .pointer (some ⟨p, 0, none⟩)) w := by kernel_rfl

theorem rdLow_some : ∀ (k i : Nat) (n : Int) (r : List Nat), k ≤ r.length → ∃ x, rdLow k i n r = some (x, r.drop k)
  | 0, _, n, r, _ => ⟨n, rfl⟩
  | k + 1, i, n, x :: r, h => by
    obtain ⟨y, hy⟩ := rdLow_some k (i + 1) (orI n x i) r (by simpa using h)
    exact ⟨y, hy⟩

/-- what heads' bytes read as to the program -/
structure IRd (bs : List Nat) (g l s : Int) (r1 r2 r3 : List Nat) : Prop where
  e1 : rdLow 8 0 0 (bs.drop 4) = some (g, r1)
  e2 : rdLow 8 0 0 r1 = some (l, r2)
  e3 : rdLow 8 0 0 r2 = some (s, r3)
theorem ird {bs : List Nat} (h : bs.length = 64) : ∃ g l s r1 r2 r3, IRd bs g l s r1 r2 r3 := by
  obtain ⟨g, hg⟩ := rdLow_some 8 0 0 (bs.drop 4) (by rw [List.length_drop]; omega)
  obtain ⟨l, hl⟩ := rdLow_some 8 0 0 ((bs.drop 4).drop 8) (by rw [List.length_drop, List.length_drop]; omega)
  obtain ⟨s, hs⟩ := rdLow_some 8 0 0 (((bs.drop 4).drop 8).drop 8) (by rw [List.length_drop, List.length_drop, List.length_drop]; omega)
  exact ⟨g, l, s, _, _, _, hg, hl, hs⟩
theorem ird_is {bs : List Nat} {g l s : Int} {r1 r2 r3 : List Nat} (h : IRd bs g l s r1 r2 r3) {x : HH} (hx : x.Is bs) : g = x.gen ∧ l = x.len ∧ s = x.sum := by
  have hr := rng_i64 hx.rng
  obtain ⟨h1, h2, h3⟩ := h
  rw [hx.eq, headB_drop, rdLow_word (by unfold I64; omega)] at h1
  injection h1 with h1
  injection h1 with e1 e1'
  rw [← e1', rdLow_word (by unfold I64; omega)] at h2
  injection h2 with h2
  injection h2 with e2 e2'
  rw [← e2', rdLow_word hx.sum] at h3
  injection h3 with h3
  injection h3 with e3 e3'
  exact ⟨e1.symm, e2.symm, e3.symm⟩
theorem ird_sum {bs : List Nat} {g l s : Int} {r1 r2 r3 : List Nat} (h : IRd bs g l s r1 r2 r3) (hk : headOkB true g l = true) (he : headB g l s = bs) : I64 s := by
  have hr := rng_i64 hk
  obtain ⟨h1, h2, h3⟩ := h
  rw [← he, headB_drop, rdLow_word (by unfold I64; omega)] at h1
  injection h1 with h1
  injection h1 with e1 e1'
  rw [← e1', rdLow_word (by unfold I64; omega)] at h2
  injection h2 with h2
  injection h2 with e2 e2'
  have h4 := rdLow_back 8 0 0 (u64n s) (lowB 8 (sumN (headN g l s)) ++ List.replicate 28 0) (by omega) (by simp)
  rw [show IntKind.i64.wrap ((0 : Nat) : Int) = 0 by rw [IntKind.wrap_i64]; omega, e2', h3] at h4
  injection h4 with h4
  injection h4 with e3 e3'
  rw [e3, IntKind.wrap_i64]
  unfold I64
  omega

theorem readWord_known (b : Nat) (sa : Option Addr) (cap : Nat) (bs r : List Nat) (x : Int) (r' : List Nat) (w : World) (hR : Rd w b sa cap bs r) (hx : Hid (rdLow 8 0 0 r = some (x, r'))) :
    Calls Try.prog 138 #[.pointer (some ⟨b, 0, none⟩)] w fun e w' => e = .returned (.int .i64 x) ∧ Rd w' b sa cap bs r' ∧ Kept (fun k => k = b) w w' :=
  (readWord_any b sa cap bs r w hR).mono fun e w' ⟨hK, h⟩ => by
    rcases h with ⟨y, q, hf, he, hR'⟩ | ⟨hf, _⟩
    · have e1 := hx.out.symm.trans hf.out
      injection e1 with e1
      injection e1 with e2 e3
      subst e2
      subst e3
      exact ⟨he, hR', hK⟩
    · have e1 := hx.out.symm.trans hf.out
      cases e1

theorem Rd.new {w : World} {q : Nat} {bs : List Nat} (hb : ∀ x, x ∈ bs → x < 256) (hl : bs.length = 64) (ht : TRow w 110 q 64 bs) : Rd (w.alloc (.cells #[.slice (some ⟨q, 4, none⟩) 60 60, .int .i64 0] 95)) w.heap.size (some ⟨q, 4, none⟩) 60 (bs.drop 4) (bs.drop 4) := by
  have hd : (bs.drop 4).length = 60 := by rw [List.length_drop, hl]
  have hA := gal (gre w) (.cells #[.slice (some ⟨q, 4, none⟩) 60 60, .int .i64 0] 95)
  refine ⟨⟨0, ⟨by simp, by rw [hd]; simp, by simp, fun o => by simp⟩, Nat.zero_le _, rfl⟩, ?_, by omega, by omega, fun x hx => hb x (List.mem_of_mem_drop hx)⟩
  refine BytesLow.below (B := w.heap.size) (w := w) (fun i hi => ?_) hA
  obtain ⟨b, off, e, hc⟩ := ht.at_ (4 + i) (by omega)
  refine ⟨q, 4, rfl, ht.lt, ?_⟩
  injection e with e
  injection e with e3 e4
  subst e3
  subst e4
  rw [getElem!_pos (bs.drop 4) i hi, List.getElem_drop]
  rw [getElem!_pos bs (4 + i) (by omega), Nat.zero_add] at hc
  exact hc

theorem headBB_byte (ok : Bool) (gen len sum : Int) : ∀ x, x ∈ headBB ok gen len sum → x < 256 := by
  unfold headBB
  split
  · intro x hx
    unfold headB at hx
    rcases List.mem_append.1 hx with hx | hx
    · rcases List.mem_append.1 hx with hx | hx
      · exact headN_byte gen len sum x hx
      · exact lowB_byte _ _ _ hx
    · rw [List.eq_of_mem_replicate hx]; decide
  · intro x hx
    cases hx
theorem calls_argsH {P : Program} {f : Nat} {a b : Array Value} {w : World} {Q : Ending → World → Prop} (h : Calls P f a w Q) (e : a = b) : Calls P f b w Q := by subst e; exact h

/-- a slot of a drive -/
structure SV (w : World) (b p m : Nat) : Prop where
  lt : b < w.heap.size
  c0 : w.cell? ⟨b, 0, none⟩ = some (.pointer (some ⟨p, 0, none⟩))
  c1 : w.cell? ⟨b, 1, none⟩ = some (.int .i64 (m : Int))
theorem SV.kept {q : Nat → Prop} {w w' : World} {b p m : Nat} (h : SV w b p m) (k : Kept q w w') (hn : ¬ q b) : SV w' b p m :=
  ⟨Nat.lt_of_lt_of_le h.lt k.size, k.cell h.c0 hn, k.cell h.c1 hn⟩
theorem SV.grow {w w' : World} {b p m : Nat} (h : SV w b p m) (k : Below w.heap.size w w') : SV w' b p m := h.kept (Kept.of_below k (fun _ => False)) (fun e => e)
theorem SV.new (w : World) (p m : Nat) (t : TypeId) : SV (w.alloc (.cells #[.pointer (some ⟨p, 0, none⟩), .int .i64 (m : Int)] t)) w.heap.size p m := ⟨by simp, by simp, by simp⟩

set_option maxHeartbeats 2000000 in
set_option maxRecDepth 100000 in
theorem head_any (p m : Nat) (bl : List (List Nat)) (pa : Option Addr) (pc : Nat) (ws : List DW) (kv : Value) (bs : List Nat) (w : World) (hm : m < 130) (hw : ws.length ≤ 201) (hbs : Hid (readN bl ws (m : Int) ws.length = bs)) (hbl : Hid (bs.length = 64)) (hbb : ∀ x, x ∈ bs → x < 256) (hDr : Dr w p bl pa pc ws kv) :
    Calls Try.prog 96 #[.agg #[.pointer (some ⟨p, 0, none⟩), .int .i64 (m : Int)]] w fun e w' => e = .returned (headOf bs).val ∧ Below w.heap.size w w' := by
  have hz64 := (zero_of_info zero_content).1
  have hSl := run_slice_content
  have hSl4 := run_slice_tail
  have hMe := method_drive p
  obtain ⟨G, L, S, r1, r2, r3, hE⟩ := ird hbl.out
  have E1 : Hid _ := hE.e1
  have E2 : Hid _ := hE.e2
  have E3 : Hid _ := hE.e3
  have hyl : Hid ((bcells bs).length = 64) := by show _ = _; rw [bcells_length, hbl.out]
  have hA := gal (gal (gre w) (.cells #[.pointer (some ⟨p, 0, none⟩), .int .i64 (m : Int)] 120)) (.cells #[.bool false, .int .i64 0, .int .i64 0, .int .i64 0] 55)
  have hR0 := HV.new_at (w.alloc (.cells #[.pointer (some ⟨p, 0, none⟩), .int .i64 (m : Int)] 120)) noH 55 (w.heap.size + 1) (by simp)
  go_enter Try.func96, Try.ntmps96
  go_upto_region 2 with (first
    | (go_at_call 88; refine (read_any p bl pa pc ws kv (m : Int) _ (by omega) (by omega) hw (hDr.grow hA)).mono ?_; rw [hbs.out]; rintro e w1 ⟨rfl, hb1⟩)
    | (refine wpList_alloc_big rfl 110 rfl _ hz64 ?_)
    | (refine wpList_store_new rfl 110 _ _ rfl _ (bcells bs).toArray rfl rfl (by rw [size_content]; simp [hyl.out]) (by simp [zeros, hyl.out]) (all_oneCell_toArray cells_u8) ?_))
  have hrow := row_new w1 bs 110
  rw [hbl.out] at hrow
  have hb2 := gal hb1 (.cells (bcells bs).toArray 110)
  have hs2 : w1.heap.size + 1 = (w1.alloc (.cells (bcells bs).toArray 110)).heap.size := by simp
  have hRl := (hR0.grow hb1).box.lt
  generalize w1.alloc (.cells (bcells bs).toArray 110) = w2 at hrow hb2 hs2 ⊢
  generalize w1.heap.size = q at hrow hs2 hRl ⊢
  have hRd := Rd.new hbb hbl.out hrow
  have hb3 := gal hb2 (.cells #[.slice (some ⟨q, 4, none⟩) 60 60, .int .i64 0] 95)
  have hrow3 := hrow.kept (Kept.of_below (gal (gre w2) (.cells #[.slice (some ⟨q, 4, none⟩) 60 60, .int .i64 0] 95)) (fun _ => False)) (fun e => e)
  go_upto_region 3 with fail
  generalize w2.alloc (.cells #[.slice (some ⟨q, 4, none⟩) 60 60, .int .i64 0] 95) = w3 at hRd hb3 hrow3 ⊢
  rw [← hs2] at hRd ⊢
  clear hrow hb2 hs2
  have hR3 := hR0.grow hb3
  have hA3 := gca hA hb3
  go_upto_region 4 with (first
    | (go_at_call 138; refine (readWord_known _ _ _ _ r2 S r3 w5 hRd2 E3).mono ?_; rintro e w6 ⟨rfl, hRd3, hK3⟩)
    | (go_at_call 138; refine (readWord_known _ _ _ _ r1 L r2 w4 hRd1 E2).mono ?_; rintro e w5 ⟨rfl, hRd2, hK2⟩)
    | (go_at_call 138; refine (readWord_known _ _ _ _ _ G r1 w3 hRd E1).mono ?_; rintro e w4 ⟨rfl, hRd1, hK1⟩))
  have hK := (hK1.trans hK2 (fun _ _ h => h)).trans hK3 (fun _ _ h => h)
  have hR6 := hR3.kept hK (by omega)
  have hrow6 := hrow3.kept hK (by omega)
  have hA6 := hA3.trans (hK.below (B := w.heap.size) hA3.size (fun k hk e => by omega))
  have hb7 := gal (gre w6) (.cells #[.bool true, .int .i64 G, .int .i64 L, .int .i64 S] 55)
  have hHv := HV.new_at w6 ⟨true, G, L, S⟩ 55 w6.heap.size rfl
  have hR7 := hR6.grow hb7
  have hrow7 := hrow6.kept (Kept.of_below hb7 (fun _ => False)) (fun e => e)
  have hA7 := gca hA6 hb7
  have hHl := hRd3.lt
  generalize w6.alloc (.cells #[.bool true, .int .i64 G, .int .i64 L, .int .i64 S] 55) = w7 at hb7 hHv hR7 hrow7 hA7 ⊢
  generalize w6.heap.size = H at hb7 hHv ⊢
  clear hRd hRd1 hRd2 hRd3 hK1 hK2 hK3 hK hR3 hR6 hrow3 hrow6 hA3 hA6
  have hB : Below w7.heap.size w7 w7.drew := gdr (gre _)
  by_cases t : headBB true G L S = bs
  · have t' : Hid (decide (headBB true G L S = bs) = true) := decide_eq_true t
    have hk : headOkB true G L = true := by
      cases hk : headOkB true G L with
      | true => rfl
      | false =>
        rw [show headBB true G L S = [] from if_neg (by rw [hk]; simp)] at t
        have := hbl.out
        rw [← t] at this
        simp at this
    have hhe : headB G L S = bs := by rw [← t]; exact (if_pos hk).symm
    have hans : Hid (headOf bs = ⟨true, G, L, S⟩) := headOf_yes (x := ⟨true, G, L, S⟩) ⟨rfl, hk, ird_sum hE hk hhe, hhe.symm⟩
    clear t hk hhe hE
    refine wp_regionU (fun u => HBox u H true G L S) 99 (by kernel_rfl) (hHv.grow hB).box (fun _ => ?_)
    refine anyU_take (i := 0) (v := ?_) rfl (by kernel_rfl) (by kernel_rfl) (by kernel_rfl) (by kernel_rfl) (fun _ _ _ h => h) (Or.inl ⟨by rfl, ?_⟩) (hHv.grow hB).box ?_
    rotate_left
    · intro u hSu; obtain ⟨_, s0, s1, s2, s3⟩ := hSu; go_simp <;> with_reducible rfl
    simp only [Act.put, List.getElem_toArray, List.getElem_cons_zero, List.setIfInBounds_toArray, List.set_cons_zero, List.set_cons_succ]
    refine anyU_take (i := 2) (v := ?_) rfl (by kernel_rfl) (by kernel_rfl) (by kernel_rfl) (by kernel_rfl) (fun _ _ _ h => h) (Or.inl ⟨by rfl, ?_⟩) (hHv.grow hB).box ?_
    rotate_left
    · intro u hSu; go_simp <;> with_reducible rfl
    simp only [Act.put, List.getElem_toArray, List.getElem_cons_zero, List.getElem_cons_succ, List.setIfInBounds_toArray, List.set_cons_zero, List.set_cons_succ]
    refine anyU_one (i := 1) (by kernel_rfl) rfl (fun K hK => ?_)
    go_simp
    refine (implHeadBlock_any true G L S _).mono ?_
    rintro e w8 ⟨oa8, c8, rfl, hM8, hb8⟩
    have hB := gca hB hb8
    refine hK.out _ _ (hHv.grow hB).box ?_
    clear hK
    refine anyU_one (i := 3) (by kernel_rfl) rfl (fun K hK => ?_)
    go_simp
    refine (calls_argsH (bytesEqual_any oa8 (some ⟨q, 0, none⟩) (headBB true G L S) bs c8 64 w8 (headBB_byte true G L S) hbb hM8.atH (hrow7.at_.grow hB)) (by rw [hbl.out])).mono ?_
    rintro e w9 ⟨rfl, hb9⟩
    rw [t'.out]
    have hB := gca hB hb9
    refine hK.out _ _ (hHv.grow hB).box ?_
    clear hK
    refine anyU_one (i := 4) (by kernel_rfl) rfl (fun K hK => ?_)
    go_simp
    refine hK.out _ _ (hHv.grow hB).box ?_
    clear hK
    refine anyU_done (by kernel_rfl) ?_
    have hR9 := hR7.grow hB
    have hH9 := hHv.grow hB
    have hA9 := gca hA7 hB
    clear hB hb8 hb9 hM8
    obtain ⟨⟨_, z0, z1, z2, z3⟩, zf⟩ := id hR9
    obtain ⟨⟨_, y0, y1, y2, y3⟩, yf⟩ := id hH9
    go_upto_region 99 with fail
    obtain ⟨c0, c1, c2, c3, K⟩ := ret4 hR9 (.bool true) (.int .i64 G) (.int .i64 L) (.int .i64 S)
    exact bodyPost_ret (v := headV true G L S) (by simp [results, Try.results96, go_sem, c0, c1, c2, c3]) rfl ⟨by rw [hans.out], hA9.trans (K.below (B := w.heap.size) hA9.size (fun k hk e => by omega))⟩
  · have t' : Hid (decide (headBB true G L S = bs) = false) := decide_eq_false t
    have hans : Hid (headOf bs = noH) := headOf_no (bs := bs) (fun x hx => by
      obtain ⟨e1, e2, e3⟩ := ird_is hE hx
      refine t ?_
      rw [e1, e2, e3]
      exact (if_pos hx.rng).trans hx.eq.symm)
    clear t hE
    refine wp_regionU (fun u => HBox u H true G L S) 99 (by kernel_rfl) (hHv.grow hB).box (fun _ => ?_)
    refine anyU_take (i := 0) (v := ?_) rfl (by kernel_rfl) (by kernel_rfl) (by kernel_rfl) (by kernel_rfl) (fun _ _ _ h => h) (Or.inl ⟨by rfl, ?_⟩) (hHv.grow hB).box ?_
    rotate_left
    · intro u hSu; obtain ⟨_, s0, s1, s2, s3⟩ := hSu; go_simp <;> with_reducible rfl
    simp only [Act.put, List.getElem_toArray, List.getElem_cons_zero, List.setIfInBounds_toArray, List.set_cons_zero, List.set_cons_succ]
    refine anyU_take (i := 2) (v := ?_) rfl (by kernel_rfl) (by kernel_rfl) (by kernel_rfl) (by kernel_rfl) (fun _ _ _ h => h) (Or.inl ⟨by rfl, ?_⟩) (hHv.grow hB).box ?_
    rotate_left
    · intro u hSu; go_simp <;> with_reducible rfl
    simp only [Act.put, List.getElem_toArray, List.getElem_cons_zero, List.getElem_cons_succ, List.setIfInBounds_toArray, List.set_cons_zero, List.set_cons_succ]
    refine anyU_one (i := 1) (by kernel_rfl) rfl (fun K hK => ?_)
    go_simp
    refine (implHeadBlock_any true G L S _).mono ?_
    rintro e w8 ⟨oa8, c8, rfl, hM8, hb8⟩
    have hB := gca hB hb8
    refine hK.out _ _ (hHv.grow hB).box ?_
    clear hK
    refine anyU_one (i := 3) (by kernel_rfl) rfl (fun K hK => ?_)
    go_simp
    refine (calls_argsH (bytesEqual_any oa8 (some ⟨q, 0, none⟩) (headBB true G L S) bs c8 64 w8 (headBB_byte true G L S) hbb hM8.atH (hrow7.at_.grow hB)) (by rw [hbl.out])).mono ?_
    rintro e w9 ⟨rfl, hb9⟩
    rw [t'.out]
    have hB := gca hB hb9
    refine hK.out _ _ (hHv.grow hB).box ?_
    clear hK
    refine anyU_one (i := 4) (by kernel_rfl) rfl (fun K hK => ?_)
    go_simp
    refine hK.out _ _ (hHv.grow hB).box ?_
    clear hK
    refine anyU_done (by kernel_rfl) ?_
    have hR9 := hR7.grow hB
    have hH9 := hHv.grow hB
    have hA9 := gca hA7 hB
    clear hB hb8 hb9 hM8
    obtain ⟨⟨_, z0, z1, z2, z3⟩, zf⟩ := id hR9
    obtain ⟨⟨_, y0, y1, y2, y3⟩, yf⟩ := id hH9
    go_upto_region 99 with fail
    obtain ⟨c0, c1, c2, c3, K⟩ := ret4 hR9 (.bool false) (.int .i64 0) (.int .i64 0) (.int .i64 0)
    exact bodyPost_ret (v := noH.val) (by simp [results, Try.results96, go_sem, c0, c1, c2, c3]) rfl ⟨by rw [hans.out], hA9.trans (K.below (B := w.heap.size) hA9.size (fun k hk e => by omega))⟩

set_option maxHeartbeats 1000000 in
set_option maxRecDepth 100000 in
theorem implHeadOf_any (d : DD) (l : DL) (b : Int) (w : World) (hd : d.Ok) (ha : DAt w l d) (hb : I64 b) :
    Calls Try.prog 40 #[d.val l, .int .i64 b] w fun e w' => e = .returned (d.headOf b).val ∧ Below w.heap.size w w' := by
  unfold I64 at hb
  have hA := gal (gal (gre w) (.cells #[.slice l.ba d.blocks.length l.bc, .slice l.wa d.waiting.length l.wc] 44)) (.cells #[.bool false, .int .i64 0, .int .i64 0, .int .i64 0] 55)
  have hX0 := (DBox.new w d l 44).grow (gal (gre _) (.cells #[.bool false, .int .i64 0, .int .i64 0, .int .i64 0] 55))
  have hR0 := HV.new_at (w.alloc (.cells #[.slice l.ba d.blocks.length l.bc, .slice l.wa d.waiting.length l.wc] 44)) noH 55 (w.heap.size + 1) (by simp)
  by_cases hno : d.ok = false ∨ b < 0 ∨ b ≥ 2
  · rw [show d.headOf b = noH from if_neg (fun h => by rcases hno with e | e | e; · rw [e] at h; cases h.1
                                                       · omega
                                                       · omega)]
    cases hok : d.ok with
    | false =>
      have hok' : Hid _ := hok
      clear hok hno
      go_enter Try.func40, Try.ntmps40
      go_upto_region 99 with (go_at_call 26; refine (implDiskOk_any d l _ hd (ha.grow hA)).mono ?_; rintro e w2 ⟨rfl, hb2⟩; rw [hok'.out]; have hR2 := hR0.grow hb2; obtain ⟨⟨_, z0, z1, z2, z3⟩, zf⟩ := id hR2)
      obtain ⟨c0, c1, c2, c3, K⟩ := ret4 hR2 (.bool false) (.int .i64 0) (.int .i64 0) (.int .i64 0)
      exact bodyPost_ret (v := noH.val) (by simp [results, Try.results40, go_sem, c0, c1, c2, c3]) rfl ⟨rfl, (gca hA hb2).trans (K.below (B := w.heap.size) (gca hA hb2).size (fun k hk e => by omega))⟩
    | true =>
      have hok' : Hid _ := hok
      have hno2 : b < 0 ∨ (¬ b < 0 ∧ b ≥ 2) := by
        rcases hno with e | e | e
        · rw [hok] at e; cases e
        · exact Or.inl e
        · exact Or.inr ⟨by omega, e⟩
      clear hok hno
      rcases hno2 with g0 | ⟨g0, g1⟩
      all_goals
        go_enter Try.func40, Try.ntmps40
        go_upto_region 99 with (go_at_call 26; refine (implDiskOk_any d l _ hd (ha.grow hA)).mono ?_; rintro e w2 ⟨rfl, hb2⟩; rw [hok'.out]; have hR2 := hR0.grow hb2; obtain ⟨⟨_, z0, z1, z2, z3⟩, zf⟩ := id hR2)
        obtain ⟨c0, c1, c2, c3, K⟩ := ret4 hR2 (.bool false) (.int .i64 0) (.int .i64 0) (.int .i64 0)
        exact bodyPost_ret (v := noH.val) (by simp [results, Try.results40, go_sem, c0, c1, c2, c3]) rfl ⟨rfl, (gca hA hb2).trans (K.below (B := w.heap.size) (gca hA hb2).size (fun k hk e => by omega))⟩
  · have hok : d.ok = true := by
      cases h : d.ok with
      | true => rfl
      | false => exact absurd (Or.inl h) hno
    have g0 : ¬ b < 0 := fun h => hno (Or.inr (Or.inl h))
    have g1 : ¬ b ≥ 2 := fun h => hno (Or.inr (Or.inr h))
    clear hno
    obtain ⟨m, rfl⟩ : ∃ m : Nat, b = (m : Int) := ⟨b.toNat, by omega⟩
    have hm : m < 130 := by omega
    have hok' : Hid _ := hok
    rw [show d.headOf (m : Int) = Go.Proofs.Ythjddpkegooobaa.headOf (d.rd m) from (if_pos ⟨hok, by omega, by omega⟩).trans (by simp)]
    obtain ⟨h, hh⟩ := hid_ex (Go.Proofs.Ythjddpkegooobaa.headOf (d.rd m))
    rw [← hh.out]
    have hfit := DD.fit hok
    clear hok
    go_enter Try.func40, Try.ntmps40
    go_upto_region 99 with (first
      | (go_at_call 26; refine (implDiskOk_any d l _ hd (ha.grow hA)).mono ?_; rintro e w2 ⟨rfl, hb2⟩; rw [hok'.out]; obtain ⟨_, x0, x1⟩ := hX0.grow hb2)
      | (go_at_call 81; refine (driveOf_any d l _ hfit (ha.grow (gca hA hb2))).mono ?_; rintro e w3 ⟨p, pa, pc, rfl, hp3, hDr, hb3⟩)
      | (go_at_call 96; refine (head_any p m d.blocks pa pc d.waiting .nilFunc (d.rd m) _ hm (by have := hfit.wl; omega) rfl (DD.rd_len hfit hm) (DD.rd_byte hfit hd hm) hDr).mono ?_; rw [← hh.out]; rintro e w4 ⟨rfl, hb4⟩; have hR4 := ((hR0.grow hb2).grow hb3).grow hb4; obtain ⟨⟨_, z0, z1, z2, z3⟩, zf⟩ := id hR4))
    obtain ⟨c0, c1, c2, c3, K⟩ := ret4 hR4 (.bool h.ok) (.int .i64 h.gen) (.int .i64 h.len) (.int .i64 h.sum)
    have hB4 := gca (gca (gca hA hb2) hb3) hb4
    exact bodyPost_ret (v := h.val) (by simp [results, Try.results40, go_sem, c0, c1, c2, c3]) rfl ⟨rfl, hB4.trans (K.below (B := w.heap.size) hB4.size (fun k hk e => by omega))⟩

end Go.Proofs.Ythjddpkegooobaa
