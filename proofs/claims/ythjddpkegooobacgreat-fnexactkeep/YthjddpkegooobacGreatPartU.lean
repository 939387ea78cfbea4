import Derived.Deep.QuietTactic
import Derived.BigQuiet
import Derived.Deep.OwnRows
import Derived.Test.YthjddpkegooobacGreatPartT

/-
  SAPP2: the specification's Apply. Own work.
-/
namespace Go.Proofs.YthjddpkegooobacGreat
open Go.RowKit

set_option maxHeartbeats 4000000 in
set_option maxRecDepth 100000 in
theorem specApply_any (d : DD) (l : DL) (oa : Option Addr) (ops : List OP) (oc : Nat) (n : Int) (w : World) (hd : d.Ok) (ha : DAt w l d) (hoa : OpsAt w oa ops) (_hol : ops.length ≤ 1048576) (hok : OpsOk ops) (hn : I64 n) :
    Calls Tryz.prog 21 #[d.val l, .slice oa ops.length oc, .int .i64 n] w (CPost (d.apply ops n) w) := by
  have hA := gal (gal (gre w) (.cells #[.slice l.ba d.blocks.length l.bc, .slice l.wa d.waiting.length l.wc] 35)) (.cells #[.slice none 0 0, .slice none 0 0] 35)
  have hX0 := (DBox.new w d l 35).grow (gal (gre _) (.cells #[.slice none 0 0, .slice none 0 0] 35))
  have hR0 := VB.new_at (w.alloc (.cells #[.slice l.ba d.blocks.length l.bc, .slice l.wa d.waiting.length l.wc] 35)) (.slice none 0 0) (.slice none 0 0) 35 (w.heap.size + 1) (by simp)
  cases hok2 : d.ok with
  | false =>
    have hok' : Hid _ := hok2
    have hz : d.apply ops n = zeroD := if_neg (fun h => by rw [hok2] at h; cases h.1)
    rw [hz]
    clear hok2 hz
    go_enter Tryz.func21, Tryz.ntmps21
    go_wp2_with (go_at_call 43; refine (specDiskOk_any d l _ hd (ha.grow hA)).mono ?_; rintro e w2 ⟨rfl, hb2⟩; rw [hok'.out]; obtain ⟨z0, z1, zf⟩ := hR0.grow hb2; obtain ⟨_, x0, x1⟩ := hX0.grow hb2)
    obtain ⟨c0, c1, K⟩ := ret2 (A := .slice none 0 0) (B := .slice none 0 0) z0 z1
    refine bodyPost_ret (v := .agg #[.slice none 0 0, .slice none 0 0]) (by simp [results, Tryz.results21, go_sem, c0, c1]) rfl (CPost.zero ?_)
    exact (gca hA hb2).trans (K.below (gca hA hb2).size (fun z hz e => by omega))
  | true =>
    have hok' : Hid _ := hok2
    by_cases hr : 0 ≤ n ∧ n ≤ (ops.length : Int)
    · obtain ⟨N, rfl⟩ : ∃ N : Nat, n = (N : Int) := ⟨n.toNat, by omega⟩
      have hN : N ≤ ops.length := by omega
      have hz : d.apply ops N = (applyN d ops N).getD zeroD := if_pos ⟨hok2, hr.1, hr.2⟩
      obtain ⟨c, hc⟩ := hid_ex ((applyN d ops N).getD zeroD)
      rw [hz, ← hc.out]
      have t1 : ¬ ((N : Int) < 0) := by omega
      have t2 : ¬ ((ops.length : Int) < (N : Int)) := by omega
      clear hz hok2 hr
      go_enter Tryz.func21, Tryz.ntmps21
      go_wp2_with (first
        | (go_at_call 43; refine (specDiskOk_any d l _ hd (ha.grow hA)).mono ?_; rintro e w2 ⟨rfl, hb2⟩; rw [hok'.out]; obtain ⟨z0, z1, zf⟩ := hR0.grow hb2; obtain ⟨_, x0, x1⟩ := hX0.grow hb2)
        | (go_at_call 45; refine (l4apply_any d l oa ops oc N _ w2 rfl hok'.out hd (ha.grow (gca hA hb2)) hok (hoa.grow (gca hA hb2)) hN).mono ?_; rintro e w3 ⟨lb, lw, ba, bc, wa, wc, f, b, rfl, hap, hfk, hmb, hmw, hsb, hsw, hb3⟩; have hR3 := ((hR0.grow hb2).grow hb3).grow (gal (gre _) (.cells #[.slice ba f.blocks.length bc, .slice wa f.waiting.length wc] 35)); obtain ⟨y0, y1, yf⟩ := id hR3; cases b))
      · have hb4 : Below w.heap.size w (w3.alloc (.cells #[.slice ba f.blocks.length bc, .slice wa f.waiting.length wc] 35)) := gal (gca (gca hA hb2) hb3) _
        obtain ⟨c0, c1, K⟩ := ret2 (A := .slice none 0 0) (B := .slice none 0 0) y0 y1
        have hcz : c = zeroD := by rw [hc.out, hap.out]; rfl
        rw [hcz]
        refine bodyPost_ret (v := .agg #[.slice none 0 0, .slice none 0 0]) (by simp [results, Tryz.results21, go_sem, c0, c1]) rfl (CPost.zero ?_)
        exact hb4.trans (K.below hb4.size (fun z hz e => by omega))
      · have hb4 : Below w.heap.size w (w3.alloc (.cells #[.slice ba f.blocks.length bc, .slice wa f.waiting.length wc] 35)) := gal (gca (gca hA hb2) hb3) _
        have hAl : Below w3.heap.size w3 (w3.alloc (.cells #[.slice ba f.blocks.length bc, .slice wa f.waiting.length wc] 35)) := gal (gre _) _
        have hsb4 := hsb.grow hAl
        have hsw4 := hsw.grow hAl
        have hs2 := (gca hA hb2).size
        have hR2 := (hR0.grow hb2).lt
        generalize w3.alloc (.cells #[.slice ba f.blocks.length bc, .slice wa f.waiting.length wc] 35) = w4 at y0 y1 hb4 hsb4 hsw4 ⊢
        obtain ⟨c0, c1, K⟩ := ret2 (A := .slice ba f.blocks.length bc) (B := .slice wa f.waiting.length wc) y0 y1
        have hcz : c = f := by rw [hc.out, hap.out]; rfl
        rw [hcz]
        refine bodyPost_ret (v := f.val ⟨ba, bc, wa, wc⟩) (by simp [results, Tryz.results21, go_sem, c0, c1]) rfl ⟨lb, lw, ba, bc, wa, wc, rfl, hmb, hmw, (hsb4.kept K (fun z e hz => by omega)).le (by omega), (hsw4.kept K (fun z e hz => by omega)).le (by omega), ?_⟩
        exact hb4.trans (K.below hb4.size (fun z hz e => by omega))
    · have hz : d.apply ops n = zeroD := if_neg (fun h => hr h.2)
      rw [hz]
      clear hok2 hz
      rcases (by omega : n < 0 ∨ (¬ (n < 0) ∧ (ops.length : Int) < n)) with h1 | ⟨h1, h2⟩
      · go_enter Tryz.func21, Tryz.ntmps21
        go_wp2_with (go_at_call 43; refine (specDiskOk_any d l _ hd (ha.grow hA)).mono ?_; rintro e w2 ⟨rfl, hb2⟩; rw [hok'.out]; obtain ⟨z0, z1, zf⟩ := hR0.grow hb2; obtain ⟨_, x0, x1⟩ := hX0.grow hb2)
        obtain ⟨c0, c1, K⟩ := ret2 (A := .slice none 0 0) (B := .slice none 0 0) z0 z1
        refine bodyPost_ret (v := .agg #[.slice none 0 0, .slice none 0 0]) (by simp [results, Tryz.results21, go_sem, c0, c1]) rfl (CPost.zero ?_)
        exact (gca hA hb2).trans (K.below (gca hA hb2).size (fun z hz e => by omega))
      · go_enter Tryz.func21, Tryz.ntmps21
        go_wp2_with (go_at_call 43; refine (specDiskOk_any d l _ hd (ha.grow hA)).mono ?_; rintro e w2 ⟨rfl, hb2⟩; rw [hok'.out]; obtain ⟨z0, z1, zf⟩ := hR0.grow hb2; obtain ⟨_, x0, x1⟩ := hX0.grow hb2)
        obtain ⟨c0, c1, K⟩ := ret2 (A := .slice none 0 0) (B := .slice none 0 0) z0 z1
        refine bodyPost_ret (v := .agg #[.slice none 0 0, .slice none 0 0]) (by simp [results, Tryz.results21, go_sem, c0, c1]) rfl (CPost.zero ?_)
        exact (gca hA hb2).trans (K.below (gca hA hb2).size (fun z hz e => by omega))

end Go.Proofs.YthjddpkegooobacGreat

/-
  APPLAIN: laying down, plain: the ops of a laying-down can all be done. Own work.
-/
namespace Go.Proofs.YthjddpkegooobacGreat
open Go.RowKit

/-- an op that can be done on a disk that has room -/
def OP.Good (o : OP) : Prop := o.sync = true ∨ wrOk ⟨o.block, o.bytes⟩ = true
theorem fit_okP {d : DD} (h : d.Fit) : d.ok = true := by
  unfold DD.ok
  simp only [Bool.and_eq_true, decide_eq_true_eq, List.all_eq_true]
  refine ⟨⟨⟨h.bl, h.wl⟩, fun b hb => by simpa [blOk] using h.bb b hb⟩, fun x hx => ?_⟩
  have := h.wb x hx
  simp only [wrOk, Bool.and_eq_true, decide_eq_true_eq]
  exact ⟨⟨this.1, this.2.1⟩, this.2.2⟩
theorem settle_okP {d : DD} (hok : d.ok = true) (keep : Nat → Bool) : (d.settle keep).ok = true ∧ (d.settle keep).waiting = [] := by
  have hf := DD.fit hok
  rw [settle_yes hok]
  exact ⟨fit_okP ⟨by show (settleN _ _ _ _).length = 130; rw [settleN_length]; exact hf.bl, Nat.zero_le _, settleN_all hf.bb (fun x hx => (hf.wb x hx).2.2) _ (Nat.le_refl _), fun x hx => (by cases hx)⟩, rfl⟩
theorem step_good {d : DD} {o : OP} (hok : d.ok = true) (hg : o.Good) (hw : d.waiting.length < 200) : (d.step o).ok = true ∧ (d.step o).waiting.length ≤ d.waiting.length + 1 ∧ (o.sync = true → (d.step o).waiting = []) := by
  unfold DD.step
  by_cases hs : o.sync = true
  · rw [if_pos hs]
    obtain ⟨h1, h2⟩ := settle_okP hok keepAll
    exact ⟨h1, by rw [h2]; exact Nat.zero_le _, fun _ => h2⟩
  · rw [if_neg hs]
    have hw2 := hg.resolve_left hs
    have hf := DD.fit hok
    rw [put_yes hok hw2 (by omega)]
    have hwr : 0 ≤ o.block ∧ o.block < 130 ∧ o.bytes.length = 64 := by
      simp only [wrOk, Bool.and_eq_true, decide_eq_true_eq] at hw2
      exact ⟨hw2.1.1, hw2.1.2, hw2.2⟩
    have hl : (d.waiting ++ [(⟨o.block, o.bytes⟩ : DW)]).length = d.waiting.length + 1 := by simp
    refine ⟨fit_okP ⟨hf.bl, by show (d.waiting ++ [(⟨o.block, o.bytes⟩ : DW)]).length ≤ 200; rw [hl]; omega, hf.bb, fun x hx => ?_⟩, by show (d.waiting ++ [(⟨o.block, o.bytes⟩ : DW)]).length ≤ _; rw [hl]; omega, fun e => absurd e hs⟩
    rcases List.mem_append.1 hx with e | e
    · exact hf.wb x e
    · rw [List.mem_singleton.1 e]; exact hwr
theorem applyN_good {d : DD} {ops : List OP} (hok : d.ok = true) (hg : ∀ o, o ∈ ops → o.Good) : ∀ j, j ≤ ops.length → d.waiting.length + j ≤ 200 → ∃ f, applyN d ops j = some f ∧ f.ok = true ∧ f.waiting.length ≤ d.waiting.length + j
  | 0, _, _ => ⟨d, rfl, hok, Nat.le_refl _⟩
  | j + 1, hj, hw => by
    obtain ⟨f, h1, h2, h3⟩ := applyN_good hok hg j (by omega) (by omega)
    obtain ⟨s1, s2, _⟩ := step_good h2 (hg ops[j]! (mem_at (by omega))) (by omega)
    exact ⟨_, applyN_yes h1 s1, s1, by omega⟩
theorem lay_good (d : DD) {im : List Nat} (hil : im.length ≤ 4096) : ∀ o, o ∈ d.lay im → o.Good := fun o ho => by
  have hs2 := d.newestOf.other_lt
  unfold DD.lay at ho
  split at ho
  · cases ho
  · rcases List.mem_append.1 ho with e | e
    · obtain ⟨i, hi, rfl⟩ := List.mem_map.1 e
      have hi2 := List.mem_range.1 hi
      have hn := nBlk_le hil
      refine Or.inr ?_
      simp only [wrOk, Bool.and_eq_true, decide_eq_true_eq, blkOf_len]
      unfold firstOf
      refine ⟨⟨by omega, by omega⟩, trivial⟩
    · simp only [List.mem_cons, List.not_mem_nil, or_false] at e
      rcases e with rfl | rfl | rfl
      · exact Or.inl rfl
      · refine Or.inr ?_
        have h1 : (0 : Int) ≤ (d.newestOf.other : Int) := by omega
        have h2 : (d.newestOf.other : Int) < 130 := by omega
        unfold headO wrOk
        rw [headB_length]
        simp only [decide_eq_true h1, decide_eq_true h2]
        rfl
      · exact Or.inl rfl
theorem lay_len (d : DD) {im : List Nat} (hil : im.length ≤ 4096) : (d.lay im).length ≤ 67 := by
  unfold DD.lay
  split
  · exact Nat.zero_le _
  · have := nBlk_le hil
    rw [List.length_append, imgOps_len]
    simp
    omega
theorem lay_last (d : DD) {im : List Nat} (hne : d.lay im ≠ []) : ∃ r, d.lay im = r ++ [syncO] := by
  unfold DD.lay at hne ⊢
  split
  · rename_i h; rw [if_pos h] at hne; exact absurd rfl hne
  · exact ⟨imgOps d.newestOf.other im (nBlk im) ++ [syncO, headO d.newestOf im], by simp⟩
/-- behind all ops of a laying-down nothing waits -/
theorem lay_done {d f : DD} {im : List Nat} (hw : d.waiting = []) (hok : d.ok = true) (hil : im.length ≤ 4096) (h : applyN d (d.lay im) (d.lay im).length = some f) : f.waiting = [] := by
  by_cases hne : d.lay im = []
  · rw [hne] at h
    obtain rfl : d = f := Option.some.inj h
    exact hw
  · obtain ⟨r, hr⟩ := lay_last d hne
    have hg := lay_good d hil
    have hll := lay_len d hil
    have hl : (d.lay im).length = r.length + 1 := by rw [hr, List.length_append]; rfl
    obtain ⟨e, h1, h2, h3⟩ := applyN_good hok hg r.length (by omega) (by rw [hw]; simp; omega)
    have hlast : (d.lay im)[r.length]! = syncO := by rw [hr, getElem!_pos _ _ (by simp)]; simp
    have hw0 : e.waiting.length < 200 := by rw [hw] at h3; simp at h3; omega
    obtain ⟨s1, _, s3⟩ := step_good (o := (d.lay im)[r.length]!) h2 (by rw [hlast]; exact Or.inl rfl) hw0
    rw [hl] at h
    have := applyN_yes h1 s1
    rw [this] at h
    obtain rfl := Option.some.inj h
    exact s3 (by rw [hlast]; rfl)
theorem lay_opsOk (d : DD) {im : List Nat} (_hf : d.newestOf.gen ≤ 1000000000000 ∧ 0 ≤ d.newestOf.gen) (hib : ∀ x, x ∈ im → x < 256) (hil : im.length ≤ 4096) : OpsOk (d.lay im) := by
  have hs2 := d.newestOf.other_lt
  have hll := lay_len d hil
  refine ⟨by unfold maxLen; omega, fun o ho => ?_, fun o ho => ?_⟩
  · rcases lay_good d hil o ho with h | h
    · unfold DD.lay at ho
      split at ho
      · cases ho
      · rcases List.mem_append.1 ho with e | e
        · obtain ⟨i, _, rfl⟩ := List.mem_map.1 e
          cases h
        · simp only [List.mem_cons, List.not_mem_nil, or_false] at e
          rcases e with rfl | rfl | rfl
          · unfold I64; show -9223372036854775808 ≤ (0 : Int) ∧ (0 : Int) < 9223372036854775808; omega
          · cases h
          · unfold I64; show -9223372036854775808 ≤ (0 : Int) ∧ (0 : Int) < 9223372036854775808; omega
    · simp only [wrOk, Bool.and_eq_true, decide_eq_true_eq] at h
      unfold I64
      omega
  · unfold DD.lay at ho
    split at ho
    · cases ho
    · rcases List.mem_append.1 ho with e | e
      · obtain ⟨i, _, rfl⟩ := List.mem_map.1 e
        exact ⟨by show (blkOf im i).length ≤ maxLen; rw [blkOf_len]; decide, blkOf_byte hib i⟩
      · simp only [List.mem_cons, List.not_mem_nil, or_false] at e
        rcases e with rfl | rfl | rfl
        · exact ⟨Nat.zero_le _, fun x hx => by cases hx⟩
        · refine ⟨by show (headB _ _ _).length ≤ maxLen; rw [headB_length]; decide, fun x hx => ?_⟩
          have hx : x ∈ headB (d.newestOf.gen + 1) (im.length : Int) (wrap64 (sumN im : Int)) := hx
          unfold headB at hx
          rcases List.mem_append.1 hx with e | e
          · rcases List.mem_append.1 e with e | e
            · exact headN_byte _ _ _ x e
            · exact lowB_byte _ _ _ e
          · rw [List.eq_of_mem_replicate e]; decide
        · exact ⟨Nat.zero_le _, fun x hx => by cases hx⟩

end Go.Proofs.YthjddpkegooobacGreat

/-
  KEEPA: Keep, plain, and the program's. Own work.
-/
namespace Go.Proofs.YthjddpkegooobacGreat
open Go.RowKit

/-- the disk behind the laying-down of a graph -/
def DD.keep (d : DD) (g : GG) : DD := if d.ops (packB g) = [] then zeroD else d.apply (d.ops (packB g)) (d.ops (packB g)).length

theorem packB_lenK (g : GG) : (packB g).length ≤ 4096 := by
  unfold packB
  split
  · rename_i h; exact h.2
  · exact Nat.zero_le _
theorem packB_bytesK (g : GG) : ∀ x, x ∈ packB g → x < 256 := by
  unfold packB
  split
  · rename_i h; exact formB_bytes (canon_okG h.1)
  · intro x hx; cases hx
theorem ops_okK {d : DD} {im : List Nat} (hib : ∀ x, x ∈ im → x < 256) : OpsOk (d.ops im) ∧ (d.ops im).length ≤ 67 := by
  unfold DD.ops
  split
  · rename_i h
    have hr := newest_rng (DD.fit h.1)
    exact ⟨lay_opsOk d ⟨hr.g.2, hr.g.1⟩ hib h.2.2.2, lay_len d h.2.2.2⟩
  · exact ⟨⟨Nat.zero_le _, fun x hx => (by cases hx), fun x hx => (by cases hx)⟩, Nat.zero_le _⟩
theorem mb_bytesK {w : World} {lo : Nat} {oa : Option Addr} {ys : List Nat} (h : MB w lo oa ys) : BytesAt w oa ys := by
  rcases h with rfl | ⟨G, n, rfl, _, hB⟩
  · exact fun i hi => absurd hi (Nat.not_lt_zero _)
  · exact brow_bytes hB

set_option maxHeartbeats 4000000 in
set_option maxRecDepth 100000 in
theorem implKeep_any (d : DD) (l : DL) (a : Option Addr) (cap : Nat) (g : GG) (w : World) (hd : d.Ok) (ha : DAt w l d) (hg : g.Ok) (hga : NodesAt w.heap.size w a g.nodes) :
    Calls Tryz.prog 9 #[d.val l, g.val a cap] w (DPost (d.keep g) w) := by
  have hA : Below w.heap.size w (((w.alloc (.cells #[.slice l.ba d.blocks.length l.bc, .slice l.wa d.waiting.length l.wc] 35)).alloc (.cells #[.int .i64 g.root.kind, .int .i64 g.root.num, .string g.root.text, .int .i64 g.root.node, .slice a g.nodes.length cap] 41)).alloc (.cells #[.slice none 0 0, .slice none 0 0] 35)) := gal (gal (gal (gre w) _) _) _
  have hX0 := (DBox.new w d l 35).grow (gal (gal (gre _) (.cells #[.int .i64 g.root.kind, .int .i64 g.root.num, .string g.root.text, .int .i64 g.root.node, .slice a g.nodes.length cap] 41)) (.cells #[.slice none 0 0, .slice none 0 0] 35))
  have hG0 := (GBox.new (w.alloc (.cells #[.slice l.ba d.blocks.length l.bc, .slice l.wa d.waiting.length l.wc] 35)) g a cap 41).grow (gal (gre _) (.cells #[.slice none 0 0, .slice none 0 0] 35))
  have hR0 := VB.new_at ((w.alloc (.cells #[.slice l.ba d.blocks.length l.bc, .slice l.wa d.waiting.length l.wc] 35)).alloc (.cells #[.int .i64 g.root.kind, .int .i64 g.root.num, .string g.root.text, .int .i64 g.root.node, .slice a g.nodes.length cap] 41)) (.slice none 0 0) (.slice none 0 0) 35 (w.heap.size + 1 + 1) (by simp)
  have hsz1 : (w.alloc (.cells #[.slice l.ba d.blocks.length l.bc, .slice l.wa d.waiting.length l.wc] 35)).heap.size = w.heap.size + 1 := by simp
  rw [hsz1] at hG0
  have hsz3 : (((w.alloc (.cells #[.slice l.ba d.blocks.length l.bc, .slice l.wa d.waiting.length l.wc] 35)).alloc (.cells #[.int .i64 g.root.kind, .int .i64 g.root.num, .string g.root.text, .int .i64 g.root.node, .slice a g.nodes.length cap] 41)).alloc (.cells #[.slice none 0 0, .slice none 0 0] 35)).heap.size = w.heap.size + 1 + 1 + 1 := by simp
  obtain ⟨p, hp⟩ := hid_ex (packB g)
  have hpl : p.length ≤ 4096 := by rw [hp.out]; exact packB_lenK g
  have hpb : ∀ x, x ∈ p → x < 256 := by rw [hp.out]; exact packB_bytesK g
  obtain ⟨hoo, hol⟩ := ops_okK (d := d) hpb
  obtain ⟨ops, hops⟩ := hid_ex (d.ops p)
  rw [← hops.out] at hoo hol
  have hke : Hid (d.keep g = if ops = [] then zeroD else d.apply ops ops.length) := by show _ = _; unfold DD.keep; rw [← hp.out, ← hops.out]
  go_enter Tryz.func9, Tryz.ntmps9
  go_upto_region 1 with fail
  generalize ((w.alloc (.cells #[.slice l.ba d.blocks.length l.bc, .slice l.wa d.waiting.length l.wc] 35)).alloc (.cells #[.int .i64 g.root.kind, .int .i64 g.root.num, .string g.root.text, .int .i64 g.root.node, .slice a g.nodes.length cap] 41)).alloc (.cells #[.slice none 0 0, .slice none 0 0] 35) = w1 at hA hX0 hG0 hR0 hsz3 ⊢
  have hX1 := hX0
  have hG1 := hG0
  have hR1 := hR0
  have hB : Below w1.heap.size w1 w1.drew := gdr (gre _)
  refine wp_regionU (fun u => DBox u w.heap.size d l ∧ GBox u (w.heap.size + 1) g a cap) 99 (by kernel_rfl) ⟨hX1.grow hB, hG1.grow hB⟩ (fun _ => ?_)
  refine anyU_take (i := 0) (v := ?_) rfl (by kernel_rfl) (by kernel_rfl) (by kernel_rfl) (by kernel_rfl) (fun _ _ _ h => h) (Or.inl ⟨by rfl, ?_⟩) ⟨hX1.grow hB, hG1.grow hB⟩ ?_
  rotate_left
  · intro u hSu; obtain ⟨⟨_, s0, s1⟩, ⟨_, t0, t1, t2, t3, t4⟩⟩ := hSu; go_simp <;> with_reducible rfl
  simp only [Act.put, List.getElem_toArray, List.getElem_cons_zero, List.setIfInBounds_toArray, List.set_cons_zero, List.set_cons_succ]
  refine anyU_take (i := 1) (v := ?_) rfl (by kernel_rfl) (by kernel_rfl) (by kernel_rfl) (by kernel_rfl) (fun _ _ _ h => h) (Or.inl ⟨by rfl, ?_⟩) ⟨hX1.grow hB, hG1.grow hB⟩ ?_
  rotate_left
  · intro u hSu; obtain ⟨⟨_, s0, s1⟩, ⟨_, t0, t1, t2, t3, t4⟩⟩ := hSu; go_simp <;> with_reducible rfl
  simp only [Act.put, List.getElem_toArray, List.getElem_cons_zero, List.getElem_cons_succ, List.setIfInBounds_toArray, List.set_cons_zero, List.set_cons_succ]
  refine anyU_one (i := 2) (by kernel_rfl) rfl (fun K hK => ?_)
  go_simp
  refine (implPack_cap a cap g _ hg (hga.grow (gca hA hB))).mono ?_
  rintro e w2 ⟨oa, oc, rfl, hM2, hb2, hoc⟩
  rw [← hp.out] at hM2 hoc ⊢
  have hB := gca hB hb2
  refine hK.out _ _ ⟨hX1.grow hB, hG1.grow hB⟩ ?_
  clear hK
  refine anyU_one (i := 3) (by kernel_rfl) rfl (fun K hK => ?_)
  go_simp
  refine (implOps_any d l oa p oc _ hd (ha.grow (gca hA hB)) (mb_bytesK hM2) hpb (by omega) hoc).mono ?_
  rw [← hops.out]
  rintro e w3 ⟨pa, pc, lo, rfl, hlo, hSO, hb3⟩
  have hB := gca hB hb3
  refine hK.out _ _ ⟨hX1.grow hB, hG1.grow hB⟩ ?_
  clear hK
  refine anyU_one (i := 4) (by kernel_rfl) rfl (fun K hK => ?_)
  go_simp
  refine hK.out _ _ ⟨hX1.grow hB, hG1.grow hB⟩ ?_
  clear hK
  refine anyU_done (by kernel_rfl) ?_
  have hX3 := hX1.grow hB
  have hR3 := hR1.grow hB
  have hA3 := gca hA hB
  have hoat := hSO.at_
  rw [hlo] at hoat
  have hlol : lo.length = ops.length := by rw [← hlo, List.length_map]
  have hpc := owns_capH hSO.own
  rw [hlol] at hpc
  obtain ⟨_, x0, x1⟩ := id hX3
  rcases Nat.eq_zero_or_pos ops.length with h0 | h0
  · have hn : ops = [] := List.eq_nil_of_length_eq_zero h0
    have h0' : Hid (ops.length = 0) := h0
    clear h0
    obtain ⟨z0, z1, zf⟩ := id hR3
    obtain ⟨n, hnn⟩ := hid_ex ops.length
    have hn0 : n = 0 := by rw [hnn.out]; exact h0'.out
    rw [← hnn.out]
    subst hn0
    go_wp2
    obtain ⟨c0, c1, K⟩ := ret2 (A := .slice none 0 0) (B := .slice none 0 0) z0 z1
    have hkz : d.keep g = zeroD := hke.out.trans (if_pos hn)
    refine bodyPost_ret (v := .agg #[.slice none 0 0, .slice none 0 0]) (by simp [results, Tryz.results9, go_sem, c0, c1]) rfl ?_
    rw [hkz]
    exact DPost.zero (hA3.trans (K.below hA3.size (fun z hz e => by omega)))
  · have hn : ops ≠ [] := fun e => by rw [e] at h0; exact absurd h0 (Nat.lt_irrefl _)
    have hne : ((ops.length : Int) == 0) = false := by simp; omega
    have hap := implApply_any d l pa ops pc (ops.length : Int) w3 hd (ha.grow hA3) hoat hpc (by omega) hoo (by unfold I64; omega)
    obtain ⟨c, hc⟩ := hid_ex (d.apply ops ops.length)
    rw [← hc.out] at hap
    have hkz : d.keep g = c := (hke.out.trans (if_neg hn)).trans hc.out.symm
    go_wp2_with (go_at_call 28; refine hap.mono ?_; rintro e w4 ⟨l6, fa, ga, fc, gc, rfl, hmd, hb4⟩; obtain ⟨z0, z1, zf⟩ := hR3.grow hb4)
    obtain ⟨c0, c1, K⟩ := ret2 (A := .slice l6.ba c.blocks.length l6.bc) (B := .slice l6.wa c.waiting.length l6.wc) z0 z1
    have hR4 := hR3.lt
    have hs4 := hb4.size
    have hA4 := gca hA3 hb4
    have hs3 := hA3.size
    refine bodyPost_ret (v := c.val l6) (by simp [results, Tryz.results9, go_sem, c0, c1]) rfl ?_
    rw [hkz]
    exact ⟨l6, fa, ga, fc, gc, rfl, hmd.last K (by omega) (by omega) K.size, hA4.trans (K.below hA4.size (fun z hz e => by omega))⟩

set_option maxHeartbeats 4000000 in
set_option maxRecDepth 100000 in
theorem specKeep_any (d : DD) (l : DL) (a : Option Addr) (cap : Nat) (g : GG) (w : World) (hd : d.Ok) (ha : DAt w l d) (hg : g.Ok) (hga : NodesAt w.heap.size w a g.nodes) :
    Calls Tryz.prog 6 #[d.val l, g.val a cap] w (CPost (d.keep g) w) := by
  have hA : Below w.heap.size w (((w.alloc (.cells #[.slice l.ba d.blocks.length l.bc, .slice l.wa d.waiting.length l.wc] 35)).alloc (.cells #[.int .i64 g.root.kind, .int .i64 g.root.num, .string g.root.text, .int .i64 g.root.node, .slice a g.nodes.length cap] 41)).alloc (.cells #[.slice none 0 0, .slice none 0 0] 35)) := gal (gal (gal (gre w) _) _) _
  have hX0 := (DBox.new w d l 35).grow (gal (gal (gre _) (.cells #[.int .i64 g.root.kind, .int .i64 g.root.num, .string g.root.text, .int .i64 g.root.node, .slice a g.nodes.length cap] 41)) (.cells #[.slice none 0 0, .slice none 0 0] 35))
  have hG0 := (GBox.new (w.alloc (.cells #[.slice l.ba d.blocks.length l.bc, .slice l.wa d.waiting.length l.wc] 35)) g a cap 41).grow (gal (gre _) (.cells #[.slice none 0 0, .slice none 0 0] 35))
  have hR0 := VB.new_at ((w.alloc (.cells #[.slice l.ba d.blocks.length l.bc, .slice l.wa d.waiting.length l.wc] 35)).alloc (.cells #[.int .i64 g.root.kind, .int .i64 g.root.num, .string g.root.text, .int .i64 g.root.node, .slice a g.nodes.length cap] 41)) (.slice none 0 0) (.slice none 0 0) 35 (w.heap.size + 1 + 1) (by simp)
  have hsz1 : (w.alloc (.cells #[.slice l.ba d.blocks.length l.bc, .slice l.wa d.waiting.length l.wc] 35)).heap.size = w.heap.size + 1 := by simp
  rw [hsz1] at hG0
  have hsz3 : (((w.alloc (.cells #[.slice l.ba d.blocks.length l.bc, .slice l.wa d.waiting.length l.wc] 35)).alloc (.cells #[.int .i64 g.root.kind, .int .i64 g.root.num, .string g.root.text, .int .i64 g.root.node, .slice a g.nodes.length cap] 41)).alloc (.cells #[.slice none 0 0, .slice none 0 0] 35)).heap.size = w.heap.size + 1 + 1 + 1 := by simp
  obtain ⟨p, hp⟩ := hid_ex (packB g)
  have hpl : p.length ≤ 4096 := by rw [hp.out]; exact packB_lenK g
  have hpb : ∀ x, x ∈ p → x < 256 := by rw [hp.out]; exact packB_bytesK g
  obtain ⟨hoo, hol⟩ := ops_okK (d := d) hpb
  obtain ⟨ops, hops⟩ := hid_ex (d.ops p)
  rw [← hops.out] at hoo hol
  have hke : Hid (d.keep g = if ops = [] then zeroD else d.apply ops ops.length) := by show _ = _; unfold DD.keep; rw [← hp.out, ← hops.out]
  go_enter Tryz.func6, Tryz.ntmps6
  go_upto_region 1 with fail
  generalize ((w.alloc (.cells #[.slice l.ba d.blocks.length l.bc, .slice l.wa d.waiting.length l.wc] 35)).alloc (.cells #[.int .i64 g.root.kind, .int .i64 g.root.num, .string g.root.text, .int .i64 g.root.node, .slice a g.nodes.length cap] 41)).alloc (.cells #[.slice none 0 0, .slice none 0 0] 35) = w1 at hA hX0 hG0 hR0 hsz3 ⊢
  have hX1 := hX0
  have hG1 := hG0
  have hR1 := hR0
  obtain ⟨_, x0, x1⟩ := id hX1
  obtain ⟨_, y0, y1, y2, y3, y4⟩ := id hG1
  go_upto_region 3 with (first
    | (go_at_call 19; refine (specPack_any a cap g _ hg (hga.grow hA)).mono ?_; rintro e w2 ⟨oa, oc, rfl, hM2, hb2⟩; rw [← hp.out] at hM2 ⊢; obtain ⟨_, x0, x1⟩ := hX1.grow hb2)
    | (go_at_call 20; refine (specOps_any d l oa p oc _ hd (ha.grow (gca hA hb2)) (owns_bytesO hM2) hpb (by omega)).mono ?_; rw [← hops.out]; rintro e w3 ⟨pa, pc, lo, rfl, hlo, hSO, hb3⟩))
  have hX3 := (hX1.grow hb2).grow hb3
  have hR3 := (hR1.grow hb2).grow hb3
  have hA3 := gca (gca hA hb2) hb3
  have hoat := hSO.at_
  rw [hlo] at hoat
  clear x0 x1 y0 y1 y2 y3 y4
  obtain ⟨_, x0, x1⟩ := id hX3
  rcases Nat.eq_zero_or_pos ops.length with h0 | h0
  · have hn : ops = [] := List.eq_nil_of_length_eq_zero h0
    have h0' : Hid (ops.length = 0) := h0
    clear h0
    obtain ⟨z0, z1, zf⟩ := id hR3
    obtain ⟨n, hnn⟩ := hid_ex ops.length
    have hn0 : n = 0 := by rw [hnn.out]; exact h0'.out
    rw [← hnn.out]
    subst hn0
    go_wp2
    obtain ⟨c0, c1, K⟩ := ret2 (A := .slice none 0 0) (B := .slice none 0 0) z0 z1
    have hkz : d.keep g = zeroD := hke.out.trans (if_pos hn)
    refine bodyPost_ret (v := .agg #[.slice none 0 0, .slice none 0 0]) (by simp [results, Tryz.results6, go_sem, c0, c1]) rfl ?_
    rw [hkz]
    exact CPost.zero (hA3.trans (K.below hA3.size (fun z hz e => by omega)))
  · have hn : ops ≠ [] := fun e => by rw [e] at h0; exact absurd h0 (Nat.lt_irrefl _)
    have hne : ((ops.length : Int) == 0) = false := by simp; omega
    have hap := specApply_any d l pa ops pc (ops.length : Int) w3 hd (ha.grow hA3) hoat (by omega) hoo (by unfold I64; omega)
    obtain ⟨c, hc⟩ := hid_ex (d.apply ops ops.length)
    rw [← hc.out] at hap
    have hkz : d.keep g = c := (hke.out.trans (if_neg hn)).trans hc.out.symm
    go_wp2_with (go_at_call 21; refine hap.mono ?_; rintro e w4 ⟨lb, lw, ba, bc, wa, wc, rfl, hmb, hmw, hsb, hsw, hb4⟩; obtain ⟨z0, z1, zf⟩ := hR3.grow hb4)
    obtain ⟨c0, c1, K⟩ := ret2 (A := .slice ba c.blocks.length bc) (B := .slice wa c.waiting.length wc) z0 z1
    have hR4 := hR3.lt
    have hA4 := gca hA3 hb4
    have hs3 := hA3.size
    refine bodyPost_ret (v := c.val ⟨ba, bc, wa, wc⟩) (by simp [results, Tryz.results6, go_sem, c0, c1]) rfl ?_
    rw [hkz]
    exact ⟨lb, lw, ba, bc, wa, wc, rfl, hmb, hmw, (hsb.kept K (fun z e hz => by omega)).le (by omega), (hsw.kept K (fun z e hz => by omega)).le (by omega), hA4.trans (K.below hA4.size (fun z hz e => by omega))⟩

end Go.Proofs.YthjddpkegooobacGreat

/-
  BYTES: the laws' bytes, marked. Own work.
-/
namespace Go.Proofs.YthjddpkegooobacGreat
open Go.RowKit

def marksB (k n : Nat) : List Nat := (List.range n).map fun j => (k + j) % 256
set_option maxRecDepth 100000 in
theorem marksB_length (k n : Nat) : (marksB k n).length = n := by simp [marksB]
theorem marksB_get {k n i : Nat} (h : i < n) : (marksB k n)[i]! = (k + i) % 256 := by
  rw [getElem!_pos _ i (by rw [marksB_length]; exact h)]
  simp [marksB]

set_option maxRecDepth 100000 in
theorem markByteS_any (oa : Option Addr) (bs : List Nat) (cap k lo : Nat) (w : World) (hl : bs.length ≤ 1048576) (hk : k ≤ 1099511627776) (hM : MB w lo oa bs) :
    Calls Tryz.prog 69 #[.slice oa bs.length cap, .int .i64 k] w fun e w' => e = .returned (.int .i64 ((k + bs.length : Nat) : Int)) ∧ MB w' lo oa (marksB k bs.length) ∧ Kept (fun b => lo ≤ b ∧ oa = some ⟨b, 0, none⟩) w w' := by
  rcases hM with rfl | ⟨G, n, rfl, hG, hB⟩
  · go_enter Tryz.func69, Tryz.ntmps69
    go_wp2
    go_loopw [1, 5] (fun c i wr => c = .int .i64 k ∧ i = .int .i64 0 ∧ wr = w) (fun _ _ _ => 0)
    case atStart => exact ⟨rfl, rfl, rfl⟩
    case round =>
      obtain ⟨rfl, rfl, rfl⟩ := hrel
      go_wp2
      go_ret
      exact ⟨rfl, Or.inl rfl, Kept.refl _ _⟩
  · obtain ⟨f0, hr0, _⟩ := hB.row
    have hln : bs.length ≤ n := by obtain ⟨c, _, _, hl, _⟩ := hB; exact hl
    go_enter Tryz.func69, Tryz.ntmps69
    go_wp2
    go_loopw [1, 5] (fun c i wr => ∃ (m : Nat) (f : Nat → Value), m ≤ bs.length ∧ c = .int .i64 ((k + m : Nat) : Int) ∧ i = .int .i64 m ∧ wr.rowIs G 5 n f ∧ (∀ j, j < m → f j = .int .u8 (((k + j) % 256 : Nat) : Int)) ∧ Kept (fun b => b = G) w wr) (fun _ i _ => bs.length - (intOf i).toNat)
    case atStart => exact ⟨0, f0, Nat.zero_le _, rfl, rfl, hr0, fun j hj => absurd hj (Nat.not_lt_zero _), Kept.refl _ _⟩
    case round =>
      obtain ⟨m, f, hm, rfl, rfl, hrow, hin, hK⟩ := hrel
      obtain ⟨q, hq⟩ := hid_ex (k + m)
      rw [← hq.out]
      have hq1 : q ≤ 2199023255552 := by rw [hq.out]; omega
      by_cases hlt : m < bs.length
      · have d0 := hrow.cell (i := m) (by omega)
        have fz := hrow.frozen
        obtain ⟨x, hx⟩ := hid_ex (q % 256)
        have e2 : IntKind.u8.wrap (q : Int) = (x : Int) := by rw [hx.out, IntKind.wrap_u8']; omega
        go_wp2
        go_roundw
        case rel =>
          refine ⟨m + 1, _, by omega, ?_, by go_num, hrow.set _ _, fun j hj => ?_, hK.set (fun _ => rfl) _⟩
          · have : q + 1 = k + (m + 1) := by rw [hq.out]; omega
            rw [← this]; go_num
          · show (if j = m then _ else _) = _
            split
            · rename_i e; rw [e, hx.out, hq.out]
            · exact hin j (by omega)
        case measure => simp [intOf]; omega
      · obtain rfl : m = bs.length := by omega
        go_wp2
        go_ret
        refine ⟨by rw [← hq.out]; rfl, Or.inr ⟨G, n, rfl, hG, BRow.of_row hrow (by rw [marksB_length]; exact hln) (fun i hi => ?_)⟩, hK.mono (fun b _ e => by subst e; exact ⟨hG, rfl⟩)⟩
        rw [marksB_length] at hi
        rw [marksB_get hi]; exact hin i hi

set_option maxRecDepth 100000 in
theorem heldByteS_any (oa : Option Addr) (n cap k : Nat) (w : World) (hl : n ≤ 1048576) (hk : k ≤ 1099511627776) (hM : BytesAt w oa (marksB k n)) :
    Calls Tryz.prog 71 #[.slice oa n cap, .int .i64 k] w fun e w' => e = .returned (.int .i64 ((k + n : Nat) : Int)) ∧ Below w.heap.size w w' := by
  go_enter Tryz.func71, Tryz.ntmps71
  go_wp2
  go_loopw [1, 5] (fun c i wr => ∃ (m : Nat), m ≤ n ∧ c = .int .i64 ((k + m : Nat) : Int) ∧ i = .int .i64 m ∧ Below w.heap.size w wr) (fun _ i _ => n - (intOf i).toNat)
  case atStart => exact ⟨0, Nat.zero_le _, rfl, rfl, gre _⟩
  case round =>
    obtain ⟨m, hm, rfl, rfl, hb⟩ := hrel
    obtain ⟨q, hq⟩ := hid_ex (k + m)
    rw [← hq.out]
    have hq1 : q ≤ 2199023255552 := by rw [hq.out]; omega
    by_cases hlt : m < n
    · obtain ⟨x, b, off, hxk, hxm, rfl, hc⟩ := (hM.grow hb).get (k := m) (by rw [marksB_length]; exact hlt)
      have hx2 : Hid (x = q % 256) := by show _ = _; rw [hxk.out, marksB_get hlt, hq.out]
      have e2 : IntKind.u8.wrap (q : Int) = (x : Int) := by rw [hx2.out, IntKind.wrap_u8']; omega
      have hn2 : ((x : Int) != (x : Int)) = false := by simp
      go_wp2
      go_roundw
      case rel =>
        refine ⟨m + 1, by omega, ?_, by go_num, hb⟩
        have : q + 1 = k + (m + 1) := by rw [hq.out]; omega
        rw [← this]; go_num
      case measure => simp [intOf]; omega
    · obtain rfl : m = n := by omega
      go_wp2
      go_ret
      exact ⟨by rw [← hq.out]; rfl, hb⟩

end Go.Proofs.YthjddpkegooobacGreat

/-
  DTO: the laws' copies of disks. Own work.
-/
namespace Go.Proofs.YthjddpkegooobacGreat
open Go.RowKit


/-- lists of bytes in a row of their own, the bytes in rows behind it -/
def BlksIn (w : World) (N : Nat) (f : Nat → Value) (bs : Nat → Nat) (ls : List (List Nat)) (k : Nat) : Prop :=
  ∀ i, i < k → f i = .slice (some ⟨bs i, 0, none⟩) ls[i]!.length ls[i]!.length ∧ BRow w (bs i) ls[i]!.length ls[i]! ∧ N < bs i ∧ ∀ j, j < i → bs j < bs i
def OwnBlks (w : World) (N : Nat) (bs : Nat → Nat) (ls : List (List Nat)) : Prop := ∃ f, w.rowIs N 52 ls.length f ∧ BlksIn w N f bs ls ls.length

theorem OwnBlks.below {w w' : World} {N : Nat} {bs : Nat → Nat} {ls : List (List Nat)} (h : OwnBlks w N bs ls) (hb : Below w.heap.size w w') : OwnBlks w' N bs ls := by
  obtain ⟨f, hr, hn⟩ := h
  refine ⟨f, hr.of_block (hb.block _ hr.lt), fun i hi => ?_⟩
  obtain ⟨h0, h1, h2⟩ := hn i hi
  exact ⟨h0, h1.of_block (hb.block _ h1.lt), h2⟩
theorem OwnBlks.set {w : World} {N : Nat} {bs : Nat → Nat} {ls : List (List Nat)} (h : OwnBlks w N bs ls) {p : Addr} (hp : p.block < N) (u : Value) : OwnBlks (w.setCell p u) N bs ls := by
  obtain ⟨f, hr, hn⟩ := h
  refine ⟨f, hr.setOther (by omega) u, fun i hi => ?_⟩
  obtain ⟨h0, h1, h2, h3⟩ := hn i hi
  exact ⟨h0, h1.of_block (Deep.blk_setCell_other _ _ _ _ (by omega)), h2, h3⟩
theorem OwnBlks.lt {w : World} {N : Nat} {bs : Nat → Nat} {ls : List (List Nat)} (h : OwnBlks w N bs ls) : N < w.heap.size := by obtain ⟨f, hr, _⟩ := h; exact hr.lt
theorem OwnBlks.at_ {w : World} {N : Nat} {bs : Nat → Nat} {ls : List (List Nat)} (h : OwnBlks w N bs ls) : BlksAt w (some ⟨N, 0, none⟩) ls := fun i hi => by
  obtain ⟨f, hr, hn⟩ := h
  obtain ⟨h0, h1, _⟩ := hn i hi
  refine ⟨N, 0, some ⟨bs i, 0, none⟩, ls[i]!.length, rfl, ?_, brow_bytes h1⟩
  rw [← h0, Nat.zero_add]; exact hr.cell hi
theorem BlksIn.step {w w' : World} {N : Nat} {f : Nat → Value} {bs : Nat → Nat} {ls : List (List Nat)} {k b : Nat} {l : List Nat} (h : BlksIn w N f bs ls k) (hv : Hid (l = ls[k]!)) (hb : Below w.heap.size w w') (hN : N < w.heap.size)
    (hbb : w.heap.size ≤ b) (hown : BRow w' b l.length l) (u : Value) (o : Nat) :
    BlksIn (w'.setCell ⟨N, o, none⟩ u) N (fun j => if j = k then .slice (some ⟨b, 0, none⟩) l.length l.length else f j) (fun i => if i = k then b else bs i) ls (k + 1) := fun i hi => by
  have e := hv.out
  by_cases hk : i = k
  · subst hk; subst e
    refine ⟨by simp, ?_, by simp; omega, fun j hj => ?_⟩
    · simp only [if_pos]
      exact hown.of_block (Deep.blk_setCell_other _ _ _ _ (by simp; omega))
    · simp only [if_pos, if_neg (show j ≠ i by omega)]
      have := (h j hj).2.1.lt
      omega
  · obtain ⟨h0, h1, h2, h3⟩ := h i (by omega)
    refine ⟨?_, ?_, ?_, fun j hj => ?_⟩ <;> simp only [if_neg hk]
    · exact h0
    · exact (h1.of_block (hb.block _ h1.lt)).of_block (Deep.blk_setCell_other _ _ _ _ (by simp; omega))
    · exact h2
    · rw [if_neg (show j ≠ k by omega)]; exact h3 j hj

theorem toByteSS_any (a : Option Addr) (cap : Nat) (ns : List (List Nat)) (w : World) (hl : ns.length ≤ 1048576) (hv : ∀ n, n ∈ ns → n.length ≤ 1048576) (ha : BlksAt w a ns) :
    Calls Tryz.prog 22 #[.slice a ns.length cap] w fun e w' => ∃ b bs, e = .returned (.slice (some ⟨b, 0, none⟩) ns.length ns.length) ∧ w.heap.size ≤ b ∧ OwnBlks w' b bs ns ∧ Below w.heap.size w w' := by
  obtain ⟨i0, hi, hz0, hz1, hz2⟩ := info_parts info_bytes
  have hmk : ∀ u : World, (Instr.makeSlice 22 (.int .i64 (ns.length : Int)) (.int .i64 (ns.length : Int))).run Tryz.prog u =
      .ok (.slice (some ⟨u.heap.size, 0, none⟩) ns.length ns.length) (u.alloc (.cells (madeCells #[.slice none 0 0] ns.length) 52)) := fun u => by
    have h := run_make (P := Tryz.prog) u 22 52 i0 _ Tryz.underlying22 hi hz0 .i64 .i64 (ns.length : Int) (ns.length : Int) (by omega) (Int.le_refl _) (by rw [hz2]; omega) (by omega)
    simpa [hz1, Value.cells] using h
  go_enter Tryz.func22, Tryz.ntmps22
  go_wp2
  go_loopw [4] (fun i wr => ∃ (k : Nat) (f : Nat → Value) (bs : Nat → Nat), k ≤ ns.length ∧ i = .int .i64 k ∧ wr.rowIs w.heap.size 52 ns.length f ∧ BlksIn wr w.heap.size f bs ns k ∧ Below w.heap.size w wr) (fun i _ => ns.length - (intOf i).toNat)
  case atStart => exact ⟨0, _, fun _ => 0, Nat.zero_le _, rfl, rowIs_made_any _ _ _ _, fun i hi => absurd hi (Nat.not_lt_zero _), (Below.refl _ _).alloc (Nat.le_refl _) _⟩
  case round =>
    obtain ⟨k, f, bs, hk, rfl, hrow, hin, hb⟩ := hrel
    by_cases hlt : k < ns.length
    · obtain ⟨l, b, off, a', cap', hvk, hvm, rfl, c0, hva⟩ := (ha.grow hb).get hlt
      go_wp2_with (go_at_call 46; refine (toByteS_any a' l cap' _ (hv l hvm) hva).mono ?_; rintro e w' ⟨b', rfl, hbb, hown, hb'⟩; have hrow' := hrow.of_block (hb'.block _ hrow.lt); have d0 := hrow'.cell (i := k) (by omega); have f0 := hrow'.frozen)
      go_roundw
      case rel => exact ⟨k + 1, _, _, by omega, by go_num, hrow'.set _ _, hin.step hvk hb' hrow.lt hbb hown _ _, (hb.trans (hb'.mono hb.size)).setCell (Nat.le_refl _) _⟩
      case measure => simp [intOf]; omega
    · go_wp2
      go_ret
      have e : k = ns.length := by omega
      subst e
      exact ⟨_, bs, rfl, Nat.le_refl _, ⟨_, hrow, hin⟩, hb⟩

set_option maxRecDepth 100000 in
theorem toWrite_any (x : DW) (a : Option Addr) (cap : Nat) (w : World) (hl : x.bytes.length ≤ 1048576) (ha : BytesAt w a x.bytes) :
    Calls Tryz.prog 47 #[x.val a cap] w fun e w' => ∃ b, e = .returned (x.val (some ⟨b, 0, none⟩) x.bytes.length) ∧ w.heap.size ≤ b ∧ BRow w' b x.bytes.length x.bytes ∧ Below w.heap.size w w' := by
  go_enter Tryz.func47, Tryz.ntmps47
  go_wp2_with (go_at_call 46; refine (toByteS_any a x.bytes cap _ hl (ha.grow (gal (gal (gal (gre _) _) _) _))).mono ?_; rintro e w' ⟨b, rfl, hbb, hown, hb'⟩; obtain ⟨hc, hf⟩ := bcell hb')
  refine bodyPost_ret (v := x.val (some ⟨b, 0, none⟩) x.bytes.length) (by simp [results, Tryz.results47, go_sem, hc]) rfl ⟨b, rfl, ?_, ?_, ?_⟩
  · simp at hbb; omega
  · simp at hbb
    refine ((hown.of_block (Deep.blk_setCell_other _ _ _ _ (by simp; omega))).of_block (Deep.blk_setCell_other _ _ _ _ (by simp; omega))).of_block (Deep.blk_setCell_other _ _ _ _ (by simp; omega))
  · exact gse (gse (gse (gca (gal (gal (gal (gre _) _) _) _) hb') (by simp; omega) _) (by simp) _) (by simp) _

/-- writes in a row of their own, the bytes in rows behind it -/
def WrsIn (w : World) (N : Nat) (f : Nat → Value) (bs : Nat → Nat) (ns : List DW) (k : Nat) : Prop :=
  ∀ i, i < k → f (i * 2) = .int .i64 ns[i]!.block ∧ f (i * 2 + 1) = .slice (some ⟨bs i, 0, none⟩) ns[i]!.bytes.length ns[i]!.bytes.length ∧ BRow w (bs i) ns[i]!.bytes.length ns[i]!.bytes ∧ N < bs i ∧ ∀ j, j < i → bs j < bs i
def OwnWrs (w : World) (N : Nat) (bs : Nat → Nat) (ns : List DW) : Prop := ∃ f, w.rowIs N 80 (ns.length * 2) f ∧ WrsIn w N f bs ns ns.length

theorem OwnWrs.at_ {w : World} {N : Nat} {bs : Nat → Nat} {ns : List DW} (h : OwnWrs w N bs ns) : WrsAt w (some ⟨N, 0, none⟩) ns := fun i hi => by
  obtain ⟨f, hr, hn⟩ := h
  obtain ⟨h0, h1, h2, _⟩ := hn i hi
  refine ⟨N, 0, some ⟨bs i, 0, none⟩, ns[i]!.bytes.length, rfl, ?_, ?_, brow_bytes h2⟩
  · rw [← h0, Nat.zero_add]; exact hr.cell (by omega)
  · rw [← h1, Nat.zero_add]; exact hr.cell (by omega)
theorem OwnWrs.below {w w' : World} {N : Nat} {bs : Nat → Nat} {ns : List DW} (h : OwnWrs w N bs ns) (hb : Below w.heap.size w w') : OwnWrs w' N bs ns := by
  obtain ⟨f, hr, hn⟩ := h
  refine ⟨f, hr.of_block (hb.block _ hr.lt), fun i hi => ?_⟩
  obtain ⟨h0, h1, h2, h3⟩ := hn i hi
  exact ⟨h0, h1, h2.of_block (hb.block _ h2.lt), h3⟩
theorem OwnWrs.set {w : World} {N : Nat} {bs : Nat → Nat} {ns : List DW} (h : OwnWrs w N bs ns) {p : Addr} (hp : p.block < N) (u : Value) : OwnWrs (w.setCell p u) N bs ns := by
  obtain ⟨f, hr, hn⟩ := h
  refine ⟨f, hr.setOther (by omega) u, fun i hi => ?_⟩
  obtain ⟨h0, h1, h2, h3, h4⟩ := hn i hi
  exact ⟨h0, h1, h2.of_block (Deep.blk_setCell_other _ _ _ _ (by omega)), h3, h4⟩
theorem OwnWrs.lt {w : World} {N : Nat} {bs : Nat → Nat} {ls : List DW} (h : OwnWrs w N bs ls) : N < w.heap.size := by obtain ⟨f, hr, _⟩ := h; exact hr.lt
theorem WrsIn.step {w w' : World} {N : Nat} {f : Nat → Value} {bs : Nat → Nat} {ns : List DW} {k b : Nat} {n : DW} (h : WrsIn w N f bs ns k) (hv : Hid (n = ns[k]!)) (hb : Below w.heap.size w w') (hN : N < w.heap.size)
    (hbb : w.heap.size ≤ b) (hown : BRow w' b n.bytes.length n.bytes) (u u' : Value) (o o' : Nat) :
    WrsIn ((w'.setCell ⟨N, o, none⟩ u).setCell ⟨N, o', none⟩ u') N
      (fun j => if j = k * 2 + 1 then .slice (some ⟨b, 0, none⟩) n.bytes.length n.bytes.length else if j = k * 2 then .int .i64 n.block else f j) (fun i => if i = k then b else bs i) ns (k + 1) := fun i hi => by
  have e := hv.out
  by_cases hk : i = k
  · subst hk; subst e
    refine ⟨by simp, by simp, ?_, by simp; omega, fun j hj => ?_⟩
    · simp only [if_pos]
      exact (hown.of_block (Deep.blk_setCell_other _ _ _ _ (by simp; omega))).of_block (Deep.blk_setCell_other _ _ _ _ (by simp; omega))
    · simp only [if_pos, if_neg (show j ≠ i by omega)]
      have := (h j hj).2.2.1.lt
      omega
  · obtain ⟨h0, h1, h2, h3, h4⟩ := h i (by omega)
    refine ⟨?_, ?_, ?_, ?_, fun j hj => ?_⟩ <;> simp only [if_neg hk]
    · rw [if_neg (by omega), if_neg (by omega)]; exact h0
    · rw [if_neg (by omega), if_neg (by omega)]; exact h1
    · exact ((h2.of_block (hb.block _ h2.lt)).of_block (Deep.blk_setCell_other _ _ _ _ (by simp; omega))).of_block (Deep.blk_setCell_other _ _ _ _ (by simp; omega))
    · exact h3
    · rw [if_neg (show j ≠ k by omega)]; exact h4 j hj

set_option maxRecDepth 100000 in
theorem toWriteS_any (a : Option Addr) (cap : Nat) (ns : List DW) (w : World) (hl : ns.length ≤ 1048576) (hv : ∀ n, n ∈ ns → n.bytes.length ≤ 1048576) (ha : WrsAt w a ns) :
    Calls Tryz.prog 23 #[.slice a ns.length cap] w fun e w' => ∃ b bs, e = .returned (.slice (some ⟨b, 0, none⟩) ns.length ns.length) ∧ w.heap.size ≤ b ∧ OwnWrs w' b bs ns ∧ Below w.heap.size w w' := by
  obtain ⟨i0, hi, hz0, hz1, hz2⟩ := info_parts info_implWrite
  have hmk : ∀ u : World, (Instr.makeSlice 33 (.int .i64 (ns.length : Int)) (.int .i64 (ns.length : Int))).run Tryz.prog u =
      .ok (.slice (some ⟨u.heap.size, 0, none⟩) ns.length ns.length) (u.alloc (.cells (madeCells #[.int .i64 0, .slice none 0 0] (ns.length * 2)) 80)) := fun u => by
    have h := run_make (P := Tryz.prog) u 33 80 i0 _ Tryz.underlying33 hi hz0 .i64 .i64 (ns.length : Int) (ns.length : Int) (by omega) (Int.le_refl _) (by rw [hz2]; omega) (by omega)
    simpa [hz1, Value.cells] using h
  go_enter Tryz.func23, Tryz.ntmps23
  go_wp2
  go_loopw [4] (fun i wr => ∃ (k : Nat) (f : Nat → Value) (bs : Nat → Nat), k ≤ ns.length ∧ i = .int .i64 k ∧ wr.rowIs w.heap.size 80 (ns.length * 2) f ∧ WrsIn wr w.heap.size f bs ns k ∧ Below w.heap.size w wr) (fun i _ => ns.length - (intOf i).toNat)
  case atStart => exact ⟨0, _, fun _ => 0, Nat.zero_le _, rfl, rowIs_made_any _ _ _ _, fun i hi => absurd hi (Nat.not_lt_zero _), (Below.refl _ _).alloc (Nat.le_refl _) _⟩
  case round =>
    obtain ⟨k, f, bs, hk, rfl, hrow, hin, hb⟩ := hrel
    by_cases hlt : k < ns.length
    · obtain ⟨n, b, off, a', cap', hvk, hvm, rfl, c0, c1, hva⟩ := (ha.grow hb).get hlt
      go_wp2_with (go_at_call 47; refine (toWrite_any n a' cap' _ (hv n hvm) hva).mono ?_; rintro e w' ⟨b', rfl, hbb, hown, hb'⟩; have hrow' := hrow.of_block (hb'.block _ hrow.lt); have d0 := hrow'.cell (i := k * 2) (by omega); have d1 := hrow'.cell (i := k * 2 + 1) (by omega); have f0 := hrow'.frozen)
      go_roundw
      case rel => exact ⟨k + 1, _, _, by omega, by go_num, (hrow'.set _ _).set _ _, hin.step hvk hb' hrow.lt hbb hown _ _ _ _, ((hb.trans (hb'.mono hb.size)).setCell (Nat.le_refl _) _).setCell (Nat.le_refl _) _⟩
      case measure => simp [intOf]; omega
    · go_wp2
      go_ret
      have e : k = ns.length := by omega
      subst e
      exact ⟨_, bs, rfl, Nat.le_refl _, ⟨_, hrow, hin⟩, hb⟩

/-- a copy in memory of its own -/
structure OwnD (w : World) (l : DL) (lo : Nat) (bs xs : Nat → Nat) (d : DD) : Prop where
  blk : ∃ N, l.ba = some ⟨N, 0, none⟩ ∧ lo ≤ N ∧ OwnBlks w N bs d.blocks
  wrt : ∃ M, l.wa = some ⟨M, 0, none⟩ ∧ lo ≤ M ∧ OwnWrs w M xs d.waiting ∧ ∀ i, i < d.blocks.length → bs i < M
theorem OwnD.below {w w' : World} {l : DL} {lo : Nat} {bs xs : Nat → Nat} {d : DD} (h : OwnD w l lo bs xs d) (hb : Below w.heap.size w w') : OwnD w' l lo bs xs d := by
  obtain ⟨⟨N, h1, h2, h3⟩, M, h4, h5, h6, h7⟩ := h
  exact ⟨⟨N, h1, h2, h3.below hb⟩, M, h4, h5, h6.below hb, h7⟩
theorem OwnD.at_ {w : World} {l : DL} {lo : Nat} {bs xs : Nat → Nat} {d : DD} (h : OwnD w l lo bs xs d) : DAt w l d := by
  obtain ⟨⟨N, h1, h2, h3⟩, M, h4, h5, h6, h7⟩ := h
  exact ⟨by rw [h1]; exact h3.at_, by rw [h4]; exact h6.at_⟩

set_option maxRecDepth 100000 in
theorem toDisk_any (d : DD) (l : DL) (w : World) (hs : d.Small) (ha : DAt w l d) :
    Calls Tryz.prog 7 #[d.val l] w fun e w' => ∃ l' bs xs, e = .returned (d.val l') ∧ OwnD w' l' w.heap.size bs xs d ∧ Below w.heap.size w w' := by
  go_enter Tryz.func7, Tryz.ntmps7
  go_wp2_with (go_at_call 22; refine (toByteSS_any l.ba l.bc d.blocks _ hs.bl hs.bb (ha.b.grow (gal (gal (gal (gre _) _) _) _))).mono ?_; rintro e w' ⟨b1, bs1, rfl, hbb1, hown1, hb'⟩; obtain ⟨hc, hf⟩ := bcell hb')
  have hz : w.heap.size + 1 + 1 < w'.heap.size := by have := hb'.size; simp at this; omega
  have hz1 : w.heap.size + 1 < w'.heap.size := by omega
  have hz0 : w.heap.size < w'.heap.size := by omega
  have hB : Below w.heap.size w w' := gca (gal (gal (gal (gre _) _) _) _) hb'
  have hbb' : w.heap.size + 3 ≤ b1 := by simpa using hbb1
  clear hbb1
  refine (toWriteS_any l.wa l.wc d.waiting _ hs.wl hs.wb (ha.w.grow (gse hB (by simp; omega) _))).mono ?_
  rintro e w'' ⟨b2, bs2, rfl, hbb2, hown2, hb''⟩
  obtain ⟨hc2, hf2⟩ := bcell hb''
  have hB2 : Below w.heap.size w w'' := gca (gse hB (by simp; omega) _) hb''
  have hbb3 : w'.heap.size ≤ b2 := by simpa [World.setCell] using hbb2
  clear hbb2
  have hown1' := (hown1.set (p := ⟨w.heap.size + 1 + 1, 0, none⟩) (by simp; omega) (.slice (some ⟨b1, 0, none⟩) d.blocks.length d.blocks.length)).below hb''
  go_wp2
  refine bodyPost_ret (v := d.val ⟨some ⟨b1, 0, none⟩, d.blocks.length, some ⟨b2, 0, none⟩, d.waiting.length⟩) (by simp [results, Tryz.results7, go_sem, hc, hc2, hz1]) rfl ⟨⟨some ⟨b1, 0, none⟩, d.blocks.length, some ⟨b2, 0, none⟩, d.waiting.length⟩, bs1, bs2, rfl, ⟨⟨b1, rfl, by omega, ?_⟩, b2, rfl, by omega, ?_, fun i hi => ?_⟩, ?_⟩
  · exact ((hown1'.set (by simp; omega) _).set (by simp; omega) _).set (by simp; omega) _
  · exact ((hown2.set (by simp; omega) _).set (by simp; omega) _).set (by simp; omega) _
  · obtain ⟨f, _, hn⟩ := hown1
    have := (hn i hi).2.1.lt
    omega
  · exact gse (gse (gse hB2 (by simp; omega) _) (by simp) _) (by simp) _

end Go.Proofs.YthjddpkegooobacGreat

/-
  DMARK: disks that may be marked, and their marks. Own work.
-/
namespace Go.Proofs.YthjddpkegooobacGreat
open Go.RowKit

/-- where the marks end -/
def bE (F : Nat → List Nat) (k : Nat) : Nat → Nat
  | 0 => k
  | j + 1 => bE F k j + (F j).length
def wE (F : Nat → List Nat) (k : Nat) : Nat → Nat
  | 0 => k
  | j + 1 => wE F k j + 1 + (F j).length
def bM (F : Nat → List Nat) (k i : Nat) : List Nat := marksB (bE F k i) (F i).length
def wM (F : Nat → List Nat) (k i : Nat) : List Nat := marksB (wE F k i + 1) (F i).length
theorem bE_le (F : Nat → List Nat) (k : Nat) : ∀ {i j : Nat}, i ≤ j → bE F k i ≤ bE F k j
  | i, 0, h => by obtain rfl : i = 0 := by omega
                  exact Nat.le_refl _
  | i, j + 1, h => by
    by_cases e : i = j + 1
    · subst e; exact Nat.le_refl _
    · have := bE_le F k (show i ≤ j by omega)
      simp only [bE]; omega
theorem wE_le (F : Nat → List Nat) (k : Nat) : ∀ {i j : Nat}, i ≤ j → wE F k i ≤ wE F k j
  | i, 0, h => by obtain rfl : i = 0 := by omega
                  exact Nat.le_refl _
  | i, j + 1, h => by
    by_cases e : i = j + 1
    · subst e; exact Nat.le_refl _
    · have := wE_le F k (show i ≤ j by omega)
      simp only [wE]; omega
theorem bE_sz (ls : List (List Nat)) (k : Nat) : ∀ j, j ≤ ls.length → (bE (fun i => ls[i]!) k j : Int) = k + szBs (ls.take j)
  | 0, _ => by simp [bE, szBs]
  | j + 1, h => by
    have ih := bE_sz ls k j (by omega)
    rw [szBs_take_succ ls j (by omega)]
    simp only [bE]
    omega
theorem wE_sz (ls : List DW) (k : Nat) : ∀ j, j ≤ ls.length → (wE (fun i => ls[i]!.bytes) k j : Int) = k + j + szWs (ls.take j)
  | 0, _ => by simp [wE, szWs]
  | j + 1, h => by
    have ih := wE_sz ls k j (by omega)
    rw [szWs_take_succ ls j (by omega)]
    simp only [wE]
    omega

set_option maxRecDepth 100000 in
theorem markByteS_none (oa : Option Addr) (cap k : Nat) (w : World) :
    Calls Tryz.prog 69 #[.slice oa 0 cap, .int .i64 k] w fun e w' => e = .returned (.int .i64 k) ∧ w' = w := by
  go_enter Tryz.func69, Tryz.ntmps69
  go_wp2
  go_loopw [1, 5] (fun c i wr => c = .int .i64 k ∧ i = .int .i64 0 ∧ wr = w) (fun _ _ _ => 0)
  case atStart => exact ⟨rfl, rfl, rfl⟩
  case round =>
    obtain ⟨rfl, rfl, rfl⟩ := hrel
    go_wp2
    go_ret
    exact ⟨rfl, rfl⟩

set_option maxRecDepth 100000 in
theorem markBytes_any (oa : Option Addr) (bs : List Nat) (cap k lo hi : Nat) (w : World) (hl : bs.length ≤ 1048576) (hk : k ≤ 1099511627776) (hM : BB w lo hi oa bs) :
    Calls Tryz.prog 69 #[.slice oa bs.length cap, .int .i64 k] w fun e w' => e = .returned (.int .i64 ((k + bs.length : Nat) : Int)) ∧ BB w' lo hi oa (marksB k bs.length) ∧ Kept (fun b => bs ≠ [] ∧ oa = some ⟨b, 0, none⟩) w w' := by
  by_cases e0 : bs = []
  · subst e0
    refine (markByteS_none oa cap k w).mono ?_
    rintro e w' ⟨rfl, h2⟩
    exact ⟨rfl, Or.inl (by simp [marksB]), by rw [h2]; exact Kept.refl _ _⟩
  · rcases hM with h | ⟨G, n, rfl, hG, hGh, hB⟩
    · exact absurd h e0
    · refine (markByteS_any _ bs cap k lo w hl hk (Or.inr ⟨G, n, rfl, hG, hB⟩)).mono ?_
      rintro e w' ⟨rfl, h1, h2⟩
      refine ⟨rfl, ?_, h2.mono (fun b _ h => ⟨e0, h.2⟩)⟩
      rcases h1 with h1 | ⟨G', n', h3, h4, h5⟩
      · exact Or.inl h1
      · have := some_addr h3
        subst this
        exact Or.inr ⟨G, n', rfl, hG, hGh, h5⟩

/-- one list of bytes, marked -/
theorem MBs.step {w w' : World} {lo hi : Nat} {a : Option Addr} {n : Nat} {F : Nat → List Nat} {fa : Nat → Option Addr} {fc : Nat → Nat} (h : MBs w lo hi a n F fa fc) {j : Nat} (hj : j < n) {ys : List Nat} (hy : ys.length = (F j).length) (hB : BB w' lo hi (fa j) ys) (hK : Kept (fun b => F j ≠ [] ∧ fa j = some ⟨b, 0, none⟩) w w') :
    MBs w' lo hi a n (fun i => if i = j then ys else F i) fa fc := by
  have hp : ∀ b, F j ≠ [] ∧ fa j = some ⟨b, 0, none⟩ → IsB w b := fun b hb => (h.tb ⟨j, hj, hb.1, hb.2⟩).2.2
  refine ⟨fun h0 => ?_, fun i hi => ?_, h.far⟩
  · obtain ⟨g, m, f, h1, h2, h3, h4, h5, h6⟩ := h.row h0
    refine ⟨g, m, f, h1, h2, h3, hK.rowIs h4 (fun hb => not_B_of_bs h4 (hp g hb)), h5, fun i hi => ?_⟩
    show f i = .slice (fa i) (if i = j then ys else F i).length (fc i)
    split
    · rename_i e; subst e; rw [hy]; exact h6 i hi
    · exact h6 i hi
  · show BB w' lo _ (fa i) (if i = j then ys else F i)
    split
    · rename_i e; subst e; exact hB
    · rename_i e
      exact (h.byt i hi).kept hK (fun b hb _ hq => h.ne hi hj e b hb hq.2)

set_option maxRecDepth 100000 in
theorem markByteSS_any (a : Option Addr) (n cap k lo hi : Nat) (F : Nat → List Nat) (fa : Nat → Option Addr) (fc : Nat → Nat) (w : World) (hn : n ≤ 1048576) (hl : ∀ i, i < n → (F i).length ≤ 1048576) (hk : bE F k n ≤ 1099511627776) (h : MBs w lo hi a n F fa fc) :
    Calls Tryz.prog 33 #[.slice a n cap, .int .i64 k] w fun e w' => e = .returned (.int .i64 (bE F k n : Nat)) ∧ MBs w' lo hi a n (bM F k) fa fc ∧ Kept (TB n F fa) w w' := by
  go_enter Tryz.func33, Tryz.ntmps33
  go_wp2
  go_loopw [1, 5] (fun c i wr => ∃ (j q : Nat) (G : Nat → List Nat), j ≤ n ∧ Hid (q = bE F k j) ∧ c = .int .i64 (q : Int) ∧ i = .int .i64 (j : Int) ∧ MBs wr lo hi a n G fa fc ∧ (∀ i, i < j → G i = bM F k i) ∧ (∀ i, j ≤ i → G i = F i) ∧ Kept (TB n F fa) w wr) (fun _ i _ => n - (intOf i).toNat)
  case atStart => exact ⟨0, k, F, Nat.zero_le _, rfl, rfl, rfl, h, fun i hi => absurd hi (Nat.not_lt_zero _), fun _ _ => rfl, Kept.refl _ _⟩
  case round =>
    obtain ⟨j, q, G, hj, hq, rfl, rfl, hM, hG1, hG2, hK⟩ := hrel
    have hqle : q ≤ 1099511627776 := by have := bE_le F k hj; have := hq.out; omega
    by_cases hlt : j < n
    · obtain ⟨g, m, f, rfl, h2, h3, h4, h5, h6⟩ := hM.row (by omega)
      have c0 := h4.cell (i := j) (by omega)
      rw [h6 j hlt, hG2 j (Nat.le_refl _)] at c0
      have i0 : (0 : Int) ≤ (j : Int) := by omega
      have i1 : (j : Int) < (n : Int) := by omega
      have hBj := hM.byt j hlt
      rw [hG2 j (Nat.le_refl _)] at hBj
      have hlj := hl j hlt
      obtain ⟨ys, hys⟩ := hid_ex (F j)
      rw [← hys.out] at c0 hBj hlj
      go_wp2_with (go_at_call 69; refine (markBytes_any (fa j) ys (fc j) q lo hi _ hlj hqle hBj).mono ?_; rintro e w2 ⟨rfl, hB2, hK2⟩)
      go_roundw
      case rel =>
        have e1 : G j = F j := hG2 j (Nat.le_refl _)
        have hb1 : marksB q ys.length = bM F k j := by rw [hys.out, hq.out]; rfl
        refine ⟨j + 1, q + ys.length, _, by omega, by show _ = _; rw [hq.out, hys.out]; rfl, by go_num, by go_num, hM.step hlt (ys := marksB q ys.length) (by rw [marksB_length, e1, hys.out]) hB2 (hK2.mono (fun b _ hb => by rw [e1, ← hys.out]; exact hb)), fun i hi => ?_, fun i hi => ?_, hK.trans hK2 (fun b _ hb => ⟨j, hlt, by rw [← hys.out]; exact hb.1, hb.2⟩)⟩
        · show (if i = j then _ else _) = _
          split
          · rename_i e; rw [e]; exact hb1
          · exact hG1 i (by omega)
        · show (if i = j then _ else _) = _
          rw [if_neg (by omega)]; exact hG2 i (by omega)
      case measure => simp [intOf]; omega
    · obtain rfl : j = n := by omega
      go_wp2
      go_ret
      exact ⟨by rw [hq.out]; rfl, hM.congr (fun i hi => (hG1 i hi).symm), hK⟩

set_option maxRecDepth 100000 in
theorem heldByteSS_any (a : Option Addr) (n cap k lo hi : Nat) (F : Nat → List Nat) (fa : Nat → Option Addr) (fc : Nat → Nat) (w : World) (hn : n ≤ 1048576) (hl : ∀ i, i < n → (F i).length ≤ 1048576) (hk : bE F k n ≤ 1099511627776) (h : MBs w lo hi a n (bM F k) fa fc) :
    Calls Tryz.prog 36 #[.slice a n cap, .int .i64 k] w fun e w' => e = .returned (.int .i64 (bE F k n : Nat)) ∧ Below w.heap.size w w' := by
  go_enter Tryz.func36, Tryz.ntmps36
  go_wp2
  go_loopw [1, 5] (fun c i wr => ∃ (j q : Nat), j ≤ n ∧ Hid (q = bE F k j) ∧ c = .int .i64 (q : Int) ∧ i = .int .i64 (j : Int) ∧ Below w.heap.size w wr) (fun _ i _ => n - (intOf i).toNat)
  case atStart => exact ⟨0, k, Nat.zero_le _, rfl, rfl, rfl, gre _⟩
  case round =>
    obtain ⟨j, q, hj, hq, rfl, rfl, hb⟩ := hrel
    have hqle : q ≤ 1099511627776 := by have := bE_le F k hj; have := hq.out; omega
    have hM := h.out (Kept.of_below hb (fun _ => False)) (fun _ _ _ e => e)
    by_cases hlt : j < n
    · obtain ⟨g, m, f, rfl, h2, h3, h4, h5, h6⟩ := hM.row (by omega)
      have c0 := h4.cell (i := j) (by omega)
      rw [h6 j hlt] at c0
      have i0 : (0 : Int) ≤ (j : Int) := by omega
      have i1 : (j : Int) < (n : Int) := by omega
      have hBj := (hM.byt j hlt).bytes
      have hlj := hl j hlt
      unfold bM at c0 hBj
      rw [marksB_length] at c0
      rw [← hq.out] at hBj
      obtain ⟨x, hx⟩ := hid_ex (F j).length
      rw [← hx.out] at c0 hBj hlj
      have hd : ¬ ((q : Int) + (x : Int) < 0) := by omega
      go_wp2_with (go_at_call 71; refine (heldByteS_any (fa j) x (fc j) q _ hlj hqle hBj).mono ?_; rintro e w2 ⟨rfl, hb2⟩)
      go_roundw
      case rel => exact ⟨j + 1, q + x, by omega, by show _ = _; rw [hq.out, hx.out]; rfl, by go_num, by go_num, gca hb hb2⟩
      case measure => simp [intOf]; omega
    · obtain rfl : j = n := by omega
      go_wp2
      go_ret
      exact ⟨by rw [hq.out]; rfl, hb⟩

end Go.Proofs.YthjddpkegooobacGreat
