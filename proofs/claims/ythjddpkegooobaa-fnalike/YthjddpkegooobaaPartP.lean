import Derived.Recover
import Derived.Laws.Pointers
import Derived.ProofKit
import Derived.OpenShut
import Derived.Deep.Slices
import Derived.ChangeSlices
import Derived.ShutString
import Derived.ChangeOld
import Derived.Test.YthjddpkegooobaaPartO

/-
  PACKI: the program's Pack. Own work.
-/
namespace Go.Proofs.Ythjddpkegooobaa
open Go.RowKit

set_option maxRecDepth 100000 in
theorem assert_nil (w : World) : (Instr.typeAssert .nilIface 20 149 true).run Try.prog w = .ok (.tuple #[.agg #[], .bool false]) w := by kernel_rfl
theorem assert_halt (w : World) : (Instr.typeAssert (.iface 149 (.agg #[])) 20 149 true).run Try.prog w = .ok (.tuple #[.agg #[], .bool true]) w := by kernel_rfl

set_option maxRecDepth 100000 in
theorem passOn_nil (w : World) : Calls Try.prog 61 #[.nilIface] w fun e w' => e = .returned (.tuple #[]) ∧ w' = w := by
  have ht := assert_nil
  go_enter Try.func61, Try.ntmps61
  go_wp2
  first | go_end0 | refine bodyPost_ret (results_none rfl _ _ _) rfl ?_
  exact ⟨rfl, rfl⟩

set_option maxRecDepth 100000 in
theorem passOn_halt (w : World) : Calls Try.prog 61 #[.iface 149 (.agg #[])] w fun e w' => e = .returned (.tuple #[]) ∧ w' = w := by
  have ht := assert_halt
  go_enter Try.func61, Try.ntmps61
  go_wp2
  first | go_end0 | refine bodyPost_ret (results_none rfl _ _ _) rfl ?_
  exact ⟨rfl, rfl⟩

set_option maxRecDepth 100000 in
theorem packCatch_panicking (older : List PanicEntry) (w : World) :
    CallsD Try.prog 60 #[] (.panicking (haltP :: older)) w fun e u' w' =>
      e = .returned (.tuple #[]) ∧ u' = .panicking ({ v := .iface 149 (.agg #[]), recovered := true } :: older) ∧ w' = w := by
  refine callsD_of_wpS Try.func60 rfl fun c₀ cs hu => ?_
  apply wpS_region
  simp [wpOpsS, go_sem, recoverD, hu, Try.ntmps60]
  refine (passOn_halt w).mono ?_
  rintro e w' ⟨rfl, rfl⟩
  simp [bodyPostS, results, Try.results60]

set_option maxRecDepth 100000 in
theorem packCatch_idle (w : World) :
    CallsD Try.prog 60 #[] .returning w fun e u' w' => e = .returned (.tuple #[]) ∧ u' = .returning ∧ w' = w := by
  refine callsD_of_wpS Try.func60 rfl fun c₀ cs hu => ?_
  apply wpS_region
  simp [wpOpsS, go_sem, recoverD, hu, Try.ntmps60]
  refine (passOn_nil w).mono ?_
  rintro e w' ⟨rfl, rfl⟩
  cases c₀
  simp_all [bodyPostS, results, Try.results60]

/-- what Pack leaves -/
def PackIPost (ys : List Nat) (w : World) (e : Ending) (w' : World) : Prop :=
  ∃ oa cap, e = .returned (.slice oa ys.length cap) ∧ MB w' w.heap.size oa ys ∧ Below w.heap.size w w'
/-- the same, and its room -/
def PackICap (ys : List Nat) (w : World) (e : Ending) (w' : World) : Prop :=
  ∃ oa cap, e = .returned (.slice oa ys.length cap) ∧ MB w' w.heap.size oa ys ∧ Below w.heap.size w w' ∧ ys.length ≤ cap
theorem PackICap.post {ys : List Nat} {w : World} {e : Ending} {w' : World} (h : PackICap ys w e w') : PackIPost ys w e w' := let ⟨oa, cap, h1, h2, h3, _⟩ := h; ⟨oa, cap, h1, h2, h3⟩

set_option maxRecDepth 100000 in
theorem u64n_wrap {n : Nat} (h : n < 18446744073709551616) : u64n (wrap64 (n : Int)) = n := by unfold u64n wrap64; omega
theorem i64_wrap (n : Int) : I64 (wrap64 n) := by unfold I64 wrap64; omega

set_option maxRecDepth 100000 in
theorem wr_new (w : World) (M : Array Value) (hM : M.size = 4096) : Wr ((w.alloc (.cells M 5)).alloc (.cells #[.slice (some ⟨w.heap.size, 0, none⟩) 4096 4096, .int .i64 0] 91)) (w.heap.size + 1) w.heap.size [] := by
  refine ⟨⟨by simp, by simp, by simp, fun o => by simp⟩, by omega, ⟨M, ?_, hM, by simp, fun i hi => absurd hi (Nat.not_lt_zero _)⟩⟩
  rw [Below.heap_alloc _ _ _ (by simp)]
  exact blk_new_at _ _ _ rfl

set_option maxRecDepth 100000 in
theorem implPack_cap (a : Option Addr) (cap : Nat) (g : GG) (w : World) (hg : g.Ok) (ha : NodesAt w.heap.size w a g.nodes) :
    Calls Try.prog 16 #[g.val a cap] w (PackICap (packB g) w) := by
  have hX0 := GBox.new w g a cap 27
  cases hok : okG g with
  | false =>
    have hz : Hid (packB g = []) := if_neg (by rw [hok]; simp)
    have hok' : Hid _ := hok
    go_enter_defers Try.func16, Try.ntmps16
    go_wp2_with (go_at_call 44; refine (implGraphOk_any a cap g _ hg (ha.grow (gal (gre _) _))).mono ?_; rintro e w1 ⟨rfl, hb1⟩; rw [hok'.out])
    refine leaves_cons (f := 60) (args := #[]) (by simp) (by simp [go_sem]) ?_
    refine (packCatch_idle _).mono ?_
    rintro e u' w'' ⟨rfl, rfl, rfl⟩
    refine ⟨_, results_tmp rfl _ _ _, ?_⟩
    exact ⟨none, 0, by rw [hz.out]; rfl, Or.inl hz.out, gca (gal (gre _) _) hb1, by rw [hz.out]; exact Nat.le_refl _⟩
  | true =>
    have hok' : Hid _ := hok
    obtain ⟨i0, hi, hz0, hz1, hz2⟩ := info_parts info_u8
    obtain ⟨M, hM⟩ := hid_ex (madeCells #[Value.int .u8 0] 4096)
    have hMs : M.size = 4096 := by rw [hM.out, size_madeCells]
    have hmk : ∀ u : World, (Instr.makeSlice 22 (.int .i64 4096) (.int .i64 4096)).run Try.prog u = .ok (.slice (some ⟨u.heap.size, 0, none⟩) 4096 4096) (u.alloc (.cells M 5)) := fun u => by
      have h := run_make (P := Try.prog) u 22 5 i0 _ Try.underlying22 hi hz0 .i64 .i64 4096 4096 (by omega) (Int.le_refl _) (by rw [hz2]; omega) (by omega)
      rw [hM.out]
      simpa [hz1, Value.cells] using h
    obtain ⟨c, hc⟩ := hid_ex (canon g)
    have hcz : Hid (canonZ g = c) := by show _ = _; rw [hc.out]; exact if_pos hok
    have hcok : okG c = true := by rw [hc.out]; exact canon_okG hok
    have hcO : c.Ok := by rw [hc.out]; exact canon_ok hg hok
    have hcb := graphB_bytes hcok
    have him : Hid (imageB g = graphB c ++ lowB 8 (sumN (graphB c))) := by show _ = _; unfold imageB formB; rw [← hc.out]
    have hsl := u64n_wrap (sumN_lt (graphB c))
    have hlow := lowB_length 8 (sumN (graphB c))
    clear hM
    go_enter_defers Try.func16, Try.ntmps16
    go_wp2_with (first
      | (go_at_call 64; refine (passed_any _ _ 4096 4096 _ _ hW6.cur (by omega) (by decide) hW6.le).mono ?_; rintro e w7 ⟨rfl, hb7⟩; have hW7 := hW6.grow hb7)
      | (go_at_call 44; refine (implGraphOk_any a cap g _ hg (ha.grow (gal (gre _) _))).mono ?_; rintro e w1 ⟨rfl, hb1⟩; have hX1 := hX0.grow hb1; obtain ⟨xz, x0, x1, x2, x3, x4⟩ := id hX1; rw [hok'.out]; have hWn := wr_new w1 M hMs)
      | (go_at_call 12; refine (implCanon_any a cap g _ hg (ha.grow (gal (gal (gca (gal (gre _) _) hb1) _) _))).mono ?_; rintro e w3 ⟨na, nc, nl, rfl, hnl, hown, hb3⟩; rw [hcz.out] at hnl ⊢; have hW3 := hWn.grow hb3; simp only [World.size_alloc] at hown)
      | (go_at_call 62; refine (writeGraph_any (w1.heap.size + 1) w1.heap.size [] c na nc (w1.heap.size + 1 + 1) nl _ hW3 hcO hcok hnl (fun w' hK => hown.kept hK (fun b hb hp => by have := (hown.nodes.lt b (by rw [hb]; rfl)).1; omega) (fun x hx b hb hp => by have := ((hown.vals x hx).lt b (by rw [hb]; rfl)).1; omega))).mono ?_; rintro e w4 ⟨hK4, h4⟩; rw [List.nil_append] at h4; obtain ⟨hf4, rfl, hW4⟩ | ⟨hno4, rfl⟩ := h4)
      | (go_at_call 50; refine (implSumOf_any _ (graphB c) 4096 _ (brow_bytes hW5.row) (by have := hW5.le; unfold maxLen; omega) hcb).mono ?_; rintro e w55 ⟨rfl, hb55⟩; have hW55 := hW5.grow hb55)
      | (go_at_call 63; refine (writeWord_any _ _ (graphB c) _ _ hW55 (i64_wrap _)).mono ?_; rintro e w6 ⟨hK6, h6⟩; rw [hsl] at h6; obtain ⟨hf6, rfl, hW6⟩ | ⟨hno6, rfl⟩ := h6)
      | (go_at_call 64; refine (passed_any _ _ 4096 4096 _ _ hW4.cur (by omega) (by decide) hW4.le).mono ?_; rintro e w5 ⟨rfl, hb5⟩; have hW5 := hW4.grow hb5))
    · have hB3 : Below w.heap.size w w3 := gca (gal (gal (gca (gal (gre _) _) hb1) _) _) hb3
      have hB4 := hB3.trans (hK4.below hB3.size (fun k hk hp => by omega))
      have hB6 := (gca (gca hB4 hb5) hb55).trans (hK6.below (gca (gca hB4 hb5) hb55).size (fun k hk hp => by omega))
      have hz : packB g = graphB c ++ lowB 8 (sumN (graphB c)) := by
        rw [← him.out]
        exact if_pos ⟨hok, by rw [him.out, List.length_append]; exact hf6⟩
      refine leaves_cons (f := 60) (args := #[]) (by simp) (by simp [go_sem]) ?_
      refine (packCatch_idle _).mono ?_
      rintro e u' w'' ⟨rfl, rfl, rfl⟩
      refine ⟨_, results_tmp rfl _ _ _, ?_⟩
      exact ⟨some ⟨w1.heap.size, 0, none⟩, 4096, by rw [hz, List.length_append, hlow]; rfl, Or.inr ⟨w1.heap.size, 4096, rfl, by omega, by rw [hz]; exact hW7.row⟩, gca hB6 hb7, by rw [hz, List.length_append]; exact hf6⟩
    · have hB3 : Below w.heap.size w w3 := gca (gal (gal (gca (gal (gre _) _) hb1) _) _) hb3
      have hB4 := hB3.trans (hK4.below hB3.size (fun k hk hp => by omega))
      have hB6 := (gca (gca hB4 hb5) hb55).trans (hK6.below (gca (gca hB4 hb5) hb55).size (fun k hk hp => by omega))
      have hz : packB g = [] := if_neg (fun h => by have h2 := h.2; rw [him.out, List.length_append] at h2; omega)
      refine leaves_cons (f := 60) (args := #[]) (by simp) (by simp [go_sem]) ?_
      refine (packCatch_panicking [] _).mono ?_
      rintro e u' w'' ⟨rfl, rfl, rfl⟩
      refine ⟨_, results_tmp rfl _ _ _, ?_⟩
      exact ⟨none, 0, by rw [hz]; rfl, Or.inl hz, hB6, by rw [hz]; exact Nat.le_refl _⟩
    · have hB3 : Below w.heap.size w w3 := gca (gal (gal (gca (gal (gre _) _) hb1) _) _) hb3
      have hB4 := hB3.trans (hK4.below hB3.size (fun k hk hp => by omega))
      have hz : packB g = [] := if_neg (fun h => by have h2 := h.2; rw [him.out, List.length_append] at h2; simp at hno4; omega)
      refine leaves_cons (f := 60) (args := #[]) (by simp) (by simp [go_sem]) ?_
      refine (packCatch_panicking [] _).mono ?_
      rintro e u' w'' ⟨rfl, rfl, rfl⟩
      refine ⟨_, results_tmp rfl _ _ _, ?_⟩
      exact ⟨none, 0, by rw [hz]; rfl, Or.inl hz, hB4, by rw [hz]; exact Nat.le_refl _⟩

theorem implPack_any (a : Option Addr) (cap : Nat) (g : GG) (w : World) (hg : g.Ok) (ha : NodesAt w.heap.size w a g.nodes) :
    Calls Try.prog 16 #[g.val a cap] w (PackIPost (packB g) w) := (implPack_cap a cap g w hg ha).mono fun _ _ h => h.post

end Go.Proofs.Ythjddpkegooobaa

/-
  REGIONV: the end of a region that draws its order. Own work.
-/
namespace Go.Proofs.Ythjddpkegooobaa
open Go.RowKit

/-- none may come up any more -/
theorem anyU_done {P : Program} {ops : Array Oper} {Q : Exit → Act → World → Prop} {md : Region.Mode} {S : World → Prop} {lst : Nat} {fuel : Nat} {listed : Array Bool} {a : Act} {w : World} (hd : Region.ready md ops listed = []) (hQ : Q .normal a w) : anyU P md ops Q S lst fuel listed a w := by
  cases fuel with
  | zero => exact ⟨hd, hQ⟩
  | succ f => exact ⟨fun _ => hQ, fun i hi => by rw [hd] at hi; cases hi⟩

end Go.Proofs.Ythjddpkegooobaa

/-
  REGIONT: two operations that may come up. Own work.
-/
namespace Go.Proofs.Ythjddpkegooobaa
open Go.RowKit

/-- two may come up, neither the last -/
theorem anyU_pair {P : Program} {ops : Array Oper} {Q : Exit → Act → World → Prop} {md : Region.Mode} {S : World → Prop} {lst : Nat} {fuel : Nat} {listed : Array Bool} {a : Act} {w : World} {i j : Nat} {oi oj : Oper} (hr : Region.ready md ops listed = [i, j]) (hoi : ops[i]? = some oi) (hoj : ops[j]? = some oj)
    (h1 : ∀ K : Act → World → Prop, Shut (∀ a w, S w → anyU P md ops Q S lst fuel (listed.setIfInBounds i true) a w → K a w) → if Region.wanted oi (yielded ops a.tmps) = true then Oper.wp P oi a w K Q else K (a.put oi.dst undef) w)
    (h2 : ∀ K : Act → World → Prop, Shut (∀ a w, S w → anyU P md ops Q S lst fuel (listed.setIfInBounds j true) a w → K a w) → if Region.wanted oj (yielded ops a.tmps) = true then Oper.wp P oj a w K Q else K (a.put oj.dst undef) w) :
    anyU P md ops Q S lst (fuel + 1) listed a w := by
  refine ⟨fun h0 => (by rw [hr] at h0; cases h0), fun k hk => ?_⟩
  rw [hr] at hk
  rcases List.mem_cons.1 hk with e | hk
  · subst e; exact wpOp_step hoi (fun K' hK => h1 K' (fun a w hS hW => hK a w ⟨fun _ => hS, hW⟩))
  · obtain rfl : k = j := by simpa using hk
    exact wpOp_step hoj (fun K' hK => h2 K' (fun a w hS hW => hK a w ⟨fun _ => hS, hW⟩))

end Go.Proofs.Ythjddpkegooobaa

/-
  LAWTURN: FnAlike, walked. Own work.
-/
namespace Go.Proofs.Ythjddpkegooobaa
open Go.RowKit

theorem packB_turn {g h : GG} (hg : okG g = true) (hh : okG h = true) (hc : canon h = canon g) : packB h = packB g := by
  unfold packB imageB
  rw [hg, hh, hc]

theorem mb_bytesT {w : World} {lo : Nat} {oa : Option Addr} {ys : List Nat} (h : MB w lo oa ys) : BytesAt w oa ys := by
  rcases h with rfl | ⟨G, n, rfl, _, hB⟩
  · exact fun i hi => absurd hi (Nat.not_lt_zero _)
  · exact brow_bytes hB

set_option maxHeartbeats 8000000 in
set_option maxRecDepth 100000 in
theorem lawTurn (a b : Option Addr) (ac bc : Nat) (xs ys : List Nat) (w : World) (ha : BytesAt w a xs) (hb : BytesAt w b ys) (hxl : xs.length ≤ maxLen) (hyl : ys.length ≤ maxLen) (hx : ∀ x, x ∈ xs → x < 256) (hy : ∀ x, x ∈ ys → x < 256) (hsa : ∀ g off, a = some ⟨g, off, none⟩ → g < w.heap.size) (hsb : ∀ g off, b = some ⟨g, off, none⟩ → g < w.heap.size) :
    Calls Try.prog 4 #[.slice a xs.length ac, .slice b ys.length bc] w fun e w' => e = .returned (.bool true) ∧ Below w.heap.size w w' := by
  have hm1 := hxl
  have hm2 := hyl
  unfold maxLen at hm1 hm2
  by_cases hl1 : xs.length ≤ 1048576
  · have hd : ¬ ((1048576 : Int) < (xs.length : Int)) := by omega
    by_cases hl2 : ys.length ≤ 1048576
    · have hd2 : ¬ ((1048576 : Int) < (ys.length : Int)) := by omega
      go_enter Try.func4, Try.ntmps4
      go_upto_region 5 with (first
        | (go_at_call 11; refine (drawn_any a xs ac _ ha hx hxl hsa).mono ?_; rintro e w1 ⟨g, na, nc, nl, rfl, hn, hg, hok, hO, hb1⟩; have hat := hO.at_; rw [hn] at hat; have hGb := GBox.new w1 g na nc 27; have hat2 := hat.grow (gal (gre _) (.cells #[.int .i64 g.root.kind, .int .i64 g.root.num, .string g.root.text, .int .i64 g.root.node, .slice na g.nodes.length nc] 27)))
        | (go_at_call 21; refine (turned_any na nc g b ys bc _ (hb.grow (gal hb1 _)) hy hyl (fun g off e => by have := hsb g off e; have := hb1.size; simp; omega) hg hok hat2).mono ?_; rintro e w2 ⟨h, na2, nc2, rfl, hhO, hhk, hhc, hhn, hb2⟩))
      have hok2 : Hid (okG g = true) := hok
      have hhk2 : Hid (okG h = true) := hhk
      have hhc2 : Hid (canon h = canon g) := hhc
      clear hok hhk hhc
      have hB3 : Below w.heap.size w (w2.alloc (.cells #[.int .i64 h.root.kind, .int .i64 h.root.num, .string h.root.text, .int .i64 h.root.node, .slice na2 h.nodes.length nc2] 27)) := gal (gca (gal hb1 _) hb2) _
      have hG3 := hGb.grow (gal hb2 (.cells #[.int .i64 h.root.kind, .int .i64 h.root.num, .string h.root.text, .int .i64 h.root.node, .slice na2 h.nodes.length nc2] 27))
      have hH3 := GBox.new w2 h na2 nc2 27
      have hNg := hat2.grow (gal hb2 (.cells #[.int .i64 h.root.kind, .int .i64 h.root.num, .string h.root.text, .int .i64 h.root.node, .slice na2 h.nodes.length nc2] 27))
      have hNh := hhn.grow (gal (gre w2) (.cells #[.int .i64 h.root.kind, .int .i64 h.root.num, .string h.root.text, .int .i64 h.root.node, .slice na2 h.nodes.length nc2] 27))
      clear hO hat hat2 hhn hn hGb hb1 hb2
      generalize w2.alloc (.cells #[.int .i64 h.root.kind, .int .i64 h.root.num, .string h.root.text, .int .i64 h.root.node, .slice na2 h.nodes.length nc2] 27) = w3 at hB3 hG3 hH3 hNg hNh ⊢
      generalize w1.heap.size = pG at hG3 ⊢
      generalize w2.heap.size = pH at hH3 ⊢
      obtain ⟨p, hp⟩ := hid_ex (packB g)
      have hpl : p.length ≤ 4096 := by
        rw [hp.out]
        unfold packB
        split
        · rename_i h; exact h.2
        · exact Nat.zero_le _
      have hph : Hid (packB h = p) := by show _ = _; rw [hp.out]; exact packB_turn hok2.out hhk2.out hhc2.out
      have hB : Below w3.heap.size w3 w3.drew := gdr (gre _)
      refine wp_regionU (fun u => GBox u pG g na nc ∧ GBox u pH h na2 nc2) 99 (by kernel_rfl) ⟨hG3.grow hB, hH3.grow hB⟩ (fun _ => ?_)
      refine anyU_take (i := 0) (v := ?_) rfl (by kernel_rfl) (by kernel_rfl) (by kernel_rfl) (by kernel_rfl) (fun _ _ _ h => h) (Or.inl ⟨by rfl, ?_⟩) ⟨hG3.grow hB, hH3.grow hB⟩ ?_
      rotate_left
      · intro u hSu; obtain ⟨⟨_, s0, s1, s2, s3, s4⟩, ⟨_, t0, t1, t2, t3, t4⟩⟩ := hSu; go_simp <;> with_reducible rfl
      simp only [Act.put, List.getElem_toArray, List.getElem_cons_zero, List.setIfInBounds_toArray, List.set_cons_zero, List.set_cons_succ]
      refine anyU_take (i := 1) (v := ?_) rfl (by kernel_rfl) (by kernel_rfl) (by kernel_rfl) (by kernel_rfl) (fun _ _ _ h => h) (Or.inl ⟨by rfl, ?_⟩) ⟨hG3.grow hB, hH3.grow hB⟩ ?_
      rotate_left
      · intro u hSu; obtain ⟨⟨_, s0, s1, s2, s3, s4⟩, ⟨_, t0, t1, t2, t3, t4⟩⟩ := hSu; go_simp <;> with_reducible rfl
      simp only [Act.put, List.getElem_toArray, List.getElem_cons_zero, List.getElem_cons_succ, List.setIfInBounds_toArray, List.set_cons_zero, List.set_cons_succ]
      refine anyU_one (i := 2) (by kernel_rfl) rfl (fun K hK => ?_)
      go_simp
      refine (implAlike_any na na2 nc nc2 g h _ hg hhO (hNg.grow hB) (hNh.grow hB)).mono ?_
      rintro e w4 ⟨bb, rfl, hbi, hb4⟩
      obtain rfl : bb = true := hbi.2 ⟨hok2.out, hhk2.out, hhc2.out.symm⟩
      have hB := gca hB hb4
      refine hK.out _ _ ⟨hG3.grow hB, hH3.grow hB⟩ ?_
      clear hK
      refine anyU_take (i := 3) (v := ?_) rfl (by kernel_rfl) (by kernel_rfl) (by kernel_rfl) (by kernel_rfl) (fun _ _ _ h => h) (Or.inl ⟨by rfl, ?_⟩) ⟨hG3.grow hB, hH3.grow hB⟩ ?_
      rotate_left
      · intro u hSu; obtain ⟨⟨_, s0, s1, s2, s3, s4⟩, ⟨_, t0, t1, t2, t3, t4⟩⟩ := hSu; go_simp <;> with_reducible rfl
      simp only [Act.put, List.getElem_toArray, List.getElem_cons_zero, List.getElem_cons_succ, List.setIfInBounds_toArray, List.set_cons_zero, List.set_cons_succ]
      refine anyU_take (i := 4) (v := ?_) rfl (by kernel_rfl) (by kernel_rfl) (by kernel_rfl) (by kernel_rfl) (fun _ _ _ h => h) (Or.inl ⟨by rfl, ?_⟩) ⟨hG3.grow hB, hH3.grow hB⟩ ?_
      rotate_left
      · intro u hSu; obtain ⟨⟨_, s0, s1, s2, s3, s4⟩, ⟨_, t0, t1, t2, t3, t4⟩⟩ := hSu; go_simp <;> with_reducible rfl
      simp only [Act.put, List.getElem_toArray, List.getElem_cons_zero, List.getElem_cons_succ, List.setIfInBounds_toArray, List.set_cons_zero, List.set_cons_succ]
      refine anyU_take (i := 5) (v := ?_) rfl (by kernel_rfl) (by kernel_rfl) (by kernel_rfl) (by kernel_rfl) (fun _ _ _ h => h) (Or.inl ⟨by rfl, ?_⟩) ⟨hG3.grow hB, hH3.grow hB⟩ ?_
      rotate_left
      · intro u hSu; obtain ⟨⟨_, s0, s1, s2, s3, s4⟩, ⟨_, t0, t1, t2, t3, t4⟩⟩ := hSu; go_simp <;> with_reducible rfl
      simp only [Act.put, List.getElem_toArray, List.getElem_cons_zero, List.getElem_cons_succ, List.setIfInBounds_toArray, List.set_cons_zero, List.set_cons_succ]
      refine anyU_take (i := 7) (v := ?_) rfl (by kernel_rfl) (by kernel_rfl) (by kernel_rfl) (by kernel_rfl) (fun _ _ _ h => h) (Or.inl ⟨by rfl, ?_⟩) ⟨hG3.grow hB, hH3.grow hB⟩ ?_
      rotate_left
      · intro u hSu; obtain ⟨⟨_, s0, s1, s2, s3, s4⟩, ⟨_, t0, t1, t2, t3, t4⟩⟩ := hSu; go_simp <;> with_reducible rfl
      simp only [Act.put, List.getElem_toArray, List.getElem_cons_zero, List.getElem_cons_succ, List.setIfInBounds_toArray, List.set_cons_zero, List.set_cons_succ]
      refine anyU_one (i := 6) (by kernel_rfl) rfl (fun K hK => ?_)
      go_simp
      refine (implPack_cap na nc g _ hg (hNg.grow hB)).mono ?_
      rintro e w5 ⟨oa, oc, rfl, hMw5, hbw5, _⟩
      rw [← hp.out] at hMw5 ⊢
      have hBw5 := hB
      have hB := gca hB hbw5
      refine hK.out _ _ ⟨hG3.grow hB, hH3.grow hB⟩ ?_
      clear hK
      refine anyU_one (i := 8) (by kernel_rfl) rfl (fun K hK => ?_)
      go_simp
      refine (implPack_cap na2 nc2 h _ hhO (hNh.grow hB)).mono ?_
      rintro e w6 ⟨oa2, oc2, rfl, hMw6, hbw6, _⟩
      rw [hph.out] at hMw6 ⊢
      have hBw6 := hB
      have hB := gca hB hbw6
      refine hK.out _ _ ⟨hG3.grow hB, hH3.grow hB⟩ ?_
      clear hK
      refine anyU_one (i := 9) (by kernel_rfl) rfl (fun K hK => ?_)
      go_simp
      refine (wBytes_same oa oa2 p oc oc2 _ (by unfold maxLen; omega) ((mb_bytesT hMw5).grow hbw6) (mb_bytesT hMw6)).mono ?_
      rintro e w7 ⟨rfl, hb7⟩
      have hB := gca hB hb7
      refine hK.out _ _ ⟨hG3.grow hB, hH3.grow hB⟩ ?_
      clear hK
      refine anyU_take (i := 10) (v := ?_) rfl (by kernel_rfl) (by kernel_rfl) (by kernel_rfl) (by kernel_rfl) (fun _ _ _ h => h) (Or.inl ⟨by rfl, ?_⟩) ⟨hG3.grow hB, hH3.grow hB⟩ ?_
      rotate_left
      · intro u hSu; obtain ⟨⟨_, s0, s1, s2, s3, s4⟩, ⟨_, t0, t1, t2, t3, t4⟩⟩ := hSu; go_simp <;> with_reducible rfl
      simp only [Act.put, List.getElem_toArray, List.getElem_cons_zero, List.getElem_cons_succ, List.setIfInBounds_toArray, List.set_cons_zero, List.set_cons_succ]
      refine anyU_take (i := 11) (v := ?_) rfl (by kernel_rfl) (by kernel_rfl) (by kernel_rfl) (by kernel_rfl) (fun _ _ _ h => h) (Or.inl ⟨by rfl, ?_⟩) ⟨hG3.grow hB, hH3.grow hB⟩ ?_
      rotate_left
      · intro u hSu; obtain ⟨⟨_, s0, s1, s2, s3, s4⟩, ⟨_, t0, t1, t2, t3, t4⟩⟩ := hSu; go_simp <;> with_reducible rfl
      simp only [Act.put, List.getElem_toArray, List.getElem_cons_zero, List.getElem_cons_succ, List.setIfInBounds_toArray, List.set_cons_zero, List.set_cons_succ]
      refine anyU_take (i := 12) (v := ?_) rfl (by kernel_rfl) (by kernel_rfl) (by kernel_rfl) (by kernel_rfl) (fun _ _ _ h => h) (Or.inl ⟨by rfl, ?_⟩) ⟨hG3.grow hB, hH3.grow hB⟩ ?_
      rotate_left
      · intro u hSu; obtain ⟨⟨_, s0, s1, s2, s3, s4⟩, ⟨_, t0, t1, t2, t3, t4⟩⟩ := hSu; go_simp <;> with_reducible rfl
      simp only [Act.put, List.getElem_toArray, List.getElem_cons_zero, List.getElem_cons_succ, List.setIfInBounds_toArray, List.set_cons_zero, List.set_cons_succ]
      refine anyU_take (i := 13) (v := ?_) rfl (by kernel_rfl) (by kernel_rfl) (by kernel_rfl) (by kernel_rfl) (fun _ _ _ h => h) (Or.inl ⟨by rfl, ?_⟩) ⟨hG3.grow hB, hH3.grow hB⟩ ?_
      rotate_left
      · intro u hSu; obtain ⟨⟨_, s0, s1, s2, s3, s4⟩, ⟨_, t0, t1, t2, t3, t4⟩⟩ := hSu; go_simp <;> with_reducible rfl
      simp only [Act.put, List.getElem_toArray, List.getElem_cons_zero, List.getElem_cons_succ, List.setIfInBounds_toArray, List.set_cons_zero, List.set_cons_succ]
      refine anyU_take (i := 15) (v := ?_) rfl (by kernel_rfl) (by kernel_rfl) (by kernel_rfl) (by kernel_rfl) (fun _ _ _ h => h) (Or.inl ⟨by rfl, ?_⟩) ⟨hG3.grow hB, hH3.grow hB⟩ ?_
      rotate_left
      · intro u hSu; obtain ⟨⟨_, s0, s1, s2, s3, s4⟩, ⟨_, t0, t1, t2, t3, t4⟩⟩ := hSu; go_simp <;> with_reducible rfl
      simp only [Act.put, List.getElem_toArray, List.getElem_cons_zero, List.getElem_cons_succ, List.setIfInBounds_toArray, List.set_cons_zero, List.set_cons_succ]
      refine anyU_one (i := 14) (by kernel_rfl) rfl (fun K hK => ?_)
      go_simp
      refine (implPack_cap na nc g _ hg (hNg.grow hB)).mono ?_
      rintro e w8 ⟨oa3, oc3, rfl, hMw8, hbw8, _⟩
      rw [← hp.out] at hMw8 ⊢
      have hBw8 := hB
      have hB := gca hB hbw8
      refine hK.out _ _ ⟨hG3.grow hB, hH3.grow hB⟩ ?_
      clear hK
      refine anyU_one (i := 16) (by kernel_rfl) rfl (fun K hK => ?_)
      go_simp
      refine (specPack_any na nc g _ hg (hNg.grow hB)).mono ?_
      rintro e w9 ⟨oa4, oc4, rfl, hMw9, hbw9⟩
      rw [← hp.out] at hMw9 ⊢
      have hBw9 := hB
      have hB := gca hB hbw9
      refine hK.out _ _ ⟨hG3.grow hB, hH3.grow hB⟩ ?_
      clear hK
      refine anyU_one (i := 17) (by kernel_rfl) rfl (fun K hK => ?_)
      go_simp
      refine (wBytes_same oa3 oa4 p oc3 oc4 _ (by unfold maxLen; omega) ((mb_bytesT hMw8).grow hbw9) (owns_bytesO hMw9)).mono ?_
      rintro e w10 ⟨rfl, hb10⟩
      have hB := gca hB hb10
      refine hK.out _ _ ⟨hG3.grow hB, hH3.grow hB⟩ ?_
      clear hK
      refine anyU_take (i := 18) (v := ?_) rfl (by kernel_rfl) (by kernel_rfl) (by kernel_rfl) (by kernel_rfl) (fun _ _ _ h => h) (Or.inl ⟨by rfl, ?_⟩) ⟨hG3.grow hB, hH3.grow hB⟩ ?_
      rotate_left
      · intro u hSu; obtain ⟨⟨_, s0, s1, s2, s3, s4⟩, ⟨_, t0, t1, t2, t3, t4⟩⟩ := hSu; go_simp <;> with_reducible rfl
      simp only [Act.put, List.getElem_toArray, List.getElem_cons_zero, List.getElem_cons_succ, List.setIfInBounds_toArray, List.set_cons_zero, List.set_cons_succ]
      refine anyU_take (i := 19) (v := ?_) rfl (by kernel_rfl) (by kernel_rfl) (by kernel_rfl) (by kernel_rfl) (fun _ _ _ h => h) (Or.inl ⟨by rfl, ?_⟩) ⟨hG3.grow hB, hH3.grow hB⟩ ?_
      rotate_left
      · intro u hSu; obtain ⟨⟨_, s0, s1, s2, s3, s4⟩, ⟨_, t0, t1, t2, t3, t4⟩⟩ := hSu; go_simp <;> with_reducible rfl
      simp only [Act.put, List.getElem_toArray, List.getElem_cons_zero, List.getElem_cons_succ, List.setIfInBounds_toArray, List.set_cons_zero, List.set_cons_succ]
      refine anyU_done (by kernel_rfl) ?_
      have hB10 : Below w.heap.size w w10 := gca hB3 hB
      clear hG3 hH3 hNg hNh hB3 hB hMw5 hMw6 hMw8 hMw9
      go_upto_region 8 with (go_at_call 23; refine (drawAlike_any a xs ac _ (ha.grow hB10) hx hxl (fun g off e => Nat.lt_of_lt_of_le (hsa g off e) hB10.size)).mono ?_; rintro e w11 ⟨g2, h2, ga2, ha2, gc2, hc2, rfl, hg2O, hh2O, hg2N, hh2N, hb11⟩; simp only [GG.val])
      have hA3 := (GBox.new w11 g2 ga2 gc2 27).grow (gal (gre _) (.cells #[.int .i64 h2.root.kind, .int .i64 h2.root.num, .string h2.root.text, .int .i64 h2.root.node, .slice ha2 h2.nodes.length hc2] 27))
      have hC3 := GBox.new (w11.alloc (.cells #[.int .i64 g2.root.kind, .int .i64 g2.root.num, .string g2.root.text, .int .i64 g2.root.node, .slice ga2 g2.nodes.length gc2] 27)) h2 ha2 hc2 27
      have hNa := hg2N.grow (gal (gal (gre w11) (.cells #[.int .i64 g2.root.kind, .int .i64 g2.root.num, .string g2.root.text, .int .i64 g2.root.node, .slice ga2 g2.nodes.length gc2] 27)) (.cells #[.int .i64 h2.root.kind, .int .i64 h2.root.num, .string h2.root.text, .int .i64 h2.root.node, .slice ha2 h2.nodes.length hc2] 27))
      have hNc := hh2N.grow (gal (gal (gre w11) (.cells #[.int .i64 g2.root.kind, .int .i64 g2.root.num, .string g2.root.text, .int .i64 g2.root.node, .slice ga2 g2.nodes.length gc2] 27)) (.cells #[.int .i64 h2.root.kind, .int .i64 h2.root.num, .string h2.root.text, .int .i64 h2.root.node, .slice ha2 h2.nodes.length hc2] 27))
      have hB12 : Below w.heap.size w ((w11.alloc (.cells #[.int .i64 g2.root.kind, .int .i64 g2.root.num, .string g2.root.text, .int .i64 g2.root.node, .slice ga2 g2.nodes.length gc2] 27)).alloc (.cells #[.int .i64 h2.root.kind, .int .i64 h2.root.num, .string h2.root.text, .int .i64 h2.root.node, .slice ha2 h2.nodes.length hc2] 27)) := gal (gal (gca hB10 hb11) _) _
      have hsz : (w11.alloc (.cells #[.int .i64 g2.root.kind, .int .i64 g2.root.num, .string g2.root.text, .int .i64 g2.root.node, .slice ga2 g2.nodes.length gc2] 27)).heap.size = w11.heap.size + 1 := by simp
      rw [hsz] at hC3
      generalize (w11.alloc (.cells #[.int .i64 g2.root.kind, .int .i64 g2.root.num, .string g2.root.text, .int .i64 g2.root.node, .slice ga2 g2.nodes.length gc2] 27)).alloc (.cells #[.int .i64 h2.root.kind, .int .i64 h2.root.num, .string h2.root.text, .int .i64 h2.root.node, .slice ha2 h2.nodes.length hc2] 27) = w12 at hA3 hC3 hNa hNc hB12 ⊢
      generalize w11.heap.size + 1 = pC at hC3 ⊢
      generalize w11.heap.size = pA at hA3 ⊢
      have hB : Below w12.heap.size w12 w12.drew := gdr (gre _)
      refine wp_regionU (fun u => GBox u pA g2 ga2 gc2 ∧ GBox u pC h2 ha2 hc2) 99 (by kernel_rfl) ⟨hA3.grow hB, hC3.grow hB⟩ (fun _ => ?_)
      refine anyU_take (i := 0) (v := ?_) rfl (by kernel_rfl) (by kernel_rfl) (by kernel_rfl) (by kernel_rfl) (fun _ _ _ h => h) (Or.inl ⟨by rfl, ?_⟩) ⟨hA3.grow hB, hC3.grow hB⟩ ?_
      rotate_left
      · intro u hSu; obtain ⟨⟨_, s0, s1, s2, s3, s4⟩, ⟨_, t0, t1, t2, t3, t4⟩⟩ := hSu; go_simp <;> with_reducible rfl
      simp only [Act.put, List.getElem_toArray, List.getElem_cons_zero, List.setIfInBounds_toArray, List.set_cons_zero, List.set_cons_succ]
      refine anyU_take (i := 1) (v := ?_) rfl (by kernel_rfl) (by kernel_rfl) (by kernel_rfl) (by kernel_rfl) (fun _ _ _ h => h) (Or.inl ⟨by rfl, ?_⟩) ⟨hA3.grow hB, hC3.grow hB⟩ ?_
      rotate_left
      · intro u hSu; obtain ⟨⟨_, s0, s1, s2, s3, s4⟩, ⟨_, t0, t1, t2, t3, t4⟩⟩ := hSu; go_simp <;> with_reducible rfl
      simp only [Act.put, List.getElem_toArray, List.getElem_cons_zero, List.getElem_cons_succ, List.setIfInBounds_toArray, List.set_cons_zero, List.set_cons_succ]
      refine anyU_take (i := 3) (v := ?_) rfl (by kernel_rfl) (by kernel_rfl) (by kernel_rfl) (by kernel_rfl) (fun _ _ _ h => h) (Or.inl ⟨by rfl, ?_⟩) ⟨hA3.grow hB, hC3.grow hB⟩ ?_
      rotate_left
      · intro u hSu; obtain ⟨⟨_, s0, s1, s2, s3, s4⟩, ⟨_, t0, t1, t2, t3, t4⟩⟩ := hSu; go_simp <;> with_reducible rfl
      simp only [Act.put, List.getElem_toArray, List.getElem_cons_zero, List.getElem_cons_succ, List.setIfInBounds_toArray, List.set_cons_zero, List.set_cons_succ]
      refine anyU_take (i := 4) (v := ?_) rfl (by kernel_rfl) (by kernel_rfl) (by kernel_rfl) (by kernel_rfl) (fun _ _ _ h => h) (Or.inl ⟨by rfl, ?_⟩) ⟨hA3.grow hB, hC3.grow hB⟩ ?_
      rotate_left
      · intro u hSu; obtain ⟨⟨_, s0, s1, s2, s3, s4⟩, ⟨_, t0, t1, t2, t3, t4⟩⟩ := hSu; go_simp <;> with_reducible rfl
      simp only [Act.put, List.getElem_toArray, List.getElem_cons_zero, List.getElem_cons_succ, List.setIfInBounds_toArray, List.set_cons_zero, List.set_cons_succ]
      refine anyU_one (i := 2) (by kernel_rfl) rfl (fun K hK => ?_)
      go_simp
      refine (implAlike_any ga2 ha2 gc2 hc2 g2 h2 _ hg2O hh2O (hNa.grow hB) (hNc.grow hB)).mono ?_
      rintro e w13 ⟨b1, rfl, hb1, hb13⟩
      have hB := gca hB hb13
      refine hK.out _ _ ⟨hA3.grow hB, hC3.grow hB⟩ ?_
      clear hK
      refine anyU_one (i := 5) (by kernel_rfl) rfl (fun K hK => ?_)
      go_simp
      refine (specAlike_any ga2 ha2 gc2 hc2 g2 h2 _ hg2O hh2O (hNa.grow hB) (hNc.grow hB)).mono ?_
      rintro e w14 ⟨b2, rfl, hb2, hb14⟩
      obtain rfl : b1 = b2 := Bool.eq_iff_iff.2 (hb1.trans hb2.symm)
      have hB := gca hB hb14
      refine hK.out _ _ ⟨hA3.grow hB, hC3.grow hB⟩ ?_
      clear hK
      refine anyU_take (i := 6) (v := ?_) rfl (by kernel_rfl) (by kernel_rfl) (by kernel_rfl) (by kernel_rfl) (fun _ _ _ h => h) (Or.inl ⟨by rfl, ?_⟩) ⟨hA3.grow hB, hC3.grow hB⟩ ?_
      rotate_left
      · intro u hSu; obtain ⟨⟨_, s0, s1, s2, s3, s4⟩, ⟨_, t0, t1, t2, t3, t4⟩⟩ := hSu; go_simp <;> with_reducible rfl
      simp only [Act.put, List.getElem_toArray, List.getElem_cons_zero, List.getElem_cons_succ, List.setIfInBounds_toArray, List.set_cons_zero, List.set_cons_succ]
      refine anyU_take (i := 7) (v := ?_) rfl (by kernel_rfl) (by kernel_rfl) (by kernel_rfl) (by kernel_rfl) (fun _ _ _ h => h) (Or.inl ⟨by rfl, ?_⟩) ⟨hA3.grow hB, hC3.grow hB⟩ ?_
      rotate_left
      · intro u hSu; obtain ⟨⟨_, s0, s1, s2, s3, s4⟩, ⟨_, t0, t1, t2, t3, t4⟩⟩ := hSu; go_simp <;> with_reducible rfl
      simp only [Act.put, List.getElem_toArray, List.getElem_cons_zero, List.getElem_cons_succ, List.setIfInBounds_toArray, List.set_cons_zero, List.set_cons_succ]
      refine anyU_done (by kernel_rfl) ?_
      go_wp2
      go_ret
      exact ⟨rfl, gca hB12 hB⟩
    · have hd2 : ((1048576 : Int) < (ys.length : Int)) := by omega
      go_enter Try.func4, Try.ntmps4
      go_wp2
      go_ret
      exact ⟨rfl, gre _⟩
  · have hd : ((1048576 : Int) < (xs.length : Int)) := by omega
    go_enter Try.func4, Try.ntmps4
    go_wp2
    go_ret
    exact ⟨rfl, gre _⟩

end Go.Proofs.Ythjddpkegooobaa

/-
  OPENB: what bytes that come in read as. Own work.
-/
namespace Go.Proofs.Ythjddpkegooobaa
open Go.RowKit Go.ChangeShapes Go.WideShapes Go.Deep

set_option maxRecDepth 100000 in
theorem cellsU8 : Try.prog.cellsOf 5 = 1 := by kernel_rfl

theorem byte_of_wf {x : Int} (h : (Lit.int .u8 x).wf = true) : 0 ≤ x ∧ x < 256 := by
  simp [Lit.wf, IntKind.min, IntKind.max, IntKind.signed, IntKind.bits] at h
  omega

section
variable {H : Type} {enc : TypeId × Value → H} {w : World} {base : Nat} {held : Bool}

set_option maxRecDepth 100000 in
theorem openBytes {v : Value} {d : DataW H} {ps : List MemPlace} {r : Reach} {bd : Nat} (hv : Value.okWide Try.prog w r bd 22 v) (h : DataW.Trod enc Try.prog w base (fun _ => true) held 22 v d ps) :
    ∃ (bs : List Nat) (a : Option Addr) (cap : Nat), v = .slice a bs.length cap ∧ bs.length ≤ cap ∧ bs.length ≤ maxLen ∧ (∀ x, x ∈ bs → x < 256) ∧ BytesAt w a bs := by
  obtain ⟨fuel, h⟩ := h
  have hcs : v.cells.toList = [v] := by
    cases v <;> first | rfl | (exfalso; simp [Value.okWide, Cell.okWide, Cell.ok, Try.underlying22] at hv)
  rw [hcs] at h
  rcases open_ints Try.underlying22 Try.underlying5 cellsU8 h with ⟨e, _⟩ | ⟨a, len, cap, zs, e, _, hlc, hcm, hzl, _, hcell, hwf⟩
  · simp at e
    subst e
    exact ⟨[], none, 0, rfl, Nat.le_refl _, Nat.zero_le _, fun x hx => (by cases hx), fun i hi => absurd hi (Nat.not_lt_zero _)⟩
  · simp at e
    subst e
    simp at hzl
    have hl : ((zs.take len).map Int.toNat).length = len := by rw [List.length_map, List.length_take]; omega
    refine ⟨(zs.take len).map Int.toNat, some a, cap, by rw [hl], by omega, by omega, fun x hx => ?_, fun i hi => ?_⟩
    · obtain ⟨z, hz, rfl⟩ := List.mem_map.1 hx
      have := byte_of_wf (hwf z (List.mem_of_mem_take hz))
      omega
    · rw [hl] at hi
      have h1 := hcell i (by omega)
      obtain ⟨b, off, sp⟩ := a
      have h0 := hcell 0 (by omega)
      have hsp : sp = none := by simpa [Addr.add] using World.cell?_spot h0
      subst hsp
      refine ⟨b, off, rfl, ?_⟩
      have e1 : (⟨b, off, none⟩ : Addr).add i = ⟨b, off + i, none⟩ := by unfold Addr.add; simp
      rw [e1] at h1
      rw [h1]
      have h2 := byte_of_wf (hwf zs[i] (List.getElem_mem (by omega)))
      rw [getElem!_pos _ i (by rw [hl]; exact hi)]
      have e2 : ((zs.take len).map Int.toNat)[i]'(by rw [hl]; exact hi) = (zs[i]'(by omega)).toNat := by simp
      rw [e2]
      have e3 : zs.getD i 0 = zs[i]'(by omega) := by simp [List.getD, List.getElem?_eq_getElem (show i < zs.length by omega)]
      rw [e3]
      congr 2
      omega
end

end Go.Proofs.Ythjddpkegooobaa

/-
  DONE: the row of FnAlike, proved. Own work.
-/
namespace Go.Proofs.Ythjddpkegooobaa
open Go.ChangeShapes Go.WideShapes Go.ChangeAt Go.RowKit

set_option maxRecDepth 100000 in
theorem ownTurn : ownKnob Try.prog.godebug = none := by kernel_rfl
theorem laidOutTurn : laidOutB Try.prog = true := by kernel_rfl

set_option maxRecDepth 100000 in
theorem slice_ltT {w : World} {r : Reach} {bd : Nat} {a : Addr} {n c : Nat} (h : Value.okWide Try.prog w r bd 22 (.slice (some a) n c)) : a.block < w.heap.size := by
  have h2 : n ≤ c ∧ (c : Int) ≤ IntKind.i64.max ∧ w.has Try.prog r bd a 5 c := by simpa [Value.okWide, Cell.okWide, Cell.ok, Try.underlying22] using h
  obtain ⟨_, _, _, _, row, cells, hsh, _⟩ := h2
  unfold World.shape? at hsh
  rcases Nat.lt_or_ge a.block w.heap.size with hlt | hge
  · exact hlt
  · rw [Array.getElem?_eq_none hge] at hsh
    cases hsh

set_option maxRecDepth 100000 in
theorem liftedTurn (os : Os) (started : os.Started) (H : Type) (enc : TypeId × Value → H) :
    ReturnsInHanded {} Try.checked os 4 .any (Rows.fnAlikeSpec.pre6 enc Try.prog Try.f4 Rows.fnAlikeRow.domain false) (Rows.fnAlikeSpec.post enc Try.prog Try.f4 false true false false) := by
  refine returnsInHanded_of_change (C := Try.checked) ownTurn started (by kernel_rfl) Try.func4
    (ChangeSpec.witness6 (enc := enc) (C := Try.checked) false ⟨#[], #[.slice none 0 0, .slice none 0 0], []⟩ 8 (by kernel_rfl) (by kernel_rfl) (by kernel_rfl) (by kernel_rfl)) ?_
  intro W base args ds gs before hval0 hW hcnd _
  have hval : ∀ (j : Nat) t v, Try.f4.params[j]? = some t → args[j]? = some v → Value.okWide Try.prog W .any base t v := hval0
  have hW' := hW
  obtain ⟨p, q, hA0, hV, rfl, hfz, hnd⟩ := hW
  have hA : DataW.TrodAll enc Try.prog W 0 (fun _ => true) true Try.f4.params.toList args.toList ds p := hA0
  rw [Try.params4] at hA hval
  obtain ⟨v0, vs0, d0, ds0, p0, q0, hargs, rfl, rfl, h0, r0⟩ := trodAll_cons hA
  obtain ⟨v1, vs1, d1, ds1, p1, q1, hargs1, rfl, rfl, h1, r1⟩ := trodAll_cons r0
  obtain ⟨rfl, rfl, rfl⟩ := trodAll_nil r1
  subst hargs1
  obtain rfl : args = #[v0, v1] := by cases args; simp_all
  obtain ⟨rfl, rfl⟩ := trodVars_none hV
  have k0 := h0
  have k1 := h1
  have lt0 : ∀ x ∈ p0, x.block < W.heap.size := by obtain ⟨m, hm⟩ := k0; exact DataW.trod_lt m _ _ _ hm
  have lt1 : ∀ x ∈ p1, x.block < W.heap.size := by obtain ⟨m, hm⟩ := k1; exact DataW.trod_lt m _ _ _ hm
  have hv0 := hval 0 22 v0 rfl rfl
  have hv1 := hval 1 22 v1 rfl rfl
  obtain ⟨bs, a, cap, rfl, _, hml, hx, ha⟩ := openBytes hv0 h0
  obtain ⟨bs', a', cap', rfl, _, hml', hx', ha'⟩ := openBytes hv1 h1
  have hs : ∀ g off, a = some ⟨g, off, none⟩ → g < W.heap.size := fun g off e => by rw [e] at hv0; exact slice_ltT hv0
  have hs' : ∀ g off, a' = some ⟨g, off, none⟩ → g < W.heap.size := fun g off e => by rw [e] at hv1; exact slice_ltT hv1
  clear hA0 hval0
  refine (lawTurn a a' cap cap' bs bs' W ha ha' hml hml' hx hx' hs hs').mono fun e W' ⟨he, bel⟩ => ?_
  subst he
  exact ⟨_, rfl, _, _, _, [], _, [], hW', trodAll_mk1 (shut_bool Try.underlying4 _), (trodAll_cons_mk (Below.trod laidOutTurn (by kernel_rfl) (of_decide_eq_true (by kernel_rfl)) k0 bel lt0) (trodAll_cons_mk (Below.trod laidOutTurn (by kernel_rfl) (of_decide_eq_true (by kernel_rfl)) k1 bel lt1) trodAll_mk0)), rfl, bel.frame _, fun h => by cases h⟩

set_option maxRecDepth 100000 in
theorem turn_holds : Rows.FnAlikeSaid :=
  OpenClaim.holds_of_wide 4 Try.f4 rfl rfl rfl rfl rfl rfl rfl ⟨rfl, rfl, rfl, rfl, rfl⟩ rfl rfl rfl rfl rfl (by kernel_rfl) Try.func4 (by kernel_rfl)
    (of_decide_eq_true (by kernel_rfl)) (by unfold Func.isWrapper; first | (rw [if_pos (by decide +kernel)]; kernel_rfl) | (rw [if_neg (by decide +kernel)]; exact ⟨rfl, rfl⟩))
    (fun os started H enc _ => liftedTurn os started H enc)

end Go.Proofs.Ythjddpkegooobaa
