import Derived.Recover
import Derived.Laws.Pointers
import Derived.Test.YtmdpmdmilgbfiaaGreatDoorPartT

namespace Go.Proofs.YtmdpmdmilgbfiaaGreatDoor
open Go.RowKit

set_option maxRecDepth 100000 in
theorem assert_nil (w : World) : (Instr.typeAssert .nilIface 20 141 true).run Tryz.prog w = .ok (.tuple #[.agg #[], .bool false]) w := by kernel_rfl
theorem assert_halt (w : World) : (Instr.typeAssert (.iface 141 (.agg #[])) 20 141 true).run Tryz.prog w = .ok (.tuple #[.agg #[], .bool true]) w := by kernel_rfl

set_option maxRecDepth 100000 in
theorem passOn_nil (w : World) : Calls Tryz.prog 41 #[.nilIface] w fun e w' => e = .returned (.tuple #[]) ∧ w' = w := by
  have ht := assert_nil
  go_enter Tryz.func41, Tryz.ntmps41
  go_wp2
  first | go_end0 | refine bodyPost_ret (results_none rfl _ _ _) rfl ?_
  exact ⟨rfl, rfl⟩

set_option maxRecDepth 100000 in
theorem passOn_halt (w : World) : Calls Tryz.prog 41 #[.iface 141 (.agg #[])] w fun e w' => e = .returned (.tuple #[]) ∧ w' = w := by
  have ht := assert_halt
  go_enter Tryz.func41, Tryz.ntmps41
  go_wp2
  first | go_end0 | refine bodyPost_ret (results_none rfl _ _ _) rfl ?_
  exact ⟨rfl, rfl⟩

set_option maxRecDepth 100000 in
theorem packCatch_panicking (older : List PanicEntry) (w : World) :
    CallsD Tryz.prog 40 #[] (.panicking (haltP :: older)) w fun e u' w' =>
      e = .returned (.tuple #[]) ∧ u' = .panicking ({ v := .iface 141 (.agg #[]), recovered := true } :: older) ∧ w' = w := by
  refine callsD_of_wpS Tryz.func40 rfl fun c₀ cs hu => ?_
  apply wpS_region
  simp [wpOpsS, go_sem, recoverD, hu, Tryz.ntmps40]
  refine (passOn_halt w).mono ?_
  rintro e w' ⟨rfl, rfl⟩
  simp [bodyPostS, results, Tryz.results40]

set_option maxRecDepth 100000 in
theorem packCatch_idle (w : World) :
    CallsD Tryz.prog 40 #[] .returning w fun e u' w' => e = .returned (.tuple #[]) ∧ u' = .returning ∧ w' = w := by
  refine callsD_of_wpS Tryz.func40 rfl fun c₀ cs hu => ?_
  apply wpS_region
  simp [wpOpsS, go_sem, recoverD, hu, Tryz.ntmps40]
  refine (passOn_nil w).mono ?_
  rintro e w' ⟨rfl, rfl⟩
  cases c₀
  simp_all [bodyPostS, results, Tryz.results40]

def PackIPost (ys : List Nat) (w : World) (e : Ending) (w' : World) : Prop :=
  ∃ oa cap, e = .returned (.slice oa ys.length cap) ∧ MB w' w.heap.size oa ys ∧ Below w.heap.size w w'
def PackICap (ys : List Nat) (w : World) (e : Ending) (w' : World) : Prop :=
  ∃ oa cap, e = .returned (.slice oa ys.length cap) ∧ MB w' w.heap.size oa ys ∧ Below w.heap.size w w' ∧ ys.length ≤ cap
theorem PackICap.post {ys : List Nat} {w : World} {e : Ending} {w' : World} (h : PackICap ys w e w') : PackIPost ys w e w' := let ⟨oa, cap, h1, h2, h3, _⟩ := h; ⟨oa, cap, h1, h2, h3⟩

set_option maxRecDepth 100000 in
theorem u64n_wrap {n : Nat} (h : n < 18446744073709551616) : u64n (wrap64 (n : Int)) = n := by unfold u64n wrap64; omega
theorem i64_wrap (n : Int) : I64 (wrap64 n) := by unfold I64 wrap64; omega

set_option maxRecDepth 100000 in
theorem wr_new (w : World) (M : Array Value) (hM : M.size = 4096) : Wr ((w.alloc (.cells M 5)).alloc (.cells #[.slice (some ⟨w.heap.size, 0, none⟩) 4096 4096, .int .i64 0] 90)) (w.heap.size + 1) w.heap.size [] := by
  refine ⟨⟨by simp, by simp, by simp, fun o => by simp⟩, by omega, ⟨M, ?_, hM, by simp, fun i hi => absurd hi (Nat.not_lt_zero _)⟩⟩
  rw [Below.heap_alloc _ _ _ (by simp)]
  exact blk_new_at _ _ _ rfl

set_option maxRecDepth 100000 in
theorem implPack_cap (a : Option Addr) (cap : Nat) (g : GG) (w : World) (hg : g.Ok) (ha : NodesAt w.heap.size w a g.nodes) :
    Calls Tryz.prog 14 #[g.val a cap] w (PackICap (packB g) w) := by
  have hX0 := GBox.new w g a cap 32
  cases hok : okG g with
  | false =>
    have hz : Hid (packB g = []) := if_neg (by rw [hok]; simp)
    have hok' : Hid _ := hok
    go_enter_defers Tryz.func14, Tryz.ntmps14
    go_wp2_with (go_at_call 42; refine (implGraphOk_any a cap g _ hg (ha.grow (gal (gre _) _))).mono ?_; rintro e w1 ⟨rfl, hb1⟩; rw [hok'.out])
    refine leaves_cons (f := 40) (args := #[]) (by simp) (by simp [go_sem]) ?_
    refine (packCatch_idle _).mono ?_
    rintro e u' w'' ⟨rfl, rfl, rfl⟩
    refine ⟨_, results_tmp rfl _ _ _, ?_⟩
    exact ⟨none, 0, by rw [hz.out]; rfl, Or.inl hz.out, gca (gal (gre _) _) hb1, by rw [hz.out]; exact Nat.le_refl _⟩
  | true =>
    have hok' : Hid _ := hok
    obtain ⟨i0, hi, hz0, hz1, hz2⟩ := info_parts info_u8
    obtain ⟨M, hM⟩ := hid_ex (madeCells #[Value.int .u8 0] 4096)
    have hMs : M.size = 4096 := by rw [hM.out, size_madeCells]
    have hmk : ∀ u : World, (Instr.makeSlice 22 (.int .i64 4096) (.int .i64 4096)).run Tryz.prog u = .ok (.slice (some ⟨u.heap.size, 0, none⟩) 4096 4096) (u.alloc (.cells M 5)) := fun u => by
      have h := run_make (P := Tryz.prog) u 22 5 i0 _ Tryz.underlying22 hi hz0 .i64 .i64 4096 4096 (by omega) (Int.le_refl _) (by rw [hz2]; omega) (by omega)
      rw [hM.out]
      simpa [hz1, Value.cells] using h
    obtain ⟨c, hc⟩ := hid_ex (canon g)
    have hcz : Hid (canonZ g = c) := by show _ = _; rw [hc.out]; exact if_pos hok
    have hcok : okG c = true := by rw [hc.out]; exact canon_okG hok
    have hcO : c.Ok := by rw [hc.out]; exact canon_ok hg hok
    have hcb := graphB_bytes hcok
    have him : Hid (imageB g = graphB c ++ lowB 8 (sumN (graphB c))) := by show _ = _; unfold imageB formB; rw [← hc.out]
    have hsl := u64n_wrap (sumN_lt (graphB c))
    have hlow := lowB_length 8 (sumN (graphB c))
    clear hM
    go_enter_defers Tryz.func14, Tryz.ntmps14
    go_wp2_with (first
      | (go_at_call 47; refine (passed_any _ _ 4096 4096 _ _ hW6.cur (by omega) (by decide) hW6.le).mono ?_; rintro e w7 ⟨rfl, hb7⟩; have hW7 := hW6.grow hb7)
      | (go_at_call 42; refine (implGraphOk_any a cap g _ hg (ha.grow (gal (gre _) _))).mono ?_; rintro e w1 ⟨rfl, hb1⟩; have hX1 := hX0.grow hb1; obtain ⟨xz, x0, x1, x2, x3, x4⟩ := id hX1; rw [hok'.out]; have hWn := wr_new w1 M hMs)
      | (go_at_call 44; refine (implCanon_any a cap g _ hg (ha.grow (gal (gal (gca (gal (gre _) _) hb1) _) _))).mono ?_; rintro e w3 ⟨na, nc, nl, rfl, hnl, hown, hb3⟩; rw [hcz.out] at hnl ⊢; have hW3 := hWn.grow hb3; simp only [World.size_alloc] at hown)
      | (go_at_call 43; refine (writeGraph_any (w1.heap.size + 1) w1.heap.size [] c na nc (w1.heap.size + 1 + 1) nl _ hW3 hcO hcok hnl (fun w' hK => hown.kept hK (fun b hb hp => by have := (hown.nodes.lt b (by rw [hb]; rfl)).1; omega) (fun x hx b hb hp => by have := ((hown.vals x hx).lt b (by rw [hb]; rfl)).1; omega))).mono ?_; rintro e w4 ⟨hK4, h4⟩; rw [List.nil_append] at h4; obtain ⟨hf4, rfl, hW4⟩ | ⟨hno4, rfl⟩ := h4)
      | (go_at_call 46; refine (implSumOf_any _ (graphB c) 4096 _ (brow_bytes hW5.row) (by have := hW5.le; unfold maxLen; omega) hcb).mono ?_; rintro e w55 ⟨rfl, hb55⟩; have hW55 := hW5.grow hb55)
      | (go_at_call 45; refine (writeWord_any _ _ (graphB c) _ _ hW55 (i64_wrap _)).mono ?_; rintro e w6 ⟨hK6, h6⟩; rw [hsl] at h6; obtain ⟨hf6, rfl, hW6⟩ | ⟨hno6, rfl⟩ := h6)
      | (go_at_call 47; refine (passed_any _ _ 4096 4096 _ _ hW4.cur (by omega) (by decide) hW4.le).mono ?_; rintro e w5 ⟨rfl, hb5⟩; have hW5 := hW4.grow hb5))
    · have hB3 : Below w.heap.size w w3 := gca (gal (gal (gca (gal (gre _) _) hb1) _) _) hb3
      have hB4 := hB3.trans (hK4.below hB3.size (fun k hk hp => by omega))
      have hB6 := (gca (gca hB4 hb5) hb55).trans (hK6.below (gca (gca hB4 hb5) hb55).size (fun k hk hp => by omega))
      have hz : packB g = graphB c ++ lowB 8 (sumN (graphB c)) := by
        rw [← him.out]
        exact if_pos ⟨hok, by rw [him.out, List.length_append]; exact hf6⟩
      refine leaves_cons (f := 40) (args := #[]) (by simp) (by simp [go_sem]) ?_
      refine (packCatch_idle _).mono ?_
      rintro e u' w'' ⟨rfl, rfl, rfl⟩
      refine ⟨_, results_tmp rfl _ _ _, ?_⟩
      exact ⟨some ⟨w1.heap.size, 0, none⟩, 4096, by rw [hz, List.length_append, hlow]; rfl, Or.inr ⟨w1.heap.size, 4096, rfl, by omega, by rw [hz]; exact hW7.row⟩, gca hB6 hb7, by rw [hz, List.length_append]; exact hf6⟩
    · have hB3 : Below w.heap.size w w3 := gca (gal (gal (gca (gal (gre _) _) hb1) _) _) hb3
      have hB4 := hB3.trans (hK4.below hB3.size (fun k hk hp => by omega))
      have hB6 := (gca (gca hB4 hb5) hb55).trans (hK6.below (gca (gca hB4 hb5) hb55).size (fun k hk hp => by omega))
      have hz : packB g = [] := if_neg (fun h => by have h2 := h.2; rw [him.out, List.length_append] at h2; omega)
      refine leaves_cons (f := 40) (args := #[]) (by simp) (by simp [go_sem]) ?_
      refine (packCatch_panicking [] _).mono ?_
      rintro e u' w'' ⟨rfl, rfl, rfl⟩
      refine ⟨_, results_tmp rfl _ _ _, ?_⟩
      exact ⟨none, 0, by rw [hz]; rfl, Or.inl hz, hB6, by rw [hz]; exact Nat.le_refl _⟩
    · have hB3 : Below w.heap.size w w3 := gca (gal (gal (gca (gal (gre _) _) hb1) _) _) hb3
      have hB4 := hB3.trans (hK4.below hB3.size (fun k hk hp => by omega))
      have hz : packB g = [] := if_neg (fun h => by have h2 := h.2; rw [him.out, List.length_append] at h2; simp at hno4; omega)
      refine leaves_cons (f := 40) (args := #[]) (by simp) (by simp [go_sem]) ?_
      refine (packCatch_panicking [] _).mono ?_
      rintro e u' w'' ⟨rfl, rfl, rfl⟩
      refine ⟨_, results_tmp rfl _ _ _, ?_⟩
      exact ⟨none, 0, by rw [hz]; rfl, Or.inl hz, hB4, by rw [hz]; exact Nat.le_refl _⟩

theorem implPack_any (a : Option Addr) (cap : Nat) (g : GG) (w : World) (hg : g.Ok) (ha : NodesAt w.heap.size w a g.nodes) :
    Calls Tryz.prog 14 #[g.val a cap] w (PackIPost (packB g) w) := (implPack_cap a cap g w hg ha).mono fun _ _ h => h.post

end Go.Proofs.YtmdpmdmilgbfiaaGreatDoor

namespace Go.Proofs.YtmdpmdmilgbfiaaGreatDoor
open Go.RowKit

set_option maxHeartbeats 4000000 in
set_option maxRecDepth 100000 in
theorem disk_any (p : Nat) (bl : List (List Nat)) (pa : Option Addr) (pc : Nat) (ws : List DW) (kv : Value) (w : World) (hw : ws.length ≤ 201) (h : Dr w p bl pa pc ws kv) :
    Calls Tryz.prog 57 #[.pointer (some ⟨p, 0, none⟩)] w fun e w' => ∃ l fa ga fc gc, e = .returned (DD.val ⟨bl, ws⟩ l) ∧ MD w' w.heap.size w'.heap.size l ⟨bl, ws⟩ fa ga fc gc ∧ Below w.heap.size w w' := by
  obtain ⟨j0, hj, hy0, hy1, hy2⟩ := info_parts info_bytes
  have hmk : ∀ u : World, (Instr.makeSlice 43 (.int .i64 130) (.int .i64 130)).run Tryz.prog u =
      .ok (.slice (some ⟨u.heap.size, 0, none⟩) 130 130) (u.alloc (.cells (madeCells #[.slice none 0 0] 130) 22)) := fun u => by
    have h := run_make (P := Tryz.prog) u 43 22 j0 _ Tryz.underlying43 hj hy0 .i64 .i64 (130 : Int) (130 : Int) (by omega) (Int.le_refl _) (by rw [hy2]; omega) (by omega)
    simpa [hy1, Value.cells] using h
  obtain ⟨M, hM⟩ := hid_ex (madeCells #[Value.slice none 0 0] 130)
  rw [← hM.out] at hmk
  have hlen := h.d.len
  have h64 := h.d.all64
  have hz64 := (zero_of_info zero_content).1
  have hSl := run_slice_content
  go_enter Tryz.func57, Tryz.ntmps57
  go_upto_region 2 with fail
  have hw1 := gal (gre w) (.cells #[.slice none 0 0, .slice none 0 0] 46)
  have hs1 : (w.alloc (.cells #[.slice none 0 0, .slice none 0 0] 46)).heap.size = w.heap.size + 1 := by simp
  have r0 : (w.alloc (.cells #[.slice none 0 0, .slice none 0 0] 46)).cell? ⟨w.heap.size, 0, none⟩ = some (.slice none 0 0) := by simp
  have r1 : (w.alloc (.cells #[.slice none 0 0, .slice none 0 0] 46)).cell? ⟨w.heap.size, 1, none⟩ = some (.slice none 0 0) := by simp
  have rf : ∀ o, (w.alloc (.cells #[.slice none 0 0, .slice none 0 0] 46)).frozen? ⟨w.heap.size, o, none⟩ = false := fun o => by simp
  generalize hR : w.heap.size = R at hs1 r0 r1 rf ⊢
  generalize w.alloc (.cells #[.slice none 0 0, .slice none 0 0] 46) = w1 at hw1 hs1 r0 r1 rf ⊢
  have hK0 : DkB w1 ((w1.alloc (.cells M 22)).alloc (.cells #[.slice (some ⟨R + 1, 0, none⟩) 130 130, .slice none 0 0] 46)) (R + 1) (R + 1 + 1) (.slice none 0 0) bl 0 (fun i => (#[Value.slice none 0 0] : Array Value)[i % (#[Value.slice none 0 0] : Array Value).size]!) (fun _ => 0) (fun _ => 0) := by
    have e2 : (w1.alloc (.cells M 22)).heap.size = R + 1 + 1 := by simp [hs1]
    refine ⟨?_, fun i hi => absurd hi (Nat.not_lt_zero _), ?_, ?_, fun o => ?_, gal (gal (gre _) _) _, by omega, by omega⟩
    · have := rowIs_made_any w1 #[Value.slice none 0 0] 130 22
      rw [← hM.out, hs1] at this
      exact this.of_block (Below.heap_alloc _ _ _ (by omega))
    · rw [← e2]; simp
    · rw [← e2]; simp
    · rw [← e2]; simp
  generalize (w1.alloc (.cells M 22)).alloc (.cells #[.slice (some ⟨R + 1, 0, none⟩) 130 130, .slice none 0 0] 46) = w3 at hK0 ⊢
  obtain ⟨N, hN⟩ := hid_ex (R + 1)
  obtain ⟨V, hV⟩ := hid_ex (R + 1 + 1)
  rw [← hV.out, ← hN.out] at hK0
  rw [← hV.out, ← hN.out]
  clear hmk hM hj hy0 hy1 hy2
  have hDr3 := (h.grow hw1).grow hK0.bel
  go_wp2_with (refine wpList_load_mid rfl 107 _ rfl p 0 rfl (blCells bl) _ hDr3.d.whole Tryz.underlying107 rfl (by rw [size_contents, blCells_length bl h64, hlen]) ?_)
  clear hDr3
  go_loopw [14] (fun i wr => ∃ (k : Nat) (f : Nat → Value) (bs cs : Nat → Nat), k ≤ 130 ∧ i = .int .i64 k ∧ DkB w1 wr N V (.slice none 0 0) bl k f bs cs) (fun i _ => 130 - (intOf i).toNat)
  case atStart => exact ⟨0, _, _, _, Nat.zero_le _, rfl, hK0⟩
  case round =>
    obtain ⟨k, f, bs, cs, hk, rfl, hD⟩ := hrel
    by_cases hlt : k < 130
    · obtain ⟨n, hn⟩ := hid_ex bl[k]!
      have hn64 : Hid (n.length = 64) := by show _ = _; rw [hn.out]; exact h64 _ (mem_at (by omega))
      have hcl : (bcells n).length = 64 := by rw [bcells_length]; exact hn64.out
      have i0 : (0 : Int) ≤ (k : Int) := by omega
      have i1 : (k : Int) < 130 := by omega
      go_upto_region 5 with (first
        | (refine wpList_index_contents rfl _ _ rfl bl k rfl rfl hlt hlen h64 ?_; rw [← hn.out])
        | (refine wpList_alloc_big rfl 106 rfl _ hz64 ?_)
        | (refine wpList_store_new rfl 106 _ _ rfl _ (bcells n).toArray rfl rfl (by rw [size_content]; simp [hcl]) (by simp [zeros, hcl]) (all_oneCell_toArray cells_u8) ?_))
      have hDA := hD.grow (gal (gre wr) (.cells (bcells n).toArray 106))
      have hby := bytes_range (range_new wr (bcells n) 106)
      have hsC : (wr.alloc (.cells (bcells n).toArray 106)).heap.size = wr.heap.size + 1 := by simp
      generalize wr.alloc (.cells (bcells n).toArray 106) = wC at hDA hby hsC ⊢
      generalize hQ : wr.heap.size = Q at hby hsC ⊢
      refine wp_regionU (fun u => u.cell? ⟨V, 0, none⟩ = some (.slice (some ⟨N, 0, none⟩) 130 130)) 6 (by kernel_rfl) hDA.v0 (fun hS0 => ?_)
      refine anyU_take (i := 0) (v := ?_) rfl (by kernel_rfl) (by kernel_rfl) (by kernel_rfl) (by kernel_rfl) (fun _ _ _ h => h) (Or.inl ⟨by rfl, ?_⟩) hS0 ?_
      rotate_left
      · intro u hSu; (try dsimp only at hSu); go_simp <;> with_reducible rfl
      simp only [Act.put, List.getElem_toArray, List.getElem_cons_zero, List.setIfInBounds_toArray, List.set_cons_zero, List.set_cons_succ]
      refine anyU_take (i := 1) (v := ?_) rfl (by kernel_rfl) (by kernel_rfl) (by kernel_rfl) (by kernel_rfl) (fun _ _ _ h => h) (Or.inl ⟨by rfl, ?_⟩) hS0 ?_
      rotate_left
      · intro u hSu; (try dsimp only at hSu); go_simp <;> with_reducible rfl
      simp only [Act.put, List.getElem_toArray, List.getElem_cons_zero, List.getElem_cons_succ, List.setIfInBounds_toArray, List.set_cons_zero, List.set_cons_succ]
      refine anyU_take (i := 2) (v := ?_) rfl (by kernel_rfl) (by kernel_rfl) (by kernel_rfl) (by kernel_rfl) (fun _ _ _ h => h) (Or.inl ⟨by rfl, ?_⟩) hS0 ?_
      rotate_left
      · intro u hSu; (try dsimp only at hSu); go_simp <;> with_reducible rfl
      simp only [Act.put, List.getElem_toArray, List.getElem_cons_zero, List.getElem_cons_succ, List.setIfInBounds_toArray, List.set_cons_zero, List.set_cons_succ]
      refine anyU_take (i := 3) (v := ?_) rfl (by kernel_rfl) (by kernel_rfl) (by kernel_rfl) (by kernel_rfl) (fun _ _ _ h => h) (Or.inl ⟨by rfl, ?_⟩) hS0 ?_
      rotate_left
      · intro u hSu; (try dsimp only at hSu); go_simp <;> with_reducible rfl
      simp only [Act.put, List.getElem_toArray, List.getElem_cons_zero, List.getElem_cons_succ, List.setIfInBounds_toArray, List.set_cons_zero, List.set_cons_succ]
      refine anyU_one (i := 4) (by kernel_rfl) rfl (fun K hK => ?_)
      go_simp
      rw [show (64 : Nat) = n.length from hn64.out.symm]
      refine (bytesClone_any Q 0 n.length n _ (by rw [hn64.out]; decide) (by rw [hn64.out]; decide) (hby.grow (gdr (gre _)))).mono ?_
      rintro e w2 ⟨G, gcap, rfl, hG, hGr, hb2⟩
      have hD2 := hDA.grow (gca (gdr (gre wC)) hb2)
      rw [hn64.out]
      refine hK.out _ _ hD2.v0 ?_
      clear hK
      refine anyU_one (i := 5) (by kernel_rfl) rfl (fun K hK => ?_)
      go_simp
      refine hK.out _ _ hD2.v0 ?_
      clear hK
      have rc := hD2.row.cell (i := k) (by omega)
      have rf := hD2.row.frozen
      refine anyU_last (by kernel_rfl) rfl (by kernel_rfl) (fun K hK => ?_)
      go_simp
      refine hK.out _ _ ?_
      clear hK
      have hst := hD2.step (k := k) (G := G) (cap := gcap) (by rw [← hn.out]; exact hGr) (by have := World.block_lt_of_cell? _ _ hDA.v0; have h5 : wC.heap.size ≤ G := hG; simp at this; omega) (fun j hj => by have := (hDA.fs j hj).2.1.lt; have h5 : wC.heap.size ≤ G := hG; omega)
      go_wp2
      go_roundw
      case rel => exact ⟨k + 1, _, _, _, by omega, by go_num, hst⟩
      case measure => simp [intOf]; omega
    · obtain rfl : k = 130 := by omega
      have hDr2 := (h.grow hw1).grow hD.bel
      have x2 := hDr2.d.ws
      obtain ⟨j0, hj, hy0, hy1, hy2⟩ := info_parts info_implWrite
      have hz65 := (zero_of_info zero_pending).1
      have hW0 : DkW w1 wr N V bl f bs cs none 0 [] (fun _ => 0) := ⟨hD, owns_none _ _ _ _, fun i hi => absurd hi (Nat.not_lt_zero _)⟩
      clear hD hK0 hDr2 hk hlt
      go_wp2
      go_loopw [30] (fun i wr => ∃ k : Nat, k ≤ ws.length ∧ i = .int .i64 k ∧ GWInv w1 wr N V bl f bs cs ws k) (fun i _ => ws.length - (intOf i).toNat)
      case atStart => exact ⟨0, Nat.zero_le _, rfl, none, 0, [], _, rfl, rfl, hW0⟩
      case round =>
        obtain ⟨k, hk, rfl, va, vc, lw, gs, hll, hlm, hD⟩ := hrel
        by_cases hlt : k < ws.length
        · have hDrk := (h.grow hw1).grow hD.dk.bel
          obtain ⟨g, rfl, _, hgl, hrg⟩ := owns_pend hDrk.own hDrk.w64 hlt
          obtain ⟨n, hn⟩ := hid_ex ws[k]!
          rw [← hn.out] at hrg
          have hn64 : Hid (n.bytes.length = 64) := by show _ = _; rw [hn.out]; exact h.w64 _ (mem_at hlt)
          have hpl : n.pc.length = 65 := pc_length hn64.out
          have i0 : (0 : Int) ≤ (k : Int) := by omega
          have i1 : (k : Int) < (ws.length : Int) := by omega
          clear hDrk
          go_upto_region 10 with (first
            | (refine wpList_load_mid rfl 160 _ rfl g (k * 65) rfl n.pc _ hrg Tryz.underlying160 rfl (by rw [size_pending, hpl]) ?_)
            | (refine wpList_alloc_big rfl 160 rfl _ hz65 ?_)
            | (refine wpList_store_new rfl 160 _ _ rfl _ n.pc.toArray rfl rfl (by rw [size_pending]; simp [hpl]) (by simp [zeros, hpl]) (all_oneCell_toArray pc_one) ?_))
          have hDA := hD.grow (gal (gre wr) (.cells n.pc.toArray 160))
          have hrn := range_new wr n.pc 160
          have hby := bytes_range (range_drop (cs := [.int .i64 n.block]) hrn)
          have hq0 := hrn 0 _ rfl
          have hsC : (wr.alloc (.cells n.pc.toArray 160)).heap.size = wr.heap.size + 1 := by simp
          generalize wr.alloc (.cells n.pc.toArray 160) = wC at hDA hby hsC hq0 ⊢
          clear hrn
          generalize hQ : wr.heap.size = Q at hby hsC hq0 ⊢
          have hby2 : BytesAt wC (some ⟨Q, 1, none⟩) n.bytes := hby
          have hq02 : wC.cell? ⟨Q, 0, none⟩ = some (.int .i64 n.block) := hq0
          clear hby hq0
          have hSk : ∀ (u u' : World), Below u.heap.size u u' → (u.cell? ⟨V, 1, none⟩ = some (.slice va lw.length vc) ∧ u.cell? ⟨Q, 0, none⟩ = some (.int .i64 n.block)) → (u'.cell? ⟨V, 1, none⟩ = some (.slice va lw.length vc) ∧ u'.cell? ⟨Q, 0, none⟩ = some (.int .i64 n.block)) := fun u u' hb h => ⟨cell_later hb h.1, cell_later hb h.2⟩
          refine wp_regionU (fun u => u.cell? ⟨V, 1, none⟩ = some (.slice va lw.length vc) ∧ u.cell? ⟨Q, 0, none⟩ = some (.int .i64 n.block)) 11 (by kernel_rfl) ⟨hDA.dk.v1, hq02⟩ (fun hS0 => ?_)
          refine anyU_take (i := 0) (v := ?_) rfl (by kernel_rfl) (by kernel_rfl) (by kernel_rfl) (by kernel_rfl) (fun _ _ _ h => h) (Or.inl ⟨by rfl, ?_⟩) hS0 ?_
          rotate_left
          · intro u hSu; obtain ⟨s0, s1⟩ := hSu; go_simp <;> with_reducible rfl
          simp only [Act.put, List.getElem_toArray, List.getElem_cons_zero, List.setIfInBounds_toArray, List.set_cons_zero, List.set_cons_succ]
          refine anyU_take (i := 1) (v := ?_) rfl (by kernel_rfl) (by kernel_rfl) (by kernel_rfl) (by kernel_rfl) (fun _ _ _ h => h) (Or.inl ⟨by rfl, ?_⟩) hS0 ?_
          rotate_left
          · intro u hSu; obtain ⟨s0, s1⟩ := hSu; go_simp <;> with_reducible rfl
          simp only [Act.put, List.getElem_toArray, List.getElem_cons_zero, List.getElem_cons_succ, List.setIfInBounds_toArray, List.set_cons_zero, List.set_cons_succ]
          refine anyU_take (i := 2) (v := ?_) rfl (by kernel_rfl) (by kernel_rfl) (by kernel_rfl) (by kernel_rfl) (fun _ _ _ h => h) (Or.inl ⟨by rfl, ?_⟩) hS0 ?_
          rotate_left
          · intro u hSu; obtain ⟨s0, s1⟩ := hSu; go_simp <;> with_reducible rfl
          simp only [Act.put, List.getElem_toArray, List.getElem_cons_zero, List.getElem_cons_succ, List.setIfInBounds_toArray, List.set_cons_zero, List.set_cons_succ]
          refine anyU_take (i := 3) (v := ?_) rfl (by kernel_rfl) (by kernel_rfl) (by kernel_rfl) (by kernel_rfl) (fun _ _ _ h => h) (Or.inl ⟨by rfl, ?_⟩) hS0 ?_
          rotate_left
          · intro u hSu; obtain ⟨s0, s1⟩ := hSu; go_simp <;> with_reducible rfl
          simp only [Act.put, List.getElem_toArray, List.getElem_cons_zero, List.getElem_cons_succ, List.setIfInBounds_toArray, List.set_cons_zero, List.set_cons_succ]
          refine anyU_take (i := 4) (v := ?_) rfl (by kernel_rfl) (by kernel_rfl) (by kernel_rfl) (by kernel_rfl) (fun _ _ _ h => h) (Or.inl ⟨by rfl, ?_⟩) hS0 ?_
          rotate_left
          · intro u hSu; obtain ⟨s0, s1⟩ := hSu; go_simp <;> with_reducible rfl
          simp only [Act.put, List.getElem_toArray, List.getElem_cons_zero, List.getElem_cons_succ, List.setIfInBounds_toArray, List.set_cons_zero, List.set_cons_succ]
          refine anyU_take (i := 5) (v := ?_) rfl (by kernel_rfl) (by kernel_rfl) (by kernel_rfl) (by kernel_rfl) (fun _ _ _ h => h) (Or.inl ⟨by rfl, ?_⟩) hS0 ?_
          rotate_left
          · intro u hSu; obtain ⟨s0, s1⟩ := hSu; go_simp <;> with_reducible rfl
          simp only [Act.put, List.getElem_toArray, List.getElem_cons_zero, List.getElem_cons_succ, List.setIfInBounds_toArray, List.set_cons_zero, List.set_cons_succ]
          refine anyU_one (i := 6) (by kernel_rfl) rfl (fun K hK => ?_)
          go_simp
          rw [show (64 : Nat) = n.bytes.length from hn64.out.symm]
          refine (bytesClone_any Q 1 n.bytes.length n.bytes _ (by rw [hn64.out]; decide) (by rw [hn64.out]; decide) (hby2.grow (gdr (gre _)))).mono ?_
          rintro e w2 ⟨G, gcap, rfl, hG, hGr, hb2⟩
          have hD2 := hDA.grow (gca (gdr (gre wC)) hb2)
          have hS2 := hSk _ _ hb2 hS0
          refine hK.out _ _ hS2 ?_
          clear hK
          refine anyU_one (i := 7) (by kernel_rfl) rfl (fun K hK => ?_)
          go_simp
          refine hK.out _ _ hS2 ?_
          clear hK
          have hB3 := gal (gre w2) (.cells #[.int .i64 n.block, .slice (some ⟨G, 0, none⟩) n.bytes.length gcap] 125)
          have hS3 := hSk _ _ hB3 hS2
          have hS3' : Hid _ := hS3
          clear hS3
          refine anyU_one (i := 8) (by kernel_rfl) rfl (fun K hK => ?_)
          go_simp
          refine hK.out _ _ hS3'.out ?_
          clear hK
          have hD3 := hD2.grow hB3
          have hsz3 : (w2.alloc (.cells #[.int .i64 n.block, .slice (some ⟨G, 0, none⟩) n.bytes.length gcap] 125)).heap.size = w2.heap.size + 1 := by simp
          have hnew := World.news_of_block (cs := #[.int .i64 n.block, .slice (some ⟨G, 0, none⟩) n.bytes.length gcap]) (t := 125) (fr := (0, 0)) (blk_new_at w2 (.cells #[.int .i64 n.block, .slice (some ⟨G, 0, none⟩) n.bytes.length gcap] 125) _ rfl)
          have hGr3 := hGr.of_block (hB3.block _ hGr.lt)
          have hGl := hGr.lt
          have hlw := hll.out
          have hVs := World.block_lt_of_cell? wC ⟨V, 0, none⟩ hDA.dk.v0
          have hs2 := hb2.size
          have hsD : wC.drew.heap.size = wC.heap.size := rfl
          generalize w2.alloc (.cells #[.int .i64 n.block, .slice (some ⟨G, 0, none⟩) n.bytes.length gcap] 125) = w3' at hB3 hS3' hD3 hsz3 hnew hGr3 ⊢
          refine anyU_one (i := 9) (by kernel_rfl) rfl (fun K hK => ?_)
          refine step_append_lies _ (by rfl) (.tmp 35) (.tmp 42) 44 rfl (V + 1) 125 j0 _ 2 32 Tryz.underlying44 hj hy0 hy1 hy2 rfl (by decide) (.slice va lw.length vc) lw.length (wCells lw) (by rfl) hD3.own ⟨w2.heap.size, 0, none⟩ 1 1 [.int .i64 n.block, .slice (some ⟨G, 0, none⟩) n.bytes.length gcap] (by rfl) rfl hnew (by simp [Value.oneCell']) (by decide) (by unfold maxLen; omega) (by omega) (by simp at hVs; omega) (w2.heap.size + 1) hsz3 ?_
          intro gg cc w5 hown5 hgrow5 hat5 hlt5
          have hst := hD3.step hGr3 (by simp at hVs; omega) (fun j hj => by have := (hDA.dk.fs j hj).2.1.lt; omega) (fun j hj => by have := (hDA.byt j hj).2.1.lt; omega) hown5 hgrow5
          have K5 := Kept.of_grown hgrow5
          have hz : ∀ z, (Value.slice va lw.length vc).ownBlock = some z → IsW wr z ∧ V + 1 ≤ z := fun z hz => owns_isW hD.own hz
          have hS5 : w5.cell? ⟨V, 1, none⟩ = some (.slice va lw.length vc) ∧ w5.cell? ⟨Q, 0, none⟩ = some (.int .i64 n.block) := ⟨K5.cell hS3'.out.1 (fun e => by have := (hz _ e).2; omega), K5.cell hS3'.out.2 (fun e => by obtain ⟨c, hc⟩ := (hz _ e).1; have := (Array.getElem?_eq_some_iff.1 hc).1; omega)⟩
          have vf5 : ∀ o, w5.frozen? ⟨V, o, none⟩ = false := fun o => by have := hst.dk.vf o; rwa [World.frozen?_setCell] at this
          refine hK.out _ _ hS5 ?_
          clear hK
          simp only [Act.put, List.getElem_toArray, List.getElem_cons_zero, List.getElem_cons_succ, List.setIfInBounds_toArray, List.set_cons_zero, List.set_cons_succ]
          refine anyU_one (i := 10) (by kernel_rfl) rfl (fun K hK => ?_)
          go_simp
          refine hK.out _ _ hS5 ?_
          clear hK
          obtain ⟨v5, _⟩ := id hS5
          refine anyU_last (by kernel_rfl) rfl (by kernel_rfl) (fun K hK => ?_)
          go_simp
          refine hK.out _ _ ?_
          clear hK
          go_wp2
          go_roundw
          case rel => exact ⟨k + 1, by omega, by go_num, some ⟨gg, 0, none⟩, cc, lw ++ [⟨n, some ⟨G, 0, none⟩, gcap⟩], _, by show _ = _; rw [List.length_append, hlw]; rfl, by show _ = _; rw [List.map_append, hlm.out, take_snoc _ _ hlt, ← hn.out]; rfl, by rw [hlw] at hst; exact hst⟩
          case measure => simp [intOf]; omega
        · obtain rfl : k = ws.length := by omega
          rw [List.take_length] at hlm
          have y0 := hD.dk.v0
          have y1 := hD.dk.v1
          have z0 := cell_later hD.dk.bel r0
          have z1 := cell_later hD.dk.bel r1
          have zf : ∀ o, wr.frozen? ⟨R, o, none⟩ = false := fun o => (hD.dk.bel.frozen (p := ⟨R, o, none⟩) (by show R < w1.heap.size; omega)).trans (rf o)
          have hmd := hD.md hlen h64
          rw [hlm.out] at hmd
          have K := ((Kept.refl (fun b => b = R) wr).set (a := ⟨R, 0, none⟩) (fun _ => rfl) (.slice (some ⟨N, 0, none⟩) 130 130)).set (a := ⟨R, 1, none⟩) (fun _ => rfl) (.slice va lw.length vc)
          have hmd2 := (hmd.out K (fun b hb _ e => by omega)).mono (lo' := w.heap.size) (hi' := ((wr.setCell ⟨R, 0, none⟩ (.slice (some ⟨N, 0, none⟩) 130 130)).setCell ⟨R, 1, none⟩ (.slice va lw.length vc)).heap.size) (by omega) K.size
          have hbel : Below w.heap.size w ((wr.setCell ⟨R, 0, none⟩ (.slice (some ⟨N, 0, none⟩) 130 130)).setCell ⟨R, 1, none⟩ (.slice va lw.length vc)) := gse (gse (gca hw1 hD.dk.bel) (by show w.heap.size ≤ R; omega) _) (by show w.heap.size ≤ R; omega) _
          have c0 := World.cell?_setCell_same wr ⟨R, 0, none⟩ (.slice (some ⟨N, 0, none⟩) 130 130) z0
          have c1 := World.cell?_setCell_same (wr.setCell ⟨R, 0, none⟩ (.slice (some ⟨N, 0, none⟩) 130 130)) ⟨R, 1, none⟩ (.slice va lw.length vc) ((World.cell?_setCell_other wr ⟨R, 0, none⟩ ⟨R, 1, none⟩ (.slice (some ⟨N, 0, none⟩) 130 130) (by simp)).trans z1)
          clear hmd hW0 K hlen h64
          go_wp2
          refine bodyPost_ret (v := .agg #[.slice (some ⟨N, 0, none⟩) 130 130, .slice va lw.length vc]) (by simp [results, Tryz.results57, go_sem, c0, c1]) rfl ⟨⟨some ⟨N, 0, none⟩, 130, va, vc⟩, _, _, _, _, ?_, hmd2, hbel⟩
          rw [DD.val, hll.out, h.d.len]

end Go.Proofs.YtmdpmdmilgbfiaaGreatDoor

namespace Go.Proofs.YtmdpmdmilgbfiaaGreatDoor
open Go.RowKit

def DPost (d : DD) (w : World) (e : Ending) (w' : World) : Prop := ∃ l fa ga fc gc, e = .returned (d.val l) ∧ MD w' w.heap.size w'.heap.size l d fa ga fc gc ∧ Below w.heap.size w w'

theorem MD.last {w w' : World} {lo hi R : Nat} {l : DL} {d : DD} {fa ga : Nat → Option Addr} {fc gc : Nat → Nat} (h : MD w lo hi l d fa ga fc gc) (K : Kept (fun b => b = R) w w') (hR : R < lo) {lo' : Nat} (h1 : lo' ≤ lo) (h2 : hi ≤ w'.heap.size) : MD w' lo' w'.heap.size l d fa ga fc gc :=
  (h.out K (fun b hb _ e => by omega)).mono h1 h2

theorem ret2 {w : World} {R : Nat} {A B va vb : Value} (z0 : w.cell? ⟨R, 0, none⟩ = some va) (z1 : w.cell? ⟨R, 1, none⟩ = some vb) :
    (w.setCell ⟨R, 0, none⟩ A).cell? ⟨R, 0, none⟩ = some A ∧ ((w.setCell ⟨R, 0, none⟩ A).setCell ⟨R, 1, none⟩ B).cell? ⟨R, 1, none⟩ = some B ∧ Kept (fun b => b = R) w ((w.setCell ⟨R, 0, none⟩ A).setCell ⟨R, 1, none⟩ B) :=
  ⟨World.cell?_setCell_same _ _ _ z0, World.cell?_setCell_same _ _ _ ((World.cell?_setCell_other _ _ _ _ (by simp)).trans z1), ((Kept.refl (fun b => b = R) w).set (a := ⟨R, 0, none⟩) (fun _ => rfl) A).set (a := ⟨R, 1, none⟩) (fun _ => rfl) B⟩

end Go.Proofs.YtmdpmdmilgbfiaaGreatDoor

namespace Go.Proofs.YtmdpmdmilgbfiaaGreatDoor
open Go.RowKit

def SBPost (d : DD) (w : World) (e : Ending) (w' : World) : Prop := ∃ l, e = .returned (d.val l) ∧ DAt w' l d ∧ Below w.heap.size w w'

def BOwn (w : World) (e : Ending) (w' : World) : Prop := ∃ (lb : List LB) (ba : Option Addr) (bc : Nat), e = .returned (blankD.val ⟨ba, bc, none, 0⟩) ∧ lb.map (·.l) = blankD.blocks ∧ SB w.heap.size w' ba bc lb ∧ Below w.heap.size w w'

def BInv (w wr : World) (R V k : Nat) : Prop := ∃ (lb : List LB) (ba : Option Addr) (bc : Nat), Hid (lb.length = k) ∧ Hid (lb.map (·.l) = List.replicate k (List.replicate 64 0)) ∧ SB (V + 1) wr ba bc lb ∧ VB wr V (.slice ba lb.length bc) (.slice none 0 0) ∧ VB wr R (.slice none 0 0) (.slice none 0 0) ∧ Below w.heap.size w wr

theorem owns_made {w : World} {base n : Nat} (hb : base ≤ w.heap.size) (hn : n ≤ maxLen) : (w.alloc (.cells (madeCells #[.int .u8 0] n) 5)).ownsRow base 5 1 (.slice (some ⟨w.heap.size, 0, none⟩) n n) n (bcells (List.replicate n 0)) := by
  refine ⟨by simp [bcells], Or.inr ⟨w.heap.size, n, _, rfl, hb, blk_new_at _ _ _ rfl, Nat.le_refl _, hn, by rw [size_madeCells]; omega, ?_⟩⟩
  apply List.ext_getElem?
  intro i
  by_cases hi : i < n
  · rw [List.getElem?_take_of_lt (by omega), Array.getElem?_toList]
    simp [madeCells, bcells, hi, Nat.mod_one]
  · rw [List.getElem?_eq_none (by simp; omega), List.getElem?_eq_none (by simp [bcells]; omega)]

theorem SB.leB {base base' : Nat} {w : World} {ba : Option Addr} {bc : Nat} {lb : List LB} (h : SB base w ba bc lb) (hb : base' ≤ base) : SB base' w ba bc lb := ⟨owns_le h.own hb, fun y hy => owns_le (h.byt y hy) hb⟩

end Go.Proofs.YtmdpmdmilgbfiaaGreatDoor
