import Derived.Laws.EntriesVeiled
import Derived.Test.YthjddpkegooobabPartRdF

/-
  DPOW2: the power goes, and some is kept. Own work.
-/
namespace Go.Proofs.Ythjddpkegooobab
open Go.RowKit

theorem BoolsAt.below {w w' : World} {a : Option Addr} {ks : List Bool} {p : Nat} (h : BoolsAt w a ks) (hb : Below p w w') (hp : ∀ b off, a = some ⟨b, off, none⟩ → 0 < ks.length → b < p) : BoolsAt w' a ks := fun i hi => by
  obtain ⟨b, off, ha, hc⟩ := h i hi
  exact ⟨b, off, ha, (World.cell?_of_block (w := w) (hb.block b (hp b off ha (by omega)))).trans hc⟩

set_option maxHeartbeats 4000000 in
set_option maxRecDepth 100000 in
theorem powerCrash_any (p : Nat) (bl : List (List Nat)) (pa : Option Addr) (pc : Nat) (ws : List DW) (K : Nat) (ka : Option Addr) (ks : List Bool) (kc : Nat) (w : World) (hw : ws.length ≤ 201) (hwb : ∀ x, x ∈ ws → 0 ≤ x.block ∧ x.block < 130) (hkl : ks.length ≤ maxLen) (hKp : K < p) (hKc0 : w.cell? ⟨K, 0, none⟩ = some (.slice ka ks.length kc)) (hKb0 : BoolsAt w ka ks) (hkp0 : ∀ b off, ka = some ⟨b, off, none⟩ → 0 < ks.length → b < p) (h : Dr w p bl pa pc ws (.func (.func 112) #[] #[.pointer (some ⟨K, 0, none⟩)])) :
    Calls Try.prog 113 #[.pointer (some ⟨p, 0, none⟩)] w fun e w' => e = .returned (.tuple #[]) ∧ Dr w' p (settleN (keepOf ks) bl ws ws.length) none 0 [] (.func (.func 112) #[] #[.pointer (some ⟨K, 0, none⟩)]) ∧ Below p w w' := by
  have hz65 := (zero_of_info zero_pending).1
  have x0 := h.d.ws
  have hpl0 := h.d.lt
  go_enter Try.func113, Try.ntmps113
  go_wp2
  go_loopw [9] (fun i wr => ∃ k : Nat, k ≤ ws.length ∧ i = .int .i64 k ∧ Dr wr p (settleN (keepOf ks) bl ws k) pa pc ws (.func (.func 112) #[] #[.pointer (some ⟨K, 0, none⟩)]) ∧ Below p w wr) (fun i _ => ws.length - (intOf i).toNat)
  case atStart => exact ⟨0, Nat.zero_le _, rfl, h, Below.refl _ _⟩
  case round =>
    obtain ⟨k, hk, rfl, hD, hb⟩ := hrel
    clear x0
    by_cases hlt : k < ws.length
    · obtain ⟨g, rfl, hg1, hgl, hrg⟩ := owns_pend hD.own hD.w64 hlt
      obtain ⟨n, hn⟩ := hid_ex ws[k]!
      rw [← hn.out] at hrg
      have hnm : n ∈ ws := by rw [hn.out]; exact mem_at hlt
      have hn64 : Hid (n.bytes.length = 64) := h.w64 _ hnm
      have hpl : n.pc.length = 65 := pc_length hn64.out
      have hbl64 : (bcells n.bytes).length = 64 := by rw [bcells_length]; exact hn64.out
      obtain ⟨hn0, hn1⟩ := hwb n hnm
      obtain ⟨m, hm⟩ : ∃ m : Nat, n.block = (m : Int) := ⟨n.block.toNat, by omega⟩
      have i0 : (0 : Int) ≤ (k : Int) := by omega
      have i1 : (k : Int) < (ws.length : Int) := by omega
      go_upto_region 3 with (first
        | (refine wpList_load_mid rfl 184 _ rfl g (k * 65) rfl n.pc _ hrg Try.underlying184 rfl (by rw [size_pending, hpl]) ?_)
        | (refine wpList_alloc_big rfl 184 rfl _ hz65 ?_)
        | (refine wpList_store_new rfl 184 _ _ rfl _ n.pc.toArray rfl rfl (by rw [size_pending]; simp [hpl]) (by simp [zeros, hpl]) (all_oneCell_toArray pc_one) ?_))
      have hDA := hD.grow (gal (gre wr) (.cells n.pc.toArray 184))
      have hbA : Below p w (wr.alloc (.cells n.pc.toArray 184)) := hb.alloc (by have := hD.d.lt; omega) _
      have hrn := range_new wr n.pc 184
      have hr1 : (wr.alloc (.cells n.pc.toArray 184)).rangeAt wr.heap.size 1 (bcells n.bytes) := range_drop (cs := [.int .i64 n.block]) hrn
      have hq1 : (wr.alloc (.cells n.pc.toArray 184)).cell? ⟨wr.heap.size, 0, none⟩ = some (.int .i64 (m : Int)) := by rw [← hm]; exact hrn 0 _ rfl
      have hsC : (wr.alloc (.cells n.pc.toArray 184)).heap.size = wr.heap.size + 1 := by simp
      generalize wr.alloc (.cells n.pc.toArray 184) = wC at hDA hbA hr1 hq1 hsC ⊢
      clear hrn hrg
      generalize wr.heap.size = Q at hr1 hq1 hsC hgl ⊢
      have kf := hDA.d.kf
      have hm130 : m < 130 := by omega
      have j0 : (0 : Int) ≤ (m : Int) := by omega
      have j1 : (m : Int) < 130 := by omega
      have hmt : n.block.toNat = m := by omega
      have hmt' : Hid _ := hmt
      have hm' : Hid _ := hm
      have hn0' : Hid _ := hn0
      have hn1' : Hid _ := hn1
      clear hmt hm hn0 hn1
      have hKc : wC.cell? ⟨K, 0, none⟩ = some (.slice ka ks.length kc) := (World.cell?_of_block (w := w) (hbA.block K hKp)).trans hKc0
      have hKb : BoolsAt wC ka ks := hKb0.below hbA hkp0
      cases hkp : (keepOf ks) k with
      | true =>
        have hkp' : Hid _ := hkp
        have hst : Hid (settleN (keepOf ks) bl ws (k + 1) = setB (settleN (keepOf ks) bl ws k) n) := by show _ = _; simp only [settleN]; rw [if_pos hkp, ← hn.out]
        clear hkp
        go_upto_region 4 with (go_at_call 112; refine (crashKeeps_any k K ka ks kc _ (by omega) hkl hKc hKb).mono ?_; rintro e w2 ⟨rfl, hb2⟩; obtain ⟨hD2, hb2A, hq2, hr2⟩ : Dr w2 p (settleN (keepOf ks) bl ws k) (some ⟨g, 0, none⟩) pc ws (.func (.func 112) #[] #[.pointer (some ⟨K, 0, none⟩)]) ∧ Below p w w2 ∧ w2.cell? ⟨Q, 0, none⟩ = some (.int .i64 (m : Int)) ∧ w2.rangeAt Q 1 (bcells n.bytes) := ⟨hDA.grow hb2, hbA.trans (hb2.mono (by have := hDA.d.lt; omega)), cell_later hb2 hq1, range_grow hr1 hb2⟩; rw [hkp'.out])
        refine wp_regionU (fun u => u.cell? ⟨Q, 0, none⟩ = some (.int .i64 (m : Int)) ∧ u.rangeAt Q 1 (bcells n.bytes)) 8 (by kernel_rfl) ⟨hq2, hr2⟩ (fun hS0 => ?_)
        refine anyU_take (i := 0) (v := ?_) rfl (by kernel_rfl) (by kernel_rfl) (by kernel_rfl) (by kernel_rfl) (fun _ _ _ h => h) (Or.inl ⟨by rfl, ?_⟩) hS0 ?_
        rotate_left
        · intro u hSu; obtain ⟨s0, s1⟩ := hSu; go_simp <;> with_reducible rfl
        simp only [Act.put, List.getElem_toArray, List.getElem_cons_zero, List.setIfInBounds_toArray, List.set_cons_zero, List.set_cons_succ]
        refine anyU_take (i := 1) (v := ?_) rfl (by kernel_rfl) (by kernel_rfl) (by kernel_rfl) (by kernel_rfl) (fun _ _ _ h => h) (Or.inl ⟨by rfl, ?_⟩) hS0 ?_
        rotate_left
        · intro u hSu; obtain ⟨s0, s1⟩ := hSu; go_simp <;> with_reducible rfl
        simp only [Act.put, List.getElem_toArray, List.getElem_cons_zero, List.getElem_cons_succ, List.setIfInBounds_toArray, List.set_cons_zero, List.set_cons_succ]
        refine anyU_take (i := 2) (v := ?_) rfl (by kernel_rfl) (by kernel_rfl) (by kernel_rfl) (by kernel_rfl) (fun _ _ _ h => h) (Or.inl ⟨by rfl, ?_⟩) hS0 ?_
        rotate_left
        · intro u hSu; obtain ⟨s0, s1⟩ := hSu; go_simp <;> with_reducible rfl
        simp only [Act.put, List.getElem_toArray, List.getElem_cons_zero, List.getElem_cons_succ, List.setIfInBounds_toArray, List.set_cons_zero, List.set_cons_succ]
        refine anyU_take (i := 3) (v := ?_) rfl (by kernel_rfl) (by kernel_rfl) (by kernel_rfl) (by kernel_rfl) (fun _ _ _ h => h) (Or.inl ⟨by rfl, ?_⟩) hS0 ?_
        rotate_left
        · intro u hSu; obtain ⟨s0, s1⟩ := hSu; go_simp <;> with_reducible rfl
        simp only [Act.put, List.getElem_toArray, List.getElem_cons_zero, List.getElem_cons_succ, List.setIfInBounds_toArray, List.set_cons_zero, List.set_cons_succ]
        refine anyU_take (i := 4) rfl (by kernel_rfl) (by kernel_rfl) (by kernel_rfl) (by kernel_rfl) (fun _ _ _ h => h) (yieldsIf_load_mid (by rfl) 121 (.tmp 23) rfl Q 1 (by rfl) (bcells n.bytes) _ (fun _ hS => hS.2) Try.underlying121 rfl (by rw [size_content, hbl64])) hS0 ?_
        simp only [Act.put, List.getElem_toArray, List.getElem_cons_zero, List.getElem_cons_succ, List.setIfInBounds_toArray, List.set_cons_zero, List.set_cons_succ]
        obtain ⟨s0, s1⟩ := id hS0
        refine anyU_one (i := 5) (by kernel_rfl) rfl (fun K hK => ?_)
        go_simp
        refine hK.out _ _ hS0 ?_
        clear hK
        refine anyU_one (i := 6) (by kernel_rfl) rfl (fun K hK => ?_)
        go_simp
        refine hK.out _ _ hS0 ?_
        clear hK
        refine anyU_one (i := 7) (by kernel_rfl) rfl (fun K hK => ?_)
        go_simp
        refine hK.out _ _ hS0 ?_
        clear hK
        refine anyU_last (by kernel_rfl) rfl (by kernel_rfl) (fun K hK => ?_)
        rw [if_pos (by rfl)]
        refine wp_store_mid 121 (.tmp 27) (.tmp 24) rfl p (m * 64) (bcells n.bytes).toArray (by rfl) (by rfl) (by rw [List.size_toArray, hbl64]; exact there_part (hD2.d.grow (gdr (gre w2))).th (Nat.zero_le _) (by omega)) (by rw [size_content, List.size_toArray, hbl64]) (all_oneCell_toArray cells_u8) ?_
        refine hK.out _ _ ?_
        clear hK
        simp only [Act.put, List.getElem_toArray, List.getElem_cons_zero, List.getElem_cons_succ]
        have hfin := (hD2.d.grow (gdr (gre w2))).setB (x := n) hn0'.out hn1'.out hn64.out
        rw [hmt'.out, ← hst.out] at hfin
        have hKs := Kept.setCells (p := fun z => z = p) (bcells n.bytes) (m * 64) (Kept.refl _ w2.drew) (fun _ => rfl)
        go_wp2
        go_roundw
        case rel => exact ⟨k + 1, by omega, by go_num, ⟨hfin, hKs.owns (hD2.grow (gdr (gre w2))).own (fun z hz e => by have := (hD2.own.lt z hz).1; omega), h.w64⟩, (hb2A.trans (gdr (gre w2) |>.mono (by have := hD2.d.lt; omega))).trans (hKs.below (by have := hD2.d.lt; show p ≤ w2.heap.size; omega) (fun z hz e => by omega))⟩
        case measure => simp [intOf]; omega
      | false =>
        have hkp' : Hid _ := hkp
        have hst : Hid (settleN (keepOf ks) bl ws (k + 1) = settleN (keepOf ks) bl ws k) := by show _ = _; simp only [settleN]; rw [if_neg (by rw [hkp]; exact Bool.false_ne_true)]
        clear hkp
        go_wp2_with (go_at_call 112; refine (crashKeeps_any k K ka ks kc _ (by omega) hkl hKc hKb).mono ?_; rintro e w2 ⟨rfl, hb2⟩; rw [hkp'.out])
        go_roundw
        case rel => exact ⟨k + 1, by omega, by go_num, by rw [hst.out]; exact hDA.grow hb2, hbA.trans (hb2.mono (by have := hDA.d.lt; omega))⟩
        case measure => simp [intOf]; omega
    · obtain rfl : k = ws.length := by omega
      have x0 := hD.d.ws
      have xf := hD.d.frozen (o := 8320) (by decide)
      have hfin := hD.d.setW (.slice none 0 0)
      go_wp2
      first | go_end0 | refine bodyPost_ret (results_none rfl _ _ _) rfl ?_
      exact ⟨rfl, ⟨hfin, owns_none _ _ _ _, fun x hx => (by cases hx)⟩, hb.trans ((Kept.one wr p 8320 _).below (by have := hD.d.lt; omega) (fun z hz e => by omega))⟩

end Go.Proofs.Ythjddpkegooobab

/-
  IBLANK: the program's Blank. Own work.
-/
namespace Go.Proofs.Ythjddpkegooobab
open Go.RowKit

set_option maxRecDepth 100000 in
theorem implBlank_any (w : World) : Calls Try.prog 31 #[] w (DPost blankD w) := by
  obtain ⟨Z, hZ⟩ := hid_ex driveZ.toArray
  have hz : ∀ u, (zeroValue 126).run Try.prog u = .ok (.agg Z) u := by rw [hZ.out]; exact (zero_of_info zero_drive).1
  have hw1 := gal (gre w) (.cells #[.slice none 0 0, .slice none 0 0] 50)
  have hs1 : (w.alloc (.cells #[.slice none 0 0, .slice none 0 0] 50)).heap.size = w.heap.size + 1 := by simp
  have r0 : (w.alloc (.cells #[.slice none 0 0, .slice none 0 0] 50)).cell? ⟨w.heap.size, 0, none⟩ = some (.slice none 0 0) := by simp
  have r1 : (w.alloc (.cells #[.slice none 0 0, .slice none 0 0] 50)).cell? ⟨w.heap.size, 1, none⟩ = some (.slice none 0 0) := by simp
  have rf : ∀ o, (w.alloc (.cells #[.slice none 0 0, .slice none 0 0] 50)).frozen? ⟨w.heap.size, o, none⟩ = false := fun o => by simp
  have hN0 := Drv.new (w.alloc (.cells #[.slice none 0 0, .slice none 0 0] 50))
  rw [← hZ.out, hs1] at hN0
  have hD0 : Dr _ (w.heap.size + 1) blankD.blocks none 0 [] .nilFunc := ⟨hN0, owns_none _ _ _ _, fun x hx => by cases hx⟩
  go_enter Try.func31, Try.ntmps31
  go_wp2_with (first
    | (refine wpList_alloc_big rfl 126 rfl Z hz ?_)
    | (go_at_call 90; refine (disk_any (w.heap.size + 1) blankD.blocks none 0 [] .nilFunc _ (by decide) hD0).mono ?_; rintro e w2 ⟨l, fa, ga, fc, gc, rfl, hmd, hb2⟩; have hb3 := gca (gal (gre _) (.cells Z 126)) hb2; have z0 := cell_later hb3 r0; have z1 := cell_later hb3 r1; have zf : ∀ o, w2.frozen? ⟨w.heap.size, o, none⟩ = false := (fun o => (hb3.frozen (p := ⟨w.heap.size, o, none⟩) (by show w.heap.size < _; omega)).trans (rf o))))
  obtain ⟨c0, c1, K⟩ := ret2 (A := .slice l.ba blankD.blocks.length l.bc) (B := .slice l.wa 0 l.wc) z0 z1
  refine bodyPost_ret (v := blankD.val l) (by simp [results, Try.results31, go_sem, c0, c1]; rfl) rfl ⟨l, fa, ga, fc, gc, rfl, MD.last (d := blankD) hmd K (by simp; omega) (by simp; omega) K.size, ?_⟩
  exact (gca hw1 hb3).trans (K.below (by have := hb3.size; omega) (fun z hz e => by omega))

end Go.Proofs.Ythjddpkegooobab

/-
  ICRASH: the program's Crash. Own work.
-/
namespace Go.Proofs.Ythjddpkegooobab
open Go.RowKit

set_option maxHeartbeats 1000000 in
set_option maxRecDepth 100000 in
theorem implCrash_any (d : DD) (l : DL) (ka : Option Addr) (ks : List Bool) (kc : Nat) (w : World) (hd : d.Ok) (ha : DAt w l d) (hkl : ks.length ≤ maxLen) (hk0 : BoolsAt w ka ks) : Calls Try.prog 47 #[d.val l, .slice ka ks.length kc] w (DPost (d.settle (keepOf ks)) w) := by
  have hmf : ∀ (fn : Fn) (first cap : Array Value) (w : World), (Instr.makeFunc fn first cap).run Try.prog w = .ok (.func fn first cap) w := fun _ _ _ _ => rfl
  have hA := gal (gal (gal (gre w) (.cells #[.slice l.ba d.blocks.length l.bc, .slice l.wa d.waiting.length l.wc] 50)) (.cells #[.slice ka ks.length kc] 67)) (.cells #[.slice none 0 0, .slice none 0 0] 50)
  have hX0 := (DBox.new w d l 50).grow (gal (gal (gre _) (.cells #[.slice ka ks.length kc] 67)) (.cells #[.slice none 0 0, .slice none 0 0] 50))
  have hR0 := VB.new_at ((w.alloc (.cells #[.slice l.ba d.blocks.length l.bc, .slice l.wa d.waiting.length l.wc] 50)).alloc (.cells #[.slice ka ks.length kc] 67)) (.slice none 0 0) (.slice none 0 0) 50 (w.heap.size + 1 + 1) (by simp)
  have hK0 : (((w.alloc (.cells #[.slice l.ba d.blocks.length l.bc, .slice l.wa d.waiting.length l.wc] 50)).alloc (.cells #[.slice ka ks.length kc] 67)).alloc (.cells #[.slice none 0 0, .slice none 0 0] 50)).cell? ⟨w.heap.size + 1, 0, none⟩ = some (.slice ka ks.length kc) := by
    have e1 : (w.alloc (.cells #[.slice l.ba d.blocks.length l.bc, .slice l.wa d.waiting.length l.wc] 50)).heap.size = w.heap.size + 1 := by simp
    refine cell_later (gal (gre _) _) ?_
    rw [← e1]; simp
  have hkf0 : ∀ b off, ka = some ⟨b, off, none⟩ → 0 < ks.length → b < w.heap.size := fun b off e h0 => by
    obtain ⟨b', off', e', hc'⟩ := hk0 0 h0
    have h1 := World.block_lt_of_cell? _ _ hc'
    rw [e] at e'
    have h2 := congrArg (fun q => q.map Addr.block) e'
    simp at h1 h2
    omega
  cases hok : d.ok with
  | false =>
    have hok' : Hid _ := hok
    clear hok
    rw [settle_no hok'.out]
    go_enter Try.func47, Try.ntmps47
    go_wp2_with (go_at_call 38; refine (implDiskOk_any d l _ hd (ha.grow hA)).mono ?_; rintro e w2 ⟨rfl, hb2⟩; rw [hok'.out]; obtain ⟨z0, z1, zf⟩ := hR0.grow hb2)
    obtain ⟨c0, c1, K⟩ := ret2 (A := .slice none 0 0) (B := .slice none 0 0) z0 z1
    refine bodyPost_ret (v := .agg #[.slice none 0 0, .slice none 0 0]) (by simp [results, Try.results47, go_sem, c0, c1]) rfl (DPost.zero ?_)
    exact (gca hA hb2).trans (K.below (gca hA hb2).size (fun z hz e => by omega))
  | true =>
    have hok' : Hid _ := hok
    clear hok
    have hfit := DD.fit hok'.out
    rw [settle_yes hok'.out]
    obtain ⟨d', hd'⟩ := hid_ex (DD.mk (settleN (keepOf ks) d.blocks d.waiting d.waiting.length) [])
    rw [← hd'.out]
    go_enter Try.func47, Try.ntmps47
    go_upto_region 4 with (first
      | (go_at_call 38; refine (implDiskOk_any d l _ hd (ha.grow hA)).mono ?_; rintro e w2 ⟨rfl, hb2⟩; rw [hok'.out]; obtain ⟨_, x0, x1⟩ := hX0.grow hb2)
      | (go_at_call 104; refine (driveOf_any d l _ hfit (ha.grow (gca hA hb2))).mono ?_; rintro e w3 ⟨p, pa, pc, rfl, hp3, hDr, hb3⟩))
    have hR3 := (hR0.grow hb2).grow hb3
    have hb3A := gca (gca hA hb2) hb3
    have hRp : w.heap.size + 1 + 1 < p := by have := (hR0.grow hb2).lt; omega
    have hwp : w.heap.size ≤ p := by have := (gca hA hb2).size; omega
    have hkp : ∀ b off, ka = some ⟨b, off, none⟩ → 0 < ks.length → b < p := fun b off e h0 => Nat.lt_of_lt_of_le (hkf0 b off e h0) hwp
    have kf := hDr.d.kf
    have kz := hDr.d.frozen (o := 8321) (by decide)
    have hKc3 := cell_later hb3 (cell_later hb2 hK0)
    have hKb3 := hk0.grow hb3A
    go_upto_region 5 with fail
    have hD4 := hDr.d.setK (.func (.func 112) #[] #[.pointer (some ⟨w.heap.size + 1, 0, none⟩)])
    have K4 := Kept.one w3 p 8321 (.func (.func 112) #[] #[.pointer (some ⟨w.heap.size + 1, 0, none⟩)])
    have hO4 := K4.owns hDr.own (fun z hz e => by have := (hDr.own.lt z hz).1; omega)
    have hR4 := hR3.kept K4 (by omega)
    have hb4 := hb3A.trans (K4.below hb3A.size (fun z hz e => by omega))
    have hDr4 : Dr (w3.setCell ⟨p, 8321, none⟩ (.func (.func 112) #[] #[.pointer (some ⟨w.heap.size + 1, 0, none⟩)])) p d.blocks pa pc d.waiting (.func (.func 112) #[] #[.pointer (some ⟨w.heap.size + 1, 0, none⟩)]) := ⟨hD4, hO4, hDr.w64⟩
    have hKc4 := K4.cell hKc3 (by omega)
    have hKb4 : BoolsAt _ ka ks := hKb3.below (K4.below (B := p) (Nat.le_of_lt hDr.d.lt) (fun z hz e => by omega)) hkp
    generalize w3.setCell ⟨p, 8321, none⟩ (.func (.func 112) #[] #[.pointer (some ⟨w.heap.size + 1, 0, none⟩)]) = w4 at hD4 K4 hO4 hR4 hb4 hDr4 hKc4 hKb4 ⊢
    clear hD4 K4 hO4 hDr kf kz hR3 hb3A
    go_upto_region 6 with (go_at_call 113; refine (powerCrash_any p d.blocks pa pc d.waiting (w.heap.size + 1) ka ks kc _ (by have := hfit.wl; omega) (fun x hx => ⟨(hfit.wb x hx).1, (hfit.wb x hx).2.1⟩) hkl (by omega) hKc4 hKb4 hkp hDr4).mono ?_; rintro e w5 ⟨rfl, hDr5, hb5⟩)
    have hR5 := hR4.below hb5 hRp
    have hb5A := hb4.trans (hb5.mono hwp)
    go_upto_region 99 with (go_at_call 90; refine (disk_any p _ none 0 [] _ _ (by decide) hDr5).mono ?_; rw [← hd'.out]; rintro e w6 ⟨l6, fa, ga, fc, gc, rfl, hmd, hb6⟩; obtain ⟨z0, z1, zf⟩ := hR5.grow hb6)
    obtain ⟨c0, c1, K⟩ := ret2 (A := .slice l6.ba d'.blocks.length l6.bc) (B := .slice l6.wa d'.waiting.length l6.wc) z0 z1
    have hb6A := gca hb5A hb6
    refine bodyPost_ret (v := d'.val l6) (by simp [results, Try.results47, go_sem, c0, c1]) rfl ⟨l6, fa, ga, fc, gc, rfl, hmd.last K (by have := hR5.lt; omega) (by have := hb5A.size; omega) K.size, ?_⟩
    exact hb6A.trans (K.below hb6A.size (fun z hz e => by omega))

end Go.Proofs.Ythjddpkegooobab

/-
  SSYNC: the specification's Sync and Crash. Own work.
-/
namespace Go.Proofs.Ythjddpkegooobab
open Go.RowKit

set_option maxRecDepth 100000 in
theorem specCrash_any (d : DD) (l : DL) (ka : Option Addr) (ks : List Bool) (kc : Nat) (w : World) (hd : d.Ok) (ha : DAt w l d) (hkl : ks.length ≤ maxLen) (hk0 : BoolsAt w ka ks) : Calls Try.prog 45 #[d.val l, .slice ka ks.length kc] w (CPost (d.settle (keepOf ks)) w) := by
  have hA := gal (gal (gre w) (.cells #[.slice l.ba d.blocks.length l.bc, .slice l.wa d.waiting.length l.wc] 50)) (.cells #[.slice none 0 0, .slice none 0 0] 50)
  have hX0 := (DBox.new w d l 50).grow (gal (gre _) (.cells #[.slice none 0 0, .slice none 0 0] 50))
  have hR0 := VB.new_at (w.alloc (.cells #[.slice l.ba d.blocks.length l.bc, .slice l.wa d.waiting.length l.wc] 50)) (.slice none 0 0) (.slice none 0 0) 50 (w.heap.size + 1) (by simp)
  cases hok : d.ok with
  | false =>
    have hok' : Hid _ := hok
    clear hok
    rw [settle_no hok'.out]
    go_enter Try.func45, Try.ntmps45
    go_wp2_with (go_at_call 36; refine (specDiskOk_any d l _ hd (ha.grow hA)).mono ?_; rintro e w2 ⟨rfl, hb2⟩; rw [hok'.out]; obtain ⟨z0, z1, zf⟩ := hR0.grow hb2)
    obtain ⟨c0, c1, K⟩ := ret2 (A := .slice none 0 0) (B := .slice none 0 0) z0 z1
    refine bodyPost_ret (v := .agg #[.slice none 0 0, .slice none 0 0]) (by simp [results, Try.results45, go_sem, c0, c1]) rfl (CPost.zero ?_)
    exact (gca hA hb2).trans (K.below (gca hA hb2).size (fun z hz e => by omega))
  | true =>
    have hok' : Hid _ := hok
    clear hok
    rw [settle_yes hok'.out]
    obtain ⟨d', hd'⟩ := hid_ex (DD.mk (settleN (keepOf ks) d.blocks d.waiting d.waiting.length) [])
    rw [← hd'.out]
    go_enter Try.func45, Try.ntmps45
    go_wp2_with (first
      | (go_at_call 36; refine (specDiskOk_any d l _ hd (ha.grow hA)).mono ?_; rintro e w2 ⟨rfl, hb2⟩; rw [hok'.out]; obtain ⟨_, x0, x1⟩ := hX0.grow hb2)
      | (go_at_call 106; refine (l3settle_any d l ka ks kc _ (DD.fit hok'.out) (ha.grow (gca hA hb2)) hkl (hk0.grow (gca hA hb2))).mono ?_; rw [← hd'.out]; rintro e w3 ⟨lb, lw, ba, bc, wa, wc, rfl, hlb, hlw, hL3, hW3, hb3⟩; obtain ⟨z0, z1, zf⟩ := (hR0.grow hb2).grow hb3))
    have hball := gca (gca hA hb2) hb3
    obtain ⟨c0, c1, K⟩ := ret2 (A := .slice ba d'.blocks.length bc) (B := .slice wa d'.waiting.length wc) z0 z1
    have hRl : w.heap.size + 1 < w2.heap.size := by have := hb2.size; simp at this; omega
    have hfL := ((hL3.set (V := w.heap.size + 1) hRl 0 (.slice ba d'.blocks.length bc)).set (V := w.heap.size + 1) hRl 1 (.slice wa d'.waiting.length wc)).le (base' := w.heap.size) (by omega)
    have hfW := ((hW3.set (V := w.heap.size + 1) hRl 0 (.slice ba d'.blocks.length bc)).set (V := w.heap.size + 1) hRl 1 (.slice wa d'.waiting.length wc)).le (base' := w.heap.size) (by omega)
    refine bodyPost_ret (v := .agg #[.slice ba d'.blocks.length bc, .slice wa d'.waiting.length wc]) (by simp [results, Try.results45, go_sem, c0, c1]) rfl ⟨lb, lw, ba, bc, wa, wc, rfl, hlb, hlw, hfL, hfW, ?_⟩
    exact hball.trans (K.below hball.size (fun z hz e => by omega))

end Go.Proofs.Ythjddpkegooobab

/-
  ISYNC: the program's Sync and Crash. Own work.
-/
namespace Go.Proofs.Ythjddpkegooobab
open Go.RowKit

set_option maxHeartbeats 1000000 in
set_option maxRecDepth 100000 in
theorem implSync_any (d : DD) (l : DL) (w : World) (hd : d.Ok) (ha : DAt w l d) : Calls Try.prog 42 #[d.val l] w (DPost (d.settle keepAll) w) := by
  have hA := gal (gal (gre w) (.cells #[.slice l.ba d.blocks.length l.bc, .slice l.wa d.waiting.length l.wc] 50)) (.cells #[.slice none 0 0, .slice none 0 0] 50)
  have hX0 := (DBox.new w d l 50).grow (gal (gre _) (.cells #[.slice none 0 0, .slice none 0 0] 50))
  have hR0 := VB.new_at (w.alloc (.cells #[.slice l.ba d.blocks.length l.bc, .slice l.wa d.waiting.length l.wc] 50)) (.slice none 0 0) (.slice none 0 0) 50 (w.heap.size + 1) (by simp)
  cases hok : d.ok with
  | false =>
    have hok' : Hid _ := hok
    clear hok
    rw [settle_no hok'.out]
    go_enter Try.func42, Try.ntmps42
    go_wp2_with (go_at_call 38; refine (implDiskOk_any d l _ hd (ha.grow hA)).mono ?_; rintro e w2 ⟨rfl, hb2⟩; rw [hok'.out]; obtain ⟨z0, z1, zf⟩ := hR0.grow hb2)
    obtain ⟨c0, c1, K⟩ := ret2 (A := .slice none 0 0) (B := .slice none 0 0) z0 z1
    refine bodyPost_ret (v := .agg #[.slice none 0 0, .slice none 0 0]) (by simp [results, Try.results42, go_sem, c0, c1]) rfl (DPost.zero ?_)
    exact (gca hA hb2).trans (K.below (gca hA hb2).size (fun z hz e => by omega))
  | true =>
    have hok' : Hid _ := hok
    clear hok
    have hfit := DD.fit hok'.out
    rw [settle_yes hok'.out]
    obtain ⟨d', hd'⟩ := hid_ex (DD.mk (settleN keepAll d.blocks d.waiting d.waiting.length) [])
    rw [← hd'.out]
    go_enter Try.func42, Try.ntmps42
    go_upto_region 4 with (first
      | (go_at_call 38; refine (implDiskOk_any d l _ hd (ha.grow hA)).mono ?_; rintro e w2 ⟨rfl, hb2⟩; rw [hok'.out]; obtain ⟨_, x0, x1⟩ := hX0.grow hb2)
      | (go_at_call 104; refine (driveOf_any d l _ hfit (ha.grow (gca hA hb2))).mono ?_; rintro e w3 ⟨p, pa, pc, rfl, hp3, hDr, hb3⟩))
    have hR3 := (hR0.grow hb2).grow hb3
    have hb3A := gca (gca hA hb2) hb3
    have hRp : w.heap.size + 1 < p := by have := (hR0.grow hb2).lt; omega
    have hwp : w.heap.size ≤ p := by have := (gca hA hb2).size; omega
    go_upto_region 5 with (go_at_call 108; refine (sync_any p d.blocks pa pc d.waiting _ _ (by have := hfit.wl; omega) (fun x hx => ⟨(hfit.wb x hx).1, (hfit.wb x hx).2.1⟩) hDr).mono ?_; rintro e w5 ⟨rfl, hDr5, hb5⟩)
    have hR5 := hR3.below hb5 hRp
    have hb5A := hb3A.trans (hb5.mono hwp)
    go_upto_region 99 with (go_at_call 90; refine (disk_any p _ none 0 [] _ _ (by decide) hDr5).mono ?_; rw [← hd'.out]; rintro e w6 ⟨l6, fa, ga, fc, gc, rfl, hmd, hb6⟩; obtain ⟨z0, z1, zf⟩ := hR5.grow hb6)
    obtain ⟨c0, c1, K⟩ := ret2 (A := .slice l6.ba d'.blocks.length l6.bc) (B := .slice l6.wa d'.waiting.length l6.wc) z0 z1
    have hb6A := gca hb5A hb6
    refine bodyPost_ret (v := d'.val l6) (by simp [results, Try.results42, go_sem, c0, c1]) rfl ⟨l6, fa, ga, fc, gc, rfl, hmd.last K (by have := hR5.lt; omega) (by have := hb5A.size; omega) K.size, ?_⟩
    exact hb6A.trans (K.below hb6A.size (fun z hz e => by omega))

end Go.Proofs.Ythjddpkegooobab

/-
  SBLANK: the specification's Blank. Own work.
-/
namespace Go.Proofs.Ythjddpkegooobab
open Go.RowKit

set_option maxHeartbeats 4000000 in
set_option maxRecDepth 100000 in
theorem specBlank_own (w : World) : Calls Try.prog 30 #[] w (BOwn w) := by
  obtain ⟨i0, hi, hz0, hz1, hz2⟩ := info_parts info_u8
  obtain ⟨j0, hj, hy0, hy1, hy2'⟩ := info_parts info_bytes
  obtain ⟨M, hM⟩ := hid_ex (madeCells #[Value.int .u8 0] 64)
  have : ∀ u : World, (Instr.makeSlice 28 (.int .i64 64) (.int .i64 64)).run Try.prog u =
      .ok (.slice (some ⟨u.heap.size, 0, none⟩) 64 64) (u.alloc (.cells M 5)) := fun u => by
    have h := run_make (P := Try.prog) u 28 5 i0 _ Try.underlying28 hi hz0 .i64 .i64 (64 : Int) (64 : Int) (by omega) (Int.le_refl _) (by rw [hz2]; omega) (by omega)
    rw [hM.out]
    simpa [hz1, Value.cells] using h
  have hmo : ∀ {base : Nat} (u : World), base ≤ u.heap.size → (u.alloc (.cells M 5)).ownsRow base 5 1 (.slice (some ⟨u.heap.size, 0, none⟩) (List.replicate 64 0).length 64) (List.replicate 64 0).length (bcells (List.replicate 64 0)) := fun u hb => by
    have := owns_made (n := 64) hb (by unfold maxLen; omega)
    rw [← hM.out] at this
    simpa using this
  go_enter Try.func30, Try.ntmps30
  go_upto_region 2 with fail
  have hw1 := gal (gal (gre w) (.cells #[.slice none 0 0, .slice none 0 0] 50)) (.cells #[.slice none 0 0, .slice none 0 0] 50)
  have hR := (VB.new w (.slice none 0 0) (.slice none 0 0) 50).grow (gal (gre _) (.cells #[.slice none 0 0, .slice none 0 0] 50))
  have hV := VB.new_at (w.alloc (.cells #[.slice none 0 0, .slice none 0 0] 50)) (.slice none 0 0) (.slice none 0 0) 50 (w.heap.size + 1) (by simp)
  generalize (w.alloc (.cells #[.slice none 0 0, .slice none 0 0] 50)).alloc (.cells #[.slice none 0 0, .slice none 0 0] 50) = wA at hw1 hR hV ⊢
  obtain ⟨R, hRe⟩ := hid_ex w.heap.size
  obtain ⟨V, hVe⟩ := hid_ex (w.heap.size + 1)
  rw [← hVe.out] at hV ⊢
  rw [← hRe.out] at hR ⊢
  have hI0 : BInv w wA R V 0 := ⟨[], none, 0, rfl, rfl, SB.nil _ _, hV, hR, hw1⟩
  clear hw1 hR hV
  go_wp2
  go_loopw [2] (fun i wr => ∃ k : Nat, k ≤ 130 ∧ i = .int .i64 k ∧ BInv w wr R V k) (fun i _ => 130 - (intOf i).toNat)
  case atStart => exact ⟨0, Nat.zero_le _, rfl, hI0⟩
  case round =>
    obtain ⟨k, hk, rfl, lb, ba, bc, hll, hlm, hL, hV, hR, hb⟩ := hrel
    by_cases hlt : k < 130
    · have i1 : (k : Int) < 130 := by omega
      clear hI0
      go_wp2
      refine wp_regionU (fun u => u.cell? ⟨V, 0, none⟩ = some (.slice ba lb.length bc)) 6 (by kernel_rfl) (hV.grow (gdr (gre wr))).v0 (fun hS0 => ?_)
      have hLd := hL.grow (gdr (gre wr))
      have hVd := hV.grow (gdr (gre wr))
      have hRd := hR.grow (gdr (gre wr))
      have hbd := gdr hb
      generalize wr.drew = wd at hLd hVd hRd hbd hS0 ⊢
      refine anyU_take (i := 0) (v := ?_) rfl (by kernel_rfl) (by kernel_rfl) (by kernel_rfl) (by kernel_rfl) (fun _ _ _ h => h) (Or.inl ⟨by rfl, ?_⟩) hS0 ?_
      rotate_left
      · intro u hSu; (try dsimp only at hSu); go_simp <;> with_reducible rfl
      simp only [Act.put, List.getElem_toArray, List.getElem_cons_zero, List.setIfInBounds_toArray, List.set_cons_zero, List.set_cons_succ]
      refine anyU_take (i := 1) (v := ?_) rfl (by kernel_rfl) (by kernel_rfl) (by kernel_rfl) (by kernel_rfl) (fun _ _ _ h => h) (Or.inl ⟨by rfl, ?_⟩) hS0 ?_
      rotate_left
      · intro u hSu; (try dsimp only at hSu); go_simp <;> with_reducible rfl
      simp only [Act.put, List.getElem_toArray, List.getElem_cons_zero, List.getElem_cons_succ, List.setIfInBounds_toArray, List.set_cons_zero, List.set_cons_succ]
      have hB1 := gal (gre wd) (.cells M 5)
      have hS1 := cell_later hB1 hS0
      have hS1' : Hid _ := hS1
      clear hS1
      refine anyU_one (i := 2) (by kernel_rfl) rfl (fun K hK => ?_)
      go_simp
      refine hK.out _ _ hS1'.out ?_
      clear hK
      have hy : (wd.alloc (.cells M 5)).ownsRow (V + 1) 5 1 (.slice (some ⟨wd.heap.size, 0, none⟩) (List.replicate 64 0).length 64) (List.replicate 64 0).length (bcells (List.replicate 64 0)) := hmo wd (by have := hVd.lt; omega)
      have hL1 := hLd.grow hB1
      have hV1 := hVd.grow hB1
      have hs1 : (wd.alloc (.cells M 5)).heap.size = wd.heap.size + 1 := by simp
      have hbel1 := gca hbd hB1
      generalize wd.alloc (.cells M 5) = w1 at hB1 hS1' hy hL1 hV1 hs1 hbel1 ⊢
      have hB2 := gal (gre w1) (.cells #[.slice (some ⟨wd.heap.size, 0, none⟩) 64 64] 28)
      have hS2 := cell_later hB2 hS1'.out
      have hS2' : Hid _ := hS2
      clear hS2
      refine anyU_one (i := 3) (by kernel_rfl) rfl (fun K hK => ?_)
      go_simp
      refine hK.out _ _ hS2'.out ?_
      clear hK
      have hL2 := hL1.grow hB2
      have hV2 := hV1.grow hB2
      have hbel2 := gca hbel1 hB2
      have hy2 := (Kept.of_below hB2 (fun _ => False)).owns hy (fun _ _ e => e)
      have hnew := World.news_of_block (cs := #[.slice (some ⟨wd.heap.size, 0, none⟩) 64 64]) (t := 28) (fr := (0, 0)) (blk_new_at w1 (.cells #[.slice (some ⟨wd.heap.size, 0, none⟩) 64 64] 28) (wd.heap.size + 1) hs1.symm)
      have hs2 : (w1.alloc (.cells #[.slice (some ⟨wd.heap.size, 0, none⟩) 64 64] 28)).heap.size = wd.heap.size + 1 + 1 := by simp [hs1]
      generalize w1.alloc (.cells #[.slice (some ⟨wd.heap.size, 0, none⟩) 64 64] 28) = w2 at hB2 hS2' hL2 hV2 hbel2 hy2 hnew hs2 ⊢
      have hlw := hll.out
      refine anyU_one (i := 4) (by kernel_rfl) rfl (fun K hK => ?_)
      refine step_append_lies _ (by rfl) (.tmp 8) (.tmp 10) 47 rfl (V + 1) 28 j0 _ 1 24 Try.underlying47 hj hy0 hy1 hy2' rfl (by decide) (.slice ba lb.length bc) lb.length (lb.map LB.v) (by rfl) hL2.own ⟨wd.heap.size + 1, 0, none⟩ 1 1 [.slice (some ⟨wd.heap.size, 0, none⟩) 64 64] (by rfl) rfl hnew (by simp [Value.oneCell']) (by decide) (by unfold maxLen; omega) (by omega) (by have := hV2.lt; omega) (wd.heap.size + 1 + 1) hs2 ?_
      intro gg cc w5 hown5 hgrow5 hat5 hlt5
      have K5 := Kept.of_grown hgrow5
      have hL5 := hL2.push (y := ⟨List.replicate 64 0, some ⟨wd.heap.size, 0, none⟩, 64⟩) hy2 hown5 hgrow5
      have hV5 := hV2.kept K5 (fun e => by have := (owns_isS hL2.own e).2; omega)
      refine hK.out _ _ hV5.v0 ?_
      clear hK
      simp only [Act.put, List.getElem_toArray, List.getElem_cons_zero, List.getElem_cons_succ, List.setIfInBounds_toArray, List.set_cons_zero, List.set_cons_succ]
      refine anyU_one (i := 5) (by kernel_rfl) rfl (fun K hK => ?_)
      go_simp
      refine hK.out _ _ hV5.v0 ?_
      clear hK
      have fz := hV5.vf
      have c8 := hV5.v0
      refine anyU_last (by kernel_rfl) rfl (by kernel_rfl) (fun K hK => ?_)
      go_simp
      refine hK.out _ _ ?_
      clear hK
      have hbel5 := hbel2.trans (K5.below (B := w.heap.size) hbel2.size (fun z hz e => by have := (owns_isS hL2.own e).2; have := hVe.out; omega))
      have hfin : SB (V + 1) (w5.setCell ⟨V, 0, none⟩ (.slice (some ⟨gg, 0, none⟩) (lb.length + 1) cc)) (some ⟨gg, 0, none⟩) cc (lb ++ [⟨List.replicate 64 0, some ⟨wd.heap.size, 0, none⟩, 64⟩]) := hL5.set (by omega) _ _
      have hfV := hV5.set0 (.slice (some ⟨gg, 0, none⟩) (lb.length + 1) cc)
      have hfR := (((hRd.grow hB1).grow hB2).kept K5 (fun e => by have := (owns_isS hL2.own e).2; have := hVe.out; have := hRe.out; omega)).kept (Kept.one w5 V 0 (.slice (some ⟨gg, 0, none⟩) (lb.length + 1) cc)) (by have := hVe.out; have := hRe.out; omega)
      rw [hlw] at hfin hfV hfR
      go_wp2
      go_roundw
      case rel => exact ⟨k + 1, by omega, by go_num, lb ++ [⟨List.replicate 64 0, some ⟨wd.heap.size, 0, none⟩, 64⟩], some ⟨gg, 0, none⟩, cc, by show _ = _; rw [List.length_append, hlw]; rfl, by show _ = _; rw [List.map_append, hlm.out]; exact (List.replicate_succ' (n := k)).symm, hfin, by rw [List.length_append, hlw]; exact hfV, hfR, gse hbel5 (by have := hVe.out; show w.heap.size ≤ V; omega) _⟩
      case measure => simp [intOf]; omega
    · obtain rfl : k = 130 := by omega
      have y0 := hV.v0
      have y1 := hV.v1
      have z0 := hR.v0
      have z1 := hR.v1
      have zf := hR.vf
      obtain ⟨c0, c1, K⟩ := ret2 (A := .slice ba lb.length bc) (B := .slice none 0 0) z0 z1
      go_wp2
      refine bodyPost_ret (v := .agg #[.slice ba lb.length bc, .slice none 0 0]) (by simp [results, Try.results30, go_sem, c0, c1]) rfl ⟨lb, ba, bc, by rw [hll.out]; simp [DD.val, blankD], hlm.out, ?_, ?_⟩
      · exact ((hL.set (V := R) (by have := hVe.out; have := hRe.out; omega) 0 (.slice ba lb.length bc)).set (V := R) (by have := hVe.out; have := hRe.out; omega) 1 (.slice none 0 0)).leB (by have := hVe.out; omega)
      · exact hb.trans (K.below hb.size (fun z hz e => by have := hRe.out; omega))
theorem specBlank_any (w : World) : Calls Try.prog 30 #[] w (SBPost blankD w) := (specBlank_own w).mono fun e w' ⟨lb, ba, bc, he, hm, hS, hb⟩ => ⟨⟨ba, bc, none, 0⟩, he, ⟨by rw [← hm]; exact hS.at_, fun i hi => absurd hi (Nat.not_lt_zero _)⟩, hb⟩

end Go.Proofs.Ythjddpkegooobab

/-
  LAW: FnExactBlank, walked. Own work.
-/
namespace Go.Proofs.Ythjddpkegooobab
open Go.RowKit

set_option maxHeartbeats 4000000 in
set_option maxRecDepth 100000 in
theorem lawBlank (w : World) : Calls Try.prog 5 #[] w fun e w' => e = .returned (.bool true) ∧ Below w.heap.size w w' := by
  obtain ⟨d, hd⟩ := hid_ex blankD
  have hfit : d.Fit := by rw [hd.out]; exact blank_fit
  have hok : d.Ok := by rw [hd.out]; exact blank_ok
  have hm := hfit.mend
  obtain ⟨m, hme⟩ := hid_ex (d.mend 1)
  have hmn : ¬ ((m : Int) < 0) := by omega
  have hmm : ((m : Int) != (m : Int)) = false := by simp
  go_enter Try.func5, Try.ntmps5
  go_upto_region 2 with (go_at_call 30; refine (specBlank_any _).mono ?_; rw [← hd.out]; rintro e w1 ⟨l0, rfl, hat0, hb1⟩)
  have hX0 := DBox.new w1 d l0 50
  have hA := gal hb1 (.cells #[.slice l0.ba d.blocks.length l0.bc, .slice l0.wa d.waiting.length l0.wc] 50)
  have hat := hat0.grow (gal (gre w1) (.cells #[.slice l0.ba d.blocks.length l0.bc, .slice l0.wa d.waiting.length l0.wc] 50))
  generalize w1.alloc (.cells #[.slice l0.ba d.blocks.length l0.bc, .slice l0.wa d.waiting.length l0.wc] 50) = wA at hX0 hA hat ⊢
  generalize w1.heap.size = P0 at hX0 ⊢
  clear hat0 hb1
  go_upto_region 3 with (go_at_call 31; refine (implBlank_any _).mono ?_; rw [← hd.out]; rintro e w2 ⟨lg, fa, ga, fc, gc, rfl, hmd0, hb2⟩)
  have hXG := DBox.new w2 d lg 50
  have hB2 := gal hb2 (.cells #[.slice lg.ba d.blocks.length lg.bc, .slice lg.wa d.waiting.length lg.wc] 50)
  have hmd := hmd0.grow (gal (gre w2) (.cells #[.slice lg.ba d.blocks.length lg.bc, .slice lg.wa d.waiting.length lg.wc] 50))
  have hsB : w2.heap.size ≤ (w2.alloc (.cells #[.slice lg.ba d.blocks.length lg.bc, .slice lg.wa d.waiting.length lg.wc] 50)).heap.size := by simp
  generalize w2.alloc (.cells #[.slice lg.ba d.blocks.length lg.bc, .slice lg.wa d.waiting.length lg.wc] 50) = wB at hXG hB2 hmd hsB ⊢
  have hPA := hX0.lt
  have hs2 := hb2.size
  generalize w2.heap.size = PG at hXG hmd hsB hs2 ⊢
  clear hmd0 hb2
  have hXB := hX0.grow hB2
  obtain ⟨_, x0, x1⟩ := id hXB
  obtain ⟨_, g0, g1⟩ := id hXG
  go_upto_region 5 with (go_at_call 32; refine (eqDisk_same d lg l0 _ hok hmd.at_ (hat.grow hB2)).mono ?_; rintro e w3 ⟨rfl, hb3⟩)
  have hB3 := gca hB2 hb3
  have hmd3 := hmd.grow hb3
  have hX3 := hXB.grow hb3
  have hG3 := hXG.grow hb3
  have hs3 := hb3.size
  clear x0 x1 g0 g1 hXB hXG hmd hX0
  obtain ⟨_, g0, g1⟩ := id hG3
  go_upto_region 7 with (go_at_call 33; rw [show (1 : Int) = ((1 : Nat) : Int) by rfl]; refine (markDisk_any d lg 1 wA.heap.size PG fa ga fc gc _ hfit.small hm (by omega) hmd3).mono ?_; rintro e w4 ⟨rfl, hM4, hK4⟩; rw [← hme.out])
  have hX4 := hX3.kept hK4 (fun e => by omega)
  have hG4 := hG3.kept hK4 (fun e => by omega)
  have hB4 := hB3.trans (hK4.below (B := wA.heap.size) hB3.size (fun z hz e => by omega))
  clear g0 g1 hX3 hG3 hmd3 hB3
  obtain ⟨_, g0, g1⟩ := id hG4
  go_upto_region 13 with (go_at_call 34; rw [show (1 : Int) = ((1 : Nat) : Int) by rfl]; refine (heldDisk_any d lg 1 wA.heap.size PG fa ga fc gc _ hfit.small hm hM4).mono ?_; rintro e w5 ⟨rfl, hb5⟩; rw [← hme.out])
  have hB5 := hB4.trans (hb5.mono hB4.size)
  have hX5 := hX4.grow hb5
  have hG5 := hG4.grow hb5
  have hM5 := hM4.grow hb5
  clear g0 g1 hX4 hG4 hM4 hB4
  go_upto_region 14 with (go_at_call 31; refine (implBlank_any _).mono ?_; rw [← hd.out]; rintro e w6 ⟨lh, fa6, ga6, fc6, gc6, rfl, hmd6, hb6⟩)
  have hXH := DBox.new w6 d lh 50
  have hb7 := gal hb6 (.cells #[.slice lh.ba d.blocks.length lh.bc, .slice lh.wa d.waiting.length lh.wc] 50)
  have hmd7 := hmd6.grow (gal (gre w6) (.cells #[.slice lh.ba d.blocks.length lh.bc, .slice lh.wa d.waiting.length lh.wc] 50))
  generalize w6.alloc (.cells #[.slice lh.ba d.blocks.length lh.bc, .slice lh.wa d.waiting.length lh.wc] 50) = w7 at hXH hb7 hmd7 ⊢
  generalize w6.heap.size = PH at hXH hmd7 ⊢
  have hB7 := hB5.trans (hb7.mono hB5.size)
  have hX7 := hX5.grow hb7
  have hG7 := hG5.grow hb7
  have hM7 := hM5.grow hb7
  clear hX5 hG5 hM5 hB5 hb6 hmd6
  obtain ⟨_, x0, x1⟩ := id hX7
  obtain ⟨_, g0, g1⟩ := id hXH
  go_upto_region 16 with (go_at_call 32; refine (eqDisk_same d lh l0 _ hok hmd7.at_ (hat.grow hB7)).mono ?_; rintro e w8 ⟨rfl, hb8⟩)
  have hB8 := hB7.trans (hb8.mono hB7.size)
  have hG8 := hG7.grow hb8
  have hM8 := hM7.grow hb8
  clear x0 x1 g0 g1 hX7 hXH hmd7 hB7 hG7 hM7
  obtain ⟨_, g0, g1⟩ := id hG8
  go_wp2_with (go_at_call 34; rw [show (1 : Int) = ((1 : Nat) : Int) by rfl]; refine (heldDisk_any d lg 1 wA.heap.size PG fa ga fc gc _ hfit.small hm hM8).mono ?_; rintro e w9 ⟨rfl, hb9⟩; rw [← hme.out])
  go_ret
  exact ⟨rfl, hA.trans ((hB8.trans (hb9.mono hB8.size)).mono hA.size)⟩

end Go.Proofs.Ythjddpkegooobab

/-
  LAW: FnExactSync, walked. Own work.
-/
namespace Go.Proofs.Ythjddpkegooobab
open Go.RowKit

set_option maxHeartbeats 4000000 in
set_option maxRecDepth 100000 in
theorem lawSync (d : DD) (l : DL) (w : World) (hd : d.Ok) (ha : DAt w l d) :
    Calls Try.prog 8 #[d.val l] w fun e w' => e = .returned (.bool true) ∧ Below w.heap.size w w' := by
  have hX0 := DBox.new w d l 57
  have hA0 := gal (gre w) (.cells #[.slice l.ba d.blocks.length l.bc, .slice l.wa d.waiting.length l.wc] 57)
  by_cases hs1 : d.sz ≤ 1048576
  · have hs := DD.small hs1
    have hm1 := DD.small_mend hs1
    have hle1 : Hid (leftBy 1048576 d.sz = 1048576 - d.sz) := leftBy_pos (by omega)
    have hd1 : ¬ (1048576 - d.sz < 0) := by omega
    obtain ⟨c, hc⟩ := hid_ex (d.settle keepAll)
    have hct : c.Tame := by rw [hc.out]; exact settle_tame hd _
    have hmc := hct.mend
    obtain ⟨mx, hmx⟩ := hid_ex (d.mend 1)
    have hmxn : ¬ ((mx : Int) < 0) := by omega
    obtain ⟨m, hme⟩ := hid_ex (c.mend 1)
    have hmn : ¬ ((m : Int) < 0) := by omega
    have hmm : ((m : Int) != (m : Int)) = false := by simp
    clear hs1
    go_enter Try.func8, Try.ntmps8
    go_upto_region 6 with (first
      | (go_at_call 35; refine (szDisk_any d l _ _ hd (by decide) (by decide) (ha.grow hA0)).mono ?_; rintro e w1 ⟨rfl, hb1⟩; rw [hle1.out]; obtain ⟨_, x0, x1⟩ := hX0.grow hb1)
      | (go_at_call 37; refine (toDisk_any d l _ hs (ha.grow (gca hA0 hb1))).mono ?_; rintro e w2 ⟨l2, bs2, xs2, rfl, hown2, hb2⟩)
      | (go_at_call 41; refine (specSync_any d l2 _ hd hown2.at_).mono ?_; rw [← hc.out]; rintro e w3 h3; obtain ⟨l0, rfl, hat0, hb3⟩ := h3.at_))
    have hA := gal (gca (gca (gca hA0 hb1) hb2) hb3) (.cells #[.slice l0.ba c.blocks.length l0.bc, .slice l0.wa c.waiting.length l0.wc] 50)
    have hXA := hX0.grow (gal (gca (gca hb1 hb2) hb3) (.cells #[.slice l0.ba c.blocks.length l0.bc, .slice l0.wa c.waiting.length l0.wc] 50))
    have hWA := DBox.new w3 c l0 50
    have hat := hat0.grow (gal (gre w3) (.cells #[.slice l0.ba c.blocks.length l0.bc, .slice l0.wa c.waiting.length l0.wc] 50))
    generalize w3.alloc (.cells #[.slice l0.ba c.blocks.length l0.bc, .slice l0.wa c.waiting.length l0.wc] 50) = wA at hA hXA hWA hat ⊢
    generalize w3.heap.size = P0 at hWA ⊢
    obtain ⟨PA, hPA⟩ := hid_ex w.heap.size
    rw [← hPA.out] at hXA ⊢
    clear x0 x1 hb1 hb2 hb3 hown2 hat0 hX0 hA0
    obtain ⟨_, x0, x1⟩ := id hXA
    go_upto_region 7 with (go_at_call 37; refine (toDisk_any d l _ hs (ha.grow hA)).mono ?_; rintro e w4 ⟨l4, bs4, xs4, rfl, hown4, hb4⟩)
    have hxB := DBox.new w4 d l4 50
    have hbB := gal hb4 (.cells #[.slice l4.ba d.blocks.length l4.bc, .slice l4.wa d.waiting.length l4.wc] 50)
    have hmx0 := hown4.md.grow (gal (gre w4) (.cells #[.slice l4.ba d.blocks.length l4.bc, .slice l4.wa d.waiting.length l4.wc] 50))
    have hs4 : (w4.alloc (.cells #[.slice l4.ba d.blocks.length l4.bc, .slice l4.wa d.waiting.length l4.wc] 50)).heap.size = w4.heap.size + 1 := by simp
    have hs4A := hb4.size
    generalize w4.alloc (.cells #[.slice l4.ba d.blocks.length l4.bc, .slice l4.wa d.waiting.length l4.wc] 50) = wB at hxB hbB hmx0 hs4 ⊢
    generalize w4.heap.size = PX at hxB hmx0 hs4 hs4A ⊢
    have hPAl := hXA.lt
    have hP0l := hWA.lt
    have hXB := hXA.grow hbB
    have hWB := hWA.grow hbB
    generalize hsAe : wA.heap.size = sA at hmx0 hbB hs4A hPAl hP0l
    clear x0 x1 hb4 hown4 hXA hWA
    obtain ⟨_, x0, x1⟩ := id hxB
    go_upto_region 8 with (go_at_call 42; refine (implSync_any d l4 _ hd hmx0.at_).mono ?_; rw [← hc.out]; rintro e w5 ⟨lg, fa, ga, fc, gc, rfl, hmd0, hb5⟩)
    have hGC := DBox.new w5 c lg 50
    have hbC := gal hb5 (.cells #[.slice lg.ba c.blocks.length lg.bc, .slice lg.wa c.waiting.length lg.wc] 50)
    have hmdC := hmd0.grow (gal (gre w5) (.cells #[.slice lg.ba c.blocks.length lg.bc, .slice lg.wa c.waiting.length lg.wc] 50))
    have hs5 : (w5.alloc (.cells #[.slice lg.ba c.blocks.length lg.bc, .slice lg.wa c.waiting.length lg.wc] 50)).heap.size = w5.heap.size + 1 := by simp
    have hs5B := hb5.size
    generalize w5.alloc (.cells #[.slice lg.ba c.blocks.length lg.bc, .slice lg.wa c.waiting.length lg.wc] 50) = wC at hGC hbC hmdC hs5 ⊢
    generalize w5.heap.size = PG at hGC hmdC hs5 hs5B ⊢
    have hxC := hxB.grow hbC
    have hXC := hXB.grow hbC
    have hWC := hWB.grow hbC
    have hmxC := hmx0.grow hbC
    have hAC : Below sA wA wC := by rw [hs4] at hbC; exact hbB.trans (hbC.mono (by omega))
    have hBwC : Below w.heap.size w wC := hA.trans (hAC.mono (by rw [← hsAe]; exact hA.size))
    generalize hsBe : wB.heap.size = sB at hmdC hs4 hs5B
    clear x0 x1 hmd0 hb5 hxB hXB hWB hmx0 hbB hbC
    obtain ⟨_, x0, x1⟩ := id hGC
    obtain ⟨_, g0, g1⟩ := id hWC
    go_upto_region 10 with (go_at_call 32; refine (eqDisk_same c lg l0 _ hct.ok hmdC.at_ (hat.grow (by rw [hsAe]; exact hAC))).mono ?_; rintro e w6 ⟨rfl, hb6⟩)
    have hx6 := hxC.grow hb6
    have hX6 := hXC.grow hb6
    have hW6 := hWC.grow hb6
    have hG6 := hGC.grow hb6
    have hmx6 := hmxC.grow hb6
    have hmd6 := hmdC.grow hb6
    have hA6 := hAC.trans (hb6.mono (by have := hAC.size; omega))
    have hBw6 := gca hBwC hb6
    have hs6 := hb6.size
    clear x0 x1 g0 g1 hxC hXC hWC hGC hmxC hmdC hAC hBwC
    have hB : Below w6.heap.size w6 w6.drew := gdr (gre _)
    refine wp_regionU (fun u => DBox u PX d l4 ∧ DBox u PA d l) 99 (by kernel_rfl) ⟨hx6.grow hB, hX6.grow hB⟩ (fun _ => ?_)
    refine anyU_take (i := 0) (v := ?_) rfl (by kernel_rfl) (by kernel_rfl) (by kernel_rfl) (by kernel_rfl) (fun _ _ _ h => h) (Or.inl ⟨by rfl, ?_⟩) ⟨hx6.grow hB, hX6.grow hB⟩ ?_
    rotate_left
    · intro u hSu; obtain ⟨⟨_, s0, s1⟩, ⟨_, t0, t1⟩⟩ := hSu; go_simp <;> with_reducible rfl
    simp only [Act.put, List.getElem_toArray, List.getElem_cons_zero, List.setIfInBounds_toArray, List.set_cons_zero, List.set_cons_succ]
    refine anyU_take (i := 1) (v := ?_) rfl (by kernel_rfl) (by kernel_rfl) (by kernel_rfl) (by kernel_rfl) (fun _ _ _ h => h) (Or.inl ⟨by rfl, ?_⟩) ⟨hx6.grow hB, hX6.grow hB⟩ ?_
    rotate_left
    · intro u hSu; obtain ⟨⟨_, s0, s1⟩, ⟨_, t0, t1⟩⟩ := hSu; go_simp <;> with_reducible rfl
    simp only [Act.put, List.getElem_toArray, List.getElem_cons_zero, List.getElem_cons_succ, List.setIfInBounds_toArray, List.set_cons_zero, List.set_cons_succ]
    refine anyU_one (i := 2) (by kernel_rfl) rfl (fun K hK => ?_)
    go_simp
    refine (toDisk_any d l _ hs (ha.grow (gca hBw6 hB))).mono ?_
    rintro e w7 ⟨l7, bs7, xs7, rfl, hown7, hb7⟩
    have hB := gca hB hb7
    refine hK.out _ _ ⟨hx6.grow hB, hX6.grow hB⟩ ?_
    clear hK
    refine anyU_one (i := 3) (by kernel_rfl) rfl (fun K hK => ?_)
    go_simp
    refine (eqDisk_same d _ _ _ hd (hmx6.at_.grow hB) hown7.at_).mono ?_
    rintro e w8 ⟨rfl, hb8⟩
    have hB := gca hB hb8
    refine hK.out _ _ ⟨hx6.grow hB, hX6.grow hB⟩ ?_
    clear hK
    refine anyU_one (i := 4) (by kernel_rfl) rfl (fun K hK => ?_)
    go_simp
    refine hK.out _ _ ⟨hx6.grow hB, hX6.grow hB⟩ ?_
    clear hK
    refine anyU_done (by kernel_rfl) ?_
    have hx8 := hx6.grow hB
    have hX8 := hX6.grow hB
    have hW8 := hW6.grow hB
    have hG8 := hG6.grow hB
    have hmx8 := hmx6.grow hB
    have hmd8 := hmd6.grow hB
    have hA8 := hA6.trans (hB.mono (by have := hA6.size; omega))
    have hBw8 := gca hBw6 hB
    have hs8 := hB.size
    clear hx6 hX6 hW6 hG6 hmx6 hmd6 hA6 hBw6 hB hown7 hb7 hb8
    obtain ⟨_, x0, x1⟩ := id hx8
    go_upto_region 14 with (go_at_call 33; rw [show (1 : Int) = ((1 : Nat) : Int) by rfl]; refine (markDisk_any d l4 1 sA PX _ _ _ _ _ hs hm1 (by omega) hmx8).mono ?_; rintro e w9 ⟨rfl, _, hK9⟩; rw [← hmx.out])
    have hX9 := hX8.kept hK9 (fun e => by omega)
    have hW9 := hW8.kept hK9 (fun e => by omega)
    have hG9 := hG8.kept hK9 (fun e => by omega)
    have hmd9 := hmd8.out hK9 (fun b hb _ e => by omega)
    have hA9 := hA8.trans (hK9.below (B := sA) (by have := hA8.size; omega) (fun z hz e => by omega))
    have hBw9 := hBw8.trans (hK9.below (B := w.heap.size) hBw8.size (fun z hz e => by have := hPA.out; omega))
    have hs9 := hK9.size
    clear x0 x1 hx8 hX8 hW8 hG8 hmx8 hmd8 hA8 hBw8 hK9
    obtain ⟨_, x0, x1⟩ := id hG9
    obtain ⟨_, g0, g1⟩ := id hW9
    go_upto_region 16 with (go_at_call 32; refine (eqDisk_same c lg l0 _ hct.ok hmd9.at_ (hat.grow (by rw [hsAe]; exact hA9))).mono ?_; rintro e w10 ⟨rfl, hb10⟩)
    have hX10 := hX9.grow hb10
    have hW10 := hW9.grow hb10
    have hG10 := hG9.grow hb10
    have hmd10 := hmd9.grow hb10
    have hA10 := hA9.trans (hb10.mono (by have := hA9.size; omega))
    have hBw10 := gca hBw9 hb10
    have hs10 := hb10.size
    clear x0 x1 g0 g1 hX9 hW9 hG9 hmd9 hA9 hBw9
    obtain ⟨_, x0, x1⟩ := id hG10
    go_upto_region 18 with (go_at_call 33; rw [show (1 : Int) = ((1 : Nat) : Int) by rfl]; refine (markDisk_any c lg 1 sB PG fa ga fc gc _ hct.small hmc (by omega) hmd10).mono ?_; rintro e w11 ⟨rfl, hM11, hK11⟩; rw [← hme.out])
    have hX11 := hX10.kept hK11 (fun e => by omega)
    have hW11 := hW10.kept hK11 (fun e => by omega)
    have hG11 := hG10.kept hK11 (fun e => by omega)
    have hA11 := hA10.trans (hK11.below (B := sA) (by have := hA10.size; omega) (fun z hz e => by omega))
    have hBw11 := hBw10.trans (hK11.below (B := w.heap.size) hBw10.size (fun z hz e => by have := hPA.out; omega))
    clear x0 x1 hX10 hW10 hG10 hmd10 hA10 hBw10 hK11
    obtain ⟨_, x0, x1⟩ := id hG11
    go_upto_region 24 with (go_at_call 34; rw [show (1 : Int) = ((1 : Nat) : Int) by rfl]; refine (heldDisk_any c lg 1 sB PG fa ga fc gc _ hct.small hmc hM11).mono ?_; rintro e w12 ⟨rfl, hb12⟩; rw [← hme.out])
    have hX12 := hX11.grow hb12
    have hW12 := hW11.grow hb12
    have hG12 := hG11.grow hb12
    have hM12 := hM11.grow hb12
    have hA12 := hA11.trans (hb12.mono (by have := hA11.size; omega))
    have hBw12 := gca hBw11 hb12
    clear x0 x1 hX11 hW11 hG11 hM11 hA11 hBw11
    obtain ⟨_, x0, x1⟩ := id hX12
    go_upto_region 25 with (first
      | (go_at_call 37; refine (toDisk_any d l _ hs (ha.grow hBw12)).mono ?_; rintro e w13 ⟨l13, bs13, xs13, rfl, hown13, hb13⟩)
      | (go_at_call 42; refine (implSync_any d l13 _ hd hown13.at_).mono ?_; rw [← hc.out]; rintro e w14 ⟨lh, fa14, ga14, fc14, gc14, rfl, hmd14, hb14⟩))
    have hHD := DBox.new w14 c lh 50
    have hbD := gal (gca hb13 hb14) (.cells #[.slice lh.ba c.blocks.length lh.bc, .slice lh.wa c.waiting.length lh.wc] 50)
    have hmdD := hmd14.grow (gal (gre w14) (.cells #[.slice lh.ba c.blocks.length lh.bc, .slice lh.wa c.waiting.length lh.wc] 50))
    generalize w14.alloc (.cells #[.slice lh.ba c.blocks.length lh.bc, .slice lh.wa c.waiting.length lh.wc] 50) = wD at hHD hbD hmdD ⊢
    generalize w14.heap.size = PH at hHD hmdD ⊢
    have hWD := hW12.grow hbD
    have hGD := hG12.grow hbD
    have hMD := hM12.grow hbD
    have hAD := hA12.trans (hbD.mono (by have := hA12.size; omega))
    have hBwD := gca hBw12 hbD
    clear x0 x1 hX12 hW12 hG12 hM12 hA12 hBw12 hb13 hb14 hmd14 hown13
    obtain ⟨_, x0, x1⟩ := id hHD
    obtain ⟨_, g0, g1⟩ := id hWD
    go_upto_region 27 with (go_at_call 32; refine (eqDisk_same c lh l0 _ hct.ok hmdD.at_ (hat.grow (by rw [hsAe]; exact hAD))).mono ?_; rintro e w15 ⟨rfl, hb15⟩)
    have hG15 := hGD.grow hb15
    have hM15 := hMD.grow hb15
    have hBw15 := gca hBwD hb15
    clear x0 x1 g0 g1 hWD hGD hMD hAD hBwD hmdD hHD
    obtain ⟨_, x0, x1⟩ := id hG15
    go_wp2_with (go_at_call 34; rw [show (1 : Int) = ((1 : Nat) : Int) by rfl]; refine (heldDisk_any c lg 1 sB PG fa ga fc gc _ hct.small hmc hM15).mono ?_; rintro e w16 ⟨rfl, hb16⟩; rw [← hme.out])
    go_ret
    exact ⟨rfl, gca hBw15 hb16⟩
  · have hle1 : Hid (leftBy 1048576 d.sz = -1) := leftBy_neg (by omega)
    go_enter Try.func8, Try.ntmps8
    go_wp2_with (go_at_call 35; refine (szDisk_any d l _ _ hd (by decide) (by decide) (ha.grow hA0)).mono ?_; rintro e w1 ⟨rfl, hb1⟩; rw [hle1.out])
    go_ret
    exact ⟨rfl, gca hA0 hb1⟩

end Go.Proofs.Ythjddpkegooobab
