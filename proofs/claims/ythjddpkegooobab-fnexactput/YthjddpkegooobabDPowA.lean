/-
  DPOW: the power goes. Own work.
-/
import Derived.Test.YthjddpkegooobabSBlk
namespace Go.Proofs.Ythjddpkegooobab
open Go.RowKit

def keepAll (_ : Nat) : Bool := true

set_option maxRecDepth 100000 in
theorem syncKeeps_any (j : Nat) (w : World) : Calls Try.prog 156 #[.int .i64 j] w fun e w' => e = .returned (.bool (keepAll j)) ∧ Below w.heap.size w w' := by
  go_enter Try.func156, Try.ntmps156
  go_wp2
  go_ret
  exact ⟨rfl, gre _⟩

/-- bools at a place -/
def BoolsAt (w : World) (a : Option Addr) (ks : List Bool) : Prop := ∀ i, i < ks.length → ∃ b off, a = some ⟨b, off, none⟩ ∧ w.cell? ⟨b, off + i, none⟩ = some (.bool ks[i]!)
theorem BoolsAt.grow {w w' : World} {a : Option Addr} {ks : List Bool} (h : BoolsAt w a ks) (hb : Below w.heap.size w w') : BoolsAt w' a ks := fun i hi => by
  obtain ⟨b, off, ha, hc⟩ := h i hi
  exact ⟨b, off, ha, cell_later hb hc⟩
def keepOf (ks : List Bool) (i : Nat) : Bool := decide (i < ks.length) && ks[i]!

set_option maxHeartbeats 4000000 in
set_option maxRecDepth 100000 in
theorem powerSyncK_any (p : Nat) (bl : List (List Nat)) (pa : Option Addr) (pc : Nat) (ws : List DW) (w : World) (hw : ws.length ≤ 201) (hwb : ∀ x, x ∈ ws → 0 ≤ x.block ∧ x.block < 130) (h : Dr w p bl pa pc ws (.func (.func 156) #[] #[])) :
    Calls Try.prog 113 #[.pointer (some ⟨p, 0, none⟩)] w fun e w' => e = .returned (.tuple #[]) ∧ Dr w' p (settleN keepAll bl ws ws.length) none 0 [] (.func (.func 156) #[] #[]) ∧ Kept (fun z => z = p) w w' := by
  have hz65 := (zero_of_info zero_pending).1
  have x0 := h.d.ws
  have hpl0 := h.d.lt
  go_enter Try.func113, Try.ntmps113
  go_wp2
  go_loopw [9] (fun i wr => ∃ k : Nat, k ≤ ws.length ∧ i = .int .i64 k ∧ Dr wr p (settleN keepAll bl ws k) pa pc ws (.func (.func 156) #[] #[]) ∧ Kept (fun z => z = p) w wr) (fun i _ => ws.length - (intOf i).toNat)
  case atStart => exact ⟨0, Nat.zero_le _, rfl, h, Kept.refl _ _⟩
  case round =>
    obtain ⟨k, hk, rfl, hD, hb⟩ := hrel
    clear x0
    by_cases hlt : k < ws.length
    · obtain ⟨g, rfl, hg1, hgl, hrg⟩ := owns_pend hD.own hD.w64 hlt
      obtain ⟨n, hn⟩ := hid_ex ws[k]!
      rw [← hn.out] at hrg
      have hnm : n ∈ ws := by rw [hn.out]; exact mem_at hlt
      have hn64 : Hid (n.bytes.length = 64) := h.w64 _ hnm
      have hpl : n.pc.length = 65 := pc_length hn64.out
      have hbl64 : (bcells n.bytes).length = 64 := by rw [bcells_length]; exact hn64.out
      obtain ⟨hn0, hn1⟩ := hwb n hnm
      obtain ⟨m, hm⟩ : ∃ m : Nat, n.block = (m : Int) := ⟨n.block.toNat, by omega⟩
      have i0 : (0 : Int) ≤ (k : Int) := by omega
      have i1 : (k : Int) < (ws.length : Int) := by omega
      go_upto_region 3 with (first
        | (refine wpList_load_mid rfl 184 _ rfl g (k * 65) rfl n.pc _ hrg Try.underlying184 rfl (by rw [size_pending, hpl]) ?_)
        | (refine wpList_alloc_big rfl 184 rfl _ hz65 ?_)
        | (refine wpList_store_new rfl 184 _ _ rfl _ n.pc.toArray rfl rfl (by rw [size_pending]; simp [hpl]) (by simp [zeros, hpl]) (all_oneCell_toArray pc_one) ?_))
      have hDA := hD.grow (gal (gre wr) (.cells n.pc.toArray 184))
      have hbA : Kept (fun z => z = p) w (wr.alloc (.cells n.pc.toArray 184)) := hb.alloc _
      have hrn := range_new wr n.pc 184
      have hr1 : (wr.alloc (.cells n.pc.toArray 184)).rangeAt wr.heap.size 1 (bcells n.bytes) := range_drop (cs := [.int .i64 n.block]) hrn
      have hq1 : (wr.alloc (.cells n.pc.toArray 184)).cell? ⟨wr.heap.size, 0, none⟩ = some (.int .i64 (m : Int)) := by rw [← hm]; exact hrn 0 _ rfl
      have hsC : (wr.alloc (.cells n.pc.toArray 184)).heap.size = wr.heap.size + 1 := by simp
      generalize wr.alloc (.cells n.pc.toArray 184) = wC at hDA hbA hr1 hq1 hsC ⊢
      clear hrn hrg
      generalize wr.heap.size = Q at hr1 hq1 hsC hgl ⊢
      have kf := hDA.d.kf
      have hm130 : m < 130 := by omega
      have j0 : (0 : Int) ≤ (m : Int) := by omega
      have j1 : (m : Int) < 130 := by omega
      have hmt : n.block.toNat = m := by omega
      have hmt' : Hid _ := hmt
      have hm' : Hid _ := hm
      have hn0' : Hid _ := hn0
      have hn1' : Hid _ := hn1
      clear hmt hm hn0 hn1
      cases hkp : keepAll k with
      | true =>
        have hkp' : Hid _ := hkp
        have hst : Hid (settleN keepAll bl ws (k + 1) = setB (settleN keepAll bl ws k) n) := by show _ = _; simp only [settleN]; rw [if_pos hkp, ← hn.out]
        clear hkp
        go_upto_region 4 with (go_at_call 156; refine (syncKeeps_any k _).mono ?_; rintro e w2 ⟨rfl, hb2⟩; obtain ⟨hD2, hb2A, hq2, hr2⟩ : Dr w2 p (settleN keepAll bl ws k) (some ⟨g, 0, none⟩) pc ws (.func (.func 156) #[] #[]) ∧ Kept (fun z => z = p) w w2 ∧ w2.cell? ⟨Q, 0, none⟩ = some (.int .i64 (m : Int)) ∧ w2.rangeAt Q 1 (bcells n.bytes) := ⟨hDA.grow hb2, hbA.trans (Kept.of_below hb2 (fun z => z = p)) (fun _ _ e => e), cell_later hb2 hq1, range_grow hr1 hb2⟩; rw [hkp'.out])
        refine wp_regionU (fun u => u.cell? ⟨Q, 0, none⟩ = some (.int .i64 (m : Int)) ∧ u.rangeAt Q 1 (bcells n.bytes)) 8 (by kernel_rfl) ⟨hq2, hr2⟩ (fun hS0 => ?_)
        refine anyU_take (i := 0) (v := ?_) rfl (by kernel_rfl) (by kernel_rfl) (by kernel_rfl) (by kernel_rfl) (fun _ _ _ h => h) (Or.inl ⟨by rfl, ?_⟩) hS0 ?_
        rotate_left
        · intro u hSu; obtain ⟨s0, s1⟩ := hSu; go_simp <;> with_reducible rfl
        simp only [Act.put, List.getElem_toArray, List.getElem_cons_zero, List.setIfInBounds_toArray, List.set_cons_zero, List.set_cons_succ]
        refine anyU_take (i := 1) (v := ?_) rfl (by kernel_rfl) (by kernel_rfl) (by kernel_rfl) (by kernel_rfl) (fun _ _ _ h => h) (Or.inl ⟨by rfl, ?_⟩) hS0 ?_
        rotate_left
        · intro u hSu; obtain ⟨s0, s1⟩ := hSu; go_simp <;> with_reducible rfl
        simp only [Act.put, List.getElem_toArray, List.getElem_cons_zero, List.getElem_cons_succ, List.setIfInBounds_toArray, List.set_cons_zero, List.set_cons_succ]
        refine anyU_take (i := 2) (v := ?_) rfl (by kernel_rfl) (by kernel_rfl) (by kernel_rfl) (by kernel_rfl) (fun _ _ _ h => h) (Or.inl ⟨by rfl, ?_⟩) hS0 ?_
        rotate_left
        · intro u hSu; obtain ⟨s0, s1⟩ := hSu; go_simp <;> with_reducible rfl
        simp only [Act.put, List.getElem_toArray, List.getElem_cons_zero, List.getElem_cons_succ, List.setIfInBounds_toArray, List.set_cons_zero, List.set_cons_succ]
        refine anyU_take (i := 3) (v := ?_) rfl (by kernel_rfl) (by kernel_rfl) (by kernel_rfl) (by kernel_rfl) (fun _ _ _ h => h) (Or.inl ⟨by rfl, ?_⟩) hS0 ?_
        rotate_left
        · intro u hSu; obtain ⟨s0, s1⟩ := hSu; go_simp <;> with_reducible rfl
        simp only [Act.put, List.getElem_toArray, List.getElem_cons_zero, List.getElem_cons_succ, List.setIfInBounds_toArray, List.set_cons_zero, List.set_cons_succ]
        refine anyU_take (i := 4) rfl (by kernel_rfl) (by kernel_rfl) (by kernel_rfl) (by kernel_rfl) (fun _ _ _ h => h) (yieldsIf_load_mid (by rfl) 121 (.tmp 23) rfl Q 1 (by rfl) (bcells n.bytes) _ (fun _ hS => hS.2) Try.underlying121 rfl (by rw [size_content, hbl64])) hS0 ?_
        simp only [Act.put, List.getElem_toArray, List.getElem_cons_zero, List.getElem_cons_succ, List.setIfInBounds_toArray, List.set_cons_zero, List.set_cons_succ]
        obtain ⟨s0, s1⟩ := id hS0
        refine anyU_one (i := 5) (by kernel_rfl) rfl (fun K hK => ?_)
        go_simp
        refine hK.out _ _ hS0 ?_
        clear hK
        refine anyU_one (i := 6) (by kernel_rfl) rfl (fun K hK => ?_)
        go_simp
        refine hK.out _ _ hS0 ?_
        clear hK
        refine anyU_one (i := 7) (by kernel_rfl) rfl (fun K hK => ?_)
        go_simp
        refine hK.out _ _ hS0 ?_
        clear hK
        refine anyU_last (by kernel_rfl) rfl (by kernel_rfl) (fun K hK => ?_)
        rw [if_pos (by rfl)]
        refine wp_store_mid 121 (.tmp 27) (.tmp 24) rfl p (m * 64) (bcells n.bytes).toArray (by rfl) (by rfl) (by rw [List.size_toArray, hbl64]; exact there_part (hD2.d.grow (gdr (gre w2))).th (Nat.zero_le _) (by omega)) (by rw [size_content, List.size_toArray, hbl64]) (all_oneCell_toArray cells_u8) ?_
        refine hK.out _ _ ?_
        clear hK
        simp only [Act.put, List.getElem_toArray, List.getElem_cons_zero, List.getElem_cons_succ]
        have hfin := (hD2.d.grow (gdr (gre w2))).setB (x := n) hn0'.out hn1'.out hn64.out
        rw [hmt'.out, ← hst.out] at hfin
        have hKs := Kept.setCells (p := fun z => z = p) (bcells n.bytes) (m * 64) (Kept.refl _ w2.drew) (fun _ => rfl)
        go_wp2
        go_roundw
        case rel => exact ⟨k + 1, by omega, by go_num, ⟨hfin, hKs.owns (hD2.grow (gdr (gre w2))).own (fun z hz e => by have := (hD2.own.lt z hz).1; omega), h.w64⟩, hb2A.drew.trans hKs (fun _ _ e => e)⟩
        case measure => simp [intOf]; omega
      | false =>
        have hkp' : Hid _ := hkp
        have hst : Hid (settleN keepAll bl ws (k + 1) = settleN keepAll bl ws k) := by show _ = _; simp only [settleN]; rw [if_neg (by rw [hkp]; exact Bool.false_ne_true)]
        clear hkp
        go_wp2_with (go_at_call 156; refine (syncKeeps_any k _).mono ?_; rintro e w2 ⟨rfl, hb2⟩; rw [hkp'.out])
        go_roundw
        case rel => exact ⟨k + 1, by omega, by go_num, by rw [hst.out]; exact hDA.grow hb2, hbA.trans (Kept.of_below hb2 (fun z => z = p)) (fun _ _ e => e)⟩
        case measure => simp [intOf]; omega
    · obtain rfl : k = ws.length := by omega
      have x0 := hD.d.ws
      have xf := hD.d.frozen (o := 8320) (by decide)
      have hfin := hD.d.setW (.slice none 0 0)
      go_wp2
      first | go_end0 | refine bodyPost_ret (results_none rfl _ _ _) rfl ?_
      exact ⟨rfl, ⟨hfin, owns_none _ _ _ _, fun x hx => (by cases hx)⟩, hb.trans (Kept.one wr p 8320 _) (fun _ _ e => e)⟩

theorem powerSync_any (p : Nat) (bl : List (List Nat)) (pa : Option Addr) (pc : Nat) (ws : List DW) (w : World) (hw : ws.length ≤ 201) (hwb : ∀ x, x ∈ ws → 0 ≤ x.block ∧ x.block < 130) (h : Dr w p bl pa pc ws (.func (.func 156) #[] #[])) :
    Calls Try.prog 113 #[.pointer (some ⟨p, 0, none⟩)] w fun e w' => e = .returned (.tuple #[]) ∧ Dr w' p (settleN keepAll bl ws ws.length) none 0 [] (.func (.func 156) #[] #[]) ∧ Below p w w' :=
  (powerSyncK_any p bl pa pc ws w hw hwb h).mono fun _ _ ⟨he, hD, hK⟩ => ⟨he, hD, hK.below (by have := h.d.lt; omega) (fun z hz e => by omega)⟩

end Go.Proofs.Ythjddpkegooobab
