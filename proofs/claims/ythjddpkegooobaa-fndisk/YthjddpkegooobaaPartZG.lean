import Derived.Test.YthjddpkegooobaaPartZF

/-
  LSPOIL: a disk changed in one place, drawn. Own work.
-/
namespace Go.Proofs.Ythjddpkegooobaa
open Go.RowKit

def SpoilD (B : Nat) (w : World) (b : Nat) (sa : Option Addr) (bs : List Nat) (cap at_ : Nat) (e : Ending) (w' : World) : Prop :=
  ∃ (d : DD) (lb : List LB) (lw : List LW) (ba : Option Addr) (bc : Nat) (wa : Option Addr) (wc at' : Nat), e = .returned (d.val ⟨ba, bc, wa, wc⟩) ∧ d.Ok ∧ lb.map (·.l) = d.blocks ∧ lw.map (·.x) = d.waiting ∧ SB B w' ba bc lb ∧ SW B w' wa wc lw ∧ at' ≤ at_ + 100 ∧ DKB B w w' b sa bs cap at'

set_option maxHeartbeats 8000000 in
set_option maxRecDepth 100000 in
theorem l6spoild_any (B b : Nat) (sa : Option Addr) (bs : List Nat) (cap at_ : Nat) (d : DD) (lb : List LB) (lw : List LW) (ba : Option Addr) (bc : Nat) (wa : Option Addr) (wu : Nat) (w : World) (hc : DC w b sa bs cap at_) (hat : at_ + 200 < 4611686018427387904) (hbl : b < B) (hsl : ∀ g off, sa = some ⟨g, off, none⟩ → g < B) (hBw : B ≤ w.heap.size) (hok : d.ok = true) (hO : d.Ok) (mb : lb.map (·.l) = d.blocks) (mw : lw.map (·.x) = d.waiting) (sb : SB B w ba bc lb) (sw : SW B w wa wu lw) :
    Calls Try.prog 132 #[.pointer (some ⟨b, 0, none⟩), d.val ⟨ba, bc, wa, wu⟩] w (SpoilD B w b sa bs cap at_) := by
  obtain ⟨k0, hkk, hk0, hk1, hk2⟩ := info_parts info_implWrite
  have hf := DD.fit hok
  have hl130 : lb.length = 130 := by have h := hf.bl; rw [← mb] at h; simpa using h
  have hwl := hf.wl
  obtain ⟨gB, rfl⟩ : ∃ g, ba = some ⟨g, 0, none⟩ := by
    obtain ⟨g, cp, e1, _, _⟩ := sb.own.form (by omega)
    injection e1 with e2
    exact ⟨g, e2⟩
  have hbc := owns_capH sb.own
  have hA := gal (gal (gre w) (.cells #[.slice (some ⟨gB, 0, none⟩) d.blocks.length bc, .slice wa d.waiting.length wu] 44)) (.cells #[.slice none 0 0, .slice none 0 0] 44)
  have hX0 := (VB.new w (.slice (some ⟨gB, 0, none⟩) d.blocks.length bc) (.slice wa d.waiting.length wu) 44).grow (gal (gre _) (.cells #[.slice none 0 0, .slice none 0 0] 44))
  have hXd0 : IsD ((w.alloc (.cells #[.slice (some ⟨gB, 0, none⟩) d.blocks.length bc, .slice wa d.waiting.length wu] 44)).alloc (.cells #[.slice none 0 0, .slice none 0 0] 44)) w.heap.size := IsD.grow (w := w.alloc (.cells #[.slice (some ⟨gB, 0, none⟩) d.blocks.length bc, .slice wa d.waiting.length wu] 44)) ⟨_, blk_new_at _ _ _ rfl⟩ (gal (gre _) (.cells #[.slice none 0 0, .slice none 0 0] 44))
  have hR0 := VB.new_at (w.alloc (.cells #[.slice (some ⟨gB, 0, none⟩) d.blocks.length bc, .slice wa d.waiting.length wu] 44)) (.slice none 0 0) (.slice none 0 0) 44 (w.heap.size + 1) (by simp)
  have hRd0 : IsD ((w.alloc (.cells #[.slice (some ⟨gB, 0, none⟩) d.blocks.length bc, .slice wa d.waiting.length wu] 44)).alloc (.cells #[.slice none 0 0, .slice none 0 0] 44)) (w.heap.size + 1) := ⟨_, blk_new_at _ _ _ (by simp)⟩
  have hM0 : KM B w.heap.size (w.heap.size + 1) d lb lw (some ⟨gB, 0, none⟩) bc wa wu ((w.alloc (.cells #[.slice (some ⟨gB, 0, none⟩) d.blocks.length bc, .slice wa d.waiting.length wu] 44)).alloc (.cells #[.slice none 0 0, .slice none 0 0] 44)) := ⟨mb, mw, sb.grow hA, sw.grow hA, hX0, hXd0, hR0, hRd0⟩
  have hD0 : DKB B w ((w.alloc (.cells #[.slice (some ⟨gB, 0, none⟩) d.blocks.length bc, .slice wa d.waiting.length wu] 44)).alloc (.cells #[.slice none 0 0, .slice none 0 0] 44)) b sa bs cap at_ := (DKB.mk hc (Kept.refl _ w)).grow hA
  go_enter Try.func132, Try.ntmps132
  go_upto_region 1 with fail
  generalize (w.alloc (.cells #[.slice (some ⟨gB, 0, none⟩) d.blocks.length bc, .slice wa d.waiting.length wu] 44)).alloc (.cells #[.slice none 0 0, .slice none 0 0] 44) = w0 at hA hX0 hXd0 hR0 hRd0 hM0 hD0 ⊢
  obtain ⟨R, hR⟩ := hid_ex (w.heap.size + 1)
  obtain ⟨V, hV⟩ := hid_ex w.heap.size
  have hVR : R ≠ V := by have := hR.out; have := hV.out; omega
  have hRB : B ≤ R := by have := hR.out; omega
  have hVB : B ≤ V := by have := hV.out; omega
  have hwV : w.heap.size ≤ V := by have := hV.out; omega
  have hwR : w.heap.size ≤ R := by have := hR.out; omega
  rw [← hR.out] at hM0 ⊢
  rw [← hV.out] at hM0 ⊢
  clear hX0 hXd0 hR0 hRd0 hA sb sw mb mw hR hV
  go_upto_region 4 with (go_at_call_of 52 ((6 : Int)); refine (l6pick_of b sa bs cap at_ 6 6 _ rfl hD0.dc (by omega) (by omega) (by omega)).mono ?_; rintro e w1 ⟨x, at1, hx6, ha1, rfl, hk1'⟩)
  have hM := hM0.kept hk1'.kept (fun z e => by omega) hVB hRB
  have hD := hD0.trans hk1'
  clear hM0 hD0 hk1'
  by_cases hx0 : x = 0
  case pos =>
    subst hx0
    go_upto_region 5 with fail
    have hM := hM.grow (gdr (gre w1)) hVB hRB
    have hD := hD.grow (gdr (gre w1))
    refine wp_regionU (fun u => VB u V (.slice (some ⟨gB, 0, none⟩) d.blocks.length bc) (.slice wa d.waiting.length wu)) 6 (by kernel_rfl) hM.v (fun _ => ?_)
    generalize w1.drew = w2 at hM hD ⊢
    refine anyU_tk (i := 0) rfl hM.v (fun u hSu => by obtain ⟨s0, s1, _⟩ := hSu; go_simp <;> with_reducible rfl) ?_
    simp only [Act.put, List.getElem_toArray, List.getElem_cons_zero, List.setIfInBounds_toArray, List.set_cons_zero, List.set_cons_succ]
    refine anyU_tk (i := 1) rfl hM.v (fun u hSu => by obtain ⟨s0, s1, _⟩ := hSu; go_simp <;> with_reducible rfl) ?_
    simp only [Act.put, List.getElem_toArray, List.getElem_cons_zero, List.getElem_cons_succ, List.setIfInBounds_toArray, List.set_cons_zero, List.set_cons_succ]
    refine anyU_tk (i := 2) rfl hM.v (fun u hSu => by obtain ⟨s0, s1, _⟩ := hSu; go_simp <;> with_reducible rfl) ?_
    simp only [Act.put, List.getElem_toArray, List.getElem_cons_zero, List.getElem_cons_succ, List.setIfInBounds_toArray, List.set_cons_zero, List.set_cons_succ]
    refine anyU_one (i := 3) (by kernel_rfl) rfl (fun K hK => ?_)
    go_simp
    refine (l6pick_of b sa bs cap at1 3 3 _ rfl hD.dc (by omega) (by omega) (by omega)).mono ?_
    rintro e w3 ⟨x3, at3, hx3, ha3, rfl, hk3⟩
    have hM := hM.kept hk3.kept (fun z e => by omega) hVB hRB
    have hD := hD.trans hk3
    refine hK.out _ _ hM.v ?_
    clear hK
    have i0 : (0 : Int) ≤ (x3 : Int) := by omega
    have i1 : (x3 : Int) ≤ (bc : Int) := by omega
    refine anyU_tk (i := 4) (v := .slice (some ⟨gB, 0, none⟩) x3 bc) rfl hM.v (fun u hSu => by obtain ⟨s0, s1, _⟩ := hSu; go_simp <;> first | rfl | simp) ?_
    simp only [Act.put, List.getElem_toArray, List.getElem_cons_zero, List.getElem_cons_succ, List.setIfInBounds_toArray, List.set_cons_zero, List.set_cons_succ]
    refine anyU_tk (i := 5) rfl hM.v (fun u hSu => by obtain ⟨s0, s1, _⟩ := hSu; go_simp <;> with_reducible rfl) ?_
    simp only [Act.put, List.getElem_toArray, List.getElem_cons_zero, List.getElem_cons_succ, List.setIfInBounds_toArray, List.set_cons_zero, List.set_cons_succ]
    obtain ⟨y0, y1, yf⟩ := id hM.v
    refine anyU_last (by kernel_rfl) rfl (by kernel_rfl) (fun K hK => ?_)
    go_simp
    refine hK.out _ _ ?_
    clear hK
    have K6 := Kept.one w3 V 0 (.slice (some ⟨gB, 0, none⟩) x3 bc)
    have hM7 : KM B V R ⟨d.blocks.take x3, d.waiting⟩ (lb.take x3) lw (some ⟨gB, 0, none⟩) bc wa wu (w3.setCell ⟨V, 0, none⟩ (.slice (some ⟨gB, 0, none⟩) x3 bc)) :=
      ⟨by rw [List.map_take, hM.mb], hM.mw, (hM.sb.takeA (by omega) (by omega)).kept K6 (fun z e _ => by subst e; exact ⟨not_S_of_D hM.vd, not_B_of_D hM.vd⟩), hM.sw.kept K6 (fun z e _ => by subst e; exact ⟨not_W_of_D hM.vd, not_B_of_D hM.vd⟩), by have h9 := hM.v.set0 (.slice (some ⟨gB, 0, none⟩) x3 bc); rw [show (DD.mk (d.blocks.take x3) d.waiting).blocks.length = x3 by show (d.blocks.take x3).length = x3; rw [List.length_take, hf.bl]; omega]; exact h9, blk_setType hM.vd, hM.r.kept K6 hVR, hM.rd.kept K6 hVR⟩
    have hD7 := hD.put K6 (fun z e hz => absurd hz (by omega)) hbl hsl hBw
    have hO7 : (DD.mk (d.blocks.take x3) d.waiting).Ok := ⟨by show (d.blocks.take x3).length ≤ maxLen; rw [List.length_take]; have := hO.bl; omega, fun q hq => hO.bb q (List.mem_of_mem_take hq), hO.wl, hO.wi, hO.wb⟩
    generalize w3.setCell ⟨V, 0, none⟩ (.slice (some ⟨gB, 0, none⟩) x3 bc) = w7 at hM7 hD7 ⊢
    generalize DD.mk (d.blocks.take x3) d.waiting = d7 at hM7 hO7 ⊢
    clear y0 y1 yf
    obtain ⟨v0, v1, vf⟩ := id hM7.v
    obtain ⟨z0, z1, zf⟩ := id hM7.r
    obtain ⟨c0, c1, K⟩ := ret2 (A := .slice (some ⟨gB, 0, none⟩) (d7).blocks.length bc) (B := .slice wa (d7).waiting.length wu) z0 z1
    go_wp2
    refine bodyPost_ret (v := .agg #[.slice (some ⟨gB, 0, none⟩) (d7).blocks.length bc, .slice wa (d7).waiting.length wu]) (by simp [results, Try.results132, go_sem, c0, c1]) rfl ⟨d7, lb.take x3, lw, (some ⟨gB, 0, none⟩), bc, wa, wu, at3, rfl, hO7, hM7.mb, hM7.mw, ?_, ?_, by omega, hD7.put K (fun z e hz => absurd hz (by omega)) hbl hsl hBw⟩
    · exact hM7.sb.kept K (fun z e _ => by subst e; exact ⟨not_S_of_D hM7.rd, not_B_of_D hM7.rd⟩)
    · exact hM7.sw.kept K (fun z e _ => by subst e; exact ⟨not_W_of_D hM7.rd, not_B_of_D hM7.rd⟩)
  have hx0i : ¬ ((x : Int) = 0) := by omega
  by_cases hx1 : x = 1
  case pos =>
    subst hx1
    go_upto_region 7 with fail
    have hM := hM.grow (gdr (gre w1)) hVB hRB
    have hD := hD.grow (gdr (gre w1))
    refine wp_regionU (fun u => VB u V (.slice (some ⟨gB, 0, none⟩) d.blocks.length bc) (.slice wa d.waiting.length wu)) 13 (by kernel_rfl) hM.v (fun _ => ?_)
    generalize w1.drew = w2 at hM hD ⊢
    refine anyU_tk (i := 0) rfl hM.v (fun u hSu => by obtain ⟨s0, s1, _⟩ := hSu; go_simp <;> with_reducible rfl) ?_
    simp only [Act.put, List.getElem_toArray, List.getElem_cons_zero, List.setIfInBounds_toArray, List.set_cons_zero, List.set_cons_succ]
    refine anyU_tk (i := 1) rfl hM.v (fun u hSu => by obtain ⟨s0, s1, _⟩ := hSu; go_simp <;> with_reducible rfl) ?_
    simp only [Act.put, List.getElem_toArray, List.getElem_cons_zero, List.getElem_cons_succ, List.setIfInBounds_toArray, List.set_cons_zero, List.set_cons_succ]
    refine anyU_tk (i := 2) rfl hM.v (fun u hSu => by obtain ⟨s0, s1, _⟩ := hSu; go_simp <;> with_reducible rfl) ?_
    simp only [Act.put, List.getElem_toArray, List.getElem_cons_zero, List.getElem_cons_succ, List.setIfInBounds_toArray, List.set_cons_zero, List.set_cons_succ]
    refine anyU_tk (i := 3) rfl hM.v (fun u hSu => by obtain ⟨s0, s1, _⟩ := hSu; go_simp <;> with_reducible rfl) ?_
    simp only [Act.put, List.getElem_toArray, List.getElem_cons_zero, List.getElem_cons_succ, List.setIfInBounds_toArray, List.set_cons_zero, List.set_cons_succ]
    refine anyU_tk (i := 4) rfl hM.v (fun u hSu => by obtain ⟨s0, s1, _⟩ := hSu; go_simp <;> with_reducible rfl) ?_
    simp only [Act.put, List.getElem_toArray, List.getElem_cons_zero, List.getElem_cons_succ, List.setIfInBounds_toArray, List.set_cons_zero, List.set_cons_succ]
    refine anyU_tk (i := 5) rfl hM.v (fun u hSu => by obtain ⟨s0, s1, _⟩ := hSu; go_simp <;> with_reducible rfl) ?_
    simp only [Act.put, List.getElem_toArray, List.getElem_cons_zero, List.getElem_cons_succ, List.setIfInBounds_toArray, List.set_cons_zero, List.set_cons_succ]
    refine anyU_tk (i := 7) rfl hM.v (fun u hSu => by obtain ⟨s0, s1, _⟩ := hSu; go_simp <;> with_reducible rfl) ?_
    simp only [Act.put, List.getElem_toArray, List.getElem_cons_zero, List.getElem_cons_succ, List.setIfInBounds_toArray, List.set_cons_zero, List.set_cons_succ]
    refine anyU_one (i := 6) (by kernel_rfl) rfl (fun K hK => ?_)
    go_simp
    refine (l6pick_of b sa bs cap at1 130 _ _ (show (d.blocks.length : Int) = ((130 : Nat) : Int) by rw [hf.bl]) hD.dc (by omega) (by omega) (by omega)).mono ?_
    rintro e w3 ⟨j, at3, hj, ha3, rfl, hk3⟩
    have hM := hM.kept hk3.kept (fun z e => by omega) hVB hRB
    have hD := hD.trans hk3
    refine hK.out _ _ hM.v ?_
    clear hK
    refine anyU_one (i := 8) (by kernel_rfl) rfl (fun K hK => ?_)
    go_simp
    refine (l6pick_of b sa bs cap at3 2 2 _ rfl hD.dc (by omega) (by omega) (by omega)).mono ?_
    rintro e w4 ⟨x2, at4, hx2, ha4, rfl, hk4⟩
    have hM := hM.kept hk4.kept (fun z e => by omega) hVB hRB
    have hD := hD.trans hk4
    obtain ⟨n2, hn2⟩ := hid_ex (2 * x2)
    obtain ⟨n, hn⟩ := hid_ex (63 + n2)
    have hn65 : n ≤ 65 := by have := hn2.out; have := hn.out; omega
    refine hK.out _ _ hM.v ?_
    clear hK
    refine anyU_tk (i := 9) (v := .int .i64 (n2 : Int)) rfl hM.v (fun u hSu => by obtain ⟨s0, s1, _⟩ := hSu; have := hn2.out; go_simp <;> (rw [IntKind.wrap_i64]; omega)) ?_
    simp only [Act.put, List.getElem_toArray, List.getElem_cons_zero, List.getElem_cons_succ, List.setIfInBounds_toArray, List.set_cons_zero, List.set_cons_succ]
    refine anyU_tk (i := 10) (v := .int .i64 (n : Int)) rfl hM.v (fun u hSu => by obtain ⟨s0, s1, _⟩ := hSu; have := hn2.out; have := hn.out; go_simp <;> (rw [IntKind.wrap_i64]; omega)) ?_
    simp only [Act.put, List.getElem_toArray, List.getElem_cons_zero, List.getElem_cons_succ, List.setIfInBounds_toArray, List.set_cons_zero, List.set_cons_succ]
    obtain ⟨i0, hi, hz0, hz1, hz2⟩ := info_parts info_u8
    obtain ⟨Mc, hMc⟩ := hid_ex (madeCells #[Value.int .u8 0] n)
    have hmk : ∀ u : World, (Instr.makeSlice 22 (.int .i64 (n : Int)) (.int .i64 (n : Int))).run Try.prog u = .ok (.slice (some ⟨u.heap.size, 0, none⟩) n n) (u.alloc (.cells Mc 5)) := fun u => by
      have h := run_make (P := Try.prog) u 22 5 i0 _ Try.underlying22 hi hz0 .i64 .i64 (n : Int) (n : Int) (by omega) (Int.le_refl _) (by rw [hz2]; omega) (by omega)
      rw [hMc.out]
      simpa [hz1, Value.cells] using h
    refine anyU_one (i := 11) (by kernel_rfl) rfl (fun K hK => ?_)
    go_simp
    have hB2 := gal (gre w4) (.cells Mc 5)
    have hown : (w4.alloc (.cells Mc 5)).ownsRow B 5 1 (.slice (some ⟨w4.heap.size, 0, none⟩) (List.replicate n 0).length n) (List.replicate n 0).length (bcells (List.replicate n 0)) := by rw [hMc.out, List.length_replicate]; exact owns_made (by have := hD.kept.size; omega) (by unfold maxLen; omega)
    have hM := hM.grow hB2 hVB hRB
    have hD := hD.grow hB2
    refine hK.out _ _ hM.v ?_
    clear hK
    generalize w4.alloc (.cells Mc 5) = w5 at hB2 hown hM hD ⊢
    generalize w4.heap.size = Gn at hown ⊢
    have j0 : (0 : Int) ≤ (j : Int) := by omega
    have j1 : (j : Int) < (d.blocks.length : Int) := by rw [hf.bl]; omega
    refine anyU_tk (i := 12) rfl hM.v (fun u hSu => by obtain ⟨s0, s1, _⟩ := hSu; go_simp <;> with_reducible rfl) ?_
    simp only [Act.put, List.getElem_toArray, List.getElem_cons_zero, List.getElem_cons_succ, List.setIfInBounds_toArray, List.set_cons_zero, List.set_cons_succ]
    obtain ⟨y0, y1, yf⟩ := id hM.v
    obtain ⟨⟨cv, hcv⟩, hfz⟩ := owns_at hM.sb.own (j := j) (by omega)
    refine anyU_last (by kernel_rfl) rfl (by kernel_rfl) (fun K hK => ?_)
    go_simp
    refine hK.out _ _ ?_
    clear hK
    have hS7 := hM.sb.setAt (y := ⟨List.replicate n 0, some ⟨Gn, 0, none⟩, n⟩) (j := j) (by omega) hown
    simp only [LB.v, List.length_replicate] at hS7
    have hgS := (owns_isS hM.sb.own (z := gB) rfl)
    have K6 := Kept.one w5 gB j (.slice (some ⟨Gn, 0, none⟩) n n)
    have hVg : V ≠ gB := fun e => not_S_of_D hM.vd (by rw [e]; exact hgS.1)
    have hRg : R ≠ gB := fun e => not_S_of_D hM.rd (by rw [e]; exact hgS.1)
    have hM7 : KM B V R ⟨d.blocks.set j (List.replicate n 0), d.waiting⟩ (lb.set j ⟨List.replicate n 0, some ⟨Gn, 0, none⟩, n⟩) lw (some ⟨gB, 0, none⟩) bc wa wu (w5.setCell ⟨gB, j, none⟩ (.slice (some ⟨Gn, 0, none⟩) n n)) :=
      ⟨by rw [List.map_set, hM.mb], hM.mw, hS7, hM.sw.kept K6 (fun z e _ => by subst e; exact ⟨not_W_of_S hgS.1, not_B_of_S hgS.1⟩), by have h9 := hM.v.kept K6 hVg; rw [show (DD.mk (d.blocks.set j (List.replicate n 0)) d.waiting).blocks.length = d.blocks.length by show (d.blocks.set j (List.replicate n 0)).length = _; rw [List.length_set]]; exact h9, hM.vd.kept K6 hVg, hM.r.kept K6 hRg, hM.rd.kept K6 hRg⟩
    have hD7 := hD.put K6 (fun z e _ => by subst e; exact ⟨hgS.2, fun hD => not_S_of_D hD hgS.1⟩) hbl hsl hBw
    have hO7 : (DD.mk (d.blocks.set j (List.replicate n 0)) d.waiting).Ok := ⟨by show (d.blocks.set j (List.replicate n 0)).length ≤ maxLen; rw [List.length_set]; exact hO.bl, fun q hq => by
      rcases List.mem_or_eq_of_mem_set hq with e | e
      · exact hO.bb q e
      · rw [e]; exact ⟨by rw [List.length_replicate]; unfold maxLen; omega, fun x hx => by rw [List.eq_of_mem_replicate hx]; decide⟩, hO.wl, hO.wi, hO.wb⟩
    generalize w5.setCell ⟨gB, j, none⟩ (.slice (some ⟨Gn, 0, none⟩) n n) = w7 at hM7 hD7 ⊢
    generalize DD.mk (d.blocks.set j (List.replicate n 0)) d.waiting = d7 at hM7 hO7 ⊢
    clear y0 y1 yf hcv hfz
    obtain ⟨v0, v1, vf⟩ := id hM7.v
    obtain ⟨z0, z1, zf⟩ := id hM7.r
    obtain ⟨c0, c1, K⟩ := ret2 (A := .slice (some ⟨gB, 0, none⟩) (d7).blocks.length bc) (B := .slice wa (d7).waiting.length wu) z0 z1
    go_wp2
    refine bodyPost_ret (v := .agg #[.slice (some ⟨gB, 0, none⟩) (d7).blocks.length bc, .slice wa (d7).waiting.length wu]) (by simp [results, Try.results132, go_sem, c0, c1]) rfl ⟨d7, _, lw, (some ⟨gB, 0, none⟩), bc, wa, wu, at4, rfl, hO7, hM7.mb, hM7.mw, ?_, ?_, by omega, hD7.put K (fun z e hz => absurd hz (by omega)) hbl hsl hBw⟩
    · exact hM7.sb.kept K (fun z e _ => by subst e; exact ⟨not_S_of_D hM7.rd, not_B_of_D hM7.rd⟩)
    · exact hM7.sw.kept K (fun z e _ => by subst e; exact ⟨not_W_of_D hM7.rd, not_B_of_D hM7.rd⟩)
  have hx1i : ¬ ((x : Int) = 1) := by omega
  by_cases hx2 : x = 2
  case pos =>
    subst hx2
    go_upto_region 9 with fail
    have hM := hM.grow (gdr (gre w1)) hVB hRB
    have hD := hD.grow (gdr (gre w1))
    refine wp_regionU (fun u => VB u V (.slice (some ⟨gB, 0, none⟩) d.blocks.length bc) (.slice wa d.waiting.length wu)) 11 (by kernel_rfl) hM.v (fun _ => ?_)
    generalize w1.drew = w2 at hM hD ⊢
    refine anyU_tk (i := 0) rfl hM.v (fun u hSu => by obtain ⟨s0, s1, _⟩ := hSu; go_simp <;> with_reducible rfl) ?_
    simp only [Act.put, List.getElem_toArray, List.getElem_cons_zero, List.setIfInBounds_toArray, List.set_cons_zero, List.set_cons_succ]
    refine anyU_tk (i := 1) rfl hM.v (fun u hSu => by obtain ⟨s0, s1, _⟩ := hSu; go_simp <;> with_reducible rfl) ?_
    simp only [Act.put, List.getElem_toArray, List.getElem_cons_zero, List.getElem_cons_succ, List.setIfInBounds_toArray, List.set_cons_zero, List.set_cons_succ]
    refine anyU_tk (i := 2) rfl hM.v (fun u hSu => by obtain ⟨s0, s1, _⟩ := hSu; go_simp <;> with_reducible rfl) ?_
    simp only [Act.put, List.getElem_toArray, List.getElem_cons_zero, List.getElem_cons_succ, List.setIfInBounds_toArray, List.set_cons_zero, List.set_cons_succ]
    refine anyU_tk (i := 5) rfl hM.v (fun u hSu => by obtain ⟨s0, s1, _⟩ := hSu; go_simp <;> with_reducible rfl) ?_
    simp only [Act.put, List.getElem_toArray, List.getElem_cons_zero, List.getElem_cons_succ, List.setIfInBounds_toArray, List.set_cons_zero, List.set_cons_succ]
    refine anyU_one (i := 3) (by kernel_rfl) rfl (fun K hK => ?_)
    go_simp
    refine (l6pick_of b sa bs cap at1 2 2 _ rfl hD.dc (by omega) (by omega) (by omega)).mono ?_
    rintro e w3 ⟨x3, at3, hx3, ha3, rfl, hk3⟩
    have hM := hM.kept hk3.kept (fun z e => by omega) hVB hRB
    have hD := hD.trans hk3
    obtain ⟨kb, hkb⟩ := hid_ex (130 - x3)
    refine hK.out _ _ hM.v ?_
    clear hK
    refine anyU_tk (i := 4) (v := .int .i64 (kb : Int)) rfl hM.v (fun u hSu => by obtain ⟨s0, s1, _⟩ := hSu; have := hkb.out; go_simp <;> (rw [IntKind.wrap_i64]; omega)) ?_
    simp only [Act.put, List.getElem_toArray, List.getElem_cons_zero, List.getElem_cons_succ, List.setIfInBounds_toArray, List.set_cons_zero, List.set_cons_succ]
    refine anyU_one (i := 6) (by kernel_rfl) rfl (fun K hK => ?_)
    go_simp
    refine (l6block_any b sa bs cap at3 _ hD.dc (by omega)).mono ?_
    rintro e w4 ⟨Gb, ys, at7, hyl, hyb, ha7, rfl, hGb, hBr, hk7⟩
    have hsz3 := hD.kept.size
    have hM := hM.kept hk7.kept (fun z e => by omega) hVB hRB
    have hD := hD.trans hk7
    rw [show (64 : Nat) = ys.length from hyl.out.symm]
    refine hK.out _ _ hM.v ?_
    clear hK
    have hy : w4.ownsRow B 5 1 (.slice (some ⟨Gb, 0, none⟩) ys.length ys.length) ys.length (bcells ys) := brow_ownsD (by rw [hyl.out]; exact hBr) (by omega) (by rw [hyl.out]; decide)
    refine anyU_tk (i := 7) rfl hM.v (fun u hSu => by obtain ⟨s0, s1, _⟩ := hSu; go_simp <;> with_reducible rfl) ?_
    simp only [Act.put, List.getElem_toArray, List.getElem_cons_zero, List.getElem_cons_succ, List.setIfInBounds_toArray, List.set_cons_zero, List.set_cons_succ]
    refine anyU_one (i := 8) (by kernel_rfl) rfl (fun K hK => ?_)
    go_simp
    have hB2 := gal (gre w4) (.cells #[.int .i64 (kb : Int), .slice (some ⟨Gb, 0, none⟩) ys.length ys.length] 104)
    have hM5 := hM.grow hB2 hVB hRB
    have hD5 := hD.grow hB2
    refine hK.out _ _ hM5.v ?_
    clear hK
    have hy2 := (Kept.of_below hB2 (fun _ => False)).owns hy (fun _ _ e => e)
    have hnew := World.news_of_block (cs := #[.int .i64 (kb : Int), .slice (some ⟨Gb, 0, none⟩) ys.length ys.length]) (t := 104) (fr := (0, 0)) (blk_new_at w4 (.cells #[.int .i64 (kb : Int), .slice (some ⟨Gb, 0, none⟩) ys.length ys.length] 104) _ rfl)
    have hs2 : (w4.alloc (.cells #[.int .i64 (kb : Int), .slice (some ⟨Gb, 0, none⟩) ys.length ys.length] 104)).heap.size = w4.heap.size + 1 := by simp
    generalize w4.alloc (.cells #[.int .i64 (kb : Int), .slice (some ⟨Gb, 0, none⟩) ys.length ys.length] 104) = w5 at hB2 hM5 hD5 hy2 hnew hs2 ⊢
    have hlwl : Hid (lw.length = d.waiting.length) := by show _ = _; rw [← hM.mw]; simp
    refine anyU_one (i := 9) (by kernel_rfl) rfl (fun K hK => ?_)
    refine step_append_lies _ (by rfl) (.tmp 49) (.tmp 56) 42 rfl B 104 k0 _ 2 32 Try.underlying42 hkk hk0 hk1 hk2 rfl (by decide) (.slice wa d.waiting.length wu) d.waiting.length (wCells lw) (by rfl) (by have := hM5.sw.own; rw [hlwl.out] at this; exact this) ⟨w4.heap.size, 0, none⟩ 1 1 [.int .i64 (kb : Int), .slice (some ⟨Gb, 0, none⟩) ys.length ys.length] (by rfl) rfl hnew (by simp [Value.oneCell']) (by decide) (by unfold maxLen; omega) (by omega) (by have := hD5.kept.size; omega) (w4.heap.size + 1) hs2 ?_
    intro gg cc w6 hown5 hgrow5 hat5 hlt5
    have K5 := Kept.of_grown hgrow5
    have hz5 : ∀ z, (Value.slice wa d.waiting.length wu).ownBlock = some z → IsW w5 z ∧ B ≤ z := fun z e => by have h8 := hM5.sw.own; rw [hlwl.out] at h8; exact owns_isW h8 e
    have hW5 := hM5.sw.push (y := ⟨⟨(kb : Int), ys⟩, (some ⟨Gb, 0, none⟩), ys.length⟩) hy2 (by rw [hlwl.out]; exact hown5) (by rw [hlwl.out]; exact hgrow5)
    have hL5 := hM5.sb.kept K5 (fun z e _ => ⟨fun hS => not_W_of_S hS (hz5 z e).1, not_B_of_W (hz5 z e).1⟩)
    have hV5 := hM5.v.kept K5 (fun e => not_W_of_D hM5.vd (hz5 _ e).1)
    have hR5 := hM5.r.kept K5 (fun e => not_W_of_D hM5.rd (hz5 _ e).1)
    have hVd5 := hM5.vd.kept K5 (fun e => not_W_of_D hM5.vd (hz5 _ e).1)
    have hRd5 := hM5.rd.kept K5 (fun e => not_W_of_D hM5.rd (hz5 _ e).1)
    have hD6 := hD5.put K5 (fun z e _ => ⟨(hz5 z e).2, fun hD => not_W_of_D hD (hz5 z e).1⟩) hbl hsl hBw
    refine hK.out _ _ hV5 ?_
    clear hK
    simp only [Act.put, List.getElem_toArray, List.getElem_cons_zero, List.getElem_cons_succ, List.setIfInBounds_toArray, List.set_cons_zero, List.set_cons_succ]
    refine anyU_one (i := 10) (by kernel_rfl) rfl (fun K hK => ?_)
    go_simp
    refine hK.out _ _ hV5 ?_
    clear hK
    have fz := hV5.vf
    have c8 := hV5.v1
    refine anyU_last (by kernel_rfl) rfl (by kernel_rfl) (fun K hK => ?_)
    go_simp
    refine hK.out _ _ ?_
    clear hK
    have K6 := Kept.one w6 V 1 (.slice (some ⟨gg, 0, none⟩) (d.waiting.length + 1) cc)
    have hM7 : KM B V R ⟨d.blocks, d.waiting ++ [⟨(kb : Int), ys⟩]⟩ lb (lw ++ [⟨⟨(kb : Int), ys⟩, (some ⟨Gb, 0, none⟩), ys.length⟩]) (some ⟨gB, 0, none⟩) bc (some ⟨gg, 0, none⟩) cc (w6.setCell ⟨V, 1, none⟩ (.slice (some ⟨gg, 0, none⟩) (d.waiting.length + 1) cc)) :=
      ⟨hM5.mb, by rw [List.map_append, hM5.mw]; rfl, hL5.kept K6 (fun z e _ => by subst e; exact ⟨not_S_of_D hVd5, not_B_of_D hVd5⟩), hW5.kept K6 (fun z e _ => by subst e; exact ⟨not_W_of_D hVd5, not_B_of_D hVd5⟩), by have h9 := hV5.set1 (.slice (some ⟨gg, 0, none⟩) (d.waiting.length + 1) cc); simpa using h9, blk_setType hVd5, hR5.kept K6 (by omega), hRd5.kept K6 (by omega)⟩
    have hD7 := hD6.put K6 (fun z e hz => absurd hz (by omega)) hbl hsl hBw
    generalize w6.setCell ⟨V, 1, none⟩ (.slice (some ⟨gg, 0, none⟩) (d.waiting.length + 1) cc) = w7 at hM7 hD7 ⊢
    clear K6 K5 hL5 hW5 hV5 hR5 hVd5 hRd5 hD6 hM5 hD5 fz c8 hown5 hgrow5 hat5 hlt5 hz5 hnew hy2
    have hO7 := app_OkA (k := (kb : Int)) (ys := ys) hO hwl (small_i64 (by have := hkb.out; omega)) ⟨by rw [hyl.out]; decide, hyb⟩
    generalize DD.mk d.blocks (d.waiting ++ [⟨(kb : Int), ys⟩]) = d7 at hM7 hO7 ⊢
    obtain ⟨v0, v1, vf⟩ := id hM7.v
    obtain ⟨z0, z1, zf⟩ := id hM7.r
    obtain ⟨c0, c1, K⟩ := ret2 (A := .slice (some ⟨gB, 0, none⟩) (d7).blocks.length bc) (B := .slice (some ⟨gg, 0, none⟩) (d7).waiting.length cc) z0 z1
    go_wp2
    refine bodyPost_ret (v := .agg #[.slice (some ⟨gB, 0, none⟩) (d7).blocks.length bc, .slice (some ⟨gg, 0, none⟩) (d7).waiting.length cc]) (by simp [results, Try.results132, go_sem, c0, c1]) rfl ⟨d7, lb, _, (some ⟨gB, 0, none⟩), bc, (some ⟨gg, 0, none⟩), cc, at7, rfl, hO7, hM7.mb, hM7.mw, ?_, ?_, by omega, hD7.put K (fun z e hz => absurd hz (by omega)) hbl hsl hBw⟩
    · exact hM7.sb.kept K (fun z e _ => by subst e; exact ⟨not_S_of_D hM7.rd, not_B_of_D hM7.rd⟩)
    · exact hM7.sw.kept K (fun z e _ => by subst e; exact ⟨not_W_of_D hM7.rd, not_B_of_D hM7.rd⟩)
  have hx2i : ¬ ((x : Int) = 2) := by omega
  by_cases hx3 : x = 3
  case pos =>
    subst hx3
    go_upto_region 11 with fail
    have hM := hM.grow (gdr (gre w1)) hVB hRB
    have hD := hD.grow (gdr (gre w1))
    refine wp_regionU (fun u => VB u V (.slice (some ⟨gB, 0, none⟩) d.blocks.length bc) (.slice wa d.waiting.length wu)) 7 (by kernel_rfl) hM.v (fun _ => ?_)
    generalize w1.drew = w2 at hM hD ⊢
    refine anyU_tk (i := 0) rfl hM.v (fun u hSu => by obtain ⟨s0, s1, _⟩ := hSu; go_simp <;> with_reducible rfl) ?_
    simp only [Act.put, List.getElem_toArray, List.getElem_cons_zero, List.setIfInBounds_toArray, List.set_cons_zero, List.set_cons_succ]
    refine anyU_tk (i := 1) rfl hM.v (fun u hSu => by obtain ⟨s0, s1, _⟩ := hSu; go_simp <;> with_reducible rfl) ?_
    simp only [Act.put, List.getElem_toArray, List.getElem_cons_zero, List.getElem_cons_succ, List.setIfInBounds_toArray, List.set_cons_zero, List.set_cons_succ]
    obtain ⟨i0, hi, hz0, hz1, hz2⟩ := info_parts info_u8
    obtain ⟨Mc, hMc⟩ := hid_ex (madeCells #[Value.int .u8 0] 3)
    obtain ⟨ys, hys⟩ := hid_ex (List.replicate 3 0)
    have hyl : ys.length = 3 := by rw [hys.out]; rfl
    have hmk : ∀ u : World, (Instr.makeSlice 22 (.int .i64 3) (.int .i64 3)).run Try.prog u = .ok (.slice (some ⟨u.heap.size, 0, none⟩) ys.length ys.length) (u.alloc (.cells Mc 5)) := fun u => by
      have h := run_make (P := Try.prog) u 22 5 i0 _ Try.underlying22 hi hz0 .i64 .i64 3 3 (by omega) (Int.le_refl _) (by rw [hz2]; omega) (by omega)
      rw [hMc.out, hyl]
      simpa [hz1, Value.cells] using h
    have hyl' : Hid (ys.length = 3) := hyl
    clear hyl
    refine anyU_one (i := 2) (by kernel_rfl) rfl (fun K hK => ?_)
    go_simp
    have hB1 := gal (gre w2) (.cells Mc 5)
    have hy : (w2.alloc (.cells Mc 5)).ownsRow B 5 1 (.slice (some ⟨w2.heap.size, 0, none⟩) ys.length ys.length) ys.length (bcells ys) := by rw [hyl'.out, hMc.out, hys.out]; exact owns_made (by have := hD.kept.size; omega) (by unfold maxLen; omega)
    have hM := hM.grow hB1 hVB hRB
    have hD := hD.grow hB1
    refine hK.out _ _ hM.v ?_
    clear hK
    generalize w2.alloc (.cells Mc 5) = w4 at hB1 hy hM hD ⊢
    generalize w2.heap.size = Gb at hy ⊢
    refine anyU_tk (i := 3) rfl hM.v (fun u hSu => by obtain ⟨s0, s1, _⟩ := hSu; go_simp <;> with_reducible rfl) ?_
    simp only [Act.put, List.getElem_toArray, List.getElem_cons_zero, List.getElem_cons_succ, List.setIfInBounds_toArray, List.set_cons_zero, List.set_cons_succ]
    refine anyU_one (i := 4) (by kernel_rfl) rfl (fun K hK => ?_)
    go_simp
    have hB2 := gal (gre w4) (.cells #[.int .i64 (0 : Int), .slice (some ⟨Gb, 0, none⟩) ys.length ys.length] 104)
    have hM5 := hM.grow hB2 hVB hRB
    have hD5 := hD.grow hB2
    refine hK.out _ _ hM5.v ?_
    clear hK
    have hy2 := (Kept.of_below hB2 (fun _ => False)).owns hy (fun _ _ e => e)
    have hnew := World.news_of_block (cs := #[.int .i64 (0 : Int), .slice (some ⟨Gb, 0, none⟩) ys.length ys.length]) (t := 104) (fr := (0, 0)) (blk_new_at w4 (.cells #[.int .i64 (0 : Int), .slice (some ⟨Gb, 0, none⟩) ys.length ys.length] 104) _ rfl)
    have hs2 : (w4.alloc (.cells #[.int .i64 (0 : Int), .slice (some ⟨Gb, 0, none⟩) ys.length ys.length] 104)).heap.size = w4.heap.size + 1 := by simp
    generalize w4.alloc (.cells #[.int .i64 (0 : Int), .slice (some ⟨Gb, 0, none⟩) ys.length ys.length] 104) = w5 at hB2 hM5 hD5 hy2 hnew hs2 ⊢
    have hlwl : Hid (lw.length = d.waiting.length) := by show _ = _; rw [← hM.mw]; simp
    refine anyU_one (i := 5) (by kernel_rfl) rfl (fun K hK => ?_)
    refine step_append_lies _ (by rfl) (.tmp 62) (.tmp 65) 42 rfl B 104 k0 _ 2 32 Try.underlying42 hkk hk0 hk1 hk2 rfl (by decide) (.slice wa d.waiting.length wu) d.waiting.length (wCells lw) (by rfl) (by have := hM5.sw.own; rw [hlwl.out] at this; exact this) ⟨w4.heap.size, 0, none⟩ 1 1 [.int .i64 (0 : Int), .slice (some ⟨Gb, 0, none⟩) ys.length ys.length] (by rfl) rfl hnew (by simp [Value.oneCell']) (by decide) (by unfold maxLen; omega) (by omega) (by have := hD5.kept.size; omega) (w4.heap.size + 1) hs2 ?_
    intro gg cc w6 hown5 hgrow5 hat5 hlt5
    have K5 := Kept.of_grown hgrow5
    have hz5 : ∀ z, (Value.slice wa d.waiting.length wu).ownBlock = some z → IsW w5 z ∧ B ≤ z := fun z e => by have h8 := hM5.sw.own; rw [hlwl.out] at h8; exact owns_isW h8 e
    have hW5 := hM5.sw.push (y := ⟨⟨(0 : Int), ys⟩, (some ⟨Gb, 0, none⟩), ys.length⟩) hy2 (by rw [hlwl.out]; exact hown5) (by rw [hlwl.out]; exact hgrow5)
    have hL5 := hM5.sb.kept K5 (fun z e _ => ⟨fun hS => not_W_of_S hS (hz5 z e).1, not_B_of_W (hz5 z e).1⟩)
    have hV5 := hM5.v.kept K5 (fun e => not_W_of_D hM5.vd (hz5 _ e).1)
    have hR5 := hM5.r.kept K5 (fun e => not_W_of_D hM5.rd (hz5 _ e).1)
    have hVd5 := hM5.vd.kept K5 (fun e => not_W_of_D hM5.vd (hz5 _ e).1)
    have hRd5 := hM5.rd.kept K5 (fun e => not_W_of_D hM5.rd (hz5 _ e).1)
    have hD6 := hD5.put K5 (fun z e _ => ⟨(hz5 z e).2, fun hD => not_W_of_D hD (hz5 z e).1⟩) hbl hsl hBw
    refine hK.out _ _ hV5 ?_
    clear hK
    simp only [Act.put, List.getElem_toArray, List.getElem_cons_zero, List.getElem_cons_succ, List.setIfInBounds_toArray, List.set_cons_zero, List.set_cons_succ]
    refine anyU_one (i := 6) (by kernel_rfl) rfl (fun K hK => ?_)
    go_simp
    refine hK.out _ _ hV5 ?_
    clear hK
    have fz := hV5.vf
    have c8 := hV5.v1
    refine anyU_last (by kernel_rfl) rfl (by kernel_rfl) (fun K hK => ?_)
    go_simp
    refine hK.out _ _ ?_
    clear hK
    have K6 := Kept.one w6 V 1 (.slice (some ⟨gg, 0, none⟩) (d.waiting.length + 1) cc)
    have hM7 : KM B V R ⟨d.blocks, d.waiting ++ [⟨(0 : Int), ys⟩]⟩ lb (lw ++ [⟨⟨(0 : Int), ys⟩, (some ⟨Gb, 0, none⟩), ys.length⟩]) (some ⟨gB, 0, none⟩) bc (some ⟨gg, 0, none⟩) cc (w6.setCell ⟨V, 1, none⟩ (.slice (some ⟨gg, 0, none⟩) (d.waiting.length + 1) cc)) :=
      ⟨hM5.mb, by rw [List.map_append, hM5.mw]; rfl, hL5.kept K6 (fun z e _ => by subst e; exact ⟨not_S_of_D hVd5, not_B_of_D hVd5⟩), hW5.kept K6 (fun z e _ => by subst e; exact ⟨not_W_of_D hVd5, not_B_of_D hVd5⟩), by have h9 := hV5.set1 (.slice (some ⟨gg, 0, none⟩) (d.waiting.length + 1) cc); simpa using h9, blk_setType hVd5, hR5.kept K6 (by omega), hRd5.kept K6 (by omega)⟩
    have hD7 := hD6.put K6 (fun z e hz => absurd hz (by omega)) hbl hsl hBw
    generalize w6.setCell ⟨V, 1, none⟩ (.slice (some ⟨gg, 0, none⟩) (d.waiting.length + 1) cc) = w7 at hM7 hD7 ⊢
    clear K6 K5 hL5 hW5 hV5 hR5 hVd5 hRd5 hD6 hM5 hD5 fz c8 hown5 hgrow5 hat5 hlt5 hz5 hnew hy2
    have hO7 := app_OkA (k := (0 : Int)) (ys := ys) hO hwl (small_i64 (by omega)) ⟨by rw [hyl'.out]; decide, by rw [hys.out]; intro x hx; rw [List.eq_of_mem_replicate hx]; decide⟩
    generalize DD.mk d.blocks (d.waiting ++ [⟨(0 : Int), ys⟩]) = d7 at hM7 hO7 ⊢
    obtain ⟨v0, v1, vf⟩ := id hM7.v
    obtain ⟨z0, z1, zf⟩ := id hM7.r
    obtain ⟨c0, c1, K⟩ := ret2 (A := .slice (some ⟨gB, 0, none⟩) (d7).blocks.length bc) (B := .slice (some ⟨gg, 0, none⟩) (d7).waiting.length cc) z0 z1
    go_wp2
    refine bodyPost_ret (v := .agg #[.slice (some ⟨gB, 0, none⟩) (d7).blocks.length bc, .slice (some ⟨gg, 0, none⟩) (d7).waiting.length cc]) (by simp [results, Try.results132, go_sem, c0, c1]) rfl ⟨d7, lb, _, (some ⟨gB, 0, none⟩), bc, (some ⟨gg, 0, none⟩), cc, at1, rfl, hO7, hM7.mb, hM7.mw, ?_, ?_, by omega, hD7.put K (fun z e hz => absurd hz (by omega)) hbl hsl hBw⟩
    · exact hM7.sb.kept K (fun z e _ => by subst e; exact ⟨not_S_of_D hM7.rd, not_B_of_D hM7.rd⟩)
    · exact hM7.sw.kept K (fun z e _ => by subst e; exact ⟨not_W_of_D hM7.rd, not_B_of_D hM7.rd⟩)
  have hx3i : ¬ ((x : Int) = 3) := by omega
  have hS4 : ∀ j, j < 130 → w1.cell? ⟨gB, j, none⟩ = some (lb[j]!.v) := fun j hj => by
    obtain ⟨gx, hgx, _, _, hcx⟩ := owns_cell hM.sb.own (LB.get (i := j) (by omega))
    obtain rfl := some_addr hgx
    exact hcx
  go_upto_region 2 with fail
  refine wp_regionU (fun u => VB u V (.slice (some ⟨gB, 0, none⟩) d.blocks.length bc) (.slice wa d.waiting.length wu) ∧ ∀ j, j < 130 → u.cell? ⟨gB, j, none⟩ = some (lb[j]!.v)) 99 (by kernel_rfl) ⟨(hM.grow (gdr (gre w1)) hVB hRB).v, hS4⟩ (fun _ => ?_)
  have hM := hM.grow (gdr (gre w1)) hVB hRB
  have hD := hD.grow (gdr (gre w1))
  have hS4 : ∀ j, j < 130 → w1.drew.cell? ⟨gB, j, none⟩ = some (lb[j]!.v) := hS4
  generalize w1.drew = w2 at hM hD hS4 ⊢
  refine anyU_tk (i := 0) rfl ⟨hM.v, hS4⟩ (fun u hSu => by obtain ⟨⟨s0, s1, _⟩, s2⟩ := hSu; go_simp <;> with_reducible rfl) ?_
  simp only [Act.put, List.getElem_toArray, List.getElem_cons_zero, List.setIfInBounds_toArray, List.set_cons_zero, List.set_cons_succ]
  refine anyU_tk (i := 1) rfl ⟨hM.v, hS4⟩ (fun u hSu => by obtain ⟨⟨s0, s1, _⟩, s2⟩ := hSu; go_simp <;> with_reducible rfl) ?_
  simp only [Act.put, List.getElem_toArray, List.getElem_cons_zero, List.getElem_cons_succ, List.setIfInBounds_toArray, List.set_cons_zero, List.set_cons_succ]
  refine anyU_tk (i := 2) rfl ⟨hM.v, hS4⟩ (fun u hSu => by obtain ⟨⟨s0, s1, _⟩, s2⟩ := hSu; go_simp <;> with_reducible rfl) ?_
  simp only [Act.put, List.getElem_toArray, List.getElem_cons_zero, List.getElem_cons_succ, List.setIfInBounds_toArray, List.set_cons_zero, List.set_cons_succ]
  refine anyU_one (i := 3) (by kernel_rfl) rfl (fun K hK => ?_)
  go_simp
  refine (l6pick_of b sa bs cap at1 4 4 _ rfl hD.dc (by omega) (by omega) (by omega)).mono ?_
  rintro e w3 ⟨j, at3, hj4, ha3, rfl, hk3⟩
  have hM := hM.kept hk3.kept (fun z e => by omega) hVB hRB
  have hD := hD.trans hk3
  have hS4 : ∀ j, j < 130 → w3.cell? ⟨gB, j, none⟩ = some (lb[j]!.v) := fun j hj => by
    obtain ⟨gx, hgx, _, _, hcx⟩ := owns_cell hM.sb.own (LB.get (i := j) (by omega))
    obtain rfl := some_addr hgx
    exact hcx
  obtain ⟨xb, hxb⟩ := hid_ex lb[j]!
  have hxm : xb ∈ lb := by rw [hxb.out]; exact mem_at (by omega)
  have hxl : Hid (xb.l.length = 64) := hf.bb xb.l (by rw [← hM.mb]; exact List.mem_map_of_mem hxm)
  obtain ⟨gj, hgj⟩ : ∃ g, xb.a = some ⟨g, 0, none⟩ := by
    obtain ⟨g, cp, e1, _, _⟩ := (hM.sb.byt xb hxm).form (by rw [hxl.out]; decide)
    injection e1 with e2
    exact ⟨g, e2⟩
  have i0 : (0 : Int) ≤ (j : Int) := by omega
  have i1 : (j : Int) < (d.blocks.length : Int) := by rw [hf.bl]; omega
  refine hK.out _ _ ⟨hM.v, hS4⟩ ?_
  clear hK
  refine anyU_tk (i := 4) rfl ⟨hM.v, hS4⟩ (fun u hSu => by obtain ⟨⟨s0, s1, _⟩, s2⟩ := hSu; go_simp <;> with_reducible rfl) ?_
  simp only [Act.put, List.getElem_toArray, List.getElem_cons_zero, List.getElem_cons_succ, List.setIfInBounds_toArray, List.set_cons_zero, List.set_cons_succ]
  refine anyU_tk (i := 5) (v := .slice (some ⟨gj, 0, none⟩) xb.l.length xb.cap) rfl ⟨hM.v, hS4⟩ (fun u hSu => by obtain ⟨⟨s0, s1, _⟩, s2⟩ := hSu; have s3 := s2 j (by omega); rw [← hxb.out] at s3; unfold LB.v at s3; rw [hgj] at s3; go_simp <;> first | rfl | simp) ?_
  simp only [Act.put, List.getElem_toArray, List.getElem_cons_zero, List.getElem_cons_succ, List.setIfInBounds_toArray, List.set_cons_zero, List.set_cons_succ]
  refine anyU_tk (i := 6) rfl ⟨hM.v, hS4⟩ (fun u hSu => by obtain ⟨⟨s0, s1, _⟩, s2⟩ := hSu; go_simp <;> with_reducible rfl) ?_
  simp only [Act.put, List.getElem_toArray, List.getElem_cons_zero, List.getElem_cons_succ, List.setIfInBounds_toArray, List.set_cons_zero, List.set_cons_succ]
  refine anyU_done (by kernel_rfl) ?_
  have hgB := owns_isB (hM.sb.byt xb hxm) (z := gj) (by rw [hgj]; rfl)
  go_upto_region 12 with (first
    | (go_at_call 52; refine (l6pick_of b sa bs cap at3 64 _ _ (show (xb.l.length : Int) = ((64 : Nat) : Int) by rw [hxl.out]) hD.dc (by omega) (by omega) (by omega)).mono ?_; rintro e w4 ⟨y, at4, hy64, ha4, rfl, hk4⟩)
    | (go_at_call 109; refine (l6next_any b sa bs cap at4 _ hk4.dc (by omega)).mono ?_; rintro e w5 ⟨v, hv, rfl, hk5⟩; have e8 : IntKind.u8.wrap (v : Int) = (v : Int) := (by rw [IntKind.wrap_u8']; omega); have j0 : (0 : Int) ≤ (y : Int) := (by omega); have j1 : (y : Int) < (xb.l.length : Int) := (by rw [hxl.out]; omega); have hM := (hM.kept hk4.kept (fun z e => by omega) hVB hRB).kept hk5.kept (fun z e => by omega) hVB hRB; have hown := hM.sb.byt xb hxm; rw [hgj] at hown; obtain ⟨⟨cv, hcv⟩, hfz⟩ := owns_at hown (j := y) (by rw [hxl.out]; omega)))
  have hD := (hD.trans hk4).trans hk5
  have hgB := owns_isB (hM.sb.byt xb hxm) (z := gj) (by rw [hgj]; rfl)
  have K6 := Kept.one w5 gj y (.int .u8 (v : Int))
  have hVg : V ≠ gj := fun e => not_B_of_D hM.vd (by rw [e]; exact hgB.1)
  have hRg : R ≠ gj := fun e => not_B_of_D hM.rd (by rw [e]; exact hgB.1)
  have lz1 : ((lb.map (flipL gj y v)).map (·.l)).length = d.blocks.length := by rw [List.length_map, List.length_map, ← hM.mb, List.length_map]
  have lz2 : ((lw.map (flipW gj y v)).map (·.x)).length = d.waiting.length := by rw [List.length_map, List.length_map, ← hM.mw, List.length_map]
  have hM7 : KM B V R ⟨(lb.map (flipL gj y v)).map (·.l), (lw.map (flipW gj y v)).map (·.x)⟩ (lb.map (flipL gj y v)) (lw.map (flipW gj y v)) (some ⟨gB, 0, none⟩) bc wa wu (w5.setCell ⟨gj, y, none⟩ (.int .u8 (v : Int))) :=
    ⟨rfl, rfl, hM.sb.flipA hgB.1, hM.sw.flipA hgB.1, by have h9 := hM.v.kept K6 hVg; rw [← lz1, ← lz2] at h9; exact h9, hM.vd.kept K6 hVg, hM.r.kept K6 hRg, hM.rd.kept K6 hRg⟩
  have hD7 := hD.put K6 (fun z e _ => by subst e; exact ⟨hgB.2, fun hD => not_B_of_D hD hgB.1⟩) hbl hsl hBw
  have hO7 := flip_OkA hO hM.mb hM.mw (g := gj) (y := y) hv
  generalize w5.setCell ⟨gj, y, none⟩ (.int .u8 (v : Int)) = w7 at hM7 hD7 ⊢
  generalize DD.mk ((lb.map (flipL gj y v)).map (·.l)) ((lw.map (flipW gj y v)).map (·.x)) = d7 at hM7 hO7 ⊢
  obtain ⟨v0, v1, vf⟩ := id hM7.v
  obtain ⟨z0, z1, zf⟩ := id hM7.r
  obtain ⟨c0, c1, K⟩ := ret2 (A := .slice (some ⟨gB, 0, none⟩) (d7).blocks.length bc) (B := .slice wa (d7).waiting.length wu) z0 z1
  go_wp2
  refine bodyPost_ret (v := .agg #[.slice (some ⟨gB, 0, none⟩) (d7).blocks.length bc, .slice wa (d7).waiting.length wu]) (by simp [results, Try.results132, go_sem, c0, c1]) rfl ⟨d7, _, _, (some ⟨gB, 0, none⟩), bc, wa, wu, (at4 + 1), rfl, hO7, hM7.mb, hM7.mw, ?_, ?_, by omega, hD7.put K (fun z e hz => absurd hz (by omega)) hbl hsl hBw⟩
  · exact hM7.sb.kept K (fun z e _ => by subst e; exact ⟨not_S_of_D hM7.rd, not_B_of_D hM7.rd⟩)
  · exact hM7.sw.kept K (fun z e _ => by subst e; exact ⟨not_W_of_D hM7.rd, not_B_of_D hM7.rd⟩)

end Go.Proofs.Ythjddpkegooobaa
