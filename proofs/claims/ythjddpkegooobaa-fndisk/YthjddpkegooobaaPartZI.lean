import Derived.Test.YthjddpkegooobaaPartZC
import Derived.Test.YthjddpkegooobaaPartZH

/-
  LDRAW: what Put is asked, drawn. Own work.
-/
namespace Go.Proofs.Ythjddpkegooobaa
open Go.RowKit

def DPutP (w : World) (e : Ending) (w' : World) : Prop :=
  ∃ (d : DD) (l : DL) (k : Int) (ka : Option Addr) (ks : List Nat) (kc : Nat), e = .returned (.tuple #[d.val l, .int .i64 k, .slice ka ks.length kc]) ∧ d.Ok ∧ DAt w' l d ∧ I64 k ∧ ks.length ≤ 64 ∧ (∀ x, x ∈ ks → x < 256) ∧ BytesAt w' ka ks ∧ Below w.heap.size w w'
theorem brow_bytesD {w : World} {g n : Nat} {ys : List Nat} (h : BRow w g n ys) (m : Nat) : BytesAt w (some ⟨g, m, none⟩) (ys.drop m) := fun i hi => by
  obtain ⟨c, hc, hs, hl, hx⟩ := h
  rw [List.length_drop] at hi
  refine ⟨g, m, rfl, ?_⟩
  rw [cell_of_row _ _ (m + i) _ _ _ hc, hx (m + i) (by omega)]
  rw [getElem!_pos ys (m + i) (by omega), getElem!_pos (ys.drop m) i (by rw [List.length_drop]; omega), List.getElem_drop]

set_option maxHeartbeats 4000000 in
set_option maxRecDepth 100000 in
theorem drawPut_any (sa : Option Addr) (bs : List Nat) (cap : Nat) (w : World) (hb : BytesAt w sa bs) (hu : ∀ x, x ∈ bs → x < 256) (hl : bs.length ≤ maxLen) (hs : ∀ g off, sa = some ⟨g, off, none⟩ → g < w.heap.size) :
    Calls Try.prog 25 #[.slice sa bs.length cap] w (DPutP w) := by
  obtain ⟨wA, hwA⟩ : ∃ wA, Hid (wA = w.alloc (.cells #[.slice none 0 0, .slice none 0 0] 44)) := ⟨_, rfl⟩
  have hsA : wA.heap.size = w.heap.size + 1 := by rw [hwA.out]; simp
  have hFA : VB wA w.heap.size (.slice none 0 0) (.slice none 0 0) := by rw [hwA.out]; exact VB.new w _ _ _
  have hKA : Kept (fun _ => False) w wA := by rw [hwA.out]; exact (Kept.refl _ w).alloc _
  have hDC := DC.new (w := wA) (cap := cap) 75 (hb.kept hKA (fun _ _ _ e => e)) hu hl (fun g off e => by have := hs g off e; omega)
  rw [hsA] at hDC
  have hKB0 : Kept (fun _ => False) wA (wA.alloc (.cells #[.slice sa bs.length cap, .int .i64 0, .int .u64 0] 75)) := (Kept.refl _ wA).alloc _
  have hKB : Kept (fun _ => False) w (wA.alloc (.cells #[.slice sa bs.length cap, .int .i64 0, .int .u64 0] 75)) := hKA.trans hKB0 (fun _ _ e => e)
  have hFB := hFA.kept hKB0 (fun e => e)
  have hszB : (wA.alloc (.cells #[.slice sa bs.length cap, .int .i64 0, .int .u64 0] 75)).heap.size = w.heap.size + 1 + 1 := by simp [hsA]
  go_enter Try.func25, Try.ntmps25
  go_upto_region 2 with fail
  rw [← hwA.out]
  generalize wA.alloc (.cells #[.slice sa bs.length cap, .int .i64 0, .int .u64 0] 75) = wB at hDC hKB hFB hszB ⊢
  obtain ⟨R, hR⟩ := hid_ex w.heap.size
  obtain ⟨cu, hcu⟩ := hid_ex (w.heap.size + 1)
  rw [← hcu.out] at hDC ⊢
  rw [← hR.out] at hFB ⊢
  have hRc : R ≠ cu := by have := hR.out; have := hcu.out; omega
  have hRw : w.heap.size ≤ R := by have := hR.out; omega
  have hcw : w.heap.size ≤ cu := by have := hcu.out; omega
  have hRl : R < wB.heap.size := by have := hR.out; omega
  have hcl : cu < wB.heap.size := by have := hcu.out; omega
  clear hKB0 hFA hKA hsA
  go_upto_region 3 with (go_at_call 78; refine (l6disk_any cu sa bs cap 0 _ hDC (by omega)).mono ?_; rintro e w1 ⟨d, lb, lw, ba, bc, wa, wu, at1, rfl, hO, mb, mw, sb, sw, ha1, hk1⟩)
  have hV2 := VB.new w1 (.slice ba d.blocks.length bc) (.slice wa d.waiting.length wu) 44
  have hAV := gal (gre w1) (.cells #[.slice ba d.blocks.length bc, .slice wa d.waiting.length wu] 44)
  have hD2 := hk1.grow hAV
  have sb := sb.grow hAV
  have sw := sw.grow hAV
  have hF2 := (hFB.kept hk1.kept hRc).grow hAV
  have hVw : wB.heap.size ≤ w1.heap.size := hk1.kept.size
  generalize w1.alloc (.cells #[.slice ba d.blocks.length bc, .slice wa d.waiting.length wu] 44) = w2 at hV2 hAV hD2 sb sw hF2 ⊢
  generalize w1.heap.size = V at hV2 hVw ⊢
  clear hFB hk1 hAV hDC
  go_upto_if 21 with (first
    | (go_at_call_of 52 ((132 : Int)); refine (l6pick_of cu sa bs cap at1 132 132 _ rfl hD2.dc (by omega) (by omega) (by omega)).mono ?_; rintro e w3 ⟨x, at3, hx132, ha3, rfl, hk3⟩; have e1 : IntKind.i64.wrap ((x : Int) - 1) = (x : Int) - 1 := (by rw [IntKind.wrap_i64]; omega))
    | (go_at_call 79; refine (l6block_any cu sa bs cap at3 _ hk3.dc (by omega)).mono ?_; rintro e w4 ⟨Gb, ys, at4, hyl, hyb, ha4, rfl, hGb, hBr, hk4⟩)
    | (go_at_call_of 52 ((12 : Int)); refine (l6pick_of cu sa bs cap at4 12 12 _ rfl hk4.dc (by omega) (by omega) (by omega)).mono ?_; rintro e w5 ⟨x12, at5, hx12, ha5, rfl, hk5⟩))
  have hs2 := hD2.kept.size
  have hs3 := hk3.kept.size
  have hD5 := ((hD2.trans hk3).trans hk4).trans hk5
  have hV5 := ((hV2.kept hk3.kept (by omega)).kept hk4.kept (by omega)).kept hk5.kept (by omega)
  have hF5 := ((hF2.kept hk3.kept hRc).kept hk4.kept hRc).kept hk5.kept hRc
  have sb := ((sb.kept hk3.kept (fun z e hz => by omega)).kept hk4.kept (fun z e hz => by omega)).kept hk5.kept (fun z e hz => by omega)
  have sw := ((sw.kept hk3.kept (fun z e hz => by omega)).kept hk4.kept (fun z e hz => by omega)).kept hk5.kept (fun z e hz => by omega)
  have hB5 := hBr.kept hk5.kept (by omega)
  clear hD2 hk3 hk4 hk5 hV2 hF2 hBr
  go_cut [8] from 9 (fun v wc => ∃ (ka : Option Addr) (ks : List Nat) (kc : Nat), v = .slice ka ks.length kc ∧ ks.length ≤ 64 ∧ (∀ x, x ∈ ks → x < 256) ∧ Hid (∃ m, ka = some ⟨Gb, m, none⟩ ∧ ks = ys.drop m) ∧ wc = w5)
  case first =>
    by_cases hx0 : x12 = 0
    · subst hx0
      go_wp2
      go_meet
      case rel => exact ⟨some ⟨Gb, 1, none⟩, ys.drop 1, 63, by rw [show (ys.drop 1).length = 63 by rw [List.length_drop, hyl.out]], by rw [List.length_drop, hyl.out]; decide, fun x hx => hyb x (List.mem_of_mem_drop hx), ⟨1, rfl, rfl⟩, rfl⟩
    · have hx1 : ¬ ((x12 : Int) = 0) := by omega
      go_wp2
      go_meet
      case rel => exact ⟨some ⟨Gb, 0, none⟩, ys, 64, by rw [hyl.out], by rw [hyl.out]; decide, hyb, ⟨0, rfl, by simp⟩, rfl⟩
  obtain ⟨ka, ks, kc, rfl, hks, hkx, hkm, hwc⟩ := hcut
  obtain rfl := hwc.symm
  obtain ⟨v0, v1, vf⟩ := id hV5
  obtain ⟨z0, z1, zf⟩ := id hF5
  obtain ⟨c0, c1, K⟩ := ret2 (A := .slice ba d.blocks.length bc) (B := .slice wa d.waiting.length wu) z0 z1
  go_wp2
  refine bodyPost_ret (v := .tuple #[.agg #[.slice ba d.blocks.length bc, .slice wa d.waiting.length wu], .int .i64 ((x : Int) - 1), .slice ka ks.length kc]) (by simp [results, Try.results25, go_sem, c0, c1]) rfl ⟨d, ⟨ba, bc, wa, wu⟩, (x : Int) - 1, ka, ks, kc, rfl, hO, ⟨?_, ?_⟩, by unfold I64; omega, hks, hkx, ?_, ?_⟩
  · have h := (sb.kept K (fun z e hz => by omega)).at_
    rw [mb] at h
    exact h
  · have h := (sw.kept K (fun z e hz => by omega)).at_
    rw [mw] at h
    exact h
  · obtain ⟨m, rfl, rfl⟩ := hkm.out
    exact brow_bytesD (hB5.kept K (by omega)) m
  · exact ((hKB.trans hD5.kept (fun k hk e => by omega)).trans K (fun k hk e => by omega)).below (Nat.le_refl _) (fun k hk e => e)

end Go.Proofs.Ythjddpkegooobaa

/-
  WDISK: the laws' comparison of disks, where both are the same. Own work.
-/
namespace Go.Proofs.Ythjddpkegooobaa
open Go.RowKit

set_option maxHeartbeats 4000000 in
set_option maxRecDepth 100000 in
theorem wDisk_same (d : DD) (l l' : DL) (w : World) (hd : d.Ok) (ha : DAt w l d) (ha' : DAt w l' d) :
    Calls Try.prog 29 #[d.val l, d.val l'] w fun e w' => e = .returned (.bool true) ∧ Below w.heap.size w w' := by
  have hbl := hd.bl
  have hwl := hd.wl
  unfold maxLen at hbl hwl
  have n1 : ((d.blocks.length : Int) != (d.blocks.length : Int)) = false := by simp
  have n2 : ((d.waiting.length : Int) != (d.waiting.length : Int)) = false := by simp
  have hA := gal (gal (gre w) (.cells #[.slice l.ba d.blocks.length l.bc, .slice l.wa d.waiting.length l.wc] 44)) (.cells #[.slice l'.ba d.blocks.length l'.bc, .slice l'.wa d.waiting.length l'.wc] 44)
  have hX0 := (VB.new w (.slice l.ba d.blocks.length l.bc) (.slice l.wa d.waiting.length l.wc) 44).grow (gal (gre _) (.cells #[.slice l'.ba d.blocks.length l'.bc, .slice l'.wa d.waiting.length l'.wc] 44))
  have hY0 := VB.new_at (w.alloc (.cells #[.slice l.ba d.blocks.length l.bc, .slice l.wa d.waiting.length l.wc] 44)) (.slice l'.ba d.blocks.length l'.bc) (.slice l'.wa d.waiting.length l'.wc) 44 (w.heap.size + 1) (by simp)
  go_enter Try.func29, Try.ntmps29
  go_upto_region 1 with fail
  generalize (w.alloc (.cells #[.slice l.ba d.blocks.length l.bc, .slice l.wa d.waiting.length l.wc] 44)).alloc (.cells #[.slice l'.ba d.blocks.length l'.bc, .slice l'.wa d.waiting.length l'.wc] 44) = wA at hA hX0 hY0 ⊢
  obtain ⟨P, hP⟩ := hid_ex w.heap.size
  obtain ⟨Q, hQ⟩ := hid_ex (w.heap.size + 1)
  rw [← hQ.out] at hY0 ⊢
  rw [← hP.out] at hX0 ⊢
  obtain ⟨x0, x1, _⟩ := id hX0
  obtain ⟨y0, y1, _⟩ := id hY0
  go_wp2
  go_loopw [26] (fun i wr => ∃ k : Nat, k ≤ d.blocks.length ∧ i = .int .i64 k ∧ Below wA.heap.size wA wr) (fun i _ => d.blocks.length - (intOf i).toNat)
  case atStart => exact ⟨0, Nat.zero_le _, rfl, gre _⟩
  case round =>
    clear x0 x1 y0 y1
    obtain ⟨k, hk, rfl, hb⟩ := hrel
    have hX := hX0.grow hb
    have hY := hY0.grow hb
    by_cases hlt : k < d.blocks.length
    · obtain ⟨n, b, off, av, cv, hvk, hvm, hba, c0, hva⟩ := (ha.b.grow (gca hA hb)).get hlt
      obtain ⟨n', b', off', av', cv', hvk', hvm', hba', d0, hva'⟩ := (ha'.b.grow (gca hA hb)).get hlt
      obtain rfl : n' = n := by rw [hvk.out, hvk'.out]
      have i0 : (0 : Int) ≤ (k : Int) := by omega
      have i1 : (k : Int) < (d.blocks.length : Int) := by omega
      have hvl := (hd.bb n' hvm).len
      obtain ⟨x0, _, _⟩ := id hX
      obtain ⟨y0, _, _⟩ := id hY
      rw [hba] at x0
      rw [hba'] at y0
      clear hba hba'
      go_upto_region 6 with fail
      have hB : Below wr.heap.size wr wr.drew := gdr (gre _)
      refine wp_regionU (fun u => u.cell? ⟨P, 0, none⟩ = some (.slice (some ⟨b, off, none⟩) d.blocks.length l.bc) ∧ u.cell? ⟨Q, 0, none⟩ = some (.slice (some ⟨b', off', none⟩) d.blocks.length l'.bc) ∧ u.cell? ⟨b, off + k, none⟩ = some (.slice av n'.length cv) ∧ u.cell? ⟨b', off' + k, none⟩ = some (.slice av' n'.length cv')) 99 (by kernel_rfl) ⟨(Kept.of_below hB (fun _ => False)).cell x0 (fun e => e), (Kept.of_below hB (fun _ => False)).cell y0 (fun e => e), (Kept.of_below hB (fun _ => False)).cell c0 (fun e => e), (Kept.of_below hB (fun _ => False)).cell d0 (fun e => e)⟩ (fun _ => ?_)
      refine anyU_tk (i := 0) rfl ⟨(Kept.of_below hB (fun _ => False)).cell x0 (fun e => e), (Kept.of_below hB (fun _ => False)).cell y0 (fun e => e), (Kept.of_below hB (fun _ => False)).cell c0 (fun e => e), (Kept.of_below hB (fun _ => False)).cell d0 (fun e => e)⟩ (fun u hSu => by obtain ⟨s0, s1, s2, s3⟩ := hSu; go_simp <;> with_reducible rfl) ?_
      simp only [Act.put, List.getElem_toArray, List.getElem_cons_zero, List.setIfInBounds_toArray, List.set_cons_zero, List.set_cons_succ]
      refine anyU_tk (i := 1) rfl ⟨(Kept.of_below hB (fun _ => False)).cell x0 (fun e => e), (Kept.of_below hB (fun _ => False)).cell y0 (fun e => e), (Kept.of_below hB (fun _ => False)).cell c0 (fun e => e), (Kept.of_below hB (fun _ => False)).cell d0 (fun e => e)⟩ (fun u hSu => by obtain ⟨s0, s1, s2, s3⟩ := hSu; go_simp <;> with_reducible rfl) ?_
      simp only [Act.put, List.getElem_toArray, List.getElem_cons_zero, List.getElem_cons_succ, List.setIfInBounds_toArray, List.set_cons_zero, List.set_cons_succ]
      refine anyU_tk (i := 2) rfl ⟨(Kept.of_below hB (fun _ => False)).cell x0 (fun e => e), (Kept.of_below hB (fun _ => False)).cell y0 (fun e => e), (Kept.of_below hB (fun _ => False)).cell c0 (fun e => e), (Kept.of_below hB (fun _ => False)).cell d0 (fun e => e)⟩ (fun u hSu => by obtain ⟨s0, s1, s2, s3⟩ := hSu; go_simp <;> with_reducible rfl) ?_
      simp only [Act.put, List.getElem_toArray, List.getElem_cons_zero, List.getElem_cons_succ, List.setIfInBounds_toArray, List.set_cons_zero, List.set_cons_succ]
      refine anyU_tk (i := 3) rfl ⟨(Kept.of_below hB (fun _ => False)).cell x0 (fun e => e), (Kept.of_below hB (fun _ => False)).cell y0 (fun e => e), (Kept.of_below hB (fun _ => False)).cell c0 (fun e => e), (Kept.of_below hB (fun _ => False)).cell d0 (fun e => e)⟩ (fun u hSu => by obtain ⟨s0, s1, s2, s3⟩ := hSu; go_simp <;> with_reducible rfl) ?_
      simp only [Act.put, List.getElem_toArray, List.getElem_cons_zero, List.getElem_cons_succ, List.setIfInBounds_toArray, List.set_cons_zero, List.set_cons_succ]
      refine anyU_tk (i := 4) rfl ⟨(Kept.of_below hB (fun _ => False)).cell x0 (fun e => e), (Kept.of_below hB (fun _ => False)).cell y0 (fun e => e), (Kept.of_below hB (fun _ => False)).cell c0 (fun e => e), (Kept.of_below hB (fun _ => False)).cell d0 (fun e => e)⟩ (fun u hSu => by obtain ⟨s0, s1, s2, s3⟩ := hSu; go_simp <;> with_reducible rfl) ?_
      simp only [Act.put, List.getElem_toArray, List.getElem_cons_zero, List.getElem_cons_succ, List.setIfInBounds_toArray, List.set_cons_zero, List.set_cons_succ]
      refine anyU_tk (i := 5) rfl ⟨(Kept.of_below hB (fun _ => False)).cell x0 (fun e => e), (Kept.of_below hB (fun _ => False)).cell y0 (fun e => e), (Kept.of_below hB (fun _ => False)).cell c0 (fun e => e), (Kept.of_below hB (fun _ => False)).cell d0 (fun e => e)⟩ (fun u hSu => by obtain ⟨s0, s1, s2, s3⟩ := hSu; go_simp <;> with_reducible rfl) ?_
      simp only [Act.put, List.getElem_toArray, List.getElem_cons_zero, List.getElem_cons_succ, List.setIfInBounds_toArray, List.set_cons_zero, List.set_cons_succ]
      refine anyU_tk (i := 6) rfl ⟨(Kept.of_below hB (fun _ => False)).cell x0 (fun e => e), (Kept.of_below hB (fun _ => False)).cell y0 (fun e => e), (Kept.of_below hB (fun _ => False)).cell c0 (fun e => e), (Kept.of_below hB (fun _ => False)).cell d0 (fun e => e)⟩ (fun u hSu => by obtain ⟨s0, s1, s2, s3⟩ := hSu; go_simp <;> with_reducible rfl) ?_
      simp only [Act.put, List.getElem_toArray, List.getElem_cons_zero, List.getElem_cons_succ, List.setIfInBounds_toArray, List.set_cons_zero, List.set_cons_succ]
      refine anyU_tk (i := 7) rfl ⟨(Kept.of_below hB (fun _ => False)).cell x0 (fun e => e), (Kept.of_below hB (fun _ => False)).cell y0 (fun e => e), (Kept.of_below hB (fun _ => False)).cell c0 (fun e => e), (Kept.of_below hB (fun _ => False)).cell d0 (fun e => e)⟩ (fun u hSu => by obtain ⟨s0, s1, s2, s3⟩ := hSu; go_simp <;> with_reducible rfl) ?_
      simp only [Act.put, List.getElem_toArray, List.getElem_cons_zero, List.getElem_cons_succ, List.setIfInBounds_toArray, List.set_cons_zero, List.set_cons_succ]
      refine anyU_tk (i := 8) rfl ⟨(Kept.of_below hB (fun _ => False)).cell x0 (fun e => e), (Kept.of_below hB (fun _ => False)).cell y0 (fun e => e), (Kept.of_below hB (fun _ => False)).cell c0 (fun e => e), (Kept.of_below hB (fun _ => False)).cell d0 (fun e => e)⟩ (fun u hSu => by obtain ⟨s0, s1, s2, s3⟩ := hSu; go_simp <;> with_reducible rfl) ?_
      simp only [Act.put, List.getElem_toArray, List.getElem_cons_zero, List.getElem_cons_succ, List.setIfInBounds_toArray, List.set_cons_zero, List.set_cons_succ]
      refine anyU_tk (i := 9) rfl ⟨(Kept.of_below hB (fun _ => False)).cell x0 (fun e => e), (Kept.of_below hB (fun _ => False)).cell y0 (fun e => e), (Kept.of_below hB (fun _ => False)).cell c0 (fun e => e), (Kept.of_below hB (fun _ => False)).cell d0 (fun e => e)⟩ (fun u hSu => by obtain ⟨s0, s1, s2, s3⟩ := hSu; go_simp <;> with_reducible rfl) ?_
      simp only [Act.put, List.getElem_toArray, List.getElem_cons_zero, List.getElem_cons_succ, List.setIfInBounds_toArray, List.set_cons_zero, List.set_cons_succ]
      refine anyU_one (i := 10) (by kernel_rfl) rfl (fun K hK => ?_)
      go_simp
      refine (wBytes_same av av' n' cv cv' _ hvl (hva.grow hB) (hva'.grow hB)).mono ?_
      rintro e w2 ⟨rfl, hb2⟩
      have hB := gca hB hb2
      refine hK.out _ _ ⟨(Kept.of_below hB (fun _ => False)).cell x0 (fun e => e), (Kept.of_below hB (fun _ => False)).cell y0 (fun e => e), (Kept.of_below hB (fun _ => False)).cell c0 (fun e => e), (Kept.of_below hB (fun _ => False)).cell d0 (fun e => e)⟩ ?_
      clear hK
      refine anyU_tk (i := 11) rfl ⟨(Kept.of_below hB (fun _ => False)).cell x0 (fun e => e), (Kept.of_below hB (fun _ => False)).cell y0 (fun e => e), (Kept.of_below hB (fun _ => False)).cell c0 (fun e => e), (Kept.of_below hB (fun _ => False)).cell d0 (fun e => e)⟩ (fun u hSu => by obtain ⟨s0, s1, s2, s3⟩ := hSu; go_simp <;> with_reducible rfl) ?_
      simp only [Act.put, List.getElem_toArray, List.getElem_cons_zero, List.getElem_cons_succ, List.setIfInBounds_toArray, List.set_cons_zero, List.set_cons_succ]
      refine anyU_done (by kernel_rfl) ?_
      go_wp2
      go_roundw
      case rel => exact ⟨k + 1, by omega, by go_num, gca hb hB⟩
      case measure => simp [intOf]; omega
    · obtain ⟨x0, x1, _⟩ := id hX
      obtain ⟨y0, y1, _⟩ := id hY
      go_wp2
      go_loopw [45] (fun i wr2 => ∃ k : Nat, k ≤ d.waiting.length ∧ i = .int .i64 k ∧ Below wA.heap.size wA wr2) (fun i _ => d.waiting.length - (intOf i).toNat)
      case atStart => exact ⟨0, Nat.zero_le _, rfl, hb⟩
      case round =>
        clear x0 x1 y0 y1 hX hY
        obtain ⟨j, hj, rfl, hb3⟩ := hrel
        have hX := hX0.grow hb3
        have hY := hY0.grow hb3
        by_cases hlt2 : j < d.waiting.length
        · obtain ⟨n, b, off, av, cv, hvk, hvm, hba, c0, c1, hva⟩ := (ha.w.grow (gca hA hb3)).get hlt2
          obtain ⟨n', b', off', av', cv', hvk', hvm', hba', d0, d1, hva'⟩ := (ha'.w.grow (gca hA hb3)).get hlt2
          obtain rfl : n' = n := by rw [hvk.out, hvk'.out]
          have i0 : (0 : Int) ≤ (j : Int) := by omega
          have i1 : (j : Int) < (d.waiting.length : Int) := by omega
          have hvl := (hd.wb n' hvm).len
          have n3 : ((n'.block : Int) != n'.block) = false := by simp
          obtain ⟨_, x1, _⟩ := id hX
          obtain ⟨_, y1, _⟩ := id hY
          rw [hba] at x1
          rw [hba'] at y1
          clear hba hba'
          go_upto_region 12 with fail
          rename World => wr2
          have hB : Below wr2.heap.size wr2 wr2.drew := gdr (gre _)
          refine wp_regionU (fun u => u.cell? ⟨P, 1, none⟩ = some (.slice (some ⟨b, off, none⟩) d.waiting.length l.wc) ∧ u.cell? ⟨Q, 1, none⟩ = some (.slice (some ⟨b', off', none⟩) d.waiting.length l'.wc) ∧ u.cell? ⟨b, off + j * 2, none⟩ = some (.int .i64 n'.block) ∧ u.cell? ⟨b, off + j * 2 + 1, none⟩ = some (.slice av n'.bytes.length cv) ∧ u.cell? ⟨b', off' + j * 2, none⟩ = some (.int .i64 n'.block) ∧ u.cell? ⟨b', off' + j * 2 + 1, none⟩ = some (.slice av' n'.bytes.length cv')) 99 (by kernel_rfl) ⟨(Kept.of_below hB (fun _ => False)).cell x1 (fun e => e), (Kept.of_below hB (fun _ => False)).cell y1 (fun e => e), (Kept.of_below hB (fun _ => False)).cell c0 (fun e => e), (Kept.of_below hB (fun _ => False)).cell c1 (fun e => e), (Kept.of_below hB (fun _ => False)).cell d0 (fun e => e), (Kept.of_below hB (fun _ => False)).cell d1 (fun e => e)⟩ (fun _ => ?_)
          refine anyU_tk (i := 0) rfl ⟨(Kept.of_below hB (fun _ => False)).cell x1 (fun e => e), (Kept.of_below hB (fun _ => False)).cell y1 (fun e => e), (Kept.of_below hB (fun _ => False)).cell c0 (fun e => e), (Kept.of_below hB (fun _ => False)).cell c1 (fun e => e), (Kept.of_below hB (fun _ => False)).cell d0 (fun e => e), (Kept.of_below hB (fun _ => False)).cell d1 (fun e => e)⟩ (fun u hSu => by obtain ⟨s0, s1, s2, s3, s4, s5⟩ := hSu; go_simp <;> with_reducible rfl) ?_
          simp only [Act.put, List.getElem_toArray, List.getElem_cons_zero, List.setIfInBounds_toArray, List.set_cons_zero, List.set_cons_succ]
          refine anyU_tk (i := 1) rfl ⟨(Kept.of_below hB (fun _ => False)).cell x1 (fun e => e), (Kept.of_below hB (fun _ => False)).cell y1 (fun e => e), (Kept.of_below hB (fun _ => False)).cell c0 (fun e => e), (Kept.of_below hB (fun _ => False)).cell c1 (fun e => e), (Kept.of_below hB (fun _ => False)).cell d0 (fun e => e), (Kept.of_below hB (fun _ => False)).cell d1 (fun e => e)⟩ (fun u hSu => by obtain ⟨s0, s1, s2, s3, s4, s5⟩ := hSu; go_simp <;> with_reducible rfl) ?_
          simp only [Act.put, List.getElem_toArray, List.getElem_cons_zero, List.getElem_cons_succ, List.setIfInBounds_toArray, List.set_cons_zero, List.set_cons_succ]
          refine anyU_tk (i := 2) rfl ⟨(Kept.of_below hB (fun _ => False)).cell x1 (fun e => e), (Kept.of_below hB (fun _ => False)).cell y1 (fun e => e), (Kept.of_below hB (fun _ => False)).cell c0 (fun e => e), (Kept.of_below hB (fun _ => False)).cell c1 (fun e => e), (Kept.of_below hB (fun _ => False)).cell d0 (fun e => e), (Kept.of_below hB (fun _ => False)).cell d1 (fun e => e)⟩ (fun u hSu => by obtain ⟨s0, s1, s2, s3, s4, s5⟩ := hSu; go_simp <;> with_reducible rfl) ?_
          simp only [Act.put, List.getElem_toArray, List.getElem_cons_zero, List.getElem_cons_succ, List.setIfInBounds_toArray, List.set_cons_zero, List.set_cons_succ]
          refine anyU_tk (i := 3) rfl ⟨(Kept.of_below hB (fun _ => False)).cell x1 (fun e => e), (Kept.of_below hB (fun _ => False)).cell y1 (fun e => e), (Kept.of_below hB (fun _ => False)).cell c0 (fun e => e), (Kept.of_below hB (fun _ => False)).cell c1 (fun e => e), (Kept.of_below hB (fun _ => False)).cell d0 (fun e => e), (Kept.of_below hB (fun _ => False)).cell d1 (fun e => e)⟩ (fun u hSu => by obtain ⟨s0, s1, s2, s3, s4, s5⟩ := hSu; go_simp <;> with_reducible rfl) ?_
          simp only [Act.put, List.getElem_toArray, List.getElem_cons_zero, List.getElem_cons_succ, List.setIfInBounds_toArray, List.set_cons_zero, List.set_cons_succ]
          refine anyU_tk (i := 4) rfl ⟨(Kept.of_below hB (fun _ => False)).cell x1 (fun e => e), (Kept.of_below hB (fun _ => False)).cell y1 (fun e => e), (Kept.of_below hB (fun _ => False)).cell c0 (fun e => e), (Kept.of_below hB (fun _ => False)).cell c1 (fun e => e), (Kept.of_below hB (fun _ => False)).cell d0 (fun e => e), (Kept.of_below hB (fun _ => False)).cell d1 (fun e => e)⟩ (fun u hSu => by obtain ⟨s0, s1, s2, s3, s4, s5⟩ := hSu; go_simp <;> with_reducible rfl) ?_
          simp only [Act.put, List.getElem_toArray, List.getElem_cons_zero, List.getElem_cons_succ, List.setIfInBounds_toArray, List.set_cons_zero, List.set_cons_succ]
          refine anyU_tk (i := 5) rfl ⟨(Kept.of_below hB (fun _ => False)).cell x1 (fun e => e), (Kept.of_below hB (fun _ => False)).cell y1 (fun e => e), (Kept.of_below hB (fun _ => False)).cell c0 (fun e => e), (Kept.of_below hB (fun _ => False)).cell c1 (fun e => e), (Kept.of_below hB (fun _ => False)).cell d0 (fun e => e), (Kept.of_below hB (fun _ => False)).cell d1 (fun e => e)⟩ (fun u hSu => by obtain ⟨s0, s1, s2, s3, s4, s5⟩ := hSu; go_simp <;> with_reducible rfl) ?_
          simp only [Act.put, List.getElem_toArray, List.getElem_cons_zero, List.getElem_cons_succ, List.setIfInBounds_toArray, List.set_cons_zero, List.set_cons_succ]
          refine anyU_tk (i := 6) rfl ⟨(Kept.of_below hB (fun _ => False)).cell x1 (fun e => e), (Kept.of_below hB (fun _ => False)).cell y1 (fun e => e), (Kept.of_below hB (fun _ => False)).cell c0 (fun e => e), (Kept.of_below hB (fun _ => False)).cell c1 (fun e => e), (Kept.of_below hB (fun _ => False)).cell d0 (fun e => e), (Kept.of_below hB (fun _ => False)).cell d1 (fun e => e)⟩ (fun u hSu => by obtain ⟨s0, s1, s2, s3, s4, s5⟩ := hSu; go_simp <;> with_reducible rfl) ?_
          simp only [Act.put, List.getElem_toArray, List.getElem_cons_zero, List.getElem_cons_succ, List.setIfInBounds_toArray, List.set_cons_zero, List.set_cons_succ]
          refine anyU_tk (i := 7) rfl ⟨(Kept.of_below hB (fun _ => False)).cell x1 (fun e => e), (Kept.of_below hB (fun _ => False)).cell y1 (fun e => e), (Kept.of_below hB (fun _ => False)).cell c0 (fun e => e), (Kept.of_below hB (fun _ => False)).cell c1 (fun e => e), (Kept.of_below hB (fun _ => False)).cell d0 (fun e => e), (Kept.of_below hB (fun _ => False)).cell d1 (fun e => e)⟩ (fun u hSu => by obtain ⟨s0, s1, s2, s3, s4, s5⟩ := hSu; go_simp <;> with_reducible rfl) ?_
          simp only [Act.put, List.getElem_toArray, List.getElem_cons_zero, List.getElem_cons_succ, List.setIfInBounds_toArray, List.set_cons_zero, List.set_cons_succ]
          refine anyU_tk (i := 8) rfl ⟨(Kept.of_below hB (fun _ => False)).cell x1 (fun e => e), (Kept.of_below hB (fun _ => False)).cell y1 (fun e => e), (Kept.of_below hB (fun _ => False)).cell c0 (fun e => e), (Kept.of_below hB (fun _ => False)).cell c1 (fun e => e), (Kept.of_below hB (fun _ => False)).cell d0 (fun e => e), (Kept.of_below hB (fun _ => False)).cell d1 (fun e => e)⟩ (fun u hSu => by obtain ⟨s0, s1, s2, s3, s4, s5⟩ := hSu; go_simp <;> with_reducible rfl) ?_
          simp only [Act.put, List.getElem_toArray, List.getElem_cons_zero, List.getElem_cons_succ, List.setIfInBounds_toArray, List.set_cons_zero, List.set_cons_succ]
          refine anyU_tk (i := 9) rfl ⟨(Kept.of_below hB (fun _ => False)).cell x1 (fun e => e), (Kept.of_below hB (fun _ => False)).cell y1 (fun e => e), (Kept.of_below hB (fun _ => False)).cell c0 (fun e => e), (Kept.of_below hB (fun _ => False)).cell c1 (fun e => e), (Kept.of_below hB (fun _ => False)).cell d0 (fun e => e), (Kept.of_below hB (fun _ => False)).cell d1 (fun e => e)⟩ (fun u hSu => by obtain ⟨s0, s1, s2, s3, s4, s5⟩ := hSu; go_simp <;> with_reducible rfl) ?_
          simp only [Act.put, List.getElem_toArray, List.getElem_cons_zero, List.getElem_cons_succ, List.setIfInBounds_toArray, List.set_cons_zero, List.set_cons_succ]
          refine anyU_tk (i := 10) rfl ⟨(Kept.of_below hB (fun _ => False)).cell x1 (fun e => e), (Kept.of_below hB (fun _ => False)).cell y1 (fun e => e), (Kept.of_below hB (fun _ => False)).cell c0 (fun e => e), (Kept.of_below hB (fun _ => False)).cell c1 (fun e => e), (Kept.of_below hB (fun _ => False)).cell d0 (fun e => e), (Kept.of_below hB (fun _ => False)).cell d1 (fun e => e)⟩ (fun u hSu => by obtain ⟨s0, s1, s2, s3, s4, s5⟩ := hSu; go_simp <;> with_reducible rfl) ?_
          simp only [Act.put, List.getElem_toArray, List.getElem_cons_zero, List.getElem_cons_succ, List.setIfInBounds_toArray, List.set_cons_zero, List.set_cons_succ]
          refine anyU_tk (i := 11) rfl ⟨(Kept.of_below hB (fun _ => False)).cell x1 (fun e => e), (Kept.of_below hB (fun _ => False)).cell y1 (fun e => e), (Kept.of_below hB (fun _ => False)).cell c0 (fun e => e), (Kept.of_below hB (fun _ => False)).cell c1 (fun e => e), (Kept.of_below hB (fun _ => False)).cell d0 (fun e => e), (Kept.of_below hB (fun _ => False)).cell d1 (fun e => e)⟩ (fun u hSu => by obtain ⟨s0, s1, s2, s3, s4, s5⟩ := hSu; go_simp <;> with_reducible rfl) ?_
          simp only [Act.put, List.getElem_toArray, List.getElem_cons_zero, List.getElem_cons_succ, List.setIfInBounds_toArray, List.set_cons_zero, List.set_cons_succ]
          refine anyU_tk (i := 12) (v := .bool false) rfl ⟨(Kept.of_below hB (fun _ => False)).cell x1 (fun e => e), (Kept.of_below hB (fun _ => False)).cell y1 (fun e => e), (Kept.of_below hB (fun _ => False)).cell c0 (fun e => e), (Kept.of_below hB (fun _ => False)).cell c1 (fun e => e), (Kept.of_below hB (fun _ => False)).cell d0 (fun e => e), (Kept.of_below hB (fun _ => False)).cell d1 (fun e => e)⟩ (fun u hSu => by obtain ⟨s0, s1, s2, s3, s4, s5⟩ := hSu; go_simp <;> first | rfl | simp) ?_
          simp only [Act.put, List.getElem_toArray, List.getElem_cons_zero, List.getElem_cons_succ, List.setIfInBounds_toArray, List.set_cons_zero, List.set_cons_succ]
          refine anyU_tk (i := 13) rfl ⟨(Kept.of_below hB (fun _ => False)).cell x1 (fun e => e), (Kept.of_below hB (fun _ => False)).cell y1 (fun e => e), (Kept.of_below hB (fun _ => False)).cell c0 (fun e => e), (Kept.of_below hB (fun _ => False)).cell c1 (fun e => e), (Kept.of_below hB (fun _ => False)).cell d0 (fun e => e), (Kept.of_below hB (fun _ => False)).cell d1 (fun e => e)⟩ (fun u hSu => by obtain ⟨s0, s1, s2, s3, s4, s5⟩ := hSu; go_simp <;> with_reducible rfl) ?_
          simp only [Act.put, List.getElem_toArray, List.getElem_cons_zero, List.getElem_cons_succ, List.setIfInBounds_toArray, List.set_cons_zero, List.set_cons_succ]
          refine anyU_tk (i := 14) rfl ⟨(Kept.of_below hB (fun _ => False)).cell x1 (fun e => e), (Kept.of_below hB (fun _ => False)).cell y1 (fun e => e), (Kept.of_below hB (fun _ => False)).cell c0 (fun e => e), (Kept.of_below hB (fun _ => False)).cell c1 (fun e => e), (Kept.of_below hB (fun _ => False)).cell d0 (fun e => e), (Kept.of_below hB (fun _ => False)).cell d1 (fun e => e)⟩ (fun u hSu => by obtain ⟨s0, s1, s2, s3, s4, s5⟩ := hSu; go_simp <;> with_reducible rfl) ?_
          simp only [Act.put, List.getElem_toArray, List.getElem_cons_zero, List.getElem_cons_succ, List.setIfInBounds_toArray, List.set_cons_zero, List.set_cons_succ]
          refine anyU_tk (i := 15) rfl ⟨(Kept.of_below hB (fun _ => False)).cell x1 (fun e => e), (Kept.of_below hB (fun _ => False)).cell y1 (fun e => e), (Kept.of_below hB (fun _ => False)).cell c0 (fun e => e), (Kept.of_below hB (fun _ => False)).cell c1 (fun e => e), (Kept.of_below hB (fun _ => False)).cell d0 (fun e => e), (Kept.of_below hB (fun _ => False)).cell d1 (fun e => e)⟩ (fun u hSu => by obtain ⟨s0, s1, s2, s3, s4, s5⟩ := hSu; go_simp <;> with_reducible rfl) ?_
          simp only [Act.put, List.getElem_toArray, List.getElem_cons_zero, List.getElem_cons_succ, List.setIfInBounds_toArray, List.set_cons_zero, List.set_cons_succ]
          refine anyU_tk (i := 16) rfl ⟨(Kept.of_below hB (fun _ => False)).cell x1 (fun e => e), (Kept.of_below hB (fun _ => False)).cell y1 (fun e => e), (Kept.of_below hB (fun _ => False)).cell c0 (fun e => e), (Kept.of_below hB (fun _ => False)).cell c1 (fun e => e), (Kept.of_below hB (fun _ => False)).cell d0 (fun e => e), (Kept.of_below hB (fun _ => False)).cell d1 (fun e => e)⟩ (fun u hSu => by obtain ⟨s0, s1, s2, s3, s4, s5⟩ := hSu; go_simp <;> with_reducible rfl) ?_
          simp only [Act.put, List.getElem_toArray, List.getElem_cons_zero, List.getElem_cons_succ, List.setIfInBounds_toArray, List.set_cons_zero, List.set_cons_succ]
          refine anyU_tk (i := 17) rfl ⟨(Kept.of_below hB (fun _ => False)).cell x1 (fun e => e), (Kept.of_below hB (fun _ => False)).cell y1 (fun e => e), (Kept.of_below hB (fun _ => False)).cell c0 (fun e => e), (Kept.of_below hB (fun _ => False)).cell c1 (fun e => e), (Kept.of_below hB (fun _ => False)).cell d0 (fun e => e), (Kept.of_below hB (fun _ => False)).cell d1 (fun e => e)⟩ (fun u hSu => by obtain ⟨s0, s1, s2, s3, s4, s5⟩ := hSu; go_simp <;> with_reducible rfl) ?_
          simp only [Act.put, List.getElem_toArray, List.getElem_cons_zero, List.getElem_cons_succ, List.setIfInBounds_toArray, List.set_cons_zero, List.set_cons_succ]
          refine anyU_tk (i := 18) rfl ⟨(Kept.of_below hB (fun _ => False)).cell x1 (fun e => e), (Kept.of_below hB (fun _ => False)).cell y1 (fun e => e), (Kept.of_below hB (fun _ => False)).cell c0 (fun e => e), (Kept.of_below hB (fun _ => False)).cell c1 (fun e => e), (Kept.of_below hB (fun _ => False)).cell d0 (fun e => e), (Kept.of_below hB (fun _ => False)).cell d1 (fun e => e)⟩ (fun u hSu => by obtain ⟨s0, s1, s2, s3, s4, s5⟩ := hSu; go_simp <;> with_reducible rfl) ?_
          simp only [Act.put, List.getElem_toArray, List.getElem_cons_zero, List.getElem_cons_succ, List.setIfInBounds_toArray, List.set_cons_zero, List.set_cons_succ]
          refine anyU_tk (i := 19) rfl ⟨(Kept.of_below hB (fun _ => False)).cell x1 (fun e => e), (Kept.of_below hB (fun _ => False)).cell y1 (fun e => e), (Kept.of_below hB (fun _ => False)).cell c0 (fun e => e), (Kept.of_below hB (fun _ => False)).cell c1 (fun e => e), (Kept.of_below hB (fun _ => False)).cell d0 (fun e => e), (Kept.of_below hB (fun _ => False)).cell d1 (fun e => e)⟩ (fun u hSu => by obtain ⟨s0, s1, s2, s3, s4, s5⟩ := hSu; go_simp <;> with_reducible rfl) ?_
          simp only [Act.put, List.getElem_toArray, List.getElem_cons_zero, List.getElem_cons_succ, List.setIfInBounds_toArray, List.set_cons_zero, List.set_cons_succ]
          refine anyU_tk (i := 20) rfl ⟨(Kept.of_below hB (fun _ => False)).cell x1 (fun e => e), (Kept.of_below hB (fun _ => False)).cell y1 (fun e => e), (Kept.of_below hB (fun _ => False)).cell c0 (fun e => e), (Kept.of_below hB (fun _ => False)).cell c1 (fun e => e), (Kept.of_below hB (fun _ => False)).cell d0 (fun e => e), (Kept.of_below hB (fun _ => False)).cell d1 (fun e => e)⟩ (fun u hSu => by obtain ⟨s0, s1, s2, s3, s4, s5⟩ := hSu; go_simp <;> with_reducible rfl) ?_
          simp only [Act.put, List.getElem_toArray, List.getElem_cons_zero, List.getElem_cons_succ, List.setIfInBounds_toArray, List.set_cons_zero, List.set_cons_succ]
          refine anyU_tk (i := 21) rfl ⟨(Kept.of_below hB (fun _ => False)).cell x1 (fun e => e), (Kept.of_below hB (fun _ => False)).cell y1 (fun e => e), (Kept.of_below hB (fun _ => False)).cell c0 (fun e => e), (Kept.of_below hB (fun _ => False)).cell c1 (fun e => e), (Kept.of_below hB (fun _ => False)).cell d0 (fun e => e), (Kept.of_below hB (fun _ => False)).cell d1 (fun e => e)⟩ (fun u hSu => by obtain ⟨s0, s1, s2, s3, s4, s5⟩ := hSu; go_simp <;> with_reducible rfl) ?_
          simp only [Act.put, List.getElem_toArray, List.getElem_cons_zero, List.getElem_cons_succ, List.setIfInBounds_toArray, List.set_cons_zero, List.set_cons_succ]
          refine anyU_tk (i := 22) rfl ⟨(Kept.of_below hB (fun _ => False)).cell x1 (fun e => e), (Kept.of_below hB (fun _ => False)).cell y1 (fun e => e), (Kept.of_below hB (fun _ => False)).cell c0 (fun e => e), (Kept.of_below hB (fun _ => False)).cell c1 (fun e => e), (Kept.of_below hB (fun _ => False)).cell d0 (fun e => e), (Kept.of_below hB (fun _ => False)).cell d1 (fun e => e)⟩ (fun u hSu => by obtain ⟨s0, s1, s2, s3, s4, s5⟩ := hSu; go_simp <;> with_reducible rfl) ?_
          simp only [Act.put, List.getElem_toArray, List.getElem_cons_zero, List.getElem_cons_succ, List.setIfInBounds_toArray, List.set_cons_zero, List.set_cons_succ]
          refine anyU_tk (i := 23) rfl ⟨(Kept.of_below hB (fun _ => False)).cell x1 (fun e => e), (Kept.of_below hB (fun _ => False)).cell y1 (fun e => e), (Kept.of_below hB (fun _ => False)).cell c0 (fun e => e), (Kept.of_below hB (fun _ => False)).cell c1 (fun e => e), (Kept.of_below hB (fun _ => False)).cell d0 (fun e => e), (Kept.of_below hB (fun _ => False)).cell d1 (fun e => e)⟩ (fun u hSu => by obtain ⟨s0, s1, s2, s3, s4, s5⟩ := hSu; go_simp <;> with_reducible rfl) ?_
          simp only [Act.put, List.getElem_toArray, List.getElem_cons_zero, List.getElem_cons_succ, List.setIfInBounds_toArray, List.set_cons_zero, List.set_cons_succ]
          refine anyU_tk (i := 24) rfl ⟨(Kept.of_below hB (fun _ => False)).cell x1 (fun e => e), (Kept.of_below hB (fun _ => False)).cell y1 (fun e => e), (Kept.of_below hB (fun _ => False)).cell c0 (fun e => e), (Kept.of_below hB (fun _ => False)).cell c1 (fun e => e), (Kept.of_below hB (fun _ => False)).cell d0 (fun e => e), (Kept.of_below hB (fun _ => False)).cell d1 (fun e => e)⟩ (fun u hSu => by obtain ⟨s0, s1, s2, s3, s4, s5⟩ := hSu; go_simp <;> with_reducible rfl) ?_
          simp only [Act.put, List.getElem_toArray, List.getElem_cons_zero, List.getElem_cons_succ, List.setIfInBounds_toArray, List.set_cons_zero, List.set_cons_succ]
          refine anyU_tk (i := 25) rfl ⟨(Kept.of_below hB (fun _ => False)).cell x1 (fun e => e), (Kept.of_below hB (fun _ => False)).cell y1 (fun e => e), (Kept.of_below hB (fun _ => False)).cell c0 (fun e => e), (Kept.of_below hB (fun _ => False)).cell c1 (fun e => e), (Kept.of_below hB (fun _ => False)).cell d0 (fun e => e), (Kept.of_below hB (fun _ => False)).cell d1 (fun e => e)⟩ (fun u hSu => by obtain ⟨s0, s1, s2, s3, s4, s5⟩ := hSu; go_simp <;> with_reducible rfl) ?_
          simp only [Act.put, List.getElem_toArray, List.getElem_cons_zero, List.getElem_cons_succ, List.setIfInBounds_toArray, List.set_cons_zero, List.set_cons_succ]
          refine anyU_one (i := 26) (by kernel_rfl) rfl (fun K hK => ?_)
          go_simp
          refine (wBytes_same av av' n'.bytes cv cv' _ hvl (hva.grow hB) (hva'.grow hB)).mono ?_
          rintro e w2 ⟨rfl, hb2⟩
          have hB := gca hB hb2
          refine hK.out _ _ ⟨(Kept.of_below hB (fun _ => False)).cell x1 (fun e => e), (Kept.of_below hB (fun _ => False)).cell y1 (fun e => e), (Kept.of_below hB (fun _ => False)).cell c0 (fun e => e), (Kept.of_below hB (fun _ => False)).cell c1 (fun e => e), (Kept.of_below hB (fun _ => False)).cell d0 (fun e => e), (Kept.of_below hB (fun _ => False)).cell d1 (fun e => e)⟩ ?_
          clear hK
          refine anyU_tk (i := 27) rfl ⟨(Kept.of_below hB (fun _ => False)).cell x1 (fun e => e), (Kept.of_below hB (fun _ => False)).cell y1 (fun e => e), (Kept.of_below hB (fun _ => False)).cell c0 (fun e => e), (Kept.of_below hB (fun _ => False)).cell c1 (fun e => e), (Kept.of_below hB (fun _ => False)).cell d0 (fun e => e), (Kept.of_below hB (fun _ => False)).cell d1 (fun e => e)⟩ (fun u hSu => by obtain ⟨s0, s1, s2, s3, s4, s5⟩ := hSu; go_simp <;> with_reducible rfl) ?_
          simp only [Act.put, List.getElem_toArray, List.getElem_cons_zero, List.getElem_cons_succ, List.setIfInBounds_toArray, List.set_cons_zero, List.set_cons_succ]
          refine anyU_tk (i := 28) rfl ⟨(Kept.of_below hB (fun _ => False)).cell x1 (fun e => e), (Kept.of_below hB (fun _ => False)).cell y1 (fun e => e), (Kept.of_below hB (fun _ => False)).cell c0 (fun e => e), (Kept.of_below hB (fun _ => False)).cell c1 (fun e => e), (Kept.of_below hB (fun _ => False)).cell d0 (fun e => e), (Kept.of_below hB (fun _ => False)).cell d1 (fun e => e)⟩ (fun u hSu => by obtain ⟨s0, s1, s2, s3, s4, s5⟩ := hSu; go_simp <;> with_reducible rfl) ?_
          simp only [Act.put, List.getElem_toArray, List.getElem_cons_zero, List.getElem_cons_succ, List.setIfInBounds_toArray, List.set_cons_zero, List.set_cons_succ]
          refine anyU_done (by kernel_rfl) ?_
          go_wp2
          go_roundw
          case rel => exact ⟨j + 1, by omega, by go_num, gca hb3 hB⟩
          case measure => simp [intOf]; omega
        · go_wp2
          go_ret
          exact ⟨rfl, gca hA hb3⟩

end Go.Proofs.Ythjddpkegooobaa
