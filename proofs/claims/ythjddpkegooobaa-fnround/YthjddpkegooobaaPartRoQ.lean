import Derived.ProofKit
import Derived.OpenShut
import Derived.Deep.Slices
import Derived.ChangeSlices
import Derived.ShutString
import Derived.ChangeOld
import Derived.Test.YthjddpkegooobaaPartRoL
import Derived.Test.YthjddpkegooobaaPartRoP

/-
  LAWROUND: FnRound, walked. Own work.
-/
namespace Go.Proofs.Ythjddpkegooobaa
open Go.RowKit

set_option maxHeartbeats 8000000 in
set_option maxRecDepth 100000 in
theorem lawRound (a : Option Addr) (cap : Nat) (bs : List Nat) (w : World) (ha : BytesAt w a bs) (hl : bs.length ≤ maxLen) (hx : ∀ x, x ∈ bs → x < 256) (hs : ∀ g off, a = some ⟨g, off, none⟩ → g < w.heap.size) :
    Calls Try.prog 3 #[.slice a bs.length cap] w fun e w' => e = .returned (.bool true) ∧ Below w.heap.size w w' := by
  have hml := hl
  unfold maxLen at hml
  by_cases hs1 : bs.length ≤ 1048576
  · have hd : ¬ ((1048576 : Int) < (bs.length : Int)) := by omega
    go_enter Try.func3, Try.ntmps3
    go_wp2_with (first
      | (go_at_call 11; refine (drawn_any a bs cap _ ha hx hl hs).mono ?_; rintro e w1 ⟨g, na, nc, nl, rfl, hn, hg, hok, hO, hb1⟩; have hat := hO.at_; rw [hn] at hat; obtain ⟨c, hc⟩ := hid_ex (canon g); have hcz : Hid (canonZ g = c) := (by show _ = _; rw [hc.out]; exact if_pos hok); have hcok : Hid (okG c = true) := (by show _ = _; rw [hc.out]; exact canon_okG hok); have hcO : c.Ok := (by rw [hc.out]; exact canon_ok hg hok); have hok2 : Hid (okG g = true) := hok; clear hok; have hGb := GBox.new w1 g na nc 27)
      | (go_at_call 12; refine (implCanon_any na nc g _ hg (hat.grow (gal (gre _) _))).mono ?_; rintro e w2 ⟨ca, cc, cl, rfl, hcn, hcOwn, hb2⟩; rw [hcz.out] at hcn ⊢))
    have hcat := hcOwn.at_
    rw [hcn] at hcat
    have hB3 : Below w.heap.size w (w2.alloc (.cells #[.int .i64 c.root.kind, .int .i64 c.root.num, .string c.root.text, .int .i64 c.root.node, .slice ca c.nodes.length cc] 27)) := gal (gca (gal hb1 _) hb2) _
    have hG3 := hGb.grow (gal hb2 (.cells #[.int .i64 c.root.kind, .int .i64 c.root.num, .string c.root.text, .int .i64 c.root.node, .slice ca c.nodes.length cc] 27))
    have hC3 := GBox.new w2 c ca cc 27
    have hNg := hat.grow (gal (gca (gal (gre w1) (.cells #[.int .i64 g.root.kind, .int .i64 g.root.num, .string g.root.text, .int .i64 g.root.node, .slice na g.nodes.length nc] 27)) hb2) (.cells #[.int .i64 c.root.kind, .int .i64 c.root.num, .string c.root.text, .int .i64 c.root.node, .slice ca c.nodes.length cc] 27))
    have hNc := hcat.grow (gal (gre w2) (.cells #[.int .i64 c.root.kind, .int .i64 c.root.num, .string c.root.text, .int .i64 c.root.node, .slice ca c.nodes.length cc] 27))
    clear hO hat hcOwn hcat hn hcn hGb hb1 hb2
    generalize w2.alloc (.cells #[.int .i64 c.root.kind, .int .i64 c.root.num, .string c.root.text, .int .i64 c.root.node, .slice ca c.nodes.length cc] 27) = w3 at hB3 hG3 hC3 hNg hNc ⊢
    generalize w1.heap.size = pG at hG3 ⊢
    generalize w2.heap.size = pC at hC3 ⊢
    have hB : Below w3.heap.size w3 w3.drew := gdr (gre _)
    refine wp_regionU (fun u => GBox u pG g na nc ∧ GBox u pC c ca cc) 99 (by kernel_rfl) ⟨hG3.grow hB, hC3.grow hB⟩ (fun _ => ?_)
    refine anyU_take (i := 0) (v := ?_) rfl (by kernel_rfl) (by kernel_rfl) (by kernel_rfl) (by kernel_rfl) (fun _ _ _ h => h) (Or.inl ⟨by rfl, ?_⟩) ⟨hG3.grow hB, hC3.grow hB⟩ ?_
    rotate_left
    · intro u hSu; obtain ⟨⟨_, s0, s1, s2, s3, s4⟩, ⟨_, t0, t1, t2, t3, t4⟩⟩ := hSu; go_simp <;> with_reducible rfl
    simp only [Act.put, List.getElem_toArray, List.getElem_cons_zero, List.setIfInBounds_toArray, List.set_cons_zero, List.set_cons_succ]
    refine anyU_take (i := 1) (v := ?_) rfl (by kernel_rfl) (by kernel_rfl) (by kernel_rfl) (by kernel_rfl) (fun _ _ _ h => h) (Or.inl ⟨by rfl, ?_⟩) ⟨hG3.grow hB, hC3.grow hB⟩ ?_
    rotate_left
    · intro u hSu; obtain ⟨⟨_, s0, s1, s2, s3, s4⟩, ⟨_, t0, t1, t2, t3, t4⟩⟩ := hSu; go_simp <;> with_reducible rfl
    simp only [Act.put, List.getElem_toArray, List.getElem_cons_zero, List.getElem_cons_succ, List.setIfInBounds_toArray, List.set_cons_zero, List.set_cons_succ]
    refine anyU_one (i := 2) (by kernel_rfl) rfl (fun K hK => ?_)
    go_simp
    refine (specCanonZ_any na nc g _ hg (hNg.grow hB)).mono ?_
    rintro e w4 ⟨sa, sc, rfl, hNs, hb4⟩
    rw [hcz.out] at hNs ⊢
    have hB := gca hB hb4
    refine hK.out _ _ ⟨hG3.grow hB, hC3.grow hB⟩ ?_
    clear hK
    refine anyU_one (i := 3) (by kernel_rfl) rfl (fun K hK => ?_)
    go_simp
    refine (wGraph_same ca sa cc sc c _ hcO (hNc.grow hB) hNs).mono ?_
    rintro e w5 ⟨rfl, hb5⟩
    have hB := gca hB hb5
    refine hK.out _ _ ⟨hG3.grow hB, hC3.grow hB⟩ ?_
    clear hK
    refine anyU_take (i := 4) (v := ?_) rfl (by kernel_rfl) (by kernel_rfl) (by kernel_rfl) (by kernel_rfl) (fun _ _ _ h => h) (Or.inl ⟨by rfl, ?_⟩) ⟨hG3.grow hB, hC3.grow hB⟩ ?_
    rotate_left
    · intro u hSu; obtain ⟨⟨_, s0, s1, s2, s3, s4⟩, ⟨_, t0, t1, t2, t3, t4⟩⟩ := hSu; go_simp <;> with_reducible rfl
    simp only [Act.put, List.getElem_toArray, List.getElem_cons_zero, List.getElem_cons_succ, List.setIfInBounds_toArray, List.set_cons_zero, List.set_cons_succ]
    refine anyU_take (i := 5) (v := ?_) rfl (by kernel_rfl) (by kernel_rfl) (by kernel_rfl) (by kernel_rfl) (fun _ _ _ h => h) (Or.inl ⟨by rfl, ?_⟩) ⟨hG3.grow hB, hC3.grow hB⟩ ?_
    rotate_left
    · intro u hSu; obtain ⟨⟨_, s0, s1, s2, s3, s4⟩, ⟨_, t0, t1, t2, t3, t4⟩⟩ := hSu; go_simp <;> with_reducible rfl
    simp only [Act.put, List.getElem_toArray, List.getElem_cons_zero, List.getElem_cons_succ, List.setIfInBounds_toArray, List.set_cons_zero, List.set_cons_succ]
    refine anyU_take (i := 6) (v := ?_) rfl (by kernel_rfl) (by kernel_rfl) (by kernel_rfl) (by kernel_rfl) (fun _ _ _ h => h) (Or.inl ⟨by rfl, ?_⟩) ⟨hG3.grow hB, hC3.grow hB⟩ ?_
    rotate_left
    · intro u hSu; obtain ⟨⟨_, s0, s1, s2, s3, s4⟩, ⟨_, t0, t1, t2, t3, t4⟩⟩ := hSu; go_simp <;> with_reducible rfl
    simp only [Act.put, List.getElem_toArray, List.getElem_cons_zero, List.getElem_cons_succ, List.setIfInBounds_toArray, List.set_cons_zero, List.set_cons_succ]
    refine anyU_take (i := 7) (v := ?_) rfl (by kernel_rfl) (by kernel_rfl) (by kernel_rfl) (by kernel_rfl) (fun _ _ _ h => h) (Or.inl ⟨by rfl, ?_⟩) ⟨hG3.grow hB, hC3.grow hB⟩ ?_
    rotate_left
    · intro u hSu; obtain ⟨⟨_, s0, s1, s2, s3, s4⟩, ⟨_, t0, t1, t2, t3, t4⟩⟩ := hSu; go_simp <;> with_reducible rfl
    simp only [Act.put, List.getElem_toArray, List.getElem_cons_zero, List.getElem_cons_succ, List.setIfInBounds_toArray, List.set_cons_zero, List.set_cons_succ]
    refine anyU_one (i := 8) (by kernel_rfl) rfl (fun K hK => ?_)
    go_simp
    refine (implAlike_any na ca nc cc g c _ hg hcO (hNg.grow hB) (hNc.grow hB)).mono ?_
    rintro e w6 ⟨bb, rfl, hbi, hb6⟩
    obtain rfl : bb = true := hbi.2 ⟨hok2.out, hcok.out, by rw [hc.out, canon_canon hok2.out]⟩
    have hB := gca hB hb6
    refine hK.out _ _ ⟨hG3.grow hB, hC3.grow hB⟩ ?_
    clear hK
    refine anyU_take (i := 9) (v := ?_) rfl (by kernel_rfl) (by kernel_rfl) (by kernel_rfl) (by kernel_rfl) (fun _ _ _ h => h) (Or.inl ⟨by rfl, ?_⟩) ⟨hG3.grow hB, hC3.grow hB⟩ ?_
    rotate_left
    · intro u hSu; obtain ⟨⟨_, s0, s1, s2, s3, s4⟩, ⟨_, t0, t1, t2, t3, t4⟩⟩ := hSu; go_simp <;> with_reducible rfl
    simp only [Act.put, List.getElem_toArray, List.getElem_cons_zero, List.getElem_cons_succ, List.setIfInBounds_toArray, List.set_cons_zero, List.set_cons_succ]
    refine anyU_take (i := 10) (v := ?_) rfl (by kernel_rfl) (by kernel_rfl) (by kernel_rfl) (by kernel_rfl) (fun _ _ _ h => h) (Or.inl ⟨by rfl, ?_⟩) ⟨hG3.grow hB, hC3.grow hB⟩ ?_
    rotate_left
    · intro u hSu; obtain ⟨⟨_, s0, s1, s2, s3, s4⟩, ⟨_, t0, t1, t2, t3, t4⟩⟩ := hSu; go_simp <;> with_reducible rfl
    simp only [Act.put, List.getElem_toArray, List.getElem_cons_zero, List.getElem_cons_succ, List.setIfInBounds_toArray, List.set_cons_zero, List.set_cons_succ]
    refine anyU_done (by kernel_rfl) ?_
    have hB6 : Below w.heap.size w w6 := gca hB3 hB
    have hG6 := hG3.grow hB
    have hC6 := hC3.grow hB
    have hNg6 := hNg.grow hB
    have hNc6 := hNc.grow hB
    clear hG3 hC3 hNg hNc hB3 hb4 hb5 hb6 hNs hB hcz hbi
    obtain ⟨xz, x0, x1, x2, x3, x4⟩ := id hG6
    obtain ⟨p, hp⟩ := hid_ex (packB g)
    have hpl : p.length ≤ 4096 := by
      rw [hp.out]
      unfold packB
      split
      · rename_i h; exact h.2
      · exact Nat.zero_le _
    have hpb : ∀ x, x ∈ p → x < 256 := by rw [hp.out]; exact packB_bytes g
    have hpc : Hid (packB c = p) := by show _ = _; rw [hc.out, hp.out]; exact packB_canon hok2.out
    have hun : Hid (0 < p.length → unB p = (true, c)) := fun h => by
      rw [hp.out, hc.out]
      exact unB_pack hg hok2.out (fun e => by rw [hp.out, e] at h; exact absurd h (Nat.lt_irrefl _))
    go_upto_if 32 with (go_at_call 16; refine (implPack_cap na nc g _ hg hNg6).mono ?_; rintro e w7 ⟨oa, oc, rfl, hM7, hb7, hoc⟩; rw [← hp.out] at hM7 hoc ⊢)
    have hB7 := gca hB6 hb7
    have hC7 := hC6.grow hb7
    have hNc7 := hNc6.grow hb7
    clear xz x0 x1 x2 x3 x4 hG6 hC6 hNg6 hNc6 hB6 hb7
    go_cut [6] from 32 (fun _ wc => Below w7.heap.size w7 wc)
    case rest =>
      have hBc := gca hB7 hcut
      clear hC7 hNc7 hM7 hB7 hcut hp hpc hun hpl hpb hoc hcok hok2 hc
      go_upto_region 15 with (first
        | (go_at_call 19; refine (drawUnpack_any a bs cap wc (ha.grow hBc) hx hl (fun g off e => Nat.lt_of_lt_of_le (hs g off e) hBc.size)).mono ?_; rintro e w13 ⟨ys, ba, bc, rfl, hyl, hyb, hyO, hb13⟩; have hyc := owns_cap hyO; have hyB := owns_bytesD hyO; obtain ⟨ok, hok⟩ := hid_ex (unB ys).1; obtain ⟨d, hd2⟩ := hid_ex (unB ys).2; have hdO : d.Ok := (by rw [hd2.out]; exact unB_Ok ys))
        | (go_at_call 17; refine (implUnpack_any ba bc ys w13 hyB hyc hyl hyb).mono ?_; rintro e w14 ⟨ua, uc, ul, rfl, hul, huO, hb14⟩; rw [← hd2.out] at hul; rw [← hok.out, ← hd2.out]; have huat := huO.at_; rw [hul] at huat; have hS14 := Six.new w14 ok d.root (.slice ua d.nodes.length uc) 33)
        | (go_at_call 20; refine (specUnpack_any ba bc ys _ (hyB.grow (gal hb14 _)) hyc (by unfold maxLen; omega) hyb).mono ?_; rintro e w15 ⟨ta, tc, rfl, hNt, hgs, hb15⟩; rw [sUnB_eq ys hgs, ← hd2.out] at hNt; rw [sUnB_eq ys hgs, ← hok.out, ← hd2.out]))
      have hS15 := Six.new w15 ok d.root (.slice ta d.nodes.length tc) 33
      have hBu : Below w14.heap.size w14 (w14.alloc (.cells #[.bool ok, .int .i64 d.root.kind, .int .i64 d.root.num, .string d.root.text, .int .i64 d.root.node, .slice ua d.nodes.length uc] 33)) := gal (gre _) _
      have hS16 := hS14.kept (Kept.of_below (gal hb15 (.cells #[.bool ok, .int .i64 d.root.kind, .int .i64 d.root.num, .string d.root.text, .int .i64 d.root.node, .slice ta d.nodes.length tc] 33)) (fun _ => False)) (fun e => e)
      have hNu := huat.grow (gal (gca hBu hb15) (.cells #[.bool ok, .int .i64 d.root.kind, .int .i64 d.root.num, .string d.root.text, .int .i64 d.root.node, .slice ta d.nodes.length tc] 33))
      have hNt2 := hNt.grow (gal (gre w15) (.cells #[.bool ok, .int .i64 d.root.kind, .int .i64 d.root.num, .string d.root.text, .int .i64 d.root.node, .slice ta d.nodes.length tc] 33))
      have hB16 : Below w.heap.size w (w15.alloc (.cells #[.bool ok, .int .i64 d.root.kind, .int .i64 d.root.num, .string d.root.text, .int .i64 d.root.node, .slice ta d.nodes.length tc] 33)) := gal (gca (gal (gca (gca hBc hb13) hb14) _) hb15) _
      have hy16 := hyB.grow (gal (gca (gal hb14 (.cells #[.bool ok, .int .i64 d.root.kind, .int .i64 d.root.num, .string d.root.text, .int .i64 d.root.node, .slice ua d.nodes.length uc] 33)) hb15) (.cells #[.bool ok, .int .i64 d.root.kind, .int .i64 d.root.num, .string d.root.text, .int .i64 d.root.node, .slice ta d.nodes.length tc] 33))
      generalize w15.alloc (.cells #[.bool ok, .int .i64 d.root.kind, .int .i64 d.root.num, .string d.root.text, .int .i64 d.root.node, .slice ta d.nodes.length tc] 33) = w16 at hS15 hS16 hNu hNt2 hB16 hy16 ⊢
      generalize w14.heap.size = pU at hS16 ⊢
      generalize w15.heap.size = pT at hS15 ⊢
      obtain ⟨z0, z1, z2, z3, z4, z5, z6, z7⟩ := id hS16
      obtain ⟨y0, y1, y2, y3, y4, y5, y6, y7⟩ := id hS15
      have hpk : Hid (ok = true → packB d = ys) := fun h => by rw [hd2.out]; exact unB_true (by rw [← hok.out]; exact h)
      cases ok with
      | false =>
        go_wp2_with (go_at_call 13; refine (wGraph_same ua ta uc tc d w16 hdO hNu hNt2).mono ?_; rintro e w17 ⟨rfl, hb17⟩; obtain ⟨x0, x1, x2, x3, x4, x5, x6, x7⟩ := hS16.kept (Kept.of_below hb17 (fun _ => False)) (fun e => e))
        go_ret
        exact ⟨rfl, gca hB16 hb17⟩
      | true =>
        have hpd := hpk.out rfl
        have hpd2 : Hid (packB d = ys) := hpd
        clear hpd
        go_wp2_with (first
          | (go_at_call 13; refine (wGraph_same ua ta uc tc d w16 hdO hNu hNt2).mono ?_; rintro e w17 ⟨rfl, hb17⟩; obtain ⟨x0, x1, x2, x3, x4, x5, x6, x7⟩ := hS16.kept (Kept.of_below hb17 (fun _ => False)) (fun e => e))
          | (go_at_call 16; refine (implPack_cap ua uc d _ hdO (hNu.grow hb17)).mono ?_; rintro e w18 ⟨oa2, oc2, rfl, hM18, hb18, hoc2⟩; rw [hpd2.out] at hM18 ⊢)
          | (go_at_call 18; refine (wBytes_same oa2 ba ys oc2 bc _ (by unfold maxLen; omega) hM18.bytes (hy16.grow (gca hb17 hb18))).mono ?_; rintro e w19 ⟨rfl, hb19⟩))
        go_ret
        exact ⟨rfl, gca (gca (gca hB16 hb17) hb18) hb19⟩
    case first =>
      by_cases hp0 : 0 < p.length
      · have hd2 : (0 : Int) < (p.length : Int) := by omega
        have hun2 := hun.out hp0
        obtain ⟨q0, q1, q2, q3, q4, q5⟩ := id hC7
        go_upto_region 10 with (go_at_call 17; refine (implUnpack_any oa oc p w7 hM7.bytes hoc (by omega) hpb).mono ?_; rintro e w8 ⟨ua, uc, ul, rfl, hul, huO, hb8⟩; rw [hun2] at hul ⊢)
        have huat := huO.at_
        rw [hul] at huat
        have hS9 := Six.new w8 true c.root (.slice ua c.nodes.length uc) 33
        have hB9 : Below w7.heap.size w7 (w8.alloc (.cells #[.bool true, .int .i64 c.root.kind, .int .i64 c.root.num, .string c.root.text, .int .i64 c.root.node, .slice ua c.nodes.length uc] 33)) := gal hb8 _
        have hNu := huat.grow (gal (gre w8) (.cells #[.bool true, .int .i64 c.root.kind, .int .i64 c.root.num, .string c.root.text, .int .i64 c.root.node, .slice ua c.nodes.length uc] 33))
        generalize w8.alloc (.cells #[.bool true, .int .i64 c.root.kind, .int .i64 c.root.num, .string c.root.text, .int .i64 c.root.node, .slice ua c.nodes.length uc] 33) = w9 at hS9 hB9 hNu ⊢
        generalize w8.heap.size = pU at hS9 ⊢
        have hC9 := hC7.grow hB9
        have hNc9 := hNc7.grow hB9
        have hM9 := hM7.bytes.grow hB9
        obtain ⟨z0, z1, z2, z3, z4, z5, z6, z7⟩ := id hS9
        clear q0 q1 q2 q3 q4 q5 huat hul huO hb8
        obtain ⟨q0, q1, q2, q3, q4, q5⟩ := id hC9
        go_wp2_with (first
          | (go_at_call 13; refine (wGraph_same ua ca uc cc c w9 hcO hNu hNc9).mono ?_; rintro e w10 ⟨rfl, hb10⟩; obtain ⟨y0, y1, y2, y3, y4, y5⟩ := hC9.grow hb10)
          | (go_at_call 16; refine (implPack_cap ca cc c _ hcO (hNc9.grow hb10)).mono ?_; rintro e w11 ⟨oa2, oc2, rfl, hM11, hb11, hoc2⟩; rw [hpc.out] at hM11 ⊢)
          | (go_at_call 18; refine (wBytes_same oa2 oa p oc2 oc _ (by unfold maxLen; omega) hM11.bytes (hM9.grow (gca hb10 hb11))).mono ?_; rintro e w12 ⟨rfl, hb12⟩))
        go_meet
        case rel => exact gca (gca (gca hB9 hb10) hb11) hb12
      · have hd2 : ¬ ((0 : Int) < (p.length : Int)) := by omega
        go_wp2
        go_meet
        case rel => exact gre _
  · have hd : ((1048576 : Int) < (bs.length : Int)) := by omega
    go_enter Try.func3, Try.ntmps3
    go_wp2
    go_ret
    exact ⟨rfl, gre _⟩

end Go.Proofs.Ythjddpkegooobaa

/-
  OPENB: what bytes that come in read as. Own work.
-/
namespace Go.Proofs.Ythjddpkegooobaa
open Go.RowKit Go.ChangeShapes Go.WideShapes Go.Deep

set_option maxRecDepth 100000 in
theorem cellsU8 : Try.prog.cellsOf 5 = 1 := by kernel_rfl

theorem byte_of_wf {x : Int} (h : (Lit.int .u8 x).wf = true) : 0 ≤ x ∧ x < 256 := by
  simp [Lit.wf, IntKind.min, IntKind.max, IntKind.signed, IntKind.bits] at h
  omega

section
variable {H : Type} {enc : TypeId × Value → H} {w : World} {base : Nat} {held : Bool}

set_option maxRecDepth 100000 in
theorem openBytes {v : Value} {d : DataW H} {ps : List MemPlace} {r : Reach} {bd : Nat} (hv : Value.okWide Try.prog w r bd 22 v) (h : DataW.Trod enc Try.prog w base (fun _ => true) held 22 v d ps) :
    ∃ (bs : List Nat) (a : Option Addr) (cap : Nat), v = .slice a bs.length cap ∧ bs.length ≤ cap ∧ bs.length ≤ maxLen ∧ (∀ x, x ∈ bs → x < 256) ∧ BytesAt w a bs := by
  obtain ⟨fuel, h⟩ := h
  have hcs : v.cells.toList = [v] := by
    cases v <;> first | rfl | (exfalso; simp [Value.okWide, Cell.okWide, Cell.ok, Try.underlying22] at hv)
  rw [hcs] at h
  rcases open_ints Try.underlying22 Try.underlying5 cellsU8 h with ⟨e, _⟩ | ⟨a, len, cap, zs, e, _, hlc, hcm, hzl, _, hcell, hwf⟩
  · simp at e
    subst e
    exact ⟨[], none, 0, rfl, Nat.le_refl _, Nat.zero_le _, fun x hx => (by cases hx), fun i hi => absurd hi (Nat.not_lt_zero _)⟩
  · simp at e
    subst e
    simp at hzl
    have hl : ((zs.take len).map Int.toNat).length = len := by rw [List.length_map, List.length_take]; omega
    refine ⟨(zs.take len).map Int.toNat, some a, cap, by rw [hl], by omega, by omega, fun x hx => ?_, fun i hi => ?_⟩
    · obtain ⟨z, hz, rfl⟩ := List.mem_map.1 hx
      have := byte_of_wf (hwf z (List.mem_of_mem_take hz))
      omega
    · rw [hl] at hi
      have h1 := hcell i (by omega)
      obtain ⟨b, off, sp⟩ := a
      have h0 := hcell 0 (by omega)
      have hsp : sp = none := by simpa [Addr.add] using World.cell?_spot h0
      subst hsp
      refine ⟨b, off, rfl, ?_⟩
      have e1 : (⟨b, off, none⟩ : Addr).add i = ⟨b, off + i, none⟩ := by unfold Addr.add; simp
      rw [e1] at h1
      rw [h1]
      have h2 := byte_of_wf (hwf zs[i] (List.getElem_mem (by omega)))
      rw [getElem!_pos _ i (by rw [hl]; exact hi)]
      have e2 : ((zs.take len).map Int.toNat)[i]'(by rw [hl]; exact hi) = (zs[i]'(by omega)).toNat := by simp
      rw [e2]
      have e3 : zs.getD i 0 = zs[i]'(by omega) := by simp [List.getD, List.getElem?_eq_getElem (show i < zs.length by omega)]
      rw [e3]
      congr 2
      omega
end

end Go.Proofs.Ythjddpkegooobaa

/-
  DONE: the row of FnRound, proved. Own work.
-/
namespace Go.Proofs.Ythjddpkegooobaa
open Go.ChangeShapes Go.WideShapes Go.ChangeAt Go.RowKit

set_option maxRecDepth 100000 in
theorem ownRound : ownKnob Try.prog.godebug = none := by kernel_rfl
theorem laidOutRound : laidOutB Try.prog = true := by kernel_rfl

set_option maxRecDepth 100000 in
theorem slice_lt {w : World} {r : Reach} {bd : Nat} {a : Addr} {n c : Nat} (h : Value.okWide Try.prog w r bd 22 (.slice (some a) n c)) : a.block < w.heap.size := by
  have h2 : n ≤ c ∧ (c : Int) ≤ IntKind.i64.max ∧ w.has Try.prog r bd a 5 c := by simpa [Value.okWide, Cell.okWide, Cell.ok, Try.underlying22] using h
  obtain ⟨_, _, _, _, row, cells, hsh, _⟩ := h2
  unfold World.shape? at hsh
  rcases Nat.lt_or_ge a.block w.heap.size with hlt | hge
  · exact hlt
  · rw [Array.getElem?_eq_none hge] at hsh
    cases hsh

set_option maxRecDepth 100000 in
theorem liftedRound (os : Os) (started : os.Started) (H : Type) (enc : TypeId × Value → H) :
    ReturnsInHanded {} Try.checked os 3 .any (Rows.fnRoundSpec.pre6 enc Try.prog Try.f3 Rows.fnRoundRow.domain false) (Rows.fnRoundSpec.post enc Try.prog Try.f3 false true false false) := by
  refine returnsInHanded_of_change (C := Try.checked) ownRound started (by kernel_rfl) Try.func3
    (ChangeSpec.witness6 (enc := enc) (C := Try.checked) false ⟨#[], #[.slice none 0 0], []⟩ 8 (by kernel_rfl) (by kernel_rfl) (by kernel_rfl) (by kernel_rfl)) ?_
  intro W base args ds gs before hval0 hW hcnd _
  have hval : ∀ (j : Nat) t v, Try.f3.params[j]? = some t → args[j]? = some v → Value.okWide Try.prog W .any base t v := hval0
  have hW' := hW
  obtain ⟨p, q, hA0, hV, rfl, hfz, hnd⟩ := hW
  have hA : DataW.TrodAll enc Try.prog W 0 (fun _ => true) true Try.f3.params.toList args.toList ds p := hA0
  rw [Try.params3] at hA hval
  obtain ⟨v0, vs0, d0, ds0, p0, q0, hargs, rfl, rfl, h0, r0⟩ := trodAll_cons hA
  obtain ⟨rfl, rfl, rfl⟩ := trodAll_nil r0
  obtain rfl : args = #[v0] := by cases args; simp_all
  obtain ⟨rfl, rfl⟩ := trodVars_none hV
  have k0 := h0
  have lt0 : ∀ x ∈ p0, x.block < W.heap.size := by obtain ⟨m, hm⟩ := k0; exact DataW.trod_lt m _ _ _ hm
  have hv0 := hval 0 22 v0 rfl rfl
  obtain ⟨bs, a, cap, rfl, hcap, hml, hx, ha⟩ := openBytes hv0 h0
  have hs : ∀ g off, a = some ⟨g, off, none⟩ → g < W.heap.size := fun g off e => by rw [e] at hv0; exact slice_lt hv0
  clear hA0 hval0
  refine (lawRound a cap bs W ha hml hx hs).mono fun e W' ⟨he, bel⟩ => ?_
  subst he
  exact ⟨_, rfl, _, _, _, [], _, [], hW', trodAll_mk1 (shut_bool Try.underlying4 _), (trodAll_cons_mk (Below.trod laidOutRound (by kernel_rfl) (of_decide_eq_true (by kernel_rfl)) k0 bel lt0) trodAll_mk0), rfl, bel.frame _, fun h => by cases h⟩

set_option maxRecDepth 100000 in
theorem round_holds : Rows.FnRoundSaid :=
  OpenClaim.holds_of_wide 3 Try.f3 rfl rfl rfl rfl rfl rfl rfl ⟨rfl, rfl, rfl, rfl, rfl⟩ rfl rfl rfl rfl rfl (by kernel_rfl) Try.func3 (by kernel_rfl)
    (of_decide_eq_true (by kernel_rfl)) (by unfold Func.isWrapper; first | (rw [if_pos (by decide +kernel)]; kernel_rfl) | (rw [if_neg (by decide +kernel)]; exact ⟨rfl, rfl⟩))
    (fun os started H enc _ => liftedRound os started H enc)

end Go.Proofs.Ythjddpkegooobaa
