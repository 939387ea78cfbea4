import Derived.ProofKit
import Derived.OpenShut
import Derived.Deep.Slices
import Derived.ChangeSlices
import Derived.ShutString
import Derived.ChangeOld
import Derived.Test.YthjddpkegooobaaPartN

/-
  LAWHEADS: FnHeads, walked. Own work.
-/
namespace Go.Proofs.Ythjddpkegooobaa
open Go.RowKit

theorem DC.newH {w : World} {sa : Option Addr} {bs : List Nat} {cap : Nat} (t : Nat) (hb : BytesAt w sa bs) (hu : ∀ x, x ∈ bs → x < 256) (hl : bs.length ≤ maxLen) (hs : ∀ g off, sa = some ⟨g, off, none⟩ → g < w.heap.size) :
    DC (w.alloc (.cells #[.slice sa bs.length cap, .int .i64 0, .int .u64 0] t)) w.heap.size sa bs cap 0 := by
  refine ⟨by simp, ?_, ?_, ⟨0, by decide, ?_⟩, fun o => ?_, hb.kept ((Kept.refl (fun _ => False) w).alloc _) (fun _ _ _ e => e), fun g off e => ?_, hu, hl, fun g off e => ?_⟩
  · simp [go_sem]
  · simp [go_sem]
  · simp [go_sem]
  · simp
  · have := hs g off e; omega
  · have := hs g off e; simp; omega

/-- what is drawn for the law -/
def DHPost (w : World) (e : Ending) (w' : World) : Prop := ∃ (ok : Bool) (gen len sum : Int), I64 gen ∧ I64 len ∧ I64 sum ∧ e = .returned (headV ok gen len sum) ∧ Below w.heap.size w w'

set_option maxHeartbeats 1000000 in
set_option maxRecDepth 100000 in
theorem drawHead_any (sa : Option Addr) (bs : List Nat) (cap : Nat) (w : World) (hb : BytesAt w sa bs) (hu : ∀ x, x ∈ bs → x < 256) (hl : bs.length ≤ maxLen) (hs : ∀ g off, sa = some ⟨g, off, none⟩ → g < w.heap.size) :
    Calls Try.prog 35 #[.slice sa bs.length cap] w (DHPost w) := by
  obtain ⟨wA, hwA⟩ : ∃ wA, Hid (wA = w.alloc (.cells #[.bool false, .int .i64 0, .int .i64 0, .int .i64 0] 55)) := ⟨_, rfl⟩
  have hsA : wA.heap.size = w.heap.size + 1 := by rw [hwA.out]; simp
  have hRA : HV wA w.heap.size noH := by rw [hwA.out]; exact HV.new_at w noH 55 w.heap.size rfl
  have hBA : Below w.heap.size w wA := by rw [hwA.out]; exact gal (gre w) _
  have hDC := DC.newH (w := wA) (cap := cap) 75 (hb.kept (Kept.of_below hBA (fun _ => False)) (fun _ _ _ e => e)) hu hl (fun g off e => by have := hs g off e; omega)
  rw [hsA] at hDC
  have hBB : Below w.heap.size w (wA.alloc (.cells #[.slice sa bs.length cap, .int .i64 0, .int .u64 0] 75)) := gal hBA _
  have hRB := hRA.grow (gal (gre wA) (.cells #[.slice sa bs.length cap, .int .i64 0, .int .u64 0] 75))
  go_enter Try.func35, Try.ntmps35
  go_wp2_with (go_at_call 92; rw [← hwA.out]; refine (l6head_any (w.heap.size + 1) sa bs cap 0 _ hDC (by omega)).mono ?_; rintro e w2 ⟨ok, gen, len, sum, at2, h1, h2, h3, rfl, hk2⟩; have hR2 := hRB.kept hk2.kept (by omega); obtain ⟨⟨_, z0, z1, z2, z3⟩, zf⟩ := id hR2)
  obtain ⟨c0, c1, c2, c3, K⟩ := ret4 hR2 (.bool ok) (.int .i64 gen) (.int .i64 len) (.int .i64 sum)
  refine bodyPost_ret (v := headV ok gen len sum) (by simp [results, Try.results35, go_sem, c0, c1, c2, c3, headV]) rfl ⟨ok, gen, len, sum, h1, h2, h3, rfl, ?_⟩
  exact (hBB.trans (hk2.kept.below (B := w.heap.size) hBB.size (fun k hk e => by omega))).trans (K.below (B := w.heap.size) (by have := hBB.size; have := hk2.kept.size; omega) (fun k hk e => by omega))

set_option maxRecDepth 100000 in
theorem wByte_first (a : Option Addr) (bs : List Nat) (cap : Nat) (w : World) (ha : BytesAt w a bs) (hl : bs.length ≤ maxLen) (hu : ∀ x, x ∈ bs → x < 256) :
    Calls Try.prog 38 #[.slice a bs.length cap, .int .i64 0] w fun e w' => ∃ x : Nat, x < 256 ∧ e = .returned (.int .i64 (x : Int)) ∧ Below w.heap.size w w' := by
  unfold maxLen at hl
  by_cases h0 : bs.length = 0
  · rw [h0]
    go_enter Try.func38, Try.ntmps38
    go_wp2
    go_ret
    exact ⟨0, by decide, rfl, gre _⟩
  · obtain ⟨x, b, off, hxk, hxm, rfl, hc⟩ := ha.get (k := 0) (by omega)
    rw [Nat.add_zero] at hc
    have hx := hu x hxm
    have hne : ¬ ((bs.length : Int) = 0) := by omega
    have hr : Int.tmod (0 : Int) (bs.length : Int) = 0 := by simp
    have i1 : (0 : Int) < (bs.length : Int) := by omega
    have e2 : IntKind.i64.wrap (x : Int) = (x : Int) := by rw [IntKind.wrap_i64]; omega
    go_enter Try.func38, Try.ntmps38
    go_wp2
    go_ret
    exact ⟨x, hx, rfl, gre _⟩

theorem headOk_no {ok : Bool} {gen len : Int} (h : headOkB ok gen len = false) : ok = false ∨ (ok = true ∧ gen < 1) ∨ (ok = true ∧ ¬ gen < 1 ∧ 1000000000000 < gen) ∨ (ok = true ∧ ¬ gen < 1 ∧ ¬ 1000000000000 < gen ∧ len < 1) ∨ (ok = true ∧ ¬ gen < 1 ∧ ¬ 1000000000000 < gen ∧ ¬ len < 1 ∧ 4096 < len) := by
  cases ok with
  | false => exact Or.inl rfl
  | true =>
    by_cases a1 : gen < 1
    · exact Or.inr (Or.inl ⟨rfl, a1⟩)
    by_cases a2 : 1000000000000 < gen
    · exact Or.inr (Or.inr (Or.inl ⟨rfl, a1, a2⟩))
    by_cases a3 : len < 1
    · exact Or.inr (Or.inr (Or.inr (Or.inl ⟨rfl, a1, a2, a3⟩)))
    by_cases a4 : 4096 < len
    · exact Or.inr (Or.inr (Or.inr (Or.inr ⟨rfl, a1, a2, a3, a4⟩)))
    rw [rng_mk ⟨⟨by omega, by omega⟩, by omega, by omega⟩] at h
    cases h
theorem headBB_yes {ok : Bool} {gen len sum : Int} (h : headOkB ok gen len = true) : headBB ok gen len sum = headB gen len sum := if_pos h
theorem headBB_no {ok : Bool} {gen len sum : Int} (h : headOkB ok gen len = false) : headBB ok gen len sum = [] := if_neg (by rw [h]; exact Bool.false_ne_true)
theorem headOk_ok {ok : Bool} {gen len : Int} (h : headOkB ok gen len = true) : ok = true := by
  cases ok with
  | false => simp [headOkB] at h
  | true => rfl
theorem headB_byteH (gen len sum : Int) : ∀ x, x ∈ headB gen len sum → x < 256 := fun x hx => by
  unfold headB at hx
  rcases List.mem_append.1 hx with e | e
  · rcases List.mem_append.1 e with e | e
    · exact headN_byte gen len sum x e
    · exact lowB_byte _ _ _ e
  · rw [List.eq_of_mem_replicate e]; decide

set_option maxHeartbeats 4000000 in
set_option maxRecDepth 100000 in
theorem lawHeads (a : Option Addr) (cap : Nat) (bs : List Nat) (w : World) (ha : BytesAt w a bs) (hl : bs.length ≤ maxLen) (hx : ∀ x, x ∈ bs → x < 256) (hs : ∀ g off, a = some ⟨g, off, none⟩ → g < w.heap.size) :
    Calls Try.prog 6 #[.slice a bs.length cap] w fun e w' => e = .returned (.bool true) ∧ Below w.heap.size w w' := by
  have hml := hl
  unfold maxLen at hml
  by_cases hs1 : bs.length ≤ 1048576
  · have hd : ¬ ((1048576 : Int) < (bs.length : Int)) := by omega
    go_enter Try.func6, Try.ntmps6
    go_upto_region 7 with (first
      | (go_at_call 18; refine (wBytes_same _ _ p _ _ _ (by unfold maxLen; omega) (hM3.atH.grow hb4) hP4).mono ?_; rintro e w5 ⟨rfl, hb5⟩)
      | (go_at_call 37; refine (specHeadBlock_any ok gen len sum _).mono ?_; rw [← hp.out]; rintro e w4 ⟨oa4, c4, rfl, hP4, hb4⟩)
      | (go_at_call 36; refine (implHeadBlock_any ok gen len sum _).mono ?_; rw [← hp.out]; rintro e w3 ⟨oa3, c3, rfl, hM3, hb3⟩; obtain ⟨_, t0, t1, t2, t3⟩ := hH2.kept (Kept.of_below hb3 (fun _ => False)) (fun e => e))
      | (go_at_call 35; refine (drawHead_any a bs cap _ ha hx hl hs).mono ?_; rintro e w2 ⟨ok, gen, len, sum, i1, i2, i3, rfl, hb2⟩; obtain ⟨p, hp⟩ := hid_ex (headBB ok gen len sum); have hpl : p.length ≤ 64 := (by rw [hp.out]; exact headBB_len ok gen len sum); have hH2 := HBox.new w2 ok gen len sum 55; obtain ⟨_, q0, q1, q2, q3⟩ := id hH2))
    have hB5 : Below w.heap.size w w5 := gca (gca (gca (gal hb2 _) hb3) hb4) hb5
    have hH5 := hH2.kept (Kept.of_below (gca (gca hb3 hb4) hb5) (fun _ => False)) (fun e => e)
    have hMb := hM3.atH.grow (gca hb4 hb5)
    clear q0 q1 q2 q3 t0 t1 t2 t3 hH2 hP4 hM3 hb2 hb3 hb4 hb5
    generalize w2.heap.size = PH at hH5 ⊢
    obtain ⟨_, q0, q1, q2, q3⟩ := id hH5
    cases hk : headOkB ok gen len with
    | false =>
      have hpn : p = [] := by rw [hp.out]; exact headBB_no hk
      subst hpn
      rcases headOk_no hk with rfl | ⟨rfl, c1⟩ | ⟨rfl, c1, c2⟩ | ⟨rfl, c1, c2, c3⟩ | ⟨rfl, c1, c2, c3, c4⟩
      all_goals clear hk hp
      all_goals go_wp2
      all_goals go_ret
      all_goals exact ⟨rfl, hB5⟩
    | true =>
      obtain rfl := headOk_ok hk
      have hpe : Hid (p = headB gen len sum) := by show _ = _; rw [hp.out]; exact headBB_yes hk
      have hp64 : Hid (p.length = 64) := by show _ = _; rw [hpe.out]; exact headB_length _ _ _
      have h0 : ((p.length : Int) == 0) = false := by rw [hp64.out]; rfl
      have h64 : ((p.length : Int) == 64) = true := by rw [hp64.out]; rfl
      have hpk : p.length ≤ maxLen := by unfold maxLen; omega
      have hpb : BOk p := ⟨hpk, by rw [hpe.out]; exact headB_byteH _ _ _⟩
      obtain ⟨D0, hD0⟩ := hid_ex blankD
      have ok0 : D0.Ok := by rw [hD0.out]; exact ⟨by rw [blank_fitH.bl]; decide, blank_byte, by show 0 ≤ maxLen; exact Nat.zero_le _, fun x hx => (by cases hx), fun x hx => (by cases hx)⟩
      go_upto_region 10 with (go_at_call 38; refine (wByte_first a bs cap _ (ha.grow hB5) hl hx).mono ?_; rintro e w6 ⟨x, hx6, rfl, hb6⟩; obtain ⟨m, hm⟩ := hid_ex (x % 2); have hrm : (x : Int) % 2 = (m : Int) := (by rw [hm.out]; omega); have hm2 : m < 2 := (by rw [hm.out]; omega))
      obtain ⟨D1, hD1⟩ := hid_ex (D0.put (m : Int) p)
      have hD1e : Hid (D1 = ⟨blankD.blocks, [⟨(m : Int), p⟩]⟩) := by show _ = _; rw [hD1.out, hD0.out]; exact put_blank (by omega) hp64.out
      obtain ⟨D2, hD2⟩ := hid_ex (D1.settle keepAll)
      have hD2e : Hid (D2 = oneD m p) := by show _ = _; rw [hD2.out, hD1e.out]; exact settle_put (by omega) hp64.out
      have ok1 : D1.Ok := by rw [hD1e.out]; exact putd_okD (by omega) hpb
      have ok2 : D2.Ok := by rw [hD2e.out]; exact oneD_okD hpb
      have hpl2 := heads_plain (slot := m) hm2 hk i3
      have hh1 : Hid (D2.headOf (m : Int) = ⟨true, gen, len, sum⟩) := by show _ = _; rw [hD2e.out, hpe.out]; exact hpl2.1
      have hh2 : Hid (D2.headOf (1 - (m : Int)) = noH) := by show _ = _; rw [hD2e.out, hpe.out]; exact hpl2.2
      have hmi : I64 (m : Int) := by unfold I64; omega
      have hmi2 : I64 (1 - (m : Int)) := by unfold I64; omega
      have hM6 := hMb.grow hb6
      have hH6 := hH5.kept (Kept.of_below hb6 (fun _ => False)) (fun e => e)
      have hB6 := gca hB5 hb6
      clear q0 q1 q2 q3 hH5 hMb hB5 hpl2 hk hp hm
      go_upto_region 11 with (first
        | (go_at_call 31; refine (implSync_any D1 l8 _ ok1 hmd8.at_).mono ?_; rw [← hD2.out]; rintro e w9 ⟨l9, fa9, ga9, fc9, gc9, rfl, hmd9, hb9⟩)
        | (go_at_call 28; refine (implPut_any D0 l7 (m : Int) oa3 p c3 _ ok0 hmd7.at_ hmi hpk (hM6.grow hb7)).mono ?_; rw [← hD1.out]; rintro e w8 ⟨l8, fa8, ga8, fc8, gc8, rfl, hmd8, hb8⟩)
        | (go_at_call 39; refine (implBlank_any _).mono ?_; rw [← hD0.out]; rintro e w7 ⟨l7, fa7, ga7, fc7, gc7, rfl, hmd7, hb7⟩))
      have hX := DBox.new w9 D2 l9 44
      have hbX := gal (gca (gca hb7 hb8) hb9) (.cells #[.slice l9.ba D2.blocks.length l9.bc, .slice l9.wa D2.waiting.length l9.wc] 44)
      have hAt := hmd9.at_.grow (gal (gre w9) (.cells #[.slice l9.ba D2.blocks.length l9.bc, .slice l9.wa D2.waiting.length l9.wc] 44))
      generalize w9.alloc (.cells #[.slice l9.ba D2.blocks.length l9.bc, .slice l9.wa D2.waiting.length l9.wc] 44) = wX at hX hbX hAt ⊢
      generalize w9.heap.size = PX at hX ⊢
      have hHX := hH6.kept (Kept.of_below hbX (fun _ => False)) (fun e => e)
      have hBX := gca hB6 hbX
      clear hH6 hB6 hM6 hb7 hb8 hb9 hbX hmd7 hmd8 hmd9
      have hB : Below wX.heap.size wX wX.drew := gdr (gre _)
      have hSX : DBox wX.drew PX D2 l9 ∧ HBox wX.drew PH true gen len sum := ⟨hX.grow hB, hHX.kept (Kept.of_below hB (fun _ => False)) (fun e => e)⟩
      refine wp_regionU (fun u => DBox u PX D2 l9 ∧ HBox u PH true gen len sum) 99 (by kernel_rfl) hSX (fun _ => ?_)
      refine anyU_take (i := 0) (v := ?_) rfl (by kernel_rfl) (by kernel_rfl) (by kernel_rfl) (by kernel_rfl) (fun _ _ _ h => h) (Or.inl ⟨by rfl, ?_⟩) hSX ?_
      rotate_left
      · intro u hSu; obtain ⟨⟨_, s0, s1⟩, ⟨_, t0, t1, t2, t3⟩⟩ := hSu; go_simp <;> with_reducible rfl
      simp only [Act.put, List.getElem_toArray, List.getElem_cons_zero, List.setIfInBounds_toArray, List.set_cons_zero, List.set_cons_succ]
      refine anyU_take (i := 1) (v := ?_) rfl (by kernel_rfl) (by kernel_rfl) (by kernel_rfl) (by kernel_rfl) (fun _ _ _ h => h) (Or.inl ⟨by rfl, ?_⟩) hSX ?_
      rotate_left
      · intro u hSu; obtain ⟨⟨_, s0, s1⟩, ⟨_, t0, t1, t2, t3⟩⟩ := hSu; go_simp <;> with_reducible rfl
      simp only [Act.put, List.getElem_toArray, List.getElem_cons_zero, List.getElem_cons_succ, List.setIfInBounds_toArray, List.set_cons_zero, List.set_cons_succ]
      refine anyU_take (i := 3) (v := ?_) rfl (by kernel_rfl) (by kernel_rfl) (by kernel_rfl) (by kernel_rfl) (fun _ _ _ h => h) (Or.inl ⟨by rfl, ?_⟩) hSX ?_
      rotate_left
      · intro u hSu; obtain ⟨⟨_, s0, s1⟩, ⟨_, t0, t1, t2, t3⟩⟩ := hSu; go_simp <;> with_reducible rfl
      simp only [Act.put, List.getElem_toArray, List.getElem_cons_zero, List.getElem_cons_succ, List.setIfInBounds_toArray, List.set_cons_zero, List.set_cons_succ]
      refine anyU_one (i := 2) (by kernel_rfl) rfl (fun K hK => ?_)
      go_simp
      refine (implHeadOf_any D2 l9 (m : Int) _ ok2 (hAt.grow hB) hmi).mono ?_
      rw [hh1.out]
      rintro e w10 ⟨rfl, hb10⟩
      have hSY : DBox w10 PX D2 l9 ∧ HBox w10 PH true gen len sum := ⟨hSX.1.grow hb10, hSX.2.kept (Kept.of_below hb10 (fun _ => False)) (fun e => e)⟩
      refine hK.out _ _ hSY ?_
      clear hK
      refine anyU_one (i := 4) (by kernel_rfl) rfl (fun K hK => ?_)
      go_simp
      refine hK.out _ _ hSY ?_
      clear hK
      refine anyU_one (i := 5) (by kernel_rfl) rfl (fun K hK => ?_)
      go_simp
      refine hK.out _ _ hSY ?_
      clear hK
      obtain ⟨⟨_, x0, x1⟩, _⟩ := id hSY
      refine anyU_take (i := 6) (v := ?_) rfl (by kernel_rfl) (by kernel_rfl) (by kernel_rfl) (by kernel_rfl) (fun _ _ _ h => h) (Or.inl ⟨by rfl, ?_⟩) hSY ?_
      rotate_left
      · intro u hSu; obtain ⟨⟨_, s0, s1⟩, ⟨_, t0, t1, t2, t3⟩⟩ := hSu; go_simp <;> with_reducible rfl
      simp only [Act.put, List.getElem_toArray, List.getElem_cons_zero, List.getElem_cons_succ, List.setIfInBounds_toArray, List.set_cons_zero, List.set_cons_succ]
      refine anyU_take (i := 7) (v := ?_) rfl (by kernel_rfl) (by kernel_rfl) (by kernel_rfl) (by kernel_rfl) (fun _ _ _ h => h) (Or.inl ⟨by rfl, ?_⟩) hSY ?_
      rotate_left
      · intro u hSu; obtain ⟨⟨_, s0, s1⟩, ⟨_, t0, t1, t2, t3⟩⟩ := hSu; go_simp <;> with_reducible rfl
      simp only [Act.put, List.getElem_toArray, List.getElem_cons_zero, List.getElem_cons_succ, List.setIfInBounds_toArray, List.set_cons_zero, List.set_cons_succ]
      refine anyU_one (i := 8) (by kernel_rfl) rfl (fun K hK => ?_)
      go_simp
      refine hK.out _ _ hSY ?_
      clear hK
      refine anyU_one (i := 9) (by kernel_rfl) rfl (fun K hK => ?_)
      go_simp
      rw [show IntKind.i64.wrap (1 - (m : Int)) = 1 - (m : Int) by rw [IntKind.wrap_i64]; omega]
      refine (implHeadOf_any D2 l9 (1 - (m : Int)) _ ok2 (hAt.grow (gca hB hb10)) hmi2).mono ?_
      rw [hh2.out]
      rintro e w11 ⟨rfl, hb11⟩
      have hSZ : DBox w11 PX D2 l9 ∧ HBox w11 PH true gen len sum := ⟨hSY.1.grow hb11, hSY.2.kept (Kept.of_below hb11 (fun _ => False)) (fun e => e)⟩
      refine hK.out _ _ hSZ ?_
      clear hK
      refine anyU_one (i := 10) (by kernel_rfl) rfl (fun K hK => ?_)
      go_simp
      refine hK.out _ _ hSZ ?_
      clear hK
      refine anyU_one (i := 11) (by kernel_rfl) rfl (fun K hK => ?_)
      go_simp
      refine hK.out _ _ hSZ ?_
      clear hK
      refine anyU_one (i := 12) (by kernel_rfl) rfl (fun K hK => ?_)
      go_simp
      refine hK.out _ _ hSZ ?_
      clear hK
      refine anyU_one (i := 13) (by kernel_rfl) rfl (fun K hK => ?_)
      go_simp
      refine hK.out _ _ hSZ ?_
      clear hK
      refine anyU_one (i := 14) (by kernel_rfl) rfl (fun K hK => ?_)
      go_simp
      refine hK.out _ _ hSZ ?_
      clear hK
      refine anyU_one (i := 15) (by kernel_rfl) rfl (fun K hK => ?_)
      go_simp
      refine hK.out _ _ hSZ ?_
      clear hK
      refine anyU_one (i := 16) (by kernel_rfl) rfl (fun K hK => ?_)
      go_simp
      refine hK.out _ _ hSZ ?_
      clear hK
      refine anyU_one (i := 17) (by kernel_rfl) rfl (fun K hK => ?_)
      go_simp
      refine hK.out _ _ hSZ ?_
      clear hK
      refine anyU_one (i := 18) (by kernel_rfl) rfl (fun K hK => ?_)
      go_simp
      refine hK.out _ _ hSZ ?_
      clear hK
      refine anyU_done (by kernel_rfl) ?_
      go_wp2
      go_ret
      exact ⟨rfl, gca (gca (gdr hBX) hb10) hb11⟩
  · have hd : ((1048576 : Int) < (bs.length : Int)) := by omega
    go_enter Try.func6, Try.ntmps6
    go_wp2
    go_ret
    exact ⟨rfl, gre _⟩

end Go.Proofs.Ythjddpkegooobaa

/-
  OPENB: what bytes that come in read as. Own work.
-/
namespace Go.Proofs.Ythjddpkegooobaa
open Go.RowKit Go.ChangeShapes Go.WideShapes Go.Deep

set_option maxRecDepth 100000 in
theorem cellsU8 : Try.prog.cellsOf 5 = 1 := by kernel_rfl

theorem byte_of_wf {x : Int} (h : (Lit.int .u8 x).wf = true) : 0 ≤ x ∧ x < 256 := by
  simp [Lit.wf, IntKind.min, IntKind.max, IntKind.signed, IntKind.bits] at h
  omega

section
variable {H : Type} {enc : TypeId × Value → H} {w : World} {base : Nat} {held : Bool}

set_option maxRecDepth 100000 in
theorem openBytes {v : Value} {d : DataW H} {ps : List MemPlace} {r : Reach} {bd : Nat} (hv : Value.okWide Try.prog w r bd 22 v) (h : DataW.Trod enc Try.prog w base (fun _ => true) held 22 v d ps) :
    ∃ (bs : List Nat) (a : Option Addr) (cap : Nat), v = .slice a bs.length cap ∧ bs.length ≤ cap ∧ bs.length ≤ maxLen ∧ (∀ x, x ∈ bs → x < 256) ∧ BytesAt w a bs := by
  obtain ⟨fuel, h⟩ := h
  have hcs : v.cells.toList = [v] := by
    cases v <;> first | rfl | (exfalso; simp [Value.okWide, Cell.okWide, Cell.ok, Try.underlying22] at hv)
  rw [hcs] at h
  rcases open_ints Try.underlying22 Try.underlying5 cellsU8 h with ⟨e, _⟩ | ⟨a, len, cap, zs, e, _, hlc, hcm, hzl, _, hcell, hwf⟩
  · simp at e
    subst e
    exact ⟨[], none, 0, rfl, Nat.le_refl _, Nat.zero_le _, fun x hx => (by cases hx), fun i hi => absurd hi (Nat.not_lt_zero _)⟩
  · simp at e
    subst e
    simp at hzl
    have hl : ((zs.take len).map Int.toNat).length = len := by rw [List.length_map, List.length_take]; omega
    refine ⟨(zs.take len).map Int.toNat, some a, cap, by rw [hl], by omega, by omega, fun x hx => ?_, fun i hi => ?_⟩
    · obtain ⟨z, hz, rfl⟩ := List.mem_map.1 hx
      have := byte_of_wf (hwf z (List.mem_of_mem_take hz))
      omega
    · rw [hl] at hi
      have h1 := hcell i (by omega)
      obtain ⟨b, off, sp⟩ := a
      have h0 := hcell 0 (by omega)
      have hsp : sp = none := by simpa [Addr.add] using World.cell?_spot h0
      subst hsp
      refine ⟨b, off, rfl, ?_⟩
      have e1 : (⟨b, off, none⟩ : Addr).add i = ⟨b, off + i, none⟩ := by unfold Addr.add; simp
      rw [e1] at h1
      rw [h1]
      have h2 := byte_of_wf (hwf zs[i] (List.getElem_mem (by omega)))
      rw [getElem!_pos _ i (by rw [hl]; exact hi)]
      have e2 : ((zs.take len).map Int.toNat)[i]'(by rw [hl]; exact hi) = (zs[i]'(by omega)).toNat := by simp
      rw [e2]
      have e3 : zs.getD i 0 = zs[i]'(by omega) := by simp [List.getD, List.getElem?_eq_getElem (show i < zs.length by omega)]
      rw [e3]
      congr 2
      omega
end

end Go.Proofs.Ythjddpkegooobaa

/-
  DONE: the row of FnHeads, proved. Own work.
-/
namespace Go.Proofs.Ythjddpkegooobaa
open Go.ChangeShapes Go.WideShapes Go.ChangeAt Go.RowKit

set_option maxRecDepth 100000 in
theorem ownHeads : ownKnob Try.prog.godebug = none := by kernel_rfl
theorem laidOutHeads : laidOutB Try.prog = true := by kernel_rfl

set_option maxRecDepth 100000 in
theorem slice_lt {w : World} {r : Reach} {bd : Nat} {a : Addr} {n c : Nat} (h : Value.okWide Try.prog w r bd 22 (.slice (some a) n c)) : a.block < w.heap.size := by
  have h2 : n ≤ c ∧ (c : Int) ≤ IntKind.i64.max ∧ w.has Try.prog r bd a 5 c := by simpa [Value.okWide, Cell.okWide, Cell.ok, Try.underlying22] using h
  obtain ⟨_, _, _, _, row, cells, hsh, _⟩ := h2
  unfold World.shape? at hsh
  rcases Nat.lt_or_ge a.block w.heap.size with hlt | hge
  · exact hlt
  · rw [Array.getElem?_eq_none hge] at hsh
    cases hsh

set_option maxRecDepth 100000 in
theorem liftedHeads (os : Os) (started : os.Started) (H : Type) (enc : TypeId × Value → H) :
    ReturnsInHanded {} Try.checked os 6 .any (Rows.fnHeadsSpec.pre6 enc Try.prog Try.f6 Rows.fnHeadsRow.domain false) (Rows.fnHeadsSpec.post enc Try.prog Try.f6 false true false false) := by
  refine returnsInHanded_of_change (C := Try.checked) ownHeads started (by kernel_rfl) Try.func6
    (ChangeSpec.witness6 (enc := enc) (C := Try.checked) false ⟨#[], #[.slice none 0 0], []⟩ 8 (by kernel_rfl) (by kernel_rfl) (by kernel_rfl) (by kernel_rfl)) ?_
  intro W base args ds gs before hval0 hW hcnd _
  have hval : ∀ (j : Nat) t v, Try.f6.params[j]? = some t → args[j]? = some v → Value.okWide Try.prog W .any base t v := hval0
  have hW' := hW
  obtain ⟨p, q, hA0, hV, rfl, hfz, hnd⟩ := hW
  have hA : DataW.TrodAll enc Try.prog W 0 (fun _ => true) true Try.f6.params.toList args.toList ds p := hA0
  rw [Try.params6] at hA hval
  obtain ⟨v0, vs0, d0, ds0, p0, q0, hargs, rfl, rfl, h0, r0⟩ := trodAll_cons hA
  obtain ⟨rfl, rfl, rfl⟩ := trodAll_nil r0
  obtain rfl : args = #[v0] := by cases args; simp_all
  obtain ⟨rfl, rfl⟩ := trodVars_none hV
  have k0 := h0
  have lt0 : ∀ x ∈ p0, x.block < W.heap.size := by obtain ⟨m, hm⟩ := k0; exact DataW.trod_lt m _ _ _ hm
  have hv0 := hval 0 22 v0 rfl rfl
  obtain ⟨bs, a, cap, rfl, hcap, hml, hx, ha⟩ := openBytes hv0 h0
  have hs : ∀ g off, a = some ⟨g, off, none⟩ → g < W.heap.size := fun g off e => by rw [e] at hv0; exact slice_lt hv0
  clear hA0 hval0
  refine (lawHeads a cap bs W ha hml hx hs).mono fun e W' ⟨he, bel⟩ => ?_
  subst he
  exact ⟨_, rfl, _, _, _, [], _, [], hW', trodAll_mk1 (shut_bool Try.underlying4 _), (trodAll_cons_mk (Below.trod laidOutHeads (by kernel_rfl) (of_decide_eq_true (by kernel_rfl)) k0 bel lt0) trodAll_mk0), rfl, bel.frame _, fun h => by cases h⟩

set_option maxRecDepth 100000 in
theorem heads_holds : Rows.FnHeadsSaid :=
  OpenClaim.holds_of_wide 6 Try.f6 rfl rfl rfl rfl rfl rfl rfl ⟨rfl, rfl, rfl, rfl, rfl⟩ rfl rfl rfl rfl rfl (by kernel_rfl) Try.func6 (by kernel_rfl)
    (of_decide_eq_true (by kernel_rfl)) (by unfold Func.isWrapper; first | (rw [if_pos (by decide +kernel)]; kernel_rfl) | (rw [if_neg (by decide +kernel)]; exact ⟨rfl, rfl⟩))
    (fun os started H enc _ => liftedHeads os started H enc)

end Go.Proofs.Ythjddpkegooobaa
