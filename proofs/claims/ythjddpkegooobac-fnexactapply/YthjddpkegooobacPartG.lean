import Derived.Deep.QuietTactic
import Derived.BigQuiet
import Derived.Deep.OwnRows
import Derived.Test.YthjddpkegooobacPartF

/-
  IAPPLY: the program's Apply. Own work.
-/
namespace Go.Proofs.Ythjddpkegooobac
open Go.RowKit Go.Shelf
attribute [local go_sem] Oper.semAt_some

/-- the disk behind the first ops -/
def DD.apply (d : DD) (ops : List OP) (n : Int) : DD := if d.ok = true ∧ 0 ≤ n ∧ n ≤ (ops.length : Int) then (applyN d ops n.toNat).getD zeroD else zeroD

/-- the same, where nothing panics -/
def noPanicA (Q : Exit → Act → World → Prop) : Exit → Act → World → Prop
  | .panic _, _, _ => False
  | e, a, w => Q e a w
theorem noPanicA_le (Q : Exit → Act → World → Prop) : ∀ e a w, noPanicA Q e a w → Q e a w := fun e a w h => by
  cases e <;> first | exact h | exact h.elim

theorem opsAt_take {w : World} {a : Option Addr} {ops : List OP} (h : OpsAt w a ops) (k : Nat) : OpsAt w a (ops.take k) := fun i hi => by
  have h1 : i < ops.length ∧ i < k := by simp at hi; omega
  have e : (ops.take k)[i]! = ops[i]! := by rw [getElem!_pos _ i hi, getElem!_pos ops i h1.1, List.getElem_take]
  rw [e]
  exact h i h1.1
theorem applyN_take {d : DD} {ops : List OP} {k : Nat} : ∀ j, j ≤ k → j ≤ ops.length → applyN d (ops.take k) j = applyN d ops j
  | 0, _, _ => rfl
  | j + 1, h, hl => by
    have e : (ops.take k)[j]! = ops[j]! := by rw [getElem!_pos _ j (by simp; omega), getElem!_pos ops j (by omega), List.getElem_take]
    show (applyN d (ops.take k) j).bind _ = (applyN d ops j).bind _
    rw [applyN_take j (by omega) (by omega), e]

set_option maxHeartbeats 4000000 in
set_option maxRecDepth 100000 in
theorem implApply_any (d : DD) (l : DL) (oa : Option Addr) (ops : List OP) (oc : Nat) (n : Int) (w : World) (hd : d.Ok) (ha : DAt w l d) (hoa : OpsAt w oa ops) (hoc : ops.length ≤ oc) (hol : ops.length ≤ 1048576) (hok : OpsOk ops) (hn : I64 n) :
    Calls Try.prog 9 #[d.val l, .slice oa ops.length oc, .int .i64 n] w (DPost (d.apply ops n) w) := by
  have hA := gal (gal (gre w) (.cells #[.slice l.ba d.blocks.length l.bc, .slice l.wa d.waiting.length l.wc] 31)) (.cells #[.slice none 0 0, .slice none 0 0] 31)
  have hX0 := (DBox.new w d l 31).grow (gal (gre _) (.cells #[.slice none 0 0, .slice none 0 0] 31))
  have hR0 := VB.new_at (w.alloc (.cells #[.slice l.ba d.blocks.length l.bc, .slice l.wa d.waiting.length l.wc] 31)) (.slice none 0 0) (.slice none 0 0) 31 (w.heap.size + 1) (by simp)
  refine callsIn_wide.1 (callsIn_of_wp_marks (F := Fence.wide) (n := 5) Try.func9 rfl trivial ?_ rfl)
  refine wpIn_wide.2 (Go.Code.wp_mono (noPanicA_le _) ?_)
  simp only [Try.ntmps9, List.size_toArray, List.length_cons, List.length_nil, Nat.reduceAdd, Nat.reduceSub, Array.replicate_succ, Array.replicate_zero, List.push_toArray, List.append_toArray, List.nil_append, List.cons_append]
  cases hok2 : d.ok with
  | false =>
    have hok' : Hid _ := hok2
    have hz : d.apply ops n = zeroD := if_neg (fun h => by rw [hok2] at h; cases h.1)
    rw [hz]
    clear hok2 hz
    go_wp2_with (go_at_call 23; refine (implDiskOk_any d l _ hd (ha.grow hA)).mono ?_; rintro e w2 ⟨rfl, hb2⟩; rw [hok'.out]; obtain ⟨z0, z1, zf⟩ := hR0.grow hb2)
    obtain ⟨c0, c1, K⟩ := ret2 (A := .slice none 0 0) (B := .slice none 0 0) z0 z1
    refine ⟨.agg #[.slice none 0 0, .slice none 0 0], by simp [results, Try.results9, go_sem, c0, c1], DPost.zero ?_⟩
    exact (gca hA hb2).trans (K.below (gca hA hb2).size (fun z hz e => by omega))
  | true =>
    have hok' : Hid _ := hok2
    have hfit := DD.fit hok2
    by_cases hr : 0 ≤ n ∧ n ≤ (ops.length : Int)
    · obtain ⟨N, rfl⟩ : ∃ N : Nat, n = (N : Int) := ⟨n.toNat, by omega⟩
      have hN : N ≤ ops.length := by omega
      have hz : d.apply ops N = (applyN d ops N).getD zeroD := if_pos ⟨hok2, hr.1, hr.2⟩
      obtain ⟨c, hc⟩ := hid_ex ((applyN d ops N).getD zeroD)
      rw [hz, ← hc.out]
      have t1 : ¬ ((N : Int) < 0) := by omega
      have t2 : ¬ ((ops.length : Int) < (N : Int)) := by omega
      have t3 : (N : Int) ≤ (oc : Int) := by omega
      clear hz hok2 hr
      go_upto_region 4 with (first
        | (go_at_call 23; refine (implDiskOk_any d l _ hd (ha.grow hA)).mono ?_; rintro e w2 ⟨rfl, hb2⟩; rw [hok'.out]; obtain ⟨_, x0, x1⟩ := hX0.grow hb2)
        | (go_at_call 24; refine (driveOf_any d l _ hfit (ha.grow (gca hA hb2))).mono ?_; rintro e w3 ⟨p, pa, pc, rfl, hp3, hDr, hb3⟩))
      have hlen : (ops.take N).length = N := by simp; omega
      have hbA3 := gca (gca hA hb2) hb3
      have hst := steps_any p oa oc (ops.take N) w w3 (by omega) (opsAt_take hoa N) hbA3
      rw [hlen] at hst
      have hR3 := (hR0.grow hb2).grow hb3
      have hwp : w.heap.size + 1 < p := by have := hR0.grow hb2; have := this.lt; omega
      have hops : ∀ o, o ∈ ops.take N → I64 o.block ∧ o.bytes.length ≤ maxLen := fun o ho => ⟨hok.bl o (List.mem_of_mem_take ho), (hok.by_ o (List.mem_of_mem_take ho)).1⟩
      clear x0 x1
      go_wp2_with (first
        | (go_at_call 26; refine hst.mono ?_; rintro e w4 ⟨sa, sc, V, obs, rfl, hrd, hb4⟩; rw [hlen])
        | (go_at_call 25; refine (outcomes_any sa N sc w4).mono ?_; rintro e w5 ⟨rfl, hw5⟩))
      have hb4' := hb4
      have hI0 : AI w w w3.heap.size V p w4.heap.size (w.heap.size + 1) d (ops.take N) sa sc obs 0 (w4.alloc (.cells #[.slice sa N sc] 59)) := {
        dr := ⟨d, pa, pc, .nilFunc, rfl, hok'.out, hDr.grow (gal hb4 _)⟩
        rd := hrd.kept ((Kept.refl (fun _ => False) w4).alloc _) (fun _ _ _ e => e) (fun _ _ _ e => e) (fun _ _ _ e => e)
        bx := by rw [hlen]; exact World.alloc_heap_new w4 _
        bB := hb4.size
        vr := hR3.grow (gal hb4 _)
        bel := gal (gca hbA3 hb4) _
        b0 := gal (gca hbA3 hb4) _ }
      have hs5 : (w4.alloc (.cells #[.slice sa N sc] 59)).heap.size = w4.heap.size + 1 := by simp
      have hpb : p < w3.heap.size := hDr.d.lt
      have hs34 := hb4.size
      generalize w4.alloc (.cells #[.slice sa N sc] 59) = w5 at hI0 hs5 ⊢
      clear hst hrd hb4 hb4'
      refine (wpIn_wide (n := 5)).1 ?_
      refine wpIn_range_do (by decide) (gf := 45) (lb := #[.pointer (some ⟨w4.heap.size, 0, none⟩)]) rfl (enters_of Try.func45 (by kernel_rfl) rfl) rfl (emptyR (w.heap.size + 1)) (fun W => (KeepsOthers.setCell _ _ _).trans (KeepsOthers.setCell _ _ _)) (fun W => VB W (w.heap.size + 1) (.slice none 0 0) (.slice none 0 0)) ?hG ?a1 ?assign ?body (fun W => AI w w w3.heap.size V p w4.heap.size (w.heap.size + 1) d (ops.take N) sa sc obs (ops.take N).length W) (AStop w (w.heap.size + 1) d (ops.take N)) ?seq ?done ?stop
      case assign =>
        intro l' x W K hK
        gi_wp2
        exact hK
      case hG =>
        intro W l' r o hv hl'
        refine hv.kept (keptPutA W l' o) (fun e => ?_)
        have h0 := hv.v0
        rw [e] at h0
        simp [World.cell?, hl'] at h0
      case body =>
        intro l' x W hv
        obtain ⟨v0, v1, vf⟩ := id hv
        cases x with
        | true =>
          gi_wp2
          exact ⟨rfl, rfl⟩
        | false =>
          gi_wp2
          exact ⟨rfl, rfl⟩
      case seq =>
        intro rd dn hY
        have hW1 := hI0.kept (((Kept.refl (fun _ => False) w5).alloc (.deferred (some []))).alloc (.loop rd)) hpb (by omega) (by omega) (by omega) (fun z e => e.elim)
        refine out1_in 4 (by decide) w w w3.heap.size V p w4.heap.size (w.heap.size + 1) (w5.heap.size + 1) w5.heap.size d (ops.take N) sa sc obs rd dn hpb (by omega) (by omega) (by omega) (by omega) (by omega) (by omega) hops hY _ hW1 ?_ ?_
        · have := World.alloc_heap_new (w5.alloc (.deferred (some []))) (.loop rd); rwa [World.size_alloc] at this
        · exact (Below.heap_alloc _ _ _ (by simp)).trans (World.alloc_heap_new w5 _)
      case done =>
        rintro W o hJ hD ⟨r0, hlr⟩
        obtain ⟨e, pa2, pc2, kv2, he, hek, hDr2⟩ := hJ.dr
        have he2 : applyN d ops N = some e := by rw [← applyN_take N (Nat.le_refl _) hN]; rw [hlen] at he; exact he
        have hce : c = e := by rw [hc.out, he2]; rfl
        have hfe := DD.fit hek
        have hK := keptPutA W (w5.heap.size + 1) o
        have hD2 := (World.putObj_heap_other (w := W) (r := w5.heap.size + 1) (o := o) (k := w5.heap.size) (by omega)).trans hD
        have hno : ∀ t, IsT t W (w5.heap.size + 1) → False := fun t ⟨x, hx⟩ => by rw [hlr] at hx; cases hx
        have hDr3 : Dr (W.putObj (w5.heap.size + 1) o) p e.blocks pa2 pc2 e.waiting kv2 := ⟨hDr2.d.kept hK (by omega), hK.owns hDr2.own (fun z hz e => by subst e; exact hno _ (owns_isT hDr2.own hz).1), hDr2.w64⟩
        have hv3 := hJ.vr.kept hK (by omega)
        have hbl3 : Below w.heap.size w (W.putObj (w5.heap.size + 1) o) := hJ.bel.trans (hK.below hJ.bel.size (fun z hz e => by omega))
        generalize W.putObj (w5.heap.size + 1) o = W3 at hDr3 hv3 hD2 hbl3 ⊢
        go_wp2_with (go_at_call 27; refine (disk_any p e.blocks pa2 pc2 e.waiting kv2 W3 (by have := hfe.wl; omega) hDr3).mono ?_; rintro r w6 ⟨l6, fa, ga, fc, gc, rfl, hmd, hb6⟩; obtain ⟨z0, z1, zf⟩ := hv3.grow hb6)
        rw [← hs5]
        have hv6 := ((hv3.grow hb6).set0 (.slice l6.ba e.blocks.length l6.bc)).set1 (.slice l6.wa e.waiting.length l6.wc)
        have hK6 : Kept (fun z => z = w.heap.size + 1) w6 ((w6.setCell ⟨w.heap.size + 1, 0, none⟩ (.slice l6.ba e.blocks.length l6.bc)).setCell ⟨w.heap.size + 1, 1, none⟩ (.slice l6.wa e.waiting.length l6.wc)) := ((Kept.refl (fun z => z = w.heap.size + 1) w6).set (a := ⟨w.heap.size + 1, 0, none⟩) (fun _ => rfl) _).set (a := ⟨w.heap.size + 1, 1, none⟩) (fun _ => rfl) _
        have hDl := (Array.getElem?_eq_some_iff.1 hD2).1
        have hD6 := (hb6.block _ hDl).trans hD2
        have hs6 := hb6.size
        generalize (w6.setCell ⟨w.heap.size + 1, 0, none⟩ (.slice l6.ba e.blocks.length l6.bc)).setCell ⟨w.heap.size + 1, 1, none⟩ (.slice l6.wa e.waiting.length l6.wc) = w7 at hv6 hK6 ⊢
        have hD7 := (hK6.block _ (by omega) (by omega)).trans hD6
        refine ⟨by simp, .inl ⟨_, _, rfl, run_takeDeferred hD7, ?_⟩⟩
        have hK8 := keptPutA w7 w5.heap.size (.deferred none)
        have hv8 := hv6.kept hK8 (by omega)
        have hbl8 : Below w.heap.size w (w7.putObj w5.heap.size (.deferred none)) := ((gca hbl3 hb6).trans (hK6.below (gca hbl3 hb6).size (fun z hz e => by omega))).trans (hK8.below (by have := (gca hbl3 hb6).size; have := hK6.size; omega) (fun z hz e => by omega))
        have hmd8 := ((hmd.last hK6 (by omega) (Nat.le_refl _) hK6.size).last hK8 (by omega) (lo' := w.heap.size) (by omega) hK8.size)
        generalize w7.putObj w5.heap.size (.deferred none) = w8 at hv8 hbl8 hmd8 ⊢
        obtain ⟨q0, q1, _⟩ := hv8
        refine ⟨e.val l6, by simp [results, Try.results9, go_sem, q0, q1], ?_⟩
        rw [hce]
        exact ⟨l6, fa, ga, fc, gc, rfl, hmd8, hbl8⟩
      case stop =>
        intro W o hS hD
        obtain ⟨⟨j, hj, hno⟩, hv, hbl⟩ := hS
        have hK := keptPutA W (w5.heap.size + 1) o
        have hD2 := (World.putObj_heap_other (w := W) (r := w5.heap.size + 1) (o := o) (k := w5.heap.size) (by omega)).trans hD
        have hv3 := hv.kept hK (by omega)
        have hbl3 : Below w.heap.size w (W.putObj (w5.heap.size + 1) o) := hbl.trans (hK.below hbl.size (fun z hz e => by omega))
        generalize W.putObj (w5.heap.size + 1) o = W3 at hv3 hD2 hbl3 ⊢
        have hc0 : c = zeroD := by
          have h1 := applyN_none hno (N - (j + 1))
          rw [hlen] at hj
          rw [show j + 1 + (N - (j + 1)) = N by omega, applyN_take N (Nat.le_refl _) hN] at h1
          rw [hc.out, h1]
          rfl
        have hDl := (Array.getElem?_eq_some_iff.1 hD2).1
        gi_wp2
        refine ⟨by simp, .inl ⟨_, _, rfl, run_takeDeferred hD2, ?_⟩⟩
        have hK8 := keptPutA W3 w5.heap.size (.deferred none)
        have hv8 := hv3.kept hK8 (by omega)
        have hbl8 : Below w.heap.size w (W3.putObj w5.heap.size (.deferred none)) := hbl3.trans (hK8.below hbl3.size (fun z hz e => by omega))
        generalize W3.putObj w5.heap.size (.deferred none) = w8 at hv8 hbl8 ⊢
        obtain ⟨q0, q1, _⟩ := hv8
        refine ⟨.agg #[.slice none 0 0, .slice none 0 0], by simp [results, Try.results9, go_sem, q0, q1], ?_⟩
        rw [hc0]
        exact DPost.zero hbl8
    · have hz : d.apply ops n = zeroD := if_neg (fun h => hr h.2)
      rw [hz]
      clear hok2 hz
      rcases (by omega : n < 0 ∨ (¬ (n < 0) ∧ (ops.length : Int) < n)) with h1 | ⟨h1, h2⟩
      · go_wp2_with (go_at_call 23; refine (implDiskOk_any d l _ hd (ha.grow hA)).mono ?_; rintro e w2 ⟨rfl, hb2⟩; rw [hok'.out]; obtain ⟨z0, z1, zf⟩ := hR0.grow hb2)
        obtain ⟨c0, c1, K⟩ := ret2 (A := .slice none 0 0) (B := .slice none 0 0) z0 z1
        refine ⟨.agg #[.slice none 0 0, .slice none 0 0], by simp [results, Try.results9, go_sem, c0, c1], DPost.zero ?_⟩
        exact (gca hA hb2).trans (K.below (gca hA hb2).size (fun z hz e => by omega))
      · go_wp2_with (go_at_call 23; refine (implDiskOk_any d l _ hd (ha.grow hA)).mono ?_; rintro e w2 ⟨rfl, hb2⟩; rw [hok'.out]; obtain ⟨z0, z1, zf⟩ := hR0.grow hb2)
        obtain ⟨c0, c1, K⟩ := ret2 (A := .slice none 0 0) (B := .slice none 0 0) z0 z1
        refine ⟨.agg #[.slice none 0 0, .slice none 0 0], by simp [results, Try.results9, go_sem, c0, c1], DPost.zero ?_⟩
        exact (gca hA hb2).trans (K.below (gca hA hb2).size (fun z hz e => by omega))

end Go.Proofs.Ythjddpkegooobac

/-
  SAPP2: the specification's Apply. Own work.
-/
namespace Go.Proofs.Ythjddpkegooobac
open Go.RowKit

set_option maxHeartbeats 4000000 in
set_option maxRecDepth 100000 in
theorem specApply_any (d : DD) (l : DL) (oa : Option Addr) (ops : List OP) (oc : Nat) (n : Int) (w : World) (hd : d.Ok) (ha : DAt w l d) (hoa : OpsAt w oa ops) (_hol : ops.length ≤ 1048576) (hok : OpsOk ops) (hn : I64 n) :
    Calls Try.prog 6 #[d.val l, .slice oa ops.length oc, .int .i64 n] w (CPost (d.apply ops n) w) := by
  have hA := gal (gal (gre w) (.cells #[.slice l.ba d.blocks.length l.bc, .slice l.wa d.waiting.length l.wc] 31)) (.cells #[.slice none 0 0, .slice none 0 0] 31)
  have hX0 := (DBox.new w d l 31).grow (gal (gre _) (.cells #[.slice none 0 0, .slice none 0 0] 31))
  have hR0 := VB.new_at (w.alloc (.cells #[.slice l.ba d.blocks.length l.bc, .slice l.wa d.waiting.length l.wc] 31)) (.slice none 0 0) (.slice none 0 0) 31 (w.heap.size + 1) (by simp)
  cases hok2 : d.ok with
  | false =>
    have hok' : Hid _ := hok2
    have hz : d.apply ops n = zeroD := if_neg (fun h => by rw [hok2] at h; cases h.1)
    rw [hz]
    clear hok2 hz
    go_enter Try.func6, Try.ntmps6
    go_wp2_with (go_at_call 18; refine (specDiskOk_any d l _ hd (ha.grow hA)).mono ?_; rintro e w2 ⟨rfl, hb2⟩; rw [hok'.out]; obtain ⟨z0, z1, zf⟩ := hR0.grow hb2; obtain ⟨_, x0, x1⟩ := hX0.grow hb2)
    obtain ⟨c0, c1, K⟩ := ret2 (A := .slice none 0 0) (B := .slice none 0 0) z0 z1
    refine bodyPost_ret (v := .agg #[.slice none 0 0, .slice none 0 0]) (by simp [results, Try.results6, go_sem, c0, c1]) rfl (CPost.zero ?_)
    exact (gca hA hb2).trans (K.below (gca hA hb2).size (fun z hz e => by omega))
  | true =>
    have hok' : Hid _ := hok2
    by_cases hr : 0 ≤ n ∧ n ≤ (ops.length : Int)
    · obtain ⟨N, rfl⟩ : ∃ N : Nat, n = (N : Int) := ⟨n.toNat, by omega⟩
      have hN : N ≤ ops.length := by omega
      have hz : d.apply ops N = (applyN d ops N).getD zeroD := if_pos ⟨hok2, hr.1, hr.2⟩
      obtain ⟨c, hc⟩ := hid_ex ((applyN d ops N).getD zeroD)
      rw [hz, ← hc.out]
      have t1 : ¬ ((N : Int) < 0) := by omega
      have t2 : ¬ ((ops.length : Int) < (N : Int)) := by omega
      clear hz hok2 hr
      go_enter Try.func6, Try.ntmps6
      go_wp2_with (first
        | (go_at_call 18; refine (specDiskOk_any d l _ hd (ha.grow hA)).mono ?_; rintro e w2 ⟨rfl, hb2⟩; rw [hok'.out]; obtain ⟨z0, z1, zf⟩ := hR0.grow hb2; obtain ⟨_, x0, x1⟩ := hX0.grow hb2)
        | (go_at_call 19; refine (l4apply_any d l oa ops oc N _ w2 rfl hok'.out hd (ha.grow (gca hA hb2)) hok (hoa.grow (gca hA hb2)) hN).mono ?_; rintro e w3 ⟨lb, lw, ba, bc, wa, wc, f, b, rfl, hap, hfk, hmb, hmw, hsb, hsw, hb3⟩; have hR3 := ((hR0.grow hb2).grow hb3).grow (gal (gre _) (.cells #[.slice ba f.blocks.length bc, .slice wa f.waiting.length wc] 31)); obtain ⟨y0, y1, yf⟩ := id hR3; cases b))
      · have hb4 : Below w.heap.size w (w3.alloc (.cells #[.slice ba f.blocks.length bc, .slice wa f.waiting.length wc] 31)) := gal (gca (gca hA hb2) hb3) _
        obtain ⟨c0, c1, K⟩ := ret2 (A := .slice none 0 0) (B := .slice none 0 0) y0 y1
        have hcz : c = zeroD := by rw [hc.out, hap.out]; rfl
        rw [hcz]
        refine bodyPost_ret (v := .agg #[.slice none 0 0, .slice none 0 0]) (by simp [results, Try.results6, go_sem, c0, c1]) rfl (CPost.zero ?_)
        exact hb4.trans (K.below hb4.size (fun z hz e => by omega))
      · have hb4 : Below w.heap.size w (w3.alloc (.cells #[.slice ba f.blocks.length bc, .slice wa f.waiting.length wc] 31)) := gal (gca (gca hA hb2) hb3) _
        have hAl : Below w3.heap.size w3 (w3.alloc (.cells #[.slice ba f.blocks.length bc, .slice wa f.waiting.length wc] 31)) := gal (gre _) _
        have hsb4 := hsb.grow hAl
        have hsw4 := hsw.grow hAl
        have hs2 := (gca hA hb2).size
        have hR2 := (hR0.grow hb2).lt
        generalize w3.alloc (.cells #[.slice ba f.blocks.length bc, .slice wa f.waiting.length wc] 31) = w4 at y0 y1 hb4 hsb4 hsw4 ⊢
        obtain ⟨c0, c1, K⟩ := ret2 (A := .slice ba f.blocks.length bc) (B := .slice wa f.waiting.length wc) y0 y1
        have hcz : c = f := by rw [hc.out, hap.out]; rfl
        rw [hcz]
        refine bodyPost_ret (v := f.val ⟨ba, bc, wa, wc⟩) (by simp [results, Try.results6, go_sem, c0, c1]) rfl ⟨lb, lw, ba, bc, wa, wc, rfl, hmb, hmw, (hsb4.kept K (fun z e hz => by omega)).le (by omega), (hsw4.kept K (fun z e hz => by omega)).le (by omega), ?_⟩
        exact hb4.trans (K.below hb4.size (fun z hz e => by omega))
    · have hz : d.apply ops n = zeroD := if_neg (fun h => hr h.2)
      rw [hz]
      clear hok2 hz
      rcases (by omega : n < 0 ∨ (¬ (n < 0) ∧ (ops.length : Int) < n)) with h1 | ⟨h1, h2⟩
      · go_enter Try.func6, Try.ntmps6
        go_wp2_with (go_at_call 18; refine (specDiskOk_any d l _ hd (ha.grow hA)).mono ?_; rintro e w2 ⟨rfl, hb2⟩; rw [hok'.out]; obtain ⟨z0, z1, zf⟩ := hR0.grow hb2; obtain ⟨_, x0, x1⟩ := hX0.grow hb2)
        obtain ⟨c0, c1, K⟩ := ret2 (A := .slice none 0 0) (B := .slice none 0 0) z0 z1
        refine bodyPost_ret (v := .agg #[.slice none 0 0, .slice none 0 0]) (by simp [results, Try.results6, go_sem, c0, c1]) rfl (CPost.zero ?_)
        exact (gca hA hb2).trans (K.below (gca hA hb2).size (fun z hz e => by omega))
      · go_enter Try.func6, Try.ntmps6
        go_wp2_with (go_at_call 18; refine (specDiskOk_any d l _ hd (ha.grow hA)).mono ?_; rintro e w2 ⟨rfl, hb2⟩; rw [hok'.out]; obtain ⟨z0, z1, zf⟩ := hR0.grow hb2; obtain ⟨_, x0, x1⟩ := hX0.grow hb2)
        obtain ⟨c0, c1, K⟩ := ret2 (A := .slice none 0 0) (B := .slice none 0 0) z0 z1
        refine bodyPost_ret (v := .agg #[.slice none 0 0, .slice none 0 0]) (by simp [results, Try.results6, go_sem, c0, c1]) rfl (CPost.zero ?_)
        exact (gca hA hb2).trans (K.below (gca hA hb2).size (fun z hz e => by omega))

end Go.Proofs.Ythjddpkegooobac

/-
  BYTES: the laws' bytes, marked. Own work.
-/
namespace Go.Proofs.Ythjddpkegooobac
open Go.RowKit

def marksB (k n : Nat) : List Nat := (List.range n).map fun j => (k + j) % 256
set_option maxRecDepth 100000 in
theorem marksB_length (k n : Nat) : (marksB k n).length = n := by simp [marksB]
theorem marksB_get {k n i : Nat} (h : i < n) : (marksB k n)[i]! = (k + i) % 256 := by
  rw [getElem!_pos _ i (by rw [marksB_length]; exact h)]
  simp [marksB]

set_option maxRecDepth 100000 in
theorem markByteS_any (oa : Option Addr) (bs : List Nat) (cap k lo : Nat) (w : World) (hl : bs.length ≤ 1048576) (hk : k ≤ 1099511627776) (hM : MB w lo oa bs) :
    Calls Try.prog 33 #[.slice oa bs.length cap, .int .i64 k] w fun e w' => e = .returned (.int .i64 ((k + bs.length : Nat) : Int)) ∧ MB w' lo oa (marksB k bs.length) ∧ Kept (fun b => lo ≤ b ∧ oa = some ⟨b, 0, none⟩) w w' := by
  rcases hM with rfl | ⟨G, n, rfl, hG, hB⟩
  · go_enter Try.func33, Try.ntmps33
    go_wp2
    go_loopw [1, 5] (fun c i wr => c = .int .i64 k ∧ i = .int .i64 0 ∧ wr = w) (fun _ _ _ => 0)
    case atStart => exact ⟨rfl, rfl, rfl⟩
    case round =>
      obtain ⟨rfl, rfl, rfl⟩ := hrel
      go_wp2
      go_ret
      exact ⟨rfl, Or.inl rfl, Kept.refl _ _⟩
  · obtain ⟨f0, hr0, _⟩ := hB.row
    have hln : bs.length ≤ n := by obtain ⟨c, _, _, hl, _⟩ := hB; exact hl
    go_enter Try.func33, Try.ntmps33
    go_wp2
    go_loopw [1, 5] (fun c i wr => ∃ (m : Nat) (f : Nat → Value), m ≤ bs.length ∧ c = .int .i64 ((k + m : Nat) : Int) ∧ i = .int .i64 m ∧ wr.rowIs G 5 n f ∧ (∀ j, j < m → f j = .int .u8 (((k + j) % 256 : Nat) : Int)) ∧ Kept (fun b => b = G) w wr) (fun _ i _ => bs.length - (intOf i).toNat)
    case atStart => exact ⟨0, f0, Nat.zero_le _, rfl, rfl, hr0, fun j hj => absurd hj (Nat.not_lt_zero _), Kept.refl _ _⟩
    case round =>
      obtain ⟨m, f, hm, rfl, rfl, hrow, hin, hK⟩ := hrel
      obtain ⟨q, hq⟩ := hid_ex (k + m)
      rw [← hq.out]
      have hq1 : q ≤ 2199023255552 := by rw [hq.out]; omega
      by_cases hlt : m < bs.length
      · have d0 := hrow.cell (i := m) (by omega)
        have fz := hrow.frozen
        obtain ⟨x, hx⟩ := hid_ex (q % 256)
        have e2 : IntKind.u8.wrap (q : Int) = (x : Int) := by rw [hx.out, IntKind.wrap_u8']; omega
        go_wp2
        go_roundw
        case rel =>
          refine ⟨m + 1, _, by omega, ?_, by go_num, hrow.set _ _, fun j hj => ?_, hK.set (fun _ => rfl) _⟩
          · have : q + 1 = k + (m + 1) := by rw [hq.out]; omega
            rw [← this]; go_num
          · show (if j = m then _ else _) = _
            split
            · rename_i e; rw [e, hx.out, hq.out]
            · exact hin j (by omega)
        case measure => simp [intOf]; omega
      · obtain rfl : m = bs.length := by omega
        go_wp2
        go_ret
        refine ⟨by rw [← hq.out]; rfl, Or.inr ⟨G, n, rfl, hG, BRow.of_row hrow (by rw [marksB_length]; exact hln) (fun i hi => ?_)⟩, hK.mono (fun b _ e => by subst e; exact ⟨hG, rfl⟩)⟩
        rw [marksB_length] at hi
        rw [marksB_get hi]; exact hin i hi

set_option maxRecDepth 100000 in
theorem heldByteS_any (oa : Option Addr) (n cap k : Nat) (w : World) (hl : n ≤ 1048576) (hk : k ≤ 1099511627776) (hM : BytesAt w oa (marksB k n)) :
    Calls Try.prog 52 #[.slice oa n cap, .int .i64 k] w fun e w' => e = .returned (.int .i64 ((k + n : Nat) : Int)) ∧ Below w.heap.size w w' := by
  go_enter Try.func52, Try.ntmps52
  go_wp2
  go_loopw [1, 5] (fun c i wr => ∃ (m : Nat), m ≤ n ∧ c = .int .i64 ((k + m : Nat) : Int) ∧ i = .int .i64 m ∧ Below w.heap.size w wr) (fun _ i _ => n - (intOf i).toNat)
  case atStart => exact ⟨0, Nat.zero_le _, rfl, rfl, gre _⟩
  case round =>
    obtain ⟨m, hm, rfl, rfl, hb⟩ := hrel
    obtain ⟨q, hq⟩ := hid_ex (k + m)
    rw [← hq.out]
    have hq1 : q ≤ 2199023255552 := by rw [hq.out]; omega
    by_cases hlt : m < n
    · obtain ⟨x, b, off, hxk, hxm, rfl, hc⟩ := (hM.grow hb).get (k := m) (by rw [marksB_length]; exact hlt)
      have hx2 : Hid (x = q % 256) := by show _ = _; rw [hxk.out, marksB_get hlt, hq.out]
      have e2 : IntKind.u8.wrap (q : Int) = (x : Int) := by rw [hx2.out, IntKind.wrap_u8']; omega
      have hn2 : ((x : Int) != (x : Int)) = false := by simp
      go_wp2
      go_roundw
      case rel =>
        refine ⟨m + 1, by omega, ?_, by go_num, hb⟩
        have : q + 1 = k + (m + 1) := by rw [hq.out]; omega
        rw [← this]; go_num
      case measure => simp [intOf]; omega
    · obtain rfl : m = n := by omega
      go_wp2
      go_ret
      exact ⟨by rw [← hq.out]; rfl, hb⟩

end Go.Proofs.Ythjddpkegooobac

/-
  DTO: the laws' copies of disks. Own work.
-/
namespace Go.Proofs.Ythjddpkegooobac
open Go.RowKit


/-- lists of bytes in a row of their own, the bytes in rows behind it -/
def BlksIn (w : World) (N : Nat) (f : Nat → Value) (bs : Nat → Nat) (ls : List (List Nat)) (k : Nat) : Prop :=
  ∀ i, i < k → f i = .slice (some ⟨bs i, 0, none⟩) ls[i]!.length ls[i]!.length ∧ BRow w (bs i) ls[i]!.length ls[i]! ∧ N < bs i ∧ ∀ j, j < i → bs j < bs i
def OwnBlks (w : World) (N : Nat) (bs : Nat → Nat) (ls : List (List Nat)) : Prop := ∃ f, w.rowIs N 44 ls.length f ∧ BlksIn w N f bs ls ls.length

theorem OwnBlks.below {w w' : World} {N : Nat} {bs : Nat → Nat} {ls : List (List Nat)} (h : OwnBlks w N bs ls) (hb : Below w.heap.size w w') : OwnBlks w' N bs ls := by
  obtain ⟨f, hr, hn⟩ := h
  refine ⟨f, hr.of_block (hb.block _ hr.lt), fun i hi => ?_⟩
  obtain ⟨h0, h1, h2⟩ := hn i hi
  exact ⟨h0, h1.of_block (hb.block _ h1.lt), h2⟩
theorem OwnBlks.set {w : World} {N : Nat} {bs : Nat → Nat} {ls : List (List Nat)} (h : OwnBlks w N bs ls) {p : Addr} (hp : p.block < N) (u : Value) : OwnBlks (w.setCell p u) N bs ls := by
  obtain ⟨f, hr, hn⟩ := h
  refine ⟨f, hr.setOther (by omega) u, fun i hi => ?_⟩
  obtain ⟨h0, h1, h2, h3⟩ := hn i hi
  exact ⟨h0, h1.of_block (Deep.blk_setCell_other _ _ _ _ (by omega)), h2, h3⟩
theorem OwnBlks.lt {w : World} {N : Nat} {bs : Nat → Nat} {ls : List (List Nat)} (h : OwnBlks w N bs ls) : N < w.heap.size := by obtain ⟨f, hr, _⟩ := h; exact hr.lt
theorem OwnBlks.at_ {w : World} {N : Nat} {bs : Nat → Nat} {ls : List (List Nat)} (h : OwnBlks w N bs ls) : BlksAt w (some ⟨N, 0, none⟩) ls := fun i hi => by
  obtain ⟨f, hr, hn⟩ := h
  obtain ⟨h0, h1, _⟩ := hn i hi
  refine ⟨N, 0, some ⟨bs i, 0, none⟩, ls[i]!.length, rfl, ?_, brow_bytes h1⟩
  rw [← h0, Nat.zero_add]; exact hr.cell hi
theorem BlksIn.step {w w' : World} {N : Nat} {f : Nat → Value} {bs : Nat → Nat} {ls : List (List Nat)} {k b : Nat} {l : List Nat} (h : BlksIn w N f bs ls k) (hv : Hid (l = ls[k]!)) (hb : Below w.heap.size w w') (hN : N < w.heap.size)
    (hbb : w.heap.size ≤ b) (hown : BRow w' b l.length l) (u : Value) (o : Nat) :
    BlksIn (w'.setCell ⟨N, o, none⟩ u) N (fun j => if j = k then .slice (some ⟨b, 0, none⟩) l.length l.length else f j) (fun i => if i = k then b else bs i) ls (k + 1) := fun i hi => by
  have e := hv.out
  by_cases hk : i = k
  · subst hk; subst e
    refine ⟨by simp, ?_, by simp; omega, fun j hj => ?_⟩
    · simp only [if_pos]
      exact hown.of_block (Deep.blk_setCell_other _ _ _ _ (by simp; omega))
    · simp only [if_pos, if_neg (show j ≠ i by omega)]
      have := (h j hj).2.1.lt
      omega
  · obtain ⟨h0, h1, h2, h3⟩ := h i (by omega)
    refine ⟨?_, ?_, ?_, fun j hj => ?_⟩ <;> simp only [if_neg hk]
    · exact h0
    · exact (h1.of_block (hb.block _ h1.lt)).of_block (Deep.blk_setCell_other _ _ _ _ (by simp; omega))
    · exact h2
    · rw [if_neg (show j ≠ k by omega)]; exact h3 j hj

theorem toByteSS_any (a : Option Addr) (cap : Nat) (ns : List (List Nat)) (w : World) (hl : ns.length ≤ 1048576) (hv : ∀ n, n ∈ ns → n.length ≤ 1048576) (ha : BlksAt w a ns) :
    Calls Try.prog 20 #[.slice a ns.length cap] w fun e w' => ∃ b bs, e = .returned (.slice (some ⟨b, 0, none⟩) ns.length ns.length) ∧ w.heap.size ≤ b ∧ OwnBlks w' b bs ns ∧ Below w.heap.size w w' := by
  obtain ⟨i0, hi, hz0, hz1, hz2⟩ := info_parts info_bytes
  have hmk : ∀ u : World, (Instr.makeSlice 22 (.int .i64 (ns.length : Int)) (.int .i64 (ns.length : Int))).run Try.prog u =
      .ok (.slice (some ⟨u.heap.size, 0, none⟩) ns.length ns.length) (u.alloc (.cells (madeCells #[.slice none 0 0] ns.length) 44)) := fun u => by
    have h := run_make (P := Try.prog) u 22 44 i0 _ Try.underlying22 hi hz0 .i64 .i64 (ns.length : Int) (ns.length : Int) (by omega) (Int.le_refl _) (by rw [hz2]; omega) (by omega)
    simpa [hz1, Value.cells] using h
  go_enter Try.func20, Try.ntmps20
  go_wp2
  go_loopw [4] (fun i wr => ∃ (k : Nat) (f : Nat → Value) (bs : Nat → Nat), k ≤ ns.length ∧ i = .int .i64 k ∧ wr.rowIs w.heap.size 44 ns.length f ∧ BlksIn wr w.heap.size f bs ns k ∧ Below w.heap.size w wr) (fun i _ => ns.length - (intOf i).toNat)
  case atStart => exact ⟨0, _, fun _ => 0, Nat.zero_le _, rfl, rowIs_made_any _ _ _ _, fun i hi => absurd hi (Nat.not_lt_zero _), (Below.refl _ _).alloc (Nat.le_refl _) _⟩
  case round =>
    obtain ⟨k, f, bs, hk, rfl, hrow, hin, hb⟩ := hrel
    by_cases hlt : k < ns.length
    · obtain ⟨l, b, off, a', cap', hvk, hvm, rfl, c0, hva⟩ := (ha.grow hb).get hlt
      go_wp2_with (go_at_call 41; refine (toByteS_any a' l cap' _ (hv l hvm) hva).mono ?_; rintro e w' ⟨b', rfl, hbb, hown, hb'⟩; have hrow' := hrow.of_block (hb'.block _ hrow.lt); have d0 := hrow'.cell (i := k) (by omega); have f0 := hrow'.frozen)
      go_roundw
      case rel => exact ⟨k + 1, _, _, by omega, by go_num, hrow'.set _ _, hin.step hvk hb' hrow.lt hbb hown _ _, (hb.trans (hb'.mono hb.size)).setCell (Nat.le_refl _) _⟩
      case measure => simp [intOf]; omega
    · go_wp2
      go_ret
      have e : k = ns.length := by omega
      subst e
      exact ⟨_, bs, rfl, Nat.le_refl _, ⟨_, hrow, hin⟩, hb⟩

set_option maxRecDepth 100000 in
theorem toWrite_any (x : DW) (a : Option Addr) (cap : Nat) (w : World) (hl : x.bytes.length ≤ 1048576) (ha : BytesAt w a x.bytes) :
    Calls Try.prog 42 #[x.val a cap] w fun e w' => ∃ b, e = .returned (x.val (some ⟨b, 0, none⟩) x.bytes.length) ∧ w.heap.size ≤ b ∧ BRow w' b x.bytes.length x.bytes ∧ Below w.heap.size w w' := by
  go_enter Try.func42, Try.ntmps42
  go_wp2_with (go_at_call 41; refine (toByteS_any a x.bytes cap _ hl (ha.grow (gal (gal (gal (gre _) _) _) _))).mono ?_; rintro e w' ⟨b, rfl, hbb, hown, hb'⟩; obtain ⟨hc, hf⟩ := bcell hb')
  refine bodyPost_ret (v := x.val (some ⟨b, 0, none⟩) x.bytes.length) (by simp [results, Try.results42, go_sem, hc]) rfl ⟨b, rfl, ?_, ?_, ?_⟩
  · simp at hbb; omega
  · simp at hbb
    refine ((hown.of_block (Deep.blk_setCell_other _ _ _ _ (by simp; omega))).of_block (Deep.blk_setCell_other _ _ _ _ (by simp; omega))).of_block (Deep.blk_setCell_other _ _ _ _ (by simp; omega))
  · exact gse (gse (gse (gca (gal (gal (gal (gre _) _) _) _) hb') (by simp; omega) _) (by simp) _) (by simp) _

/-- writes in a row of their own, the bytes in rows behind it -/
def WrsIn (w : World) (N : Nat) (f : Nat → Value) (bs : Nat → Nat) (ns : List DW) (k : Nat) : Prop :=
  ∀ i, i < k → f (i * 2) = .int .i64 ns[i]!.block ∧ f (i * 2 + 1) = .slice (some ⟨bs i, 0, none⟩) ns[i]!.bytes.length ns[i]!.bytes.length ∧ BRow w (bs i) ns[i]!.bytes.length ns[i]!.bytes ∧ N < bs i ∧ ∀ j, j < i → bs j < bs i
def OwnWrs (w : World) (N : Nat) (bs : Nat → Nat) (ns : List DW) : Prop := ∃ f, w.rowIs N 70 (ns.length * 2) f ∧ WrsIn w N f bs ns ns.length

theorem OwnWrs.at_ {w : World} {N : Nat} {bs : Nat → Nat} {ns : List DW} (h : OwnWrs w N bs ns) : WrsAt w (some ⟨N, 0, none⟩) ns := fun i hi => by
  obtain ⟨f, hr, hn⟩ := h
  obtain ⟨h0, h1, h2, _⟩ := hn i hi
  refine ⟨N, 0, some ⟨bs i, 0, none⟩, ns[i]!.bytes.length, rfl, ?_, ?_, brow_bytes h2⟩
  · rw [← h0, Nat.zero_add]; exact hr.cell (by omega)
  · rw [← h1, Nat.zero_add]; exact hr.cell (by omega)
theorem OwnWrs.below {w w' : World} {N : Nat} {bs : Nat → Nat} {ns : List DW} (h : OwnWrs w N bs ns) (hb : Below w.heap.size w w') : OwnWrs w' N bs ns := by
  obtain ⟨f, hr, hn⟩ := h
  refine ⟨f, hr.of_block (hb.block _ hr.lt), fun i hi => ?_⟩
  obtain ⟨h0, h1, h2, h3⟩ := hn i hi
  exact ⟨h0, h1, h2.of_block (hb.block _ h2.lt), h3⟩
theorem OwnWrs.set {w : World} {N : Nat} {bs : Nat → Nat} {ns : List DW} (h : OwnWrs w N bs ns) {p : Addr} (hp : p.block < N) (u : Value) : OwnWrs (w.setCell p u) N bs ns := by
  obtain ⟨f, hr, hn⟩ := h
  refine ⟨f, hr.setOther (by omega) u, fun i hi => ?_⟩
  obtain ⟨h0, h1, h2, h3, h4⟩ := hn i hi
  exact ⟨h0, h1, h2.of_block (Deep.blk_setCell_other _ _ _ _ (by omega)), h3, h4⟩
theorem OwnWrs.lt {w : World} {N : Nat} {bs : Nat → Nat} {ls : List DW} (h : OwnWrs w N bs ls) : N < w.heap.size := by obtain ⟨f, hr, _⟩ := h; exact hr.lt
theorem WrsIn.step {w w' : World} {N : Nat} {f : Nat → Value} {bs : Nat → Nat} {ns : List DW} {k b : Nat} {n : DW} (h : WrsIn w N f bs ns k) (hv : Hid (n = ns[k]!)) (hb : Below w.heap.size w w') (hN : N < w.heap.size)
    (hbb : w.heap.size ≤ b) (hown : BRow w' b n.bytes.length n.bytes) (u u' : Value) (o o' : Nat) :
    WrsIn ((w'.setCell ⟨N, o, none⟩ u).setCell ⟨N, o', none⟩ u') N
      (fun j => if j = k * 2 + 1 then .slice (some ⟨b, 0, none⟩) n.bytes.length n.bytes.length else if j = k * 2 then .int .i64 n.block else f j) (fun i => if i = k then b else bs i) ns (k + 1) := fun i hi => by
  have e := hv.out
  by_cases hk : i = k
  · subst hk; subst e
    refine ⟨by simp, by simp, ?_, by simp; omega, fun j hj => ?_⟩
    · simp only [if_pos]
      exact (hown.of_block (Deep.blk_setCell_other _ _ _ _ (by simp; omega))).of_block (Deep.blk_setCell_other _ _ _ _ (by simp; omega))
    · simp only [if_pos, if_neg (show j ≠ i by omega)]
      have := (h j hj).2.2.1.lt
      omega
  · obtain ⟨h0, h1, h2, h3, h4⟩ := h i (by omega)
    refine ⟨?_, ?_, ?_, ?_, fun j hj => ?_⟩ <;> simp only [if_neg hk]
    · rw [if_neg (by omega), if_neg (by omega)]; exact h0
    · rw [if_neg (by omega), if_neg (by omega)]; exact h1
    · exact ((h2.of_block (hb.block _ h2.lt)).of_block (Deep.blk_setCell_other _ _ _ _ (by simp; omega))).of_block (Deep.blk_setCell_other _ _ _ _ (by simp; omega))
    · exact h3
    · rw [if_neg (show j ≠ k by omega)]; exact h4 j hj

set_option maxRecDepth 100000 in
theorem toWriteS_any (a : Option Addr) (cap : Nat) (ns : List DW) (w : World) (hl : ns.length ≤ 1048576) (hv : ∀ n, n ∈ ns → n.bytes.length ≤ 1048576) (ha : WrsAt w a ns) :
    Calls Try.prog 21 #[.slice a ns.length cap] w fun e w' => ∃ b bs, e = .returned (.slice (some ⟨b, 0, none⟩) ns.length ns.length) ∧ w.heap.size ≤ b ∧ OwnWrs w' b bs ns ∧ Below w.heap.size w w' := by
  obtain ⟨i0, hi, hz0, hz1, hz2⟩ := info_parts info_implWrite
  have hmk : ∀ u : World, (Instr.makeSlice 29 (.int .i64 (ns.length : Int)) (.int .i64 (ns.length : Int))).run Try.prog u =
      .ok (.slice (some ⟨u.heap.size, 0, none⟩) ns.length ns.length) (u.alloc (.cells (madeCells #[.int .i64 0, .slice none 0 0] (ns.length * 2)) 70)) := fun u => by
    have h := run_make (P := Try.prog) u 29 70 i0 _ Try.underlying29 hi hz0 .i64 .i64 (ns.length : Int) (ns.length : Int) (by omega) (Int.le_refl _) (by rw [hz2]; omega) (by omega)
    simpa [hz1, Value.cells] using h
  go_enter Try.func21, Try.ntmps21
  go_wp2
  go_loopw [4] (fun i wr => ∃ (k : Nat) (f : Nat → Value) (bs : Nat → Nat), k ≤ ns.length ∧ i = .int .i64 k ∧ wr.rowIs w.heap.size 70 (ns.length * 2) f ∧ WrsIn wr w.heap.size f bs ns k ∧ Below w.heap.size w wr) (fun i _ => ns.length - (intOf i).toNat)
  case atStart => exact ⟨0, _, fun _ => 0, Nat.zero_le _, rfl, rowIs_made_any _ _ _ _, fun i hi => absurd hi (Nat.not_lt_zero _), (Below.refl _ _).alloc (Nat.le_refl _) _⟩
  case round =>
    obtain ⟨k, f, bs, hk, rfl, hrow, hin, hb⟩ := hrel
    by_cases hlt : k < ns.length
    · obtain ⟨n, b, off, a', cap', hvk, hvm, rfl, c0, c1, hva⟩ := (ha.grow hb).get hlt
      go_wp2_with (go_at_call 42; refine (toWrite_any n a' cap' _ (hv n hvm) hva).mono ?_; rintro e w' ⟨b', rfl, hbb, hown, hb'⟩; have hrow' := hrow.of_block (hb'.block _ hrow.lt); have d0 := hrow'.cell (i := k * 2) (by omega); have d1 := hrow'.cell (i := k * 2 + 1) (by omega); have f0 := hrow'.frozen)
      go_roundw
      case rel => exact ⟨k + 1, _, _, by omega, by go_num, (hrow'.set _ _).set _ _, hin.step hvk hb' hrow.lt hbb hown _ _ _ _, ((hb.trans (hb'.mono hb.size)).setCell (Nat.le_refl _) _).setCell (Nat.le_refl _) _⟩
      case measure => simp [intOf]; omega
    · go_wp2
      go_ret
      have e : k = ns.length := by omega
      subst e
      exact ⟨_, bs, rfl, Nat.le_refl _, ⟨_, hrow, hin⟩, hb⟩

/-- a copy in memory of its own -/
structure OwnD (w : World) (l : DL) (lo : Nat) (bs xs : Nat → Nat) (d : DD) : Prop where
  blk : ∃ N, l.ba = some ⟨N, 0, none⟩ ∧ lo ≤ N ∧ OwnBlks w N bs d.blocks
  wrt : ∃ M, l.wa = some ⟨M, 0, none⟩ ∧ lo ≤ M ∧ OwnWrs w M xs d.waiting ∧ ∀ i, i < d.blocks.length → bs i < M
theorem OwnD.below {w w' : World} {l : DL} {lo : Nat} {bs xs : Nat → Nat} {d : DD} (h : OwnD w l lo bs xs d) (hb : Below w.heap.size w w') : OwnD w' l lo bs xs d := by
  obtain ⟨⟨N, h1, h2, h3⟩, M, h4, h5, h6, h7⟩ := h
  exact ⟨⟨N, h1, h2, h3.below hb⟩, M, h4, h5, h6.below hb, h7⟩
theorem OwnD.at_ {w : World} {l : DL} {lo : Nat} {bs xs : Nat → Nat} {d : DD} (h : OwnD w l lo bs xs d) : DAt w l d := by
  obtain ⟨⟨N, h1, h2, h3⟩, M, h4, h5, h6, h7⟩ := h
  exact ⟨by rw [h1]; exact h3.at_, by rw [h4]; exact h6.at_⟩

set_option maxRecDepth 100000 in
theorem toDisk_any (d : DD) (l : DL) (w : World) (hs : d.Small) (ha : DAt w l d) :
    Calls Try.prog 7 #[d.val l] w fun e w' => ∃ l' bs xs, e = .returned (d.val l') ∧ OwnD w' l' w.heap.size bs xs d ∧ Below w.heap.size w w' := by
  go_enter Try.func7, Try.ntmps7
  go_wp2_with (go_at_call 20; refine (toByteSS_any l.ba l.bc d.blocks _ hs.bl hs.bb (ha.b.grow (gal (gal (gal (gre _) _) _) _))).mono ?_; rintro e w' ⟨b1, bs1, rfl, hbb1, hown1, hb'⟩; obtain ⟨hc, hf⟩ := bcell hb')
  have hz : w.heap.size + 1 + 1 < w'.heap.size := by have := hb'.size; simp at this; omega
  have hz1 : w.heap.size + 1 < w'.heap.size := by omega
  have hz0 : w.heap.size < w'.heap.size := by omega
  have hB : Below w.heap.size w w' := gca (gal (gal (gal (gre _) _) _) _) hb'
  have hbb' : w.heap.size + 3 ≤ b1 := by simpa using hbb1
  clear hbb1
  refine (toWriteS_any l.wa l.wc d.waiting _ hs.wl hs.wb (ha.w.grow (gse hB (by simp; omega) _))).mono ?_
  rintro e w'' ⟨b2, bs2, rfl, hbb2, hown2, hb''⟩
  obtain ⟨hc2, hf2⟩ := bcell hb''
  have hB2 : Below w.heap.size w w'' := gca (gse hB (by simp; omega) _) hb''
  have hbb3 : w'.heap.size ≤ b2 := by simpa [World.setCell] using hbb2
  clear hbb2
  have hown1' := (hown1.set (p := ⟨w.heap.size + 1 + 1, 0, none⟩) (by simp; omega) (.slice (some ⟨b1, 0, none⟩) d.blocks.length d.blocks.length)).below hb''
  go_wp2
  refine bodyPost_ret (v := d.val ⟨some ⟨b1, 0, none⟩, d.blocks.length, some ⟨b2, 0, none⟩, d.waiting.length⟩) (by simp [results, Try.results7, go_sem, hc, hc2, hz1]) rfl ⟨⟨some ⟨b1, 0, none⟩, d.blocks.length, some ⟨b2, 0, none⟩, d.waiting.length⟩, bs1, bs2, rfl, ⟨⟨b1, rfl, by omega, ?_⟩, b2, rfl, by omega, ?_, fun i hi => ?_⟩, ?_⟩
  · exact ((hown1'.set (by simp; omega) _).set (by simp; omega) _).set (by simp; omega) _
  · exact ((hown2.set (by simp; omega) _).set (by simp; omega) _).set (by simp; omega) _
  · obtain ⟨f, _, hn⟩ := hown1
    have := (hn i hi).2.1.lt
    omega
  · exact gse (gse (gse hB2 (by simp; omega) _) (by simp) _) (by simp) _

end Go.Proofs.Ythjddpkegooobac

/-
  DMARK: disks that may be marked, and their marks. Own work.
-/
namespace Go.Proofs.Ythjddpkegooobac
open Go.RowKit

/-- where the marks end -/
def bE (F : Nat → List Nat) (k : Nat) : Nat → Nat
  | 0 => k
  | j + 1 => bE F k j + (F j).length
def wE (F : Nat → List Nat) (k : Nat) : Nat → Nat
  | 0 => k
  | j + 1 => wE F k j + 1 + (F j).length
def bM (F : Nat → List Nat) (k i : Nat) : List Nat := marksB (bE F k i) (F i).length
def wM (F : Nat → List Nat) (k i : Nat) : List Nat := marksB (wE F k i + 1) (F i).length
theorem bE_le (F : Nat → List Nat) (k : Nat) : ∀ {i j : Nat}, i ≤ j → bE F k i ≤ bE F k j
  | i, 0, h => by obtain rfl : i = 0 := by omega
                  exact Nat.le_refl _
  | i, j + 1, h => by
    by_cases e : i = j + 1
    · subst e; exact Nat.le_refl _
    · have := bE_le F k (show i ≤ j by omega)
      simp only [bE]; omega
theorem wE_le (F : Nat → List Nat) (k : Nat) : ∀ {i j : Nat}, i ≤ j → wE F k i ≤ wE F k j
  | i, 0, h => by obtain rfl : i = 0 := by omega
                  exact Nat.le_refl _
  | i, j + 1, h => by
    by_cases e : i = j + 1
    · subst e; exact Nat.le_refl _
    · have := wE_le F k (show i ≤ j by omega)
      simp only [wE]; omega
theorem bE_sz (ls : List (List Nat)) (k : Nat) : ∀ j, j ≤ ls.length → (bE (fun i => ls[i]!) k j : Int) = k + szBs (ls.take j)
  | 0, _ => by simp [bE, szBs]
  | j + 1, h => by
    have ih := bE_sz ls k j (by omega)
    rw [szBs_take_succ ls j (by omega)]
    simp only [bE]
    omega
theorem wE_sz (ls : List DW) (k : Nat) : ∀ j, j ≤ ls.length → (wE (fun i => ls[i]!.bytes) k j : Int) = k + j + szWs (ls.take j)
  | 0, _ => by simp [wE, szWs]
  | j + 1, h => by
    have ih := wE_sz ls k j (by omega)
    rw [szWs_take_succ ls j (by omega)]
    simp only [wE]
    omega

set_option maxRecDepth 100000 in
theorem markByteS_none (oa : Option Addr) (cap k : Nat) (w : World) :
    Calls Try.prog 33 #[.slice oa 0 cap, .int .i64 k] w fun e w' => e = .returned (.int .i64 k) ∧ w' = w := by
  go_enter Try.func33, Try.ntmps33
  go_wp2
  go_loopw [1, 5] (fun c i wr => c = .int .i64 k ∧ i = .int .i64 0 ∧ wr = w) (fun _ _ _ => 0)
  case atStart => exact ⟨rfl, rfl, rfl⟩
  case round =>
    obtain ⟨rfl, rfl, rfl⟩ := hrel
    go_wp2
    go_ret
    exact ⟨rfl, rfl⟩

set_option maxRecDepth 100000 in
theorem markBytes_any (oa : Option Addr) (bs : List Nat) (cap k lo hi : Nat) (w : World) (hl : bs.length ≤ 1048576) (hk : k ≤ 1099511627776) (hM : BB w lo hi oa bs) :
    Calls Try.prog 33 #[.slice oa bs.length cap, .int .i64 k] w fun e w' => e = .returned (.int .i64 ((k + bs.length : Nat) : Int)) ∧ BB w' lo hi oa (marksB k bs.length) ∧ Kept (fun b => bs ≠ [] ∧ oa = some ⟨b, 0, none⟩) w w' := by
  by_cases e0 : bs = []
  · subst e0
    refine (markByteS_none oa cap k w).mono ?_
    rintro e w' ⟨rfl, h2⟩
    exact ⟨rfl, Or.inl (by simp [marksB]), by rw [h2]; exact Kept.refl _ _⟩
  · rcases hM with h | ⟨G, n, rfl, hG, hGh, hB⟩
    · exact absurd h e0
    · refine (markByteS_any _ bs cap k lo w hl hk (Or.inr ⟨G, n, rfl, hG, hB⟩)).mono ?_
      rintro e w' ⟨rfl, h1, h2⟩
      refine ⟨rfl, ?_, h2.mono (fun b _ h => ⟨e0, h.2⟩)⟩
      rcases h1 with h1 | ⟨G', n', h3, h4, h5⟩
      · exact Or.inl h1
      · have := some_addr h3
        subst this
        exact Or.inr ⟨G, n', rfl, hG, hGh, h5⟩

/-- one list of bytes, marked -/
theorem MBs.step {w w' : World} {lo hi : Nat} {a : Option Addr} {n : Nat} {F : Nat → List Nat} {fa : Nat → Option Addr} {fc : Nat → Nat} (h : MBs w lo hi a n F fa fc) {j : Nat} (hj : j < n) {ys : List Nat} (hy : ys.length = (F j).length) (hB : BB w' lo hi (fa j) ys) (hK : Kept (fun b => F j ≠ [] ∧ fa j = some ⟨b, 0, none⟩) w w') :
    MBs w' lo hi a n (fun i => if i = j then ys else F i) fa fc := by
  have hp : ∀ b, F j ≠ [] ∧ fa j = some ⟨b, 0, none⟩ → IsB w b := fun b hb => (h.tb ⟨j, hj, hb.1, hb.2⟩).2.2
  refine ⟨fun h0 => ?_, fun i hi => ?_, h.far⟩
  · obtain ⟨g, m, f, h1, h2, h3, h4, h5, h6⟩ := h.row h0
    refine ⟨g, m, f, h1, h2, h3, hK.rowIs h4 (fun hb => not_B_of_bs h4 (hp g hb)), h5, fun i hi => ?_⟩
    show f i = .slice (fa i) (if i = j then ys else F i).length (fc i)
    split
    · rename_i e; subst e; rw [hy]; exact h6 i hi
    · exact h6 i hi
  · show BB w' lo _ (fa i) (if i = j then ys else F i)
    split
    · rename_i e; subst e; exact hB
    · rename_i e
      exact (h.byt i hi).kept hK (fun b hb _ hq => h.ne hi hj e b hb hq.2)

set_option maxRecDepth 100000 in
theorem markByteSS_any (a : Option Addr) (n cap k lo hi : Nat) (F : Nat → List Nat) (fa : Nat → Option Addr) (fc : Nat → Nat) (w : World) (hn : n ≤ 1048576) (hl : ∀ i, i < n → (F i).length ≤ 1048576) (hk : bE F k n ≤ 1099511627776) (h : MBs w lo hi a n F fa fc) :
    Calls Try.prog 31 #[.slice a n cap, .int .i64 k] w fun e w' => e = .returned (.int .i64 (bE F k n : Nat)) ∧ MBs w' lo hi a n (bM F k) fa fc ∧ Kept (TB n F fa) w w' := by
  go_enter Try.func31, Try.ntmps31
  go_wp2
  go_loopw [1, 5] (fun c i wr => ∃ (j q : Nat) (G : Nat → List Nat), j ≤ n ∧ Hid (q = bE F k j) ∧ c = .int .i64 (q : Int) ∧ i = .int .i64 (j : Int) ∧ MBs wr lo hi a n G fa fc ∧ (∀ i, i < j → G i = bM F k i) ∧ (∀ i, j ≤ i → G i = F i) ∧ Kept (TB n F fa) w wr) (fun _ i _ => n - (intOf i).toNat)
  case atStart => exact ⟨0, k, F, Nat.zero_le _, rfl, rfl, rfl, h, fun i hi => absurd hi (Nat.not_lt_zero _), fun _ _ => rfl, Kept.refl _ _⟩
  case round =>
    obtain ⟨j, q, G, hj, hq, rfl, rfl, hM, hG1, hG2, hK⟩ := hrel
    have hqle : q ≤ 1099511627776 := by have := bE_le F k hj; have := hq.out; omega
    by_cases hlt : j < n
    · obtain ⟨g, m, f, rfl, h2, h3, h4, h5, h6⟩ := hM.row (by omega)
      have c0 := h4.cell (i := j) (by omega)
      rw [h6 j hlt, hG2 j (Nat.le_refl _)] at c0
      have i0 : (0 : Int) ≤ (j : Int) := by omega
      have i1 : (j : Int) < (n : Int) := by omega
      have hBj := hM.byt j hlt
      rw [hG2 j (Nat.le_refl _)] at hBj
      have hlj := hl j hlt
      obtain ⟨ys, hys⟩ := hid_ex (F j)
      rw [← hys.out] at c0 hBj hlj
      go_wp2_with (go_at_call 33; refine (markBytes_any (fa j) ys (fc j) q lo hi _ hlj hqle hBj).mono ?_; rintro e w2 ⟨rfl, hB2, hK2⟩)
      go_roundw
      case rel =>
        have e1 : G j = F j := hG2 j (Nat.le_refl _)
        have hb1 : marksB q ys.length = bM F k j := by rw [hys.out, hq.out]; rfl
        refine ⟨j + 1, q + ys.length, _, by omega, by show _ = _; rw [hq.out, hys.out]; rfl, by go_num, by go_num, hM.step hlt (ys := marksB q ys.length) (by rw [marksB_length, e1, hys.out]) hB2 (hK2.mono (fun b _ hb => by rw [e1, ← hys.out]; exact hb)), fun i hi => ?_, fun i hi => ?_, hK.trans hK2 (fun b _ hb => ⟨j, hlt, by rw [← hys.out]; exact hb.1, hb.2⟩)⟩
        · show (if i = j then _ else _) = _
          split
          · rename_i e; rw [e]; exact hb1
          · exact hG1 i (by omega)
        · show (if i = j then _ else _) = _
          rw [if_neg (by omega)]; exact hG2 i (by omega)
      case measure => simp [intOf]; omega
    · obtain rfl : j = n := by omega
      go_wp2
      go_ret
      exact ⟨by rw [hq.out]; rfl, hM.congr (fun i hi => (hG1 i hi).symm), hK⟩

set_option maxRecDepth 100000 in
theorem heldByteSS_any (a : Option Addr) (n cap k lo hi : Nat) (F : Nat → List Nat) (fa : Nat → Option Addr) (fc : Nat → Nat) (w : World) (hn : n ≤ 1048576) (hl : ∀ i, i < n → (F i).length ≤ 1048576) (hk : bE F k n ≤ 1099511627776) (h : MBs w lo hi a n (bM F k) fa fc) :
    Calls Try.prog 34 #[.slice a n cap, .int .i64 k] w fun e w' => e = .returned (.int .i64 (bE F k n : Nat)) ∧ Below w.heap.size w w' := by
  go_enter Try.func34, Try.ntmps34
  go_wp2
  go_loopw [1, 5] (fun c i wr => ∃ (j q : Nat), j ≤ n ∧ Hid (q = bE F k j) ∧ c = .int .i64 (q : Int) ∧ i = .int .i64 (j : Int) ∧ Below w.heap.size w wr) (fun _ i _ => n - (intOf i).toNat)
  case atStart => exact ⟨0, k, Nat.zero_le _, rfl, rfl, rfl, gre _⟩
  case round =>
    obtain ⟨j, q, hj, hq, rfl, rfl, hb⟩ := hrel
    have hqle : q ≤ 1099511627776 := by have := bE_le F k hj; have := hq.out; omega
    have hM := h.out (Kept.of_below hb (fun _ => False)) (fun _ _ _ e => e)
    by_cases hlt : j < n
    · obtain ⟨g, m, f, rfl, h2, h3, h4, h5, h6⟩ := hM.row (by omega)
      have c0 := h4.cell (i := j) (by omega)
      rw [h6 j hlt] at c0
      have i0 : (0 : Int) ≤ (j : Int) := by omega
      have i1 : (j : Int) < (n : Int) := by omega
      have hBj := (hM.byt j hlt).bytes
      have hlj := hl j hlt
      unfold bM at c0 hBj
      rw [marksB_length] at c0
      rw [← hq.out] at hBj
      obtain ⟨x, hx⟩ := hid_ex (F j).length
      rw [← hx.out] at c0 hBj hlj
      have hd : ¬ ((q : Int) + (x : Int) < 0) := by omega
      go_wp2_with (go_at_call 52; refine (heldByteS_any (fa j) x (fc j) q _ hlj hqle hBj).mono ?_; rintro e w2 ⟨rfl, hb2⟩)
      go_roundw
      case rel => exact ⟨j + 1, q + x, by omega, by show _ = _; rw [hq.out, hx.out]; rfl, by go_num, by go_num, gca hb hb2⟩
      case measure => simp [intOf]; omega
    · obtain rfl : j = n := by omega
      go_wp2
      go_ret
      exact ⟨by rw [hq.out]; rfl, hb⟩

end Go.Proofs.Ythjddpkegooobac
