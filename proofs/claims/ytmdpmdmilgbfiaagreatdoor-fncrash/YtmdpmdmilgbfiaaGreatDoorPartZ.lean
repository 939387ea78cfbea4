import Derived.Test.YtmdpmdmilgbfiaaGreatDoorPartY

namespace Go.Proofs.YtmdpmdmilgbfiaaGreatDoor
open Go.RowKit Go.Shelf
attribute [local go_sem] Oper.semAt_some

def DD.apply (d : DD) (ops : List OP) (n : Int) : DD := if d.ok = true ∧ 0 ≤ n ∧ n ≤ (ops.length : Int) then (applyN d ops n.toNat).getD zeroD else zeroD

def noPanicA (Q : Exit → Act → World → Prop) : Exit → Act → World → Prop
  | .panic _, _, _ => False
  | e, a, w => Q e a w
theorem noPanicA_le (Q : Exit → Act → World → Prop) : ∀ e a w, noPanicA Q e a w → Q e a w := fun e a w h => by
  cases e <;> first | exact h | exact h.elim

theorem opsAt_take {w : World} {a : Option Addr} {ops : List OP} (h : OpsAt w a ops) (k : Nat) : OpsAt w a (ops.take k) := fun i hi => by
  have h1 : i < ops.length ∧ i < k := by simp at hi; omega
  have e : (ops.take k)[i]! = ops[i]! := by rw [getElem!_pos _ i hi, getElem!_pos ops i h1.1, List.getElem_take]
  rw [e]
  exact h i h1.1
theorem applyN_take {d : DD} {ops : List OP} {k : Nat} : ∀ j, j ≤ k → j ≤ ops.length → applyN d (ops.take k) j = applyN d ops j
  | 0, _, _ => rfl
  | j + 1, h, hl => by
    have e : (ops.take k)[j]! = ops[j]! := by rw [getElem!_pos _ j (by simp; omega), getElem!_pos ops j (by omega), List.getElem_take]
    show (applyN d (ops.take k) j).bind _ = (applyN d ops j).bind _
    rw [applyN_take j (by omega) (by omega), e]

set_option maxHeartbeats 4000000 in
set_option maxRecDepth 100000 in
theorem implApply_any (d : DD) (l : DL) (oa : Option Addr) (ops : List OP) (oc : Nat) (n : Int) (w : World) (hd : d.Ok) (ha : DAt w l d) (hoa : OpsAt w oa ops) (hoc : ops.length ≤ oc) (hol : ops.length ≤ 1048576) (hok : OpsOk ops) (hn : I64 n) :
    Calls Tryz.prog 21 #[d.val l, .slice oa ops.length oc, .int .i64 n] w (DPost (d.apply ops n) w) := by
  have hA := gal (gal (gre w) (.cells #[.slice l.ba d.blocks.length l.bc, .slice l.wa d.waiting.length l.wc] 46)) (.cells #[.slice none 0 0, .slice none 0 0] 46)
  have hX0 := (DBox.new w d l 46).grow (gal (gre _) (.cells #[.slice none 0 0, .slice none 0 0] 46))
  have hR0 := VB.new_at (w.alloc (.cells #[.slice l.ba d.blocks.length l.bc, .slice l.wa d.waiting.length l.wc] 46)) (.slice none 0 0) (.slice none 0 0) 46 (w.heap.size + 1) (by simp)
  refine callsIn_wide.1 (callsIn_of_wp_marks (F := Fence.wide) (n := 5) Tryz.func21 rfl trivial ?_ rfl)
  refine wpIn_wide.2 (Go.Code.wp_mono (noPanicA_le _) ?_)
  simp only [Tryz.ntmps21, List.size_toArray, List.length_cons, List.length_nil, Nat.reduceAdd, Nat.reduceSub, Array.replicate_succ, Array.replicate_zero, List.push_toArray, List.append_toArray, List.nil_append, List.cons_append]
  cases hok2 : d.ok with
  | false =>
    have hok' : Hid _ := hok2
    have hz : d.apply ops n = zeroD := if_neg (fun h => by rw [hok2] at h; cases h.1)
    rw [hz]
    clear hok2 hz
    go_wp2_with (go_at_call 29; refine (implDiskOk_any d l _ hd (ha.grow hA)).mono ?_; rintro e w2 ⟨rfl, hb2⟩; rw [hok'.out]; obtain ⟨z0, z1, zf⟩ := hR0.grow hb2)
    obtain ⟨c0, c1, K⟩ := ret2 (A := .slice none 0 0) (B := .slice none 0 0) z0 z1
    refine ⟨.agg #[.slice none 0 0, .slice none 0 0], by simp [results, Tryz.results21, go_sem, c0, c1], DPost.zero ?_⟩
    exact (gca hA hb2).trans (K.below (gca hA hb2).size (fun z hz e => by omega))
  | true =>
    have hok' : Hid _ := hok2
    have hfit := DD.fit hok2
    by_cases hr : 0 ≤ n ∧ n ≤ (ops.length : Int)
    · obtain ⟨N, rfl⟩ : ∃ N : Nat, n = (N : Int) := ⟨n.toNat, by omega⟩
      have hN : N ≤ ops.length := by omega
      have hz : d.apply ops N = (applyN d ops N).getD zeroD := if_pos ⟨hok2, hr.1, hr.2⟩
      obtain ⟨c, hc⟩ := hid_ex ((applyN d ops N).getD zeroD)
      rw [hz, ← hc.out]
      have t1 : ¬ ((N : Int) < 0) := by omega
      have t2 : ¬ ((ops.length : Int) < (N : Int)) := by omega
      have t3 : (N : Int) ≤ (oc : Int) := by omega
      clear hz hok2 hr
      go_upto_region 4 with (first
        | (go_at_call 29; refine (implDiskOk_any d l _ hd (ha.grow hA)).mono ?_; rintro e w2 ⟨rfl, hb2⟩; rw [hok'.out]; obtain ⟨_, x0, x1⟩ := hX0.grow hb2)
        | (go_at_call 54; refine (driveOf_any d l _ hfit (ha.grow (gca hA hb2))).mono ?_; rintro e w3 ⟨p, pa, pc, rfl, hp3, hDr, hb3⟩))
      have hlen : (ops.take N).length = N := by simp; omega
      have hbA3 := gca (gca hA hb2) hb3
      have hst := steps_any p oa oc (ops.take N) w w3 (by omega) (opsAt_take hoa N) hbA3
      rw [hlen] at hst
      have hR3 := (hR0.grow hb2).grow hb3
      have hwp : w.heap.size + 1 < p := by have := hR0.grow hb2; have := this.lt; omega
      have hops : ∀ o, o ∈ ops.take N → I64 o.block ∧ o.bytes.length ≤ maxLen := fun o ho => ⟨hok.bl o (List.mem_of_mem_take ho), (hok.by_ o (List.mem_of_mem_take ho)).1⟩
      clear x0 x1
      go_wp2_with (first
        | (go_at_call 59; refine hst.mono ?_; rintro e w4 ⟨sa, sc, V, obs, rfl, hrd, hb4⟩; rw [hlen])
        | (go_at_call 58; refine (outcomes_any sa N sc w4).mono ?_; rintro e w5 ⟨rfl, hw5⟩))
      have hb4' := hb4
      have hI0 : AI w w w3.heap.size V p w4.heap.size (w.heap.size + 1) d (ops.take N) sa sc obs 0 (w4.alloc (.cells #[.slice sa N sc] 114)) := {
        dr := ⟨d, pa, pc, .nilFunc, rfl, hok'.out, hDr.grow (gal hb4 _)⟩
        rd := hrd.kept ((Kept.refl (fun _ => False) w4).alloc _) (fun _ _ _ e => e) (fun _ _ _ e => e) (fun _ _ _ e => e)
        bx := by rw [hlen]; exact World.alloc_heap_new w4 _
        bB := hb4.size
        vr := hR3.grow (gal hb4 _)
        bel := gal (gca hbA3 hb4) _
        b0 := gal (gca hbA3 hb4) _ }
      have hs5 : (w4.alloc (.cells #[.slice sa N sc] 114)).heap.size = w4.heap.size + 1 := by simp
      have hpb : p < w3.heap.size := hDr.d.lt
      have hs34 := hb4.size
      generalize w4.alloc (.cells #[.slice sa N sc] 114) = w5 at hI0 hs5 ⊢
      clear hst hrd hb4 hb4'
      refine (wpIn_wide (n := 5)).1 ?_
      refine wpIn_range_do (by decide) (gf := 96) (lb := #[.pointer (some ⟨w4.heap.size, 0, none⟩)]) rfl (enters_of Tryz.func96 (by kernel_rfl) rfl) rfl (emptyR (w.heap.size + 1)) (fun W => (KeepsOthers.setCell _ _ _).trans (KeepsOthers.setCell _ _ _)) (fun W => VB W (w.heap.size + 1) (.slice none 0 0) (.slice none 0 0)) ?hG ?a1 ?assign ?body (fun W => AI w w w3.heap.size V p w4.heap.size (w.heap.size + 1) d (ops.take N) sa sc obs (ops.take N).length W) (AStop w (w.heap.size + 1) d (ops.take N)) ?seq ?done ?stop
      case assign =>
        intro l' x W K hK
        gi_wp2
        exact hK
      case hG =>
        intro W l' r o hv hl'
        refine hv.kept (keptPutA W l' o) (fun e => ?_)
        have h0 := hv.v0
        rw [e] at h0
        simp [World.cell?, hl'] at h0
      case body =>
        intro l' x W hv
        obtain ⟨v0, v1, vf⟩ := id hv
        cases x with
        | true =>
          gi_wp2
          exact ⟨rfl, rfl⟩
        | false =>
          gi_wp2
          exact ⟨rfl, rfl⟩
      case seq =>
        intro rd dn hY
        have hW1 := hI0.kept (((Kept.refl (fun _ => False) w5).alloc (.deferred (some []))).alloc (.loop rd)) hpb (by omega) (by omega) (by omega) (fun z e => e.elim)
        refine out1_in 4 (by decide) w w w3.heap.size V p w4.heap.size (w.heap.size + 1) (w5.heap.size + 1) w5.heap.size d (ops.take N) sa sc obs rd dn hpb (by omega) (by omega) (by omega) (by omega) (by omega) (by omega) hops hY _ hW1 ?_ ?_
        · have := World.alloc_heap_new (w5.alloc (.deferred (some []))) (.loop rd); rwa [World.size_alloc] at this
        · exact (Below.heap_alloc _ _ _ (by simp)).trans (World.alloc_heap_new w5 _)
      case done =>
        rintro W o hJ hD ⟨r0, hlr⟩
        obtain ⟨e, pa2, pc2, kv2, he, hek, hDr2⟩ := hJ.dr
        have he2 : applyN d ops N = some e := by rw [← applyN_take N (Nat.le_refl _) hN]; rw [hlen] at he; exact he
        have hce : c = e := by rw [hc.out, he2]; rfl
        have hfe := DD.fit hek
        have hK := keptPutA W (w5.heap.size + 1) o
        have hD2 := (World.putObj_heap_other (w := W) (r := w5.heap.size + 1) (o := o) (k := w5.heap.size) (by omega)).trans hD
        have hno : ∀ t, IsT t W (w5.heap.size + 1) → False := fun t ⟨x, hx⟩ => by rw [hlr] at hx; cases hx
        have hDr3 : Dr (W.putObj (w5.heap.size + 1) o) p e.blocks pa2 pc2 e.waiting kv2 := ⟨hDr2.d.kept hK (by omega), hK.owns hDr2.own (fun z hz e => by subst e; exact hno _ (owns_isT hDr2.own hz).1), hDr2.w64⟩
        have hv3 := hJ.vr.kept hK (by omega)
        have hbl3 : Below w.heap.size w (W.putObj (w5.heap.size + 1) o) := hJ.bel.trans (hK.below hJ.bel.size (fun z hz e => by omega))
        generalize W.putObj (w5.heap.size + 1) o = W3 at hDr3 hv3 hD2 hbl3 ⊢
        go_wp2_with (go_at_call 57; refine (disk_any p e.blocks pa2 pc2 e.waiting kv2 W3 (by have := hfe.wl; omega) hDr3).mono ?_; rintro r w6 ⟨l6, fa, ga, fc, gc, rfl, hmd, hb6⟩; obtain ⟨z0, z1, zf⟩ := hv3.grow hb6)
        rw [← hs5]
        have hv6 := ((hv3.grow hb6).set0 (.slice l6.ba e.blocks.length l6.bc)).set1 (.slice l6.wa e.waiting.length l6.wc)
        have hK6 : Kept (fun z => z = w.heap.size + 1) w6 ((w6.setCell ⟨w.heap.size + 1, 0, none⟩ (.slice l6.ba e.blocks.length l6.bc)).setCell ⟨w.heap.size + 1, 1, none⟩ (.slice l6.wa e.waiting.length l6.wc)) := ((Kept.refl (fun z => z = w.heap.size + 1) w6).set (a := ⟨w.heap.size + 1, 0, none⟩) (fun _ => rfl) _).set (a := ⟨w.heap.size + 1, 1, none⟩) (fun _ => rfl) _
        have hDl := (Array.getElem?_eq_some_iff.1 hD2).1
        have hD6 := (hb6.block _ hDl).trans hD2
        have hs6 := hb6.size
        generalize (w6.setCell ⟨w.heap.size + 1, 0, none⟩ (.slice l6.ba e.blocks.length l6.bc)).setCell ⟨w.heap.size + 1, 1, none⟩ (.slice l6.wa e.waiting.length l6.wc) = w7 at hv6 hK6 ⊢
        have hD7 := (hK6.block _ (by omega) (by omega)).trans hD6
        refine ⟨by simp, .inl ⟨_, _, rfl, run_takeDeferred hD7, ?_⟩⟩
        have hK8 := keptPutA w7 w5.heap.size (.deferred none)
        have hv8 := hv6.kept hK8 (by omega)
        have hbl8 : Below w.heap.size w (w7.putObj w5.heap.size (.deferred none)) := ((gca hbl3 hb6).trans (hK6.below (gca hbl3 hb6).size (fun z hz e => by omega))).trans (hK8.below (by have := (gca hbl3 hb6).size; have := hK6.size; omega) (fun z hz e => by omega))
        have hmd8 := ((hmd.last hK6 (by omega) (Nat.le_refl _) hK6.size).last hK8 (by omega) (lo' := w.heap.size) (by omega) hK8.size)
        generalize w7.putObj w5.heap.size (.deferred none) = w8 at hv8 hbl8 hmd8 ⊢
        obtain ⟨q0, q1, _⟩ := hv8
        refine ⟨e.val l6, by simp [results, Tryz.results21, go_sem, q0, q1], ?_⟩
        rw [hce]
        exact ⟨l6, fa, ga, fc, gc, rfl, hmd8, hbl8⟩
      case stop =>
        intro W o hS hD
        obtain ⟨⟨j, hj, hno⟩, hv, hbl⟩ := hS
        have hK := keptPutA W (w5.heap.size + 1) o
        have hD2 := (World.putObj_heap_other (w := W) (r := w5.heap.size + 1) (o := o) (k := w5.heap.size) (by omega)).trans hD
        have hv3 := hv.kept hK (by omega)
        have hbl3 : Below w.heap.size w (W.putObj (w5.heap.size + 1) o) := hbl.trans (hK.below hbl.size (fun z hz e => by omega))
        generalize W.putObj (w5.heap.size + 1) o = W3 at hv3 hD2 hbl3 ⊢
        have hc0 : c = zeroD := by
          have h1 := applyN_none hno (N - (j + 1))
          rw [hlen] at hj
          rw [show j + 1 + (N - (j + 1)) = N by omega, applyN_take N (Nat.le_refl _) hN] at h1
          rw [hc.out, h1]
          rfl
        have hDl := (Array.getElem?_eq_some_iff.1 hD2).1
        gi_wp2
        refine ⟨by simp, .inl ⟨_, _, rfl, run_takeDeferred hD2, ?_⟩⟩
        have hK8 := keptPutA W3 w5.heap.size (.deferred none)
        have hv8 := hv3.kept hK8 (by omega)
        have hbl8 : Below w.heap.size w (W3.putObj w5.heap.size (.deferred none)) := hbl3.trans (hK8.below hbl3.size (fun z hz e => by omega))
        generalize W3.putObj w5.heap.size (.deferred none) = w8 at hv8 hbl8 ⊢
        obtain ⟨q0, q1, _⟩ := hv8
        refine ⟨.agg #[.slice none 0 0, .slice none 0 0], by simp [results, Tryz.results21, go_sem, q0, q1], ?_⟩
        rw [hc0]
        exact DPost.zero hbl8
    · have hz : d.apply ops n = zeroD := if_neg (fun h => hr h.2)
      rw [hz]
      clear hok2 hz
      rcases (by omega : n < 0 ∨ (¬ (n < 0) ∧ (ops.length : Int) < n)) with h1 | ⟨h1, h2⟩
      · go_wp2_with (go_at_call 29; refine (implDiskOk_any d l _ hd (ha.grow hA)).mono ?_; rintro e w2 ⟨rfl, hb2⟩; rw [hok'.out]; obtain ⟨z0, z1, zf⟩ := hR0.grow hb2)
        obtain ⟨c0, c1, K⟩ := ret2 (A := .slice none 0 0) (B := .slice none 0 0) z0 z1
        refine ⟨.agg #[.slice none 0 0, .slice none 0 0], by simp [results, Tryz.results21, go_sem, c0, c1], DPost.zero ?_⟩
        exact (gca hA hb2).trans (K.below (gca hA hb2).size (fun z hz e => by omega))
      · go_wp2_with (go_at_call 29; refine (implDiskOk_any d l _ hd (ha.grow hA)).mono ?_; rintro e w2 ⟨rfl, hb2⟩; rw [hok'.out]; obtain ⟨z0, z1, zf⟩ := hR0.grow hb2)
        obtain ⟨c0, c1, K⟩ := ret2 (A := .slice none 0 0) (B := .slice none 0 0) z0 z1
        refine ⟨.agg #[.slice none 0 0, .slice none 0 0], by simp [results, Tryz.results21, go_sem, c0, c1], DPost.zero ?_⟩
        exact (gca hA hb2).trans (K.below (gca hA hb2).size (fun z hz e => by omega))

end Go.Proofs.YtmdpmdmilgbfiaaGreatDoor

namespace Go.Proofs.YtmdpmdmilgbfiaaGreatDoor
open Go.RowKit

theorem readN_app (bl : List (List Nat)) (ws xs : List DW) (b : Int) : ∀ j, j ≤ ws.length → readN bl (ws ++ xs) b j = readN bl ws b j
  | 0, _ => rfl
  | j + 1, hj => by
    have e : (ws ++ xs)[j]! = ws[j]! := by rw [getElem!_pos _ j (by rw [List.length_append]; omega), getElem!_pos ws j (by omega), List.getElem_append_left (by omega)]
    simp only [readN, e, readN_app bl ws xs b j (by omega)]
theorem rd_put {d : DD} {b : Int} {bs : List Nat} (h : d.ok = true) (h2 : wrOk ⟨b, bs⟩ = true) (h3 : d.waiting.length ≠ 200) (m : Nat) : (d.put b bs).rd m = if b = (m : Int) then bs else d.rd m := by
  rw [put_yes h h2 h3]
  unfold DD.rd
  have hl : (d.waiting ++ [(⟨b, bs⟩ : DW)]).length = d.waiting.length + 1 := by simp
  have e : (d.waiting ++ [(⟨b, bs⟩ : DW)])[d.waiting.length]! = ⟨b, bs⟩ := by rw [getElem!_pos _ _ (by rw [hl]; omega)]; simp
  show readN d.blocks (d.waiting ++ [(⟨b, bs⟩ : DW)]) (m : Int) (d.waiting ++ [(⟨b, bs⟩ : DW)]).length = _
  rw [hl]
  simp only [readN, e, readN_app _ _ _ _ _ (Nat.le_refl _)]
theorem settle_get {bl : List (List Nat)} {ws : List DW} (hw : ∀ x, x ∈ ws → 0 ≤ x.block) {m : Nat} (hm : m < bl.length) : ∀ j, j ≤ ws.length → (settleN keepAll bl ws j)[m]! = readN bl ws (m : Int) j
  | 0, _ => by simp [settleN, readN]
  | j + 1, hj => by
    have h0 := hw _ (mem_at (l := ws) (k := j) (by omega))
    have ih := settle_get hw hm j (by omega)
    simp only [settleN, keepAll, if_true, readN]
    rw [setB_get (by rw [settleN_length]; exact hm), ih]
    by_cases e : ws[j]!.block = (m : Int)
    · rw [if_pos (by omega), if_pos e]
    · rw [if_neg (by omega), if_neg e]
theorem rd_settle {d : DD} (h : d.ok = true) {m : Nat} (hm : m < 130) : (d.settle keepAll).rd m = d.rd m := by
  have hf := DD.fit h
  rw [settle_yes h]
  exact settle_get (fun x hx => (hf.wb x hx).1) (by rw [hf.bl]; exact hm) _ (Nat.le_refl _)

def viewN (v : Nat → List Nat) (ops : List OP) : Nat → Nat → List Nat
  | 0, m => v m
  | j + 1, m => if ops[j]!.sync = false ∧ ops[j]!.block = (m : Int) then ops[j]!.bytes else viewN v ops j m
theorem rd_step {d : DD} {o : OP} (h : d.ok = true) (hg : o.Good) (hw : d.waiting.length < 200) {m : Nat} (hm : m < 130) : (d.step o).rd m = if o.sync = false ∧ o.block = (m : Int) then o.bytes else d.rd m := by
  unfold DD.step
  cases hs : o.sync with
  | true => rw [if_pos rfl, if_neg (fun e => by cases e.1)]; exact rd_settle h hm
  | false =>
    rw [if_neg (by decide), rd_put h (hg.resolve_left (by rw [hs]; decide)) (by omega)]
    by_cases e : o.block = (m : Int)
    · rw [if_pos e, if_pos ⟨rfl, e⟩]
    · rw [if_neg e, if_neg (fun k => e k.2)]
theorem applyN_view {d : DD} {ops : List OP} (hok : d.ok = true) (hg : ∀ o, o ∈ ops → o.Good) : ∀ j, j ≤ ops.length → d.waiting.length + j ≤ 200 → ∃ f, applyN d ops j = some f ∧ f.ok = true ∧ f.waiting.length ≤ d.waiting.length + j ∧ ∀ m, m < 130 → f.rd m = viewN d.rd ops j m
  | 0, _, _ => ⟨d, rfl, hok, Nat.le_refl _, fun _ _ => rfl⟩
  | j + 1, hj, hw => by
    obtain ⟨f, h1, h2, h3, h4⟩ := applyN_view hok hg j (by omega) (by omega)
    have hgo := hg ops[j]! (mem_at (by omega))
    obtain ⟨s1, s2, _⟩ := step_good h2 hgo (by omega)
    exact ⟨_, applyN_yes h1 s1, s1, by omega, fun m hm => by rw [rd_step h2 hgo (by omega) hm, h4 m hm]; rfl⟩
theorem viewN_app (v : Nat → List Nat) (a b : List OP) (m : Nat) : ∀ j, j ≤ a.length → viewN v (a ++ b) j m = viewN v a j m
  | 0, _ => rfl
  | j + 1, hj => by
    have e : (a ++ b)[j]! = a[j]! := by rw [getElem!_pos _ j (by rw [List.length_append]; omega), getElem!_pos a j (by omega), List.getElem_append_left (by omega)]
    simp only [viewN, e, viewN_app v a b m j (by omega)]
theorem imgOps_at {s : Nat} {im : List Nat} {n i : Nat} (h : i < n) : (imgOps s im n)[i]! = ⟨false, ((firstOf s + i : Nat) : Int), blkOf im i⟩ := by
  rw [getElem!_pos _ i (by rw [imgOps_len]; exact h)]
  simp [imgOps]
theorem viewN_img (v : Nat → List Nat) (s : Nat) (im : List Nat) (n m : Nat) : ∀ j, j ≤ n → viewN v (imgOps s im n) j m = if firstOf s ≤ m ∧ m < firstOf s + j then blkOf im (m - firstOf s) else v m
  | 0, _ => by simp only [viewN]; rw [if_neg (by omega)]
  | j + 1, hj => by
    have ih := viewN_img v s im n m j (by omega)
    simp only [viewN, imgOps_at (s := s) (im := im) (show j < n by omega), true_and, ih]
    by_cases e : m = firstOf s + j
    · rw [if_pos (by omega), if_pos (by omega), show m - firstOf s = j by omega]
    · rw [if_neg (by omega)]
      by_cases e2 : firstOf s ≤ m ∧ m < firstOf s + j
      · rw [if_pos e2, if_pos (by omega)]
      · rw [if_neg e2, if_neg (by omega)]

theorem lay_view {d : DD} {im : List Nat} (hne : d.newestOf.gen ≠ 1000000000000) (m : Nat) : viewN d.rd (d.lay im) (d.lay im).length m = if (d.newestOf.other : Int) = (m : Int) then headB (d.newestOf.gen + 1) (im.length : Int) (wrap64 (sumN im : Int)) else if firstOf d.newestOf.other ≤ m ∧ m < firstOf d.newestOf.other + nBlk im then blkOf im (m - firstOf d.newestOf.other) else d.rd m := by
  have hl : d.lay im = imgOps d.newestOf.other im (nBlk im) ++ [syncO, headO d.newestOf im, syncO] := if_neg hne
  rw [hl]
  generalize hn : nBlk im = n
  have hil := imgOps_len d.newestOf.other im n
  have hlen : (imgOps d.newestOf.other im n ++ [syncO, headO d.newestOf im, syncO]).length = n + 1 + 1 + 1 := by simp [hil]
  have e0 : (imgOps d.newestOf.other im n ++ [syncO, headO d.newestOf im, syncO])[n]! = syncO := by rw [getElem!_pos _ _ (by rw [hlen]; omega), List.getElem_append_right (by omega)]; simp [hil]
  have e1 : (imgOps d.newestOf.other im n ++ [syncO, headO d.newestOf im, syncO])[n + 1]! = headO d.newestOf im := by rw [getElem!_pos _ _ (by rw [hlen]; omega), List.getElem_append_right (by omega)]; simp [hil]
  have e2 : (imgOps d.newestOf.other im n ++ [syncO, headO d.newestOf im, syncO])[n + 1 + 1]! = syncO := by rw [getElem!_pos _ _ (by rw [hlen]; omega), List.getElem_append_right (by omega)]; simp [hil, show n + 1 + 1 - n = 2 by omega]
  rw [hlen]
  simp only [viewN, e0, e1, e2]
  rw [viewN_app _ _ _ _ n (by omega), viewN_img _ _ _ _ _ n (Nat.le_refl _)]
  rw [if_neg (show ¬ (syncO.sync = false ∧ _) from fun k => by cases k.1), if_neg (show ¬ (syncO.sync = false ∧ _) from fun k => by cases k.1)]
  by_cases e : (d.newestOf.other : Int) = (m : Int)
  · rw [if_pos (show (headO d.newestOf im).sync = false ∧ (headO d.newestOf im).block = (m : Int) from ⟨rfl, e⟩), if_pos e]; rfl
  · rw [if_neg (show ¬ ((headO d.newestOf im).sync = false ∧ (headO d.newestOf im).block = (m : Int)) from fun k => e k.2), if_neg e]

theorem cat_blk {f : DD} {F : Nat} {im : List Nat} (h : ∀ i, i < nBlk im → f.rd (F + i) = blkOf im i) : ∀ j, j ≤ nBlk im → f.cat F j = im.take (64 * j) ++ List.replicate (64 * j - im.length) 0
  | 0, _ => by simp [DD.cat]
  | j + 1, hj => by
    have ih := cat_blk h j (by omega)
    have hlt : 64 * j < im.length := by unfold nBlk at hj; omega
    have e0 : 64 * j - im.length = 0 := by omega
    rw [DD.cat, ih, h j (by omega), e0]
    unfold blkOf cutOf
    have el : ((im.drop (64 * j)).take 64).length = min 64 (im.length - 64 * j) := by simp
    rw [el, show 64 * (j + 1) = 64 * j + 64 by omega, List.take_add]
    simp only [List.replicate_zero, List.append_nil, List.append_assoc]
    rw [show 64 - min 64 (im.length - 64 * j) = 64 * j + 64 - im.length by omega]
theorem img_blk {f : DD} (hf : f.Fit) {s : Nat} {im : List Nat} (hs : s < 2) (hl : im.length ≤ 4096) (h : ∀ i, i < nBlk im → f.rd (firstOf s + i) = blkOf im i) : f.img s im.length = im := by
  have hn : nBlk im ≤ 64 := by unfold nBlk; omega
  have hn2 : im.length ≤ 64 * nBlk im := by unfold nBlk; omega
  rw [← DD.img_part hf hs hn hn2, cat_blk h _ (Nat.le_refl _), List.take_of_length_le hn2, List.take_left']
  rfl
theorem wrap64_rng (z : Int) : I64 (wrap64 z) := by unfold I64 wrap64; omega
theorem slot_new {f : DD} (hf : f.Fit) {s : Nat} {im : List Nat} {g : Int} (hs : s < 2) (hl : im.length ≤ 4096) (hne : im ≠ []) (hg : 0 ≤ g ∧ g < 1000000000000) (hh : f.rd s = headB (g + 1) (im.length : Int) (wrap64 (sumN im : Int))) (h : ∀ i, i < nBlk im → f.rd (firstOf s + i) = blkOf im i) : f.slotOf s = ⟨true, g + 1, (s : Int), im⟩ := by
  have hl1 : 1 ≤ im.length := by cases im with
    | nil => exact absurd rfl hne
    | cons x r => simp
  have e := headOf_yes (x := ⟨true, g + 1, (im.length : Int), wrap64 (sumN im : Int)⟩) (bs := f.rd s) ⟨rfl, rng_mk ⟨by show 1 ≤ g + 1 ∧ g + 1 ≤ _; omega, by show (1 : Int) ≤ (im.length : Int) ∧ (im.length : Int) ≤ 4096; omega⟩, wrap64_rng _, hh⟩
  unfold DD.slotOf
  rw [e]
  simp only [Int.toNat_natCast, img_blk hf hs hl h]
  rw [if_pos ⟨trivial, trivial⟩]
theorem cat_same {d f : DD} {F : Nat} : ∀ {j : Nat}, (∀ i, i < j → f.rd (F + i) = d.rd (F + i)) → f.cat F j = d.cat F j
  | 0, _ => rfl
  | j + 1, h => by rw [DD.cat, DD.cat, cat_same (fun i hi => h i (by omega)), h j (by omega)]
theorem slot_same {d f : DD} {t : Nat} (h0 : f.rd t = d.rd t) (h : ∀ i, i < 64 → f.rd (firstOf t + i) = d.rd (firstOf t + i)) : f.slotOf t = d.slotOf t := by
  unfold DD.slotOf DD.img
  rw [h0, cat_same h]

theorem laid_slots {d f : DD} (hd : d.Fit) (hf : f.Fit) {im : List Nat} (hl : im.length ≤ 4096) (hne : im ≠ []) (hg : d.newestOf.gen ≠ 1000000000000) (hv : ∀ m, m < 130 → f.rd m = viewN d.rd (d.lay im) (d.lay im).length m) :
    f.slotOf d.newestOf.other = ⟨true, d.newestOf.gen + 1, (d.newestOf.other : Int), im⟩ ∧ f.slotOf (1 - d.newestOf.other) = d.slotOf (1 - d.newestOf.other) := by
  have hs := d.newestOf.other_lt
  have hr := newest_rng hd
  have hn : nBlk im ≤ 64 := by unfold nBlk; omega
  have hv2 := fun m hm => (hv m hm).trans (lay_view hg m)
  generalize d.newestOf.other = s at hs hv2 ⊢
  have hF : ∀ t, t < 2 → ∀ i, i < 64 → firstOf t + i < 130 ∧ (s : Int) ≠ ((firstOf t + i : Nat) : Int) := fun t ht i hi => by unfold firstOf; omega
  refine ⟨slot_new hf hs hl hne ⟨hr.g.1, by have := hr.g.2; omega⟩ ?_ (fun i hi => ?_), slot_same ?_ (fun i hi => ?_)⟩
  · rw [hv2 s (by omega), if_pos rfl]
  · have h1 := hF s hs i (by omega)
    rw [hv2 _ h1.1, if_neg h1.2, if_pos (by omega), show firstOf s + i - firstOf s = i by omega]
  · rw [hv2 _ (by omega), if_neg (by omega), if_neg (by unfold firstOf; omega)]
  · have h1 := hF (1 - s) (by omega) i hi
    rw [hv2 _ h1.1, if_neg h1.2, if_neg (by unfold firstOf; omega)]
theorem laid_newest {d f : DD} (hd : d.Fit) (hf : f.Fit) {im : List Nat} (hl : im.length ≤ 4096) (hne : im ≠ []) (hg : d.newestOf.gen ≠ 1000000000000) (hv : ∀ m, m < 130 → f.rd m = viewN d.rd (d.lay im) (d.lay im).length m) :
    f.newestOf = ⟨true, d.newestOf.gen + 1, (d.newestOf.other : Int), im⟩ := by
  obtain ⟨h1, h2⟩ := laid_slots hd hf hl hne hg hv
  have hf0 := DD.slot_fine hd (slot := 0) (by omega)
  have hf1 := DD.slot_fine hd (slot := 1) (by omega)
  by_cases hc : (d.slotOf 1).ok = true ∧ ((d.slotOf 0).ok = false ∨ (d.slotOf 0).gen < (d.slotOf 1).gen)
  · have hN : d.newestOf = d.slotOf 1 := if_pos hc
    have ho : d.newestOf.other = 0 := by rw [hN]; exact if_neg (fun e => by have := hf1.slot hc.1; rw [e.2] at this; cases this)
    rw [ho] at h1 h2 ⊢
    have h2' : f.slotOf 1 = d.slotOf 1 := h2
    unfold DD.newestOf at h1 ⊢
    rw [h1, h2', if_pos hc]
    exact if_neg (fun e => by rcases e.2 with e2 | e2; cases e2; exact absurd e2 (by show ¬ ((d.slotOf 1).gen + 1 < (d.slotOf 1).gen); omega))
  · have hN : d.newestOf = d.slotOf 0 := if_neg hc
    cases hk : (d.slotOf 0).ok with
    | true =>
      have ho : d.newestOf.other = 1 := by rw [hN]; exact if_pos ⟨hk, hf0.slot hk⟩
      rw [ho] at h1 h2 ⊢
      have h2' : f.slotOf 0 = d.slotOf 0 := h2
      unfold DD.newestOf at h1 ⊢
      rw [if_neg hc] at h1 ⊢
      rw [h1, h2']
      exact if_pos ⟨rfl, Or.inr (by show (d.slotOf 0).gen < (d.slotOf 0).gen + 1; omega)⟩
    | false =>
      have hb : (d.slotOf 1).ok = false := by
        cases hb : (d.slotOf 1).ok with
        | false => rfl
        | true => exact absurd ⟨hb, Or.inl hk⟩ hc
      have ho : d.newestOf.other = 0 := by rw [hN]; exact if_neg (fun e => by rw [hk] at e; cases e.1)
      rw [ho] at h1 h2 ⊢
      have h2' : f.slotOf 1 = d.slotOf 1 := h2
      unfold DD.newestOf at h1 ⊢
      rw [if_neg hc] at h1 ⊢
      rw [h1, h2']
      exact if_neg (fun e => by rw [hb] at e; cases e.1)

end Go.Proofs.YtmdpmdmilgbfiaaGreatDoor

namespace Go.Proofs.YtmdpmdmilgbfiaaGreatDoor

def mapV (f : Nat → Nat) (v : GV) : GV := if v.kind = 4 then { v with node := (f v.node.toNat : Nat) } else v
theorem mapV_kind (f : Nat → Nat) (v : GV) : (mapV f v).kind = v.kind := by unfold mapV; split <;> rfl
theorem mapV_node {f : Nat → Nat} {v : GV} (h : v.kind = 4) : (mapV f v).node.toNat = f v.node.toNat := by
  unfold mapV; rw [if_pos h]; exact Int.toNat_natCast _

section
variable {f : Nat → Nat} {S : Nat → Prop}

theorem mem_map_inj (hf : ∀ i j, S i → S j → f i = f j → i = j) {ord : List Nat} (ho : ∀ x, x ∈ ord → S x) {i : Nat} (hi : S i) : f i ∈ ord.map f ↔ i ∈ ord := by
  constructor
  · intro h
    obtain ⟨j, hj, e⟩ := List.mem_map.1 h
    rw [← hf j i (ho j hj) hi e]; exact hj
  · intro h
    exact List.mem_map.2 ⟨i, h, rfl⟩
theorem idxOf_mapS (hf : ∀ i j, S i → S j → f i = f j → i = j) : ∀ {ord : List Nat}, (∀ x, x ∈ ord → S x) → ∀ {i : Nat}, S i → (ord.map f).idxOf (f i) = ord.idxOf i
  | [], _, _, _ => rfl
  | y :: r, ho, i, hi => by
    rw [List.map_cons, List.idxOf_cons, List.idxOf_cons]
    by_cases e : y = i
    · subst e; simp
    · have e2 : f y ≠ f i := fun h => e (hf y i (ho y (List.mem_cons_self ..)) hi h)
      rw [show (f y == f i) = false from beq_eq_false_iff_ne.2 e2, show (y == i) = false from beq_eq_false_iff_ne.2 e, idxOf_mapS hf (fun x hx => ho x (List.mem_cons_of_mem _ hx)) hi]

theorem renOrd_map (hf : ∀ i j, S i → S j → f i = f j → i = j) {ord : List Nat} (ho : ∀ x, x ∈ ord → S x) {v : GV} (hv : v.kind = 4 → S v.node.toNat) : renOrd (ord.map f) (mapV f v) = (renOrd ord v).map f := by
  unfold renOrd
  rw [mapV_kind]
  by_cases hk : v.kind = 4
  · rw [mapV_node hk]
    by_cases hm : v.node.toNat ∈ ord
    · rw [if_neg (fun h => h.2 ((mem_map_inj hf ho (hv hk)).2 hm)), if_neg (fun h => h.2 hm)]
    · rw [if_pos ⟨hk, fun h => hm ((mem_map_inj hf ho (hv hk)).1 h)⟩, if_pos ⟨hk, hm⟩, List.map_append]
      rfl
  · rw [if_neg (fun h => hk h.1), if_neg (fun h => hk h.1)]
theorem renOrd_in {ord : List Nat} (ho : ∀ x, x ∈ ord → S x) {v : GV} (hv : v.kind = 4 → S v.node.toNat) : ∀ x, x ∈ renOrd ord v → S x := by
  intro x hx
  unfold renOrd at hx
  split at hx
  · rename_i h
    rcases List.mem_append.1 hx with h1 | h1
    · exact ho x h1
    · rw [List.mem_singleton.1 h1]; exact hv h.1
  · exact ho x hx
theorem renVal_map (hf : ∀ i j, S i → S j → f i = f j → i = j) {ord : List Nat} (ho : ∀ x, x ∈ ord → S x) {v : GV} (hv : v.kind = 4 → S v.node.toNat) : renVal (ord.map f) (mapV f v) = renVal ord v := by
  by_cases hk : v.kind = 4
  · unfold renVal
    rw [mapV_kind, if_pos hk, if_pos hk, renOrd_map hf ho hv, mapV_node hk, idxOf_mapS hf (renOrd_in ho hv) (hv hk)]
    unfold mapV
    rw [if_pos hk]
  · have e : mapV f v = v := by unfold mapV; rw [if_neg hk]
    rw [e]; unfold renVal
    rw [if_neg hk, if_neg hk]
theorem renOrds_map (hf : ∀ i j, S i → S j → f i = f j → i = j) : ∀ {l : List GV} {ord : List Nat}, (∀ x, x ∈ ord → S x) → (∀ v, v ∈ l → v.kind = 4 → S v.node.toNat) → renOrds (ord.map f) (l.map (mapV f)) = (renOrds ord l).map f ∧ renVals (ord.map f) (l.map (mapV f)) = renVals ord l ∧ ∀ x, x ∈ renOrds ord l → S x
  | [], _, ho, _ => ⟨rfl, rfl, ho⟩
  | v :: l, ord, ho, hv => by
    have h0 := hv v (List.mem_cons_self ..)
    obtain ⟨h1, h2, h3⟩ := renOrds_map hf (l := l) (ord := renOrd ord v) (renOrd_in ho h0) (fun x hx => hv x (List.mem_cons_of_mem _ hx))
    refine ⟨?_, ?_, h3⟩
    · show renOrds (renOrd (ord.map f) (mapV f v)) (l.map (mapV f)) = _
      rw [renOrd_map hf ho h0]; exact h1
    · show renVal (ord.map f) (mapV f v) :: renVals (renOrd (ord.map f) (mapV f v)) (l.map (mapV f)) = renVal ord v :: renVals (renOrd ord v) l
      rw [renOrd_map hf ho h0, renVal_map hf ho h0, h2]

structure MapG (f : Nat → Nat) (S : Nat → Prop) (g h : GG) : Prop where
  inj : ∀ i j, S i → S j → f i = f j → i = j
  root : g.root.kind = 4 → S g.root.node.toNat
  rootEq : h.root = mapV f g.root
  node : ∀ i, S i → h.nodes[f i]! = ⟨g.nodes[i]!.tag, g.nodes[i]!.vals.map (mapV f)⟩
  vals : ∀ i, S i → ∀ v, v ∈ g.nodes[i]!.vals → v.kind = 4 → S v.node.toNat

theorem MapG.sim {g h : GG} (m : MapG f S g h) : ∀ k, canonO h.nodes (renOrd [] h.root) k = (canonO g.nodes (renOrd [] g.root) k).map f ∧ canonN h.nodes (renOrd [] h.root) k = canonN g.nodes (renOrd [] g.root) k ∧ ∀ x, x ∈ canonO g.nodes (renOrd [] g.root) k → S x
  | 0 => by
    have h0 : ∀ x, x ∈ ([] : List Nat) → S x := fun x hx => by cases hx
    refine ⟨?_, by unfold canonN; rfl, ?_⟩
    · unfold canonO
      rw [m.rootEq]
      exact renOrd_map (ord := []) m.inj h0 m.root
    · unfold canonO
      exact renOrd_in h0 m.root
  | k + 1 => by
    obtain ⟨h1, h2, h3⟩ := m.sim k
    rw [canonO_succ, canonN_succ, canonO_succ, canonN_succ, h1, h2, List.length_map]
    by_cases hk : k < (canonO g.nodes (renOrd [] g.root) k).length
    · have e : ((canonO g.nodes (renOrd [] g.root) k).map f)[k]! = f (canonO g.nodes (renOrd [] g.root) k)[k]! := by
        rw [getElem!_pos _ k (by rw [List.length_map]; exact hk), getElem!_pos _ k hk, List.getElem_map]
      have hS := h3 _ (mem_at hk)
      obtain ⟨r1, r2, r3⟩ := renOrds_map (l := (g.nodes[(canonO g.nodes (renOrd [] g.root) k)[k]!]!).vals) m.inj h3 (m.vals _ hS)
      rw [if_pos hk, if_pos hk, if_pos hk, if_pos hk, e, m.node _ hS]
      exact ⟨r1, by rw [r2], r3⟩
    · rw [if_neg hk, if_neg hk, if_neg hk, if_neg hk]
      exact ⟨rfl, rfl, h3⟩

theorem MapG.canon {g h : GG} (m : MapG f S g h) (hg : okG g = true) (hh : okG h = true) : canon h = canon g := by
  obtain ⟨_, gr, gn⟩ := okG_parts hg
  obtain ⟨_, hr, hn⟩ := okG_parts hh
  have ig := (canonO_inv ((InvO.nil _).ren gr) gn g.nodes.length).le
  have ih := (canonO_inv ((InvO.nil _).ren hr) hn h.nodes.length).le
  have er : renVal [] h.root = renVal [] g.root := by
    rw [m.rootEq]
    exact renVal_map (ord := []) m.inj (fun x hx => by cases hx) m.root
  unfold Go.Proofs.YtmdpmdmilgbfiaaGreatDoor.canon
  rw [er]
  congr 1
  rcases Nat.le_total g.nodes.length h.nodes.length with hl | hl
  · obtain ⟨s1, s2, _⟩ := m.sim g.nodes.length
    have h1 : (canonO h.nodes (renOrd [] h.root) g.nodes.length).length ≤ g.nodes.length := by rw [s1, List.length_map]; exact ig
    have h2 := (canon_stable h.nodes (renOrd [] h.root) g.nodes.length h1 (h.nodes.length - g.nodes.length)).2
    rw [show g.nodes.length + (h.nodes.length - g.nodes.length) = h.nodes.length by omega] at h2
    rw [h2, s2]
  · obtain ⟨s1, s2, _⟩ := m.sim h.nodes.length
    have h1 : (canonO g.nodes (renOrd [] g.root) h.nodes.length).length ≤ h.nodes.length := by
      have := congrArg List.length s1
      rw [List.length_map] at this
      omega
    have h2 := (canon_stable g.nodes (renOrd [] g.root) h.nodes.length h1 (g.nodes.length - h.nodes.length)).2
    rw [show h.nodes.length + (g.nodes.length - h.nodes.length) = g.nodes.length by omega] at h2
    rw [h2, s2]
end

/-! a form is its own form -/
theorem prefix_renOrd (ord : List Nat) (v : GV) : ord <+: renOrd ord v := by
  unfold renOrd
  split
  · exact List.prefix_append _ _
  · exact List.prefix_refl _
theorem prefix_renOrds (l : List GV) : ∀ ord : List Nat, ord <+: renOrds ord l := by
  induction l with
  | nil => intro ord; exact List.prefix_refl _
  | cons v r ih => intro ord; exact (prefix_renOrd ord v).trans (ih (renOrd ord v))
theorem prefix_canonO (nodes : List GN) (ord0 : List Nat) {k m : Nat} (h : k ≤ m) : canonO nodes ord0 k <+: canonO nodes ord0 m := by
  induction h with
  | refl => exact List.prefix_refl _
  | step _ ih =>
    refine ih.trans ?_
    rw [canonO_succ]
    split
    · exact prefix_renOrds _ _
    · exact List.prefix_refl _
theorem idxOf_prefix {a b : List Nat} (h : a <+: b) {x : Nat} (hx : x ∈ a) : b.idxOf x = a.idxOf x := by
  obtain ⟨c, rfl⟩ := h
  rw [List.idxOf_append, if_pos hx]
theorem renVal_prefix {ord o : List Nat} {v : GV} (h : renOrd ord v <+: o) : renVal ord v = mapV (fun x => o.idxOf x) v := by
  unfold renVal mapV
  by_cases hk : v.kind = 4
  · rw [if_pos hk, if_pos hk]
    dsimp only
    rw [idxOf_prefix h (mem_renOrd hk)]
  · rw [if_neg hk, if_neg hk]
theorem renVals_prefix : ∀ (l : List GV) (ord o : List Nat), renOrds ord l <+: o → renVals ord l = l.map (mapV fun x => o.idxOf x)
  | [], _, _, _ => rfl
  | v :: l, ord, o, h => by
    show renVal ord v :: renVals (renOrd ord v) l = _
    rw [List.map_cons, renVal_prefix ((prefix_renOrds l (renOrd ord v)).trans h), renVals_prefix l (renOrd ord v) o h]
theorem mem_renOrds : ∀ (l : List GV) (ord : List Nat) (v : GV), v ∈ l → v.kind = 4 → v.node.toNat ∈ renOrds ord l
  | [], _, _, h, _ => by cases h
  | x :: l, ord, v, h, hk => by
    rcases List.mem_cons.1 h with rfl | h
    · exact (prefix_renOrds l (renOrd ord v)).subset (mem_renOrd hk)
    · exact mem_renOrds l (renOrd ord x) v h hk

theorem canonN_get (nodes : List GN) (ord0 : List Nat) : ∀ (m k : Nat), k < m → k < (canonO nodes ord0 m).length → (canonN nodes ord0 m)[k]! = ⟨(nodes[(canonO nodes ord0 m)[k]!]!).tag, (nodes[(canonO nodes ord0 m)[k]!]!).vals.map (mapV fun x => (canonO nodes ord0 m).idxOf x)⟩ ∧ ∀ v, v ∈ (nodes[(canonO nodes ord0 m)[k]!]!).vals → v.kind = 4 → v.node.toNat ∈ canonO nodes ord0 m := by
  intro m k hkm hkl
  -- in round k the node was taken
  have hk0 : k < (canonO nodes ord0 k).length := by
    by_cases h : k < (canonO nodes ord0 k).length
    · exact h
    · have h1 := (canon_stable nodes ord0 k (by omega) (m - k)).1
      rw [show k + (m - k) = m by omega] at h1
      rw [h1] at hkl
      exact hkl
  have hp := prefix_canonO nodes ord0 (Nat.le_of_lt hkm)
  have hp1 := prefix_canonO nodes ord0 (show k + 1 ≤ m by omega)
  have e1 : (canonO nodes ord0 m)[k]! = (canonO nodes ord0 k)[k]! := by
    obtain ⟨c, hc⟩ := hp
    rw [← hc, getElem!_pos _ k (by rw [List.length_append]; omega), getElem!_pos _ k hk0, List.getElem_append_left hk0]
  have es : canonO nodes ord0 (k + 1) = renOrds (canonO nodes ord0 k) (nodes[(canonO nodes ord0 k)[k]!]!).vals := by rw [canonO_succ, if_pos hk0]
  refine ⟨?_, fun v hv hk4 => ?_⟩
  · have hN : ∀ j, k + 1 ≤ j → (canonN nodes ord0 j)[k]! = (canonN nodes ord0 (k + 1))[k]! := by
      intro j hj
      induction hj with
      | refl => rfl
      | step hle ih =>
        rename_i j'
        have hlen : k < (canonN nodes ord0 j').length := by
          rw [canonN_len]
          have h3 : k + 1 ≤ j' := hle
          have := canonO_mono nodes ord0 (Nat.le_of_succ_le h3)
          omega
        rw [← ih, canonN_succ]
        split
        · rw [getElem!_pos _ k (by rw [List.length_append]; omega), getElem!_pos _ k hlen, List.getElem_append_left hlen]
        · rfl
    rw [hN m (by omega), canonN_succ, if_pos hk0, e1]
    have hl : (canonN nodes ord0 k).length = k := by rw [canonN_len]; omega
    rw [getElem!_pos _ k (by rw [List.length_append, hl]; simp), List.getElem_append_right (by omega)]
    simp only [hl, Nat.sub_self, List.getElem_cons_zero]
    rw [renVals_prefix _ _ (canonO nodes ord0 m) (by rw [← es]; exact hp1)]
  · rw [e1] at hv
    refine hp1.subset ?_
    rw [es]
    exact mem_renOrds _ _ v hv hk4

theorem canon_mapG {g : GG} (hok : okG g = true) : MapG (fun x => (canonO g.nodes (renOrd [] g.root) g.nodes.length).idxOf x) (fun x => x ∈ canonO g.nodes (renOrd [] g.root) g.nodes.length) g (canon g) := by
  obtain ⟨_, gr, gn⟩ := okG_parts hok
  have hinv := canonO_inv ((InvO.nil _).ren gr) gn g.nodes.length
  have hp0 : renOrd [] g.root <+: canonO g.nodes (renOrd [] g.root) g.nodes.length := by
    have h := prefix_canonO g.nodes (renOrd [] g.root) (Nat.zero_le g.nodes.length)
    rwa [show canonO g.nodes (renOrd [] g.root) 0 = renOrd [] g.root by unfold canonO; rfl] at h
  have hat : ∀ i, i ∈ canonO g.nodes (renOrd [] g.root) g.nodes.length → ∃ k, k < (canonO g.nodes (renOrd [] g.root) g.nodes.length).length ∧ (canonO g.nodes (renOrd [] g.root) g.nodes.length).idxOf i = k ∧ (canonO g.nodes (renOrd [] g.root) g.nodes.length)[k]! = i := fun i hi => by
    have h1 := List.idxOf_lt_length_of_mem hi
    exact ⟨_, h1, rfl, (getElem!_pos (canonO g.nodes (renOrd [] g.root) g.nodes.length) _ h1).trans (List.getElem_idxOf h1)⟩
  refine ⟨fun i j hi hj e => ?_, fun hk => ?_, ?_, fun i hi => ?_, fun i hi v hv hk => ?_⟩
  · obtain ⟨k, _, e1, e2⟩ := hat i hi
    obtain ⟨k', _, e3, e4⟩ := hat j hj
    rw [← e2, ← e4, ← e1, ← e3, e]
  · exact hp0.subset (mem_renOrd hk)
  · exact renVal_prefix hp0
  · obtain ⟨k, hk, e1, e2⟩ := hat i hi
    have h1 := (canonN_get g.nodes (renOrd [] g.root) g.nodes.length k (by have := hinv.le; omega) hk).1
    rw [e1]
    rw [e2] at h1
    exact h1
  · obtain ⟨k, hk', e1, e2⟩ := hat i hi
    have h1 := (canonN_get g.nodes (renOrd [] g.root) g.nodes.length k (by have := hinv.le; omega) hk').2
    rw [e2] at h1
    exact h1 v hv hk

theorem canon_canon {g : GG} (hok : okG g = true) : canon (canon g) = canon g := (canon_mapG hok).canon hok (canon_okG hok)

end Go.Proofs.YtmdpmdmilgbfiaaGreatDoor

namespace Go.Proofs.YtmdpmdmilgbfiaaGreatDoor
open Go.RowKit

theorem imageB_canon {g : GG} (hok : okG g = true) : imageB (canon g) = imageB g := by unfold imageB; rw [canon_canon hok]
theorem packB_canon {g : GG} (hok : okG g = true) : packB (canon g) = packB g := by
  unfold packB
  rw [imageB_canon hok, canon_okG hok, hok]
theorem zeroG_Ok : zeroG.Ok := ⟨⟨by show I64 0; unfold I64; omega, by show I64 0; unfold I64; omega, by show (0 : Nat) ≤ maxLen; exact Nat.zero_le _, by show I64 0; unfold I64; omega⟩, by show 0 ≤ maxLen; exact Nat.zero_le _, fun x hx => by cases hx⟩
theorem unB_Ok (bs : List Nat) : (unB bs).2.Ok := by
  unfold unB
  split
  · rename_i g q h
    split
    · exact rdGraph_ok h
    · exact zeroG_Ok
  · exact zeroG_Ok
theorem unB_true {bs : List Nat} (h : (unB bs).1 = true) : packB (unB bs).2 = bs := by
  unfold unB at h ⊢
  cases h2 : rdGraph bs with
  | none => rw [h2] at h; cases h
  | some y =>
    obtain ⟨g, q⟩ := y
    rw [h2] at h
    dsimp only at h ⊢
    by_cases h3 : packB g = bs
    · rw [if_pos h3]; exact h3
    · rw [if_neg h3] at h; cases h
theorem unB_pack {g : GG} (hg : g.Ok) (hok : okG g = true) (hl : packB g ≠ []) : unB (packB g) = (true, canon g) := by
  have h1 : packB g = imageB g := by
    unfold packB at hl ⊢
    split
    · rfl
    · rename_i h; rw [if_neg h] at hl; exact absurd rfl hl
  have h2 : rdGraph (imageB g) = some (canon g, lowB 8 (sumN (graphB (canon g)))) := by
    unfold imageB formB
    exact rdGraph_back (canon_ok hg hok) (canon_okG hok) _
  have h3 : packB (canon g) = packB g := packB_canon hok
  unfold unB
  rw [h1, h2]
  show (if packB (canon g) = imageB g then (true, canon g) else (false, zeroG)) = _
  rw [h3, h1, if_pos rfl]

end Go.Proofs.YtmdpmdmilgbfiaaGreatDoor
