import Derived.WalkKit
import Derived.LaidEql
import Derived.Stop.Asserts
import Derived.RowKitTokens
import Derived.Test.YtmdpmdmilgbfiaaGreatDoorPartQ
namespace Go.Proofs.YtmdpmdmilgbfiaaGreatDoor
open Go.RowKit
set_option maxRecDepth 100000
set_option maxHeartbeats 8000000
open Go.RowKit Go.Shelf
attribute [local go_sem] Oper.semAt_some
def DD.apply (d : DD) (ops : List OP) (n : Int) : DD := if d.ok = true ∧ 0 ≤ n ∧ n ≤ (ops.length : Int) then (applyN d ops n.toNat).getD zeroD else zeroD
def noPanicA (Q : Exit → Act → World → Prop) : Exit → Act → World → Prop
 | .panic _, _, _ => False
 | e, a, w => Q e a w
theorem noPanicA_le (Q : Exit → Act → World → Prop) : ∀ e a w, noPanicA Q e a w → Q e a w := fun e a w h => by
 cases e <;> first | exact h | exact h.elim
theorem opsAt_take {w : World} {a : Option Addr} {ops : List OP} (h : OpsAt w a ops) (k : Nat) : OpsAt w a (ops.take k) := fun i hi => by
 have h1 : i < ops.length ∧ i < k := by simp at hi; omega
 have e : (ops.take k)[i]! = ops[i]! := by rw [getElem!_pos _ i hi, getElem!_pos ops i h1.1, List.getElem_take]
 rw [e]
 exact h i h1.1
theorem applyN_take {d : DD} {ops : List OP} {k : Nat} : ∀ j, j ≤ k → j ≤ ops.length → applyN d (ops.take k) j = applyN d ops j
 | 0, _, _ => rfl
 | j + 1, h, hl => by
  have e : (ops.take k)[j]! = ops[j]! := by rw [getElem!_pos _ j (by simp; omega), getElem!_pos ops j (by omega), List.getElem_take]
  show (applyN d (ops.take k) j).bind _ = (applyN d ops j).bind _
  rw [applyN_take j (by omega) (by omega), e]
theorem implApply_any (d : DD) (l : DL) (oa : Option Addr) (ops : List OP) (oc : Nat) (n : Int) (w : World) (hd : d.Ok) (ha : DAt w l d) (hoa : OpsAt w oa ops) (hoc : ops.length ≤ oc) (hol : ops.length ≤ 1048576) (hok : OpsOk ops) (hn : I64 n) :
  Calls Tryz.prog 21 #[d.val l, .slice oa ops.length oc, .int .i64 n] w (DPost (d.apply ops n) w) := by
 have hA := gal (gal (gre w) (.cells #[.slice l.ba d.blocks.length l.bc, .slice l.wa d.waiting.length l.wc] 46)) (.cells #[.slice none 0 0, .slice none 0 0] 46)
 have hX0 := (DBox.new w d l 46).grow (gal (gre _) (.cells #[.slice none 0 0, .slice none 0 0] 46))
 have hR0 := VB.new_at (w.alloc (.cells #[.slice l.ba d.blocks.length l.bc, .slice l.wa d.waiting.length l.wc] 46)) (.slice none 0 0) (.slice none 0 0) 46 (w.heap.size + 1) (by simp)
 refine callsIn_wide.1 (callsIn_of_wp_marks (F := Fence.wide) (n := 5) Tryz.func21 rfl trivial ?_ rfl)
 refine wpIn_wide.2 (Go.Code.wp_mono (noPanicA_le _) ?_)
 simp only [Tryz.ntmps21, List.size_toArray, List.length_cons, List.length_nil, Nat.reduceAdd, Nat.reduceSub, Array.replicate_succ, Array.replicate_zero, List.push_toArray, List.append_toArray, List.nil_append, List.cons_append]
 cases hok2 : d.ok with
 | false =>
  have hok' : Hid _ := hok2
  have hz : d.apply ops n = zeroD := if_neg (fun h => by rw [hok2] at h; cases h.1)
  rw [hz]
  clear hok2 hz
  go_wp2_with (go_at_call 29; refine (implDiskOk_any d l _ hd (ha.grow hA)).mono ?_; rintro e w2 ⟨rfl, hb2⟩; rw [hok'.out]; obtain ⟨z0, z1, zf⟩ := hR0.grow hb2)
  obtain ⟨c0, c1, K⟩ := ret2 (A := .slice none 0 0) (B := .slice none 0 0) z0 z1
  refine ⟨.agg #[.slice none 0 0, .slice none 0 0], by simp [results, Tryz.results21, go_sem, c0, c1], DPost.zero ?_⟩
  exact (gca hA hb2).trans (K.below (gca hA hb2).size (fun z hz e => by omega))
 | true =>
  have hok' : Hid _ := hok2
  have hfit := DD.fit hok2
  by_cases hr : 0 ≤ n ∧ n ≤ (ops.length : Int)
  ·
   obtain ⟨N, rfl⟩ : ∃ N : Nat, n = (N : Int) := ⟨n.toNat, by omega⟩
   have hN : N ≤ ops.length := by omega
   have hz : d.apply ops N = (applyN d ops N).getD zeroD := if_pos ⟨hok2, hr.1, hr.2⟩
   obtain ⟨c, hc⟩ := hid_ex ((applyN d ops N).getD zeroD)
   rw [hz, ← hc.out]
   have t1 : ¬ ((N : Int) < 0) := by omega
   have t2 : ¬ ((ops.length : Int) < (N : Int)) := by omega
   have t3 : (N : Int) ≤ (oc : Int) := by omega
   clear hz hok2 hr
   go_upto_region 4 with (first
    | (go_at_call 29; refine (implDiskOk_any d l _ hd (ha.grow hA)).mono ?_; rintro e w2 ⟨rfl, hb2⟩; rw [hok'.out]; obtain ⟨_, x0, x1⟩ := hX0.grow hb2)
    | (go_at_call 54; refine (driveOf_any d l _ hfit (ha.grow (gca hA hb2))).mono ?_; rintro e w3 ⟨p, pa, pc, rfl, hp3, hDr, hb3⟩))
   have hlen : (ops.take N).length = N := by simp; omega
   have hbA3 := gca (gca hA hb2) hb3
   have hst := steps_any p oa oc (ops.take N) w w3 (by omega) (opsAt_take hoa N) hbA3
   rw [hlen] at hst
   have hR3 := (hR0.grow hb2).grow hb3
   have hwp : w.heap.size + 1 < p := by have := hR0.grow hb2; have := this.lt; omega
   have hops : ∀ o, o ∈ ops.take N → I64 o.block ∧ o.bytes.length ≤ maxLen := fun o ho => ⟨hok.bl o (List.mem_of_mem_take ho), (hok.by_ o (List.mem_of_mem_take ho)).1⟩
   clear x0 x1
   go_wp2_with (first
    | (go_at_call 59; refine hst.mono ?_; rintro e w4 ⟨sa, sc, V, obs, rfl, hrd, hb4⟩; rw [hlen])
    | (go_at_call 58; refine (outcomes_any sa N sc w4).mono ?_; rintro e w5 ⟨rfl, hw5⟩))
   have hb4' := hb4
   have hI0 : AI w w w3.heap.size V p w4.heap.size (w.heap.size + 1) d (ops.take N) sa sc obs 0 (w4.alloc (.cells #[.slice sa N sc] 114)) := {
    dr := ⟨d, pa, pc, .nilFunc, rfl, hok'.out, hDr.grow (gal hb4 _)⟩
    rd := hrd.kept ((Kept.refl (fun _ => False) w4).alloc _) (fun _ _ _ e => e) (fun _ _ _ e => e) (fun _ _ _ e => e)
    bx := by rw [hlen]; exact World.alloc_heap_new w4 _
    bB := hb4.size
    vr := hR3.grow (gal hb4 _)
    bel := gal (gca hbA3 hb4) _
    b0 := gal (gca hbA3 hb4) _ }
   have hs5 : (w4.alloc (.cells #[.slice sa N sc] 114)).heap.size = w4.heap.size + 1 := by simp
   have hpb : p < w3.heap.size := hDr.d.lt
   have hs34 := hb4.size
   generalize w4.alloc (.cells #[.slice sa N sc] 114) = w5 at hI0 hs5 ⊢
   clear hst hrd hb4 hb4'
   refine (wpIn_wide (n := 5)).1 ?_
   refine wpIn_range_do (by decide) (gf := 96) (lb := #[.pointer (some ⟨w4.heap.size, 0, none⟩)]) rfl (enters_of Tryz.func96 (by kernel_rfl) rfl) rfl (emptyR (w.heap.size + 1)) (fun W => (KeepsOthers.setCell _ _ _).trans (KeepsOthers.setCell _ _ _)) (fun W => VB W (w.heap.size + 1) (.slice none 0 0) (.slice none 0 0)) ?hG ?a1 ?assign ?body (fun W => AI w w w3.heap.size V p w4.heap.size (w.heap.size + 1) d (ops.take N) sa sc obs (ops.take N).length W) (AStop w (w.heap.size + 1) d (ops.take N)) ?seq ?done ?stop
   case assign =>
    intro l' x W K hK
    gi_wp2
    exact hK
   case hG =>
    intro W l' r o hv hl'
    refine hv.kept (keptPutA W l' o) (fun e => ?_)
    have h0 := hv.v0
    rw [e] at h0
    simp [World.cell?, hl'] at h0
   case body =>
    intro l' x W hv
    obtain ⟨v0, v1, vf⟩ := id hv
    cases x with
    | true =>
     gi_wp2
     exact ⟨rfl, rfl⟩
    | false =>
     gi_wp2
     exact ⟨rfl, rfl⟩
   case seq =>
    intro rd dn hY
    have hW1 := hI0.kept (((Kept.refl (fun _ => False) w5).alloc (.deferred (some []))).alloc (.loop rd)) hpb (by omega) (by omega) (by omega) (fun z e => e.elim)
    refine out1_in 4 (by decide) w w w3.heap.size V p w4.heap.size (w.heap.size + 1) (w5.heap.size + 1) w5.heap.size d (ops.take N) sa sc obs rd dn hpb (by omega) (by omega) (by omega) (by omega) (by omega) (by omega) hops hY _ hW1 ?_ ?_
    · have := World.alloc_heap_new (w5.alloc (.deferred (some []))) (.loop rd); rwa [World.size_alloc] at this
    · exact (Below.heap_alloc _ _ _ (by simp)).trans (World.alloc_heap_new w5 _)
   case done =>
    rintro W o hJ hD ⟨r0, hlr⟩
    obtain ⟨e, pa2, pc2, kv2, he, hek, hDr2⟩ := hJ.dr
    have he2 : applyN d ops N = some e := by rw [← applyN_take N (Nat.le_refl _) hN]; rw [hlen] at he; exact he
    have hce : c = e := by rw [hc.out, he2]; rfl
    have hfe := DD.fit hek
    have hK := keptPutA W (w5.heap.size + 1) o
    have hD2 := (World.putObj_heap_other (w := W) (r := w5.heap.size + 1) (o := o) (k := w5.heap.size) (by omega)).trans hD
    have hno : ∀ t, IsT t W (w5.heap.size + 1) → False := fun t ⟨x, hx⟩ => by rw [hlr] at hx; cases hx
    have hDr3 : Dr (W.putObj (w5.heap.size + 1) o) p e.blocks pa2 pc2 e.waiting kv2 := ⟨hDr2.d.kept hK (by omega), hK.owns hDr2.own (fun z hz e => by subst e; exact hno _ (owns_isT hDr2.own hz).1), hDr2.w64⟩
    have hv3 := hJ.vr.kept hK (by omega)
    have hbl3 : Below w.heap.size w (W.putObj (w5.heap.size + 1) o) := hJ.bel.trans (hK.below hJ.bel.size (fun z hz e => by omega))
    generalize W.putObj (w5.heap.size + 1) o = W3 at hDr3 hv3 hD2 hbl3 ⊢
    go_wp2_with (go_at_call 57; refine (disk_any p e.blocks pa2 pc2 e.waiting kv2 W3 (by have := hfe.wl; omega) hDr3).mono ?_; rintro r w6 ⟨l6, fa, ga, fc, gc, rfl, hmd, hb6⟩; obtain ⟨z0, z1, zf⟩ := hv3.grow hb6)
    rw [← hs5]
    have hv6 := ((hv3.grow hb6).set0 (.slice l6.ba e.blocks.length l6.bc)).set1 (.slice l6.wa e.waiting.length l6.wc)
    have hK6 : Kept (fun z => z = w.heap.size + 1) w6 ((w6.setCell ⟨w.heap.size + 1, 0, none⟩ (.slice l6.ba e.blocks.length l6.bc)).setCell ⟨w.heap.size + 1, 1, none⟩ (.slice l6.wa e.waiting.length l6.wc)) := ((Kept.refl (fun z => z = w.heap.size + 1) w6).set (a := ⟨w.heap.size + 1, 0, none⟩) (fun _ => rfl) _).set (a := ⟨w.heap.size + 1, 1, none⟩) (fun _ => rfl) _
    have hDl := (Array.getElem?_eq_some_iff.1 hD2).1
    have hD6 := (hb6.block _ hDl).trans hD2
    have hs6 := hb6.size
    generalize (w6.setCell ⟨w.heap.size + 1, 0, none⟩ (.slice l6.ba e.blocks.length l6.bc)).setCell ⟨w.heap.size + 1, 1, none⟩ (.slice l6.wa e.waiting.length l6.wc) = w7 at hv6 hK6 ⊢
    have hD7 := (hK6.block _ (by omega) (by omega)).trans hD6
    refine ⟨by simp, .inl ⟨_, _, rfl, run_takeDeferred hD7, ?_⟩⟩
    have hK8 := keptPutA w7 w5.heap.size (.deferred none)
    have hv8 := hv6.kept hK8 (by omega)
    have hbl8 : Below w.heap.size w (w7.putObj w5.heap.size (.deferred none)) := ((gca hbl3 hb6).trans (hK6.below (gca hbl3 hb6).size (fun z hz e => by omega))).trans (hK8.below (by have := (gca hbl3 hb6).size; have := hK6.size; omega) (fun z hz e => by omega))
    have hmd8 := ((hmd.last hK6 (by omega) (Nat.le_refl _) hK6.size).last hK8 (by omega) (lo' := w.heap.size) (by omega) hK8.size)
    generalize w7.putObj w5.heap.size (.deferred none) = w8 at hv8 hbl8 hmd8 ⊢
    obtain ⟨q0, q1, _⟩ := hv8
    refine ⟨e.val l6, by simp [results, Tryz.results21, go_sem, q0, q1], ?_⟩
    rw [hce]
    exact ⟨l6, fa, ga, fc, gc, rfl, hmd8, hbl8⟩
   case stop =>
    intro W o hS hD
    obtain ⟨⟨j, hj, hno⟩, hv, hbl⟩ := hS
    have hK := keptPutA W (w5.heap.size + 1) o
    have hD2 := (World.putObj_heap_other (w := W) (r := w5.heap.size + 1) (o := o) (k := w5.heap.size) (by omega)).trans hD
    have hv3 := hv.kept hK (by omega)
    have hbl3 : Below w.heap.size w (W.putObj (w5.heap.size + 1) o) := hbl.trans (hK.below hbl.size (fun z hz e => by omega))
    generalize W.putObj (w5.heap.size + 1) o = W3 at hv3 hD2 hbl3 ⊢
    have hc0 : c = zeroD := by
     have h1 := applyN_none hno (N - (j + 1))
     rw [hlen] at hj
     rw [show j + 1 + (N - (j + 1)) = N by omega, applyN_take N (Nat.le_refl _) hN] at h1
     rw [hc.out, h1]
     rfl
    have hDl := (Array.getElem?_eq_some_iff.1 hD2).1
    gi_wp2
    refine ⟨by simp, .inl ⟨_, _, rfl, run_takeDeferred hD2, ?_⟩⟩
    have hK8 := keptPutA W3 w5.heap.size (.deferred none)
    have hv8 := hv3.kept hK8 (by omega)
    have hbl8 : Below w.heap.size w (W3.putObj w5.heap.size (.deferred none)) := hbl3.trans (hK8.below hbl3.size (fun z hz e => by omega))
    generalize W3.putObj w5.heap.size (.deferred none) = w8 at hv8 hbl8 ⊢
    obtain ⟨q0, q1, _⟩ := hv8
    refine ⟨.agg #[.slice none 0 0, .slice none 0 0], by simp [results, Tryz.results21, go_sem, q0, q1], ?_⟩
    rw [hc0]
    exact DPost.zero hbl8
  ·
   have hz : d.apply ops n = zeroD := if_neg (fun h => hr h.2)
   rw [hz]
   clear hok2 hz
   rcases (by omega : n < 0 ∨ (¬ (n < 0) ∧ (ops.length : Int) < n)) with h1 | ⟨h1, h2⟩
   ·
    go_wp2_with (go_at_call 29; refine (implDiskOk_any d l _ hd (ha.grow hA)).mono ?_; rintro e w2 ⟨rfl, hb2⟩; rw [hok'.out]; obtain ⟨z0, z1, zf⟩ := hR0.grow hb2)
    obtain ⟨c0, c1, K⟩ := ret2 (A := .slice none 0 0) (B := .slice none 0 0) z0 z1
    refine ⟨.agg #[.slice none 0 0, .slice none 0 0], by simp [results, Tryz.results21, go_sem, c0, c1], DPost.zero ?_⟩
    exact (gca hA hb2).trans (K.below (gca hA hb2).size (fun z hz e => by omega))
   ·
    go_wp2_with (go_at_call 29; refine (implDiskOk_any d l _ hd (ha.grow hA)).mono ?_; rintro e w2 ⟨rfl, hb2⟩; rw [hok'.out]; obtain ⟨z0, z1, zf⟩ := hR0.grow hb2)
    obtain ⟨c0, c1, K⟩ := ret2 (A := .slice none 0 0) (B := .slice none 0 0) z0 z1
    refine ⟨.agg #[.slice none 0 0, .slice none 0 0], by simp [results, Tryz.results21, go_sem, c0, c1], DPost.zero ?_⟩
    exact (gca hA hb2).trans (K.below (gca hA hb2).size (fun z hz e => by omega))
open Go.RowKit Go.Extern.Stop Go.Stop Go.Extern
theorem as_nilR (t : Value) (w : World) : Calls Tryz.prog 72 #[.nilIface, t] w fun e w' => e = .returned (.bool false) ∧ w' = w := by
 go_enter Tryz.func72, Tryz.ntmps72
 go_wp2
 go_ret
 exact ⟨rfl, rfl⟩
theorem asValueOfP (t : Addr) (w : World) : (ReflectliteValue.unpack (.iface 134 (.pointer (some t)))).run Tryz.prog w
  = .ok (.agg #[.pointer (some ⟨1, 134, none⟩), .pointer (some ⟨w.heap.size, 0, none⟩), .int .u64 150]) (w.alloc (.cells #[.pointer (some t)] 134)) := by kernel_rfl
theorem asTypeP (a : Addr) (w : World) : (ReflectliteValue.methodAny (ReflectliteValue.valueError "reflectlite.Value.Type" 0) (fun t _ _ _ => ReflectliteType.toType t) #[.agg #[.pointer (some ⟨1, 134, none⟩), .pointer (some a), .int .u64 150]]).run Tryz.prog w
  = .ok (.iface 211 (.agg #[.pointer (some ⟨1, 134, none⟩)])) w := by kernel_rfl
theorem asMKind (h : Value) (w : World) : (Go.method 364 211 (.agg #[h]) "Kind").run Tryz.prog w = .ok (167, h) w := by kernel_rfl
theorem asKindP (w : World) : ((ReflectliteType.abiMethod fun t => (fun a : Nat => Value.int IntKind.u8 (a : Int)) <$> Rtype.kind t) #[.pointer (some ⟨1, 134, none⟩)]).run Tryz.prog w = .ok (.int .u8 22) w := by kernel_rfl
theorem asKindR (w : World) : ((ReflectliteType.abiMethod fun t => (fun a : Nat => Value.int IntKind.u8 (a : Int)) <$> Rtype.kind t) #[.pointer (some ⟨1, 132, none⟩)]).run Tryz.prog w = .ok (.int .u8 25) w := by kernel_rfl
theorem asRlm (z : Sem Value) (f : TypeId → Addr → Nat → Nat → Sem Value) (v : Value) :
  ReflectliteValue.method z f #[v] = (do match ← ReflectliteValue.parts v with | none => z | some (t, a, fl) => f t a fl (fl % 32)) := rfl
theorem asPartsP (a : Addr) (w : World) : (ReflectliteValue.parts (.agg #[.pointer (some ⟨1, 134, none⟩), .pointer (some a), .int .u64 150])).run Tryz.prog w = .ok (some (134, a, 150)) w := by kernel_rfl
theorem asIsNilP (a p : Addr) (W : World) (ha : W.cell? a = some (.pointer (some p))) :
  (ReflectliteValue.method (ReflectliteValue.valueError "reflectlite.Value.IsNil" 0) ReflectliteValue.isNil #[.agg #[.pointer (some ⟨1, 134, none⟩), .pointer (some a), .int .u64 150]]).run Tryz.prog W = .ok (.bool false) W := by
 rw [asRlm]
 simp only [Sem.run_bind, asPartsP, Result.andThen]
 simp [ReflectliteValue.isNil, loadVar, isAgg, underlying, Tryz.underlying134, ha, Result.andThen]
theorem asMElem (h : Value) (w : World) : (Go.method 364 211 (.agg #[h]) "Elem").run Tryz.prog w = .ok (179, .agg #[h]) w := by kernel_rfl
theorem asMImpl (h : Value) (w : World) : (Go.method 364 211 (.agg #[h]) "Implements").run Tryz.prog w = .ok (180, .agg #[h]) w := by kernel_rfl
theorem asMAss (h : Value) (w : World) : (Go.method 364 211 (.agg #[h]) "AssignableTo").run Tryz.prog w = .ok (177, .agg #[h]) w := by kernel_rfl
theorem asElemP (w : World) : (ReflectliteType.method ReflectliteType.elem #[.agg #[.pointer (some ⟨1, 134, none⟩)]]).run Tryz.prog w = .ok (.iface 211 (.agg #[.pointer (some ⟨1, 132, none⟩)])) w := by kernel_rfl
theorem asImplR (w : World) : (ReflectliteType.relation "Implements" ReflectliteType.implements_ #[.agg #[.pointer (some ⟨1, 132, none⟩)], .iface 211 (.agg #[.pointer (some ⟨1, 80, none⟩)])]).run Tryz.prog w = .ok (.bool true) w := by kernel_rfl
theorem asTypeOfR (v : Value) (w : World) : (ReflectliteType.typeOf #[.iface 132 v]).run Tryz.prog w = .ok (.iface 211 (.agg #[.pointer (some ⟨1, 132, none⟩)])) w := by kernel_rfl
theorem asAssR (w : World) : (ReflectliteType.relation "AssignableTo" ReflectliteType.assignableTo #[.agg #[.pointer (some ⟨1, 132, none⟩)], .iface 211 (.agg #[.pointer (some ⟨1, 132, none⟩)])]).run Tryz.prog w = .ok (.bool true) w := by kernel_rfl
theorem asValueOfR (x y : Int) (w : World) : (ReflectliteValue.unpack (.iface 132 (.agg #[.int .i64 x, .int .i64 y]))).run Tryz.prog w
  = .ok (.agg #[.pointer (some ⟨1, 132, none⟩), .pointer (some ⟨w.heap.size, 0, none⟩), .int .u64 153]) (w.alloc (.cells #[.int .i64 x, .int .i64 y] 132)) := by kernel_rfl
theorem asElemOfP (w : World) : (Rtype.elem? 134).run Tryz.prog w = .ok (some 132) w := by kernel_rfl
theorem asMkR (p : Addr) (w : World) : (ReflectliteValue.mk 132 p ReflectliteValue.flagAddr).run Tryz.prog w = .ok (.agg #[.pointer (some ⟨1, 132, none⟩), .pointer (some p), .int .u64 409]) w := by kernel_rfl
theorem asElemVP (a p : Addr) (W : World) (ha : W.cell? a = some (.pointer (some p))) :
  (ReflectliteValue.method (ReflectliteValue.valueError "reflectlite.Value.Elem" 0) ReflectliteValue.elem #[.agg #[.pointer (some ⟨1, 134, none⟩), .pointer (some a), .int .u64 150]]).run Tryz.prog W
   = .ok (.agg #[.pointer (some ⟨1, 132, none⟩), .pointer (some p), .int .u64 409]) W := by
 rw [asRlm]
 simp only [Sem.run_bind, asPartsP, Result.andThen]
 simp [ReflectliteValue.elem, loadVar, isAgg, underlying, Tryz.underlying134, ha, Result.andThen, asElemOfP, asMkR]
theorem asRls (v x : Value) : ReflectliteValue.set #[v, x] = (do
  let (some (dst, a, fl), some (src, b, _)) := (← ReflectliteValue.parts v, ← ReflectliteValue.parts x)
   | unsupported (.noEntry "extern/(internal/reflectlite.Value).Set.zeroValue")
  if fl / ReflectliteValue.flagAddr % 2 == 0 then unsupported (.noEntry "extern/(internal/reflectlite.Value).Set.unaddressable")
  let val ← loadVar src b
  if ← Rtype.directlyAssignable dst src then storeVar dst a val
  else if ← Rtype.implements dst src then
   if (← Rtype.kind src) == 20 then
    match val with
    | .nilIface => unsupported (.noEntry "extern/reflectlite: a nil value of one interface type handed on as a value of another")
    | _ => storeVar dst a val
   else storeVar dst a (.iface src val)
  else panicString ("reflectlite.Set: value of type " ++ (← Rtype.spelt src) ++ " is not assignable to type " ++ (← Rtype.spelt dst))
  pure (.tuple #[])) := rfl
theorem asPartsRa (a : Addr) (w : World) : (ReflectliteValue.parts (.agg #[.pointer (some ⟨1, 132, none⟩), .pointer (some a), .int .u64 409])).run Tryz.prog w = .ok (some (132, a, 409)) w := by kernel_rfl
theorem asPartsR (a : Addr) (w : World) : (ReflectliteValue.parts (.agg #[.pointer (some ⟨1, 132, none⟩), .pointer (some a), .int .u64 153])).run Tryz.prog w = .ok (some (132, a, 153)) w := by kernel_rfl
theorem asDirectR (w : World) : (Rtype.directlyAssignable 132 132).run Tryz.prog w = .ok true w := by kernel_rfl
theorem asSetR (T B : Nat) (x y : Int) (o0 o1 : Value) (W : World) (hb0 : W.cell? ⟨B, 0, none⟩ = some (.int .i64 x)) (hb1 : W.cell? ⟨B, 1, none⟩ = some (.int .i64 y)) (ht0 : W.cell? ⟨T, 0, none⟩ = some o0) (ht1 : W.cell? ⟨T, 1, none⟩ = some o1) (hf : ∀ o, W.frozen? ⟨T, o, none⟩ = false) :
  (ReflectliteValue.set #[.agg #[.pointer (some ⟨1, 132, none⟩), .pointer (some ⟨T, 0, none⟩), .int .u64 409], .agg #[.pointer (some ⟨1, 132, none⟩), .pointer (some ⟨B, 0, none⟩), .int .u64 153]]).run Tryz.prog W
   = .ok (.tuple #[]) ((W.setCell ⟨T, 0, none⟩ (.int .i64 x)).setCell ⟨T, 1, none⟩ (.int .i64 y)) := by
 rw [asRls]
 simp only [Sem.run_bind, asPartsRa, asPartsR, Result.andThen]
 simp [ReflectliteValue.flagAddr, loadVar, isAgg, underlying, Tryz.underlying132, Result.andThen, asDirectR, storeVar, Value.cells, storeCells, Addr.add]
 have hL : (loadCells ⟨B, 0, none⟩ 2).run Tryz.prog W = .ok #[.int .i64 x, .int .i64 y] W := by
  simp [loadCells, loadCellsFrom, Sem.run_bind, hb0, hb1, Result.andThen, Addr.add]
 rw [hL]
 have h1 : (W.setCell ⟨T, 0, none⟩ (.int .i64 x)).cell? ⟨T, 1, none⟩ = some o1 := by rw [World.cell?_setCell_other _ _ _ _ (by simp)]; exact ht1
 simp [storeCells, Sem.run_bind, Addr.add]
 rw [run_store Tryz.prog W ⟨T, 0, none⟩ _ _ (by rfl)]
 simp [ht0, hf]
 rw [run_store Tryz.prog _ ⟨T, 1, none⟩ _ _ (by rfl)]
 simp [h1, hf]
def AsHit (T : Nat) (x y : Int) (w : World) (e : Ending) (w' : World) : Prop := e = .returned (.bool true) ∧ Kept (fun z => z = T) w w' ∧ w'.cell? ⟨T, 0, none⟩ = some (.int .i64 x) ∧ w'.cell? ⟨T, 1, none⟩ = some (.int .i64 y)
theorem as_hitR (T : Nat) (x y : Int) (o0 o1 : Value) (w : World) (hg : w.cell? ⟨0, 0, none⟩ = some (.iface 211 (.agg #[.pointer (some ⟨1, 80, none⟩)]))) (ht0 : w.cell? ⟨T, 0, none⟩ = some o0) (ht1 : w.cell? ⟨T, 1, none⟩ = some o1) (hf : ∀ o, w.frozen? ⟨T, o, none⟩ = false) :
  Calls Tryz.prog 72 #[.iface 132 (.agg #[.int .i64 x, .int .i64 y]), .iface 134 (.pointer (some ⟨T, 0, none⟩))] w (AsHit T x y w) := by
 have h6 := @run_callFunc_extern Tryz.prog 115 _ (fun args => ReflectliteValue.unpack (args.getD 0 (.tuple #[]))) Tryz.func115 (by kernel_rfl) (by kernel_rfl) (by kernel_rfl) (by kernel_rfl)
 have h7 := @run_callFunc_extern Tryz.prog 116 _ (ReflectliteValue.methodAny (ReflectliteValue.valueError "reflectlite.Value.Type" 0) (fun t _ _ _ => ReflectliteType.toType t)) Tryz.func116 (by kernel_rfl) (by kernel_rfl) (by kernel_rfl) (by kernel_rfl)
 have h8 := @run_callFunc_extern Tryz.prog 117 _ (ReflectliteValue.method (ReflectliteValue.valueError "reflectlite.Value.IsNil" 0) ReflectliteValue.isNil) Tryz.func117 (by kernel_rfl) (by kernel_rfl) (by kernel_rfl) (by kernel_rfl)
 have h27 := @run_callFunc_extern Tryz.prog 167 _ (ReflectliteType.abiMethod fun t => do pure (.int .u8 (← Rtype.kind t))) Tryz.func167 (by kernel_rfl) (by kernel_rfl) (by kernel_rfl) (by kernel_rfl)
 have h37 := @run_callFunc_extern Tryz.prog 179 _ (ReflectliteType.method ReflectliteType.elem) Tryz.func179 (by kernel_rfl) (by kernel_rfl) (by kernel_rfl) (by kernel_rfl)
 have h38 := @run_callFunc_extern Tryz.prog 180 _ (ReflectliteType.relation "Implements" ReflectliteType.implements_) Tryz.func180 (by kernel_rfl) (by kernel_rfl) (by kernel_rfl) (by kernel_rfl)
 have h10 := @run_callFunc_extern Tryz.prog 140 _ (ReflectliteType.typeOf) Tryz.func140 (by kernel_rfl) (by kernel_rfl) (by kernel_rfl) (by kernel_rfl)
 have h35 := @run_callFunc_extern Tryz.prog 177 _ (ReflectliteType.relation "AssignableTo" ReflectliteType.assignableTo) Tryz.func177 (by kernel_rfl) (by kernel_rfl) (by kernel_rfl) (by kernel_rfl)
 have h11 := @run_callFunc_extern Tryz.prog 141 _ (ReflectliteValue.method (ReflectliteValue.valueError "reflectlite.Value.Elem" 0) ReflectliteValue.elem) Tryz.func141 (by kernel_rfl) (by kernel_rfl) (by kernel_rfl) (by kernel_rfl)
 have h12 := @run_callFunc_extern Tryz.prog 142 _ (ReflectliteValue.set) Tryz.func142 (by kernel_rfl) (by kernel_rfl) (by kernel_rfl) (by kernel_rfl)
 have tO := asTypeOfR
 have mA := asMAss
 have a25 := asAssR
 have v25 := asValueOfR
 have f6 := asValueOfP
 have f7 := asTypeP
 have mK := asMKind
 have mE := asMElem
 have mI := asMImpl
 have k27 := asKindP
 have k25 := asKindR
 have e27 := asElemP
 have i25 := asImplR
 have hlt : 0 < w.heap.size := World.block_lt_of_cell? _ _ hg
 have htl : T < w.heap.size := World.block_lt_of_cell? _ _ ht0
 have n8 := asIsNilP ⟨w.heap.size, 0, none⟩ ⟨T, 0, none⟩ ((w.alloc (.cells #[.pointer (some ⟨T, 0, none⟩)] 134)).alloc (.cells #[.pointer (some ⟨1, 134, none⟩), .pointer (some ⟨w.heap.size, 0, none⟩), .int .u64 150] 181)) (by simp)
 have hg2 : ((w.alloc (.cells #[.pointer (some ⟨T, 0, none⟩)] 134)).alloc (.cells #[.pointer (some ⟨1, 134, none⟩), .pointer (some ⟨w.heap.size, 0, none⟩), .int .u64 150] 181)).cell? ⟨0, 0, none⟩ = some (.iface 211 (.agg #[.pointer (some ⟨1, 80, none⟩)])) := by
  rw [World.cell?_alloc_lt _ _ ⟨0, 0, none⟩ (by simp), World.cell?_alloc_lt _ _ ⟨0, 0, none⟩ hlt]; exact hg
 have el := asElemVP ⟨w.heap.size, 0, none⟩ ⟨T, 0, none⟩ (((w.alloc (.cells #[.pointer (some ⟨T, 0, none⟩)] 134)).alloc (.cells #[.pointer (some ⟨1, 134, none⟩), .pointer (some ⟨w.heap.size, 0, none⟩), .int .u64 150] 181)).alloc (.cells #[.pointer (some ⟨1, 134, none⟩), .pointer (some ⟨w.heap.size, 0, none⟩), .int .u64 150] 181)) (by rw [World.cell?_alloc_lt _ _ ⟨w.heap.size, 0, none⟩ (by simp; omega), World.cell?_alloc_lt _ _ ⟨w.heap.size, 0, none⟩ (by simp)]; simp)
 have hT0 : ((((w.alloc (.cells #[.pointer (some ⟨T, 0, none⟩)] 134)).alloc (.cells #[.pointer (some ⟨1, 134, none⟩), .pointer (some ⟨w.heap.size, 0, none⟩), .int .u64 150] 181)).alloc (.cells #[.pointer (some ⟨1, 134, none⟩), .pointer (some ⟨w.heap.size, 0, none⟩), .int .u64 150] 181)).alloc (.cells #[.int .i64 x, .int .i64 y] 132)).cell? ⟨T, 0, none⟩ = some o0 := by rw [World.cell?_alloc_lt _ _ ⟨T, 0, none⟩ (by simp; omega), World.cell?_alloc_lt _ _ ⟨T, 0, none⟩ (by simp; omega), World.cell?_alloc_lt _ _ ⟨T, 0, none⟩ (by simp; omega), World.cell?_alloc_lt _ _ ⟨T, 0, none⟩ htl]; exact ht0
 have hT1 : ((((w.alloc (.cells #[.pointer (some ⟨T, 0, none⟩)] 134)).alloc (.cells #[.pointer (some ⟨1, 134, none⟩), .pointer (some ⟨w.heap.size, 0, none⟩), .int .u64 150] 181)).alloc (.cells #[.pointer (some ⟨1, 134, none⟩), .pointer (some ⟨w.heap.size, 0, none⟩), .int .u64 150] 181)).alloc (.cells #[.int .i64 x, .int .i64 y] 132)).cell? ⟨T, 1, none⟩ = some o1 := by rw [World.cell?_alloc_lt _ _ ⟨T, 1, none⟩ (by simp; omega), World.cell?_alloc_lt _ _ ⟨T, 1, none⟩ (by simp; omega), World.cell?_alloc_lt _ _ ⟨T, 1, none⟩ (by simp; omega), World.cell?_alloc_lt _ _ ⟨T, 1, none⟩ htl]; exact ht1
 have st := asSetR T (w.heap.size + 1 + 1 + 1) x y o0 o1 ((((w.alloc (.cells #[.pointer (some ⟨T, 0, none⟩)] 134)).alloc (.cells #[.pointer (some ⟨1, 134, none⟩), .pointer (some ⟨w.heap.size, 0, none⟩), .int .u64 150] 181)).alloc (.cells #[.pointer (some ⟨1, 134, none⟩), .pointer (some ⟨w.heap.size, 0, none⟩), .int .u64 150] 181)).alloc (.cells #[.int .i64 x, .int .i64 y] 132))
  (by rw [World.cell?_alloc_at _ _ _ _ (by simp)]; rfl)
  (by rw [World.cell?_alloc_at _ _ _ _ (by simp)]; rfl)
  hT0
  hT1
  (fun o => by rw [World.frozen?_alloc_old _ _ ⟨T, o, none⟩ (by simp; omega), World.frozen?_alloc_old _ _ ⟨T, o, none⟩ (by simp; omega), World.frozen?_alloc_old _ _ ⟨T, o, none⟩ (by simp; omega), World.frozen?_alloc_old _ _ ⟨T, o, none⟩ (Nat.ne_of_lt htl)]; exact hf o)
 go_enter Tryz.func72, Tryz.ntmps72
 go_wp2
 refine wp_loop_rounds 1 ?_
 rw [rounds_succ]
 go_wp2
 go_ret
 exact ⟨rfl, ((((((Kept.refl (fun z => z = T) w).alloc _).alloc _).alloc _).alloc _).set (a := ⟨T, 0, none⟩) (fun _ => rfl) _).set (a := ⟨T, 1, none⟩) (fun _ => rfl) _, by rw [World.cell?_setCell_other _ _ _ _ (by simp)]; exact World.cell?_setCell_same _ _ _ hT0, World.cell?_setCell_same (u := o1) _ _ _ (by rw [World.cell?_setCell_other _ _ _ _ (by simp)]; exact hT1)⟩
theorem readVal_nil (b : Nat) (sa : Option Addr) (cap : Nat) (bs t : List Nat)  (w : World) (hR : Rd w b sa cap bs (0 :: t))  :
  Calls Tryz.prog 147 #[.pointer (some ⟨b, 0, none⟩)] w (RVPost b sa cap bs (0 :: t) w) := by
 have hlt := hR.lt
 have hF0 := Four.new w ⟨0, 0, ⟨#[]⟩, 0⟩ 29
 go_enter Tryz.func147, Tryz.ntmps147
 go_wp2_with (go_at_call 138; refine (readByte_any b sa cap bs (0 :: t) _ (hR.grow (gal (gre _) _))).mono ?_; rintro e w1 h1; obtain ⟨rfl, hR1, hK1⟩ := RPost.ok h1; have hF1 := hF0.kept hK1 (by omega); obtain ⟨az, a0, a1, a2, a3, af⟩ := id hF1; have hG := Four.new w1 ⟨0, 0, ⟨#[]⟩, 0⟩ 29; have hs1 := hK1.size; simp only [World.size_alloc] at hs1)
 obtain ⟨_, f0, f1, f2, f3, _⟩ := (hF1.set4 ⟨0, 0, ⟨#[]⟩, 0⟩).alloc (.cells #[.int .i64 0, .int .i64 0, .string ⟨#[]⟩, .int .i64 0] 29)
 obtain ⟨hKF, hRF⟩ := fin4 hlt (kk ((Kept.refl _ w).alloc _) hK1) hR1 (.int .i64 0) (.int .i64 0) (.string ⟨#[]⟩) (.int .i64 0)
 refine bodyPost_ret (v := (GV.mk 0 0 ⟨#[]⟩ 0).val) (by simp [results, Tryz.results147, go_sem, f0, f1, f2, f3]) rfl ?_
 exact ⟨hKF.alloc _, Or.inl ⟨_, _, rfl, rfl, hRF.grow (gal (gre _) _)⟩⟩
theorem readVal_num (b : Nat) (sa : Option Addr) (cap : Nat) (bs t : List Nat) (n : Nat) (q : List Nat) (w : World) (hR : Rd w b sa cap bs (1 :: t)) (hq : Hid (rdNum 0 0 t = some (n, q))) :
  Calls Tryz.prog 147 #[.pointer (some ⟨b, 0, none⟩)] w (RVPost b sa cap bs (1 :: t) w) := by
 have hlt := hR.lt
 have hF0 := Four.new w ⟨0, 0, ⟨#[]⟩, 0⟩ 29
 have hn := rdNum_lt 0 0 t n q (by omega) hq.out
 go_enter Tryz.func147, Tryz.ntmps147
 go_wp2_with (first
  | (go_at_call 138; refine (readByte_any b sa cap bs (1 :: t) _ (hR.grow (gal (gre _) _))).mono ?_; rintro e w1 h1; obtain ⟨rfl, hR1, hK1⟩ := RPost.ok h1; have hF1 := hF0.kept hK1 (by omega); obtain ⟨az, a0, a1, a2, a3, af⟩ := id hF1; have hG := Four.new w1 ⟨1, 0, ⟨#[]⟩, 0⟩ 29; have hs1 := hK1.size; simp only [World.size_alloc] at hs1)
  | (go_at_call 151; refine (readNumber_any b sa cap bs t _ (hR1.grow (gal (gre _) _))).mono ?_; rintro e w2 h2; rw [hq.out] at h2; obtain ⟨rfl, hR2, hK2⟩ := RPost.ok h2; have hF2 := (hF1.alloc (.cells #[.int .i64 1, .int .i64 0, .string ⟨#[]⟩, .int .i64 0] 29)).kept hK2 (by omega); obtain ⟨bz, b0, b1, b2, b3, bf⟩ := id hF2; have hG2 := hG.kept hK2 (by omega); obtain ⟨gz, g0, g1, g2, g3, gf⟩ := id hG2; have hs2 := hK2.size; simp only [World.size_alloc] at hs2)
  | (go_at_call 152; refine (signed_any n _ hn).mono ?_; rintro e w3 ⟨rfl, hb3⟩; obtain ⟨iz, i0, i1, i2, i3, if_⟩ := hG2.kept (Kept.of_below hb3 (fun _ => False)) (fun e => e); obtain ⟨cz, c0, c1, c2, c3, cf⟩ := hF2.kept (Kept.of_below hb3 (fun _ => False)) (fun e => e)))
 have hKX := kk (kk ((kk ((Kept.refl _ w).alloc _) hK1).alloc (.cells #[.int .i64 1, .int .i64 0, .string ⟨#[]⟩, .int .i64 0] 29)) hK2) (Kept.of_below hb3 _)
 have hRX := (hR2.grow hb3).kept ((Kept.refl (fun k => k = w1.heap.size) w3).set (a := ⟨w1.heap.size, 1, none⟩) (fun _ => rfl) (.int .i64 (zag n))) (fun k hk e => by omega)
 obtain ⟨hKF, hRF⟩ := fin4 hlt (hKX.set (a := ⟨w1.heap.size, 1, none⟩) (fun h => absurd h (by show ¬ w1.heap.size < _; omega)) (.int .i64 (zag n))) hRX (.int .i64 1) (.int .i64 (zag n)) (.string ⟨#[]⟩) (.int .i64 0)
 refine bodyPost_ret (v := (GV.mk 1 (zag n) ⟨#[]⟩ 0).val) (by simp [results, Tryz.results147, go_sem, c0, c1, c2, c3]) rfl ?_
 exact ⟨hKF, Or.inl ⟨⟨1, (zag n), ⟨#[]⟩, 0⟩, q, by show rdVal (1 :: t) = _; simp [rdVal, hq.out], rfl, hRF⟩⟩
theorem readVal_num_no (b : Nat) (sa : Option Addr) (cap : Nat) (bs t : List Nat)  (w : World) (hR : Rd w b sa cap bs (1 :: t)) (hq : Hid (rdNum 0 0 t = none)) :
  Calls Tryz.prog 147 #[.pointer (some ⟨b, 0, none⟩)] w (RVPost b sa cap bs (1 :: t) w) := by
 have hlt := hR.lt
 have hF0 := Four.new w ⟨0, 0, ⟨#[]⟩, 0⟩ 29
 go_enter Tryz.func147, Tryz.ntmps147
 go_wp2_with (first
  | (go_at_call 138; refine (readByte_any b sa cap bs (1 :: t) _ (hR.grow (gal (gre _) _))).mono ?_; rintro e w1 h1; obtain ⟨rfl, hR1, hK1⟩ := RPost.ok h1; have hF1 := hF0.kept hK1 (by omega); obtain ⟨az, a0, a1, a2, a3, af⟩ := id hF1; have hG := Four.new w1 ⟨1, 0, ⟨#[]⟩, 0⟩ 29; have hs1 := hK1.size; simp only [World.size_alloc] at hs1)
  | (go_at_call 151; refine (readNumber_any b sa cap bs t _ (hR1.grow (gal (gre _) _))).mono ?_; rintro e w2 h2; rw [hq.out] at h2; obtain ⟨rfl, hK2⟩ := RPost.no h2))
 exact ⟨rfl, kk ((kk ((Kept.refl _ w).alloc _) hK1).alloc (.cells #[.int .i64 1, .int .i64 0, .string ⟨#[]⟩, .int .i64 0] 29)) hK2, Or.inr ⟨by show rdVal (1 :: t) = _; simp [rdVal, hq.out], rfl⟩⟩
theorem readVal_bits (b : Nat) (sa : Option Addr) (cap : Nat) (bs t : List Nat) (n : Int) (q : List Nat) (w : World) (hR : Rd w b sa cap bs (2 :: t)) (hq : Hid (rdLow 8 0 0 t = some (n, q))) :
  Calls Tryz.prog 147 #[.pointer (some ⟨b, 0, none⟩)] w (RVPost b sa cap bs (2 :: t) w) := by
 have hlt := hR.lt
 have hF0 := Four.new w ⟨0, 0, ⟨#[]⟩, 0⟩ 29
 go_enter Tryz.func147, Tryz.ntmps147
 go_wp2_with (first
  | (go_at_call 138; refine (readByte_any b sa cap bs (2 :: t) _ (hR.grow (gal (gre _) _))).mono ?_; rintro e w1 h1; obtain ⟨rfl, hR1, hK1⟩ := RPost.ok h1; have hF1 := hF0.kept hK1 (by omega); obtain ⟨az, a0, a1, a2, a3, af⟩ := id hF1; have hG := Four.new w1 ⟨2, 0, ⟨#[]⟩, 0⟩ 29; have hs1 := hK1.size; simp only [World.size_alloc] at hs1)
  | (go_at_call 106; refine (readWord_any b sa cap bs t _ (hR1.grow (gal (gre _) _))).mono ?_; rintro e w2 h2; rw [hq.out] at h2; obtain ⟨rfl, hR2, hK2⟩ := RPost.ok h2; have hF2 := (hF1.alloc (.cells #[.int .i64 2, .int .i64 0, .string ⟨#[]⟩, .int .i64 0] 29)).kept hK2 (by omega); obtain ⟨bz, b0, b1, b2, b3, bf⟩ := id hF2; have hG2 := hG.kept hK2 (by omega); obtain ⟨gz, g0, g1, g2, g3, gf⟩ := id hG2; have hs2 := hK2.size; simp only [World.size_alloc] at hs2))
 have hKX := kk ((kk ((Kept.refl _ w).alloc _) hK1).alloc (.cells #[.int .i64 2, .int .i64 0, .string ⟨#[]⟩, .int .i64 0] 29)) hK2
 have hRX := (hR2).kept ((Kept.refl (fun k => k = w1.heap.size) w2).set (a := ⟨w1.heap.size, 1, none⟩) (fun _ => rfl) (.int .i64 n)) (fun k hk e => by omega)
 obtain ⟨hKF, hRF⟩ := fin4 hlt (hKX.set (a := ⟨w1.heap.size, 1, none⟩) (fun h => absurd h (by show ¬ w1.heap.size < _; omega)) (.int .i64 n)) hRX (.int .i64 2) (.int .i64 n) (.string ⟨#[]⟩) (.int .i64 0)
 refine bodyPost_ret (v := (GV.mk 2 n ⟨#[]⟩ 0).val) (by simp [results, Tryz.results147, go_sem, b0, b1, b2, b3]) rfl ?_
 exact ⟨hKF, Or.inl ⟨⟨2, n, ⟨#[]⟩, 0⟩, q, by show rdVal (2 :: t) = _; simp [rdVal, hq.out], rfl, hRF⟩⟩
theorem readVal_bits_no (b : Nat) (sa : Option Addr) (cap : Nat) (bs t : List Nat)  (w : World) (hR : Rd w b sa cap bs (2 :: t)) (hq : Hid (rdLow 8 0 0 t = none)) :
  Calls Tryz.prog 147 #[.pointer (some ⟨b, 0, none⟩)] w (RVPost b sa cap bs (2 :: t) w) := by
 have hlt := hR.lt
 have hF0 := Four.new w ⟨0, 0, ⟨#[]⟩, 0⟩ 29
 go_enter Tryz.func147, Tryz.ntmps147
 go_wp2_with (first
  | (go_at_call 138; refine (readByte_any b sa cap bs (2 :: t) _ (hR.grow (gal (gre _) _))).mono ?_; rintro e w1 h1; obtain ⟨rfl, hR1, hK1⟩ := RPost.ok h1; have hF1 := hF0.kept hK1 (by omega); obtain ⟨az, a0, a1, a2, a3, af⟩ := id hF1; have hG := Four.new w1 ⟨2, 0, ⟨#[]⟩, 0⟩ 29; have hs1 := hK1.size; simp only [World.size_alloc] at hs1)
  | (go_at_call 106; refine (readWord_any b sa cap bs t _ (hR1.grow (gal (gre _) _))).mono ?_; rintro e w2 h2; rw [hq.out] at h2; obtain ⟨rfl, hK2⟩ := RPost.no h2))
 exact ⟨rfl, kk ((kk ((Kept.refl _ w).alloc _) hK1).alloc (.cells #[.int .i64 2, .int .i64 0, .string ⟨#[]⟩, .int .i64 0] 29)) hK2, Or.inr ⟨by show rdVal (2 :: t) = _; simp [rdVal, hq.out], rfl⟩⟩
theorem readVal_node (b : Nat) (sa : Option Addr) (cap : Nat) (bs t : List Nat) (n : Nat) (q : List Nat) (w : World) (hR : Rd w b sa cap bs (4 :: t)) (hq : Hid (rdCount 300 t = some (n, q))) :
  Calls Tryz.prog 147 #[.pointer (some ⟨b, 0, none⟩)] w (RVPost b sa cap bs (4 :: t) w) := by
 have hlt := hR.lt
 have hF0 := Four.new w ⟨0, 0, ⟨#[]⟩, 0⟩ 29
 go_enter Tryz.func147, Tryz.ntmps147
 go_wp2_with (first
  | (go_at_call 138; refine (readByte_any b sa cap bs (4 :: t) _ (hR.grow (gal (gre _) _))).mono ?_; rintro e w1 h1; obtain ⟨rfl, hR1, hK1⟩ := RPost.ok h1; have hF1 := hF0.kept hK1 (by omega); obtain ⟨az, a0, a1, a2, a3, af⟩ := id hF1; have hG := Four.new w1 ⟨4, 0, ⟨#[]⟩, 0⟩ 29; have hs1 := hK1.size; simp only [World.size_alloc] at hs1)
  | (go_at_call 146; refine (readCount_any b sa cap bs t 300 _ _ (hR1.grow (gal (gre _) _)) rfl (by omega)).mono ?_; rintro e w2 h2; rw [hq.out] at h2; obtain ⟨rfl, hR2, hK2⟩ := RPost.ok h2; have hF2 := (hF1.alloc (.cells #[.int .i64 4, .int .i64 0, .string ⟨#[]⟩, .int .i64 0] 29)).kept hK2 (by omega); obtain ⟨bz, b0, b1, b2, b3, bf⟩ := id hF2; have hG2 := hG.kept hK2 (by omega); obtain ⟨gz, g0, g1, g2, g3, gf⟩ := id hG2; have hs2 := hK2.size; simp only [World.size_alloc] at hs2))
 have hKX := kk ((kk ((Kept.refl _ w).alloc _) hK1).alloc (.cells #[.int .i64 4, .int .i64 0, .string ⟨#[]⟩, .int .i64 0] 29)) hK2
 have hRX := (hR2).kept ((Kept.refl (fun k => k = w1.heap.size) w2).set (a := ⟨w1.heap.size, 3, none⟩) (fun _ => rfl) (.int .i64 (n : Int))) (fun k hk e => by omega)
 obtain ⟨hKF, hRF⟩ := fin4 hlt (hKX.set (a := ⟨w1.heap.size, 3, none⟩) (fun h => absurd h (by show ¬ w1.heap.size < _; omega)) (.int .i64 (n : Int))) hRX (.int .i64 4) (.int .i64 0) (.string ⟨#[]⟩) (.int .i64 (n : Int))
 refine bodyPost_ret (v := (GV.mk 4 0 ⟨#[]⟩ (n : Int)).val) (by simp [results, Tryz.results147, go_sem, b0, b1, b2, b3]) rfl ?_
 exact ⟨hKF, Or.inl ⟨⟨4, 0, ⟨#[]⟩, (n : Int)⟩, q, by show rdVal (4 :: t) = _; simp [rdVal, hq.out], rfl, hRF⟩⟩
theorem readVal_node_no (b : Nat) (sa : Option Addr) (cap : Nat) (bs t : List Nat)  (w : World) (hR : Rd w b sa cap bs (4 :: t)) (hq : Hid (rdCount 300 t = none)) :
  Calls Tryz.prog 147 #[.pointer (some ⟨b, 0, none⟩)] w (RVPost b sa cap bs (4 :: t) w) := by
 have hlt := hR.lt
 have hF0 := Four.new w ⟨0, 0, ⟨#[]⟩, 0⟩ 29
 go_enter Tryz.func147, Tryz.ntmps147
 go_wp2_with (first
  | (go_at_call 138; refine (readByte_any b sa cap bs (4 :: t) _ (hR.grow (gal (gre _) _))).mono ?_; rintro e w1 h1; obtain ⟨rfl, hR1, hK1⟩ := RPost.ok h1; have hF1 := hF0.kept hK1 (by omega); obtain ⟨az, a0, a1, a2, a3, af⟩ := id hF1; have hG := Four.new w1 ⟨4, 0, ⟨#[]⟩, 0⟩ 29; have hs1 := hK1.size; simp only [World.size_alloc] at hs1)
  | (go_at_call 146; refine (readCount_any b sa cap bs t 300 _ _ (hR1.grow (gal (gre _) _)) rfl (by omega)).mono ?_; rintro e w2 h2; rw [hq.out] at h2; obtain ⟨rfl, hK2⟩ := RPost.no h2))
 exact ⟨rfl, kk ((kk ((Kept.refl _ w).alloc _) hK1).alloc (.cells #[.int .i64 4, .int .i64 0, .string ⟨#[]⟩, .int .i64 0] 29)) hK2, Or.inr ⟨by show rdVal (4 :: t) = _; simp [rdVal, hq.out], rfl⟩⟩
theorem readVal_text (b : Nat) (sa : Option Addr) (cap : Nat) (bs t : List Nat) (n : Nat) (q : List Nat) (s : ByteArray) (q2 : List Nat) (w : World) (hR : Rd w b sa cap bs (3 :: t)) (hq : Hid (rdCount 1000 t = some (n, q))) (hn : n ≤ 1048576) (hq2 : Hid (rdText n q = some (s, q2))) :
  Calls Tryz.prog 147 #[.pointer (some ⟨b, 0, none⟩)] w (RVPost b sa cap bs (3 :: t) w) := by
 have hlt := hR.lt
 have hF0 := Four.new w ⟨0, 0, ⟨#[]⟩, 0⟩ 29
 go_enter Tryz.func147, Tryz.ntmps147
 go_wp2_with (first
  | (go_at_call 138; refine (readByte_any b sa cap bs (3 :: t) _ (hR.grow (gal (gre _) _))).mono ?_; rintro e w1 h1; obtain ⟨rfl, hR1, hK1⟩ := RPost.ok h1; have hF1 := hF0.kept hK1 (by omega); obtain ⟨az, a0, a1, a2, a3, af⟩ := id hF1; have hG := Four.new w1 ⟨3, 0, ⟨#[]⟩, 0⟩ 29; have hs1 := hK1.size; simp only [World.size_alloc] at hs1)
  | (go_at_call 146; refine (readCount_any b sa cap bs t 1000 _ _ (hR1.grow (gal (gre _) _)) rfl (by omega)).mono ?_; rintro e w2 h2; rw [hq.out] at h2; obtain ⟨rfl, hR2, hK2⟩ := RPost.ok h2; have hF2 := (hF1.alloc (.cells #[.int .i64 3, .int .i64 0, .string ⟨#[]⟩, .int .i64 0] 29)).kept hK2 (by omega); obtain ⟨bz, b0, b1, b2, b3, bf⟩ := id hF2; have hG2 := hG.kept hK2 (by omega); obtain ⟨gz, g0, g1, g2, g3, gf⟩ := id hG2; have hs2 := hK2.size; simp only [World.size_alloc] at hs2)
  | (go_at_call 145; refine (readText_any b sa cap bs q n _ _ hR2 rfl hn).mono ?_; rintro e w3 h3; rw [hq2.out] at h3; obtain ⟨rfl, hR3, hK3⟩ := RPost.ok h3; obtain ⟨iz, i0, i1, i2, i3, if_⟩ := hG2.kept hK3 (by omega); obtain ⟨cz, c0, c1, c2, c3, cf⟩ := hF2.kept hK3 (by omega); have hs3 := hK3.size))
 have hKX := kk (kk ((kk ((Kept.refl _ w).alloc _) hK1).alloc (.cells #[.int .i64 3, .int .i64 0, .string ⟨#[]⟩, .int .i64 0] 29)) hK2) hK3
 have hRX := (hR3).kept ((Kept.refl (fun k => k = w1.heap.size) w3).set (a := ⟨w1.heap.size, 2, none⟩) (fun _ => rfl) (.string s)) (fun k hk e => by omega)
 obtain ⟨hKF, hRF⟩ := fin4 hlt (hKX.set (a := ⟨w1.heap.size, 2, none⟩) (fun h => absurd h (by show ¬ w1.heap.size < _; omega)) (.string s)) hRX (.int .i64 3) (.int .i64 0) (.string s) (.int .i64 0)
 refine bodyPost_ret (v := (GV.mk 3 0 s 0).val) (by simp [results, Tryz.results147, go_sem, c0, c1, c2, c3]) rfl ?_
 exact ⟨hKF, Or.inl ⟨⟨3, 0, s, 0⟩, q2, by show rdVal (3 :: t) = _; simp [rdVal, hq.out, hq2.out], rfl, hRF⟩⟩
theorem readVal_text_no (b : Nat) (sa : Option Addr) (cap : Nat) (bs t : List Nat)  (w : World) (hR : Rd w b sa cap bs (3 :: t)) (hq : Hid (rdCount 1000 t = none)) :
  Calls Tryz.prog 147 #[.pointer (some ⟨b, 0, none⟩)] w (RVPost b sa cap bs (3 :: t) w) := by
 have hlt := hR.lt
 have hF0 := Four.new w ⟨0, 0, ⟨#[]⟩, 0⟩ 29
 go_enter Tryz.func147, Tryz.ntmps147
 go_wp2_with (first
  | (go_at_call 138; refine (readByte_any b sa cap bs (3 :: t) _ (hR.grow (gal (gre _) _))).mono ?_; rintro e w1 h1; obtain ⟨rfl, hR1, hK1⟩ := RPost.ok h1; have hF1 := hF0.kept hK1 (by omega); obtain ⟨az, a0, a1, a2, a3, af⟩ := id hF1; have hG := Four.new w1 ⟨3, 0, ⟨#[]⟩, 0⟩ 29; have hs1 := hK1.size; simp only [World.size_alloc] at hs1)
  | (go_at_call 146; refine (readCount_any b sa cap bs t 1000 _ _ (hR1.grow (gal (gre _) _)) rfl (by omega)).mono ?_; rintro e w2 h2; rw [hq.out] at h2; obtain ⟨rfl, hK2⟩ := RPost.no h2))
 exact ⟨rfl, kk ((kk ((Kept.refl _ w).alloc _) hK1).alloc (.cells #[.int .i64 3, .int .i64 0, .string ⟨#[]⟩, .int .i64 0] 29)) hK2, Or.inr ⟨by show rdVal (3 :: t) = _; simp [rdVal, hq.out], rfl⟩⟩
theorem readVal_text_no2 (b : Nat) (sa : Option Addr) (cap : Nat) (bs t : List Nat) (n : Nat) (q : List Nat) (w : World) (hR : Rd w b sa cap bs (3 :: t)) (hq : Hid (rdCount 1000 t = some (n, q))) (hn : n ≤ 1048576) (hq2 : Hid (rdText n q = none)) :
  Calls Tryz.prog 147 #[.pointer (some ⟨b, 0, none⟩)] w (RVPost b sa cap bs (3 :: t) w) := by
 have hlt := hR.lt
 have hF0 := Four.new w ⟨0, 0, ⟨#[]⟩, 0⟩ 29
 go_enter Tryz.func147, Tryz.ntmps147
 go_wp2_with (first
  | (go_at_call 138; refine (readByte_any b sa cap bs (3 :: t) _ (hR.grow (gal (gre _) _))).mono ?_; rintro e w1 h1; obtain ⟨rfl, hR1, hK1⟩ := RPost.ok h1; have hF1 := hF0.kept hK1 (by omega); obtain ⟨az, a0, a1, a2, a3, af⟩ := id hF1; have hG := Four.new w1 ⟨3, 0, ⟨#[]⟩, 0⟩ 29; have hs1 := hK1.size; simp only [World.size_alloc] at hs1)
  | (go_at_call 146; refine (readCount_any b sa cap bs t 1000 _ _ (hR1.grow (gal (gre _) _)) rfl (by omega)).mono ?_; rintro e w2 h2; rw [hq.out] at h2; obtain ⟨rfl, hR2, hK2⟩ := RPost.ok h2; have hF2 := (hF1.alloc (.cells #[.int .i64 3, .int .i64 0, .string ⟨#[]⟩, .int .i64 0] 29)).kept hK2 (by omega); obtain ⟨bz, b0, b1, b2, b3, bf⟩ := id hF2; have hG2 := hG.kept hK2 (by omega); obtain ⟨gz, g0, g1, g2, g3, gf⟩ := id hG2; have hs2 := hK2.size; simp only [World.size_alloc] at hs2)
  | (go_at_call 145; refine (readText_any b sa cap bs q n _ _ hR2 rfl hn).mono ?_; rintro e w3 h3; rw [hq2.out] at h3; obtain ⟨rfl, hK3⟩ := RPost.no h3))
 exact ⟨rfl, kk (kk ((kk ((Kept.refl _ w).alloc _) hK1).alloc (.cells #[.int .i64 3, .int .i64 0, .string ⟨#[]⟩, .int .i64 0] 29)) hK2) hK3, Or.inr ⟨by show rdVal (3 :: t) = _; simp [rdVal, hq.out, hq2.out], rfl⟩⟩
theorem readVal_other (b : Nat) (sa : Option Addr) (cap : Nat) (bs t : List Nat) (x : Nat) (w : World) (hR : Rd w b sa cap bs (x :: t)) (hx : 4 < x) :
  Calls Tryz.prog 147 #[.pointer (some ⟨b, 0, none⟩)] w (RVPost b sa cap bs (x :: t) w) := by
 have hlt := hR.lt
 have hx256 : x < 256 := (hR.head (x := x) (r' := t) rfl).1
 have hF0 := Four.new w ⟨0, 0, ⟨#[]⟩, 0⟩ 29
 have n0 : ((x : Int) == 0) = false := by simp; omega
 have n1 : ((x : Int) == 1) = false := by simp; omega
 have n2 : ((x : Int) == 2) = false := by simp; omega
 have n3 : ((x : Int) == 3) = false := by simp; omega
 have n4 : ((x : Int) == 4) = false := by simp; omega
 go_enter Tryz.func147, Tryz.ntmps147
 go_wp2_with (go_at_call 138; refine (readByte_any b sa cap bs (x :: t) _ (hR.grow (gal (gre _) _))).mono ?_; rintro e w1 h1; obtain ⟨rfl, hR1, hK1⟩ := RPost.ok h1)
 exact ⟨rfl, (kk ((Kept.refl _ w).alloc _) hK1).alloc _, Or.inr ⟨by show rdVal (x :: t) = _; unfold rdVal; dsimp only; rw [if_neg (by omega), if_neg (by omega), if_neg (by omega), if_neg (by omega), if_neg (by omega)], rfl⟩⟩
theorem readVal_none (b : Nat) (sa : Option Addr) (cap : Nat) (bs : List Nat) (w : World) (hR : Rd w b sa cap bs []) :
  Calls Tryz.prog 147 #[.pointer (some ⟨b, 0, none⟩)] w (RVPost b sa cap bs [] w) := by
 go_enter Tryz.func147, Tryz.ntmps147
 go_wp2_with (go_at_call 138; refine (readByte_any b sa cap bs [] _ (hR.grow (gal (gre _) _))).mono ?_; rintro e w1 h1; obtain ⟨rfl, hK1⟩ := RPost.no h1)
 exact ⟨rfl, kk ((Kept.refl _ w).alloc _) hK1, Or.inr ⟨rfl, rfl⟩⟩
theorem readVal_any (b : Nat) (sa : Option Addr) (cap : Nat) (bs r : List Nat) (w : World) (hR : Rd w b sa cap bs r) :
  Calls Tryz.prog 147 #[.pointer (some ⟨b, 0, none⟩)] w (RVPost b sa cap bs r w) := by
 cases r with
 | nil => exact readVal_none b sa cap bs w hR
 | cons x t =>
  by_cases h0 : x = 0
  · subst h0; exact readVal_nil b sa cap bs t w hR
  by_cases h1 : x = 1
  ·
   subst h1
   cases hq : rdNum 0 0 t with
   | none => exact readVal_num_no b sa cap bs t w hR hq
   | some y => exact readVal_num b sa cap bs t y.1 y.2 w hR hq
  by_cases h2 : x = 2
  ·
   subst h2
   cases hq : rdLow 8 0 0 t with
   | none => exact readVal_bits_no b sa cap bs t w hR hq
   | some y => exact readVal_bits b sa cap bs t y.1 y.2 w hR hq
  by_cases h3 : x = 3
  ·
   subst h3
   cases hq : rdCount 1000 t with
   | none => exact readVal_text_no b sa cap bs t w hR hq
   | some y =>
    have hn : y.1 ≤ 1048576 := by have := rdCount_le (n := y.1) (q := y.2) hq; omega
    cases hq2 : rdText y.1 y.2 with
    | none => exact readVal_text_no2 b sa cap bs t y.1 y.2 w hR hq hn hq2
    | some z => exact readVal_text b sa cap bs t y.1 y.2 z.1 z.2 w hR hq hn hq2
  by_cases h4 : x = 4
  ·
   subst h4
   cases hq : rdCount 300 t with
   | none => exact readVal_node_no b sa cap bs t w hR hq
   | some y => exact readVal_node b sa cap bs t y.1 y.2 w hR hq
  exact readVal_other b sa cap bs t x w hR (by omega)
structure NState (w : World) (b : Nat) (sa : Option Addr) (cap : Nat) (bs : List Nat) (tag : Int) (X : Nat) (ws : World) (q : List Nat) (va : Option Addr) (vc : Nat) (vs : List GV) : Prop where
 kept : Kept (fun k => k = b) w ws
 blk : b < w.heap.size ∧ w.heap.size < X ∧ X < ws.heap.size
 res : Two ws w.heap.size 0 (.slice none 0 0)
 x : Two ws X tag (.slice va vs.length vc)
 rd : Rd ws b sa cap bs q
 vals : ws.ownsRow (X + 1) 29 4 (.slice va vs.length vc) vs.length (valCells vs)
theorem NState.step {w : World} {b : Nat} {sa : Option Addr} {cap : Nat} {bs : List Nat} {tag : Int} {X : Nat} {ws : World} {q : List Nat} {va : Option Addr} {vc : Nat} {vs : List GV} (h : NState w b sa cap bs tag X ws q va vc vs) {v : GV} {w1 w3 : World} {q1 : List Nat} {gg cc : Nat} {o : Obj}
  (hR1 : Rd w1 b sa cap bs q1) (hK1 : Kept (fun k => k = b) ws w1)
  (hown : w3.ownsRow (X + 1) 29 4 (.slice (some ⟨gg, 0, none⟩) (vs.length + 1) cc) (vs.length + 1) (valCells vs ++ v.four))
  (hgrow : (w1.alloc o).grownBy w3 (Value.slice va vs.length vc).ownBlock) :
  NState w b sa cap bs tag X (w3.setCell ⟨X, 1, none⟩ (.slice (some ⟨gg, 0, none⟩) (vs.length + 1) cc)) q1 (some ⟨gg, 0, none⟩) cc (vs ++ [v]) := by
 obtain ⟨b1, b2, b3⟩ := h.blk
 have hs1 := hK1.size
 have hA : Kept (fun _ => False) w1 (w1.alloc o) := (Kept.refl _ w1).alloc _
 have hG := Kept.of_grown hgrow
 have hs3 : w1.heap.size + 1 ≤ w3.heap.size := by have := hgrow.size; simpa using this
 have hC := (Kept.refl (fun k => k = X) w3).set (a := ⟨X, 1, none⟩) (fun _ => rfl) (.slice (some ⟨gg, 0, none⟩) (vs.length + 1) cc)
 have hvb : ∀ k, (Value.slice va vs.length vc).ownBlock = some k → X + 1 ≤ k ∧ k < ws.heap.size := fun k hk => h.vals.lt k hk
 have hsz := h.kept.size
 exact {
  kept := (((h.kept.trans hK1 (fun _ _ e => e)).trans hA (fun _ _ e => e.elim)).trans hG (fun k hk hp => by have := hvb k hp; omega)).trans hC (fun k hk hp => by omega)
  blk := ⟨b1, b2, by have := hC.size; omega⟩
  res := (((h.res.kept hK1 (by omega)).kept hA (fun e => e)).kept hG (fun hp => by have := hvb _ hp; omega)).kept hC (by omega)
  x := by
   have h1 := ((h.x.kept hK1 (by omega)).kept hA (fun e => e)).kept hG (fun hp => by have := hvb _ hp; omega)
   simpa using h1.set (s' := .slice (some ⟨gg, 0, none⟩) (vs.length + 1) cc)
  rd := ((hR1.kept hA (fun _ _ e => e)).kept hG (fun k hk hp => by have := hvb k hp; omega)).kept hC (fun k hk hp => by omega)
  vals := by
   have h1 := hC.owns hown (fun k hk hp => by have := (hown.lt k hk).1; omega)
   simpa [valCells_snoc, GV.four] using h1 }
def RvInv (m : Nat) (r : List Nat) (j : Nat) (vs : List GV) (q : List Nat) : Prop := rdVals m r = (rdVals (m - j) q).map fun y => (vs ++ y.1, y.2)
theorem RvInv.start (m : Nat) (r : List Nat) : RvInv m r 0 [] r := by
 unfold RvInv
 rw [Nat.sub_zero]
 cases rdVals m r <;> simp
theorem RvInv.next {m j : Nat} {r q q1 : List Nat} {vs : List GV} {v : GV} (h : RvInv m r j vs q) (hj : j < m) (hv : rdVal q = some (v, q1)) : RvInv m r (j + 1) (vs ++ [v]) q1 := by
 unfold RvInv at h ⊢
 rw [h, show m - j = (m - (j + 1)) + 1 by omega, rdVals, hv]
 simp only [Option.bind_some, Option.map_map]
 congr 1
 funext y
 simp
theorem RvInv.none' {m j : Nat} {r q : List Nat} {vs : List GV} (h : RvInv m r j vs q) (hj : j < m) (hv : rdVal q = none) : rdVals m r = none := by
 unfold RvInv at h
 rw [h, show m - j = (m - (j + 1)) + 1 by omega, rdVals, hv]
 rfl
theorem RvInv.done {m : Nat} {r q : List Nat} {vs : List GV} (h : RvInv m r m vs q) : rdVals m r = some (vs, q) := by
 unfold RvInv at h
 rw [h, Nat.sub_self]
 simp [rdVals]
def NRPost (b : Nat) (sa : Option Addr) (cap : Nat) (bs r : List Nat) (w : World) (e : Ending) (w' : World) : Prop :=
 Kept (fun k => k = b) w w' ∧ ((∃ n q va vc, Hid (rdNode r = some (n, q)) ∧ e = .returned (nodeVal n va vc) ∧ w'.ownsRow w.heap.size 29 4 (.slice va n.vals.length vc) n.vals.length (valCells n.vals) ∧ Rd w' b sa cap bs q) ∨ (Hid (rdNode r = none) ∧ e = .panicked [haltP]))
theorem readNode_any (b : Nat) (sa : Option Addr) (cap : Nat) (bs r : List Nat) (w : World) (hR : Rd w b sa cap bs r) :
  Calls Tryz.prog 148 #[.pointer (some ⟨b, 0, none⟩)] w (NRPost b sa cap bs r w) := by
 obtain ⟨j0, hj, hy0, hy1, hy2⟩ := info_parts info_implVal
 have hlt := hR.lt
 have hT0 := Two.new_at w 0 (.slice none 0 0) 37 w.heap.size rfl
 cases ht : rdCount 1000 r with
 | none =>
  have ht' : Hid _ := ht
  go_enter Tryz.func148, Tryz.ntmps148
  go_wp2_with (go_at_call 146; refine (readCount_any b sa cap bs r 1000 _ _ (hR.grow (gal (gre _) _)) rfl (by omega)).mono ?_; rintro e w1 h1; rw [ht'.out] at h1; obtain ⟨rfl, hK1⟩ := RPost.no h1)
  exact ⟨rfl, kk ((Kept.refl _ w).alloc _) hK1, Or.inr ⟨by show rdNode r = none; unfold rdNode; rw [ht]; rfl, rfl⟩⟩
 | some y =>
  obtain ⟨tg, r1⟩ := y
  have ht' : Hid _ := ht
  cases hm : rdCount 100 r1 with
  | none =>
   have hm' : Hid _ := hm
   go_enter Tryz.func148, Tryz.ntmps148
   go_wp2_with (first
    | (go_at_call 146; refine (readCount_any b sa cap bs r1 100 _ _ (hR1.grow (gal (gre _) _)) rfl (by omega)).mono ?_; rintro e w2 h2; rw [hm'.out] at h2; obtain ⟨rfl, hK2⟩ := RPost.no h2)
    | (go_at_call 146; refine (readCount_any b sa cap bs r 1000 _ _ (hR.grow (gal (gre _) _)) rfl (by omega)).mono ?_; rintro e w1 h1; rw [ht'.out] at h1; obtain ⟨rfl, hR1, hK1⟩ := RPost.ok h1))
   exact ⟨rfl, kk ((kk ((Kept.refl _ w).alloc _) hK1).alloc _) hK2, Or.inr ⟨by show rdNode r = none; unfold rdNode; rw [ht]; simp [hm], rfl⟩⟩
  | some y =>
   obtain ⟨m, r2⟩ := y
   have hm' : Hid _ := hm
   have hml := rdCount_le hm
   have hnode : Hid (rdNode r = (rdVals m r2).map fun y => (⟨(tg : Int), y.1⟩, y.2)) := by show rdNode r = _; unfold rdNode; rw [ht]; simp [hm]
   go_enter Tryz.func148, Tryz.ntmps148
   go_wp2_with (first
    | (go_at_call 146; refine (readCount_any b sa cap bs r1 100 _ _ (hR1.grow (gal (gre _) _)) rfl (by omega)).mono ?_; rintro e w2 h2; rw [hm'.out] at h2; obtain ⟨rfl, hR2, hK2⟩ := RPost.ok h2)
    | (go_at_call 146; refine (readCount_any b sa cap bs r 1000 _ _ (hR.grow (gal (gre _) _)) rfl (by omega)).mono ?_; rintro e w1 h1; rw [ht'.out] at h1; obtain ⟨rfl, hR1, hK1⟩ := RPost.ok h1))
   have hs1 : w.heap.size + 1 ≤ w1.heap.size := by have := hK1.size; simpa using this
   have hs2 : w1.heap.size + 1 ≤ w2.heap.size := by have := hK2.size; simpa using this
   have hD0 : NState w b sa cap bs (tg : Int) w1.heap.size w2 r2 none 0 [] :=
    ⟨kk ((kk ((Kept.refl _ w).alloc _) hK1).alloc _) hK2, ⟨hlt, by omega, by omega⟩, ((hT0.kept hK1 (by omega)).kept ((Kept.refl (fun _ => False) w1).alloc _) (fun e => e)).kept hK2 (by omega), (Two.new_at w1 tg (.slice none 0 0) 37 w1.heap.size rfl).kept hK2 (by omega), hR2, World.ownsRow_nil _ _ _ _⟩
   generalize w1.heap.size = X at hD0 ⊢
   clear hK1 hK2 hs1 hs2 hR1 hR2 hT0
   go_loopw [9] (fun i ws => ∃ (j : Nat) (q : List Nat) (va : Option Addr) (vc : Nat) (vs : List GV), i = .int .i64 j ∧ j ≤ m ∧ Hid (vs.length = j) ∧ Hid (RvInv m r2 j vs q) ∧ NState w b sa cap bs (tg : Int) X ws q va vc vs) (fun i _ => m - (intOf i).toNat)
   case atStart => exact ⟨0, r2, none, 0, [], rfl, Nat.zero_le _, rfl, RvInv.start m r2, hD0⟩
   case round =>
    obtain ⟨j, q, va, vc, vs, rfl, hjm, hvl, hinv, hD⟩ := hrel
    obtain ⟨k1, k2, k3⟩ := hD.blk
    by_cases hjl : j < m
    ·
     have hd : (j : Int) < (m : Int) := by omega
     obtain ⟨xz, x0, x1, xf, _⟩ := hD.x
     go_wp2
     refine wp_regionU (fun u => u.cell? ⟨X, 1, none⟩ = some (.slice va vs.length vc)) 7 (by kernel_rfl) x1 (fun hS0 => ?_)
     refine anyU_tk (i := 0) rfl hS0 (fun u hSu => by (try dsimp only at hSu); go_simp <;> with_reducible rfl) ?_
     refine anyU_tk (i := 1) rfl hS0 (fun u hSu => by (try dsimp only at hSu); go_simp <;> with_reducible rfl) ?_
     refine anyU_tk (i := 2) rfl hS0 (fun u hSu => by (try dsimp only at hSu); go_simp <;> with_reducible rfl) ?_
     simp only [Act.put, List.getElem_toArray, List.getElem_cons_zero, List.getElem_cons_succ, List.setIfInBounds_toArray, List.set_cons_zero, List.set_cons_succ]
     refine anyU_one (i := 3) (by kernel_rfl) rfl (fun K hK => ?_)
     go_simp
     refine (readVal_any b sa cap bs q _ (hD.rd.grow (gdr (gre _)))).mono ?_
     rintro e w1 ⟨hK1, ⟨v, q1, hv, rfl, hR1⟩ | ⟨hno, rfl⟩⟩
     ·
      have hKw : Kept (fun k => k = b) wr w1 := kk ((Kept.refl (fun k => k = b) wr).drew) hK1
      have hS1 := hKw.cell x1 (by omega)
      have hX1 : Two w1 X tg (.slice va vs.length vc) := hD.x.kept hKw (by omega)
      have hv1 : Hid _ := hKw.owns hD.vals (fun k hk hp => by have := (hD.vals.lt k hk).1; omega)
      have hsw := hKw.size
      refine hK.out _ _ hS1 ?_
      clear hK
      have hS2' : Hid ((w1.alloc (.cells #[.int .i64 v.kind, .int .i64 v.num, .string v.text, .int .i64 v.node] 29)).cell? ⟨X, 1, none⟩ = some (.slice va vs.length vc)) := ((Kept.refl (fun _ => False) w1).alloc _).cell hS1 (fun e => e)
      refine anyU_one (i := 4) (by kernel_rfl) rfl (fun K hK => ?_)
      go_simp
      refine hK.out _ _ hS2'.out ?_
      clear hK
      refine anyU_one (i := 5) (by kernel_rfl) rfl (fun K hK => ?_)
      refine step_append_lies _ (by rfl) (.tmp 12) (.tmp 15) 35 rfl (X + 1) 29 j0 _ 4 40 Tryz.underlying35 hj hy0 hy1 hy2 rfl (by decide) (.slice va vs.length vc) vs.length (valCells vs) (by rfl) (World.ownsRow.alloc hv1.out _) ⟨w1.heap.size, 0, none⟩ 1 1 v.four (by rfl) rfl (World.news_of_block (cs := #[.int .i64 v.kind, .int .i64 v.num, .string v.text, .int .i64 v.node]) (t := 29) (fr := (0, 0)) (blk_new_at _ _ _ rfl)) (by simp [GV.four, Value.oneCell']) (by decide) (by have h7 := hvl.out; unfold maxLen; omega) (by have h7 := hvl.out; omega) (by simp; omega) (w1.heap.size + 1) (by simp) ?_
      intro gg cc w3 hown3 hgrow3 hat3 hlt3
      have hX3 := (hX1.kept ((Kept.refl (fun _ => False) w1).alloc _) (fun e => e)).kept (Kept.of_grown hgrow3) (fun hp => by have := (hD.vals.lt _ hp).1; omega)
      obtain ⟨yz, y0, y1, yf, _⟩ := id hX3
      refine hK.out _ _ y1 ?_
      clear hK
      simp only [Act.put, List.getElem_toArray, List.getElem_cons_zero, List.getElem_cons_succ, List.setIfInBounds_toArray, List.set_cons_zero, List.set_cons_succ]
      refine anyU_one (i := 6) (by kernel_rfl) rfl (fun K hK => ?_)
      go_simp
      refine hK.out _ _ y1 ?_
      clear hK
      refine anyU_last (by kernel_rfl) rfl (by kernel_rfl) (fun K hK => ?_)
      go_simp
      refine hK.out _ _ ?_
      clear hK
      have hfin := hD.step hR1 hKw hown3 hgrow3
      have hinv2 : Hid (RvInv m r2 (j + 1) (vs ++ [v]) q1) := hinv.out.next hjl hv.out
      go_wp2
      go_roundw
      case rel => exact ⟨j + 1, q1, some ⟨gg, 0, none⟩, cc, vs ++ [v], by go_num, by omega, by have := hvl.out; show (vs ++ [v]).length = j + 1; simp [this], hinv2, hfin⟩
      case measure => simp [intOf]; omega
     ·
      refine ⟨rfl, kk hD.kept (kk ((Kept.refl (fun k => k = b) wr).drew) hK1), Or.inr ⟨?_, rfl⟩⟩
      show rdNode r = none
      rw [hnode.out, hinv.out.none' hjl hno.out]; rfl
    ·
     obtain rfl : j = m := by omega
     have hd : ¬ ((j : Int) < (j : Int)) := by omega
     have hdone : Hid (rdNode r = some (⟨(tg : Int), vs⟩, q)) := by show rdNode r = _; rw [hnode.out, hinv.out.done]; rfl
     obtain ⟨xz, x0, x1, xf, _⟩ := hD.x
     obtain ⟨rz, r0, r1', rf, _⟩ := hD.res
     have hC : Kept (fun k => k = w.heap.size) wr ((wr.setCell ⟨w.heap.size, 0, none⟩ (.int .i64 (tg : Int))).setCell ⟨w.heap.size, 1, none⟩ (.slice va vs.length vc)) := ((Kept.refl (fun k => k = w.heap.size) wr).set (fun _ => rfl) _).set (fun _ => rfl) _
     have hkept := hD.kept.trans hC (fun k hk hp => by omega)
     have hvals := hC.owns (owns_le hD.vals (show w.heap.size ≤ X + 1 by omega)) (fun k hk hp => by have := (hD.vals.lt k hk).1; omega)
     have hrd := hD.rd.kept hC (fun k hk hp => by omega)
     go_wp2
     refine bodyPost_ret (v := .agg #[.int .i64 (tg : Int), .slice va vs.length vc]) (by simp [results, Tryz.results148, go_sem, r0, r1']) rfl ⟨hkept, Or.inl ⟨⟨(tg : Int), vs⟩, q, va, vc, hdone, rfl, hvals, hrd⟩⟩
end Go.Proofs.YtmdpmdmilgbfiaaGreatDoor
