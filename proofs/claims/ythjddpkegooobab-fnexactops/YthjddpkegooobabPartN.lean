import Derived.OrdersIn
import Derived.RangeFuncNested
import Derived.RangeFuncBound
import Derived.RangeFuncCalls
import Derived.RangeFuncLeaves
import Derived.Shelf.Abstract
import Derived.Shelf.RegionOpen
import Derived.WalkKit
import Derived.OwnWalkIn
import Derived.TacticsInMore
import Derived.LoopNIn
import Derived.LoopIn
import Derived.RangeFuncBox
import Derived.Laws.CopyRow
import Derived.Test.YthjddpkegooobabPartM

/-
  SOPS2: the specification's Ops. Own work.
-/
namespace Go.Proofs.Ythjddpkegooobab
open Go.RowKit

theorem ops_no {d : DD} {im : List Nat} (h : d.ok = false ∨ d.waiting ≠ [] ∨ im = [] ∨ 4096 < im.length) : d.ops im = [] := if_neg (fun ⟨h1, h2, h3, h4⟩ => by
  rcases h with e | e | e | e
  · rw [h1] at e; cases e
  · exact e h2
  · exact h3 e
  · omega)

set_option maxHeartbeats 2000000 in
set_option maxRecDepth 100000 in
theorem specOps_any (d : DD) (l : DL) (ia : Option Addr) (im : List Nat) (ic : Nat) (w : World) (hd : d.Ok) (ha : DAt w l d) (hia : BytesAt w ia im) (hib : ∀ x, x ∈ im → x < 256) (hil : im.length ≤ 1048576) :
    Calls Try.prog 61 #[d.val l, .slice ia im.length ic] w (OAns (d.ops im) w) := by
  have hX0 := DBox.new w d l 50
  have hA0 := gal (gre w) (.cells #[.slice l.ba d.blocks.length l.bc, .slice l.wa d.waiting.length l.wc] 50)
  obtain ⟨n2, hn2⟩ := hid_ex d.waiting.length
  cases hok : d.ok with
  | false =>
    have hok' : Hid _ := hok
    rw [ops_no (Or.inl hok)]
    clear hok
    go_enter Try.func61, Try.ntmps61
    go_wp2_with (go_at_call 36; refine (calls_argsS (specDiskOk_any d l _ hd (ha.grow hA0)) rfl).mono ?_; rw [hok'.out]; rintro e w1 ⟨rfl, hb1⟩; obtain ⟨_, y0, y1⟩ := hX0.grow hb1; skip)
    go_ret
    exact OAns.no (gca hA0 hb1)
  | true =>
    have hok' : Hid _ := hok
    by_cases hw0 : n2 = 0
    · have hwn : Hid (d.waiting = []) := by show _ = _; exact List.eq_nil_of_length_eq_zero (by rw [← hn2.out]; exact hw0)
      have hwl : Hid (d.waiting.length = 0) := by show _ = _; rw [← hn2.out]; exact hw0
      rw [show d.val l = .agg #[.slice l.ba d.blocks.length l.bc, .slice l.wa 0 l.wc] by simp only [DD.val, hwl.out]]
      rw [hwl.out] at hX0 hA0
      by_cases him : im = []
      · rw [ops_no (Or.inr (Or.inr (Or.inl him)))]
        subst him
        clear hok
        go_enter Try.func61, Try.ntmps61
        go_wp2_with (go_at_call 36; refine (calls_argsS (specDiskOk_any d l _ hd (ha.grow hA0)) (by simp only [DD.val, hwl.out])).mono ?_; rw [hok'.out]; rintro e w1 ⟨rfl, hb1⟩; obtain ⟨_, y0, y1⟩ := hX0.grow hb1; rw [hwl.out] at y1)
        go_ret
        exact OAns.no (gca hA0 hb1)
      · have hm0 : im.length ≠ 0 := fun e => him (List.eq_nil_of_length_eq_zero e)
        have hm1 : ((im.length : Int) == 0) = false := by simp [him]
        by_cases hm4 : 4096 < im.length
        · have hm5 : (4096 : Int) < (im.length : Int) := by omega
          rw [ops_no (Or.inr (Or.inr (Or.inr hm4)))]
          clear hok
          go_enter Try.func61, Try.ntmps61
          go_wp2_with (go_at_call 36; refine (calls_argsS (specDiskOk_any d l _ hd (ha.grow hA0)) (by simp only [DD.val, hwl.out])).mono ?_; rw [hok'.out]; rintro e w1 ⟨rfl, hb1⟩; obtain ⟨_, y0, y1⟩ := hX0.grow hb1; rw [hwl.out] at y1)
          go_ret
          exact OAns.no (gca hA0 hb1)
        · have hm5 : ¬ ((4096 : Int) < (im.length : Int)) := by omega
          have hLe : d.ops im = d.lay im := if_pos ⟨hok, hwn.out, him, by omega⟩
          have hf := DD.fit hok
          rw [hLe]
          clear hok hLe
          go_enter Try.func61, Try.ntmps61
          go_wp2_with (first
            | (go_at_call 36; refine (calls_argsS (specDiskOk_any d l _ hd (ha.grow hA0)) (by simp only [DD.val, hwl.out])).mono ?_; rw [hok'.out]; rintro e w1 ⟨rfl, hb1⟩; obtain ⟨_, y0, y1⟩ := hX0.grow hb1; rw [hwl.out] at y1)
            | (go_at_call 121; refine (calls_argsS (l4ops_any d l ia im ic _ hf hd (ha.grow (gca hA0 hb1)) (hia.grow (gca hA0 hb1)) hib (by omega)) (by simp only [DD.val, hwl.out])).mono ?_; rintro e w9 ⟨oa, oc, lo, rfl, hlo, hSO, hb9⟩))
          go_ret
          exact ⟨oa, oc, lo, rfl, hlo, hSO.le (gca hA0 hb1).size, gca (gca hA0 hb1) hb9⟩
    · have hw1 : (0 : Int) < (n2 : Int) := by omega
      rw [ops_no (Or.inr (Or.inl (fun e => hw0 (by rw [hn2.out, e]; rfl))))]
      rw [show d.val l = .agg #[.slice l.ba d.blocks.length l.bc, .slice l.wa n2 l.wc] by simp only [DD.val, hn2.out]]
      rw [← hn2.out] at hX0 hA0
      clear hok hw0
      go_enter Try.func61, Try.ntmps61
      go_wp2_with (go_at_call 36; refine (calls_argsS (specDiskOk_any d l _ hd (ha.grow hA0)) (by simp only [DD.val, hn2.out])).mono ?_; rw [hok'.out]; rintro e w1 ⟨rfl, hb1⟩; obtain ⟨_, y0, y1⟩ := hX0.grow hb1; rw [← hn2.out] at y1)
      go_ret
      exact OAns.no (gca hA0 hb1)

end Go.Proofs.Ythjddpkegooobab

/-
  REGIONJ: a region that draws its order, by what holds of what has come up (J): one step an operation, whatever the order. Own work, over the library's own laws on orders.
-/
namespace Go.Proofs.Ythjddpkegooobab
open Go.RowKit

section
variable {P : Program} {ops : Array Oper} {Q : Exit → Act → World → Prop} {md : Region.Mode}

/-- every operation waits for earlier ones alone -/
def backB (ops : Array Oper) : Bool := (List.range ops.size).all fun i => match ops[i]? with
  | some o => o.after.all fun e => decide (e.on < i)
  | none => true
/-- these are among those that it waits for -/
def predsB (md : Region.Mode) (o : Oper) (ps : List Nat) : Bool := ps.all fun k => o.after.any fun e => Region.binds md e && e.on == k

theorem backB_of (h : backB ops = true) {i : Nat} {o : Oper} (ho : ops[i]? = some o) : ∀ e ∈ o.after, e.on < i := fun e he => by
  have hlt : i < ops.size := (Array.getElem?_eq_some_iff.1 ho).1
  unfold backB at h
  have h2 := List.all_eq_true.1 h i (List.mem_range.2 hlt)
  rw [ho] at h2
  simpa using (Array.all_eq_true_iff_forall_mem.1 h2) e he
theorem all_of_none (hb : backB ops = true) {listed : Array Bool} (hn : listed.size = ops.size) (h : Region.ready md ops listed = []) : ∀ m i, i < m → i < ops.size → listed.getD i false = true
  | 0, i, hi, _ => absurd hi (Nat.not_lt_zero _)
  | m + 1, i, hi, hs => by
    by_cases e : i < m
    · exact all_of_none hb hn h m i e hs
    obtain ⟨o, ho⟩ : ∃ o, ops[i]? = some o := ⟨ops[i], Array.getElem?_eq_getElem hs⟩
    cases hl : listed.getD i false with
    | true => rfl
    | false =>
      have h1 : i ∈ Region.ready md ops listed := mem_ready.2 ⟨by simp [Array.getD, hn, hs] at hl ⊢; exact hl, o, ho, fun e' he _ => by
        have := backB_of hb ho e' he
        exact all_of_none hb hn h m e'.on (by omega) (by omega)⟩
      rw [h] at h1
      cases h1

/-- what one operation owes -/
def StepJ (P : Program) (ops : Array Oper) (Q : Exit → Act → World → Prop) (J : (Nat → Prop) → Act → World → Prop) (i : Nat) (o : Oper) (ps : List Nat) : Prop :=
  ∀ (D : Nat → Prop) (a : Act) (w : World), (∀ k, k ∈ ps → D k) → ¬ D i → J D a w → ∀ K : Act → World → Prop, Shut (∀ a' w', J (fun j => j = i ∨ D j) a' w' → K a' w') → if Region.wanted o (yielded ops a.tmps) = true then Oper.wp P o a w K Q else K (a.put o.dst undef) w

theorem count_set_false {l : Array Bool} {i : Nat} (h : i < l.size) (hf : l.getD i true = false) : (l.setIfInBounds i true).toList.count false + 1 = l.toList.count false := by
  have h1 : l[i] = false := by simpa [Array.getD, h] using hf
  have h2 : l.toList.count false ≠ 0 := fun e => by
    have := List.count_eq_zero.1 e
    exact this (by rw [← h1]; exact Array.getElem_mem_toList h)
  have e1 : l.toList[i]'(by simpa using h) = false := by simpa using h1
  rw [Array.toList_setIfInBounds, List.count_set (by simpa using h), e1]
  simp only [beq_self_eq_true, if_true, show (true == false) = false from rfl, Bool.false_eq_true, if_false]
  omega

theorem wpAny_inv (J : (Nat → Prop) → Act → World → Prop) (hb : backB ops = true)
    (hstep : ∀ i, i < ops.size → ∃ o ps, ops[i]? = some o ∧ predsB md o ps = true ∧ StepJ P ops Q J i o ps)
    (hend : ∀ a w, J (fun i => i < ops.size) a w → Q .normal a w) :
    ∀ (fuel : Nat) (listed : Array Bool) (a : Act) (w : World), listed.size = ops.size → listed.toList.count false ≤ fuel → J (fun i => listed.getD i false = true) a w → wpAny P md ops Q fuel listed a w := by
  have hall : ∀ (listed : Array Bool) (a : Act) (w : World), listed.size = ops.size → Region.ready md ops listed = [] → J (fun i => listed.getD i false = true) a w → Q .normal a w := fun listed a w hn hr hJ => by
    refine hend a w ?_
    have e : (fun i => listed.getD i false = true) = (fun i => i < ops.size) := funext fun i => propext ⟨fun h => by
      rcases Nat.lt_or_ge i listed.size with h' | h'
      · omega
      · simp [Array.getD, Nat.not_lt.2 h'] at h, fun h => all_of_none hb hn hr (i + 1) i (Nat.lt_succ_self _) h⟩
    rw [← e]; exact hJ
  intro fuel
  induction fuel with
  | zero =>
    intro listed a w hn hc hJ
    have hr : Region.ready md ops listed = [] := by
      cases hr : Region.ready md ops listed with
      | nil => rfl
      | cons x xs =>
        have hx : x ∈ Region.ready md ops listed := by rw [hr]; exact List.mem_cons_self ..
        obtain ⟨h1, o, ho, _⟩ := mem_ready.1 hx
        have hlt : x < ops.size := (Array.getElem?_eq_some_iff.1 ho).1
        have := count_set_false (by omega) h1
        omega
    exact ⟨hr, hall listed a w hn hr hJ⟩
  | succ fuel ih =>
    intro listed a w hn hc hJ
    refine ⟨fun hr => hall listed a w hn hr hJ, fun i hi => ?_⟩
    obtain ⟨h1, o, ho, hp⟩ := mem_ready.1 hi
    have hlt : i < ops.size := (Array.getElem?_eq_some_iff.1 ho).1
    obtain ⟨o', ps, ho', hps, hst⟩ := hstep i hlt
    rw [ho] at ho'
    obtain rfl := Option.some.inj ho'
    have hcs := count_set_false (l := listed) (i := i) (by omega) h1
    refine wpOp_step ho (fun K' hK => hst _ a w (fun k hk => ?_) (fun hD => ?_) hJ K' (fun a' w' hJ' => hK a' w' ?_))
    · obtain ⟨e, he, hb2⟩ := Array.any_eq_true'.1 (List.all_eq_true.1 hps k hk)
      simp only [Bool.and_eq_true, beq_iff_eq] at hb2
      have := hp e he hb2.1
      rw [hb2.2] at this
      exact this
    · simp [Array.getD, hn, hlt] at h1 hD
      rw [h1] at hD
      cases hD
    · refine ih _ a' w' (by simpa using hn) (by omega) ?_
      have e : (fun j => (listed.setIfInBounds i true).getD j false = true) = (fun j => j = i ∨ listed.getD j false = true) := funext fun j => propext (by
        by_cases e : j = i
        · subst e
          simp [Array.getD, hn, hlt]
        · rw [getD_set_ne false (Ne.symm e)]
          simp [e])
      rw [e]; exact hJ'

theorem wp_regionJ {id : Nat} {a : Act} {w : World} (J : (Nat → Prop) → Act → World → Prop) (hm : P.follows .mixedOrders = true) (hb : backB ops = true) (h0 : J (fun _ => False) a w.drew)
    (hend : ∀ a w, J (fun i => i < ops.size) a w → Q .normal a w)
    (hstep : ∀ i, i < ops.size → ∃ o ps, ops[i]? = some o ∧ predsB .any o ps = true ∧ StepJ P ops Q J i o ps) : (Code.region id ops true).wp P Q a w := by
  refine wp_region_any hm (wpAny_inv J hb hstep hend ops.size _ a _ (by simp) (by simp) ?_)
  have e : (fun i => (Array.replicate ops.size false).getD i false = true) = (fun _ => False) := funext fun i => propext (by
    by_cases h : i < ops.size
    · simp [Array.getD, h]
    · simp [Array.getD, h])
  rw [e]; exact h0

end
end Go.Proofs.Ythjddpkegooobab

/-
  REGIONJN: the same inside a fence: a region that draws its order, by what holds of what has come up. Own work, over the library's own laws on orders.
-/
namespace Go.Proofs.Ythjddpkegooobab
open Go.RowKit

section
variable {F : Fence} {n : Nat} {P : Program} {ops : Array Oper} {Q : Exit → Act → World → Prop} 

/-- one waits for another -/
def edgeB (md : Region.Mode) (ops : Array Oper) (j k : Nat) : Bool := match ops[j]? with
  | some o => o.after.any fun e => Region.binds md e && e.on == k
  | none => false
/-- what one operation owes -/
def StepJN (F : Fence) (n : Nat) (P : Program) (ops : Array Oper) (Q : Exit → Act → World → Prop) (J : (Nat → Prop) → Act → World → Prop) (i : Nat) (o : Oper) (ps : List Nat) : Prop :=
  ∀ (D : Nat → Prop) (a : Act) (w : World), (∀ j k, D j → edgeB .any ops j k = true → D k) → (∀ k, k ∈ ps → D k) → ¬ D i → J D a w → ∀ K : Act → World → Prop, Shut (∀ a' w', J (fun j => j = i ∨ D j) a' w' → K a' w') → if Region.wanted o (yielded ops a.tmps) = true then Oper.wpIn F n P o a w K Q else (∀ f, o.about P w a.eval = some f → F.fn f) ∧ K (a.put o.dst undef) w

theorem wpAnyIn_inv (J : (Nat → Prop) → Act → World → Prop) (hb : backB ops = true)
    (hstep : ∀ i, i < ops.size → ∃ o ps, ops[i]? = some o ∧ predsB .any o ps = true ∧ StepJN F n P ops Q J i o ps)
    (hend : ∀ a w, J (fun i => i < ops.size) a w → Q .normal a w) :
    ∀ (fuel : Nat) (listed : Array Bool) (a : Act) (w : World), listed.size = ops.size → listed.toList.count false ≤ fuel → (∀ j k, listed.getD j false = true → edgeB .any ops j k = true → listed.getD k false = true) → J (fun i => listed.getD i false = true) a w → wpAnyIn F n P .any ops Q fuel listed a w := by
  have hall : ∀ (listed : Array Bool) (a : Act) (w : World), listed.size = ops.size → Region.ready .any ops listed = [] → J (fun i => listed.getD i false = true) a w → Q .normal a w := fun listed a w hn hr hJ => by
    refine hend a w ?_
    have e : (fun i => listed.getD i false = true) = (fun i => i < ops.size) := funext fun i => propext ⟨fun h => by
      rcases Nat.lt_or_ge i listed.size with h' | h'
      · omega
      · simp [Array.getD, Nat.not_lt.2 h'] at h, fun h => all_of_none hb hn hr (i + 1) i (Nat.lt_succ_self _) h⟩
    rw [← e]; exact hJ
  intro fuel
  induction fuel with
  | zero =>
    intro listed a w hn hc hcl hJ
    have hr : Region.ready .any ops listed = [] := by
      cases hr : Region.ready .any ops listed with
      | nil => rfl
      | cons x xs =>
        have hx : x ∈ Region.ready .any ops listed := by rw [hr]; exact List.mem_cons_self ..
        obtain ⟨h1, o, ho, _⟩ := mem_ready.1 hx
        have hlt : x < ops.size := (Array.getElem?_eq_some_iff.1 ho).1
        have := count_set_false (by omega) h1
        omega
    exact ⟨hr, hall listed a w hn hr hJ⟩
  | succ fuel ih =>
    intro listed a w hn hc hcl hJ
    refine ⟨fun hr => hall listed a w hn hr hJ, fun i hi => ?_⟩
    obtain ⟨h1, o, ho, hp⟩ := mem_ready.1 hi
    have hlt : i < ops.size := (Array.getElem?_eq_some_iff.1 ho).1
    obtain ⟨o', ps, ho', hps, hst⟩ := hstep i hlt
    rw [ho] at ho'
    obtain rfl := Option.some.inj ho'
    have hcs := count_set_false (l := listed) (i := i) (by omega) h1
    refine wpOpIn_step ho (fun K' hK => hst _ a w hcl (fun k hk => ?_) (fun hD => ?_) hJ K' (fun a' w' hJ' => hK a' w' ?_))
    · obtain ⟨e, he, hb2⟩ := Array.any_eq_true'.1 (List.all_eq_true.1 hps k hk)
      simp only [Bool.and_eq_true, beq_iff_eq] at hb2
      have := hp e he hb2.1
      rw [hb2.2] at this
      exact this
    · simp [Array.getD, hn, hlt] at h1 hD
      rw [h1] at hD
      cases hD
    · refine ih _ a' w' (by simpa using hn) (by omega) (fun j k hj he => ?_) ?_
      · have hk : listed.getD k false = true := by
          by_cases e : j = i
          · subst e
            unfold edgeB at he
            rw [ho] at he
            obtain ⟨e, hem, hb2⟩ := Array.any_eq_true'.1 he
            simp only [Bool.and_eq_true, beq_iff_eq] at hb2
            have := hp e hem hb2.1
            rw [hb2.2] at this
            exact this
          · rw [getD_set_ne false (Ne.symm e)] at hj
            exact hcl j k hj he
        by_cases e : k = i
        · subst e; simp [Array.getD, hn, hlt]
        · rw [getD_set_ne false (Ne.symm e)]; exact hk
      have e : (fun j => (listed.setIfInBounds i true).getD j false = true) = (fun j => j = i ∨ listed.getD j false = true) := funext fun j => propext (by
        by_cases e : j = i
        · subst e
          simp [Array.getD, hn, hlt]
        · rw [getD_set_ne false (Ne.symm e)]
          simp [e])
      rw [e]; exact hJ'

theorem wpIn_regionJ {id : Nat} {a : Act} {w : World} (J : (Nat → Prop) → Act → World → Prop) (hm : P.follows .mixedOrders = true) (hb : backB ops = true) (h0 : J (fun _ => False) a w.drew)
    (hend : ∀ a w, J (fun i => i < ops.size) a w → Q .normal a w)
    (hstep : ∀ i, i < ops.size → ∃ o ps, ops[i]? = some o ∧ predsB .any o ps = true ∧ StepJN F n P ops Q J i o ps) : (Code.region id ops true).wpIn F n P Q a w := by
  refine wpIn_region_any hm (wpAnyIn_inv J hb hstep hend ops.size _ a _ (by simp) (by simp) (fun j k hj _ => ?_) ?_)
  · by_cases h : j < ops.size
    · simp [Array.getD, h] at hj
    · simp [Array.getD, h] at hj
  have e : (fun i => (Array.replicate ops.size false).getD i false = true) = (fun _ => False) := funext fun i => propext (by
    by_cases h : i < ops.size
    · simp [Array.getD, h]
    · simp [Array.getD, h])
  rw [e]; exact h0

end
end Go.Proofs.Ythjddpkegooobab

/-
  CHUNK: the pieces of a slice, one after the other. Own work.
-/
namespace Go.Proofs.Ythjddpkegooobab
open Go.RowKit Go.Shelf
attribute [local go_sem] Oper.semAt_some

/-- a piece, as it is handed on -/
def partV (b off : Nat) (im : List Nat) (x : Nat) : Value := .slice (some ⟨b, off + 64 * x, none⟩) (cutOf im x).length (cutOf im x).length
theorem part_bytes {w : World} {b off : Nat} {im : List Nat} (h : BytesAt w (some ⟨b, off, none⟩) im) (x : Nat) : BytesAt w (some ⟨b, off + 64 * x, none⟩) (cutOf im x) := fun i hi => by
  have h1 : i < 64 ∧ i < im.length - 64 * x := by simp [cutOf] at hi; omega
  obtain ⟨b', off', e, hc⟩ := h (64 * x + i) (by omega)
  injection e with e
  injection e with e1 e2
  subst e1
  subst e2
  have e3 : (cutOf im x)[i]! = im[64 * x + i]! := by
    rw [getElem!_pos _ i hi, getElem!_pos im _ (by omega)]
    simp [cutOf]
  exact ⟨b, off + 64 * x, rfl, by rw [e3, Nat.add_assoc]; exact hc⟩

/-- what a round keeps: all that lay ahead of the loop but the caller's own variable -/
def KpC (n₀ : Nat) (q : Nat → Prop) (W W' : World) : Prop := Kept (fun z => q z ∨ n₀ ≤ z) W W'

set_option maxRecDepth 100000 in
theorem chunk_any (ia : Option Addr) (n ic : Nat) (w : World) :
    Calls Try.prog 122 #[.slice ia n ic, .int .i64 64] w fun e w' => e = .returned (.func (.func 162) #[] #[.pointer (some ⟨w.heap.size, 0, none⟩), .pointer (some ⟨w.heap.size + 1, 0, none⟩)]) ∧ w' = (w.alloc (.cells #[.slice ia n ic] 28)).alloc (.cells #[.int .i64 64] 3) := by
  go_enter Try.func122, Try.ntmps122
  go_wp2
  go_ret
  exact ⟨rfl, by simp⟩

theorem range_pre {j m : Nat} (h : j < m) : List.range (j + 1) <+: List.range m := by
  obtain ⟨k, rfl⟩ : ∃ k, m = (j + 1) + k := ⟨m - (j + 1), by omega⟩
  exact ⟨(List.range k).map (fun x => (j + 1) + x), List.range_add.symm⟩

set_option maxRecDepth 100000 in
set_option maxHeartbeats 1000000 in
theorem chunk1_in (n : Nat) (hn : 1 ≤ n) (l B1 B2 n₀ b off ic : Nat) (q : Nat → Prop) (im : List Nat) (hil : im.length ≤ 4096) (hic : im.length ≤ ic) (_hb : b < n₀ ∧ ¬ q b) (h1 : B1 < n₀ ∧ ¬ q B1) (h2 : B2 < n₀ ∧ ¬ q B2) (J Jx : List Nat → World → Prop) {Bj : Nat} (hJ : AbidesFrom Bj J)
    (hY : ∀ pre x W, J pre W → pre.length < nBlk im → YieldAt Fence.wide (n - 1) Try.prog l #[partV b off im x] W fun e W' =>
      (e = .returned (.bool true) ∧ J (pre ++ [x]) W' ∧ KpC n₀ q W W') ∨ (e = .returned (.bool false) ∧ Jx (pre ++ [x]) W'))
    (W : World) (hB1 : W.cell? ⟨B1, 0, none⟩ = some (.slice (some ⟨b, off, none⟩) im.length ic)) (hB2 : W.cell? ⟨B2, 0, none⟩ = some (.int .i64 64)) (h0 : J [] W) :
    CallsIn Fence.wide n Try.prog 162 #[.func (.yield l) #[] #[], .pointer (some ⟨B1, 0, none⟩), .pointer (some ⟨B2, 0, none⟩)] W fun e W' => (∃ v, e = .returned v) ∧
      ((∃ ys, ys = List.range (nBlk im) ∧ J ys W') ∨ (∃ pre, pre <+: List.range (nBlk im) ∧ Jx pre W')) := by
  refine callsIn_of_wp Try.func162 rfl trivial ?_ rfl
  simp only [Try.ntmps162, List.size_toArray, List.length_cons, List.length_nil, Nat.reduceAdd, Nat.reduceSub, Array.replicate_succ, Array.replicate_zero, List.push_toArray, List.append_toArray, List.nil_append, List.cons_append]
  gi_wp2
  gi_loopw [4] (fun i wr => ∃ j : Nat, j ≤ nBlk im ∧ i = .int .i64 ((64 * j : Nat) : Int) ∧ J (List.range j) wr ∧ wr.cell? ⟨B1, 0, none⟩ = some (.slice (some ⟨b, off, none⟩) im.length ic) ∧ wr.cell? ⟨B2, 0, none⟩ = some (.int .i64 64)) (fun i _ => im.length + 64 - (intOf i).toNat)
  case atStart => exact ⟨0, Nat.zero_le _, rfl, h0, hB1, hB2⟩
  case round =>
    obtain ⟨j, hj, rfl, hJs, c1, c2⟩ := hrel
    obtain ⟨p, hp⟩ := hid_ex (64 * j)
    rw [← hp.out]
    by_cases hlt : j < nBlk im
    · have hpl : (p : Int) < (im.length : Int) := by have := hp.out; unfold nBlk at hlt; omega
      have i0 : (0 : Int) ≤ (p : Int) := by omega
      have i1 : (p : Int) ≤ (ic : Int) := by omega
      have i2 : (p : Int) ≤ (im.length : Int) := by omega
      gi_wp2
      refine wpIn_wide.2 ?_
      go_quiet (fail)
      obtain ⟨en, hen⟩ := hid_ex (cutOf im j).length
      have hene : en = min 64 (im.length - p) := by rw [hen.out, hp.out]; simp [cutOf]
      have hmin : (if ((im.length - p : Nat) : Int) < 64 then ((im.length - p : Nat) : Int) else 64) = (en : Int) := by split <;> omega
      rw [hmin]
      have hJd : J (List.range j) (wr.drewN nq) := hJ _ _ _ none hJs ⟨rfl, rfl, rfl, Nat.le_refl _, fun _ _ _ => rfl⟩ (fun r e => by cases e)
      have c1 : (wr.drewN nq).cell? ⟨B1, 0, none⟩ = some (.slice (some ⟨b, off, none⟩) im.length ic) := c1
      have c2 : (wr.drewN nq).cell? ⟨B2, 0, none⟩ = some (.int .i64 64) := c2
      generalize wr.drewN nq = wd at hJd c1 c2 ⊢
      obtain ⟨fn, tmps, assign, body, hy, hR⟩ := hY (List.range j) j wd hJd (by simpa using hlt)
      unfold partV at hy
      rw [← hp.out, ← hen.out] at hy
      have he64 : en ≤ 64 := by omega
      have hpe : p + en ≤ im.length := by omega
      have hen1 : 0 < en := by omega
      have hen2 : en ≠ 0 := by omega
      clear hene hmin
      gi_wp2
      refine hR.mono ?_
      rintro e W3 (⟨rfl, hJ3, hk3⟩ | ⟨rfl, hJx3⟩)
      · have c1 : W3.cell? ⟨B1, 0, none⟩ = some (.slice (some ⟨b, off, none⟩) im.length ic) := hk3.cell c1 (by rintro (e | e); exact h1.2 e; omega)
        have c2 : W3.cell? ⟨B2, 0, none⟩ = some (.int .i64 64) := hk3.cell c2 (by rintro (e | e); exact h2.2 e; omega)
        gi_wp2
        go_roundw
        case rel => exact ⟨j + 1, by omega, by rw [show 64 * (j + 1) = p + 64 by have := hp.out; omega]; go_num, by rw [List.range_succ]; exact hJ3, c1, c2⟩
        case measure => simp [intOf]; omega
      · gi_wp2
        refine bodyPost_ret (results_none rfl _ _ _) rfl ?_
        exact ⟨⟨_, rfl⟩, .inr ⟨List.range j ++ [j], by rw [← List.range_succ]; exact range_pre hlt, hJx3⟩⟩
    · have hpl : ¬ ((p : Int) < (im.length : Int)) := by have := hp.out; unfold nBlk at hlt; omega
      obtain rfl : j = nBlk im := by omega
      gi_wp2
      go_end0
      exact ⟨⟨_, rfl⟩, .inl hJs⟩

/-- the pieces, handed on one after the other -/
theorem chunk_stops (n : Nat) (hn : 1 ≤ n) (B1 B2 n₀ b off ic : Nat) (q : Nat → Prop) (im : List Nat) (hil : im.length ≤ 4096) (hic : im.length ≤ ic) (hb : b < n₀ ∧ ¬ q b) (h1 : B1 < n₀ ∧ ¬ q B1) (h2 : B2 < n₀ ∧ ¬ q B2) (w : World) (hn₀ : n₀ ≤ w.heap.size)
    (hB1 : w.cell? ⟨B1, 0, none⟩ = some (.slice (some ⟨b, off, none⟩) im.length ic)) (hB2 : w.cell? ⟨B2, 0, none⟩ = some (.int .i64 64)) :
    SeqStopsK Fence.wide n Try.prog 162 #[.pointer (some ⟨B1, 0, none⟩), .pointer (some ⟨B2, 0, none⟩)] (fun x : Nat => #[partV b off im x]) (KpC n₀ q) (fun ys => ys = List.range (nBlk im)) (fun pre => pre <+: List.range (nBlk im)) (nBlk im) w := fun l J Jx W hW hJ _ hY h0 =>
  chunk1_in n hn l B1 B2 n₀ b off ic q im hil hic hb h1 h2 J Jx hJ hY W ((hW.cell (p := ⟨B1, 0, none⟩) (by show B1 < _; omega)).trans hB1) ((hW.cell (p := ⟨B2, 0, none⟩) (by show B2 < _; omega)).trans hB2) h0

end Go.Proofs.Ythjddpkegooobab

/-
  OINV: what holds between two rounds of the program's loop over an image's pieces. Own work.
-/
namespace Go.Proofs.Ythjddpkegooobab
open Go.RowKit Go.Shelf

def preOps (s : Nat) (im : List Nat) (pre : List Nat) : List OP := (pre.zipIdx 0).map fun y => ⟨false, ((firstOf s + y.2 : Nat) : Int), blkOf im y.1⟩
theorem preOps_snoc (s : Nat) (im pre : List Nat) (x : Nat) : preOps s im (pre ++ [x]) = preOps s im pre ++ [⟨false, ((firstOf s + pre.length : Nat) : Int), blkOf im x⟩] := by
  simp [preOps, List.zipIdx_append]
theorem preOps_len (s : Nat) (im pre : List Nat) : (preOps s im pre).length = pre.length := by simp [preOps]
theorem preOps_range (s : Nat) (im : List Nat) : ∀ m, preOps s im (List.range m) = imgOps s im m
  | 0 => rfl
  | m + 1 => by rw [List.range_succ, preOps_snoc, preOps_range s im m, imgOps_succ, List.length_range]

/-- what holds between two rounds -/
def OI (w : World) (bV P7 P8 B1 B2 n₀ s : Nat) (im hb : List Nat) (oh : Option Addr) (pre : List Nat) (W : World) : Prop :=
  ∃ oa oc lo, Boxed W P8 86 (.slice oa lo.length oc) ∧ lo.map LO.x = preOps s im pre ∧ SO bV W oa oc lo ∧ Boxed W P7 3 (.int .i64 (s : Int)) ∧ MB W w.heap.size oh hb ∧ Below w.heap.size w W ∧ n₀ ≤ W.heap.size ∧ (∃ c, W.heap[B1]? = some (.cells c 28 (0, 0))) ∧ (∃ c, W.heap[B2]? = some (.cells c 3 (0, 0)))

theorem OI.own {w : World} {bV P7 P8 B1 B2 n₀ s : Nat} {im hb : List Nat} {oh : Option Addr} (hn : w.heap.size ≤ n₀) : OwnFrom n₀ (OI w bV P7 P8 B1 B2 n₀ s im hb oh) := by
  rintro pre A B row ⟨oa, oc, lo, h8, hlo, hS, h7, hM, hB, hz, ⟨d1, k1⟩, ⟨d2, k2⟩⟩ hg hrow
  have hK := Kept.of_grown hg
  have hne : ∀ z c t, A.heap[z]? = some (.cells c t (0, 0)) → row ≠ some z := fun z c t hz e => by
    obtain ⟨_, o, ho, hc⟩ := hrow z e
    rw [hz] at ho
    cases ho
    cases hc
  refine ⟨oa, oc, lo, h8.kept hg (fun e => hne P8 _ _ h8 e.symm), hlo, hS.kept hK (fun z e _ => ⟨fun ⟨c, hc⟩ => hne z _ _ hc e, fun ⟨c, hc⟩ => hne z _ _ hc e⟩), h7.kept hg (fun e => hne P7 _ _ h7 e.symm), hM.keptO hK (fun z _ ⟨c, hc⟩ e => hne z _ _ hc e), ?_, Nat.le_trans hz hg.size, ⟨d1, (hg.block B1 (Array.getElem?_eq_some_iff.1 k1).1 (fun e => hne B1 _ _ k1 e.symm)).trans k1⟩, ⟨d2, (hg.block B2 (Array.getElem?_eq_some_iff.1 k2).1 (fun e => hne B2 _ _ k2 e.symm)).trans k2⟩⟩
  exact hB.trans (hK.below (B := w.heap.size) hB.size (fun z hz2 e => by have := (hrow z e).1; omega))

theorem four_new (w : World) (a b c : Value) (t1 t2 t3 t4 : TypeId) :
    ((((w.alloc (.cells #[] t1)).alloc (.cells #[a] t2)).alloc (.cells #[b] t3)).alloc (.cells #[c] t4)).heap[w.heap.size]? = some (.cells #[] t1 (0, 0)) ∧
    Boxed ((((w.alloc (.cells #[] t1)).alloc (.cells #[a] t2)).alloc (.cells #[b] t3)).alloc (.cells #[c] t4)) (w.heap.size + 1) t2 a ∧
    Boxed ((((w.alloc (.cells #[] t1)).alloc (.cells #[a] t2)).alloc (.cells #[b] t3)).alloc (.cells #[c] t4)) (w.heap.size + 1 + 1) t3 b ∧
    Boxed ((((w.alloc (.cells #[] t1)).alloc (.cells #[a] t2)).alloc (.cells #[b] t3)).alloc (.cells #[c] t4)) (w.heap.size + 1 + 1 + 1) t4 c ∧
    ((((w.alloc (.cells #[] t1)).alloc (.cells #[a] t2)).alloc (.cells #[b] t3)).alloc (.cells #[c] t4)).heap.size = w.heap.size + 1 + 1 + 1 + 1 ∧
    Below w.heap.size w ((((w.alloc (.cells #[] t1)).alloc (.cells #[a] t2)).alloc (.cells #[b] t3)).alloc (.cells #[c] t4)) := by
  have e1 := World.alloc_heap_new w (.cells #[] t1)
  have h2 := Boxed.new (w.alloc (.cells #[] t1)) t2 a
  have h3 := Boxed.new ((w.alloc (.cells #[] t1)).alloc (.cells #[a] t2)) t3 b
  have h4 := Boxed.new (((w.alloc (.cells #[] t1)).alloc (.cells #[a] t2)).alloc (.cells #[b] t3)) t4 c
  simp only [World.size_alloc] at h2 h3 h4
  refine ⟨?_, (h2.alloc _).alloc _, h3.alloc _, h4, by simp, gal (gal (gal (gal (gre _) _) _) _) _⟩
  exact (Below.heap_alloc _ _ _ (by simp; omega)).trans ((Below.heap_alloc _ _ _ (by simp; omega)).trans ((Below.heap_alloc _ _ _ (by simp)).trans e1))

theorem SO.empty {w : World} {base g : Nat} (h : w.heap[g]? = some (.cells #[] 151 (0, 0))) (hb : base ≤ g) : SO base w (some ⟨g, 0, none⟩) 0 [] :=
  ⟨⟨rfl, Or.inr ⟨g, 0, #[], rfl, hb, h, Nat.le_refl _, Nat.zero_le _, rfl, rfl⟩⟩, fun y hy => (by cases hy), List.Pairwise.nil⟩

theorem KpC.putObj {n₀ : Nat} {q : Nat → Prop} (W : World) (l : Nat) (o' : Obj) (hl : n₀ ≤ l) : KpC n₀ q W (W.putObj l o') := (Kept.of_grown (grownBy_putObj' W l o')).mono (fun z _ e => Or.inr (by cases e; exact hl))
theorem keptPut (W : World) (l : Nat) (o' : Obj) : Kept (fun z => z = l) W (W.putObj l o') := (Kept.of_grown (grownBy_putObj' W l o')).mono (fun z _ e => by cases e; rfl)

theorem zrow_copy {w : World} {a : Nat} {cur : Array Value} (hc : w.heap[a]? = some (.cells cur 5 (0, 0))) (h : ZRow w a 64 []) (c : List Nat) (hl : c.length ≤ 64) :
    ZRow (w.setRow a (cur.toList.take 0 ++ bcells c ++ cur.toList.drop (0 + (bcells c).length)).toArray) a 64 c := by
  obtain ⟨_, c', hc', hs, hx⟩ := h
  rw [hc] at hc'
  obtain rfl : cur = c' := by simpa using hc'
  have e2 := bcells_length c
  refine ⟨hl, _, setRow_heap _ _ _ _ _ _ hc, ?_, fun i hi => ?_⟩
  · simp only [List.size_toArray, List.length_append, e2, List.length_drop, Array.length_toList, List.take_zero, List.length_nil]; omega
  · rw [List.getElem?_toArray, List.take_zero, List.nil_append, Nat.zero_add, e2]
    by_cases h : i < c.length
    · rw [List.getElem?_append_left (by omega)]
      exact bcells_get h
    · rw [List.getElem?_append_right (by omega), e2, List.getElem?_drop, Array.getElem?_toList, show c.length + (i - c.length) = i by omega, hx i hi]
      show some (Value.int .u8 ((([] : List Nat)[i]! : Nat) : Int)) = some (Value.int .u8 ((c[i]! : Nat) : Int))
      rw [getElem!_neg c i h, getElem!_neg ([] : List Nat) i (by simp)]
theorem keptRow (w : World) (a : Nat) (c : Array Value) : Kept (fun k => k = a) w (w.setRow a c) := ⟨rfl, rfl, rfl, by simp, fun k _ hn => setRow_other _ _ _ _ hn⟩
/-- what is cells alone is turned -/
theorem keepsFrom_of {p : Nat → Prop} {W W' : World} (B : Nat) (K : Kept p W W') (hp : ∀ z, p z → ∀ o, W.heap[z]? = some o → o.isCells = true) : KeepsFrom B W W' :=
  ⟨K.size, fun k o _ hk ho => (K.block k (Array.getElem?_eq_some_iff.1 hk).1 (fun e => by rw [hp k e o hk] at ho; cases ho)).trans hk⟩

theorem stepIn_append_own {F : Fence} {n : Nat} {P : Program} {o : Oper} {a : Act} {w : World} {K : Act → World → Prop} {Q : Exit → Act → World → Prop} {X : Prop} {ops : Array Oper} {y : Array Value}
    (hg : o.guard = none) (s x : Operand) (t : TypeId) (hop : o.op = Op.call { callee := Callee.builtin Builtin.append, args := #[s, x], argTypes := #[t, t] })
    (base : Nat) (e : TypeId) (i : TypeInfo) (z : Value) (size bytes : Nat) (h1 : P.underlying t = some (.slice e)) (h2 : P.info? e = some i) (h3 : i.zero = some z) (h4 : i.size = size) (h5 : i.bytes = bytes) (h6 : z.cells.size = size) (h7 : 0 < size)
    (v : Value) (k : Nat) (xs : List Value) (hs : a.eval s = v) (hown : w.ownsRow base e size v k xs) (ad : Addr) (m c : Nat) (news : List Value) (hx : a.eval x = .slice (some ad) m c) (hn : news.length = m * size)
    (hc : ∀ j u, news[j]? = some u → w.cell? (ad.add j) = some u) (h1c : ∀ u ∈ news, u.oneCell' = true) (b1 : k + m ≤ maxLen) (b2 : (k + m) * bytes ≤ 140737488355328) (b3 : base ≤ w.heap.size)
    (hK : ∀ v' w', w'.ownsRow base e size v' (k + m) (xs ++ news) → w.grownBy w' v.ownBlock → K (a.put o.dst v') w') :
    if Region.wanted o (yielded ops y) = true then Oper.wpIn F n P o a w K Q else X := by
  rw [if_pos (by simp [Region.wanted, hg])]
  obtain ⟨v', w', hrun, r1, r2, r3⟩ := run_append_own (P := P) w base t o.type e i z size bytes h1 h2 h3 h4 h5 h6 h7 v k xs hown ad m c news hn hc h1c b1 b2 b3
  unfold Oper.wpIn
  refine ⟨?_, ?_⟩
  · simp [Oper.about, hop, resolve, Target.leads, Sem.run_pure]
  · rw [Oper.semAt_plain F _ _ (by rw [hop]; intro c hc'; cases hc')]
    simp [execOp, hop, resolve, invoke, builtin, hs, hx, hrun, Result.andThen]
    exact hK v' w' r1 r2

/-- what each operation leaves in its slot -/
def oL (Bb s F : Nat) (oa : Option Addr) (oc n : Nat) (v : Nat → Value) : Nat → Prop
  | 0 => v 47 = .slice oa n oc
  | 1 => v 48 = .int .i64 (s : Int)
  | 2 => v 49 = .int .i64 ((firstOf s : Nat) : Int)
  | 3 => v 50 = .slice oa n oc
  | 4 => v 51 = .int .i64 (n : Int)
  | 5 => v 52 = .int .i64 (F : Int)
  | 6 => v 53 = .slice (some ⟨Bb, 0, none⟩) 64 64
  | 7 => v 54 = .agg #[.bool false, .int .i64 (F : Int), .slice (some ⟨Bb, 0, none⟩) 64 64]
  | _ => True
def updO (v : Nat → Value) (s : Nat) (x : Value) : Nat → Value := fun k => if k = s then x else v k
theorem updO_other (v : Nat → Value) {s k : Nat} (x : Value) (h : k ≠ s) : updO v s x k = v k := if_neg h
theorem oL_upd {Bb s F : Nat} {oa : Option Addr} {oc n : Nat} {v : Nat → Value} (t : Nat) (x : Value) : ∀ k, k + 47 ≠ t → oL Bb s F oa oc n v k → oL Bb s F oa oc n (updO v t x) k
  | 0, e, h | 1, e, h | 2, e, h | 3, e, h | 4, e, h | 5, e, h | 6, e, h | 7, e, h => by
    simp only [oL, updO_other v x e]
    exact h
  | _ + 8, _, _ => trivial
/-- the new op's own cells -/
def ONew (Bb F : Nat) (v : Nat → Value) (u : World) : Prop := ∃ g, v 55 = .slice (some ⟨g, 0, none⟩) 1 1 ∧ u.heap[g]? = some (.cells #[.bool false, .int .i64 (F : Int), .slice (some ⟨Bb, 0, none⟩) 64 64] 151 (0, 0))
/-- the row behind the append -/
def ORow (W1 : World) (G0 P8 Bb F : Nat) (oa : Option Addr) (oc : Nat) (lo : List LO) (bl : List Nat) (v : Nat → Value) (g cc : Nat) (u : World) : Prop :=
  v 56 = .slice (some ⟨g, 0, none⟩) (lo.length + 1) cc ∧ SO G0 u (some ⟨g, 0, none⟩) cc (lo ++ [⟨⟨false, (F : Int), bl⟩, some ⟨Bb, 0, none⟩, 64⟩]) ∧ Kept (fun z => (Value.slice oa lo.length oc).ownBlock = some z ∨ z = P8) W1 u
/-- what holds while the loop's last region comes up -/
structure OJ (W1 : World) (G0 P7 P8 Bb s F : Nat) (oa : Option Addr) (oc : Nat) (lo : List LO) (bl : List Nat) (D : Nat → Prop) (v : Nat → Value) (u : World) : Prop where
  pa : ¬ D 9 → Below W1.heap.size W1 u
  done : ∀ k, D k → oL Bb s F oa oc lo.length v k
  new : D 8 → ¬ D 9 → ONew Bb F v u
  app : D 9 → ¬ D 10 → ∃ g cc, ORow W1 G0 P8 Bb F oa oc lo bl v g cc u ∧ Boxed u P8 86 (.slice oa lo.length oc)
  fin : D 10 → ∃ g cc, ORow W1 G0 P8 Bb F oa oc lo bl v g cc u ∧ Boxed u P8 86 (.slice (some ⟨g, 0, none⟩) (lo.length + 1) cc)
/-- an operation ahead of the append -/
theorem OJ.next {W1 : World} {G0 P7 P8 Bb s F : Nat} {oa : Option Addr} {oc : Nat} {lo : List LO} {bl : List Nat} {D : Nat → Prop} {v : Nat → Value} {u u' : World} (h : OJ W1 G0 P7 P8 Bb s F oa oc lo bl D v u) (i t : Nat) (x : Value) (ht : i + 47 = t) (hi : i < 8) (n9 : ¬ D 9) (n10 : ¬ D 10) (hB : Below u.heap.size u u') (hx : oL Bb s F oa oc lo.length (updO v t x) i) : OJ W1 G0 P7 P8 Bb s F oa oc lo bl (fun j => j = i ∨ D j) (updO v t x) u' := by
  have hpa := h.pa n9
  refine ⟨fun _ => hpa.trans (hB.mono hpa.size), fun k hk => ?_, fun h8 _ => ?_, fun h9 => absurd (h9.resolve_left (by omega)) n9, fun h10 => absurd (h10.resolve_left (by omega)) n10⟩
  · by_cases e : k = i
    · subst e; exact hx
    · exact oL_upd t x k (by omega) (h.done k (hk.resolve_left e))
  · obtain ⟨g, h1, h2⟩ := h.new (h8.resolve_left (by omega)) n9
    exact ⟨g, by rw [updO_other v x (by omega)]; exact h1, (hB.block g (Array.getElem?_eq_some_iff.1 h2).1).trans h2⟩

end Go.Proofs.Ythjddpkegooobab

/-
  INEWEST: the program's Newest. Own work.
-/
namespace Go.Proofs.Ythjddpkegooobab
open Go.RowKit

/-- what is kept in a slot, as the program hands it back -/
def KMPost (k : KK) (w : World) (e : Ending) (w' : World) : Prop := ∃ oa c, e = .returned (k.val oa c) ∧ MB w' w.heap.size oa k.bytes ∧ Below w.heap.size w w'
theorem KMPost.no {w w' : World} (h : Below w.heap.size w w') : KMPost noK w (.returned (.agg #[.bool false, .int .i64 0, .int .i64 0, .slice none 0 0])) w' := ⟨none, 0, rfl, Or.inl rfl, h⟩

theorem anyU_skipH {P : Program} {ops : Array Oper} {Q : Exit → Act → World → Prop} {md : Region.Mode} {S : World → Prop} {lst : Nat} {i : Nat} {o : Oper} {fuel : Nat} {listed : Array Bool} {a : Act} {w : World} (hr : Region.ready md ops listed = [i]) (ho : ops[i]? = some o)
    (hw : Region.wanted o (yielded ops a.tmps) = false) (hS : S w) (h : anyU P md ops Q S lst fuel (listed.setIfInBounds i true) (a.put o.dst undef) w) : anyU P md ops Q S lst (fuel + 1) listed a w :=
  anyU_one hr ho (fun K hK => by rw [if_neg (by rw [hw]; exact Bool.false_ne_true)]; exact hK.out _ _ hS h)
theorem MB.kept4 {p : Nat → Prop} {w w' : World} {lo : Nat} {oa : Option Addr} {ys : List Nat} (h : MB w lo oa ys) (k : Kept p w w') (hp : ∀ b, lo ≤ b → b < w.heap.size → ¬ p b) : MB w' lo oa ys := by
  rcases h with rfl | ⟨G, n, rfl, hG, hB⟩
  · exact Or.inl rfl
  · exact Or.inr ⟨G, n, rfl, hG, hB.kept k (hp G hG hB.lt)⟩

set_option maxHeartbeats 1000000 in
set_option maxRecDepth 100000 in
theorem kept_any (p m : Nat) (d : DD) (pa : Option Addr) (pc : Nat) (kv : Value) (w : World) (hm : m < 2) (hf : d.Fit) (ho : d.Ok) (hDr : Dr w p d.blocks pa pc d.waiting kv) :
    Calls Try.prog 120 #[.agg #[.pointer (some ⟨p, 0, none⟩), .int .i64 (m : Int)]] w (KMPost (d.slotOf m) w) := by
  have hA := gal (gal (gre w) (.cells #[.pointer (some ⟨p, 0, none⟩), .int .i64 (m : Int)] 141)) (.cells #[.bool false, .int .i64 0, .int .i64 0, .slice none 0 0] 82)
  have hS0 := (SV.new w p m 141).grow (gal (gre _) (.cells #[.bool false, .int .i64 0, .int .i64 0, .slice none 0 0] 82))
  have hR0 := V4.new_at (w.alloc (.cells #[.pointer (some ⟨p, 0, none⟩), .int .i64 (m : Int)] 141)) (.bool false) (.int .i64 0) (.int .i64 0) (.slice none 0 0) 82 (w.heap.size + 1) (by simp)
  obtain ⟨h, hh⟩ := hid_ex (headOf (d.rd m))
  rcases headOf_cases (d.rd m) with hi | hi
  · rw [← hh.out] at hi
    obtain ⟨ok, gen, len, sum⟩ := h
    obtain ⟨rfl, hrng, hsum, heq⟩ := hi
    have hr := rng_i64 hrng
    simp only at hr
    obtain ⟨n, rfl⟩ : ∃ n : Nat, len = (n : Int) := ⟨len.toNat, by omega⟩
    clear hrng heq
    obtain ⟨img, himg⟩ := hid_ex (d.img m n)
    have hsl : Hid (d.slotOf m = if wrap64 (sumN img : Int) = sum then ⟨true, gen, (m : Int), img⟩ else noK) := by
      show _ = _
      unfold DD.slotOf
      rw [← hh.out, himg.out]
      simp
    go_enter Try.func120, Try.ntmps120
    go_upto_region 2 with (go_at_call 115; refine (head_any p m d.blocks pa pc d.waiting kv (d.rd m) _ (by omega) (by have := hf.wl; omega) rfl (DD.rd_len hf (by omega)) (DD.rd_byte hf ho (by omega)) (hDr.grow hA)).mono ?_; rw [← hh.out]; rintro e w1 ⟨rfl, hb1⟩)
    have hHb := HBox.new w1 true gen (n : Int) sum 74
    have hb2 := gal hb1 (.cells #[.bool true, .int .i64 gen, .int .i64 (n : Int), .int .i64 sum] 74)
    have hS2 := hS0.grow hb2
    have hR2 := hR0.grow hb2
    have hA2 := gca hA hb2
    have hRl := (hR0.grow hb1).lt
    generalize w1.alloc (.cells #[.bool true, .int .i64 gen, .int .i64 (n : Int), .int .i64 sum] 74) = w2 at hHb hb2 hS2 hR2 hA2 ⊢
    generalize w1.heap.size = H at hHb hRl ⊢
    clear hb1 hb2 hS0 hR0 hA
    obtain ⟨_, s0, s1⟩ := id hS2
    obtain ⟨_, p0, p1, p2, p3⟩ := id hHb
    go_upto_region 3 with (go_at_call 160; refine (image_any p m n d pa pc kv _ hm (by omega) hf ho (hDr.grow hA2)).mono ?_; rw [← himg.out]; rintro e w3 ⟨oa, c, rfl, hM, hb3⟩)
    have hS3 := hS2.grow hb3
    have hR3 := hR2.grow hb3
    have hH3 := hHb.kept (Kept.of_below hb3 (fun _ => False)) (fun e => e)
    have hA3 := gca hA2 hb3
    have hMt : BytesAt w3 oa img := hM.atH
    have hil : Hid (img.length = n) := by show _ = _; rw [himg.out]; exact DD.img_len hf hm (by omega)
    have hib : ∀ x, x ∈ img → x < 256 := by rw [himg.out]; exact DD.img_byte hf ho hm
    have hRs : w.heap.size + 1 < w2.heap.size := by have := hHb.lt; omega
    clear s0 s1 p0 p1 p2 p3
    by_cases t : wrap64 (sumN img : Int) = sum
    · have t' : (wrap64 (sumN img : Int) != sum) = false := by rw [t]; simp
      have t2 : (IntKind.i64.wrap (sumN img : Int) != sum) = false := by rw [← wrap64_eq, t]; simp
      have hsl2 : Hid (d.slotOf m = ⟨true, gen, (m : Int), img⟩) := hsl.out.trans (if_pos t)
      clear t
      have hB : Below w3.heap.size w3 w3.drew := gdr (gre _)
      refine wp_regionU (fun u => HBox u H true gen (n : Int) sum) 99 (by kernel_rfl) (hH3.kept (Kept.of_below hB (fun _ => False)) (fun e => e)) (fun _ => ?_)
      refine anyU_take (i := 0) (v := ?_) rfl (by kernel_rfl) (by kernel_rfl) (by kernel_rfl) (by kernel_rfl) (fun _ _ _ h => h) (Or.inl ⟨by rfl, ?_⟩) (hH3.kept (Kept.of_below hB (fun _ => False)) (fun e => e)) ?_
      rotate_left
      · intro u hSu; (try dsimp only at hSu); go_simp <;> with_reducible rfl
      simp only [Act.put, List.getElem_toArray, List.getElem_cons_zero, List.setIfInBounds_toArray, List.set_cons_zero, List.set_cons_succ]
      refine anyU_take (i := 1) (v := ?_) rfl (by kernel_rfl) (by kernel_rfl) (by kernel_rfl) (by kernel_rfl) (fun _ _ _ h => h) (Or.inl ⟨by rfl, ?_⟩) (hH3.kept (Kept.of_below hB (fun _ => False)) (fun e => e)) ?_
      rotate_left
      · intro u hSu; obtain ⟨_, s0, s1, s2, s3⟩ := hSu; go_simp <;> with_reducible rfl
      simp only [Act.put, List.getElem_toArray, List.getElem_cons_zero, List.getElem_cons_succ, List.setIfInBounds_toArray, List.set_cons_zero, List.set_cons_succ]
      refine anyU_take (i := 2) (v := ?_) rfl (by kernel_rfl) (by kernel_rfl) (by kernel_rfl) (by kernel_rfl) (fun _ _ _ h => h) (Or.inl ⟨by rfl, ?_⟩) (hH3.kept (Kept.of_below hB (fun _ => False)) (fun e => e)) ?_
      rotate_left
      · intro u hSu; (try dsimp only at hSu); go_simp <;> with_reducible rfl
      simp only [Act.put, List.getElem_toArray, List.getElem_cons_zero, List.getElem_cons_succ, List.setIfInBounds_toArray, List.set_cons_zero, List.set_cons_succ]
      refine anyU_take (i := 3) (v := ?_) rfl (by kernel_rfl) (by kernel_rfl) (by kernel_rfl) (by kernel_rfl) (fun _ _ _ h => h) (Or.inl ⟨by rfl, ?_⟩) (hH3.kept (Kept.of_below hB (fun _ => False)) (fun e => e)) ?_
      rotate_left
      · intro u hSu; (try dsimp only at hSu); go_simp <;> with_reducible rfl
      simp only [Act.put, List.getElem_toArray, List.getElem_cons_zero, List.getElem_cons_succ, List.setIfInBounds_toArray, List.set_cons_zero, List.set_cons_succ]
      refine anyU_take (i := 4) (v := ?_) rfl (by kernel_rfl) (by kernel_rfl) (by kernel_rfl) (by kernel_rfl) (fun _ _ _ h => h) (Or.inl ⟨by rfl, ?_⟩) (hH3.kept (Kept.of_below hB (fun _ => False)) (fun e => e)) ?_
      rotate_left
      · intro u hSu; (try dsimp only at hSu); go_simp <;> with_reducible rfl
      simp only [Act.put, List.getElem_toArray, List.getElem_cons_zero, List.getElem_cons_succ, List.setIfInBounds_toArray, List.set_cons_zero, List.set_cons_succ]
      refine anyU_take (i := 6) (v := ?_) rfl (by kernel_rfl) (by kernel_rfl) (by kernel_rfl) (by kernel_rfl) (fun _ _ _ h => h) (Or.inl ⟨by rfl, ?_⟩) (hH3.kept (Kept.of_below hB (fun _ => False)) (fun e => e)) ?_
      rotate_left
      · intro u hSu; (try dsimp only at hSu); go_simp <;> with_reducible rfl
      simp only [Act.put, List.getElem_toArray, List.getElem_cons_zero, List.getElem_cons_succ, List.setIfInBounds_toArray, List.set_cons_zero, List.set_cons_succ]
      refine anyU_take (i := 7) (v := ?_) rfl (by kernel_rfl) (by kernel_rfl) (by kernel_rfl) (by kernel_rfl) (fun _ _ _ h => h) (Or.inl ⟨by rfl, ?_⟩) (hH3.kept (Kept.of_below hB (fun _ => False)) (fun e => e)) ?_
      rotate_left
      · intro u hSu; obtain ⟨_, s0, s1, s2, s3⟩ := hSu; go_simp <;> with_reducible rfl
      simp only [Act.put, List.getElem_toArray, List.getElem_cons_zero, List.getElem_cons_succ, List.setIfInBounds_toArray, List.set_cons_zero, List.set_cons_succ]
      refine anyU_one (i := 5) (by kernel_rfl) rfl (fun K hK => ?_)
      go_simp
      refine (calls_argsS (implSumOf_any oa img c _ (hMt.grow hB) (by rw [hil.out]; unfold maxLen; omega) hib) (by rw [hil.out])).mono ?_
      rintro e w4 ⟨rfl, hb4⟩
      have hB := gca hB hb4
      refine hK.out _ _ (hH3.kept (Kept.of_below hB (fun _ => False)) (fun e => e)) ?_
      clear hK
      refine anyU_one (i := 8) (by kernel_rfl) rfl (fun K hK => ?_)
      go_simp
      refine hK.out _ _ (hH3.kept (Kept.of_below hB (fun _ => False)) (fun e => e)) ?_
      clear hK
      refine anyU_one (i := 9) (by kernel_rfl) rfl (fun K hK => ?_)
      go_simp
      refine hK.out _ _ (hH3.kept (Kept.of_below hB (fun _ => False)) (fun e => e)) ?_
      clear hK
      refine anyU_done (by kernel_rfl) ?_
      have hR4 := hR3.grow hB
      have hS4 := hS3.grow hB
      have hH4 := hH3.kept (Kept.of_below hB (fun _ => False)) (fun e => e)
      have hA4 := gca hA3 hB
      have hM4 := hM.kept4 (Kept.of_below hB (fun _ => False)) (fun _ _ _ e => e)
      obtain ⟨_, z0, z1, z2, z3, zf⟩ := id hR4
      obtain ⟨_, s0, s1⟩ := id hS4
      obtain ⟨_, p0, p1, p2, p3⟩ := id hH4
      go_upto_region 99 with fail
      obtain ⟨r0, r1, r2, r3, K⟩ := retV4 hR4 (.bool true) (.int .i64 gen) (.int .i64 (m : Int)) (.slice oa n c)
      refine bodyPost_ret (v := .agg #[.bool true, .int .i64 gen, .int .i64 (m : Int), .slice oa n c]) (by simp [results, Try.results120, go_sem, r0, r1, r2, r3]) rfl ?_
      rw [hsl2.out]
      refine ⟨oa, c, by rw [show n = img.length from hil.out.symm], ?_, hA4.trans (K.below (B := w.heap.size) hA4.size (fun k hk e => by omega))⟩
      exact (hM4.kept4 K (fun b h1 h2 e => by omega)).leH (by omega)
    · have t' : (wrap64 (sumN img : Int) != sum) = true := by simpa using t
      have t2 : (IntKind.i64.wrap (sumN img : Int) != sum) = true := by rw [← wrap64_eq]; simpa using t
      have hsl2 : Hid (d.slotOf m = noK) := hsl.out.trans (if_neg t)
      clear t
      have hB : Below w3.heap.size w3 w3.drew := gdr (gre _)
      refine wp_regionU (fun u => HBox u H true gen (n : Int) sum) 99 (by kernel_rfl) (hH3.kept (Kept.of_below hB (fun _ => False)) (fun e => e)) (fun _ => ?_)
      refine anyU_take (i := 0) (v := ?_) rfl (by kernel_rfl) (by kernel_rfl) (by kernel_rfl) (by kernel_rfl) (fun _ _ _ h => h) (Or.inl ⟨by rfl, ?_⟩) (hH3.kept (Kept.of_below hB (fun _ => False)) (fun e => e)) ?_
      rotate_left
      · intro u hSu; (try dsimp only at hSu); go_simp <;> with_reducible rfl
      simp only [Act.put, List.getElem_toArray, List.getElem_cons_zero, List.setIfInBounds_toArray, List.set_cons_zero, List.set_cons_succ]
      refine anyU_take (i := 1) (v := ?_) rfl (by kernel_rfl) (by kernel_rfl) (by kernel_rfl) (by kernel_rfl) (fun _ _ _ h => h) (Or.inl ⟨by rfl, ?_⟩) (hH3.kept (Kept.of_below hB (fun _ => False)) (fun e => e)) ?_
      rotate_left
      · intro u hSu; obtain ⟨_, s0, s1, s2, s3⟩ := hSu; go_simp <;> with_reducible rfl
      simp only [Act.put, List.getElem_toArray, List.getElem_cons_zero, List.getElem_cons_succ, List.setIfInBounds_toArray, List.set_cons_zero, List.set_cons_succ]
      refine anyU_take (i := 2) (v := ?_) rfl (by kernel_rfl) (by kernel_rfl) (by kernel_rfl) (by kernel_rfl) (fun _ _ _ h => h) (Or.inl ⟨by rfl, ?_⟩) (hH3.kept (Kept.of_below hB (fun _ => False)) (fun e => e)) ?_
      rotate_left
      · intro u hSu; (try dsimp only at hSu); go_simp <;> with_reducible rfl
      simp only [Act.put, List.getElem_toArray, List.getElem_cons_zero, List.getElem_cons_succ, List.setIfInBounds_toArray, List.set_cons_zero, List.set_cons_succ]
      refine anyU_take (i := 3) (v := ?_) rfl (by kernel_rfl) (by kernel_rfl) (by kernel_rfl) (by kernel_rfl) (fun _ _ _ h => h) (Or.inl ⟨by rfl, ?_⟩) (hH3.kept (Kept.of_below hB (fun _ => False)) (fun e => e)) ?_
      rotate_left
      · intro u hSu; (try dsimp only at hSu); go_simp <;> with_reducible rfl
      simp only [Act.put, List.getElem_toArray, List.getElem_cons_zero, List.getElem_cons_succ, List.setIfInBounds_toArray, List.set_cons_zero, List.set_cons_succ]
      refine anyU_take (i := 4) (v := ?_) rfl (by kernel_rfl) (by kernel_rfl) (by kernel_rfl) (by kernel_rfl) (fun _ _ _ h => h) (Or.inl ⟨by rfl, ?_⟩) (hH3.kept (Kept.of_below hB (fun _ => False)) (fun e => e)) ?_
      rotate_left
      · intro u hSu; (try dsimp only at hSu); go_simp <;> with_reducible rfl
      simp only [Act.put, List.getElem_toArray, List.getElem_cons_zero, List.getElem_cons_succ, List.setIfInBounds_toArray, List.set_cons_zero, List.set_cons_succ]
      refine anyU_take (i := 6) (v := ?_) rfl (by kernel_rfl) (by kernel_rfl) (by kernel_rfl) (by kernel_rfl) (fun _ _ _ h => h) (Or.inl ⟨by rfl, ?_⟩) (hH3.kept (Kept.of_below hB (fun _ => False)) (fun e => e)) ?_
      rotate_left
      · intro u hSu; (try dsimp only at hSu); go_simp <;> with_reducible rfl
      simp only [Act.put, List.getElem_toArray, List.getElem_cons_zero, List.getElem_cons_succ, List.setIfInBounds_toArray, List.set_cons_zero, List.set_cons_succ]
      refine anyU_take (i := 7) (v := ?_) rfl (by kernel_rfl) (by kernel_rfl) (by kernel_rfl) (by kernel_rfl) (fun _ _ _ h => h) (Or.inl ⟨by rfl, ?_⟩) (hH3.kept (Kept.of_below hB (fun _ => False)) (fun e => e)) ?_
      rotate_left
      · intro u hSu; obtain ⟨_, s0, s1, s2, s3⟩ := hSu; go_simp <;> with_reducible rfl
      simp only [Act.put, List.getElem_toArray, List.getElem_cons_zero, List.getElem_cons_succ, List.setIfInBounds_toArray, List.set_cons_zero, List.set_cons_succ]
      refine anyU_one (i := 5) (by kernel_rfl) rfl (fun K hK => ?_)
      go_simp
      refine (calls_argsS (implSumOf_any oa img c _ (hMt.grow hB) (by rw [hil.out]; unfold maxLen; omega) hib) (by rw [hil.out])).mono ?_
      rintro e w4 ⟨rfl, hb4⟩
      have hB := gca hB hb4
      refine hK.out _ _ (hH3.kept (Kept.of_below hB (fun _ => False)) (fun e => e)) ?_
      clear hK
      refine anyU_one (i := 8) (by kernel_rfl) rfl (fun K hK => ?_)
      go_simp
      refine hK.out _ _ (hH3.kept (Kept.of_below hB (fun _ => False)) (fun e => e)) ?_
      clear hK
      refine anyU_one (i := 9) (by kernel_rfl) rfl (fun K hK => ?_)
      go_simp
      refine hK.out _ _ (hH3.kept (Kept.of_below hB (fun _ => False)) (fun e => e)) ?_
      clear hK
      refine anyU_done (by kernel_rfl) ?_
      have hR4 := hR3.grow hB
      have hS4 := hS3.grow hB
      have hH4 := hH3.kept (Kept.of_below hB (fun _ => False)) (fun e => e)
      have hA4 := gca hA3 hB
      have hM4 := hM.kept4 (Kept.of_below hB (fun _ => False)) (fun _ _ _ e => e)
      obtain ⟨_, z0, z1, z2, z3, zf⟩ := id hR4
      obtain ⟨_, s0, s1⟩ := id hS4
      obtain ⟨_, p0, p1, p2, p3⟩ := id hH4
      go_upto_region 99 with fail
      obtain ⟨r0, r1, r2, r3, K⟩ := retV4 hR4 (.bool false) (.int .i64 0) (.int .i64 0) (.slice none 0 0)
      exact bodyPost_ret (v := noK.val none 0) (by simp [results, Try.results120, go_sem, r0, r1, r2, r3, noK]) rfl (by rw [hsl2.out]; exact KMPost.no (hA4.trans (K.below (B := w.heap.size) hA4.size (fun k hk e => by omega))))
  · rw [show d.slotOf m = noK from if_neg (fun e => by rw [hi] at e; cases e.1)]
    go_enter Try.func120, Try.ntmps120
    go_upto_region 2 with (go_at_call 115; refine (head_any p m d.blocks pa pc d.waiting kv (d.rd m) _ (by omega) (by have := hf.wl; omega) rfl (DD.rd_len hf (by omega)) (DD.rd_byte hf ho (by omega)) (hDr.grow hA)).mono ?_; rw [hi]; rintro e w1 ⟨rfl, hb1⟩)
    have hHb := HBox.new w1 false 0 0 0 74
    have hb2 := gal hb1 (.cells #[.bool false, .int .i64 0, .int .i64 0, .int .i64 0] 74)
    have hS2 := hS0.grow hb2
    have hR2 := hR0.grow hb2
    have hA2 := gca hA hb2
    have hRl := (hR0.grow hb1).lt
    generalize w1.alloc (.cells #[.bool false, .int .i64 0, .int .i64 0, .int .i64 0] 74) = w2 at hHb hb2 hS2 hR2 hA2 ⊢
    generalize w1.heap.size = H at hHb hRl ⊢
    clear hb1 hb2 hS0 hR0 hA
    obtain ⟨_, s0, s1⟩ := id hS2
    obtain ⟨_, p0, p1, p2, p3⟩ := id hHb
    go_upto_region 3 with (go_at_call 160; refine (image_any p m 0 d pa pc kv _ hm (by omega) hf ho (hDr.grow hA2)).mono ?_; rintro e w3 ⟨oa, c, rfl, hM, hb3⟩)
    have hR3 := hR2.grow hb3
    have hH3 := hHb.kept (Kept.of_below hb3 (fun _ => False)) (fun e => e)
    have hA3 := gca hA2 hb3
    clear s0 s1 p0 p1 p2 p3
    have hB : Below w3.heap.size w3 w3.drew := gdr (gre _)
    refine wp_regionU (fun u => HBox u H false 0 0 0) 99 (by kernel_rfl) (hH3.kept (Kept.of_below hB (fun _ => False)) (fun e => e)) (fun _ => ?_)
    refine anyU_take (i := 0) (v := ?_) rfl (by kernel_rfl) (by kernel_rfl) (by kernel_rfl) (by kernel_rfl) (fun _ _ _ h => h) (Or.inl ⟨by rfl, ?_⟩) (hH3.kept (Kept.of_below hB (fun _ => False)) (fun e => e)) ?_
    rotate_left
    · intro u hSu; (try dsimp only at hSu); go_simp <;> with_reducible rfl
    simp only [Act.put, List.getElem_toArray, List.getElem_cons_zero, List.setIfInBounds_toArray, List.set_cons_zero, List.set_cons_succ]
    refine anyU_take (i := 1) (v := ?_) rfl (by kernel_rfl) (by kernel_rfl) (by kernel_rfl) (by kernel_rfl) (fun _ _ _ h => h) (Or.inl ⟨by rfl, ?_⟩) (hH3.kept (Kept.of_below hB (fun _ => False)) (fun e => e)) ?_
    rotate_left
    · intro u hSu; obtain ⟨_, s0, s1, s2, s3⟩ := hSu; go_simp <;> with_reducible rfl
    simp only [Act.put, List.getElem_toArray, List.getElem_cons_zero, List.getElem_cons_succ, List.setIfInBounds_toArray, List.set_cons_zero, List.set_cons_succ]
    refine anyU_take (i := 2) (v := ?_) rfl (by kernel_rfl) (by kernel_rfl) (by kernel_rfl) (by kernel_rfl) (fun _ _ _ h => h) (Or.inl ⟨by rfl, ?_⟩) (hH3.kept (Kept.of_below hB (fun _ => False)) (fun e => e)) ?_
    rotate_left
    · intro u hSu; (try dsimp only at hSu); go_simp <;> with_reducible rfl
    simp only [Act.put, List.getElem_toArray, List.getElem_cons_zero, List.getElem_cons_succ, List.setIfInBounds_toArray, List.set_cons_zero, List.set_cons_succ]
    refine anyU_take (i := 3) (v := ?_) rfl (by kernel_rfl) (by kernel_rfl) (by kernel_rfl) (by kernel_rfl) (fun _ _ _ h => h) (Or.inl ⟨by rfl, ?_⟩) (hH3.kept (Kept.of_below hB (fun _ => False)) (fun e => e)) ?_
    rotate_left
    · intro u hSu; (try dsimp only at hSu); go_simp <;> with_reducible rfl
    simp only [Act.put, List.getElem_toArray, List.getElem_cons_zero, List.getElem_cons_succ, List.setIfInBounds_toArray, List.set_cons_zero, List.set_cons_succ]
    refine anyU_take (i := 4) (v := undef) rfl (by kernel_rfl) (by kernel_rfl) (by kernel_rfl) (by kernel_rfl) (fun _ _ _ h => h) (Or.inr ⟨by rfl, rfl⟩) (hH3.kept (Kept.of_below hB (fun _ => False)) (fun e => e)) ?_
    simp only [Act.put, List.getElem_toArray, List.getElem_cons_zero, List.getElem_cons_succ, List.setIfInBounds_toArray, List.set_cons_zero, List.set_cons_succ]
    refine anyU_take (i := 6) (v := undef) rfl (by kernel_rfl) (by kernel_rfl) (by kernel_rfl) (by kernel_rfl) (fun _ _ _ h => h) (Or.inr ⟨by rfl, rfl⟩) (hH3.kept (Kept.of_below hB (fun _ => False)) (fun e => e)) ?_
    simp only [Act.put, List.getElem_toArray, List.getElem_cons_zero, List.getElem_cons_succ, List.setIfInBounds_toArray, List.set_cons_zero, List.set_cons_succ]
    refine anyU_take (i := 7) (v := undef) rfl (by kernel_rfl) (by kernel_rfl) (by kernel_rfl) (by kernel_rfl) (fun _ _ _ h => h) (Or.inr ⟨by rfl, rfl⟩) (hH3.kept (Kept.of_below hB (fun _ => False)) (fun e => e)) ?_
    simp only [Act.put, List.getElem_toArray, List.getElem_cons_zero, List.getElem_cons_succ, List.setIfInBounds_toArray, List.set_cons_zero, List.set_cons_succ]
    refine anyU_skipH (i := 5) (by kernel_rfl) rfl (by rfl) (hH3.kept (Kept.of_below hB (fun _ => False)) (fun e => e)) ?_
    simp only [Act.put, List.getElem_toArray, List.getElem_cons_zero, List.getElem_cons_succ, List.setIfInBounds_toArray, List.set_cons_zero, List.set_cons_succ]
    refine anyU_skipH (i := 8) (by kernel_rfl) rfl (by rfl) (hH3.kept (Kept.of_below hB (fun _ => False)) (fun e => e)) ?_
    simp only [Act.put, List.getElem_toArray, List.getElem_cons_zero, List.getElem_cons_succ, List.setIfInBounds_toArray, List.set_cons_zero, List.set_cons_succ]
    refine anyU_one (i := 9) (by kernel_rfl) rfl (fun K hK => ?_)
    go_simp
    refine hK.out _ _ (hH3.kept (Kept.of_below hB (fun _ => False)) (fun e => e)) ?_
    clear hK
    refine anyU_done (by kernel_rfl) ?_
    have hR4 := hR3.grow hB
    have hA4 := gca hA3 hB
    generalize w3.drew = w4 at hB hR4 hA4 ⊢
    obtain ⟨_, z0, z1, z2, z3, zf⟩ := id hR4
    go_upto_region 99 with fail
    obtain ⟨r0, r1, r2, r3, K⟩ := retV4 hR4 (.bool false) (.int .i64 0) (.int .i64 0) (.slice none 0 0)
    refine bodyPost_ret (v := .agg #[.bool false, .int .i64 0, .int .i64 0, .slice none 0 0]) (by simp [results, Try.results120, go_sem, r0, r1, r2, r3]) rfl ?_
    exact KMPost.no (hA4.trans (K.below (B := w.heap.size) hA4.size (fun k hk e => by omega)))

end Go.Proofs.Ythjddpkegooobab
