import Derived.Deep.QuietTactic
import Derived.BigQuiet
import Derived.WalkSmall
import Derived.Deep.RegionHeld3
import Derived.ProofKit
import Derived.OpenShut
import Derived.Deep.Slices
import Derived.ChangeSlices
import Derived.ShutString
import Derived.ChangeOld
import Derived.Test.YtnbikemmnpldcabPartK

/-
  HELDVALS: the laws' look at the marks in a row of values. Own work.
-/
namespace Go.Proofs.Ytnbikemmnpldcab
open Go.RowKit

set_option maxRecDepth 100000 in
theorem heldValS_any (a : Option Addr) (n cap k : Nat) (w : World) (hk0 : 0 < k) (hk : k + 4 * n ≤ 1099511627776) (ha : ValsAt w.heap.size w a (markVs k n)) :
    Calls Try.prog 151 #[.slice a n cap, .int .i64 k] w fun e w' => e = .returned (.int .i64 ((k + 4 * n : Nat) : Int)) ∧ Below w.heap.size w w' := by
  go_enter Try.func151, Try.ntmps151
  go_wp2
  go_loopw [1, 5] (fun kk i ws => ∃ (j q : Nat), j ≤ n ∧ q = k + 4 * j ∧ kk = .int .i64 (q : Int) ∧ i = .int .i64 (j : Int) ∧ Below w.heap.size w ws) (fun _ i _ => n - (intOf i).toNat)
  case atStart => exact ⟨0, k, Nat.zero_le _, by omega, rfl, rfl, gre _⟩
  case round =>
    obtain ⟨j, q, hj, hq, rfl, rfl, hb⟩ := hrel
    by_cases hlt : j < n
    · have i0 : (0 : Int) ≤ (j : Int) := by omega
      have i1 : (j : Int) < (n : Int) := by omega
      obtain ⟨v, b, off, hvk, _, rfl, hbs, hva⟩ := ha.get (by rw [markVs_length]; exact hlt)
      have hv : v = markV q := by rw [hvk.out, getElem!_pos _ j (by rw [markVs_length]; exact hlt), hq]; simp [markVs]
      subst hv
      have hva := hva.below hb hbs
      have c0 : wr.cell? ⟨b, off + j * 4, none⟩ = some (.int .i64 (q : Int)) := hva.kind
      have c1 : wr.cell? ⟨b, off + j * 4 + 1, none⟩ = some (.int .i64 ((q : Int) + 1)) := hva.num
      have c2 : wr.cell? ⟨b, off + j * 4 + 2, none⟩ = some (.string (mt (q + 2))) := hva.text
      have c3 : wr.cell? ⟨b, off + j * 4 + 3, none⟩ = some (.int .i64 ((q : Int) + 1 + 1 + 1)) := hva.node
      have hqq : q + 4 ≤ 1099511627776 := by omega
      have hq' : Hid _ := hq
      clear hq ha hvk hva
      go_wp2
      refine wp_regionU (fun u => u.cell? ⟨b, off + j * 4 + 2, none⟩ = some (.string (mt (q + 2)))) 99 (by kernel_rfl) c2 (fun hS0 => ?_)
      refine anyU_take (i := 0) (v := ?_) rfl (by kernel_rfl) (by kernel_rfl) (by kernel_rfl) (by kernel_rfl) (fun _ _ _ h => h) (Or.inl ⟨by rfl, ?_⟩) hS0 ?_
      rotate_left
      · intro u hSu; (try dsimp only at hSu); go_simp <;> with_reducible rfl
      simp only [Act.put, List.getElem_toArray, List.getElem_cons_zero, List.setIfInBounds_toArray, List.set_cons_zero, List.set_cons_succ]
      refine anyU_take (i := 1) (v := ?_) rfl (by kernel_rfl) (by kernel_rfl) (by kernel_rfl) (by kernel_rfl) (fun _ _ _ h => h) (Or.inl ⟨by rfl, ?_⟩) hS0 ?_
      rotate_left
      · intro u hSu; (try dsimp only at hSu); go_simp <;> with_reducible rfl
      simp only [Act.put, List.getElem_toArray, List.getElem_cons_zero, List.getElem_cons_succ, List.setIfInBounds_toArray, List.set_cons_zero, List.set_cons_succ]
      refine anyU_take (i := 2) (v := ?_) rfl (by kernel_rfl) (by kernel_rfl) (by kernel_rfl) (by kernel_rfl) (fun _ _ _ h => h) (Or.inl ⟨by rfl, ?_⟩) hS0 ?_
      rotate_left
      · intro u hSu; (try dsimp only at hSu); go_simp <;> with_reducible rfl
      simp only [Act.put, List.getElem_toArray, List.getElem_cons_zero, List.getElem_cons_succ, List.setIfInBounds_toArray, List.set_cons_zero, List.set_cons_succ]
      refine anyU_take (i := 3) (v := ?_) rfl (by kernel_rfl) (by kernel_rfl) (by kernel_rfl) (by kernel_rfl) (fun _ _ _ h => h) (Or.inl ⟨by rfl, ?_⟩) hS0 ?_
      rotate_left
      · intro u hSu; (try dsimp only at hSu); go_simp <;> with_reducible rfl
      simp only [Act.put, List.getElem_toArray, List.getElem_cons_zero, List.getElem_cons_succ, List.setIfInBounds_toArray, List.set_cons_zero, List.set_cons_succ]
      refine anyU_take (i := 4) (v := ?_) rfl (by kernel_rfl) (by kernel_rfl) (by kernel_rfl) (by kernel_rfl) (fun _ _ _ h => h) (Or.inl ⟨by rfl, ?_⟩) hS0 ?_
      rotate_left
      · intro u hSu; (try dsimp only at hSu); go_simp <;> with_reducible rfl
      simp only [Act.put, List.getElem_toArray, List.getElem_cons_zero, List.getElem_cons_succ, List.setIfInBounds_toArray, List.set_cons_zero, List.set_cons_succ]
      refine anyU_take (i := 5) (v := ?_) rfl (by kernel_rfl) (by kernel_rfl) (by kernel_rfl) (by kernel_rfl) (fun _ _ _ h => h) (Or.inl ⟨by rfl, ?_⟩) hS0 ?_
      rotate_left
      · intro u hSu; (try dsimp only at hSu); go_simp <;> with_reducible rfl
      simp only [Act.put, List.getElem_toArray, List.getElem_cons_zero, List.getElem_cons_succ, List.setIfInBounds_toArray, List.set_cons_zero, List.set_cons_succ]
      refine anyU_one (i := 6) (by kernel_rfl) rfl (fun K hK => ?_)
      go_simp
      rw [show ((q : Int) + 1 + 1) = ((q + 2 : Nat) : Int) by omega]
      refine (markText_any (q + 2) _ (by omega) (by omega)).mono ?_
      rintro e w1 ⟨rfl, hb1⟩
      rw [← show ((q : Int) + 1 + 1) = ((q + 2 : Nat) : Int) by omega]
      have hb2 := gca (gdr hb) hb1
      have c3' := cell_later hb1 (show wr.drew.cell? _ = _ from c3)
      have hS1 := cell_later hb1 hS0
      refine hK.out _ _ hS1 ?_
      clear hK
      refine anyU_one (i := 7) (by kernel_rfl) rfl (fun K hK => ?_)
      go_simp
      refine hK.out _ _ hS1 ?_
      clear hK
      refine anyU_done (by kernel_rfl) ?_
      clear c0 c1 c2 c3 hS0
      go_wp2
      go_roundw
      case rel => exact ⟨j + 1, q + 4, by omega, by have := hq'.out; omega, by go_num, by go_num, hb2⟩
      case measure => simp [intOf]; omega
    · have e : j = n := by omega
      subst e
      go_wp2
      go_ret
      exact ⟨by rw [← hq]; rfl, hb⟩

end Go.Proofs.Ytnbikemmnpldcab

/-
  MARKNODES: the laws' marks in a graph, and their look at them. Own work.
-/
namespace Go.Proofs.Ytnbikemmnpldcab
open Go.RowKit

set_option maxRecDepth 100000 in
theorem markValS_none (a : Option Addr) (cap k : Nat) (w : World) :
    Calls Try.prog 119 #[.slice a 0 cap, .int .i64 k] w fun e w' => e = .returned (.int .i64 (k : Int)) ∧ Below w.heap.size w w' := by
  go_enter Try.func119, Try.ntmps119
  go_wp2
  go_loopw [1, 5] (fun kk i ws => kk = .int .i64 (k : Int) ∧ i = .int .i64 0 ∧ Below w.heap.size w ws) (fun _ _ _ => 0)
  case atStart => exact ⟨rfl, rfl, gre _⟩
  case round =>
    obtain ⟨rfl, rfl, hb⟩ := hrel
    go_wp2
    go_ret
    exact ⟨rfl, hb⟩

set_option maxRecDepth 100000 in
/-- marking any row of values of a graph -/
theorem markValS_row (a : Option Addr) (n cap k : Nat) (w : World) (hk0 : 0 < k) (hk : k + 4 * n ≤ 1099511627776) (hr : 0 < n → ∃ b, a = some ⟨b, 0, none⟩ ∧ WRow w b (n * 4)) :
    Calls Try.prog 119 #[.slice a n cap, .int .i64 k] w fun e w' => e = .returned (.int .i64 ((k + 4 * n : Nat) : Int)) ∧ Kept (fun x => a = some ⟨x, 0, none⟩) w w' ∧ (0 < n → ∃ b, a = some ⟨b, 0, none⟩ ∧ WRow w' b (n * 4)) ∧ ValsAt w'.heap.size w' a (markVs k n) := by
  by_cases hn : 0 < n
  · obtain ⟨b, rfl, hw⟩ := hr hn
    refine (markValS_any b n cap k w hk0 hk hw).mono ?_
    rintro e w' ⟨rfl, h⟩
    exact ⟨rfl, h.kept.mono (fun x _ hx => by rw [hx]), fun _ => ⟨b, rfl, h.row⟩, h.at_ h.row.lt⟩
  · obtain rfl : n = 0 := by omega
    refine (markValS_none a cap k w).mono ?_
    rintro e w' ⟨rfl, hb⟩
    exact ⟨rfl, Kept.of_below hb _, fun h => absurd h (Nat.lt_irrefl _), fun i hi => absurd hi (by rw [markVs_length]; omega)⟩

set_option maxRecDepth 100000 in
theorem markNodeS_any (na : Option Addr) (nc : Nat) (ns : List GN) (va : Nat → Option Addr) (vc : Nat → Nat) (k : Nat) (w : World) (_hk0 : 0 < k) (hk : mEnd k ns ≤ 1099511627776) (hl : ns.length ≤ maxLen) (h : MG w na ns va vc) :
    Calls Try.prog 75 #[.slice na ns.length nc, .int .i64 k] w fun e w' => e = .returned (.int .i64 (mEnd k ns : Nat)) ∧ NM w w' na ns va vc k ns.length := by
  unfold maxLen at hl
  go_enter Try.func75, Try.ntmps75
  go_wp2
  go_loopw [1, 5] (fun kk i ws => ∃ (j q : Nat), j ≤ ns.length ∧ q = mEnd k (ns.take j) ∧ kk = .int .i64 (q : Int) ∧ i = .int .i64 (j : Int) ∧ NM w ws na ns va vc k j) (fun _ i _ => ns.length - (intOf i).toNat)
  case atStart => exact ⟨0, k, Nat.zero_le _, rfl, rfl, rfl, Kept.refl _ _, h, fun _ _ i hi => absurd hi (Nat.not_lt_zero _), fun i hi => absurd hi (Nat.not_lt_zero _)⟩
  case round =>
    obtain ⟨j, q, hj, hq, rfl, rfl, hD⟩ := hrel
    by_cases hlt : j < ns.length
    · have i0 : (0 : Int) ≤ (j : Int) := by omega
      have i1 : (j : Int) < (ns.length : Int) := by omega
      obtain ⟨g, rfl, hwr⟩ := hD.mg.nodes (by omega)
      obtain ⟨v0, c0⟩ := hwr.c (j * 2) (by omega)
      have c1 := hD.mg.sl g rfl j hlt
      have c1' := (World.cell?_setCell_other wr ⟨g, j * 2, none⟩ ⟨g, j * 2 + 1, none⟩ (.int .i64 (q : Int)) (by simp)).trans c1
      have hf := hwr.f
      have h1 := mEnd_take_le ns k (j + 1)
      have h2 := mEnd_take_succ ns k j hlt
      have h3 := mEnd_le (ns.take j) k
      have hqq : q + 1 + 4 * ns[j]!.vals.length ≤ 1099511627776 := by omega
      have hq0 : k ≤ q := by omega
      have hvr : 0 < ns[j]!.vals.length → ∃ b, va j = some ⟨b, 0, none⟩ ∧ WRow (wr.setCell ⟨g, j * 2, none⟩ (.int .i64 (q : Int))) b (ns[j]!.vals.length * 4) := fun hl => by
        obtain ⟨b, hb, hr⟩ := hD.mg.vals j hlt hl
        exact ⟨b, hb, hr.set _ _⟩
      obtain ⟨n, hn⟩ : ∃ n, Hid (n = ns[j]!.vals.length) := ⟨_, rfl⟩
      rw [← hn.out] at c1 c1' hqq hvr
      have hq' : Hid _ := hq
      have h2' : Hid _ := h2
      clear h1 h2 h3 c1 hq
      go_wp2_with (go_at_call 119; rw [show ((q : Int) + 1) = ((q + 1 : Nat) : Int) by omega]; refine (markValS_row (va j) n (vc j) (q + 1) _ (by omega) (by omega) hvr).mono ?_; rintro e w2 ⟨rfl, hK2, hw2, hv2⟩)
      have hfin := hD.step hlt rfl (by rw [← hq'.out]; exact hK2) (by rw [← hn.out]; exact hw2) (by rw [← hq'.out, ← hn.out]; exact hv2)
      have hqe : Hid (q + 1 + 4 * n = mEnd k (ns.take (j + 1))) := by have h9 := h2'.out; have h8 := hq'.out; have h7 := hn.out; show _ = _; omega
      refine ⟨⟨j + 1, q + 1 + 4 * n, by omega, hqe.out, by go_num, by go_num, hfin⟩, ?_⟩
      simp [intOf]; omega
    · have e : j = ns.length := by omega
      subst e
      rw [List.take_length] at hq
      subst hq
      go_wp2
      go_ret
      exact ⟨rfl, hD⟩

set_option maxRecDepth 100000 in
theorem heldNodeS_any (na : Option Addr) (nc : Nat) (ns : List GN) (k : Nat) (w : World) (hk0 : 0 < k) (hk : mEnd k ns ≤ 1099511627776) (hl : ns.length ≤ maxLen) (ha : NodesAt w.heap.size w na (markNs k ns)) :
    Calls Try.prog 127 #[.slice na ns.length nc, .int .i64 k] w fun e w' => e = .returned (.int .i64 (mEnd k ns : Nat)) ∧ Below w.heap.size w w' := by
  unfold maxLen at hl
  go_enter Try.func127, Try.ntmps127
  go_wp2
  go_loopw [1, 5] (fun kk i ws => ∃ (j q : Nat), j ≤ ns.length ∧ q = mEnd k (ns.take j) ∧ kk = .int .i64 (q : Int) ∧ i = .int .i64 (j : Int) ∧ Below w.heap.size w ws) (fun _ i _ => ns.length - (intOf i).toNat)
  case atStart => exact ⟨0, k, Nat.zero_le _, rfl, rfl, rfl, gre _⟩
  case round =>
    obtain ⟨j, q, hj, hq, rfl, rfl, hb⟩ := hrel
    by_cases hlt : j < ns.length
    · have i0 : (0 : Int) ≤ (j : Int) := by omega
      have i1 : (j : Int) < (ns.length : Int) := by omega
      obtain ⟨m, b, off, av, cv, hvk, _, rfl, hbs, hva⟩ := ha.get (by rw [markNs_length]; exact hlt)
      obtain ⟨n, hn⟩ : ∃ n, Hid (n = ns[j]!.vals.length) := ⟨_, rfl⟩
      have hm : m = ⟨(q : Int), markVs (q + 1) n⟩ := by rw [hvk.out, markNs_at ns k j hlt, hq, hn.out]
      subst hm
      have hva := hva.below hb hbs
      have c0 : wr.cell? ⟨b, off + j * 2, none⟩ = some (.int .i64 (q : Int)) := hva.tag
      have c1 : wr.cell? ⟨b, off + j * 2 + 1, none⟩ = some (.slice av n cv) := by have := hva.sl; rwa [markVs_length] at this
      have hv1 : ValsAt wr.heap.size wr av (markVs (q + 1) n) := hva.vals.mono hb.size
      have h1 := mEnd_take_le ns k (j + 1)
      have h2 := mEnd_take_succ ns k j hlt
      have h3 := mEnd_le (ns.take j) k
      have h4 := hn.out
      have hqq : q + 1 + 4 * n ≤ 1099511627776 := by omega
      have hq0 : k ≤ q := by omega
      have hqe : Hid (q + 1 + 4 * n = mEnd k (ns.take (j + 1))) := by show _ = _; omega
      clear h1 h2 h3 h4 hq ha hvk hva
      have hd : ¬ ((q : Int) + 1 + 4 * (n : Int) < 0) := by omega
      go_wp2_with (go_at_call 151; rw [show ((q : Int) + 1) = ((q + 1 : Nat) : Int) by omega]; refine (heldValS_any av n cv (q + 1) _ (by omega) (by omega) hv1).mono ?_; rintro e w2 ⟨rfl, hb2⟩)
      go_roundw
      case rel => exact ⟨j + 1, q + 1 + 4 * n, by omega, hqe.out, by go_num, by go_num, gca hb hb2⟩
      case measure => simp [intOf]; omega
    · have e : j = ns.length := by omega
      subst e
      rw [List.take_length] at hq
      subst hq
      go_wp2
      go_ret
      exact ⟨rfl, hb⟩

set_option maxRecDepth 100000 in
theorem MG.kept {p : Nat → Prop} {w w' : World} {na : Option Addr} {ns : List GN} {va : Nat → Option Addr} {vc : Nat → Nat} (h : MG w na ns va vc) (k : Kept p w w') (hn : ∀ b, na = some ⟨b, 0, none⟩ → ¬ p b) (hv : ∀ i, i < ns.length → ∀ b, va i = some ⟨b, 0, none⟩ → ¬ p b) : MG w' na ns va vc :=
  ⟨fun h0 => let ⟨g, hg, hr⟩ := h.nodes h0; ⟨g, hg, hr.kept k (hn g hg)⟩, fun g hg i hi => k.cell (h.sl g hg i hi) (hn g hg), fun i hi h0 => let ⟨b, hb, hr⟩ := h.vals i hi h0; ⟨b, hb, hr.kept k (hv i hi b hb)⟩, h.apn, h.apv⟩
theorem MG.grow {w w' : World} {na : Option Addr} {ns : List GN} {va : Nat → Option Addr} {vc : Nat → Nat} (h : MG w na ns va vc) (hb : Below w.heap.size w w') : MG w' na ns va vc := h.kept (Kept.of_below hb (fun _ => False)) (fun _ _ e => e) (fun _ _ _ _ e => e)

/-- the blocks that a graph's marks touch -/
def Touch (na : Option Addr) (n : Nat) (va : Nat → Option Addr) (b : Nat) : Prop := na = some ⟨b, 0, none⟩ ∨ ∃ i, i < n ∧ va i = some ⟨b, 0, none⟩

set_option maxRecDepth 100000 in
theorem markGraph_any (g : GG) (na : Option Addr) (nc : Nat) (va : Nat → Option Addr) (vc : Nat → Nat) (k : Nat) (w : World) (hk0 : 0 < k) (hk : mEnd k g.nodes ≤ 1099511627776) (hl : g.nodes.length ≤ maxLen) (h : MG w na g.nodes va vc) :
    Calls Try.prog 19 #[g.val na nc, .int .i64 k] w fun e w' => e = .returned (.int .i64 (mEnd k g.nodes : Nat)) ∧ Kept (Touch na g.nodes.length va) w w' ∧ NodesAt w'.heap.size w' na (markNs k g.nodes) := by
  go_enter Try.func19, Try.ntmps19
  go_wp2_with (go_at_call 75; refine (markNodeS_any na nc g.nodes va vc k _ hk0 hk hl (h.grow (gal (gre _) _))).mono ?_; rintro e w' ⟨rfl, hN⟩)
  go_ret
  exact ⟨rfl, (Kept.of_below (gal (gre w) _) _).trans hN.kept (fun _ _ hp => hp), hN.at_⟩

set_option maxRecDepth 100000 in
theorem heldGraph_any (g : GG) (na : Option Addr) (nc k : Nat) (w : World) (hk0 : 0 < k) (hk : mEnd k g.nodes ≤ 1099511627776) (hl : g.nodes.length ≤ maxLen) (ha : NodesAt w.heap.size w na (markNs k g.nodes)) :
    Calls Try.prog 82 #[g.val na nc, .int .i64 k] w fun e w' => e = .returned (.int .i64 (mEnd k g.nodes : Nat)) ∧ Below w.heap.size w w' := by
  have hd : ¬ (((mEnd k g.nodes : Nat) : Int) < 0) := by omega
  go_enter Try.func82, Try.ntmps82
  go_wp2_with (go_at_call 127; refine (heldNodeS_any na nc g.nodes k _ hk0 hk hl (ha.grow (gal (gre _) _))).mono ?_; rintro e w' ⟨rfl, hb⟩)
  go_ret
  exact ⟨rfl, gca (gal (gre _) _) hb⟩

end Go.Proofs.Ytnbikemmnpldcab

/-
  LATER: small facts for laws on graphs. Own work.
-/
namespace Go.Proofs.Ytnbikemmnpldcab
open Go.RowKit

theorem OwnG.later {w w' : World} {base : Nat} {na : Option Addr} {nc : Nat} {nl : List NL} (h : OwnG w base na nc nl) (hb : Below w.heap.size w w') : OwnG w' base na nc nl := h.kept (Kept.of_below hb (fun _ => False)) (fun _ _ e => e) (fun _ _ _ _ e => e)
theorem canonZ_ok {g : GG} (hg : g.Ok) : (canonZ g).Ok := by
  unfold canonZ
  split
  · exact canon_ok hg (by assumption)
  · exact ⟨⟨by unfold I64; simp, by unfold I64; simp, by show 0 ≤ maxLen; exact Nat.zero_le _, by unfold I64; simp⟩, by show 0 ≤ maxLen; exact Nat.zero_le _, fun n hn => by cases hn⟩
theorem OwnG.touch {w : World} {base : Nat} {na : Option Addr} {nc : Nat} {nl : List NL} (h : OwnG w base na nc nl) {b : Nat} (hb : Touch na nl.length (fun i => nl[i]!.a) b) : base ≤ b ∧ b < w.heap.size := by
  rcases hb with e | ⟨i, hi, e⟩
  · exact h.nodes.lt b (by rw [e]; rfl)
  · exact (h.vals _ (mem_at hi)).lt b (by simp only at e; rw [e]; rfl)
theorem OwnNodes.touch {w : World} {N : Nat} {bs : Nat → Nat} {ns : List GN} (h : OwnNodes w N bs ns) {b : Nat} (hb : Touch (some ⟨N, 0, none⟩) ns.length (fun i => some ⟨bs i, 0, none⟩) b) : N ≤ b ∧ b < w.heap.size := by
  obtain ⟨f, hr, hn⟩ := h
  rcases hb with e | ⟨i, hi, e⟩
  · have e2 := some_addr e
    subst e2
    exact ⟨Nat.le_refl _, hr.lt⟩
  · have e2 := some_addr e
    obtain ⟨_, _, h2, h3, _⟩ := hn i hi
    have := h2.lt
    subst e2
    exact ⟨by omega, this⟩

theorem mEnd_small (l : List GN) (h : ∀ n, n ∈ l → n.vals.length ≤ 100) : ∀ k, mEnd k l ≤ k + 401 * l.length := by
  induction l with
  | nil => intro k; simp [mEnd]
  | cons x r ih =>
    intro k
    have h1 := ih (fun n hn => h n (List.mem_cons_of_mem _ hn)) (k + 1 + 4 * x.vals.length)
    have h2 := h x (List.mem_cons_self ..)
    simp only [mEnd, List.length_cons]
    omega
theorem canonZ_small (g : GG) : (canonZ g).nodes.length ≤ 300 ∧ mEnd 1 (canonZ g).nodes ≤ 1099511627776 := by
  unfold canonZ
  split
  · rename_i hok
    have h := canon_small hok
    have h2 := mEnd_small (canon g).nodes h.2 1
    exact ⟨h.1, by omega⟩
  · exact ⟨Nat.zero_le _, by simp [mEnd]⟩

end Go.Proofs.Ytnbikemmnpldcab

/-
  EQ: the laws' comparisons, where both are the same. Own work.
-/
namespace Go.Proofs.Ytnbikemmnpldcab
open Go.RowKit

set_option maxRecDepth 100000 in
theorem eqVal_same (v : GV) (w : World) :
    Calls Try.prog 73 #[v.val, v.val] w fun e w' => e = .returned (.bool true) ∧ Below w.heap.size w w' := by
  go_enter Try.func73, Try.ntmps73
  go_wp2
  all_goals go_ret
  all_goals exact ⟨rfl, gal (gal (gre _) _) _⟩

set_option maxRecDepth 100000 in
theorem eqValS_same (a a' : Option Addr) (cap cap' : Nat) (vs : List GV) (w : World) (hl : vs.length ≤ maxLen) (ha : ValsAt w.heap.size w a vs) (ha' : ValsAt w.heap.size w a' vs) :
    Calls Try.prog 145 #[.slice a vs.length cap, .slice a' vs.length cap'] w fun e w' => e = .returned (.bool true) ∧ Below w.heap.size w w' := by
  unfold maxLen at hl
  go_enter Try.func145, Try.ntmps145
  go_wp2
  go_loopw [5] (fun i wr => ∃ k : Nat, k ≤ vs.length ∧ i = .int .i64 k ∧ Below w.heap.size w wr) (fun i _ => vs.length - (intOf i).toNat)
  case atStart => exact ⟨0, Nat.zero_le _, rfl, Below.refl _ _⟩
  case round =>
    obtain ⟨k, hk, rfl, hb⟩ := hrel
    by_cases hlt : k < vs.length
    · obtain ⟨v, b, off, hvk, hvm, rfl, hbs, hva⟩ := ha.get hlt
      obtain ⟨v', b', off', hvk', hvm', rfl, hbs', hva'⟩ := ha'.get hlt
      have e : v' = v := by rw [hvk.out, hvk'.out]
      subst e
      have hva := hva.below hb hbs
      have hva' := hva'.below hb hbs'
      have hz1 : b < wr.heap.size := Nat.lt_of_lt_of_le hbs hb.size
      have hz2 : b' < wr.heap.size := Nat.lt_of_lt_of_le hbs' hb.size
      have c0 := hva.kind
      have c1 := hva.num
      have c2 := hva.text
      have c3 := hva.node
      have d0 := hva'.kind
      have d1 := hva'.num
      have d2 := hva'.text
      have d3 := hva'.node
      have i0 : (0 : Int) ≤ (k : Int) := by omega
      have i1 : (k : Int) < (vs.length : Int) := by omega
      clear ha ha' hvk hvk' hva hva'
      go_wp2
      go_region_held3 (fun w' => w'.cell? ⟨b, off + k * 4, none⟩ = some (.int .i64 v'.kind) ∧ w'.cell? ⟨b, off + k * 4 + 1, none⟩ = some (.int .i64 v'.num) ∧ w'.cell? ⟨b, off + k * 4 + 2, none⟩ = some (.string v'.text) ∧ w'.cell? ⟨b, off + k * 4 + 3, none⟩ = some (.int .i64 v'.node) ∧ w'.cell? ⟨b', off' + k * 4, none⟩ = some (.int .i64 v'.kind) ∧ w'.cell? ⟨b', off' + k * 4 + 1, none⟩ = some (.int .i64 v'.num) ∧ w'.cell? ⟨b', off' + k * 4 + 2, none⟩ = some (.string v'.text) ∧ w'.cell? ⟨b', off' + k * 4 + 3, none⟩ = some (.int .i64 v'.node)) (first | go_keep | (go_split_ands; refine ⟨?_, ?_, ?_, ?_, ?_, ?_, ?_, ?_⟩ <;> exact cell_later hb' (by assumption))) ((go_at_call 73; refine (eqVal_same v' _).mono ?_; rintro e w' ⟨rfl, hb'⟩))
      go_wp2
      go_roundw
      case rel => exact ⟨k + 1, by omega, by go_num, gca (gdr hb) hb'⟩
      case measure => simp [intOf]; omega
    · go_wp2
      go_ret
      exact ⟨rfl, hb⟩

set_option maxRecDepth 100000 in
theorem eqNode_same (a a' : Option Addr) (cap cap' : Nat) (n : GN) (w : World) (hl : n.vals.length ≤ maxLen) (ha : ValsAt w.heap.size w a n.vals) (ha' : ValsAt w.heap.size w a' n.vals) :
    Calls Try.prog 118 #[.agg #[.int .i64 n.tag, .slice a n.vals.length cap], .agg #[.int .i64 n.tag, .slice a' n.vals.length cap']] w fun e w' => e = .returned (.bool true) ∧ Below w.heap.size w w' := by
  go_enter Try.func118, Try.ntmps118
  go_wp2_with (go_at_call 145; refine (eqValS_same a a' cap cap' n.vals _ hl (ha.grow (gal (gal (gre _) _) _)) (ha'.grow (gal (gal (gre _) _) _))).mono ?_; rintro e w' ⟨rfl, hb'⟩)
  go_ret
  exact ⟨rfl, gca (gal (gal (gre _) _) _) hb'⟩

set_option maxRecDepth 100000 in
theorem eqNodeS_same (a a' : Option Addr) (cap cap' : Nat) (ns : List GN) (w : World) (hl : ns.length ≤ maxLen) (hv : ∀ n, n ∈ ns → n.vals.length ≤ maxLen) (ha : NodesAt w.heap.size w a ns) (ha' : NodesAt w.heap.size w a' ns) :
    Calls Try.prog 74 #[.slice a ns.length cap, .slice a' ns.length cap'] w fun e w' => e = .returned (.bool true) ∧ Below w.heap.size w w' := by
  unfold maxLen at hl
  go_enter Try.func74, Try.ntmps74
  go_wp2
  go_loopw [5] (fun i wr => ∃ k : Nat, k ≤ ns.length ∧ i = .int .i64 k ∧ Below w.heap.size w wr) (fun i _ => ns.length - (intOf i).toNat)
  case atStart => exact ⟨0, Nat.zero_le _, rfl, Below.refl _ _⟩
  case round =>
    obtain ⟨k, hk, rfl, hb⟩ := hrel
    by_cases hlt : k < ns.length
    · obtain ⟨n, b, off, av, cv, hvk, hvm, rfl, hbs, hva⟩ := ha.get hlt
      obtain ⟨n', b', off', av', cv', hvk', hvm', rfl, hbs', hva'⟩ := ha'.get hlt
      have e : n' = n := by rw [hvk.out, hvk'.out]
      subst e
      have hva := hva.below hb hbs
      have hva' := hva'.below hb hbs'
      have c0 := hva.tag
      have c1 := hva.sl
      have d0 := hva'.tag
      have d1 := hva'.sl
      have i0 : (0 : Int) ≤ (k : Int) := by omega
      have i1 : (k : Int) < (ns.length : Int) := by omega
      have hvl := hv n' hvm
      have hv1 : ValsAt wr.drew.heap.size wr.drew av n'.vals := (hva.vals.mono hb.size).grow (gdr (gre _))
      have hv2 : ValsAt wr.drew.heap.size wr.drew av' n'.vals := (hva'.vals.mono hb.size).grow (gdr (gre _))
      clear ha ha' hvk hvk' hva hva'
      go_wp2
      go_region_held3 (fun w' => w'.cell? ⟨b, off + k * 2, none⟩ = some (.int .i64 n'.tag) ∧ w'.cell? ⟨b, off + k * 2 + 1, none⟩ = some (.slice av n'.vals.length cv) ∧ w'.cell? ⟨b', off' + k * 2, none⟩ = some (.int .i64 n'.tag) ∧ w'.cell? ⟨b', off' + k * 2 + 1, none⟩ = some (.slice av' n'.vals.length cv')) (first | go_keep | (go_split_ands; refine ⟨?_, ?_, ?_, ?_⟩ <;> exact cell_later hb' (by assumption))) ((go_at_call 118; refine (eqNode_same av av' cv cv' n' _ hvl hv1 hv2).mono ?_; rintro e w' ⟨rfl, hb'⟩))
      go_wp2
      go_roundw
      case rel => exact ⟨k + 1, by omega, by go_num, gca (gdr hb) hb'⟩
      case measure => simp [intOf]; omega
    · go_wp2
      go_ret
      exact ⟨rfl, hb⟩

set_option maxRecDepth 100000 in
theorem eqGraph_same (a a' : Option Addr) (cap cap' : Nat) (g : GG) (w : World) (hg : g.Ok) (ha : NodesAt w.heap.size w a g.nodes) (ha' : NodesAt w.heap.size w a' g.nodes) :
    Calls Try.prog 18 #[g.val a cap, g.val a' cap'] w fun e w' => e = .returned (.bool true) ∧ Below w.heap.size w w' := by
  go_enter Try.func18, Try.ntmps18
  go_wp2_with (first | (go_at_call 73; refine (eqVal_same g.root _).mono ?_; rintro e w' ⟨rfl, hb'⟩; obtain ⟨hc, hf⟩ := bcell hb') | (go_at_call 74; refine (eqNodeS_same a a' cap cap' g.nodes _ hg.len (fun n hn => (hg.nodes n hn).len) (ha.grow (gca (gal (gal (gre _) _) _) hb')) (ha'.grow (gca (gal (gal (gre _) _) _) hb'))).mono ?_; rintro e w'' ⟨rfl, hb''⟩))
  go_ret
  exact ⟨rfl, gca (gca (gal (gal (gre _) _) _) hb') hb''⟩

end Go.Proofs.Ytnbikemmnpldcab

/-
  LAW: FnExactUnpack, walked. Own work.
-/
namespace Go.Proofs.Ytnbikemmnpldcab
open Go.RowKit

theorem MB.kept2 {p : Nat → Prop} {w w' : World} {lo : Nat} {oa : Option Addr} {ys : List Nat} (h : MB w lo oa ys) (k : Kept p w w') (hp : ∀ b, oa = some ⟨b, 0, none⟩ → ¬ p b) : MB w' lo oa ys := by
  rcases h with rfl | ⟨G, n, rfl, hG, hB⟩
  · exact Or.inl rfl
  · exact Or.inr ⟨G, n, rfl, hG, hB.kept k (hp G rfl)⟩
theorem MB.grow2 {w w' : World} {lo : Nat} {oa : Option Addr} {ys : List Nat} (h : MB w lo oa ys) (k : Below w.heap.size w w') : MB w' lo oa ys := h.kept2 (Kept.of_below k (fun _ => False)) (fun _ _ e => e)

theorem unB_cases (bs : List Nat) : (unB bs).2 = zeroG ∨ (okG (unB bs).2 = true ∧ (unB bs).2.Ok) := by
  unfold unB
  cases h : rdGraph bs with
  | none => exact Or.inl rfl
  | some y =>
    obtain ⟨g, q⟩ := y
    by_cases hp : packB g = bs
    · right
      have e : (if packB g = bs then (true, g) else (false, zeroG)) = (true, g) := if_pos hp
      dsimp only
      rw [e]
      refine ⟨?_, rdGraph_ok h⟩
      by_cases ho : okG g = true ∧ (imageB g).length ≤ 4096
      · exact ho.1
      · unfold packB at hp
        rw [if_neg ho] at hp
        rw [← hp] at h
        cases h
    · left
      have e : (if packB g = bs then (true, g) else (false, zeroG)) = (false, zeroG) := if_neg hp
      dsimp only
      rw [e]
theorem zeroG_ok : zeroG.Ok := ⟨⟨small_i64 (by show (0 : Int) ≤ 0 ∧ (0 : Int) ≤ 1000000; omega), small_i64 (by show (0 : Int) ≤ 0 ∧ (0 : Int) ≤ 1000000; omega), Nat.zero_le _, small_i64 (by show (0 : Int) ≤ 0 ∧ (0 : Int) ≤ 1000000; omega)⟩, Nat.zero_le _, fun n hn => (by cases hn)⟩
theorem unB_ok (bs : List Nat) : (unB bs).2.Ok ∧ (unB bs).2.nodes.length ≤ 300 ∧ mEnd 1 (unB bs).2.nodes ≤ 1099511627776 := by
  rcases unB_cases bs with h | ⟨h, ho⟩
  · rw [h]
    exact ⟨zeroG_ok, Nat.zero_le _, by show mEnd 1 [] ≤ _; simp [mEnd]⟩
  · obtain ⟨h1, _, h3⟩ := okG_parts h
    have h4 := mEnd_small (unB bs).2.nodes (fun n hn => (okN_parts (h3 n hn)).1) 1
    exact ⟨ho, h1, by omega⟩

set_option maxRecDepth 100000 in
theorem eqUnpacked_same (ok : Bool) (g : GG) (na na' : Option Addr) (nc nc' : Nat) (w : World) (hg : g.Ok) (h1 : NodesAt w.heap.size w na g.nodes) (h2 : NodesAt w.heap.size w na' g.nodes) :
    Calls Try.prog 25 #[unVal ok g na nc, unVal ok g na' nc'] w fun e w' => e = .returned (.bool true) ∧ Below w.heap.size w w' := by
  have hne : (ok != ok) = false := by cases ok <;> rfl
  go_enter Try.func25, Try.ntmps25
  go_wp2_with (go_at_call 18; refine (eqGraph_same na na' nc nc' g _ hg (h1.grow (gal (gal (gre _) _) _)) (h2.grow (gal (gal (gre _) _) _))).mono ?_; rintro e w1 ⟨rfl, hb⟩)
  go_ret
  exact ⟨rfl, gca (gal (gal (gre _) _) _) hb⟩

set_option maxRecDepth 100000 in
theorem markUnpacked_any (ok : Bool) (g : GG) (na : Option Addr) (nc : Nat) (va : Nat → Option Addr) (vc : Nat → Nat) (k : Nat) (w : World) (hk0 : 0 < k) (hk : mEnd k g.nodes ≤ 1099511627776) (hl : g.nodes.length ≤ maxLen) (h : MG w na g.nodes va vc) :
    Calls Try.prog 26 #[unVal ok g na nc, .int .i64 k] w fun e w' => e = .returned (.int .i64 (mEnd k g.nodes : Nat)) ∧ Kept (Touch na g.nodes.length va) w w' ∧ NodesAt w'.heap.size w' na (markNs k g.nodes) := by
  go_enter Try.func26, Try.ntmps26
  go_wp2_with (go_at_call 19; refine (markGraph_any g na nc va vc k _ hk0 hk hl (h.grow (gal (gre _) _))).mono ?_; rintro e w1 ⟨rfl, hK, hN⟩)
  go_ret
  exact ⟨rfl, ((Kept.refl _ w).alloc _).trans hK (fun _ _ e => e), hN⟩

set_option maxRecDepth 100000 in
theorem heldUnpacked_any (ok : Bool) (g : GG) (na : Option Addr) (nc k : Nat) (w : World) (hk0 : 0 < k) (hk : mEnd k g.nodes ≤ 1099511627776) (hl : g.nodes.length ≤ maxLen) (ha : NodesAt w.heap.size w na (markNs k g.nodes)) :
    Calls Try.prog 27 #[unVal ok g na nc, .int .i64 k] w fun e w' => e = .returned (.int .i64 (mEnd k g.nodes : Nat)) ∧ Below w.heap.size w w' := by
  have hd : ¬ (((mEnd k g.nodes : Nat) : Int) < 0) := by omega
  go_enter Try.func27, Try.ntmps27
  go_wp2_with (go_at_call 82; refine (heldGraph_any g na nc k _ hk0 hk hl (ha.grow (gal (gre _) _))).mono ?_; rintro e w1 ⟨rfl, hb⟩)
  go_ret
  exact ⟨rfl, gca (gal (gre _) _) hb⟩

set_option maxHeartbeats 4000000 in
set_option maxRecDepth 100000 in
theorem lawUnpack (a : Option Addr) (cap : Nat) (bs : List Nat) (w : World) (ha : BytesAt w a bs) (_hcap : bs.length ≤ cap) (hml : bs.length ≤ maxLen) (hx : ∀ x, x ∈ bs → x < 256) :
    Calls Try.prog 4 #[.slice a bs.length cap] w fun e w' => e = .returned (.bool true) ∧ Below w.heap.size w w' := by
  have hml' := hml
  unfold maxLen at hml'
  by_cases hs : bs.length ≤ 1048576
  · have hd : ¬ ((1048576 : Int) < (bs.length : Int)) := by omega
    obtain ⟨hgok, hgl, hgm⟩ := unB_ok bs
    obtain ⟨ok, hok⟩ := hid_ex (unB bs).1
    obtain ⟨g, hg⟩ := hid_ex (unB bs).2
    rw [← hg.out] at hgok hgl hgm
    have hglm : g.nodes.length ≤ maxLen := by unfold maxLen; omega
    obtain ⟨m1, hm1⟩ := hid_ex (1 + bs.length)
    obtain ⟨m2, hm2⟩ := hid_ex (mEnd 1 g.nodes)
    have hd3 : ¬ ((m1 : Int) < 0) := by omega
    have hd4 : ¬ ((m2 : Int) < 0) := by omega
    have hd5 : ((m2 : Int) != (m2 : Int)) = false := by simp
    go_enter Try.func4, Try.ntmps4
    go_wp2_with (first
      | (go_at_call 23; refine (toByteS_any a bs cap _ hs (ha.grow (gca hA2 hL11))).mono ?_; rintro e w12 ⟨b12, rfl, hbb12, hB12, hb12⟩)
      | (go_at_call 23; refine (toByteS_any a bs cap _ hs (ha.grow (gca hA2 hL5))).mono ?_; rintro e w6 ⟨b6, rfl, hbb6, hB6, hb6⟩)
      | (go_at_call 23; refine (toByteS_any a bs cap _ hs (ha.grow hA2)).mono ?_; rintro e w3 ⟨b3, rfl, hbb3, hB3, hb3⟩; have hM3 : MB w3 0 (some ⟨b3, 0, none⟩) bs := Or.inr ⟨b3, bs.length, rfl, Nat.zero_le _, hB3⟩; have hlt3 := hB3.lt)
      | (go_at_call 23; refine (toByteS_any a bs cap _ hs ha).mono ?_; rintro e w1 ⟨b1, rfl, hbb1, hB1, hb1⟩)
      | (go_at_call 22; refine (specUnpack_any _ _ bs _ (brow_bytes hB1) (Nat.le_refl _) hml hx).mono ?_; rintro e w2 ⟨na2, nc2, rfl, hN2, hgs2, hb2⟩; rw [sUnB_eq bs hgs2, ← hg.out] at hN2; rw [sUnB_eq bs hgs2, ← hok.out, ← hg.out]; have hA2 : Below w.heap.size w (w2.alloc (.cells #[.bool ok, .int .i64 g.root.kind, .int .i64 g.root.num, .string g.root.text, .int .i64 g.root.node, .slice na2 g.nodes.length nc2] 41)) := gal (gca hb1 hb2) _; have hS2 := Six.new w2 ok g.root (.slice na2 g.nodes.length nc2) 41; have hN2' := hN2.grow (gal (gre w2) (.cells #[.bool ok, .int .i64 g.root.kind, .int .i64 g.root.num, .string g.root.text, .int .i64 g.root.node, .slice na2 g.nodes.length nc2] 41)))
      | (go_at_call 24; refine (implUnpack_any _ _ bs _ (brow_bytes hB12) (Nat.le_refl _) hs hx).mono ?_; rintro e w13 ⟨na13, nc13, nl13, rfl, hnl13, hO13, hb13⟩; rw [← hg.out] at hnl13; rw [← hok.out, ← hg.out]; have hL13 := gal (gca (gca hL11 hb12) hb13) (.cells #[.bool ok, .int .i64 g.root.kind, .int .i64 g.root.num, .string g.root.text, .int .i64 g.root.node, .slice na13 g.nodes.length nc13] 41); obtain ⟨kz, k0, k1, k2, k3, k4, k5, kf⟩ := hS2.kept (Kept.of_below hL13 (fun _ => False)) (fun e => e); have hN13 := hO13.at_; rw [hnl13] at hN13)
      | (go_at_call 24; refine (implUnpack_any _ _ bs _ (brow_bytes hB3) (Nat.le_refl _) hs hx).mono ?_; rintro e w4 ⟨na4, nc4, nl4, rfl, hnl4, hO4, hb4⟩; rw [← hg.out] at hnl4; rw [← hok.out, ← hg.out]; have hL4 := gal (gca hb3 hb4) (.cells #[.bool ok, .int .i64 g.root.kind, .int .i64 g.root.num, .string g.root.text, .int .i64 g.root.node, .slice na4 g.nodes.length nc4] 41); obtain ⟨lz, l0, l1, l2, l3, l4, l5, lf⟩ := hS2.kept (Kept.of_below hL4 (fun _ => False)) (fun e => e); have hS4 := Six.new w4 ok g.root (.slice na4 g.nodes.length nc4) 41; have hO4' := hO4.later (gal (gre w4) (.cells #[.bool ok, .int .i64 g.root.kind, .int .i64 g.root.num, .string g.root.text, .int .i64 g.root.node, .slice na4 g.nodes.length nc4] 41)); have hN4 := hO4'.at_; rw [hnl4] at hN4; have hs4 := hb4.size)
      | (go_at_call 25; refine (eqUnpacked_same ok g _ _ _ _ _ hgok (hN13.grow (gal (gre _) _)) ((hN2'.below hL13).mono (by have := hL13.size; exact this))).mono ?_; rintro e w14 ⟨rfl, hb14⟩; have hL14 := gca hL13 hb14; obtain ⟨iz, i0, i1, i2, i3, i4, i5, if_⟩ := hS11.kept (Kept.of_below (gca (gal (gca hb12 hb13) (.cells #[.bool ok, .int .i64 g.root.kind, .int .i64 g.root.num, .string g.root.text, .int .i64 g.root.node, .slice na13 g.nodes.length nc13] 41)) hb14) (fun _ => False)) (fun e => e); have hM14 := hM10.grow (gca (gal (gca (gca hb11 hb12) hb13) (.cells #[.bool ok, .int .i64 g.root.kind, .int .i64 g.root.num, .string g.root.text, .int .i64 g.root.node, .slice na13 g.nodes.length nc13] 41)) hb14))
      | (go_at_call 25; refine (eqUnpacked_same ok g _ _ _ _ _ hgok hN8 ((hN2'.below hL8).mono hL8.size)).mono ?_; rintro e w9 ⟨rfl, hb9⟩; have hL9 := gca hL8 hb9; have hO9 := hO8.later hb9; have hS9 := hS8.kept (Kept.of_below hb9 (fun _ => False)) (fun e => e); obtain ⟨vz, v0, v1, v2, v3, v4, v5, vf⟩ := id hS9; have hmg9 := hO9.mg; rw [hnl4] at hmg9)
      | (go_at_call 25; refine (eqUnpacked_same ok g _ _ _ _ _ hgok hN4 ((hN2'.below hL4).mono hL4.size)).mono ?_; rintro e w5 ⟨rfl, hb5⟩; have hL5 := gca hL4 hb5)
      | (go_at_call 17; refine (eqByteS_same _ _ bs _ _ _ hml (hM3.bytes.grow (gca (gca (gal hb4 _) hb5) hb6)) (brow_bytes hB6)).mono ?_; rintro e w7 ⟨rfl, hb7⟩; have hb47 := gca (gca hb5 hb6) hb7; have hM7 := hM3.grow2 (gca (gal hb4 _) hb47); have hL7 := gca (gca hL5 hb6) hb7; have hO7 := hO4'.later hb47; have hS7 := hS4.kept (Kept.of_below hb47 (fun _ => False)) (fun e => e))
      | (go_at_call 20; rw [show (1 : Int) = ((1 : Nat) : Int) by rfl]; refine (markByteS_any _ bs _ 1 0 _ (by omega) (by omega) hM7).mono ?_; rintro e w8 ⟨rfl, _, hK8⟩; rw [← hm1.out]; have hK8' : Kept (fun b => b = b3) w7 w8 := hK8.mono (fun b _ h => (some_addr h.2).symm); have hL8 := hL7.trans (hK8'.below hL7.size (fun k hk e => by simp only [World.size_alloc] at hbb3 hk; omega)); have hO8 := hO7.kept hK8' (fun k hk hp => by have := hO4.nodes.lt k (by rw [hk]; rfl); omega) (fun x hx k hk hp => by have := (hO4.vals x hx).lt k (by rw [hk]; rfl); omega); have hS8 := hS7.kept hK8' (by omega); have hN8 := hO8.at_; rw [hnl4] at hN8; obtain ⟨rz, r0, r1, r2, r3, r4, r5, rf⟩ := id hS8; obtain ⟨qz, q0, q1, q2, q3, q4, q5, qf⟩ := hS2.kept (Kept.of_below hL8 (fun _ => False)) (fun e => e))
      | (go_at_call 26; rw [show (1 : Int) = ((1 : Nat) : Int) by rfl]; refine (markUnpacked_any ok g na4 nc4 _ _ 1 _ (by omega) hgm hglm hmg9).mono ?_; rintro e w10 ⟨rfl, hK10, hM10⟩; rw [← hm2.out]; have hbg : ∀ b, Touch na4 g.nodes.length (fun i => nl4[i]!.a) b → w3.heap.size ≤ b ∧ b < w4.heap.size := (fun b hb => by rw [← hnl4, List.length_map] at hb; exact hO4.touch hb); have hL10 := hL9.trans (hK10.below hL9.size (fun k hk hp => by have h1 := hbg _ hp; have h2 := hb3.size; simp only [World.size_alloc] at h2 hk; omega)); have hS10 := hS9.kept hK10 (fun hp => by have := hbg _ hp; omega); obtain ⟨xz, x0, x1, x2, x3, x4, x5, xf⟩ := id hS10)
      | (go_at_call 27; rw [show (1 : Int) = ((1 : Nat) : Int) by rfl]; refine (heldUnpacked_any ok g na4 nc4 1 _ (by omega) hgm hglm hM14).mono ?_; rintro e w15 ⟨rfl, hb15⟩; rw [← hm2.out])
      | (go_at_call 27; rw [show (1 : Int) = ((1 : Nat) : Int) by rfl]; refine (heldUnpacked_any ok g na4 nc4 1 _ (by omega) hgm hglm hM10).mono ?_; rintro e w11 ⟨rfl, hb11⟩; rw [← hm2.out]; have hL11 := gca hL10 hb11; have hS11 := hS10.kept (Kept.of_below hb11 (fun _ => False)) (fun e => e)))
    go_ret
    exact ⟨rfl, gca hA2 (gca hL14 hb15)⟩
  · have hd : ((1048576 : Int) < (bs.length : Int)) := by omega
    go_enter Try.func4, Try.ntmps4
    go_wp2
    go_ret
    exact ⟨rfl, gre _⟩

end Go.Proofs.Ytnbikemmnpldcab

/-
  OPENB: what bytes that come in read as. Own work.
-/
namespace Go.Proofs.Ytnbikemmnpldcab
open Go.RowKit Go.ChangeShapes Go.WideShapes Go.Deep

set_option maxRecDepth 100000 in
theorem cellsU8 : Try.prog.cellsOf 5 = 1 := by kernel_rfl

theorem byte_of_wf {x : Int} (h : (Lit.int .u8 x).wf = true) : 0 ≤ x ∧ x < 256 := by
  simp [Lit.wf, IntKind.min, IntKind.max, IntKind.signed, IntKind.bits] at h
  omega

section
variable {H : Type} {enc : TypeId × Value → H} {w : World} {base : Nat} {held : Bool}

set_option maxRecDepth 100000 in
theorem openBytes {v : Value} {d : DataW H} {ps : List MemPlace} {r : Reach} {bd : Nat} (hv : Value.okWide Try.prog w r bd 28 v) (h : DataW.Trod enc Try.prog w base (fun _ => true) held 28 v d ps) :
    ∃ (bs : List Nat) (a : Option Addr) (cap : Nat), v = .slice a bs.length cap ∧ bs.length ≤ cap ∧ bs.length ≤ maxLen ∧ (∀ x, x ∈ bs → x < 256) ∧ BytesAt w a bs := by
  obtain ⟨fuel, h⟩ := h
  have hcs : v.cells.toList = [v] := by
    cases v <;> first | rfl | (exfalso; simp [Value.okWide, Cell.okWide, Cell.ok, Try.underlying28] at hv)
  rw [hcs] at h
  rcases open_ints Try.underlying28 Try.underlying5 cellsU8 h with ⟨e, _⟩ | ⟨a, len, cap, zs, e, _, hlc, hcm, hzl, _, hcell, hwf⟩
  · simp at e
    subst e
    exact ⟨[], none, 0, rfl, Nat.le_refl _, Nat.zero_le _, fun x hx => (by cases hx), fun i hi => absurd hi (Nat.not_lt_zero _)⟩
  · simp at e
    subst e
    simp at hzl
    have hl : ((zs.take len).map Int.toNat).length = len := by rw [List.length_map, List.length_take]; omega
    refine ⟨(zs.take len).map Int.toNat, some a, cap, by rw [hl], by omega, by omega, fun x hx => ?_, fun i hi => ?_⟩
    · obtain ⟨z, hz, rfl⟩ := List.mem_map.1 hx
      have := byte_of_wf (hwf z (List.mem_of_mem_take hz))
      omega
    · rw [hl] at hi
      have h1 := hcell i (by omega)
      obtain ⟨b, off, sp⟩ := a
      have h0 := hcell 0 (by omega)
      have hsp : sp = none := by simpa [Addr.add] using World.cell?_spot h0
      subst hsp
      refine ⟨b, off, rfl, ?_⟩
      have e1 : (⟨b, off, none⟩ : Addr).add i = ⟨b, off + i, none⟩ := by unfold Addr.add; simp
      rw [e1] at h1
      rw [h1]
      have h2 := byte_of_wf (hwf zs[i] (List.getElem_mem (by omega)))
      rw [getElem!_pos _ i (by rw [hl]; exact hi)]
      have e2 : ((zs.take len).map Int.toNat)[i]'(by rw [hl]; exact hi) = (zs[i]'(by omega)).toNat := by simp
      rw [e2]
      have e3 : zs.getD i 0 = zs[i]'(by omega) := by simp [List.getD, List.getElem?_eq_getElem (show i < zs.length by omega)]
      rw [e3]
      congr 2
      omega
end

end Go.Proofs.Ytnbikemmnpldcab

/-
  DONE: the row of FnExactUnpack, proved. Own work.
-/
namespace Go.Proofs.Ytnbikemmnpldcab
open Go.ChangeShapes Go.WideShapes Go.ChangeAt Go.RowKit

set_option maxRecDepth 100000 in
theorem ownUnpack : ownKnob Try.prog.godebug = none := by kernel_rfl
theorem laidOutUnpack : laidOutB Try.prog = true := by kernel_rfl

set_option maxRecDepth 100000 in
theorem liftedUnpack (os : Os) (started : os.Started) (H : Type) (enc : TypeId × Value → H) :
    ReturnsInHanded {} Try.checked os 4 .any (Rows.fnExactUnpackSpec.pre6 enc Try.prog Try.f4 Rows.fnExactUnpackRow.domain false) (Rows.fnExactUnpackSpec.post enc Try.prog Try.f4 false true false false) := by
  refine returnsInHanded_of_change (C := Try.checked) ownUnpack started (by kernel_rfl) Try.func4
    (ChangeSpec.witness6 (enc := enc) (C := Try.checked) false ⟨#[], #[.slice none 0 0], []⟩ 8 (by kernel_rfl) (by kernel_rfl) (by kernel_rfl) (by kernel_rfl)) ?_
  intro W base args ds gs before hval0 hW hcnd _
  have hval : ∀ (j : Nat) t v, Try.f4.params[j]? = some t → args[j]? = some v → Value.okWide Try.prog W .any base t v := hval0
  have hW' := hW
  obtain ⟨p, q, hA0, hV, rfl, hfz, hnd⟩ := hW
  have hA : DataW.TrodAll enc Try.prog W 0 (fun _ => true) true Try.f4.params.toList args.toList ds p := hA0
  rw [Try.params4] at hA hval
  obtain ⟨v0, vs0, d0, ds0, p0, q0, hargs, rfl, rfl, h0, r0⟩ := trodAll_cons hA
  obtain ⟨rfl, rfl, rfl⟩ := trodAll_nil r0
  obtain rfl : args = #[v0] := by cases args; simp_all
  obtain ⟨rfl, rfl⟩ := trodVars_none hV
  have k0 := h0
  have lt0 : ∀ x ∈ p0, x.block < W.heap.size := by obtain ⟨m, hm⟩ := k0; exact DataW.trod_lt m _ _ _ hm
  obtain ⟨bs, a, cap, rfl, hcap, hml, hx, ha⟩ := openBytes (hval 0 28 v0 rfl rfl) h0
  clear hA0 hval0
  refine (lawUnpack a cap bs W ha hcap hml hx).mono fun e W' ⟨he, bel⟩ => ?_
  subst he
  exact ⟨_, rfl, _, _, _, [], _, [], hW', trodAll_mk1 (shut_bool Try.underlying4 _), (trodAll_cons_mk (Below.trod laidOutUnpack (by kernel_rfl) (of_decide_eq_true (by kernel_rfl)) k0 bel lt0) trodAll_mk0), rfl, bel.frame _, fun h => by cases h⟩

set_option maxRecDepth 100000 in
theorem unpack_holds : Rows.FnExactUnpackSaid :=
  OpenClaim.holds_of_wide 4 Try.f4 rfl rfl rfl rfl rfl rfl rfl ⟨rfl, rfl, rfl, rfl, rfl⟩ rfl rfl rfl rfl rfl (by kernel_rfl) Try.func4 (by kernel_rfl)
    (of_decide_eq_true (by kernel_rfl)) (by unfold Func.isWrapper; first | (rw [if_pos (by decide +kernel)]; kernel_rfl) | (rw [if_neg (by decide +kernel)]; exact ⟨rfl, rfl⟩))
    (fun os started H enc _ => liftedUnpack os started H enc)

end Go.Proofs.Ytnbikemmnpldcab
