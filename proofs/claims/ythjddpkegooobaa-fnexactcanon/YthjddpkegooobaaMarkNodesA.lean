/-
  MARKNODES: the laws' marks in a graph, and their look at them. Own work.
-/
import Derived.Test.YthjddpkegooobaaMarkPlain
import Derived.Test.YthjddpkegooobaaMarkVals
import Derived.Test.YthjddpkegooobaaMEnd
namespace Go.Proofs.Ythjddpkegooobaa
open Go.RowKit

set_option maxRecDepth 100000 in
theorem markValS_none (a : Option Addr) (cap k : Nat) (w : World) :
    Calls Try.prog 142 #[.slice a 0 cap, .int .i64 k] w fun e w' => e = .returned (.int .i64 (k : Int)) ∧ Below w.heap.size w w' := by
  go_enter Try.func142, Try.ntmps142
  go_wp2
  go_loopw [1, 5] (fun kk i ws => kk = .int .i64 (k : Int) ∧ i = .int .i64 0 ∧ Below w.heap.size w ws) (fun _ _ _ => 0)
  case atStart => exact ⟨rfl, rfl, gre _⟩
  case round =>
    obtain ⟨rfl, rfl, hb⟩ := hrel
    go_wp2
    go_ret
    exact ⟨rfl, hb⟩

set_option maxRecDepth 100000 in
/-- marking any row of values of a graph -/
theorem markValS_row (a : Option Addr) (n cap k : Nat) (w : World) (hk0 : 0 < k) (hk : k + 4 * n ≤ 1099511627776) (hr : 0 < n → ∃ b, a = some ⟨b, 0, none⟩ ∧ WRow w b (n * 4)) :
    Calls Try.prog 142 #[.slice a n cap, .int .i64 k] w fun e w' => e = .returned (.int .i64 ((k + 4 * n : Nat) : Int)) ∧ Kept (fun x => a = some ⟨x, 0, none⟩) w w' ∧ (0 < n → ∃ b, a = some ⟨b, 0, none⟩ ∧ WRow w' b (n * 4)) ∧ ValsAt w'.heap.size w' a (markVs k n) := by
  by_cases hn : 0 < n
  · obtain ⟨b, rfl, hw⟩ := hr hn
    refine (markValS_any b n cap k w hk0 hk hw).mono ?_
    rintro e w' ⟨rfl, h⟩
    exact ⟨rfl, h.kept.mono (fun x _ hx => by rw [hx]), fun _ => ⟨b, rfl, h.row⟩, h.at_ h.row.lt⟩
  · obtain rfl : n = 0 := by omega
    refine (markValS_none a cap k w).mono ?_
    rintro e w' ⟨rfl, hb⟩
    exact ⟨rfl, Kept.of_below hb _, fun h => absurd h (Nat.lt_irrefl _), fun i hi => absurd hi (by rw [markVs_length]; omega)⟩

set_option maxRecDepth 100000 in
theorem markNodeS_any (na : Option Addr) (nc : Nat) (ns : List GN) (va : Nat → Option Addr) (vc : Nat → Nat) (k : Nat) (w : World) (_hk0 : 0 < k) (hk : mEnd k ns ≤ 1099511627776) (hl : ns.length ≤ maxLen) (h : MG w na ns va vc) :
    Calls Try.prog 106 #[.slice na ns.length nc, .int .i64 k] w fun e w' => e = .returned (.int .i64 (mEnd k ns : Nat)) ∧ NM w w' na ns va vc k ns.length := by
  unfold maxLen at hl
  go_enter Try.func106, Try.ntmps106
  go_wp2
  go_loopw [1, 5] (fun kk i ws => ∃ (j q : Nat), j ≤ ns.length ∧ q = mEnd k (ns.take j) ∧ kk = .int .i64 (q : Int) ∧ i = .int .i64 (j : Int) ∧ NM w ws na ns va vc k j) (fun _ i _ => ns.length - (intOf i).toNat)
  case atStart => exact ⟨0, k, Nat.zero_le _, rfl, rfl, rfl, Kept.refl _ _, h, fun _ _ i hi => absurd hi (Nat.not_lt_zero _), fun i hi => absurd hi (Nat.not_lt_zero _)⟩
  case round =>
    obtain ⟨j, q, hj, hq, rfl, rfl, hD⟩ := hrel
    by_cases hlt : j < ns.length
    · have i0 : (0 : Int) ≤ (j : Int) := by omega
      have i1 : (j : Int) < (ns.length : Int) := by omega
      obtain ⟨g, rfl, hwr⟩ := hD.mg.nodes (by omega)
      obtain ⟨v0, c0⟩ := hwr.c (j * 2) (by omega)
      have c1 := hD.mg.sl g rfl j hlt
      have c1' := (World.cell?_setCell_other wr ⟨g, j * 2, none⟩ ⟨g, j * 2 + 1, none⟩ (.int .i64 (q : Int)) (by simp)).trans c1
      have hf := hwr.f
      have h1 := mEnd_take_le ns k (j + 1)
      have h2 := mEnd_take_succ ns k j hlt
      have h3 := mEnd_le (ns.take j) k
      have hqq : q + 1 + 4 * ns[j]!.vals.length ≤ 1099511627776 := by omega
      have hq0 : k ≤ q := by omega
      have hvr : 0 < ns[j]!.vals.length → ∃ b, va j = some ⟨b, 0, none⟩ ∧ WRow (wr.setCell ⟨g, j * 2, none⟩ (.int .i64 (q : Int))) b (ns[j]!.vals.length * 4) := fun hl => by
        obtain ⟨b, hb, hr⟩ := hD.mg.vals j hlt hl
        exact ⟨b, hb, hr.set _ _⟩
      obtain ⟨n, hn⟩ : ∃ n, Hid (n = ns[j]!.vals.length) := ⟨_, rfl⟩
      rw [← hn.out] at c1 c1' hqq hvr
      have hq' : Hid _ := hq
      have h2' : Hid _ := h2
      clear h1 h2 h3 c1 hq
      go_wp2_with (go_at_call 142; rw [show ((q : Int) + 1) = ((q + 1 : Nat) : Int) by omega]; refine (markValS_row (va j) n (vc j) (q + 1) _ (by omega) (by omega) hvr).mono ?_; rintro e w2 ⟨rfl, hK2, hw2, hv2⟩)
      have hfin := hD.step hlt rfl (by rw [← hq'.out]; exact hK2) (by rw [← hn.out]; exact hw2) (by rw [← hq'.out, ← hn.out]; exact hv2)
      have hqe : Hid (q + 1 + 4 * n = mEnd k (ns.take (j + 1))) := by have h9 := h2'.out; have h8 := hq'.out; have h7 := hn.out; show _ = _; omega
      refine ⟨⟨j + 1, q + 1 + 4 * n, by omega, hqe.out, by go_num, by go_num, hfin⟩, ?_⟩
      simp [intOf]; omega
    · have e : j = ns.length := by omega
      subst e
      rw [List.take_length] at hq
      subst hq
      go_wp2
      go_ret
      exact ⟨rfl, hD⟩

set_option maxRecDepth 100000 in
theorem MG.kept {p : Nat → Prop} {w w' : World} {na : Option Addr} {ns : List GN} {va : Nat → Option Addr} {vc : Nat → Nat} (h : MG w na ns va vc) (k : Kept p w w') (hn : ∀ b, na = some ⟨b, 0, none⟩ → ¬ p b) (hv : ∀ i, i < ns.length → ∀ b, va i = some ⟨b, 0, none⟩ → ¬ p b) : MG w' na ns va vc :=
  ⟨fun h0 => let ⟨g, hg, hr⟩ := h.nodes h0; ⟨g, hg, hr.kept k (hn g hg)⟩, fun g hg i hi => k.cell (h.sl g hg i hi) (hn g hg), fun i hi h0 => let ⟨b, hb, hr⟩ := h.vals i hi h0; ⟨b, hb, hr.kept k (hv i hi b hb)⟩, h.apn, h.apv⟩
theorem MG.grow {w w' : World} {na : Option Addr} {ns : List GN} {va : Nat → Option Addr} {vc : Nat → Nat} (h : MG w na ns va vc) (hb : Below w.heap.size w w') : MG w' na ns va vc := h.kept (Kept.of_below hb (fun _ => False)) (fun _ _ e => e) (fun _ _ _ _ e => e)


set_option maxRecDepth 100000 in
theorem markGraph_any (g : GG) (na : Option Addr) (nc : Nat) (va : Nat → Option Addr) (vc : Nat → Nat) (k : Nat) (w : World) (hk0 : 0 < k) (hk : mEnd k g.nodes ≤ 1099511627776) (hl : g.nodes.length ≤ maxLen) (h : MG w na g.nodes va vc) :
    Calls Try.prog 46 #[g.val na nc, .int .i64 k] w fun e w' => e = .returned (.int .i64 (mEnd k g.nodes : Nat)) ∧ Kept (Touch na g.nodes.length va) w w' ∧ NodesAt w'.heap.size w' na (markNs k g.nodes) := by
  go_enter Try.func46, Try.ntmps46
  go_wp2_with (go_at_call 106; refine (markNodeS_any na nc g.nodes va vc k _ hk0 hk hl (h.grow (gal (gre _) _))).mono ?_; rintro e w' ⟨rfl, hN⟩)
  go_ret
  exact ⟨rfl, (Kept.of_below (gal (gre w) _) _).trans hN.kept (fun _ _ hp => hp), hN.at_⟩

end Go.Proofs.Ythjddpkegooobaa
