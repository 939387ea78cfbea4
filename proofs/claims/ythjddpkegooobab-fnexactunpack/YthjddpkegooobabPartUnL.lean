import Derived.Deep.QuietTactic
import Derived.BigQuiet
import Derived.WalkSmall
import Derived.Deep.RegionHeld3
import Derived.ProofKit
import Derived.OpenShut
import Derived.Deep.Slices
import Derived.ChangeSlices
import Derived.ShutString
import Derived.ChangeOld
import Derived.Test.YthjddpkegooobabPartUnK

/-
  MARKPLAIN: marked graphs, and graphs that may be marked. Own work.
-/
namespace Go.Proofs.Ythjddpkegooobab
open Go.RowKit

/-- these nodes, marked -/
def markNs (k : Nat) : List GN → List GN
  | [] => []
  | n :: r => ⟨(k : Int), markVs (k + 1) n.vals.length⟩ :: markNs (k + 1 + 4 * n.vals.length) r

theorem mEnd_snoc (l : List GN) (n : GN) : ∀ k, mEnd k (l ++ [n]) = mEnd k l + 1 + 4 * n.vals.length := by
  induction l with
  | nil => intro k; rfl
  | cons x r ih => intro k; simp only [List.cons_append, mEnd, ih]
theorem mEnd_le (l : List GN) : ∀ k, k ≤ mEnd k l := by
  induction l with
  | nil => intro k; exact Nat.le_refl _
  | cons x r ih => intro k; have := ih (k + 1 + 4 * x.vals.length); simp only [mEnd]; omega
theorem mEnd_append (l r : List GN) : ∀ k, mEnd k (l ++ r) = mEnd (mEnd k l) r := by
  induction l with
  | nil => intro k; rfl
  | cons x t ih => intro k; simp only [List.cons_append, mEnd, ih]
theorem mEnd_take_succ (l : List GN) (k j : Nat) (h : j < l.length) : mEnd k (l.take (j + 1)) = mEnd k (l.take j) + 1 + 4 * l[j]!.vals.length := by
  rw [take_snoc l j h, mEnd_snoc]
theorem mEnd_take_le (l : List GN) (k j : Nat) : mEnd k (l.take j) ≤ mEnd k l := by
  conv => rhs; rw [← List.take_append_drop j l, mEnd_append]
  exact mEnd_le _ _
theorem mEnd_sz (l : List GN) : ∀ k, (mEnd k l : Int) ≤ k + 4 * (l.length + szNodes l) := by
  induction l with
  | nil => intro k; simp [mEnd, szNodes]
  | cons x r ih =>
    intro k
    have h1 := ih (k + 1 + 4 * x.vals.length)
    have h2 := szVals_nonneg x.vals
    simp only [mEnd, szNodes, GN.sz, List.length_cons]
    omega
theorem markNs_length (l : List GN) : ∀ k, (markNs k l).length = l.length := by
  induction l with
  | nil => intro k; rfl
  | cons x r ih => intro k; simp only [markNs, List.length_cons, ih]
theorem markNs_at (l : List GN) : ∀ (k j : Nat), j < l.length → (markNs k l)[j]! = ⟨((mEnd k (l.take j) : Nat) : Int), markVs (mEnd k (l.take j) + 1) l[j]!.vals.length⟩ := by
  induction l with
  | nil => intro k j h; exact absurd h (Nat.not_lt_zero _)
  | cons x r ih =>
    intro k j h
    cases j with
    | zero => simp [markNs, mEnd]
    | succ j =>
      have h1 := ih (k + 1 + 4 * x.vals.length) j (by simpa using h)
      simpa [markNs, mEnd] using h1

/-- a graph whose nodes and values may be written, each list in a row of its own -/
structure MG (w : World) (na : Option Addr) (ns : List GN) (va : Nat → Option Addr) (vc : Nat → Nat) : Prop where
  nodes : 0 < ns.length → ∃ g, na = some ⟨g, 0, none⟩ ∧ WRow w g (ns.length * 2)
  sl : ∀ g, na = some ⟨g, 0, none⟩ → ∀ i, i < ns.length → w.cell? ⟨g, i * 2 + 1, none⟩ = some (.slice (va i) ns[i]!.vals.length (vc i))
  vals : ∀ i, i < ns.length → 0 < ns[i]!.vals.length → ∃ b, va i = some ⟨b, 0, none⟩ ∧ WRow w b (ns[i]!.vals.length * 4)
  apn : ∀ i, i < ns.length → Far (va i) na
  apv : ∀ i j, i < j → j < ns.length → Far (va i) (va j)

theorem MG.far {w : World} {na : Option Addr} {ns : List GN} {va : Nat → Option Addr} {vc : Nat → Nat} (h : MG w na ns va vc) {i j : Nat} (hi : i < ns.length) (hj : j < ns.length) (hij : i ≠ j) : Far (va i) (va j) := by
  rcases Nat.lt_or_gt_of_ne hij with e | e
  · exact h.apv i j e hj
  · exact (h.apv j i e hi).symm

theorem owns_wrow {w : World} {base t size n cap : Nat} {a : Option Addr} {xs : List Value} (ho : w.ownsRow base t size (.slice a n cap) n xs) (hn : 0 < n) : ∃ b, a = some ⟨b, 0, none⟩ ∧ WRow w b (n * size) := by
  rcases ho.2 with ⟨_, h0⟩ | ⟨g, cap', cur, hv, hb, hg, hc1, hc2, hc3, _⟩
  · omega
  · simp only [Value.slice.injEq] at hv
    obtain ⟨rfl, _, rfl⟩ := hv
    have hsz : n * size ≤ cur.size := by rw [hc3]; exact Nat.mul_le_mul_right _ hc1
    refine ⟨g, rfl, (Array.getElem?_eq_some_iff.1 hg).1, fun i hi => ⟨cur[i]'(by omega), ?_⟩, fun o => ?_⟩
    · simp [World.cell?, hg, show i < cur.size by omega]
    · simp [World.frozen?, hg]

theorem OwnG.mg {w : World} {base : Nat} {na : Option Addr} {nc : Nat} {nl : List NL} (h : OwnG w base na nc nl) : MG w na (nl.map (·.n)) (fun i => nl[i]!.a) (fun i => nl[i]!.cap) := by
  have hlen : (nl.map (·.n)).length = nl.length := by simp
  have e : ∀ i, i < nl.length → (nl.map (·.n))[i]! = (nl[i]!).n := fun i hi => by rw [getElem!_pos _ i (by simpa using hi), getElem!_pos nl i hi]; simp
  refine ⟨fun hn => ?_, fun g hg i hi => ?_, fun i hi hv => ?_, fun i hi => ?_, fun i j hij hj => ?_⟩
  · rw [hlen] at hn ⊢; exact owns_wrow h.nodes hn
  · have hi' : i < nl.length := by omega
    obtain ⟨g1, ha, _, _, c1⟩ := owns_cell h.nodes ((flatMap_get NL.two_length nl i 1 hi' (by decide)).trans rfl)
    rw [hg] at ha
    obtain rfl := some_addr ha
    rw [e i hi', c1]
  · have hi' : i < nl.length := by omega
    rw [e i hi'] at hv ⊢
    exact owns_wrow (h.vals _ (mem_at hi')) hv
  · exact h.apn _ (mem_at (by omega))
  · exact h.apv i j hij (by omega)

theorem OwnNodes.mg {w : World} {N : Nat} {bs : Nat → Nat} {ns : List GN} (h : OwnNodes w N bs ns) : MG w (some ⟨N, 0, none⟩) ns (fun i => some ⟨bs i, 0, none⟩) (fun i => ns[i]!.vals.length) := by
  obtain ⟨f, hr, hn⟩ := h
  refine ⟨fun _ => ⟨N, rfl, hr.lt, fun i hi => ⟨_, hr.cell hi⟩, hr.frozen⟩, fun g hg i hi => ?_, fun i hi hv => ?_, fun i hi => ?_, fun i j hij hj => ?_⟩
  · obtain rfl := some_addr hg
    obtain ⟨h0, h1, _⟩ := hn i hi
    rw [← h1]; exact hr.cell (by omega)
  · obtain ⟨_, _, ⟨f2, hr2, _⟩, _⟩ := hn i hi
    exact ⟨bs i, rfl, hr2.lt, fun j hj => ⟨_, hr2.cell hj⟩, hr2.frozen⟩
  · intro b hb hx
    have e1 := some_addr hb
    have e2 := some_addr hx
    have := (hn i hi).2.2.2.1
    omega
  · intro b hb hx
    have e1 := some_addr hb
    have e2 := some_addr hx
    have := (hn j hj).2.2.2.2 i hij
    omega

theorem ValsAt.kept {p : Nat → Prop} {w w' : World} {B B' : Nat} {a : Option Addr} {vs : List GV} (h : ValsAt B w a vs) (k : Kept p w w') (hB : B ≤ w.heap.size) (hB' : B ≤ B') (hn : ∀ b off, a = some ⟨b, off, none⟩ → ¬ p b) : ValsAt B' w' a vs := fun i hi => by
  obtain ⟨b, off, ha, hb, hv⟩ := h i hi
  exact ⟨b, off, ha, by omega, hv.same (k.block b (by omega) (hn b off ha))⟩

/-- what stands at the head of the round -/
structure NM (w ws : World) (na : Option Addr) (ns : List GN) (va : Nat → Option Addr) (vc : Nat → Nat) (k j : Nat) : Prop where
  kept : Kept (fun b => na = some ⟨b, 0, none⟩ ∨ ∃ i, i < ns.length ∧ va i = some ⟨b, 0, none⟩) w ws
  mg : MG ws na ns va vc
  tags : ∀ g, na = some ⟨g, 0, none⟩ → ∀ i, i < j → ws.cell? ⟨g, i * 2, none⟩ = some (.int .i64 (mEnd k (ns.take i) : Nat))
  vals : ∀ i, i < j → ValsAt ws.heap.size ws (va i) (markVs (mEnd k (ns.take i) + 1) ns[i]!.vals.length)

theorem NM.step {w ws w2 : World} {na : Option Addr} {ns : List GN} {va : Nat → Option Addr} {vc : Nat → Nat} {k j g : Nat} (h : NM w ws na ns va vc k j) (hj : j < ns.length) (hg : na = some ⟨g, 0, none⟩)
    (hK : Kept (fun x => va j = some ⟨x, 0, none⟩) (ws.setCell ⟨g, j * 2, none⟩ (.int .i64 (mEnd k (ns.take j) : Nat))) w2) (hw : 0 < ns[j]!.vals.length → ∃ b, va j = some ⟨b, 0, none⟩ ∧ WRow w2 b (ns[j]!.vals.length * 4))
    (hv : ValsAt w2.heap.size w2 (va j) (markVs (mEnd k (ns.take j) + 1) ns[j]!.vals.length)) : NM w w2 na ns va vc k (j + 1) := by
  have hS := (Kept.refl (fun b => b = g) ws).set (a := ⟨g, j * 2, none⟩) (fun _ => rfl) (.int .i64 (mEnd k (ns.take j) : Nat))
  have hsz : (ws.setCell ⟨g, j * 2, none⟩ (.int .i64 (mEnd k (ns.take j) : Nat))).heap.size = ws.heap.size := by simp [World.setCell]
  have hK2 : Kept (fun b => b = g ∨ va j = some ⟨b, 0, none⟩) ws w2 := (hS.mono (fun _ _ e => Or.inl e)).trans hK (fun _ _ e => Or.inr e)
  have hgj : ¬ va j = some ⟨g, 0, none⟩ := fun e => h.mg.apn j hj g e hg
  obtain ⟨g', hg', hwr⟩ := h.mg.nodes (by omega)
  rw [hg] at hg'
  obtain rfl := some_addr hg'
  refine ⟨h.kept.trans hK2 (fun b _ hp => ?_), ⟨fun _ => ⟨g, hg, (hwr.set _ _).kept hK hgj⟩, fun g1 hg1 i hi => ?_, fun i hi hl => ?_, h.mg.apn, h.mg.apv⟩, fun g1 hg1 i hi => ?_, fun i hi => ?_⟩
  · rcases hp with e | e
    · exact Or.inl (by rw [hg, e])
    · exact Or.inr ⟨j, hj, e⟩
  · rw [hg] at hg1
    obtain rfl := some_addr hg1
    refine hK.cell ?_ hgj
    rw [World.cell?_setCell_other _ _ _ _ (by simp <;> omega)]
    exact h.mg.sl g hg i hi
  · by_cases e : i = j
    · subst e; exact hw hl
    · obtain ⟨b, hb, hr⟩ := h.mg.vals i hi hl
      exact ⟨b, hb, hr.kept hK2 (fun hp => hp.elim (fun e2 => h.mg.apn i hi b hb (by rw [e2, hg])) (fun e2 => h.mg.far hi hj e b hb e2))⟩
  · rw [hg] at hg1
    obtain rfl := some_addr hg1
    refine hK.cell ?_ hgj
    by_cases e : i = j
    · subst e
      obtain ⟨v, hv⟩ := hwr.c (i * 2) (by omega)
      exact World.cell?_setCell_same _ _ _ hv
    · rw [World.cell?_setCell_other _ _ _ _ (by simp <;> omega)]
      exact h.tags g hg i (by omega)
  · by_cases e : i = j
    · subst e; exact hv
    · have hi' : i < ns.length := by omega
      by_cases hl : 0 < ns[i]!.vals.length
      · obtain ⟨b, hb, hr⟩ := h.mg.vals i hi' hl
        refine (h.vals i (by omega)).kept hK2 (Nat.le_refl _) hK2.size (fun b2 off hb2 hp => ?_)
        rw [hb] at hb2
        simp at hb2
        obtain ⟨rfl, _⟩ := hb2
        exact hp.elim (fun e2 => h.mg.apn i hi' b hb (by rw [e2, hg])) (fun e2 => h.mg.far hi' hj e b hb e2)
      · intro x hx
        rw [markVs_length] at hx
        omega

/-- all marked -/
theorem NM.at_ {w ws : World} {na : Option Addr} {ns : List GN} {va : Nat → Option Addr} {vc : Nat → Nat} {k : Nat} (h : NM w ws na ns va vc k ns.length) : NodesAt ws.heap.size ws na (markNs k ns) := fun i hi => by
  rw [markNs_length] at hi
  obtain ⟨g, hg, hwr⟩ := h.mg.nodes (by omega)
  refine ⟨g, 0, va i, vc i, hg, hwr.lt, ?_⟩
  rw [markNs_at ns k i hi, Nat.zero_add]
  refine ⟨h.tags g hg i hi, ?_, h.vals i hi⟩
  simp only [markVs_length]
  exact h.mg.sl g hg i hi

end Go.Proofs.Ythjddpkegooobab

/-
  MARKNODES: the laws' marks in a graph, and their look at them. Own work.
-/
namespace Go.Proofs.Ythjddpkegooobab
open Go.RowKit

set_option maxRecDepth 100000 in
theorem markValS_none (a : Option Addr) (cap k : Nat) (w : World) :
    Calls Try.prog 141 #[.slice a 0 cap, .int .i64 k] w fun e w' => e = .returned (.int .i64 (k : Int)) ∧ Below w.heap.size w w' := by
  go_enter Try.func141, Try.ntmps141
  go_wp2
  go_loopw [1, 5] (fun kk i ws => kk = .int .i64 (k : Int) ∧ i = .int .i64 0 ∧ Below w.heap.size w ws) (fun _ _ _ => 0)
  case atStart => exact ⟨rfl, rfl, gre _⟩
  case round =>
    obtain ⟨rfl, rfl, hb⟩ := hrel
    go_wp2
    go_ret
    exact ⟨rfl, hb⟩

set_option maxRecDepth 100000 in
/-- marking any row of values of a graph -/
theorem markValS_row (a : Option Addr) (n cap k : Nat) (w : World) (hk0 : 0 < k) (hk : k + 4 * n ≤ 1099511627776) (hr : 0 < n → ∃ b, a = some ⟨b, 0, none⟩ ∧ WRow w b (n * 4)) :
    Calls Try.prog 141 #[.slice a n cap, .int .i64 k] w fun e w' => e = .returned (.int .i64 ((k + 4 * n : Nat) : Int)) ∧ Kept (fun x => a = some ⟨x, 0, none⟩) w w' ∧ (0 < n → ∃ b, a = some ⟨b, 0, none⟩ ∧ WRow w' b (n * 4)) ∧ ValsAt w'.heap.size w' a (markVs k n) := by
  by_cases hn : 0 < n
  · obtain ⟨b, rfl, hw⟩ := hr hn
    refine (markValS_any b n cap k w hk0 hk hw).mono ?_
    rintro e w' ⟨rfl, h⟩
    exact ⟨rfl, h.kept.mono (fun x _ hx => by rw [hx]), fun _ => ⟨b, rfl, h.row⟩, h.at_ h.row.lt⟩
  · obtain rfl : n = 0 := by omega
    refine (markValS_none a cap k w).mono ?_
    rintro e w' ⟨rfl, hb⟩
    exact ⟨rfl, Kept.of_below hb _, fun h => absurd h (Nat.lt_irrefl _), fun i hi => absurd hi (by rw [markVs_length]; omega)⟩

set_option maxRecDepth 100000 in
theorem markNodeS_any (na : Option Addr) (nc : Nat) (ns : List GN) (va : Nat → Option Addr) (vc : Nat → Nat) (k : Nat) (w : World) (_hk0 : 0 < k) (hk : mEnd k ns ≤ 1099511627776) (hl : ns.length ≤ maxLen) (h : MG w na ns va vc) :
    Calls Try.prog 82 #[.slice na ns.length nc, .int .i64 k] w fun e w' => e = .returned (.int .i64 (mEnd k ns : Nat)) ∧ NM w w' na ns va vc k ns.length := by
  unfold maxLen at hl
  go_enter Try.func82, Try.ntmps82
  go_wp2
  go_loopw [1, 5] (fun kk i ws => ∃ (j q : Nat), j ≤ ns.length ∧ q = mEnd k (ns.take j) ∧ kk = .int .i64 (q : Int) ∧ i = .int .i64 (j : Int) ∧ NM w ws na ns va vc k j) (fun _ i _ => ns.length - (intOf i).toNat)
  case atStart => exact ⟨0, k, Nat.zero_le _, rfl, rfl, rfl, Kept.refl _ _, h, fun _ _ i hi => absurd hi (Nat.not_lt_zero _), fun i hi => absurd hi (Nat.not_lt_zero _)⟩
  case round =>
    obtain ⟨j, q, hj, hq, rfl, rfl, hD⟩ := hrel
    by_cases hlt : j < ns.length
    · have i0 : (0 : Int) ≤ (j : Int) := by omega
      have i1 : (j : Int) < (ns.length : Int) := by omega
      obtain ⟨g, rfl, hwr⟩ := hD.mg.nodes (by omega)
      obtain ⟨v0, c0⟩ := hwr.c (j * 2) (by omega)
      have c1 := hD.mg.sl g rfl j hlt
      have c1' := (World.cell?_setCell_other wr ⟨g, j * 2, none⟩ ⟨g, j * 2 + 1, none⟩ (.int .i64 (q : Int)) (by simp)).trans c1
      have hf := hwr.f
      have h1 := mEnd_take_le ns k (j + 1)
      have h2 := mEnd_take_succ ns k j hlt
      have h3 := mEnd_le (ns.take j) k
      have hqq : q + 1 + 4 * ns[j]!.vals.length ≤ 1099511627776 := by omega
      have hq0 : k ≤ q := by omega
      have hvr : 0 < ns[j]!.vals.length → ∃ b, va j = some ⟨b, 0, none⟩ ∧ WRow (wr.setCell ⟨g, j * 2, none⟩ (.int .i64 (q : Int))) b (ns[j]!.vals.length * 4) := fun hl => by
        obtain ⟨b, hb, hr⟩ := hD.mg.vals j hlt hl
        exact ⟨b, hb, hr.set _ _⟩
      obtain ⟨n, hn⟩ : ∃ n, Hid (n = ns[j]!.vals.length) := ⟨_, rfl⟩
      rw [← hn.out] at c1 c1' hqq hvr
      have hq' : Hid _ := hq
      have h2' : Hid _ := h2
      clear h1 h2 h3 c1 hq
      go_wp2_with (go_at_call 141; rw [show ((q : Int) + 1) = ((q + 1 : Nat) : Int) by omega]; refine (markValS_row (va j) n (vc j) (q + 1) _ (by omega) (by omega) hvr).mono ?_; rintro e w2 ⟨rfl, hK2, hw2, hv2⟩)
      have hfin := hD.step hlt rfl (by rw [← hq'.out]; exact hK2) (by rw [← hn.out]; exact hw2) (by rw [← hq'.out, ← hn.out]; exact hv2)
      have hqe : Hid (q + 1 + 4 * n = mEnd k (ns.take (j + 1))) := by have h9 := h2'.out; have h8 := hq'.out; have h7 := hn.out; show _ = _; omega
      refine ⟨⟨j + 1, q + 1 + 4 * n, by omega, hqe.out, by go_num, by go_num, hfin⟩, ?_⟩
      simp [intOf]; omega
    · have e : j = ns.length := by omega
      subst e
      rw [List.take_length] at hq
      subst hq
      go_wp2
      go_ret
      exact ⟨rfl, hD⟩

set_option maxRecDepth 100000 in
theorem MG.kept {p : Nat → Prop} {w w' : World} {na : Option Addr} {ns : List GN} {va : Nat → Option Addr} {vc : Nat → Nat} (h : MG w na ns va vc) (k : Kept p w w') (hn : ∀ b, na = some ⟨b, 0, none⟩ → ¬ p b) (hv : ∀ i, i < ns.length → ∀ b, va i = some ⟨b, 0, none⟩ → ¬ p b) : MG w' na ns va vc :=
  ⟨fun h0 => let ⟨g, hg, hr⟩ := h.nodes h0; ⟨g, hg, hr.kept k (hn g hg)⟩, fun g hg i hi => k.cell (h.sl g hg i hi) (hn g hg), fun i hi h0 => let ⟨b, hb, hr⟩ := h.vals i hi h0; ⟨b, hb, hr.kept k (hv i hi b hb)⟩, h.apn, h.apv⟩
theorem MG.grow {w w' : World} {na : Option Addr} {ns : List GN} {va : Nat → Option Addr} {vc : Nat → Nat} (h : MG w na ns va vc) (hb : Below w.heap.size w w') : MG w' na ns va vc := h.kept (Kept.of_below hb (fun _ => False)) (fun _ _ e => e) (fun _ _ _ _ e => e)


set_option maxRecDepth 100000 in
theorem markGraph_any (g : GG) (na : Option Addr) (nc : Nat) (va : Nat → Option Addr) (vc : Nat → Nat) (k : Nat) (w : World) (hk0 : 0 < k) (hk : mEnd k g.nodes ≤ 1099511627776) (hl : g.nodes.length ≤ maxLen) (h : MG w na g.nodes va vc) :
    Calls Try.prog 21 #[g.val na nc, .int .i64 k] w fun e w' => e = .returned (.int .i64 (mEnd k g.nodes : Nat)) ∧ Kept (Touch na g.nodes.length va) w w' ∧ NodesAt w'.heap.size w' na (markNs k g.nodes) := by
  go_enter Try.func21, Try.ntmps21
  go_wp2_with (go_at_call 82; refine (markNodeS_any na nc g.nodes va vc k _ hk0 hk hl (h.grow (gal (gre _) _))).mono ?_; rintro e w' ⟨rfl, hN⟩)
  go_ret
  exact ⟨rfl, (Kept.of_below (gal (gre w) _) _).trans hN.kept (fun _ _ hp => hp), hN.at_⟩

end Go.Proofs.Ythjddpkegooobab

/-
  HELDVALS: the laws' look at the marks in a row of values. Own work.
-/
namespace Go.Proofs.Ythjddpkegooobab
open Go.RowKit

set_option maxRecDepth 100000 in
theorem heldValS_any (a : Option Addr) (n cap k : Nat) (w : World) (hk0 : 0 < k) (hk : k + 4 * n ≤ 1099511627776) (ha : ValsAt w.heap.size w a (markVs k n)) :
    Calls Try.prog 176 #[.slice a n cap, .int .i64 k] w fun e w' => e = .returned (.int .i64 ((k + 4 * n : Nat) : Int)) ∧ Below w.heap.size w w' := by
  go_enter Try.func176, Try.ntmps176
  go_wp2
  go_loopw [1, 5] (fun kk i ws => ∃ (j q : Nat), j ≤ n ∧ q = k + 4 * j ∧ kk = .int .i64 (q : Int) ∧ i = .int .i64 (j : Int) ∧ Below w.heap.size w ws) (fun _ i _ => n - (intOf i).toNat)
  case atStart => exact ⟨0, k, Nat.zero_le _, by omega, rfl, rfl, gre _⟩
  case round =>
    obtain ⟨j, q, hj, hq, rfl, rfl, hb⟩ := hrel
    by_cases hlt : j < n
    · have i0 : (0 : Int) ≤ (j : Int) := by omega
      have i1 : (j : Int) < (n : Int) := by omega
      obtain ⟨v, b, off, hvk, _, rfl, hbs, hva⟩ := ha.get (by rw [markVs_length]; exact hlt)
      have hv : v = markV q := by rw [hvk.out, getElem!_pos _ j (by rw [markVs_length]; exact hlt), hq]; simp [markVs]
      subst hv
      have hva := hva.below hb hbs
      have c0 : wr.cell? ⟨b, off + j * 4, none⟩ = some (.int .i64 (q : Int)) := hva.kind
      have c1 : wr.cell? ⟨b, off + j * 4 + 1, none⟩ = some (.int .i64 ((q : Int) + 1)) := hva.num
      have c2 : wr.cell? ⟨b, off + j * 4 + 2, none⟩ = some (.string (mt (q + 2))) := hva.text
      have c3 : wr.cell? ⟨b, off + j * 4 + 3, none⟩ = some (.int .i64 ((q : Int) + 1 + 1 + 1)) := hva.node
      have hqq : q + 4 ≤ 1099511627776 := by omega
      have hq' : Hid _ := hq
      clear hq ha hvk hva
      go_wp2
      refine wp_regionU (fun u => u.cell? ⟨b, off + j * 4 + 2, none⟩ = some (.string (mt (q + 2)))) 99 (by kernel_rfl) c2 (fun hS0 => ?_)
      refine anyU_take (i := 0) (v := ?_) rfl (by kernel_rfl) (by kernel_rfl) (by kernel_rfl) (by kernel_rfl) (fun _ _ _ h => h) (Or.inl ⟨by rfl, ?_⟩) hS0 ?_
      rotate_left
      · intro u hSu; (try dsimp only at hSu); go_simp <;> with_reducible rfl
      simp only [Act.put, List.getElem_toArray, List.getElem_cons_zero, List.setIfInBounds_toArray, List.set_cons_zero, List.set_cons_succ]
      refine anyU_take (i := 1) (v := ?_) rfl (by kernel_rfl) (by kernel_rfl) (by kernel_rfl) (by kernel_rfl) (fun _ _ _ h => h) (Or.inl ⟨by rfl, ?_⟩) hS0 ?_
      rotate_left
      · intro u hSu; (try dsimp only at hSu); go_simp <;> with_reducible rfl
      simp only [Act.put, List.getElem_toArray, List.getElem_cons_zero, List.getElem_cons_succ, List.setIfInBounds_toArray, List.set_cons_zero, List.set_cons_succ]
      refine anyU_take (i := 2) (v := ?_) rfl (by kernel_rfl) (by kernel_rfl) (by kernel_rfl) (by kernel_rfl) (fun _ _ _ h => h) (Or.inl ⟨by rfl, ?_⟩) hS0 ?_
      rotate_left
      · intro u hSu; (try dsimp only at hSu); go_simp <;> with_reducible rfl
      simp only [Act.put, List.getElem_toArray, List.getElem_cons_zero, List.getElem_cons_succ, List.setIfInBounds_toArray, List.set_cons_zero, List.set_cons_succ]
      refine anyU_take (i := 3) (v := ?_) rfl (by kernel_rfl) (by kernel_rfl) (by kernel_rfl) (by kernel_rfl) (fun _ _ _ h => h) (Or.inl ⟨by rfl, ?_⟩) hS0 ?_
      rotate_left
      · intro u hSu; (try dsimp only at hSu); go_simp <;> with_reducible rfl
      simp only [Act.put, List.getElem_toArray, List.getElem_cons_zero, List.getElem_cons_succ, List.setIfInBounds_toArray, List.set_cons_zero, List.set_cons_succ]
      refine anyU_take (i := 4) (v := ?_) rfl (by kernel_rfl) (by kernel_rfl) (by kernel_rfl) (by kernel_rfl) (fun _ _ _ h => h) (Or.inl ⟨by rfl, ?_⟩) hS0 ?_
      rotate_left
      · intro u hSu; (try dsimp only at hSu); go_simp <;> with_reducible rfl
      simp only [Act.put, List.getElem_toArray, List.getElem_cons_zero, List.getElem_cons_succ, List.setIfInBounds_toArray, List.set_cons_zero, List.set_cons_succ]
      refine anyU_take (i := 5) (v := ?_) rfl (by kernel_rfl) (by kernel_rfl) (by kernel_rfl) (by kernel_rfl) (fun _ _ _ h => h) (Or.inl ⟨by rfl, ?_⟩) hS0 ?_
      rotate_left
      · intro u hSu; (try dsimp only at hSu); go_simp <;> with_reducible rfl
      simp only [Act.put, List.getElem_toArray, List.getElem_cons_zero, List.getElem_cons_succ, List.setIfInBounds_toArray, List.set_cons_zero, List.set_cons_succ]
      refine anyU_one (i := 6) (by kernel_rfl) rfl (fun K hK => ?_)
      go_simp
      rw [show ((q : Int) + 1 + 1) = ((q + 2 : Nat) : Int) by omega]
      refine (markText_any (q + 2) _ (by omega) (by omega)).mono ?_
      rintro e w1 ⟨rfl, hb1⟩
      rw [← show ((q : Int) + 1 + 1) = ((q + 2 : Nat) : Int) by omega]
      have hb2 := gca (gdr hb) hb1
      have c3' := cell_later hb1 (show wr.drew.cell? _ = _ from c3)
      have hS1 := cell_later hb1 hS0
      refine hK.out _ _ hS1 ?_
      clear hK
      refine anyU_one (i := 7) (by kernel_rfl) rfl (fun K hK => ?_)
      go_simp
      refine hK.out _ _ hS1 ?_
      clear hK
      refine anyU_done (by kernel_rfl) ?_
      clear c0 c1 c2 c3 hS0
      go_wp2
      go_roundw
      case rel => exact ⟨j + 1, q + 4, by omega, by have := hq'.out; omega, by go_num, by go_num, hb2⟩
      case measure => simp [intOf]; omega
    · have e : j = n := by omega
      subst e
      go_wp2
      go_ret
      exact ⟨by rw [← hq]; rfl, hb⟩

end Go.Proofs.Ythjddpkegooobab

/-
  MARKNODES: the laws' marks in a graph, and their look at them. Own work.
-/
namespace Go.Proofs.Ythjddpkegooobab
open Go.RowKit

set_option maxRecDepth 100000 in
theorem heldNodeS_any (na : Option Addr) (nc : Nat) (ns : List GN) (k : Nat) (w : World) (hk0 : 0 < k) (hk : mEnd k ns ≤ 1099511627776) (hl : ns.length ≤ maxLen) (ha : NodesAt w.heap.size w na (markNs k ns)) :
    Calls Try.prog 149 #[.slice na ns.length nc, .int .i64 k] w fun e w' => e = .returned (.int .i64 (mEnd k ns : Nat)) ∧ Below w.heap.size w w' := by
  unfold maxLen at hl
  go_enter Try.func149, Try.ntmps149
  go_wp2
  go_loopw [1, 5] (fun kk i ws => ∃ (j q : Nat), j ≤ ns.length ∧ q = mEnd k (ns.take j) ∧ kk = .int .i64 (q : Int) ∧ i = .int .i64 (j : Int) ∧ Below w.heap.size w ws) (fun _ i _ => ns.length - (intOf i).toNat)
  case atStart => exact ⟨0, k, Nat.zero_le _, rfl, rfl, rfl, gre _⟩
  case round =>
    obtain ⟨j, q, hj, hq, rfl, rfl, hb⟩ := hrel
    by_cases hlt : j < ns.length
    · have i0 : (0 : Int) ≤ (j : Int) := by omega
      have i1 : (j : Int) < (ns.length : Int) := by omega
      obtain ⟨m, b, off, av, cv, hvk, _, rfl, hbs, hva⟩ := ha.get (by rw [markNs_length]; exact hlt)
      obtain ⟨n, hn⟩ : ∃ n, Hid (n = ns[j]!.vals.length) := ⟨_, rfl⟩
      have hm : m = ⟨(q : Int), markVs (q + 1) n⟩ := by rw [hvk.out, markNs_at ns k j hlt, hq, hn.out]
      subst hm
      have hva := hva.below hb hbs
      have c0 : wr.cell? ⟨b, off + j * 2, none⟩ = some (.int .i64 (q : Int)) := hva.tag
      have c1 : wr.cell? ⟨b, off + j * 2 + 1, none⟩ = some (.slice av n cv) := by have := hva.sl; rwa [markVs_length] at this
      have hv1 : ValsAt wr.heap.size wr av (markVs (q + 1) n) := hva.vals.mono hb.size
      have h1 := mEnd_take_le ns k (j + 1)
      have h2 := mEnd_take_succ ns k j hlt
      have h3 := mEnd_le (ns.take j) k
      have h4 := hn.out
      have hqq : q + 1 + 4 * n ≤ 1099511627776 := by omega
      have hq0 : k ≤ q := by omega
      have hqe : Hid (q + 1 + 4 * n = mEnd k (ns.take (j + 1))) := by show _ = _; omega
      clear h1 h2 h3 h4 hq ha hvk hva
      have hd : ¬ ((q : Int) + 1 + 4 * (n : Int) < 0) := by omega
      go_wp2_with (go_at_call 176; rw [show ((q : Int) + 1) = ((q + 1 : Nat) : Int) by omega]; refine (heldValS_any av n cv (q + 1) _ (by omega) (by omega) hv1).mono ?_; rintro e w2 ⟨rfl, hb2⟩)
      go_roundw
      case rel => exact ⟨j + 1, q + 1 + 4 * n, by omega, hqe.out, by go_num, by go_num, gca hb hb2⟩
      case measure => simp [intOf]; omega
    · have e : j = ns.length := by omega
      subst e
      rw [List.take_length] at hq
      subst hq
      go_wp2
      go_ret
      exact ⟨rfl, hb⟩

set_option maxRecDepth 100000 in
theorem heldGraph_any (g : GG) (na : Option Addr) (nc k : Nat) (w : World) (hk0 : 0 < k) (hk : mEnd k g.nodes ≤ 1099511627776) (hl : g.nodes.length ≤ maxLen) (ha : NodesAt w.heap.size w na (markNs k g.nodes)) :
    Calls Try.prog 89 #[g.val na nc, .int .i64 k] w fun e w' => e = .returned (.int .i64 (mEnd k g.nodes : Nat)) ∧ Below w.heap.size w w' := by
  have hd : ¬ (((mEnd k g.nodes : Nat) : Int) < 0) := by omega
  go_enter Try.func89, Try.ntmps89
  go_wp2_with (go_at_call 149; refine (heldNodeS_any na nc g.nodes k _ hk0 hk hl (ha.grow (gal (gre _) _))).mono ?_; rintro e w' ⟨rfl, hb⟩)
  go_ret
  exact ⟨rfl, gca (gal (gre _) _) hb⟩

end Go.Proofs.Ythjddpkegooobab

/-
  BYTESA: the laws' bytes. Own work.
-/
namespace Go.Proofs.Ythjddpkegooobab
open Go.RowKit

set_option maxRecDepth 100000 in
theorem toByteS_any (a : Option Addr) (bs : List Nat) (cap : Nat) (w : World) (hl : bs.length ≤ 1048576) (ha : BytesAt w a bs) :
    Calls Try.prog 25 #[.slice a bs.length cap] w fun e w' => ∃ b, e = .returned (.slice (some ⟨b, 0, none⟩) bs.length bs.length) ∧ w.heap.size ≤ b ∧ BRow w' b bs.length bs ∧ Below w.heap.size w w' := by
  obtain ⟨i0, hi, hz0, hz1, hz2⟩ := info_parts info_u8
  have hmk : ∀ u : World, (Instr.makeSlice 28 (.int .i64 (bs.length : Int)) (.int .i64 (bs.length : Int))).run Try.prog u =
      .ok (.slice (some ⟨u.heap.size, 0, none⟩) bs.length bs.length) (u.alloc (.cells (madeCells #[.int .u8 0] bs.length) 5)) := fun u => by
    have h := run_make (P := Try.prog) u 28 5 i0 _ Try.underlying28 hi hz0 .i64 .i64 (bs.length : Int) (bs.length : Int) (by omega) (Int.le_refl _) (by rw [hz2]; omega) (by omega)
    simpa [hz1, Value.cells] using h
  go_enter Try.func25, Try.ntmps25
  go_wp2
  go_loopw [4] (fun i wr => ∃ (k : Nat) (f : Nat → Value), k ≤ bs.length ∧ i = .int .i64 k ∧ wr.rowIs w.heap.size 5 bs.length f ∧ (∀ j, j < k → f j = .int .u8 ((bs[j]! : Nat) : Int)) ∧ Below w.heap.size w wr) (fun i _ => bs.length - (intOf i).toNat)
  case atStart => exact ⟨0, _, Nat.zero_le _, rfl, rowIs_made_any _ _ _ _, fun i hi => absurd hi (Nat.not_lt_zero _), (Below.refl _ _).alloc (Nat.le_refl _) _⟩
  case round =>
    obtain ⟨k, f, hk, rfl, hrow, hin, hb⟩ := hrel
    by_cases hlt : k < bs.length
    · obtain ⟨x, b, off, hxk, hxm, rfl, hc⟩ := (ha.grow hb).get hlt
      have d0 := hrow.cell hlt
      have f0 := hrow.frozen
      go_wp2
      go_roundw
      case rel =>
        refine ⟨k + 1, _, by omega, by go_num, hrow.set _ _, fun j hj => ?_, hb.setCell (Nat.le_refl _) _⟩
        show (if j = k then _ else _) = _
        split
        · rename_i e; rw [e, ← hxk.out]
        · exact hin j (by omega)
      case measure => simp [intOf]; omega
    · go_wp2
      go_ret
      have e : k = bs.length := by omega
      subst e
      exact ⟨_, rfl, Nat.le_refl _, BRow.of_row hrow (Nat.le_refl _) hin, hb⟩

set_option maxRecDepth 100000 in
theorem eqByteS_same (a a' : Option Addr) (bs : List Nat) (cap cap' : Nat) (w : World) (hl : bs.length ≤ maxLen) (ha : BytesAt w a bs) (ha' : BytesAt w a' bs) :
    Calls Try.prog 19 #[.slice a bs.length cap, .slice a' bs.length cap'] w fun e w' => e = .returned (.bool true) ∧ Below w.heap.size w w' := by
  unfold maxLen at hl
  have hne : ((bs.length : Int) != (bs.length : Int)) = false := by simp
  go_enter Try.func19, Try.ntmps19
  go_wp2
  go_loopw [5] (fun i wr => ∃ (k : Nat), k ≤ bs.length ∧ i = .int .i64 k ∧ Below w.heap.size w wr) (fun i _ => bs.length - (intOf i).toNat)
  case atStart => exact ⟨0, Nat.zero_le _, rfl, gre _⟩
  case round =>
    obtain ⟨k, hk, rfl, hb⟩ := hrel
    by_cases hlt : k < bs.length
    · obtain ⟨x, b, off, hxk, hxm, rfl, hc⟩ := (ha.grow hb).get hlt
      obtain ⟨y, b', off', hyk, hym, rfl, hc'⟩ := (ha'.grow hb).get hlt
      obtain rfl : y = x := by rw [hyk.out, hxk.out]
      have hn2 : ((y : Int) != (y : Int)) = false := by simp
      go_wp2_with (go_quiet (fail))
      go_roundw
      case rel => exact ⟨k + 1, by omega, by go_num, hb.trans ⟨rfl, rfl, rfl, Nat.le_refl _, fun _ _ => rfl⟩⟩
      case measure => simp [intOf]; omega
    · go_wp2
      go_ret
      exact ⟨rfl, hb⟩

end Go.Proofs.Ythjddpkegooobab

/-
  BYTES: the laws' bytes, marked. Own work.
-/
namespace Go.Proofs.Ythjddpkegooobab
open Go.RowKit

def marksB (k n : Nat) : List Nat := (List.range n).map fun j => (k + j) % 256
set_option maxRecDepth 100000 in
theorem marksB_length (k n : Nat) : (marksB k n).length = n := by simp [marksB]
theorem marksB_get {k n i : Nat} (h : i < n) : (marksB k n)[i]! = (k + i) % 256 := by
  rw [getElem!_pos _ i (by rw [marksB_length]; exact h)]
  simp [marksB]

set_option maxRecDepth 100000 in
theorem markByteS_any (oa : Option Addr) (bs : List Nat) (cap k lo : Nat) (w : World) (hl : bs.length ≤ 1048576) (hk : k ≤ 1099511627776) (hM : MB w lo oa bs) :
    Calls Try.prog 22 #[.slice oa bs.length cap, .int .i64 k] w fun e w' => e = .returned (.int .i64 ((k + bs.length : Nat) : Int)) ∧ MB w' lo oa (marksB k bs.length) ∧ Kept (fun b => lo ≤ b ∧ oa = some ⟨b, 0, none⟩) w w' := by
  rcases hM with rfl | ⟨G, n, rfl, hG, hB⟩
  · go_enter Try.func22, Try.ntmps22
    go_wp2
    go_loopw [1, 5] (fun c i wr => c = .int .i64 k ∧ i = .int .i64 0 ∧ wr = w) (fun _ _ _ => 0)
    case atStart => exact ⟨rfl, rfl, rfl⟩
    case round =>
      obtain ⟨rfl, rfl, rfl⟩ := hrel
      go_wp2
      go_ret
      exact ⟨rfl, Or.inl rfl, Kept.refl _ _⟩
  · obtain ⟨f0, hr0, _⟩ := hB.row
    have hln : bs.length ≤ n := by obtain ⟨c, _, _, hl, _⟩ := hB; exact hl
    go_enter Try.func22, Try.ntmps22
    go_wp2
    go_loopw [1, 5] (fun c i wr => ∃ (m : Nat) (f : Nat → Value), m ≤ bs.length ∧ c = .int .i64 ((k + m : Nat) : Int) ∧ i = .int .i64 m ∧ wr.rowIs G 5 n f ∧ (∀ j, j < m → f j = .int .u8 (((k + j) % 256 : Nat) : Int)) ∧ Kept (fun b => b = G) w wr) (fun _ i _ => bs.length - (intOf i).toNat)
    case atStart => exact ⟨0, f0, Nat.zero_le _, rfl, rfl, hr0, fun j hj => absurd hj (Nat.not_lt_zero _), Kept.refl _ _⟩
    case round =>
      obtain ⟨m, f, hm, rfl, rfl, hrow, hin, hK⟩ := hrel
      obtain ⟨q, hq⟩ := hid_ex (k + m)
      rw [← hq.out]
      have hq1 : q ≤ 2199023255552 := by rw [hq.out]; omega
      by_cases hlt : m < bs.length
      · have d0 := hrow.cell (i := m) (by omega)
        have fz := hrow.frozen
        obtain ⟨x, hx⟩ := hid_ex (q % 256)
        have e2 : IntKind.u8.wrap (q : Int) = (x : Int) := by rw [hx.out, IntKind.wrap_u8']; omega
        go_wp2
        go_roundw
        case rel =>
          refine ⟨m + 1, _, by omega, ?_, by go_num, hrow.set _ _, fun j hj => ?_, hK.set (fun _ => rfl) _⟩
          · have : q + 1 = k + (m + 1) := by rw [hq.out]; omega
            rw [← this]; go_num
          · show (if j = m then _ else _) = _
            split
            · rename_i e; rw [e, hx.out, hq.out]
            · exact hin j (by omega)
        case measure => simp [intOf]; omega
      · obtain rfl : m = bs.length := by omega
        go_wp2
        go_ret
        refine ⟨by rw [← hq.out]; rfl, Or.inr ⟨G, n, rfl, hG, BRow.of_row hrow (by rw [marksB_length]; exact hln) (fun i hi => ?_)⟩, hK.mono (fun b _ e => by subst e; exact ⟨hG, rfl⟩)⟩
        rw [marksB_length] at hi
        rw [marksB_get hi]; exact hin i hi

set_option maxRecDepth 100000 in
theorem heldByteS_any (oa : Option Addr) (n cap k : Nat) (w : World) (hl : n ≤ 1048576) (hk : k ≤ 1099511627776) (hM : BytesAt w oa (marksB k n)) :
    Calls Try.prog 23 #[.slice oa n cap, .int .i64 k] w fun e w' => e = .returned (.int .i64 ((k + n : Nat) : Int)) ∧ Below w.heap.size w w' := by
  go_enter Try.func23, Try.ntmps23
  go_wp2
  go_loopw [1, 5] (fun c i wr => ∃ (m : Nat), m ≤ n ∧ c = .int .i64 ((k + m : Nat) : Int) ∧ i = .int .i64 m ∧ Below w.heap.size w wr) (fun _ i _ => n - (intOf i).toNat)
  case atStart => exact ⟨0, Nat.zero_le _, rfl, rfl, gre _⟩
  case round =>
    obtain ⟨m, hm, rfl, rfl, hb⟩ := hrel
    obtain ⟨q, hq⟩ := hid_ex (k + m)
    rw [← hq.out]
    have hq1 : q ≤ 2199023255552 := by rw [hq.out]; omega
    by_cases hlt : m < n
    · obtain ⟨x, b, off, hxk, hxm, rfl, hc⟩ := (hM.grow hb).get (k := m) (by rw [marksB_length]; exact hlt)
      have hx2 : Hid (x = q % 256) := by show _ = _; rw [hxk.out, marksB_get hlt, hq.out]
      have e2 : IntKind.u8.wrap (q : Int) = (x : Int) := by rw [hx2.out, IntKind.wrap_u8']; omega
      have hn2 : ((x : Int) != (x : Int)) = false := by simp
      go_wp2
      go_roundw
      case rel =>
        refine ⟨m + 1, by omega, ?_, by go_num, hb⟩
        have : q + 1 = k + (m + 1) := by rw [hq.out]; omega
        rw [← this]; go_num
      case measure => simp [intOf]; omega
    · obtain rfl : m = n := by omega
      go_wp2
      go_ret
      exact ⟨by rw [← hq.out]; rfl, hb⟩

end Go.Proofs.Ythjddpkegooobab

/-
  LATERA: what stays, later. Own work.
-/
namespace Go.Proofs.Ythjddpkegooobab
open Go.RowKit

theorem OwnG.later {w w' : World} {base : Nat} {na : Option Addr} {nc : Nat} {nl : List NL} (h : OwnG w base na nc nl) (hb : Below w.heap.size w w') : OwnG w' base na nc nl := h.kept (Kept.of_below hb (fun _ => False)) (fun _ _ e => e) (fun _ _ _ _ e => e)
theorem canonZ_ok {g : GG} (hg : g.Ok) : (canonZ g).Ok := by
  unfold canonZ
  split
  · exact canon_ok hg (by assumption)
  · exact ⟨⟨by unfold I64; simp, by unfold I64; simp, by show 0 ≤ maxLen; exact Nat.zero_le _, by unfold I64; simp⟩, by show 0 ≤ maxLen; exact Nat.zero_le _, fun n hn => by cases hn⟩
theorem OwnG.touch {w : World} {base : Nat} {na : Option Addr} {nc : Nat} {nl : List NL} (h : OwnG w base na nc nl) {b : Nat} (hb : Touch na nl.length (fun i => nl[i]!.a) b) : base ≤ b ∧ b < w.heap.size := by
  rcases hb with e | ⟨i, hi, e⟩
  · exact h.nodes.lt b (by rw [e]; rfl)
  · exact (h.vals _ (mem_at hi)).lt b (by simp only at e; rw [e]; rfl)

end Go.Proofs.Ythjddpkegooobab

/-
  LATER: small facts for laws on graphs. Own work.
-/
namespace Go.Proofs.Ythjddpkegooobab
open Go.RowKit

theorem OwnNodes.touch {w : World} {N : Nat} {bs : Nat → Nat} {ns : List GN} (h : OwnNodes w N bs ns) {b : Nat} (hb : Touch (some ⟨N, 0, none⟩) ns.length (fun i => some ⟨bs i, 0, none⟩) b) : N ≤ b ∧ b < w.heap.size := by
  obtain ⟨f, hr, hn⟩ := h
  rcases hb with e | ⟨i, hi, e⟩
  · have e2 := some_addr e
    subst e2
    exact ⟨Nat.le_refl _, hr.lt⟩
  · have e2 := some_addr e
    obtain ⟨_, _, h2, h3, _⟩ := hn i hi
    have := h2.lt
    subst e2
    exact ⟨by omega, this⟩

theorem canonZ_small (g : GG) : (canonZ g).nodes.length ≤ 300 ∧ mEnd 1 (canonZ g).nodes ≤ 1099511627776 := by
  unfold canonZ
  split
  · rename_i hok
    have h := canon_small hok
    have h2 := mEnd_small (canon g).nodes h.2 1
    exact ⟨h.1, by omega⟩
  · exact ⟨Nat.zero_le _, by simp [mEnd]⟩

end Go.Proofs.Ythjddpkegooobab

/-
  EQ: the laws' comparisons, where both are the same. Own work.
-/
namespace Go.Proofs.Ythjddpkegooobab
open Go.RowKit

set_option maxRecDepth 100000 in
theorem eqVal_same (v : GV) (w : World) :
    Calls Try.prog 80 #[v.val, v.val] w fun e w' => e = .returned (.bool true) ∧ Below w.heap.size w w' := by
  go_enter Try.func80, Try.ntmps80
  go_wp2
  all_goals go_ret
  all_goals exact ⟨rfl, gal (gal (gre _) _) _⟩

set_option maxRecDepth 100000 in
theorem eqValS_same (a a' : Option Addr) (cap cap' : Nat) (vs : List GV) (w : World) (hl : vs.length ≤ maxLen) (ha : ValsAt w.heap.size w a vs) (ha' : ValsAt w.heap.size w a' vs) :
    Calls Try.prog 171 #[.slice a vs.length cap, .slice a' vs.length cap'] w fun e w' => e = .returned (.bool true) ∧ Below w.heap.size w w' := by
  unfold maxLen at hl
  go_enter Try.func171, Try.ntmps171
  go_wp2
  go_loopw [5] (fun i wr => ∃ k : Nat, k ≤ vs.length ∧ i = .int .i64 k ∧ Below w.heap.size w wr) (fun i _ => vs.length - (intOf i).toNat)
  case atStart => exact ⟨0, Nat.zero_le _, rfl, Below.refl _ _⟩
  case round =>
    obtain ⟨k, hk, rfl, hb⟩ := hrel
    by_cases hlt : k < vs.length
    · obtain ⟨v, b, off, hvk, hvm, rfl, hbs, hva⟩ := ha.get hlt
      obtain ⟨v', b', off', hvk', hvm', rfl, hbs', hva'⟩ := ha'.get hlt
      have e : v' = v := by rw [hvk.out, hvk'.out]
      subst e
      have hva := hva.below hb hbs
      have hva' := hva'.below hb hbs'
      have hz1 : b < wr.heap.size := Nat.lt_of_lt_of_le hbs hb.size
      have hz2 : b' < wr.heap.size := Nat.lt_of_lt_of_le hbs' hb.size
      have c0 := hva.kind
      have c1 := hva.num
      have c2 := hva.text
      have c3 := hva.node
      have d0 := hva'.kind
      have d1 := hva'.num
      have d2 := hva'.text
      have d3 := hva'.node
      have i0 : (0 : Int) ≤ (k : Int) := by omega
      have i1 : (k : Int) < (vs.length : Int) := by omega
      clear ha ha' hvk hvk' hva hva'
      go_wp2
      go_region_held3 (fun w' => w'.cell? ⟨b, off + k * 4, none⟩ = some (.int .i64 v'.kind) ∧ w'.cell? ⟨b, off + k * 4 + 1, none⟩ = some (.int .i64 v'.num) ∧ w'.cell? ⟨b, off + k * 4 + 2, none⟩ = some (.string v'.text) ∧ w'.cell? ⟨b, off + k * 4 + 3, none⟩ = some (.int .i64 v'.node) ∧ w'.cell? ⟨b', off' + k * 4, none⟩ = some (.int .i64 v'.kind) ∧ w'.cell? ⟨b', off' + k * 4 + 1, none⟩ = some (.int .i64 v'.num) ∧ w'.cell? ⟨b', off' + k * 4 + 2, none⟩ = some (.string v'.text) ∧ w'.cell? ⟨b', off' + k * 4 + 3, none⟩ = some (.int .i64 v'.node)) (first | go_keep | (go_split_ands; refine ⟨?_, ?_, ?_, ?_, ?_, ?_, ?_, ?_⟩ <;> exact cell_later hb' (by assumption))) ((go_at_call 80; refine (eqVal_same v' _).mono ?_; rintro e w' ⟨rfl, hb'⟩))
      go_wp2
      go_roundw
      case rel => exact ⟨k + 1, by omega, by go_num, gca (gdr hb) hb'⟩
      case measure => simp [intOf]; omega
    · go_wp2
      go_ret
      exact ⟨rfl, hb⟩

set_option maxRecDepth 100000 in
theorem eqNode_same (a a' : Option Addr) (cap cap' : Nat) (n : GN) (w : World) (hl : n.vals.length ≤ maxLen) (ha : ValsAt w.heap.size w a n.vals) (ha' : ValsAt w.heap.size w a' n.vals) :
    Calls Try.prog 140 #[.agg #[.int .i64 n.tag, .slice a n.vals.length cap], .agg #[.int .i64 n.tag, .slice a' n.vals.length cap']] w fun e w' => e = .returned (.bool true) ∧ Below w.heap.size w w' := by
  go_enter Try.func140, Try.ntmps140
  go_wp2_with (go_at_call 171; refine (eqValS_same a a' cap cap' n.vals _ hl (ha.grow (gal (gal (gre _) _) _)) (ha'.grow (gal (gal (gre _) _) _))).mono ?_; rintro e w' ⟨rfl, hb'⟩)
  go_ret
  exact ⟨rfl, gca (gal (gal (gre _) _) _) hb'⟩

set_option maxRecDepth 100000 in
theorem eqNodeS_same (a a' : Option Addr) (cap cap' : Nat) (ns : List GN) (w : World) (hl : ns.length ≤ maxLen) (hv : ∀ n, n ∈ ns → n.vals.length ≤ maxLen) (ha : NodesAt w.heap.size w a ns) (ha' : NodesAt w.heap.size w a' ns) :
    Calls Try.prog 81 #[.slice a ns.length cap, .slice a' ns.length cap'] w fun e w' => e = .returned (.bool true) ∧ Below w.heap.size w w' := by
  unfold maxLen at hl
  go_enter Try.func81, Try.ntmps81
  go_wp2
  go_loopw [5] (fun i wr => ∃ k : Nat, k ≤ ns.length ∧ i = .int .i64 k ∧ Below w.heap.size w wr) (fun i _ => ns.length - (intOf i).toNat)
  case atStart => exact ⟨0, Nat.zero_le _, rfl, Below.refl _ _⟩
  case round =>
    obtain ⟨k, hk, rfl, hb⟩ := hrel
    by_cases hlt : k < ns.length
    · obtain ⟨n, b, off, av, cv, hvk, hvm, rfl, hbs, hva⟩ := ha.get hlt
      obtain ⟨n', b', off', av', cv', hvk', hvm', rfl, hbs', hva'⟩ := ha'.get hlt
      have e : n' = n := by rw [hvk.out, hvk'.out]
      subst e
      have hva := hva.below hb hbs
      have hva' := hva'.below hb hbs'
      have c0 := hva.tag
      have c1 := hva.sl
      have d0 := hva'.tag
      have d1 := hva'.sl
      have i0 : (0 : Int) ≤ (k : Int) := by omega
      have i1 : (k : Int) < (ns.length : Int) := by omega
      have hvl := hv n' hvm
      have hv1 : ValsAt wr.drew.heap.size wr.drew av n'.vals := (hva.vals.mono hb.size).grow (gdr (gre _))
      have hv2 : ValsAt wr.drew.heap.size wr.drew av' n'.vals := (hva'.vals.mono hb.size).grow (gdr (gre _))
      clear ha ha' hvk hvk' hva hva'
      go_wp2
      go_region_held3 (fun w' => w'.cell? ⟨b, off + k * 2, none⟩ = some (.int .i64 n'.tag) ∧ w'.cell? ⟨b, off + k * 2 + 1, none⟩ = some (.slice av n'.vals.length cv) ∧ w'.cell? ⟨b', off' + k * 2, none⟩ = some (.int .i64 n'.tag) ∧ w'.cell? ⟨b', off' + k * 2 + 1, none⟩ = some (.slice av' n'.vals.length cv')) (first | go_keep | (go_split_ands; refine ⟨?_, ?_, ?_, ?_⟩ <;> exact cell_later hb' (by assumption))) ((go_at_call 140; refine (eqNode_same av av' cv cv' n' _ hvl hv1 hv2).mono ?_; rintro e w' ⟨rfl, hb'⟩))
      go_wp2
      go_roundw
      case rel => exact ⟨k + 1, by omega, by go_num, gca (gdr hb) hb'⟩
      case measure => simp [intOf]; omega
    · go_wp2
      go_ret
      exact ⟨rfl, hb⟩

set_option maxRecDepth 100000 in
theorem eqGraph_same (a a' : Option Addr) (cap cap' : Nat) (g : GG) (w : World) (hg : g.Ok) (ha : NodesAt w.heap.size w a g.nodes) (ha' : NodesAt w.heap.size w a' g.nodes) :
    Calls Try.prog 20 #[g.val a cap, g.val a' cap'] w fun e w' => e = .returned (.bool true) ∧ Below w.heap.size w w' := by
  go_enter Try.func20, Try.ntmps20
  go_wp2_with (first | (go_at_call 80; refine (eqVal_same g.root _).mono ?_; rintro e w' ⟨rfl, hb'⟩; obtain ⟨hc, hf⟩ := bcell hb') | (go_at_call 81; refine (eqNodeS_same a a' cap cap' g.nodes _ hg.len (fun n hn => (hg.nodes n hn).len) (ha.grow (gca (gal (gal (gre _) _) _) hb')) (ha'.grow (gca (gal (gal (gre _) _) _) hb'))).mono ?_; rintro e w'' ⟨rfl, hb''⟩))
  go_ret
  exact ⟨rfl, gca (gca (gal (gal (gre _) _) _) hb') hb''⟩

end Go.Proofs.Ythjddpkegooobab

/-
  LAW: FnExactUnpack, walked. Own work.
-/
namespace Go.Proofs.Ythjddpkegooobab
open Go.RowKit

theorem MB.kept2 {p : Nat → Prop} {w w' : World} {lo : Nat} {oa : Option Addr} {ys : List Nat} (h : MB w lo oa ys) (k : Kept p w w') (hp : ∀ b, oa = some ⟨b, 0, none⟩ → ¬ p b) : MB w' lo oa ys := by
  rcases h with rfl | ⟨G, n, rfl, hG, hB⟩
  · exact Or.inl rfl
  · exact Or.inr ⟨G, n, rfl, hG, hB.kept k (hp G rfl)⟩
theorem MB.grow2 {w w' : World} {lo : Nat} {oa : Option Addr} {ys : List Nat} (h : MB w lo oa ys) (k : Below w.heap.size w w') : MB w' lo oa ys := h.kept2 (Kept.of_below k (fun _ => False)) (fun _ _ e => e)

theorem unB_cases (bs : List Nat) : (unB bs).2 = zeroG ∨ (okG (unB bs).2 = true ∧ (unB bs).2.Ok) := by
  unfold unB
  cases h : rdGraph bs with
  | none => exact Or.inl rfl
  | some y =>
    obtain ⟨g, q⟩ := y
    by_cases hp : packB g = bs
    · right
      have e : (if packB g = bs then (true, g) else (false, zeroG)) = (true, g) := if_pos hp
      dsimp only
      rw [e]
      refine ⟨?_, rdGraph_ok h⟩
      by_cases ho : okG g = true ∧ (imageB g).length ≤ 4096
      · exact ho.1
      · unfold packB at hp
        rw [if_neg ho] at hp
        rw [← hp] at h
        cases h
    · left
      have e : (if packB g = bs then (true, g) else (false, zeroG)) = (false, zeroG) := if_neg hp
      dsimp only
      rw [e]
theorem zeroG_ok : zeroG.Ok := ⟨⟨small_i64 (by show (0 : Int) ≤ 0 ∧ (0 : Int) ≤ 1000000; omega), small_i64 (by show (0 : Int) ≤ 0 ∧ (0 : Int) ≤ 1000000; omega), Nat.zero_le _, small_i64 (by show (0 : Int) ≤ 0 ∧ (0 : Int) ≤ 1000000; omega)⟩, Nat.zero_le _, fun n hn => (by cases hn)⟩
theorem unB_ok (bs : List Nat) : (unB bs).2.Ok ∧ (unB bs).2.nodes.length ≤ 300 ∧ mEnd 1 (unB bs).2.nodes ≤ 1099511627776 := by
  rcases unB_cases bs with h | ⟨h, ho⟩
  · rw [h]
    exact ⟨zeroG_ok, Nat.zero_le _, by show mEnd 1 [] ≤ _; simp [mEnd]⟩
  · obtain ⟨h1, _, h3⟩ := okG_parts h
    have h4 := mEnd_small (unB bs).2.nodes (fun n hn => (okN_parts (h3 n hn)).1) 1
    exact ⟨ho, h1, by omega⟩

set_option maxRecDepth 100000 in
theorem eqUnpacked_same (ok : Bool) (g : GG) (na na' : Option Addr) (nc nc' : Nat) (w : World) (hg : g.Ok) (h1 : NodesAt w.heap.size w na g.nodes) (h2 : NodesAt w.heap.size w na' g.nodes) :
    Calls Try.prog 27 #[unVal ok g na nc, unVal ok g na' nc'] w fun e w' => e = .returned (.bool true) ∧ Below w.heap.size w w' := by
  have hne : (ok != ok) = false := by cases ok <;> rfl
  go_enter Try.func27, Try.ntmps27
  go_wp2_with (go_at_call 20; refine (eqGraph_same na na' nc nc' g _ hg (h1.grow (gal (gal (gre _) _) _)) (h2.grow (gal (gal (gre _) _) _))).mono ?_; rintro e w1 ⟨rfl, hb⟩)
  go_ret
  exact ⟨rfl, gca (gal (gal (gre _) _) _) hb⟩

set_option maxRecDepth 100000 in
theorem markUnpacked_any (ok : Bool) (g : GG) (na : Option Addr) (nc : Nat) (va : Nat → Option Addr) (vc : Nat → Nat) (k : Nat) (w : World) (hk0 : 0 < k) (hk : mEnd k g.nodes ≤ 1099511627776) (hl : g.nodes.length ≤ maxLen) (h : MG w na g.nodes va vc) :
    Calls Try.prog 28 #[unVal ok g na nc, .int .i64 k] w fun e w' => e = .returned (.int .i64 (mEnd k g.nodes : Nat)) ∧ Kept (Touch na g.nodes.length va) w w' ∧ NodesAt w'.heap.size w' na (markNs k g.nodes) := by
  go_enter Try.func28, Try.ntmps28
  go_wp2_with (go_at_call 21; refine (markGraph_any g na nc va vc k _ hk0 hk hl (h.grow (gal (gre _) _))).mono ?_; rintro e w1 ⟨rfl, hK, hN⟩)
  go_ret
  exact ⟨rfl, ((Kept.refl _ w).alloc _).trans hK (fun _ _ e => e), hN⟩

set_option maxRecDepth 100000 in
theorem heldUnpacked_any (ok : Bool) (g : GG) (na : Option Addr) (nc k : Nat) (w : World) (hk0 : 0 < k) (hk : mEnd k g.nodes ≤ 1099511627776) (hl : g.nodes.length ≤ maxLen) (ha : NodesAt w.heap.size w na (markNs k g.nodes)) :
    Calls Try.prog 29 #[unVal ok g na nc, .int .i64 k] w fun e w' => e = .returned (.int .i64 (mEnd k g.nodes : Nat)) ∧ Below w.heap.size w w' := by
  have hd : ¬ (((mEnd k g.nodes : Nat) : Int) < 0) := by omega
  go_enter Try.func29, Try.ntmps29
  go_wp2_with (go_at_call 89; refine (heldGraph_any g na nc k _ hk0 hk hl (ha.grow (gal (gre _) _))).mono ?_; rintro e w1 ⟨rfl, hb⟩)
  go_ret
  exact ⟨rfl, gca (gal (gre _) _) hb⟩

set_option maxHeartbeats 4000000 in
set_option maxRecDepth 100000 in
theorem lawUnpack (a : Option Addr) (cap : Nat) (bs : List Nat) (w : World) (ha : BytesAt w a bs) (_hcap : bs.length ≤ cap) (hml : bs.length ≤ maxLen) (hx : ∀ x, x ∈ bs → x < 256) :
    Calls Try.prog 4 #[.slice a bs.length cap] w fun e w' => e = .returned (.bool true) ∧ Below w.heap.size w w' := by
  have hml' := hml
  unfold maxLen at hml'
  by_cases hs : bs.length ≤ 1048576
  · have hd : ¬ ((1048576 : Int) < (bs.length : Int)) := by omega
    obtain ⟨hgok, hgl, hgm⟩ := unB_ok bs
    obtain ⟨ok, hok⟩ := hid_ex (unB bs).1
    obtain ⟨g, hg⟩ := hid_ex (unB bs).2
    rw [← hg.out] at hgok hgl hgm
    have hglm : g.nodes.length ≤ maxLen := by unfold maxLen; omega
    obtain ⟨m1, hm1⟩ := hid_ex (1 + bs.length)
    obtain ⟨m2, hm2⟩ := hid_ex (mEnd 1 g.nodes)
    have hd3 : ¬ ((m1 : Int) < 0) := by omega
    have hd4 : ¬ ((m2 : Int) < 0) := by omega
    have hd5 : ((m2 : Int) != (m2 : Int)) = false := by simp
    go_enter Try.func4, Try.ntmps4
    go_wp2_with (first
      | (go_at_call 25; refine (toByteS_any a bs cap _ hs (ha.grow (gca hA2 hL11))).mono ?_; rintro e w12 ⟨b12, rfl, hbb12, hB12, hb12⟩)
      | (go_at_call 25; refine (toByteS_any a bs cap _ hs (ha.grow (gca hA2 hL5))).mono ?_; rintro e w6 ⟨b6, rfl, hbb6, hB6, hb6⟩)
      | (go_at_call 25; refine (toByteS_any a bs cap _ hs (ha.grow hA2)).mono ?_; rintro e w3 ⟨b3, rfl, hbb3, hB3, hb3⟩; have hM3 : MB w3 0 (some ⟨b3, 0, none⟩) bs := Or.inr ⟨b3, bs.length, rfl, Nat.zero_le _, hB3⟩; have hlt3 := hB3.lt)
      | (go_at_call 25; refine (toByteS_any a bs cap _ hs ha).mono ?_; rintro e w1 ⟨b1, rfl, hbb1, hB1, hb1⟩)
      | (go_at_call 24; refine (specUnpack_any _ _ bs _ (brow_bytes hB1) (Nat.le_refl _) hml hx).mono ?_; rintro e w2 ⟨na2, nc2, rfl, hN2, hgs2, hb2⟩; rw [sUnB_eq bs hgs2, ← hg.out] at hN2; rw [sUnB_eq bs hgs2, ← hok.out, ← hg.out]; have hA2 : Below w.heap.size w (w2.alloc (.cells #[.bool ok, .int .i64 g.root.kind, .int .i64 g.root.num, .string g.root.text, .int .i64 g.root.node, .slice na2 g.nodes.length nc2] 41)) := gal (gca hb1 hb2) _; have hS2 := Six.new w2 ok g.root (.slice na2 g.nodes.length nc2) 41; have hN2' := hN2.grow (gal (gre w2) (.cells #[.bool ok, .int .i64 g.root.kind, .int .i64 g.root.num, .string g.root.text, .int .i64 g.root.node, .slice na2 g.nodes.length nc2] 41)))
      | (go_at_call 26; refine (implUnpack_any _ _ bs _ (brow_bytes hB12) (Nat.le_refl _) (by omega) hx).mono ?_; rintro e w13 ⟨na13, nc13, nl13, rfl, hnl13, hO13, hb13⟩; rw [← hg.out] at hnl13; rw [← hok.out, ← hg.out]; have hL13 := gal (gca (gca hL11 hb12) hb13) (.cells #[.bool ok, .int .i64 g.root.kind, .int .i64 g.root.num, .string g.root.text, .int .i64 g.root.node, .slice na13 g.nodes.length nc13] 41); obtain ⟨kz, k0, k1, k2, k3, k4, k5, kf⟩ := hS2.kept (Kept.of_below hL13 (fun _ => False)) (fun e => e); have hN13 := hO13.at_; rw [hnl13] at hN13)
      | (go_at_call 26; refine (implUnpack_any _ _ bs _ (brow_bytes hB3) (Nat.le_refl _) (by omega) hx).mono ?_; rintro e w4 ⟨na4, nc4, nl4, rfl, hnl4, hO4, hb4⟩; rw [← hg.out] at hnl4; rw [← hok.out, ← hg.out]; have hL4 := gal (gca hb3 hb4) (.cells #[.bool ok, .int .i64 g.root.kind, .int .i64 g.root.num, .string g.root.text, .int .i64 g.root.node, .slice na4 g.nodes.length nc4] 41); obtain ⟨lz, l0, l1, l2, l3, l4, l5, lf⟩ := hS2.kept (Kept.of_below hL4 (fun _ => False)) (fun e => e); have hS4 := Six.new w4 ok g.root (.slice na4 g.nodes.length nc4) 41; have hO4' := hO4.later (gal (gre w4) (.cells #[.bool ok, .int .i64 g.root.kind, .int .i64 g.root.num, .string g.root.text, .int .i64 g.root.node, .slice na4 g.nodes.length nc4] 41)); have hN4 := hO4'.at_; rw [hnl4] at hN4; have hs4 := hb4.size)
      | (go_at_call 27; refine (eqUnpacked_same ok g _ _ _ _ _ hgok (hN13.grow (gal (gre _) _)) ((hN2'.below hL13).mono (by have := hL13.size; exact this))).mono ?_; rintro e w14 ⟨rfl, hb14⟩; have hL14 := gca hL13 hb14; obtain ⟨iz, i0, i1, i2, i3, i4, i5, if_⟩ := hS11.kept (Kept.of_below (gca (gal (gca hb12 hb13) (.cells #[.bool ok, .int .i64 g.root.kind, .int .i64 g.root.num, .string g.root.text, .int .i64 g.root.node, .slice na13 g.nodes.length nc13] 41)) hb14) (fun _ => False)) (fun e => e); have hM14 := hM10.grow (gca (gal (gca (gca hb11 hb12) hb13) (.cells #[.bool ok, .int .i64 g.root.kind, .int .i64 g.root.num, .string g.root.text, .int .i64 g.root.node, .slice na13 g.nodes.length nc13] 41)) hb14))
      | (go_at_call 27; refine (eqUnpacked_same ok g _ _ _ _ _ hgok hN8 ((hN2'.below hL8).mono hL8.size)).mono ?_; rintro e w9 ⟨rfl, hb9⟩; have hL9 := gca hL8 hb9; have hO9 := hO8.later hb9; have hS9 := hS8.kept (Kept.of_below hb9 (fun _ => False)) (fun e => e); obtain ⟨vz, v0, v1, v2, v3, v4, v5, vf⟩ := id hS9; have hmg9 := hO9.mg; rw [hnl4] at hmg9)
      | (go_at_call 27; refine (eqUnpacked_same ok g _ _ _ _ _ hgok hN4 ((hN2'.below hL4).mono hL4.size)).mono ?_; rintro e w5 ⟨rfl, hb5⟩; have hL5 := gca hL4 hb5)
      | (go_at_call 19; refine (eqByteS_same _ _ bs _ _ _ hml (hM3.bytes.grow (gca (gca (gal hb4 _) hb5) hb6)) (brow_bytes hB6)).mono ?_; rintro e w7 ⟨rfl, hb7⟩; have hb47 := gca (gca hb5 hb6) hb7; have hM7 := hM3.grow2 (gca (gal hb4 _) hb47); have hL7 := gca (gca hL5 hb6) hb7; have hO7 := hO4'.later hb47; have hS7 := hS4.kept (Kept.of_below hb47 (fun _ => False)) (fun e => e))
      | (go_at_call 22; rw [show (1 : Int) = ((1 : Nat) : Int) by rfl]; refine (markByteS_any _ bs _ 1 0 _ (by omega) (by omega) hM7).mono ?_; rintro e w8 ⟨rfl, _, hK8⟩; rw [← hm1.out]; have hK8' : Kept (fun b => b = b3) w7 w8 := hK8.mono (fun b _ h => (some_addr h.2).symm); have hL8 := hL7.trans (hK8'.below hL7.size (fun k hk e => by simp only [World.size_alloc] at hbb3 hk; omega)); have hO8 := hO7.kept hK8' (fun k hk hp => by have := hO4.nodes.lt k (by rw [hk]; rfl); omega) (fun x hx k hk hp => by have := (hO4.vals x hx).lt k (by rw [hk]; rfl); omega); have hS8 := hS7.kept hK8' (by omega); have hN8 := hO8.at_; rw [hnl4] at hN8; obtain ⟨rz, r0, r1, r2, r3, r4, r5, rf⟩ := id hS8; obtain ⟨qz, q0, q1, q2, q3, q4, q5, qf⟩ := hS2.kept (Kept.of_below hL8 (fun _ => False)) (fun e => e))
      | (go_at_call 28; rw [show (1 : Int) = ((1 : Nat) : Int) by rfl]; refine (markUnpacked_any ok g na4 nc4 _ _ 1 _ (by omega) hgm hglm hmg9).mono ?_; rintro e w10 ⟨rfl, hK10, hM10⟩; rw [← hm2.out]; have hbg : ∀ b, Touch na4 g.nodes.length (fun i => nl4[i]!.a) b → w3.heap.size ≤ b ∧ b < w4.heap.size := (fun b hb => by rw [← hnl4, List.length_map] at hb; exact hO4.touch hb); have hL10 := hL9.trans (hK10.below hL9.size (fun k hk hp => by have h1 := hbg _ hp; have h2 := hb3.size; simp only [World.size_alloc] at h2 hk; omega)); have hS10 := hS9.kept hK10 (fun hp => by have := hbg _ hp; omega); obtain ⟨xz, x0, x1, x2, x3, x4, x5, xf⟩ := id hS10)
      | (go_at_call 29; rw [show (1 : Int) = ((1 : Nat) : Int) by rfl]; refine (heldUnpacked_any ok g na4 nc4 1 _ (by omega) hgm hglm hM14).mono ?_; rintro e w15 ⟨rfl, hb15⟩; rw [← hm2.out])
      | (go_at_call 29; rw [show (1 : Int) = ((1 : Nat) : Int) by rfl]; refine (heldUnpacked_any ok g na4 nc4 1 _ (by omega) hgm hglm hM10).mono ?_; rintro e w11 ⟨rfl, hb11⟩; rw [← hm2.out]; have hL11 := gca hL10 hb11; have hS11 := hS10.kept (Kept.of_below hb11 (fun _ => False)) (fun e => e)))
    go_ret
    exact ⟨rfl, gca hA2 (gca hL14 hb15)⟩
  · have hd : ((1048576 : Int) < (bs.length : Int)) := by omega
    go_enter Try.func4, Try.ntmps4
    go_wp2
    go_ret
    exact ⟨rfl, gre _⟩

end Go.Proofs.Ythjddpkegooobab

/-
  OPENB: what bytes that come in read as. Own work.
-/
namespace Go.Proofs.Ythjddpkegooobab
open Go.RowKit Go.ChangeShapes Go.WideShapes Go.Deep

set_option maxRecDepth 100000 in
theorem cellsU8 : Try.prog.cellsOf 5 = 1 := by kernel_rfl

theorem byte_of_wf {x : Int} (h : (Lit.int .u8 x).wf = true) : 0 ≤ x ∧ x < 256 := by
  simp [Lit.wf, IntKind.min, IntKind.max, IntKind.signed, IntKind.bits] at h
  omega

section
variable {H : Type} {enc : TypeId × Value → H} {w : World} {base : Nat} {held : Bool}

set_option maxRecDepth 100000 in
theorem openBytes {v : Value} {d : DataW H} {ps : List MemPlace} {r : Reach} {bd : Nat} (hv : Value.okWide Try.prog w r bd 28 v) (h : DataW.Trod enc Try.prog w base (fun _ => true) held 28 v d ps) :
    ∃ (bs : List Nat) (a : Option Addr) (cap : Nat), v = .slice a bs.length cap ∧ bs.length ≤ cap ∧ bs.length ≤ maxLen ∧ (∀ x, x ∈ bs → x < 256) ∧ BytesAt w a bs := by
  obtain ⟨fuel, h⟩ := h
  have hcs : v.cells.toList = [v] := by
    cases v <;> first | rfl | (exfalso; simp [Value.okWide, Cell.okWide, Cell.ok, Try.underlying28] at hv)
  rw [hcs] at h
  rcases open_ints Try.underlying28 Try.underlying5 cellsU8 h with ⟨e, _⟩ | ⟨a, len, cap, zs, e, _, hlc, hcm, hzl, _, hcell, hwf⟩
  · simp at e
    subst e
    exact ⟨[], none, 0, rfl, Nat.le_refl _, Nat.zero_le _, fun x hx => (by cases hx), fun i hi => absurd hi (Nat.not_lt_zero _)⟩
  · simp at e
    subst e
    simp at hzl
    have hl : ((zs.take len).map Int.toNat).length = len := by rw [List.length_map, List.length_take]; omega
    refine ⟨(zs.take len).map Int.toNat, some a, cap, by rw [hl], by omega, by omega, fun x hx => ?_, fun i hi => ?_⟩
    · obtain ⟨z, hz, rfl⟩ := List.mem_map.1 hx
      have := byte_of_wf (hwf z (List.mem_of_mem_take hz))
      omega
    · rw [hl] at hi
      have h1 := hcell i (by omega)
      obtain ⟨b, off, sp⟩ := a
      have h0 := hcell 0 (by omega)
      have hsp : sp = none := by simpa [Addr.add] using World.cell?_spot h0
      subst hsp
      refine ⟨b, off, rfl, ?_⟩
      have e1 : (⟨b, off, none⟩ : Addr).add i = ⟨b, off + i, none⟩ := by unfold Addr.add; simp
      rw [e1] at h1
      rw [h1]
      have h2 := byte_of_wf (hwf zs[i] (List.getElem_mem (by omega)))
      rw [getElem!_pos _ i (by rw [hl]; exact hi)]
      have e2 : ((zs.take len).map Int.toNat)[i]'(by rw [hl]; exact hi) = (zs[i]'(by omega)).toNat := by simp
      rw [e2]
      have e3 : zs.getD i 0 = zs[i]'(by omega) := by simp [List.getD, List.getElem?_eq_getElem (show i < zs.length by omega)]
      rw [e3]
      congr 2
      omega
end

end Go.Proofs.Ythjddpkegooobab

/-
  DONE: the row of FnExactUnpack, proved. Own work.
-/
namespace Go.Proofs.Ythjddpkegooobab
open Go.ChangeShapes Go.WideShapes Go.ChangeAt Go.RowKit

set_option maxRecDepth 100000 in
theorem ownUnpack : ownKnob Try.prog.godebug = none := by kernel_rfl
theorem laidOutUnpack : laidOutB Try.prog = true := by kernel_rfl

set_option maxRecDepth 100000 in
theorem liftedUnpack (os : Os) (started : os.Started) (H : Type) (enc : TypeId × Value → H) :
    ReturnsInHanded {} Try.checked os 4 .any (Rows.fnExactUnpackSpec.pre6 enc Try.prog Try.f4 Rows.fnExactUnpackRow.domain false) (Rows.fnExactUnpackSpec.post enc Try.prog Try.f4 false true false false) := by
  refine returnsInHanded_of_change (C := Try.checked) ownUnpack started (by kernel_rfl) Try.func4
    (ChangeSpec.witness6 (enc := enc) (C := Try.checked) false ⟨#[], #[.slice none 0 0], []⟩ 8 (by kernel_rfl) (by kernel_rfl) (by kernel_rfl) (by kernel_rfl)) ?_
  intro W base args ds gs before hval0 hW hcnd _
  have hval : ∀ (j : Nat) t v, Try.f4.params[j]? = some t → args[j]? = some v → Value.okWide Try.prog W .any base t v := hval0
  have hW' := hW
  obtain ⟨p, q, hA0, hV, rfl, hfz, hnd⟩ := hW
  have hA : DataW.TrodAll enc Try.prog W 0 (fun _ => true) true Try.f4.params.toList args.toList ds p := hA0
  rw [Try.params4] at hA hval
  obtain ⟨v0, vs0, d0, ds0, p0, q0, hargs, rfl, rfl, h0, r0⟩ := trodAll_cons hA
  obtain ⟨rfl, rfl, rfl⟩ := trodAll_nil r0
  obtain rfl : args = #[v0] := by cases args; simp_all
  obtain ⟨rfl, rfl⟩ := trodVars_none hV
  have k0 := h0
  have lt0 : ∀ x ∈ p0, x.block < W.heap.size := by obtain ⟨m, hm⟩ := k0; exact DataW.trod_lt m _ _ _ hm
  obtain ⟨bs, a, cap, rfl, hcap, hml, hx, ha⟩ := openBytes (hval 0 28 v0 rfl rfl) h0
  clear hA0 hval0
  refine (lawUnpack a cap bs W ha hcap hml hx).mono fun e W' ⟨he, bel⟩ => ?_
  subst he
  exact ⟨_, rfl, _, _, _, [], _, [], hW', trodAll_mk1 (shut_bool Try.underlying4 _), (trodAll_cons_mk (Below.trod laidOutUnpack (by kernel_rfl) (of_decide_eq_true (by kernel_rfl)) k0 bel lt0) trodAll_mk0), rfl, bel.frame _, fun h => by cases h⟩

set_option maxRecDepth 100000 in
theorem unpack_holds : Rows.FnExactUnpackSaid :=
  OpenClaim.holds_of_wide 4 Try.f4 rfl rfl rfl rfl rfl rfl rfl ⟨rfl, rfl, rfl, rfl, rfl⟩ rfl rfl rfl rfl rfl (by kernel_rfl) Try.func4 (by kernel_rfl)
    (of_decide_eq_true (by kernel_rfl)) (by unfold Func.isWrapper; first | (rw [if_pos (by decide +kernel)]; kernel_rfl) | (rw [if_neg (by decide +kernel)]; exact ⟨rfl, rfl⟩))
    (fun os started H enc _ => liftedUnpack os started H enc)

end Go.Proofs.Ythjddpkegooobab
