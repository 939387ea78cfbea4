/-
  MARKPLAIN: marked graphs, and graphs that may be marked. Own work.
-/
import Derived.Test.YthjddpkegooobaaMarkVals
import Derived.Test.YthjddpkegooobaaFormOfA
import Derived.Test.YthjddpkegooobaaTo
import Derived.Test.YthjddpkegooobaaMEnd
namespace Go.Proofs.Ythjddpkegooobaa
open Go.RowKit

/-- these nodes, marked -/
def markNs (k : Nat) : List GN → List GN
  | [] => []
  | n :: r => ⟨(k : Int), markVs (k + 1) n.vals.length⟩ :: markNs (k + 1 + 4 * n.vals.length) r

theorem mEnd_snoc (l : List GN) (n : GN) : ∀ k, mEnd k (l ++ [n]) = mEnd k l + 1 + 4 * n.vals.length := by
  induction l with
  | nil => intro k; rfl
  | cons x r ih => intro k; simp only [List.cons_append, mEnd, ih]
theorem mEnd_le (l : List GN) : ∀ k, k ≤ mEnd k l := by
  induction l with
  | nil => intro k; exact Nat.le_refl _
  | cons x r ih => intro k; have := ih (k + 1 + 4 * x.vals.length); simp only [mEnd]; omega
theorem mEnd_append (l r : List GN) : ∀ k, mEnd k (l ++ r) = mEnd (mEnd k l) r := by
  induction l with
  | nil => intro k; rfl
  | cons x t ih => intro k; simp only [List.cons_append, mEnd, ih]
theorem mEnd_take_succ (l : List GN) (k j : Nat) (h : j < l.length) : mEnd k (l.take (j + 1)) = mEnd k (l.take j) + 1 + 4 * l[j]!.vals.length := by
  rw [take_snoc l j h, mEnd_snoc]
theorem mEnd_take_le (l : List GN) (k j : Nat) : mEnd k (l.take j) ≤ mEnd k l := by
  conv => rhs; rw [← List.take_append_drop j l, mEnd_append]
  exact mEnd_le _ _
theorem mEnd_sz (l : List GN) : ∀ k, (mEnd k l : Int) ≤ k + 4 * (l.length + szNodes l) := by
  induction l with
  | nil => intro k; simp [mEnd, szNodes]
  | cons x r ih =>
    intro k
    have h1 := ih (k + 1 + 4 * x.vals.length)
    have h2 := szVals_nonneg x.vals
    simp only [mEnd, szNodes, GN.sz, List.length_cons]
    omega
theorem markNs_length (l : List GN) : ∀ k, (markNs k l).length = l.length := by
  induction l with
  | nil => intro k; rfl
  | cons x r ih => intro k; simp only [markNs, List.length_cons, ih]
theorem markNs_at (l : List GN) : ∀ (k j : Nat), j < l.length → (markNs k l)[j]! = ⟨((mEnd k (l.take j) : Nat) : Int), markVs (mEnd k (l.take j) + 1) l[j]!.vals.length⟩ := by
  induction l with
  | nil => intro k j h; exact absurd h (Nat.not_lt_zero _)
  | cons x r ih =>
    intro k j h
    cases j with
    | zero => simp [markNs, mEnd]
    | succ j =>
      have h1 := ih (k + 1 + 4 * x.vals.length) j (by simpa using h)
      simpa [markNs, mEnd] using h1

/-- a graph whose nodes and values may be written, each list in a row of its own -/
structure MG (w : World) (na : Option Addr) (ns : List GN) (va : Nat → Option Addr) (vc : Nat → Nat) : Prop where
  nodes : 0 < ns.length → ∃ g, na = some ⟨g, 0, none⟩ ∧ WRow w g (ns.length * 2)
  sl : ∀ g, na = some ⟨g, 0, none⟩ → ∀ i, i < ns.length → w.cell? ⟨g, i * 2 + 1, none⟩ = some (.slice (va i) ns[i]!.vals.length (vc i))
  vals : ∀ i, i < ns.length → 0 < ns[i]!.vals.length → ∃ b, va i = some ⟨b, 0, none⟩ ∧ WRow w b (ns[i]!.vals.length * 4)
  apn : ∀ i, i < ns.length → Far (va i) na
  apv : ∀ i j, i < j → j < ns.length → Far (va i) (va j)

theorem MG.far {w : World} {na : Option Addr} {ns : List GN} {va : Nat → Option Addr} {vc : Nat → Nat} (h : MG w na ns va vc) {i j : Nat} (hi : i < ns.length) (hj : j < ns.length) (hij : i ≠ j) : Far (va i) (va j) := by
  rcases Nat.lt_or_gt_of_ne hij with e | e
  · exact h.apv i j e hj
  · exact (h.apv j i e hi).symm

theorem owns_wrow {w : World} {base t size n cap : Nat} {a : Option Addr} {xs : List Value} (ho : w.ownsRow base t size (.slice a n cap) n xs) (hn : 0 < n) : ∃ b, a = some ⟨b, 0, none⟩ ∧ WRow w b (n * size) := by
  rcases ho.2 with ⟨_, h0⟩ | ⟨g, cap', cur, hv, hb, hg, hc1, hc2, hc3, _⟩
  · omega
  · simp only [Value.slice.injEq] at hv
    obtain ⟨rfl, _, rfl⟩ := hv
    have hsz : n * size ≤ cur.size := by rw [hc3]; exact Nat.mul_le_mul_right _ hc1
    refine ⟨g, rfl, (Array.getElem?_eq_some_iff.1 hg).1, fun i hi => ⟨cur[i]'(by omega), ?_⟩, fun o => ?_⟩
    · simp [World.cell?, hg, show i < cur.size by omega]
    · simp [World.frozen?, hg]

theorem OwnG.mg {w : World} {base : Nat} {na : Option Addr} {nc : Nat} {nl : List NL} (h : OwnG w base na nc nl) : MG w na (nl.map (·.n)) (fun i => nl[i]!.a) (fun i => nl[i]!.cap) := by
  have hlen : (nl.map (·.n)).length = nl.length := by simp
  have e : ∀ i, i < nl.length → (nl.map (·.n))[i]! = (nl[i]!).n := fun i hi => by rw [getElem!_pos _ i (by simpa using hi), getElem!_pos nl i hi]; simp
  refine ⟨fun hn => ?_, fun g hg i hi => ?_, fun i hi hv => ?_, fun i hi => ?_, fun i j hij hj => ?_⟩
  · rw [hlen] at hn ⊢; exact owns_wrow h.nodes hn
  · have hi' : i < nl.length := by omega
    obtain ⟨g1, ha, _, _, c1⟩ := owns_cell h.nodes ((flatMap_get NL.two_length nl i 1 hi' (by decide)).trans rfl)
    rw [hg] at ha
    obtain rfl := some_addr ha
    rw [e i hi', c1]
  · have hi' : i < nl.length := by omega
    rw [e i hi'] at hv ⊢
    exact owns_wrow (h.vals _ (mem_at hi')) hv
  · exact h.apn _ (mem_at (by omega))
  · exact h.apv i j hij (by omega)

theorem OwnNodes.mg {w : World} {N : Nat} {bs : Nat → Nat} {ns : List GN} (h : OwnNodes w N bs ns) : MG w (some ⟨N, 0, none⟩) ns (fun i => some ⟨bs i, 0, none⟩) (fun i => ns[i]!.vals.length) := by
  obtain ⟨f, hr, hn⟩ := h
  refine ⟨fun _ => ⟨N, rfl, hr.lt, fun i hi => ⟨_, hr.cell hi⟩, hr.frozen⟩, fun g hg i hi => ?_, fun i hi hv => ?_, fun i hi => ?_, fun i j hij hj => ?_⟩
  · obtain rfl := some_addr hg
    obtain ⟨h0, h1, _⟩ := hn i hi
    rw [← h1]; exact hr.cell (by omega)
  · obtain ⟨_, _, ⟨f2, hr2, _⟩, _⟩ := hn i hi
    exact ⟨bs i, rfl, hr2.lt, fun j hj => ⟨_, hr2.cell hj⟩, hr2.frozen⟩
  · intro b hb hx
    have e1 := some_addr hb
    have e2 := some_addr hx
    have := (hn i hi).2.2.2.1
    omega
  · intro b hb hx
    have e1 := some_addr hb
    have e2 := some_addr hx
    have := (hn j hj).2.2.2.2 i hij
    omega

theorem ValsAt.kept {p : Nat → Prop} {w w' : World} {B B' : Nat} {a : Option Addr} {vs : List GV} (h : ValsAt B w a vs) (k : Kept p w w') (hB : B ≤ w.heap.size) (hB' : B ≤ B') (hn : ∀ b off, a = some ⟨b, off, none⟩ → ¬ p b) : ValsAt B' w' a vs := fun i hi => by
  obtain ⟨b, off, ha, hb, hv⟩ := h i hi
  exact ⟨b, off, ha, by omega, hv.same (k.block b (by omega) (hn b off ha))⟩

/-- what stands at the head of the round -/
structure NM (w ws : World) (na : Option Addr) (ns : List GN) (va : Nat → Option Addr) (vc : Nat → Nat) (k j : Nat) : Prop where
  kept : Kept (fun b => na = some ⟨b, 0, none⟩ ∨ ∃ i, i < ns.length ∧ va i = some ⟨b, 0, none⟩) w ws
  mg : MG ws na ns va vc
  tags : ∀ g, na = some ⟨g, 0, none⟩ → ∀ i, i < j → ws.cell? ⟨g, i * 2, none⟩ = some (.int .i64 (mEnd k (ns.take i) : Nat))
  vals : ∀ i, i < j → ValsAt ws.heap.size ws (va i) (markVs (mEnd k (ns.take i) + 1) ns[i]!.vals.length)

theorem NM.step {w ws w2 : World} {na : Option Addr} {ns : List GN} {va : Nat → Option Addr} {vc : Nat → Nat} {k j g : Nat} (h : NM w ws na ns va vc k j) (hj : j < ns.length) (hg : na = some ⟨g, 0, none⟩)
    (hK : Kept (fun x => va j = some ⟨x, 0, none⟩) (ws.setCell ⟨g, j * 2, none⟩ (.int .i64 (mEnd k (ns.take j) : Nat))) w2) (hw : 0 < ns[j]!.vals.length → ∃ b, va j = some ⟨b, 0, none⟩ ∧ WRow w2 b (ns[j]!.vals.length * 4))
    (hv : ValsAt w2.heap.size w2 (va j) (markVs (mEnd k (ns.take j) + 1) ns[j]!.vals.length)) : NM w w2 na ns va vc k (j + 1) := by
  have hS := (Kept.refl (fun b => b = g) ws).set (a := ⟨g, j * 2, none⟩) (fun _ => rfl) (.int .i64 (mEnd k (ns.take j) : Nat))
  have hsz : (ws.setCell ⟨g, j * 2, none⟩ (.int .i64 (mEnd k (ns.take j) : Nat))).heap.size = ws.heap.size := by simp [World.setCell]
  have hK2 : Kept (fun b => b = g ∨ va j = some ⟨b, 0, none⟩) ws w2 := (hS.mono (fun _ _ e => Or.inl e)).trans hK (fun _ _ e => Or.inr e)
  have hgj : ¬ va j = some ⟨g, 0, none⟩ := fun e => h.mg.apn j hj g e hg
  obtain ⟨g', hg', hwr⟩ := h.mg.nodes (by omega)
  rw [hg] at hg'
  obtain rfl := some_addr hg'
  refine ⟨h.kept.trans hK2 (fun b _ hp => ?_), ⟨fun _ => ⟨g, hg, (hwr.set _ _).kept hK hgj⟩, fun g1 hg1 i hi => ?_, fun i hi hl => ?_, h.mg.apn, h.mg.apv⟩, fun g1 hg1 i hi => ?_, fun i hi => ?_⟩
  · rcases hp with e | e
    · exact Or.inl (by rw [hg, e])
    · exact Or.inr ⟨j, hj, e⟩
  · rw [hg] at hg1
    obtain rfl := some_addr hg1
    refine hK.cell ?_ hgj
    rw [World.cell?_setCell_other _ _ _ _ (by simp <;> omega)]
    exact h.mg.sl g hg i hi
  · by_cases e : i = j
    · subst e; exact hw hl
    · obtain ⟨b, hb, hr⟩ := h.mg.vals i hi hl
      exact ⟨b, hb, hr.kept hK2 (fun hp => hp.elim (fun e2 => h.mg.apn i hi b hb (by rw [e2, hg])) (fun e2 => h.mg.far hi hj e b hb e2))⟩
  · rw [hg] at hg1
    obtain rfl := some_addr hg1
    refine hK.cell ?_ hgj
    by_cases e : i = j
    · subst e
      obtain ⟨v, hv⟩ := hwr.c (i * 2) (by omega)
      exact World.cell?_setCell_same _ _ _ hv
    · rw [World.cell?_setCell_other _ _ _ _ (by simp <;> omega)]
      exact h.tags g hg i (by omega)
  · by_cases e : i = j
    · subst e; exact hv
    · have hi' : i < ns.length := by omega
      by_cases hl : 0 < ns[i]!.vals.length
      · obtain ⟨b, hb, hr⟩ := h.mg.vals i hi' hl
        refine (h.vals i (by omega)).kept hK2 (Nat.le_refl _) hK2.size (fun b2 off hb2 hp => ?_)
        rw [hb] at hb2
        simp at hb2
        obtain ⟨rfl, _⟩ := hb2
        exact hp.elim (fun e2 => h.mg.apn i hi' b hb (by rw [e2, hg])) (fun e2 => h.mg.far hi' hj e b hb e2)
      · intro x hx
        rw [markVs_length] at hx
        omega

/-- all marked -/
theorem NM.at_ {w ws : World} {na : Option Addr} {ns : List GN} {va : Nat → Option Addr} {vc : Nat → Nat} {k : Nat} (h : NM w ws na ns va vc k ns.length) : NodesAt ws.heap.size ws na (markNs k ns) := fun i hi => by
  rw [markNs_length] at hi
  obtain ⟨g, hg, hwr⟩ := h.mg.nodes (by omega)
  refine ⟨g, 0, va i, vc i, hg, hwr.lt, ?_⟩
  rw [markNs_at ns k i hi, Nat.zero_add]
  refine ⟨h.tags g hg i hi, ?_, h.vals i hi⟩
  simp only [markVs_length]
  exact h.mg.sl g hg i hi

end Go.Proofs.Ythjddpkegooobaa
