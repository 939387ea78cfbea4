/-
  CANONPLAIN: a graph's one form, as lists and numbers. Own work.
-/
import Derived.Test.YthjddpkegooobaaOk2
namespace Go.Proofs.Ythjddpkegooobaa

/-- the nodes met, behind one value more -/
def renOrd (ord : List Nat) (v : GV) : List Nat := if v.kind = 4 ∧ v.node.toNat ∉ ord then ord ++ [v.node.toNat] else ord
/-- the value, its node by the new number -/
def renVal (ord : List Nat) (v : GV) : GV := if v.kind = 4 then { v with node := ((renOrd ord v).idxOf v.node.toNat : Nat) } else v
def renOrds (ord : List Nat) (vs : List GV) : List Nat := vs.foldl renOrd ord
def renVals (ord : List Nat) : List GV → List GV
  | [] => []
  | v :: r => renVal ord v :: renVals (renOrd ord v) r

theorem renOrds_snoc (ord : List Nat) (l : List GV) (v : GV) : renOrds ord (l ++ [v]) = renOrd (renOrds ord l) v := by
  simp [renOrds, List.foldl_append]
theorem renVals_snoc (ord : List Nat) (l : List GV) (v : GV) : renVals ord (l ++ [v]) = renVals ord l ++ [renVal (renOrds ord l) v] := by
  induction l generalizing ord with
  | nil => rfl
  | cons x r ih => simp only [List.cons_append, renVals, ih]; rfl
theorem renVals_length (ord : List Nat) (l : List GV) : (renVals ord l).length = l.length := by
  induction l generalizing ord with
  | nil => rfl
  | cons x r ih => simp [renVals, ih]

theorem renOrds_take_succ (ord : List Nat) (l : List GV) (k : Nat) (h : k < l.length) : renOrds ord (l.take (k + 1)) = renOrd (renOrds ord (l.take k)) l[k]! := by
  rw [take_snoc l k h, renOrds_snoc]
theorem renVals_take_succ (ord : List Nat) (l : List GV) (k : Nat) (h : k < l.length) : renVals ord (l.take (k + 1)) = renVals ord (l.take k) ++ [renVal (renOrds ord (l.take k)) l[k]!] := by
  rw [take_snoc l k h, renVals_snoc]

/-- the nodes met behind k rounds -/
def canonO (nodes : List GN) (ord0 : List Nat) : Nat → List Nat
  | 0 => ord0
  | k + 1 => if k < (canonO nodes ord0 k).length then renOrds (canonO nodes ord0 k) (nodes[(canonO nodes ord0 k)[k]!]!).vals else canonO nodes ord0 k
/-- the new nodes behind k rounds -/
def canonN (nodes : List GN) (ord0 : List Nat) : Nat → List GN
  | 0 => []
  | k + 1 => if k < (canonO nodes ord0 k).length then canonN nodes ord0 k ++ [⟨(nodes[(canonO nodes ord0 k)[k]!]!).tag, renVals (canonO nodes ord0 k) (nodes[(canonO nodes ord0 k)[k]!]!).vals⟩] else canonN nodes ord0 k

def canon (g : GG) : GG := ⟨renVal [] g.root, canonN g.nodes (renOrd [] g.root) g.nodes.length⟩

theorem canonO_succ (nodes : List GN) (ord0 : List Nat) (k : Nat) : canonO nodes ord0 (k + 1) = if k < (canonO nodes ord0 k).length then renOrds (canonO nodes ord0 k) (nodes[(canonO nodes ord0 k)[k]!]!).vals else canonO nodes ord0 k := by
  conv => lhs; unfold canonO
theorem canonN_succ (nodes : List GN) (ord0 : List Nat) (k : Nat) : canonN nodes ord0 (k + 1) = if k < (canonO nodes ord0 k).length then canonN nodes ord0 k ++ [⟨(nodes[(canonO nodes ord0 k)[k]!]!).tag, renVals (canonO nodes ord0 k) (nodes[(canonO nodes ord0 k)[k]!]!).vals⟩] else canonN nodes ord0 k := by
  conv => lhs; unfold canonN

theorem canon_stable (nodes : List GN) (ord0 : List Nat) (k : Nat) (h : (canonO nodes ord0 k).length ≤ k) : ∀ j, canonO nodes ord0 (k + j) = canonO nodes ord0 k ∧ canonN nodes ord0 (k + j) = canonN nodes ord0 k
  | 0 => ⟨rfl, rfl⟩
  | j + 1 => by
    obtain ⟨h1, h2⟩ := canon_stable nodes ord0 k h j
    have hn : ¬ k + j < (canonO nodes ord0 (k + j)).length := by rw [h1]; omega
    rw [show k + (j + 1) = (k + j) + 1 by omega, canonO_succ, canonN_succ, if_neg hn, if_neg hn]
    exact ⟨h1, h2⟩

/-- met once each, and all there -/
def InvO (n : Nat) (ord : List Nat) : Prop := ord.Nodup ∧ ∀ x, x ∈ ord → x < n

theorem nodup_le : ∀ (n : Nat) (l : List Nat), l.Nodup → (∀ x, x ∈ l → x < n) → l.length ≤ n
  | 0, l, _, h => by
    cases l with
    | nil => simp
    | cons x r => exact absurd (h x (List.mem_cons_self ..)) (Nat.not_lt_zero _)
  | n + 1, l, hd, h => by
    by_cases hn : n ∈ l
    · have h1 := nodup_le n (l.erase n) (hd.erase n) (fun x hx => by
        obtain ⟨h2, h3⟩ := hd.mem_erase_iff.1 hx
        have := h x h3
        omega)
      rw [List.length_erase_of_mem hn] at h1
      omega
    · have := nodup_le n l hd (fun x hx => by
        have h1 := h x hx
        have h2 : x ≠ n := fun e => hn (e ▸ hx)
        omega)
      omega
theorem InvO.le {n : Nat} {ord : List Nat} (h : InvO n ord) : ord.length ≤ n := nodup_le n ord h.1 h.2
theorem InvO.nil (n : Nat) : InvO n [] := ⟨List.nodup_nil, fun x hx => by cases hx⟩

/-- what a well made value's node says -/
theorem okV_node {n : Nat} {v : GV} (h : okV n v = true) (hk : v.kind = 4) : 0 ≤ v.node ∧ v.node < n := by
  unfold okV at h
  rw [if_neg (by omega), if_neg (by omega), if_neg (by omega), if_pos hk] at h
  have := of_decide_eq_true h
  omega

theorem InvO.ren {n : Nat} {ord : List Nat} {v : GV} (h : InvO n ord) (hv : okV n v = true) : InvO n (renOrd ord v) := by
  unfold renOrd
  split
  · rename_i hc
    have := okV_node hv hc.1
    refine ⟨List.nodup_append.2 ⟨h.1, by simp, fun a ha b hb e => ?_⟩, fun x hx => ?_⟩
    · simp at hb
      subst e hb
      exact hc.2 ha
    · rcases List.mem_append.1 hx with h1 | h1
      · exact h.2 x h1
      · simp at h1
        omega
  · exact h

theorem InvO.rens {n : Nat} {ord : List Nat} {l : List GV} (h : InvO n ord) (hv : ∀ v, v ∈ l → okV n v = true) : InvO n (renOrds ord l) := by
  induction l generalizing ord with
  | nil => exact h
  | cons v r ih => exact ih (h.ren (hv v (List.mem_cons_self ..))) (fun x hx => hv x (List.mem_cons_of_mem _ hx))

theorem okG_parts {g : GG} (h : okG g = true) : g.nodes.length ≤ 300 ∧ okV g.nodes.length g.root = true ∧ ∀ n, n ∈ g.nodes → okN g.nodes.length n = true := by
  unfold okG at h
  simp only [Bool.and_eq_true, decide_eq_true_eq, List.all_eq_true] at h
  exact ⟨h.1.1, h.1.2, h.2⟩
theorem okN_parts {n : Nat} {x : GN} (h : okN n x = true) : x.vals.length ≤ 100 ∧ ∀ v, v ∈ x.vals → okV n v = true := by
  unfold okN at h
  simp only [Bool.and_eq_true, decide_eq_true_eq, List.all_eq_true] at h
  exact ⟨h.1.2.2, h.2⟩

theorem canonO_inv {nodes : List GN} {ord0 : List Nat} (h0 : InvO nodes.length ord0) (hn : ∀ n, n ∈ nodes → okN nodes.length n = true) : ∀ k, InvO nodes.length (canonO nodes ord0 k)
  | 0 => by unfold canonO; exact h0
  | k + 1 => by
    have ih := canonO_inv h0 hn k
    rw [canonO_succ]
    split
    · rename_i hlt
      refine ih.rens (okN_parts (hn _ (mem_at (ih.2 _ (mem_at hlt))))).2
    · exact ih

theorem canon_at {g : GG} {k : Nat} (hk : k ≤ g.nodes.length) (h : (canonO g.nodes (renOrd [] g.root) k).length ≤ k) : canon g = ⟨renVal [] g.root, canonN g.nodes (renOrd [] g.root) k⟩ := by
  have h1 := (canon_stable g.nodes (renOrd [] g.root) k h (g.nodes.length - k)).2
  rw [show k + (g.nodes.length - k) = g.nodes.length by omega] at h1
  unfold canon
  rw [h1]

theorem renOrd_le (ord : List Nat) (v : GV) : ord.length ≤ (renOrd ord v).length := by
  unfold renOrd; split <;> simp
theorem renOrds_le (ord : List Nat) (l : List GV) : ord.length ≤ (renOrds ord l).length := by
  induction l generalizing ord with
  | nil => exact Nat.le_refl _
  | cons v r ih => exact Nat.le_trans (renOrd_le ord v) (ih (renOrd ord v))

/-- where a node is among those met; -1 where it is not -/
def whereOf (ord : List Nat) (i : Nat) : Int := if i ∈ ord then (ord.idxOf i : Int) else -1

theorem whereOf_neg {ord : List Nat} {i : Nat} (h : i ∉ ord) : whereOf ord i = -1 := if_neg h
theorem whereOf_pos {ord : List Nat} {i : Nat} (h : i ∈ ord) : whereOf ord i = (ord.idxOf i : Int) := if_pos h
theorem whereOf_snoc {ord : List Nat} {x : Nat} (h : x ∉ ord) (i : Nat) : whereOf (ord ++ [x]) i = if i = x then (ord.length : Int) else whereOf ord i := by
  unfold whereOf
  by_cases hi : i = x
  · subst hi
    rw [if_pos (by simp), if_pos rfl, List.idxOf_append, if_neg h]
    simp
  · rw [if_neg hi]
    by_cases hm : i ∈ ord
    · rw [if_pos hm, if_pos (by simp [hm]), List.idxOf_append, if_pos hm]
    · rw [if_neg hm, if_neg (by simp [hm, hi])]

theorem ren_old {ord : List Nat} {v : GV} (hk : v.kind = 4) (h : v.node.toNat ∈ ord) : renOrd ord v = ord ∧ renVal ord v = { v with node := (ord.idxOf v.node.toNat : Nat) } := by
  have h1 : renOrd ord v = ord := by unfold renOrd; rw [if_neg (fun c => c.2 h)]
  refine ⟨h1, ?_⟩
  unfold renVal
  rw [if_pos hk, h1]
theorem ren_new {ord : List Nat} {v : GV} (hk : v.kind = 4) (h : v.node.toNat ∉ ord) : renOrd ord v = ord ++ [v.node.toNat] ∧ renVal ord v = { v with node := (ord.length : Nat) } := by
  have h1 : renOrd ord v = ord ++ [v.node.toNat] := by unfold renOrd; rw [if_pos ⟨hk, h⟩]
  refine ⟨h1, ?_⟩
  unfold renVal
  rw [if_pos hk, h1, List.idxOf_append, if_neg h]
  simp
theorem ren_not {ord : List Nat} {v : GV} (hk : v.kind ≠ 4) : renOrd ord v = ord ∧ renVal ord v = v := by
  unfold renOrd renVal
  rw [if_neg (fun c => hk c.1), if_neg hk]
  exact ⟨rfl, rfl⟩

end Go.Proofs.Ythjddpkegooobaa
