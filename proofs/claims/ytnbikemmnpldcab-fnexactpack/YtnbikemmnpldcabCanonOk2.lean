/-
  CANONOK2: a graph's one form is well made. Own work.
-/
import Derived.Test.YtnbikemmnpldcabWr3
import Derived.Test.YtnbikemmnpldcabOb
import Derived.Test.YtnbikemmnpldcabCanonOk
namespace Go.Proofs.Ytnbikemmnpldcab

theorem okV_mono {n m : Nat} {v : GV} (h : okV n v = true) (hm : n ≤ m) : okV m v = true := by
  rcases okV_cases h with rfl | ⟨k, rfl⟩ | ⟨k, rfl⟩ | ⟨t, ht, rfl⟩ | ⟨k, hk, rfl⟩
  · exact h
  · exact h
  · exact h
  · exact h
  · unfold okV at h ⊢
    simp only at h ⊢
    have h1 := of_decide_eq_true h
    exact decide_eq_true ⟨h1.1, h1.2.1, h1.2.2.1, by omega⟩

theorem mem_renOrd {ord : List Nat} {v : GV} (hk : v.kind = 4) : v.node.toNat ∈ renOrd ord v := by
  unfold renOrd
  split
  · simp
  · rename_i h
    by_cases hm : v.node.toNat ∈ ord
    · exact hm
    · exact absurd ⟨hk, hm⟩ h

theorem okV_ren {n m : Nat} {ord : List Nat} {v : GV} (h : okV n v = true) (hm : (renOrd ord v).length ≤ m) : okV m (renVal ord v) = true := by
  rcases okV_cases h with rfl | ⟨k, rfl⟩ | ⟨k, rfl⟩ | ⟨t, ht, rfl⟩ | ⟨k, hk, rfl⟩
  · exact h
  · exact h
  · exact h
  · exact h
  · have h1 : (renOrd ord ⟨4, 0, ⟨#[]⟩, (k : Int)⟩).idxOf k < (renOrd ord ⟨4, 0, ⟨#[]⟩, (k : Int)⟩).length := List.idxOf_lt_length_of_mem (mem_renOrd (v := ⟨4, 0, ⟨#[]⟩, (k : Int)⟩) rfl)
    unfold renVal
    rw [if_pos rfl]
    have h2 : okV n ⟨4, 0, ⟨#[]⟩, (k : Int)⟩ = true := h
    unfold okV at h2 ⊢
    simp only at h2 ⊢
    have h3 := of_decide_eq_true h2
    refine decide_eq_true ⟨h3.1, h3.2.1, by omega, ?_⟩
    simp only [Int.toNat_natCast]
    omega

theorem okVs_ren {n m : Nat} {ord : List Nat} {l : List GV} (h : ∀ v, v ∈ l → okV n v = true) (hm : (renOrds ord l).length ≤ m) : ∀ v, v ∈ renVals ord l → okV m v = true := by
  induction l generalizing ord with
  | nil => intro v hv; cases hv
  | cons x r ih =>
    intro v hv
    have h1 : (renOrd ord x).length ≤ (renOrds (renOrd ord x) r).length := renOrds_le _ _
    have h2 : (renOrds (renOrd ord x) r).length ≤ m := hm
    rcases List.mem_cons.1 hv with rfl | hv
    · exact okV_ren (h x (List.mem_cons_self ..)) (by omega)
    · exact ih (fun y hy => h y (List.mem_cons_of_mem _ hy)) h2 v hv

theorem okN_mk {m : Nat} {x : GN} (h1 : 0 ≤ x.tag ∧ x.tag ≤ 1000) (h2 : x.vals.length ≤ 100) (h3 : ∀ v, v ∈ x.vals → okV m v = true) : okN m x = true := by
  unfold okN
  simp only [Bool.and_eq_true, decide_eq_true_eq, List.all_eq_true]
  exact ⟨⟨h1.1, h1.2, h2⟩, h3⟩
theorem okN_tag' {n : Nat} {x : GN} (h : okN n x = true) : 0 ≤ x.tag ∧ x.tag ≤ 1000 := by
  unfold okN at h
  simp only [Bool.and_eq_true, decide_eq_true_eq, List.all_eq_true] at h
  exact ⟨h.1.1, h.1.2.1⟩
theorem okN_mono {n m : Nat} {x : GN} (h : okN n x = true) (hm : n ≤ m) : okN m x = true :=
  okN_mk (okN_tag' h) (okN_parts h).1 (fun v hv => okV_mono ((okN_parts h).2 v hv) hm)

theorem canonO_le (nodes : List GN) (ord0 : List Nat) (k : Nat) : (canonO nodes ord0 k).length ≤ (canonO nodes ord0 (k + 1)).length := by
  rw [canonO_succ]
  split
  · exact renOrds_le _ _
  · exact Nat.le_refl _
theorem canonO_mono (nodes : List GN) (ord0 : List Nat) {k m : Nat} (h : k ≤ m) : (canonO nodes ord0 k).length ≤ (canonO nodes ord0 m).length := by
  induction h with
  | refl => exact Nat.le_refl _
  | step _ ih => exact Nat.le_trans ih (canonO_le _ _ _)

theorem canonN_len (nodes : List GN) (ord0 : List Nat) : ∀ k, (canonN nodes ord0 k).length = min k (canonO nodes ord0 k).length
  | 0 => by unfold canonN; simp
  | k + 1 => by
    have ih := canonN_len nodes ord0 k
    have hle := canonO_le nodes ord0 k
    rw [canonN_succ]
    by_cases h : k < (canonO nodes ord0 k).length
    · rw [if_pos h, List.length_append, ih, List.length_singleton]
      omega
    · have e : canonO nodes ord0 (k + 1) = canonO nodes ord0 k := by rw [canonO_succ, if_neg h]
      rw [if_neg h, ih, e]
      omega

theorem canonN_ok {nodes : List GN} {ord0 : List Nat} (h0 : InvO nodes.length ord0) (hn : ∀ n, n ∈ nodes → okN nodes.length n = true) : ∀ k x, x ∈ canonN nodes ord0 k → okN (canonO nodes ord0 k).length x = true
  | 0, x, hx => by unfold canonN at hx; cases hx
  | k + 1, x, hx => by
    have hle := canonO_le nodes ord0 k
    have hinv := canonO_inv h0 hn k
    rw [canonN_succ] at hx
    by_cases h : k < (canonO nodes ord0 k).length
    · rw [if_pos h] at hx
      rcases List.mem_append.1 hx with hx | hx
      · exact okN_mono (canonN_ok h0 hn k x hx) hle
      · have e : canonO nodes ord0 (k + 1) = renOrds (canonO nodes ord0 k) (nodes[(canonO nodes ord0 k)[k]!]!).vals := by rw [canonO_succ, if_pos h]
        have hm := hn _ (mem_at (hinv.2 _ (mem_at h)))
        have ht := okN_tag' hm
        rw [List.mem_singleton.1 hx, e]
        exact okN_mk ht (by rw [renVals_length]; exact (okN_parts hm).1) (okVs_ren (okN_parts hm).2 (Nat.le_refl _))
    · rw [if_neg h] at hx
      exact okN_mono (canonN_ok h0 hn k x hx) hle

theorem canon_okG {g : GG} (hok : okG g = true) : okG (canon g) = true := by
  obtain ⟨hn, hroot, hnodes⟩ := okG_parts hok
  have h0 : InvO g.nodes.length (renOrd [] g.root) := (InvO.nil _).ren hroot
  have hlen : (canon g).nodes.length = (canonO g.nodes (renOrd [] g.root) g.nodes.length).length := by
    have h1 := canonN_len g.nodes (renOrd [] g.root) g.nodes.length
    have h2 := (canonO_inv h0 hnodes g.nodes.length).le
    show (canonN g.nodes (renOrd [] g.root) g.nodes.length).length = _
    omega
  have hr : okV (canon g).nodes.length (canon g).root = true := by
    rw [hlen]
    refine okV_ren hroot ?_
    have h1 := canonO_mono g.nodes (renOrd [] g.root) (Nat.zero_le g.nodes.length)
    rw [show canonO g.nodes (renOrd [] g.root) 0 = renOrd [] g.root by unfold canonO; rfl] at h1
    exact h1
  have ha : ∀ x, x ∈ (canon g).nodes → okN (canon g).nodes.length x = true := by
    rw [hlen]
    exact canonN_ok h0 hnodes _
  unfold okG
  simp only [Bool.and_eq_true, decide_eq_true_eq, List.all_eq_true]
  exact ⟨⟨(canon_small hok).1, hr⟩, ha⟩

/-! how long an image may be -/
theorem valB_len {n : Nat} {v : GV} (hn : n ≤ 300) (ho : v.Ok) (h : okV n v = true) : (valB v).length ≤ 1011 := by
  rcases okV_cases h with rfl | ⟨k, rfl⟩ | ⟨k, rfl⟩ | ⟨t, ht, rfl⟩ | ⟨k, hk, rfl⟩
  · show 1 ≤ 1011; omega
  · show (numB (zig k)).length + 1 ≤ 1011
    have := numB_len 10 (zig k) (Nat.lt_of_lt_of_le (zig_lt ho.num) (by decide)) (by omega)
    omega
  · show (lowB 8 (u64n k)).length + 1 ≤ 1011
    rw [lowB_length]; omega
  · show (numB t.size ++ bsOf t).length + 1 ≤ 1011
    have := numB_len 10 t.size (Nat.lt_of_le_of_lt ht (by decide)) (by omega)
    rw [List.length_append, bsOf_length]
    omega
  · show (numB k).length + 1 ≤ 1011
    have := numB_len 10 k (Nat.lt_of_lt_of_le (show k < 300 by omega) (by decide)) (by omega)
    omega
theorem valsB_len {n : Nat} {l : List GV} (hn : n ≤ 300) (ho : ∀ v, v ∈ l → v.Ok) (h : ∀ v, v ∈ l → okV n v = true) : (valsB l).length ≤ 1011 * l.length := by
  induction l with
  | nil => simp [valsB]
  | cons x r ih =>
    have h1 := valB_len hn (ho x (List.mem_cons_self ..)) (h x (List.mem_cons_self ..))
    have h2 := ih (fun v hv => ho v (List.mem_cons_of_mem _ hv)) (fun v hv => h v (List.mem_cons_of_mem _ hv))
    simp only [valsB, List.length_append, List.length_cons]
    omega
theorem nodeB_len {n : Nat} {x : GN} (hn : n ≤ 300) (ho : x.Ok) (h : okN n x = true) : (nodeB x).length ≤ 102000 := by
  have h1 := valsB_len hn ho.vals (okN_parts h).2
  have h2 := (okN_parts h).1
  have h3 := okN_tag' h
  have h4 := numB_len 10 x.tag.toNat (Nat.lt_of_le_of_lt (show x.tag.toNat ≤ 1000 by omega) (by decide)) (by omega)
  have h5 := numB_len 10 x.vals.length (Nat.lt_of_le_of_lt h2 (by decide)) (by omega)
  simp only [nodeB, List.length_append]
  omega
theorem nodesB_len {n : Nat} {l : List GN} (hn : n ≤ 300) (ho : ∀ v, v ∈ l → v.Ok) (h : ∀ v, v ∈ l → okN n v = true) : (nodesB l).length ≤ 102000 * l.length := by
  induction l with
  | nil => simp [nodesB]
  | cons x r ih =>
    have h1 := nodeB_len hn (ho x (List.mem_cons_self ..)) (h x (List.mem_cons_self ..))
    have h2 := ih (fun v hv => ho v (List.mem_cons_of_mem _ hv)) (fun v hv => h v (List.mem_cons_of_mem _ hv))
    simp only [nodesB, List.length_append, List.length_cons]
    omega
theorem graphB_len {g : GG} (ho : g.Ok) (hok : okG g = true) : (graphB g).length ≤ 40000000 := by
  obtain ⟨hn, hroot, hnodes⟩ := okG_parts hok
  have h1 := nodesB_len hn ho.nodes hnodes
  have h2 := valB_len hn ho.root hroot
  have h3 := numB_len 10 g.nodes.length (Nat.lt_of_le_of_lt hn (by decide)) (by omega)
  simp only [graphB, List.length_append, List.length_cons, List.length_nil]
  omega

end Go.Proofs.Ytnbikemmnpldcab
