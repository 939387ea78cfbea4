/-
  CANONOK: the one form is of the sizes of what it comes from. Own work.
-/
import Derived.Test.YthjddpkegooobaaCanonPlain
namespace Go.Proofs.Ythjddpkegooobaa
open Go.RowKit

theorem canonN_all {nodes : List GN} {ord0 : List Nat} {p : GN → Prop} (h0 : InvO nodes.length ord0) (hn : ∀ n, n ∈ nodes → okN nodes.length n = true) (hp : ∀ (ord : List Nat) (n : GN), InvO nodes.length ord → n ∈ nodes → p ⟨n.tag, renVals ord n.vals⟩) : ∀ (k : Nat) (n : GN), n ∈ canonN nodes ord0 k → p n
  | 0, n, hx => by unfold canonN at hx; cases hx
  | k + 1, n, hx => by
    rw [canonN_succ] at hx
    have hi := canonO_inv h0 hn k
    split at hx
    · rename_i hlt
      rcases List.mem_append.1 hx with h | h
      · exact canonN_all h0 hn hp k n h
      · rw [List.mem_singleton] at h
        rw [h]
        exact hp _ _ hi (mem_at (hi.2 _ (mem_at hlt)))
    · exact canonN_all h0 hn hp k n hx

theorem canonN_length (nodes : List GN) (ord0 : List Nat) : ∀ k, (canonN nodes ord0 k).length ≤ k
  | 0 => by unfold canonN; simp
  | k + 1 => by
    have := canonN_length nodes ord0 k
    rw [canonN_succ]
    split
    · simp; omega
    · omega

theorem canon_all {g : GG} {p : GN → Prop} (hok : okG g = true) (hp : ∀ (ord : List Nat) (n : GN), InvO g.nodes.length ord → n ∈ g.nodes → p ⟨n.tag, renVals ord n.vals⟩) : ∀ n, n ∈ (canon g).nodes → p n := fun n hn => by
  obtain ⟨_, h2, h3⟩ := okG_parts hok
  exact canonN_all ((InvO.nil _).ren h2) h3 hp g.nodes.length n hn

theorem canon_small {g : GG} (hok : okG g = true) : (canon g).nodes.length ≤ 300 ∧ ∀ n, n ∈ (canon g).nodes → n.vals.length ≤ 100 := by
  obtain ⟨h1, _, h3⟩ := okG_parts hok
  refine ⟨?_, canon_all hok (fun ord n _ hn => ?_)⟩
  · have := canonN_length g.nodes (renOrd [] g.root) g.nodes.length
    unfold canon
    simp only
    omega
  · simp only [renVals_length]
    exact (okN_parts (h3 n hn)).1

theorem renVal_ok {n : Nat} {ord : List Nat} {v : GV} (hv : v.Ok) (hk : okV n v = true) (hinv : InvO n ord) (hn : n ≤ 300) : (renVal ord v).Ok := by
  unfold renVal
  split
  · have h1 := (hinv.ren hk).le
    have h2 := List.idxOf_le_length (a := v.node.toNat) (l := renOrd ord v)
    exact ⟨hv.1, hv.2, hv.3, by unfold I64; simp only; omega⟩
  · exact hv

theorem renVals_ok {n : Nat} {ord : List Nat} {l : List GV} (hv : ∀ v, v ∈ l → v.Ok) (hk : ∀ v, v ∈ l → okV n v = true) (hinv : InvO n ord) (hn : n ≤ 300) : ∀ v, v ∈ renVals ord l → v.Ok := by
  induction l generalizing ord with
  | nil => intro v hx; unfold renVals at hx; cases hx
  | cons y r ih =>
    intro v hx
    unfold renVals at hx
    rcases List.mem_cons.1 hx with h | h
    · rw [h]; exact renVal_ok (hv y (List.mem_cons_self ..)) (hk y (List.mem_cons_self ..)) hinv hn
    · exact ih (fun z hz => hv z (List.mem_cons_of_mem _ hz)) (fun z hz => hk z (List.mem_cons_of_mem _ hz)) (hinv.ren (hk y (List.mem_cons_self ..))) v h

theorem canon_ok {g : GG} (hg : g.Ok) (hok : okG g = true) : (canon g).Ok := by
  obtain ⟨h1, h2, h3⟩ := okG_parts hok
  have hs := canon_small hok
  refine ⟨renVal_ok hg.root h2 (InvO.nil _) h1, by unfold maxLen; omega, canon_all hok (fun ord n hi hn => ?_)⟩
  have h4 := okN_parts (h3 n hn)
  exact ⟨(hg.nodes n hn).tag, by simp only [renVals_length]; exact (hg.nodes n hn).len, renVals_ok (hg.nodes n hn).vals h4.2 hi h1⟩

end Go.Proofs.Ythjddpkegooobaa
