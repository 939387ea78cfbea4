/-
  LATER: small facts for laws on graphs. Own work.
-/
import Derived.Test.YtnbikemmnpldcabCanonI
import Derived.Test.YtnbikemmnpldcabCanonOk
import Derived.Test.YtnbikemmnpldcabMarkNodes
namespace Go.Proofs.Ytnbikemmnpldcab
open Go.RowKit

theorem OwnG.later {w w' : World} {base : Nat} {na : Option Addr} {nc : Nat} {nl : List NL} (h : OwnG w base na nc nl) (hb : Below w.heap.size w w') : OwnG w' base na nc nl := h.kept (Kept.of_below hb (fun _ => False)) (fun _ _ e => e) (fun _ _ _ _ e => e)
theorem canonZ_ok {g : GG} (hg : g.Ok) : (canonZ g).Ok := by
  unfold canonZ
  split
  · exact canon_ok hg (by assumption)
  · exact ⟨⟨by unfold I64; simp, by unfold I64; simp, by show 0 ≤ maxLen; exact Nat.zero_le _, by unfold I64; simp⟩, by show 0 ≤ maxLen; exact Nat.zero_le _, fun n hn => by cases hn⟩
theorem OwnG.touch {w : World} {base : Nat} {na : Option Addr} {nc : Nat} {nl : List NL} (h : OwnG w base na nc nl) {b : Nat} (hb : Touch na nl.length (fun i => nl[i]!.a) b) : base ≤ b ∧ b < w.heap.size := by
  rcases hb with e | ⟨i, hi, e⟩
  · exact h.nodes.lt b (by rw [e]; rfl)
  · exact (h.vals _ (mem_at hi)).lt b (by simp only at e; rw [e]; rfl)
theorem OwnNodes.touch {w : World} {N : Nat} {bs : Nat → Nat} {ns : List GN} (h : OwnNodes w N bs ns) {b : Nat} (hb : Touch (some ⟨N, 0, none⟩) ns.length (fun i => some ⟨bs i, 0, none⟩) b) : N ≤ b ∧ b < w.heap.size := by
  obtain ⟨f, hr, hn⟩ := h
  rcases hb with e | ⟨i, hi, e⟩
  · have e2 := some_addr e
    subst e2
    exact ⟨Nat.le_refl _, hr.lt⟩
  · have e2 := some_addr e
    obtain ⟨_, _, h2, h3, _⟩ := hn i hi
    have := h2.lt
    subst e2
    exact ⟨by omega, this⟩

theorem mEnd_small (l : List GN) (h : ∀ n, n ∈ l → n.vals.length ≤ 100) : ∀ k, mEnd k l ≤ k + 401 * l.length := by
  induction l with
  | nil => intro k; simp [mEnd]
  | cons x r ih =>
    intro k
    have h1 := ih (fun n hn => h n (List.mem_cons_of_mem _ hn)) (k + 1 + 4 * x.vals.length)
    have h2 := h x (List.mem_cons_self ..)
    simp only [mEnd, List.length_cons]
    omega
theorem canonZ_small (g : GG) : (canonZ g).nodes.length ≤ 300 ∧ mEnd 1 (canonZ g).nodes ≤ 1099511627776 := by
  unfold canonZ
  split
  · rename_i hok
    have h := canon_small hok
    have h2 := mEnd_small (canon g).nodes h.2 1
    exact ⟨h.1, by omega⟩
  · exact ⟨Nat.zero_le _, by simp [mEnd]⟩

end Go.Proofs.Ytnbikemmnpldcab
