/-
  OK2: nodes and graphs that are well made: the specification's word and the program's. Own work.
-/
import Derived.Test.YthjddpkegooobaaOk
namespace Go.Proofs.Ythjddpkegooobaa
open Go.RowKit

def okN (n : Nat) (x : GN) : Bool := decide (0 ≤ x.tag ∧ x.tag ≤ 1000 ∧ x.vals.length ≤ 100) && x.vals.all (okV n)
def okG (g : GG) : Bool := decide (g.nodes.length ≤ 300) && okV g.nodes.length g.root && g.nodes.all (okN g.nodes.length)

set_option maxRecDepth 100000 in
theorem all_take_succ {α : Type} [Inhabited α] {p : α → Bool} {l : List α} {k : Nat} (h : k < l.length) (h1 : (l.take k).all p = true) (h2 : p l[k]! = true) : (l.take (k + 1)).all p = true := by
  rw [take_snoc l k h, List.all_append, h1, List.all_cons, h2]; rfl
theorem all_false_at {α : Type} [Inhabited α] {p : α → Bool} {l : List α} {k : Nat} (h : k < l.length) (h2 : p l[k]! = false) : l.all p = false := by
  rw [List.all_eq_false]; exact ⟨l[k]!, mem_at h, by rw [h2]; exact Bool.false_ne_true⟩

set_option maxRecDepth 100000 in
theorem okN_false {n : Nat} {x : GN} (h : x.tag < 0 ∨ 1000 < x.tag ∨ 100 < x.vals.length) : okN n x = false := by
  unfold okN; rw [decide_eq_false (by omega)]; rfl
theorem okN_vals {n : Nat} {x : GN} (h : 0 ≤ x.tag ∧ x.tag ≤ 1000 ∧ x.vals.length ≤ 100) : okN n x = x.vals.all (okV n) := by
  unfold okN; rw [decide_eq_true h]; rfl

set_option maxRecDepth 100000 in
theorem implNode_any (n : Nat) (x : GN) (a : Option Addr) (cap : Nat) (w : World) (hl : x.vals.length ≤ maxLen) (ha : ValsAt w.heap.size w a x.vals) :
    Calls Try.prog 103 #[.agg #[.int .i64 x.tag, .slice a x.vals.length cap], .int .i64 n] w fun e w' => e = .returned (.bool (okN n x)) ∧ Below w.heap.size w w' := by
  unfold maxLen at hl
  by_cases hok : 0 ≤ x.tag ∧ x.tag ≤ 1000 ∧ x.vals.length ≤ 100
  · have hkv : Hid _ := okN_vals (n := n) hok
    obtain ⟨h1, h2, h3⟩ := hok
    have t0 : decide (x.tag < 0) = false := decide_eq_false (by omega)
    have t1 : decide (1000 < x.tag) = false := decide_eq_false (by omega)
    have t2 : decide (100 < (x.vals.length : Int)) = false := decide_eq_false (by omega)
    go_enter Try.func103, Try.ntmps103
    go_wp2
    go_loopw [24] (fun i wr => ∃ k : Nat, k ≤ x.vals.length ∧ i = .int .i64 k ∧ (x.vals.take k).all (okV n) = true ∧ Below w.heap.size w wr) (fun i _ => x.vals.length - (intOf i).toNat)
    case atStart => exact ⟨0, Nat.zero_le _, rfl, by simp, gal (gre _) _⟩
    case round =>
      obtain ⟨k, hk, rfl, hall, hb⟩ := hrel
      by_cases hlt : k < x.vals.length
      · obtain ⟨v, b, off, hvk, hvm, rfl, hbs, hva⟩ := ha.get hlt
        have hva := hva.below hb hbs
        have c0 := hva.kind
        have c1 := hva.num
        have c2 := hva.text
        have c3 := hva.node
        have hall' : Hid _ := hall
        clear hall
        cases hr : okV n v with
        | false =>
          have hf : Hid (x.vals.all (okV n) = false) := all_false_at hlt (by rw [← hvk.out]; exact hr)
          go_wp2_with (go_at_call 102; refine (implVal_any n v _).mono ?_; rintro e w' ⟨rfl, hb'⟩)
          go_ret
          exact ⟨ret_bool (by rw [hkv.out, hf.out]), gca (gal hb _) hb'⟩
        | true =>
          have hf : Hid ((x.vals.take (k + 1)).all (okV n) = true) := all_take_succ hlt hall'.out (by rw [← hvk.out]; exact hr)
          go_wp2_with (go_at_call 102; refine (implVal_any n v _).mono ?_; rintro e w' ⟨rfl, hb'⟩)
          go_roundw
          case rel => exact ⟨k + 1, by omega, by go_num, hf.out, gca (gal hb _) hb'⟩
          case measure => simp [intOf]; omega
      · have e : k = x.vals.length := by omega
        have hall' : Hid (x.vals.all (okV n) = true) := by rw [e, List.take_length] at hall; exact hall
        clear hall
        go_wp2
        go_ret
        exact ⟨ret_bool (by rw [hkv.out, hall'.out]), hb⟩
  · have hkf : Hid _ := okN_false (n := n) (x := x) (by omega)
    go_enter Try.func103, Try.ntmps103
    go_wp2
    all_goals first | (go_ret; exact ⟨ret_bool hkf.out.symm, gal (gre _) _⟩) | (exfalso; omega)

end Go.Proofs.Ythjddpkegooobaa
