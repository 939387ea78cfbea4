/-
  SAME: whether two graphs are the same: the program's comparisons. Own work.
-/
import Derived.Test.YthjddpkegooobaaEq
import Derived.Deep.QuietTactic
import Derived.BigQuiet
import Derived.WalkSmall
import Derived.WalkLawsBesides
namespace Go.Proofs.Ythjddpkegooobaa
open Go.RowKit

def sameV (v v' : GV) : Bool := decide (v.kind = v'.kind) && (decide (v.num = v'.num) && (decide (v.text.toList = v'.text.toList) && decide (v.node = v'.node)))

set_option maxRecDepth 100000 in
theorem text_inj {s t : ByteArray} (h : s.toList = t.toList) : s = t := by
  apply ByteArray.ext
  rw [ByteArray.toList_eq, ByteArray.toList_eq] at h
  exact Array.toList_inj.1 h
set_option maxRecDepth 100000 in
theorem sameV_iff (v v' : GV) : sameV v v' = true ↔ v = v' := by
  unfold sameV
  simp only [Bool.and_eq_true, decide_eq_true_eq]
  constructor
  · rintro ⟨h1, h2, h3, h4⟩
    cases v; cases v'
    simp only at h1 h2 h3 h4
    rw [h1, h2, text_inj h3, h4]
  · rintro rfl; exact ⟨rfl, rfl, rfl, rfl⟩
set_option maxRecDepth 100000 in
theorem sameV_self (v : GV) : sameV v v = true := (sameV_iff v v).2 rfl

theorem run_neq_val (v v' : GV) (u : World) : (binOp .neq 24 (.agg #[.int .i64 v.kind, .int .i64 v.num, .string v.text, .int .i64 v.node]) (.agg #[.int .i64 v'.kind, .int .i64 v'.num, .string v'.text, .int .i64 v'.node])).run Try.prog u = .ok (.bool (!(sameV v v'))) u := by
  simp only [sameV]
  simp [go_sem]
  repeat' split
  all_goals simp_all
set_option maxRecDepth 100000 in
theorem run_eql_val (v v' : GV) (u : World) : (binOp .eql 24 (.agg #[.int .i64 v.kind, .int .i64 v.num, .string v.text, .int .i64 v.node]) (.agg #[.int .i64 v'.kind, .int .i64 v'.num, .string v'.text, .int .i64 v'.node])).run Try.prog u = .ok (.bool (sameV v v')) u := by
  simp only [sameV]
  simp [go_sem]
  repeat' split
  all_goals simp_all

set_option maxRecDepth 100000 in
theorem take_ne {α : Type} [Inhabited α] {l l' : List α} {k : Nat} (_hk : k < l.length) (_hk' : k < l'.length) (h : l[k]! ≠ l'[k]!) : l ≠ l' := fun e => h (by rw [e])
theorem take_eq_succ {α : Type} [Inhabited α] {l l' : List α} {k : Nat} (hk : k < l.length) (hk' : k < l'.length) (h0 : l.take k = l'.take k) (h : l[k]! = l'[k]!) : l.take (k + 1) = l'.take (k + 1) := by
  rw [take_snoc l k hk, take_snoc l' k hk', h0, h]

set_option maxRecDepth 100000 in
theorem equalVals_any (a a' : Option Addr) (cap cap' : Nat) (vs vs' : List GV) (w : World) (hl : vs.length ≤ maxLen) (_hl' : vs'.length ≤ maxLen) (ha : ValsAt w.heap.size w a vs) (ha' : ValsAt w.heap.size w a' vs') :
    Calls Try.prog 115 #[.slice a vs.length cap, .slice a' vs'.length cap'] w fun e w' => ∃ b, e = .returned (.bool b) ∧ (b = true ↔ vs = vs') ∧ Below w.heap.size w w' := by
  unfold maxLen at hl
  by_cases hle : vs.length = vs'.length
  · rw [← hle]
    have hle' : Hid _ := hle
    clear hle
    go_enter Try.func115, Try.ntmps115
    go_wp2
    go_loopw [5, 13] (fun _ i wr => ∃ k : Nat, k ≤ vs.length ∧ i = .int .i64 k ∧ Hid (vs.take k = vs'.take k) ∧ Below w.heap.size w wr) (fun _ i _ => vs.length - (intOf i).toNat)
    case atStart => exact ⟨0, Nat.zero_le _, rfl, rfl, gre _⟩
    case round =>
      obtain ⟨k, hk, rfl, hall, hb⟩ := hrel
      by_cases hlt : k < vs.length
      · have hlt' : Hid (k < vs'.length) := by have := hle'.out; show k < vs'.length; omega
        obtain ⟨v, b, off, hvk, hvm, rfl, hbs, hva⟩ := ha.get hlt
        obtain ⟨v', b', off', hvk', hvm', rfl, hbs', hva'⟩ := ha'.get hlt'.out
        have hva := hva.below hb hbs
        have hva' := hva'.below hb hbs'
        have c0 := hva.kind
        have c1 := hva.num
        have c2 := hva.text
        have c3 := hva.node
        have d0 := hva'.kind
        have d1 := hva'.num
        have d2 := hva'.text
        have d3 := hva'.node
        have i0 : (0 : Int) ≤ (k : Int) := by omega
        have i1 : (k : Int) < (vs.length : Int) := by omega
        have hne := run_neq_val v v'
        clear ha ha' hva hva'
        cases hs : sameV v v' with
        | true =>
          have hvv : v = v' := (sameV_iff v v').1 hs
          have hnext : Hid (vs.take (k + 1) = vs'.take (k + 1)) := take_eq_succ hlt hlt'.out hall.out (by rw [← hvk.out, ← hvk'.out, hvv])
          rw [hs] at hne
          simp only [Bool.not_true] at hne
          clear hvv hs
          go_wp2
          go_quiet (fail)
          go_wp2
          go_roundw
          case rel => exact ⟨k + 1, by omega, by go_num, hnext, below_drewN hb _⟩
          case measure => simp [intOf]; omega
        | false =>
          have hvv : Hid (¬ vs = vs') := take_ne hlt hlt'.out (fun e => by rw [← hvk.out, ← hvk'.out] at e; rw [(sameV_iff v v').2 e] at hs; cases hs)
          rw [hs] at hne
          simp only [Bool.not_false] at hne
          clear hs
          go_wp2
          go_quiet (fail)
          go_wp2
          go_ret
          exact ⟨false, rfl, ⟨fun h => (by cases h), fun h => absurd h hvv.out⟩, below_drewN hb _⟩
      · have hvv : Hid (vs = vs') := by
          have h1 := hall.out
          have h2 := hle'.out
          rwa [List.take_of_length_le (by omega), List.take_of_length_le (by omega)] at h1
        go_wp2
        go_ret
        exact ⟨true, rfl, ⟨fun _ => hvv.out, fun _ => rfl⟩, hb⟩
  · have hd : ¬ ((vs.length : Int) = (vs'.length : Int)) := by omega
    go_enter Try.func115, Try.ntmps115
    go_wp2
    go_ret
    exact ⟨false, rfl, ⟨fun h => (by cases h), fun h => absurd (by rw [h]) hle⟩, gre _⟩

end Go.Proofs.Ythjddpkegooobaa
