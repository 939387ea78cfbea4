/-
  IMGPLAIN: images as lists of numbers. Own work.
-/
import Derived.Test.YthjddpkegooobaaCanonPlain
namespace Go.Proofs.Ythjddpkegooobaa

/-- a number in groups of seven bits -/
def numB (n : Nat) : List Nat := if n < 128 then [n] else (n % 128 + 128) :: numB (n / 128)
termination_by n
decreasing_by omega

/-- so many bytes of a number, the lowest first -/
def lowB : Nat → Nat → List Nat
  | 0, _ => []
  | k + 1, n => n % 256 :: lowB k (n / 256)

/-- a number with a sign as one without -/
def zig (n : Int) : Nat := if n < 0 then (-2 * n - 1).toNat else (2 * n).toNat
/-- 64 bits of a number -/
def u64n (n : Int) : Nat := (n % 18446744073709551616).toNat
/-- a text's bytes -/
def bsOf (s : ByteArray) : List Nat := s.data.toList.map UInt8.toNat

def valB (v : GV) : List Nat :=
  v.kind.toNat :: (if v.kind = 1 then numB (zig v.num) else if v.kind = 2 then lowB 8 (u64n v.num) else if v.kind = 3 then numB v.text.size ++ bsOf v.text else if v.kind = 4 then numB v.node.toNat else [])
def valsB : List GV → List Nat
  | [] => []
  | v :: r => valB v ++ valsB r
def nodeB (n : GN) : List Nat := numB n.tag.toNat ++ (numB n.vals.length ++ valsB n.vals)
def nodesB : List GN → List Nat
  | [] => []
  | n :: r => nodeB n ++ nodesB r
def graphB (g : GG) : List Nat := [72, 49] ++ (numB g.nodes.length ++ (valB g.root ++ nodesB g.nodes))

/-- one byte more into a sum -/
def sumStep (h x : Nat) : Nat := (h ^^^ x) * 1099511628211 % 18446744073709551616
def sumN (b : List Nat) : Nat := b.foldl sumStep 14695981039346656037

/-- the image of a graph in its one form -/
def formB (c : GG) : List Nat := graphB c ++ lowB 8 (sumN (graphB c))
def imageB (g : GG) : List Nat := formB (canon g)
/-- what Pack answers -/
def packB (g : GG) : List Nat := if okG g = true ∧ (imageB g).length ≤ 4096 then imageB g else []

theorem numB_small {n : Nat} (h : n < 128) : numB n = [n] := by rw [numB, if_pos h]
theorem numB_great {n : Nat} (h : ¬ n < 128) : numB n = (n % 128 + 128) :: numB (n / 128) := by rw [numB, if_neg h]

theorem valsB_append (a b : List GV) : valsB (a ++ b) = valsB a ++ valsB b := by
  induction a with
  | nil => rfl
  | cons v r ih => simp [valsB, ih]
theorem nodesB_append (a b : List GN) : nodesB (a ++ b) = nodesB a ++ nodesB b := by
  induction a with
  | nil => rfl
  | cons v r ih => simp [nodesB, ih]
theorem valsB_take_succ (l : List GV) (k : Nat) (h : k < l.length) : valsB (l.take (k + 1)) = valsB (l.take k) ++ valB l[k]! := by
  rw [take_snoc l k h, valsB_append]; simp [valsB]
theorem nodesB_take_succ (l : List GN) (k : Nat) (h : k < l.length) : nodesB (l.take (k + 1)) = nodesB (l.take k) ++ nodeB l[k]! := by
  rw [take_snoc l k h, nodesB_append]; simp [nodesB]
theorem valsB_take_le (l : List GV) (k : Nat) : (valsB (l.take k)).length ≤ (valsB l).length := by
  have h : valsB l = valsB (l.take k) ++ valsB (l.drop k) := by rw [← valsB_append, List.take_append_drop]
  rw [h, List.length_append]; omega
theorem nodesB_take_le (l : List GN) (k : Nat) : (nodesB (l.take k)).length ≤ (nodesB l).length := by
  have h : nodesB l = nodesB (l.take k) ++ nodesB (l.drop k) := by rw [← nodesB_append, List.take_append_drop]
  rw [h, List.length_append]; omega

theorem lowB_length : ∀ k n, (lowB k n).length = k
  | 0, _ => rfl
  | k + 1, n => by simp [lowB, lowB_length k]
theorem lowB_byte : ∀ (k n x : Nat), x ∈ lowB k n → x < 256
  | 0, _, _, h => by cases h
  | k + 1, n, x, h => by
    rcases List.mem_cons.1 h with h | h
    · omega
    · exact lowB_byte k _ x h
theorem lowB_get : ∀ (k n i : Nat), i < k → (lowB k n)[i]! = n / 256 ^ i % 256
  | 0, _, _, h => absurd h (Nat.not_lt_zero _)
  | k + 1, n, 0, _ => by simp [lowB]
  | k + 1, n, i + 1, h => by
    have h1 := lowB_get k (n / 256) i (by omega)
    show (lowB k (n / 256))[i]! = _
    rw [h1, Nat.div_div_eq_div_mul, Nat.pow_succ', Nat.mul_comm]
theorem lowB_snoc : ∀ (k n : Nat), lowB (k + 1) n = lowB k n ++ [n / 256 ^ k % 256]
  | 0, n => by simp [lowB]
  | k + 1, n => by
    have h1 := lowB_snoc k (n / 256)
    show n % 256 :: lowB (k + 1) (n / 256) = n % 256 :: (lowB k (n / 256) ++ _)
    rw [h1, Nat.div_div_eq_div_mul, Nat.pow_succ', Nat.mul_comm]

theorem numB_byte (n x : Nat) (h : x ∈ numB n) : x < 256 := by
  induction n using Nat.strongRecOn with
  | _ n ih =>
    by_cases hn : n < 128
    · rw [numB_small hn] at h
      have := List.mem_singleton.1 h
      omega
    · rw [numB_great hn] at h
      rcases List.mem_cons.1 h with h | h
      · omega
      · exact ih (n / 128) (by omega) h
theorem bsOf_byte {s : ByteArray} {x : Nat} (h : x ∈ bsOf s) : x < 256 := by
  obtain ⟨y, _, rfl⟩ := List.mem_map.1 h
  exact y.toNat_lt
theorem bsOf_length (s : ByteArray) : (bsOf s).length = s.size := by unfold bsOf; rw [List.length_map, Array.length_toList]; rfl

theorem sumStep_lt (h x : Nat) : sumStep h x < 18446744073709551616 := Nat.mod_lt _ (by omega)
theorem sumN_snoc (b : List Nat) (x : Nat) : sumN (b ++ [x]) = sumStep (sumN b) x := by unfold sumN; rw [List.foldl_append, List.foldl_cons, List.foldl_nil]
theorem sumN_lt (b : List Nat) : sumN b < 18446744073709551616 := by
  rcases List.eq_nil_or_concat b with rfl | ⟨l, x, rfl⟩
  · unfold sumN; rw [List.foldl_nil]; omega
  · rw [List.concat_eq_append, sumN_snoc]; exact sumStep_lt _ _
theorem sumN_take_succ (l : List Nat) (k : Nat) (h : k < l.length) : sumN (l.take (k + 1)) = sumStep (sumN (l.take k)) l[k]! := by
  rw [take_snoc l k h, sumN_snoc]

theorem u64n_nat {n : Nat} (h : n < 18446744073709551616) : u64n (n : Int) = n := by unfold u64n; omega
theorem zig_lt {n : Int} (h : I64 n) : zig n < 18446744073709551616 := by unfold zig; unfold I64 at h; split <;> omega
theorem u64n_lt (n : Int) : u64n n < 18446744073709551616 := by unfold u64n; omega

end Go.Proofs.Ythjddpkegooobaa
