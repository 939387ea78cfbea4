import Derived.Lib.AppendStr
import Derived.Laws.BitsAllLaws
import Derived.LaidEqlPtr
import Derived.MapKept
import Derived.Test.YthjddpkegooobabPartHoC

/-
  CANONPLAIN: a graph's one form, as lists and numbers. Own work.
-/
namespace Go.Proofs.Ythjddpkegooobab

/-- the nodes met, behind one value more -/
def renOrd (ord : List Nat) (v : GV) : List Nat := if v.kind = 4 ∧ v.node.toNat ∉ ord then ord ++ [v.node.toNat] else ord
/-- the value, its node by the new number -/
def renVal (ord : List Nat) (v : GV) : GV := if v.kind = 4 then { v with node := ((renOrd ord v).idxOf v.node.toNat : Nat) } else v
def renOrds (ord : List Nat) (vs : List GV) : List Nat := vs.foldl renOrd ord
def renVals (ord : List Nat) : List GV → List GV
  | [] => []
  | v :: r => renVal ord v :: renVals (renOrd ord v) r

theorem renOrds_snoc (ord : List Nat) (l : List GV) (v : GV) : renOrds ord (l ++ [v]) = renOrd (renOrds ord l) v := by
  simp [renOrds, List.foldl_append]
theorem renVals_snoc (ord : List Nat) (l : List GV) (v : GV) : renVals ord (l ++ [v]) = renVals ord l ++ [renVal (renOrds ord l) v] := by
  induction l generalizing ord with
  | nil => rfl
  | cons x r ih => simp only [List.cons_append, renVals, ih]; rfl
theorem renVals_length (ord : List Nat) (l : List GV) : (renVals ord l).length = l.length := by
  induction l generalizing ord with
  | nil => rfl
  | cons x r ih => simp [renVals, ih]

theorem renOrds_take_succ (ord : List Nat) (l : List GV) (k : Nat) (h : k < l.length) : renOrds ord (l.take (k + 1)) = renOrd (renOrds ord (l.take k)) l[k]! := by
  rw [take_snoc l k h, renOrds_snoc]
theorem renVals_take_succ (ord : List Nat) (l : List GV) (k : Nat) (h : k < l.length) : renVals ord (l.take (k + 1)) = renVals ord (l.take k) ++ [renVal (renOrds ord (l.take k)) l[k]!] := by
  rw [take_snoc l k h, renVals_snoc]

/-- the nodes met behind k rounds -/
def canonO (nodes : List GN) (ord0 : List Nat) : Nat → List Nat
  | 0 => ord0
  | k + 1 => if k < (canonO nodes ord0 k).length then renOrds (canonO nodes ord0 k) (nodes[(canonO nodes ord0 k)[k]!]!).vals else canonO nodes ord0 k
/-- the new nodes behind k rounds -/
def canonN (nodes : List GN) (ord0 : List Nat) : Nat → List GN
  | 0 => []
  | k + 1 => if k < (canonO nodes ord0 k).length then canonN nodes ord0 k ++ [⟨(nodes[(canonO nodes ord0 k)[k]!]!).tag, renVals (canonO nodes ord0 k) (nodes[(canonO nodes ord0 k)[k]!]!).vals⟩] else canonN nodes ord0 k

def canon (g : GG) : GG := ⟨renVal [] g.root, canonN g.nodes (renOrd [] g.root) g.nodes.length⟩

theorem canonO_succ (nodes : List GN) (ord0 : List Nat) (k : Nat) : canonO nodes ord0 (k + 1) = if k < (canonO nodes ord0 k).length then renOrds (canonO nodes ord0 k) (nodes[(canonO nodes ord0 k)[k]!]!).vals else canonO nodes ord0 k := by
  conv => lhs; unfold canonO
theorem canonN_succ (nodes : List GN) (ord0 : List Nat) (k : Nat) : canonN nodes ord0 (k + 1) = if k < (canonO nodes ord0 k).length then canonN nodes ord0 k ++ [⟨(nodes[(canonO nodes ord0 k)[k]!]!).tag, renVals (canonO nodes ord0 k) (nodes[(canonO nodes ord0 k)[k]!]!).vals⟩] else canonN nodes ord0 k := by
  conv => lhs; unfold canonN

theorem canon_stable (nodes : List GN) (ord0 : List Nat) (k : Nat) (h : (canonO nodes ord0 k).length ≤ k) : ∀ j, canonO nodes ord0 (k + j) = canonO nodes ord0 k ∧ canonN nodes ord0 (k + j) = canonN nodes ord0 k
  | 0 => ⟨rfl, rfl⟩
  | j + 1 => by
    obtain ⟨h1, h2⟩ := canon_stable nodes ord0 k h j
    have hn : ¬ k + j < (canonO nodes ord0 (k + j)).length := by rw [h1]; omega
    rw [show k + (j + 1) = (k + j) + 1 by omega, canonO_succ, canonN_succ, if_neg hn, if_neg hn]
    exact ⟨h1, h2⟩

/-- met once each, and all there -/
def InvO (n : Nat) (ord : List Nat) : Prop := ord.Nodup ∧ ∀ x, x ∈ ord → x < n

theorem nodup_le : ∀ (n : Nat) (l : List Nat), l.Nodup → (∀ x, x ∈ l → x < n) → l.length ≤ n
  | 0, l, _, h => by
    cases l with
    | nil => simp
    | cons x r => exact absurd (h x (List.mem_cons_self ..)) (Nat.not_lt_zero _)
  | n + 1, l, hd, h => by
    by_cases hn : n ∈ l
    · have h1 := nodup_le n (l.erase n) (hd.erase n) (fun x hx => by
        obtain ⟨h2, h3⟩ := hd.mem_erase_iff.1 hx
        have := h x h3
        omega)
      rw [List.length_erase_of_mem hn] at h1
      omega
    · have := nodup_le n l hd (fun x hx => by
        have h1 := h x hx
        have h2 : x ≠ n := fun e => hn (e ▸ hx)
        omega)
      omega
theorem InvO.le {n : Nat} {ord : List Nat} (h : InvO n ord) : ord.length ≤ n := nodup_le n ord h.1 h.2
theorem InvO.nil (n : Nat) : InvO n [] := ⟨List.nodup_nil, fun x hx => by cases hx⟩

/-- what a well made value's node says -/
theorem okV_node {n : Nat} {v : GV} (h : okV n v = true) (hk : v.kind = 4) : 0 ≤ v.node ∧ v.node < n := by
  unfold okV at h
  rw [if_neg (by omega), if_neg (by omega), if_neg (by omega), if_pos hk] at h
  have := of_decide_eq_true h
  omega

theorem InvO.ren {n : Nat} {ord : List Nat} {v : GV} (h : InvO n ord) (hv : okV n v = true) : InvO n (renOrd ord v) := by
  unfold renOrd
  split
  · rename_i hc
    have := okV_node hv hc.1
    refine ⟨List.nodup_append.2 ⟨h.1, by simp, fun a ha b hb e => ?_⟩, fun x hx => ?_⟩
    · simp at hb
      subst e hb
      exact hc.2 ha
    · rcases List.mem_append.1 hx with h1 | h1
      · exact h.2 x h1
      · simp at h1
        omega
  · exact h

theorem InvO.rens {n : Nat} {ord : List Nat} {l : List GV} (h : InvO n ord) (hv : ∀ v, v ∈ l → okV n v = true) : InvO n (renOrds ord l) := by
  induction l generalizing ord with
  | nil => exact h
  | cons v r ih => exact ih (h.ren (hv v (List.mem_cons_self ..))) (fun x hx => hv x (List.mem_cons_of_mem _ hx))

theorem okG_parts {g : GG} (h : okG g = true) : g.nodes.length ≤ 300 ∧ okV g.nodes.length g.root = true ∧ ∀ n, n ∈ g.nodes → okN g.nodes.length n = true := by
  unfold okG at h
  simp only [Bool.and_eq_true, decide_eq_true_eq, List.all_eq_true] at h
  exact ⟨h.1.1, h.1.2, h.2⟩
theorem okN_parts {n : Nat} {x : GN} (h : okN n x = true) : x.vals.length ≤ 100 ∧ ∀ v, v ∈ x.vals → okV n v = true := by
  unfold okN at h
  simp only [Bool.and_eq_true, decide_eq_true_eq, List.all_eq_true] at h
  exact ⟨h.1.2.2, h.2⟩

theorem canonO_inv {nodes : List GN} {ord0 : List Nat} (h0 : InvO nodes.length ord0) (hn : ∀ n, n ∈ nodes → okN nodes.length n = true) : ∀ k, InvO nodes.length (canonO nodes ord0 k)
  | 0 => by unfold canonO; exact h0
  | k + 1 => by
    have ih := canonO_inv h0 hn k
    rw [canonO_succ]
    split
    · rename_i hlt
      refine ih.rens (okN_parts (hn _ (mem_at (ih.2 _ (mem_at hlt))))).2
    · exact ih

theorem canon_at {g : GG} {k : Nat} (hk : k ≤ g.nodes.length) (h : (canonO g.nodes (renOrd [] g.root) k).length ≤ k) : canon g = ⟨renVal [] g.root, canonN g.nodes (renOrd [] g.root) k⟩ := by
  have h1 := (canon_stable g.nodes (renOrd [] g.root) k h (g.nodes.length - k)).2
  rw [show k + (g.nodes.length - k) = g.nodes.length by omega] at h1
  unfold canon
  rw [h1]

theorem renOrd_le (ord : List Nat) (v : GV) : ord.length ≤ (renOrd ord v).length := by
  unfold renOrd; split <;> simp
theorem renOrds_le (ord : List Nat) (l : List GV) : ord.length ≤ (renOrds ord l).length := by
  induction l generalizing ord with
  | nil => exact Nat.le_refl _
  | cons v r ih => exact Nat.le_trans (renOrd_le ord v) (ih (renOrd ord v))

/-- where a node is among those met; -1 where it is not -/
def whereOf (ord : List Nat) (i : Nat) : Int := if i ∈ ord then (ord.idxOf i : Int) else -1

theorem whereOf_neg {ord : List Nat} {i : Nat} (h : i ∉ ord) : whereOf ord i = -1 := if_neg h
theorem whereOf_pos {ord : List Nat} {i : Nat} (h : i ∈ ord) : whereOf ord i = (ord.idxOf i : Int) := if_pos h
theorem whereOf_snoc {ord : List Nat} {x : Nat} (h : x ∉ ord) (i : Nat) : whereOf (ord ++ [x]) i = if i = x then (ord.length : Int) else whereOf ord i := by
  unfold whereOf
  by_cases hi : i = x
  · subst hi
    rw [if_pos (by simp), if_pos rfl, List.idxOf_append, if_neg h]
    simp
  · rw [if_neg hi]
    by_cases hm : i ∈ ord
    · rw [if_pos hm, if_pos (by simp [hm]), List.idxOf_append, if_pos hm]
    · rw [if_neg hm, if_neg (by simp [hm, hi])]

theorem ren_old {ord : List Nat} {v : GV} (hk : v.kind = 4) (h : v.node.toNat ∈ ord) : renOrd ord v = ord ∧ renVal ord v = { v with node := (ord.idxOf v.node.toNat : Nat) } := by
  have h1 : renOrd ord v = ord := by unfold renOrd; rw [if_neg (fun c => c.2 h)]
  refine ⟨h1, ?_⟩
  unfold renVal
  rw [if_pos hk, h1]
theorem ren_new {ord : List Nat} {v : GV} (hk : v.kind = 4) (h : v.node.toNat ∉ ord) : renOrd ord v = ord ++ [v.node.toNat] ∧ renVal ord v = { v with node := (ord.length : Nat) } := by
  have h1 : renOrd ord v = ord ++ [v.node.toNat] := by unfold renOrd; rw [if_pos ⟨hk, h⟩]
  refine ⟨h1, ?_⟩
  unfold renVal
  rw [if_pos hk, h1, List.idxOf_append, if_neg h]
  simp
theorem ren_not {ord : List Nat} {v : GV} (hk : v.kind ≠ 4) : renOrd ord v = ord ∧ renVal ord v = v := by
  unfold renOrd renVal
  rw [if_neg (fun c => hk c.1), if_neg hk]
  exact ⟨rfl, rfl⟩

end Go.Proofs.Ythjddpkegooobab

/-
  IMGPLAIN: images as lists of numbers. Own work.
-/
namespace Go.Proofs.Ythjddpkegooobab

/-- a number in groups of seven bits -/
def numB (n : Nat) : List Nat := if n < 128 then [n] else (n % 128 + 128) :: numB (n / 128)
termination_by n
decreasing_by omega

/-- so many bytes of a number, the lowest first -/
def lowB : Nat → Nat → List Nat
  | 0, _ => []
  | k + 1, n => n % 256 :: lowB k (n / 256)

/-- a number with a sign as one without -/
def zig (n : Int) : Nat := if n < 0 then (-2 * n - 1).toNat else (2 * n).toNat
/-- 64 bits of a number -/
def u64n (n : Int) : Nat := (n % 18446744073709551616).toNat
/-- a text's bytes -/
def bsOf (s : ByteArray) : List Nat := s.data.toList.map UInt8.toNat

def valB (v : GV) : List Nat :=
  v.kind.toNat :: (if v.kind = 1 then numB (zig v.num) else if v.kind = 2 then lowB 8 (u64n v.num) else if v.kind = 3 then numB v.text.size ++ bsOf v.text else if v.kind = 4 then numB v.node.toNat else [])
def valsB : List GV → List Nat
  | [] => []
  | v :: r => valB v ++ valsB r
def nodeB (n : GN) : List Nat := numB n.tag.toNat ++ (numB n.vals.length ++ valsB n.vals)
def nodesB : List GN → List Nat
  | [] => []
  | n :: r => nodeB n ++ nodesB r
def graphB (g : GG) : List Nat := [72, 49] ++ (numB g.nodes.length ++ (valB g.root ++ nodesB g.nodes))

/-- one byte more into a sum -/
def sumStep (h x : Nat) : Nat := (h ^^^ x) * 1099511628211 % 18446744073709551616
def sumN (b : List Nat) : Nat := b.foldl sumStep 14695981039346656037

/-- the image of a graph in its one form -/
def formB (c : GG) : List Nat := graphB c ++ lowB 8 (sumN (graphB c))
def imageB (g : GG) : List Nat := formB (canon g)
/-- what Pack answers -/
def packB (g : GG) : List Nat := if okG g = true ∧ (imageB g).length ≤ 4096 then imageB g else []

theorem numB_small {n : Nat} (h : n < 128) : numB n = [n] := by rw [numB, if_pos h]
theorem numB_great {n : Nat} (h : ¬ n < 128) : numB n = (n % 128 + 128) :: numB (n / 128) := by rw [numB, if_neg h]

theorem valsB_append (a b : List GV) : valsB (a ++ b) = valsB a ++ valsB b := by
  induction a with
  | nil => rfl
  | cons v r ih => simp [valsB, ih]
theorem nodesB_append (a b : List GN) : nodesB (a ++ b) = nodesB a ++ nodesB b := by
  induction a with
  | nil => rfl
  | cons v r ih => simp [nodesB, ih]
theorem valsB_take_succ (l : List GV) (k : Nat) (h : k < l.length) : valsB (l.take (k + 1)) = valsB (l.take k) ++ valB l[k]! := by
  rw [take_snoc l k h, valsB_append]; simp [valsB]
theorem nodesB_take_succ (l : List GN) (k : Nat) (h : k < l.length) : nodesB (l.take (k + 1)) = nodesB (l.take k) ++ nodeB l[k]! := by
  rw [take_snoc l k h, nodesB_append]; simp [nodesB]
theorem valsB_take_le (l : List GV) (k : Nat) : (valsB (l.take k)).length ≤ (valsB l).length := by
  have h : valsB l = valsB (l.take k) ++ valsB (l.drop k) := by rw [← valsB_append, List.take_append_drop]
  rw [h, List.length_append]; omega
theorem nodesB_take_le (l : List GN) (k : Nat) : (nodesB (l.take k)).length ≤ (nodesB l).length := by
  have h : nodesB l = nodesB (l.take k) ++ nodesB (l.drop k) := by rw [← nodesB_append, List.take_append_drop]
  rw [h, List.length_append]; omega

theorem lowB_length : ∀ k n, (lowB k n).length = k
  | 0, _ => rfl
  | k + 1, n => by simp [lowB, lowB_length k]
theorem lowB_byte : ∀ (k n x : Nat), x ∈ lowB k n → x < 256
  | 0, _, _, h => by cases h
  | k + 1, n, x, h => by
    rcases List.mem_cons.1 h with h | h
    · omega
    · exact lowB_byte k _ x h
theorem lowB_get : ∀ (k n i : Nat), i < k → (lowB k n)[i]! = n / 256 ^ i % 256
  | 0, _, _, h => absurd h (Nat.not_lt_zero _)
  | k + 1, n, 0, _ => by simp [lowB]
  | k + 1, n, i + 1, h => by
    have h1 := lowB_get k (n / 256) i (by omega)
    show (lowB k (n / 256))[i]! = _
    rw [h1, Nat.div_div_eq_div_mul, Nat.pow_succ', Nat.mul_comm]
theorem lowB_snoc : ∀ (k n : Nat), lowB (k + 1) n = lowB k n ++ [n / 256 ^ k % 256]
  | 0, n => by simp [lowB]
  | k + 1, n => by
    have h1 := lowB_snoc k (n / 256)
    show n % 256 :: lowB (k + 1) (n / 256) = n % 256 :: (lowB k (n / 256) ++ _)
    rw [h1, Nat.div_div_eq_div_mul, Nat.pow_succ', Nat.mul_comm]

theorem numB_byte (n x : Nat) (h : x ∈ numB n) : x < 256 := by
  induction n using Nat.strongRecOn with
  | _ n ih =>
    by_cases hn : n < 128
    · rw [numB_small hn] at h
      have := List.mem_singleton.1 h
      omega
    · rw [numB_great hn] at h
      rcases List.mem_cons.1 h with h | h
      · omega
      · exact ih (n / 128) (by omega) h
theorem bsOf_byte {s : ByteArray} {x : Nat} (h : x ∈ bsOf s) : x < 256 := by
  obtain ⟨y, _, rfl⟩ := List.mem_map.1 h
  exact y.toNat_lt
theorem bsOf_length (s : ByteArray) : (bsOf s).length = s.size := by unfold bsOf; rw [List.length_map, Array.length_toList]; rfl

theorem sumStep_lt (h x : Nat) : sumStep h x < 18446744073709551616 := Nat.mod_lt _ (by omega)
theorem sumN_snoc (b : List Nat) (x : Nat) : sumN (b ++ [x]) = sumStep (sumN b) x := by unfold sumN; rw [List.foldl_append, List.foldl_cons, List.foldl_nil]
theorem sumN_lt (b : List Nat) : sumN b < 18446744073709551616 := by
  rcases List.eq_nil_or_concat b with rfl | ⟨l, x, rfl⟩
  · unfold sumN; rw [List.foldl_nil]; omega
  · rw [List.concat_eq_append, sumN_snoc]; exact sumStep_lt _ _
theorem sumN_take_succ (l : List Nat) (k : Nat) (h : k < l.length) : sumN (l.take (k + 1)) = sumStep (sumN (l.take k)) l[k]! := by
  rw [take_snoc l k h, sumN_snoc]

theorem u64n_nat {n : Nat} (h : n < 18446744073709551616) : u64n (n : Int) = n := by unfold u64n; omega
theorem zig_lt {n : Int} (h : I64 n) : zig n < 18446744073709551616 := by unfold zig; unfold I64 at h; split <;> omega
theorem u64n_lt (n : Int) : u64n n < 18446744073709551616 := by unfold u64n; omega

end Go.Proofs.Ythjddpkegooobab

/-
  OB: bytes that are appended to. Own work.
-/
namespace Go.Proofs.Ythjddpkegooobab
open Go.RowKit

/-- bytes of one's own, since a world -/
structure Ob (w0 : World) (base : Nat) (oa0 : Option Addr) (w : World) (oa : Option Addr) (cap : Nat) (zs : List Nat) : Prop where
  own : w.ownsRow base 5 1 (.slice oa zs.length cap) zs.length (bcells zs)
  loc : ∀ k, k < w0.heap.size → oa = some ⟨k, 0, none⟩ → oa0 = some ⟨k, 0, none⟩
  kept : Kept (fun k => oa0 = some ⟨k, 0, none⟩) w0 w

set_option maxRecDepth 100000 in
theorem Ob.start {base : Nat} {w : World} {oa : Option Addr} {cap : Nat} {zs : List Nat} (h : w.ownsRow base 5 1 (.slice oa zs.length cap) zs.length (bcells zs)) : Ob w base oa w oa cap zs := ⟨h, fun _ _ e => e, Kept.refl _ _⟩
theorem Ob.lt {w0 w : World} {base : Nat} {oa0 oa : Option Addr} {cap : Nat} {zs : List Nat} (h : Ob w0 base oa0 w oa cap zs) {k : Nat} (e : oa = some ⟨k, 0, none⟩) : base ≤ k ∧ k < w.heap.size := h.own.lt k (by rw [e]; rfl)
theorem Ob.grow {w0 w w' : World} {base : Nat} {oa0 oa : Option Addr} {cap : Nat} {zs : List Nat} (h : Ob w0 base oa0 w oa cap zs) (hb : Below w.heap.size w w') : Ob w0 base oa0 w' oa cap zs :=
  ⟨(Kept.of_below hb (fun _ => False)).owns h.own (fun _ _ e => e), h.loc, h.kept.trans (Kept.of_below hb _) (fun _ _ e => e)⟩
set_option maxRecDepth 100000 in
theorem Ob.call {w0 w w1 : World} {base : Nat} {oa0 oa oa1 : Option Addr} {cap cap1 : Nat} {zs ys : List Nat} (h : Ob w0 base oa0 w oa cap zs) (k : Ob w base oa w1 oa1 cap1 ys) : Ob w0 base oa0 w1 oa1 cap1 ys :=
  ⟨k.own, fun b hb e => h.loc b hb (k.loc b (Nat.lt_of_lt_of_le hb h.kept.size) e), h.kept.trans k.kept (fun b hb e => h.loc b hb e)⟩
theorem Ob.push {w0 w wa w1 : World} {base : Nat} {oa0 oa : Option Addr} {cap cap1 g : Nat} {zs ys : List Nat} (h : Ob w0 base oa0 w oa cap zs) (hb : Below w.heap.size w wa)
    (hown : w1.ownsRow base 5 1 (.slice (some ⟨g, 0, none⟩) (zs.length + ys.length) cap1) (zs.length + ys.length) (bcells zs ++ bcells ys)) (hgrow : wa.grownBy w1 (Value.slice oa zs.length cap).ownBlock)
    (hat : (Value.slice oa zs.length cap).ownBlock = some g ∨ w.heap.size ≤ g) : Ob w0 base oa0 w1 (some ⟨g, 0, none⟩) cap1 (zs ++ ys) := by
  refine ⟨?_, fun k hk e => ?_, ?_⟩
  · rw [List.length_append, show bcells (zs ++ ys) = bcells zs ++ bcells ys by simp [bcells]]; exact hown
  · have e2 := some_addr e
    subst e2
    rcases hat with hg | hg
    · exact h.loc g hk (owns_addr h.own hg)
    · have := h.kept.size; omega
  · exact (h.kept.trans (Kept.of_below hb _) (fun _ _ e => e)).trans (Kept.of_grown hgrow) (fun k hk e => h.loc k hk (owns_addr h.own e))

/-- what a call leaves that appends so much -/
def APost (base : Nat) (oa : Option Addr) (xs ys : List Nat) (w : World) (e : Ending) (w' : World) : Prop :=
  ∃ oa' cap', e = .returned (.slice oa' (xs ++ ys).length cap') ∧ Ob w base oa w' oa' cap' (xs ++ ys)

set_option maxRecDepth 100000 in
theorem numB_len : ∀ (f n : Nat), n < 128 ^ f → 0 < f → (numB n).length ≤ f
  | 0, _, _, h => absurd h (Nat.lt_irrefl _)
  | f + 1, n, hn, _ => by
    by_cases h : n < 128
    · rw [numB_small h]; simp
    · rw [numB_great h]
      have hf : 0 < f := by
        rcases Nat.eq_zero_or_pos f with rfl | h2
        · simp at hn; omega
        · exact h2
      have := numB_len f (n / 128) (by rw [Nat.div_lt_iff_lt_mul (by omega)]; rw [Nat.pow_succ] at hn; exact hn) hf
      simp only [List.length_cons]
      omega
set_option maxRecDepth 100000 in
theorem numB_ten {n : Nat} (h : n < 18446744073709551616) : (numB n).length ≤ 10 := numB_len 10 n (Nat.lt_of_lt_of_le h (by decide)) (by omega)

theorem and_or128 (m : Nat) (hm : m < 18446744073709551616) : IntKind.u8.wrap (bits .or .u64 (bits .and .u64 (m : Int) 127) 128) = ((m % 128 + 128 : Nat) : Int) := by
  have e1 : bits .and .u64 (m : Int) 127 = ((m % 128 : Nat) : Int) := by
    rw [u64_and _ _ (by omega) (by omega) (by omega) (by omega)]
    have h1 : (127 : Int).toNat = 127 := rfl
    rw [h1, Int.toNat_natCast, nat_mask7]
  have e2 : bits .or .u64 ((m % 128 : Nat) : Int) 128 = ((m % 128 + 128 : Nat) : Int) := by
    rw [u64_or _ _ (by omega) (by omega) (by omega) (by omega)]
    have h1 : (128 : Int).toNat = 128 := rfl
    rw [h1, Int.toNat_natCast, Nat.or_comm, nat_join 7 128 (m % 128) (by decide) (by omega)]
    omega
  rw [e1, e2, IntKind.wrap_u8']
  omega

set_option maxRecDepth 100000 in
theorem l2num_any (base : Nat) (oa : Option Addr) (len cap : Nat) (xs : List Nat) (n : Nat) (z : Int) (w : World) (hlen : len = xs.length) (hz : z = (n : Int)) (hn : n < 18446744073709551616) (hbase : base ≤ w.heap.size) (hl : xs.length ≤ 1099511627776)
    (hO : w.ownsRow base 5 1 (.slice oa xs.length cap) xs.length (bcells xs)) :
    Calls Try.prog 128 #[.slice oa len cap, .int .u64 z] w (APost base oa xs (numB n) w) := by
  subst hz hlen
  obtain ⟨i0, hi, hz0, hz1, hz2⟩ := info_parts info_u8
  have hten := numB_ten hn
  go_enter Try.func128, Try.ntmps128
  go_wp2
  go_loopw [0, 1] (fun o i ws => ∃ (m : Nat) (ys zs : List Nat) (oa1 : Option Addr) (cap1 : Nat), o = .slice oa1 zs.length cap1 ∧ i = .int .u64 m ∧ Hid (zs = xs ++ ys) ∧ Hid (numB n = ys ++ numB m) ∧ m < 18446744073709551616 ∧ Ob w base oa ws oa1 cap1 zs) (fun _ i _ => (intOf i).toNat)
  case atStart => exact ⟨n, [], xs, oa, cap, rfl, rfl, (List.append_nil _).symm, rfl, hn, Ob.start hO⟩
  case round =>
    obtain ⟨m, ys, zs, oa1, cap1, rfl, rfl, hzs, hm, hm64, hOb⟩ := hrel
    have hyl : zs.length ≤ xs.length + 10 := by
      have h1 := congrArg List.length hm.out
      rw [hzs.out]
      simp only [List.length_append] at h1 ⊢
      omega
    have hsz := hOb.kept.size
    by_cases hlt : m < 128
    · have hd : ¬ ((127 : Int) < (m : Int)) := by omega
      have e2 : IntKind.u8.wrap (m : Int) = (m : Int) := by rw [IntKind.wrap_u8']; omega
      go_wp2_with (at_builtin; refine wpList_append_lies _ rfl (.tmp 16) (.tmp 19) 28 rfl base 5 i0 (.int .u8 0) 1 1 Try.underlying28 hi hz0 hz1 hz2 rfl (by decide) _ _ _ rfl (hOb.own.alloc _) ⟨wr.heap.size, 0, none⟩ 1 1 [.int .u8 (m : Int)] rfl rfl (World.news_of_block (cs := #[.int .u8 (m : Int)]) (t := 5) (fr := (0, 0)) (blk_new_at _ _ _ (by simp))) (by simp [Value.oneCell']) (by decide) (by unfold maxLen; omega) (by omega) (by simp; omega) (wr.heap.size + 1) (by simp) ?_; intro g cap2 w1 hown1 hgrow hat hlt2)
      go_ret
      have hP := hOb.push (ys := [m]) (gal (gre _) _) hown1 hgrow (hat.elim Or.inl (fun h => Or.inr (by omega)))
      have e3 : zs ++ [m] = xs ++ numB n := by rw [hm.out, hzs.out, numB_small hlt, List.append_assoc]
      rw [e3] at hP
      exact ⟨_, cap2, by rw [← e3]; simp, hP⟩
    · have hd : ((127 : Int) < (m : Int)) := by omega
      obtain ⟨x, hx⟩ : ∃ x, Hid (x = m % 128 + 128) := ⟨_, rfl⟩
      have e2 : IntKind.u8.wrap (bits .or .u64 (bits .and .u64 (m : Int) 127) 128) = (x : Int) := by rw [hx.out]; exact and_or128 m hm64
      go_wp2_with (at_builtin; refine wpList_append_lies _ rfl (.tmp 7) (.tmp 12) 28 rfl base 5 i0 (.int .u8 0) 1 1 Try.underlying28 hi hz0 hz1 hz2 rfl (by decide) _ _ _ rfl (hOb.own.alloc _) ⟨wr.heap.size, 0, none⟩ 1 1 [.int .u8 (x : Int)] rfl rfl (World.news_of_block (cs := #[.int .u8 (x : Int)]) (t := 5) (fr := (0, 0)) (blk_new_at _ _ _ (by simp))) (by simp [Value.oneCell']) (by decide) (by unfold maxLen; omega) (by omega) (by simp; omega) (wr.heap.size + 1) (by simp) ?_; intro g cap2 w1 hown1 hgrow hat hlt2)
      have hP := hOb.push (ys := [x]) (gal (gre _) _) hown1 hgrow (hat.elim Or.inl (fun h => Or.inr (by omega)))
      go_roundw
      case rel =>
        refine ⟨m / 128, ys ++ [x], zs ++ [x], _, _, by simp, by go_num, by show _ = _; rw [hzs.out, List.append_assoc], ?_, by omega, hP⟩
        show _ = _
        rw [hm.out, numB_great hlt, hx.out]; simp
      case measure => simp [intOf]; omega

end Go.Proofs.Ythjddpkegooobab

/-
  ROWS3: values and nodes in rows that grow. Own work.
-/
namespace Go.Proofs.Ythjddpkegooobab
open Go.RowKit

theorem flatMap_get {α β : Type} [Inhabited α] {f : α → List β} {c : Nat} (hf : ∀ x, (f x).length = c) : ∀ (l : List α) (i j : Nat), i < l.length → j < c → (l.flatMap f)[i * c + j]? = (f l[i]!)[j]?
  | [], _, _, hi, _ => absurd hi (Nat.not_lt_zero _)
  | x :: r, 0, j, _, hj => by
    rw [List.flatMap_cons, Nat.zero_mul, Nat.zero_add, List.getElem?_append_left (by rw [hf]; exact hj)]
    rfl
  | x :: r, i + 1, j, hi, hj => by
    have hlt : i < r.length := by simpa using hi
    have ih := flatMap_get hf r i j hlt hj
    rw [List.flatMap_cons, List.getElem?_append_right (by rw [hf, Nat.add_mul]; omega), hf, show (i + 1) * c + j - c = i * c + j by rw [Nat.add_mul]; omega, ih]
    rw [getElem!_pos r i hlt, getElem!_pos (x :: r) (i + 1) hi]
    rfl

def GV.four (v : GV) : List Value := [.int .i64 v.kind, .int .i64 v.num, .string v.text, .int .i64 v.node]
theorem GV.four_length (v : GV) : v.four.length = 4 := rfl
def valCells (vs : List GV) : List Value := vs.flatMap GV.four
theorem valCells_snoc (vs : List GV) (v : GV) : valCells (vs ++ [v]) = valCells vs ++ [.int .i64 v.kind, .int .i64 v.num, .string v.text, .int .i64 v.node] := by
  simp [valCells, GV.four]

theorem owns_vals {w : World} {base t n len cap : Nat} {a : Option Addr} {vs : List GV} (ho : w.ownsRow base t 4 (.slice a len cap) n (valCells vs)) {B : Nat} (hB : w.heap.size ≤ B) : ValsAt B w a vs := fun i hi => by
  have hg : ∀ j, j < 4 → (valCells vs)[i * 4 + j]? = (vs[i]!.four)[j]? := fun j hj => flatMap_get GV.four_length vs i j hi hj
  obtain ⟨g, ha, hb, hlt, c0⟩ := owns_cell ho (hg 0 (by decide))
  obtain ⟨g1, ha1, _, _, c1⟩ := owns_cell ho (hg 1 (by decide))
  obtain ⟨g2, ha2, _, _, c2⟩ := owns_cell ho (hg 2 (by decide))
  obtain ⟨g3, ha3, _, _, c3⟩ := owns_cell ho (hg 3 (by decide))
  rw [ha] at ha1 ha2 ha3
  simp at ha1 ha2 ha3
  subst ha1 ha2 ha3
  exact ⟨g, 0, ha, by omega, ⟨by rw [Nat.zero_add]; exact c0, by rw [Nat.zero_add]; exact c1, by rw [Nat.zero_add]; exact c2, by rw [Nat.zero_add]; exact c3⟩⟩

/-- a node, and where its values lie -/
structure NL where
  n : GN
  a : Option Addr
  cap : Nat
  deriving Inhabited
def NL.two (x : NL) : List Value := [.int .i64 x.n.tag, .slice x.a x.n.vals.length x.cap]
theorem NL.two_length (x : NL) : x.two.length = 2 := rfl
def nodeCells (l : List NL) : List Value := l.flatMap NL.two
theorem nodeCells_snoc (l : List NL) (x : NL) : nodeCells (l ++ [x]) = nodeCells l ++ [.int .i64 x.n.tag, .slice x.a x.n.vals.length x.cap] := by
  simp [nodeCells, NL.two]

theorem owns_nodes {w : World} {base t n len cap : Nat} {a : Option Addr} {l : List NL} (ho : w.ownsRow base t 2 (.slice a len cap) n (nodeCells l)) (hv : ∀ x, x ∈ l → ValsAt w.heap.size w x.a x.n.vals) : NodesAt w.heap.size w a (l.map (·.n)) := fun i hi => by
  have hi' : i < l.length := by simpa using hi
  have e : (l.map (·.n))[i]! = (l[i]!).n := by rw [getElem!_pos _ i hi, getElem!_pos l i hi']; simp
  have hg : ∀ j, j < 2 → (nodeCells l)[i * 2 + j]? = (l[i]!.two)[j]? := fun j hj => flatMap_get NL.two_length l i j hi' hj
  obtain ⟨g, ha, hb, hlt, c0⟩ := owns_cell ho (hg 0 (by decide))
  obtain ⟨g1, ha1, _, _, c1⟩ := owns_cell ho (hg 1 (by decide))
  rw [ha] at ha1
  simp at ha1
  subst ha1
  rw [e]
  exact ⟨g, 0, l[i]!.a, l[i]!.cap, ha, hlt, ⟨by rw [Nat.zero_add]; exact c0, by rw [Nat.zero_add]; exact c1, hv _ (mem_at hi')⟩⟩

/-- a node's own variable -/
structure Two (w : World) (b : Nat) (t : Int) (s : Value) : Prop where
  lt : b < w.heap.size
  c0 : w.cell? ⟨b, 0, none⟩ = some (.int .i64 t)
  c1 : w.cell? ⟨b, 1, none⟩ = some s
  f : ∀ o, w.frozen? ⟨b, o, none⟩ = false
  z : ∃ c ty, w.heap[b]? = some (.cells c ty (0, 0))
theorem Two.same {w w' : World} {b : Nat} {t : Int} {s : Value} (h : Two w b t s) (e : w'.heap[b]? = w.heap[b]?) (hlt : b < w'.heap.size) : Two w' b t s :=
  ⟨hlt, (World.cell?_of_block (w := w) e).trans h.c0, (World.cell?_of_block (w := w) e).trans h.c1, fun o => (World.frozen?_of_block (w := w) e).trans (h.f o), let ⟨c, ty, hc⟩ := h.z; ⟨c, ty, e.trans hc⟩⟩
theorem Two.kept {p : Nat → Prop} {w w' : World} {b : Nat} {t : Int} {s : Value} (h : Two w b t s) (k : Kept p w w') (hn : ¬ p b) : Two w' b t s := h.same (k.block b h.lt hn) (Nat.lt_of_lt_of_le h.lt k.size)
theorem Two.new_at (w : World) (t : Int) (s : Value) (ty : TypeId) (b : Nat) (hb : b = w.heap.size) : Two (w.alloc (.cells #[.int .i64 t, s] ty)) b t s := by
  subst hb; exact ⟨by simp, by simp, by simp, fun o => by simp, _, _, blk_new_at _ _ _ rfl⟩
theorem Two.set {w : World} {b : Nat} {t : Int} {s s' : Value} (h : Two w b t s) : Two (w.setCell ⟨b, 1, none⟩ s') b t s' := by
  refine ⟨by have := h.lt; simpa [World.setCell] using this, ?_, ?_, fun o => ?_, ?_⟩
  · rw [World.cell?_setCell_other _ _ _ _ (by simp)]; exact h.c0
  · exact World.cell?_setCell_same _ _ _ h.c1
  · rw [World.frozen?_setCell]; exact h.f o
  · obtain ⟨c, ty, hc⟩ := h.z
    exact ⟨c.setIfInBounds 1 s', ty, by simp [World.setCell, Array.getElem?_modify, hc]⟩

/-- a graph's own variable, written -/
structure Five (w : World) (b : Nat) (v : GV) (s : Value) : Prop where
  lt : b < w.heap.size
  c0 : w.cell? ⟨b, 0, none⟩ = some (.int .i64 v.kind)
  c1 : w.cell? ⟨b, 1, none⟩ = some (.int .i64 v.num)
  c2 : w.cell? ⟨b, 2, none⟩ = some (.string v.text)
  c3 : w.cell? ⟨b, 3, none⟩ = some (.int .i64 v.node)
  c4 : w.cell? ⟨b, 4, none⟩ = some s
  f : ∀ o, w.frozen? ⟨b, o, none⟩ = false
theorem Five.same {w w' : World} {b : Nat} {v : GV} {s : Value} (h : Five w b v s) (e : w'.heap[b]? = w.heap[b]?) (hlt : b < w'.heap.size) : Five w' b v s :=
  ⟨hlt, (World.cell?_of_block (w := w) e).trans h.c0, (World.cell?_of_block (w := w) e).trans h.c1, (World.cell?_of_block (w := w) e).trans h.c2, (World.cell?_of_block (w := w) e).trans h.c3, (World.cell?_of_block (w := w) e).trans h.c4, fun o => (World.frozen?_of_block (w := w) e).trans (h.f o)⟩
theorem Five.kept {p : Nat → Prop} {w w' : World} {b : Nat} {v : GV} {s : Value} (h : Five w b v s) (k : Kept p w w') (hn : ¬ p b) : Five w' b v s := h.same (k.block b h.lt hn) (Nat.lt_of_lt_of_le h.lt k.size)
theorem Five.new_at (w : World) (v : GV) (s : Value) (ty : TypeId) (b : Nat) (hb : b = w.heap.size) : Five (w.alloc (.cells #[.int .i64 v.kind, .int .i64 v.num, .string v.text, .int .i64 v.node, s] ty)) b v s := by
  subst hb; exact ⟨by simp, by simp, by simp, by simp, by simp, by simp, fun o => by simp⟩
theorem Five.set {w : World} {b : Nat} {v : GV} {s s' : Value} (h : Five w b v s) : Five (w.setCell ⟨b, 4, none⟩ s') b v s' := by
  refine ⟨by have := h.lt; simpa [World.setCell] using this, ?_, ?_, ?_, ?_, ?_, fun o => ?_⟩
  · rw [World.cell?_setCell_other _ _ _ _ (by simp)]; exact h.c0
  · rw [World.cell?_setCell_other _ _ _ _ (by simp)]; exact h.c1
  · rw [World.cell?_setCell_other _ _ _ _ (by simp)]; exact h.c2
  · rw [World.cell?_setCell_other _ _ _ _ (by simp)]; exact h.c3
  · exact World.cell?_setCell_same _ _ _ h.c4
  · rw [World.frozen?_setCell]; exact h.f o

/-- a value written into a variable of its own -/
abbrev put4 (w : World) (b : Nat) (v : GV) : World := (((w.setCell ⟨b, 0, none⟩ (.int .i64 v.kind)).setCell ⟨b, 1, none⟩ (.int .i64 v.num)).setCell ⟨b, 2, none⟩ (.string v.text)).setCell ⟨b, 3, none⟩ (.int .i64 v.node)
theorem Kept.put4 (w : World) (b : Nat) (v : GV) : Kept (fun k => k = b) w (put4 w b v) :=
  ((((Kept.refl (fun k => k = b) w).set (fun _ => rfl) _).set (fun _ => rfl) _).set (fun _ => rfl) _).set (fun _ => rfl) _

/-- a value written into a graph's root -/
theorem Five.put {w : World} {b : Nat} {v v' : GV} {s : Value} (h : Five w b v s) :
    Five ((((w.setCell ⟨b, 0, none⟩ (.int .i64 v'.kind)).setCell ⟨b, 1, none⟩ (.int .i64 v'.num)).setCell ⟨b, 2, none⟩ (.string v'.text)).setCell ⟨b, 3, none⟩ (.int .i64 v'.node)) b v' s := by
  have h0 := World.cell?_setCell_same w ⟨b, 0, none⟩ (.int .i64 v'.kind) h.c0
  have h1 : (w.setCell ⟨b, 0, none⟩ (.int .i64 v'.kind)).cell? ⟨b, 1, none⟩ = _ := (World.cell?_setCell_other _ _ _ _ (by simp)).trans h.c1
  have h2 : (w.setCell ⟨b, 0, none⟩ (.int .i64 v'.kind)).cell? ⟨b, 2, none⟩ = _ := (World.cell?_setCell_other _ _ _ _ (by simp)).trans h.c2
  have h3 : (w.setCell ⟨b, 0, none⟩ (.int .i64 v'.kind)).cell? ⟨b, 3, none⟩ = _ := (World.cell?_setCell_other _ _ _ _ (by simp)).trans h.c3
  have h4 : (w.setCell ⟨b, 0, none⟩ (.int .i64 v'.kind)).cell? ⟨b, 4, none⟩ = _ := (World.cell?_setCell_other _ _ _ _ (by simp)).trans h.c4
  refine ⟨by have := h.lt; simpa [World.setCell] using this, ?_, ?_, ?_, ?_, ?_, fun o => ?_⟩
  · rw [World.cell?_setCell_other _ _ _ _ (by simp), World.cell?_setCell_other _ _ _ _ (by simp), World.cell?_setCell_other _ _ _ _ (by simp)]; exact h0
  · rw [World.cell?_setCell_other _ _ _ _ (by simp), World.cell?_setCell_other _ _ _ _ (by simp)]; exact World.cell?_setCell_same _ _ _ h1
  · rw [World.cell?_setCell_other _ _ _ _ (by simp)]
    exact World.cell?_setCell_same _ _ _ (u := .string v.text) (by rw [World.cell?_setCell_other _ _ _ _ (by simp)]; exact h2)
  · exact World.cell?_setCell_same _ _ _ (u := .int .i64 v.node) (by rw [World.cell?_setCell_other _ _ _ _ (by simp), World.cell?_setCell_other _ _ _ _ (by simp)]; exact h3)
  · rw [World.cell?_setCell_other _ _ _ _ (by simp), World.cell?_setCell_other _ _ _ _ (by simp), World.cell?_setCell_other _ _ _ _ (by simp)]; exact h4
  · rw [World.frozen?_setCell, World.frozen?_setCell, World.frozen?_setCell, World.frozen?_setCell]; exact h.f o

end Go.Proofs.Ythjddpkegooobab

/-
  PTRMAP: a map whose keys are pointers to blocks. Own work.
-/
namespace Go.Proofs.Ythjddpkegooobab
open Go.RowKit

/-- a plain block of cells, none frozen -/
def CellsAt (w : World) (b : Nat) : Prop := ∃ c t, w.heap[b]? = some (.cells c t (0, 0))

abbrev ptr (b : Nat) : Value := .pointer (some ⟨b, 0, none⟩)

section
variable {P : Program} {w : World} {tp te : TypeId} {j : TypeInfo}

set_option maxRecDepth 100000 in
theorem equal_same (b : Nat) (hp : P.underlying tp = some (.pointer te)) (hte : P.info? te = some j) : (Op.equal tp (ptr b) (ptr b)).run P w = .ok true w := by
  have h : ∀ d : Nat, (Op.equalIn (d + 1) tp (ptr b) (ptr b)).run P w = .ok true w := fun d => by
    simp [Op.equalIn, run_underlying hp, sizeOf, typeInfo, hte, run_sameAddr_same]
  exact h 9999
set_option maxRecDepth 100000 in
theorem equal_other {b c : Nat} (hp : P.underlying tp = some (.pointer te)) (hte : P.info? te = some j) (hsz : j.size ≠ 0) (hne : b ≠ c) (hb : CellsAt w b) (hc : CellsAt w c) : (Op.equal tp (ptr b) (ptr c)).run P w = .ok false w := by
  obtain ⟨cb, tb, hb⟩ := hb
  obtain ⟨cc, tc, hc⟩ := hc
  have hn : (⟨b, 0, none⟩ : Addr) ≠ ⟨c, 0, none⟩ := fun e => hne (by have := congrArg Addr.block e; simpa using this)
  have h : ∀ d : Nat, (Op.equalIn (d + 1) tp (ptr b) (ptr c)).run P w = .ok false w := fun d => by
    simp [Op.equalIn, run_underlying hp, sizeOf, typeInfo, hte, hsz, run_sameAddr_other w hn hb hc]
  exact h 9999

set_option maxRecDepth 100000 in
theorem ask_none (hp : P.underlying tp = some (.pointer te)) (hte : P.info? te = some j) (hsz : j.size ≠ 0) {b : Nat} (hb : CellsAt w b) :
    ∀ (l : List MapEntry) (i : Nat), (∀ e, e ∈ l → ∃ c, e.key = ptr c ∧ c ≠ b ∧ CellsAt w c) → (Instr.findAsking tp (ptr b) l i).run P w = .ok none w
  | [], i, _ => by simp [Instr.findAsking]
  | e :: l, i, h => by
    obtain ⟨c, hk, hne, hc⟩ := h e (List.mem_cons_self ..)
    have ih := ask_none hp hte hsz hb l (i + 1) (fun e he => h e (List.mem_cons_of_mem _ he))
    unfold Instr.findAsking
    rw [hk]
    simp [equal_other hp hte hsz (Ne.symm hne) hb hc, ih]

set_option maxRecDepth 100000 in
theorem ask_some (hp : P.underlying tp = some (.pointer te)) (hte : P.info? te = some j) (hsz : j.size ≠ 0) {b : Nat} (hb : CellsAt w b) :
    ∀ (l : List MapEntry) (e : MapEntry) (r : List MapEntry) (i : Nat), (∀ e, e ∈ l → ∃ c, e.key = ptr c ∧ c ≠ b ∧ CellsAt w c) → e.key = ptr b → (Instr.findAsking tp (ptr b) (l ++ e :: r) i).run P w = .ok (some (i + l.length, e.val)) w
  | [], e, r, i, _, hk => by
    unfold Instr.findAsking
    simp only [List.nil_append]
    rw [hk]
    simp [equal_same b hp hte]
  | e' :: l, e, r, i, h, hk => by
    obtain ⟨c, hk', hne, hc⟩ := h e' (List.mem_cons_self ..)
    have ih := ask_some hp hte hsz hb l e r (i + 1) (fun e he => h e (List.mem_cons_of_mem _ he)) hk
    rw [List.cons_append]
    unfold Instr.findAsking
    rw [hk']
    simp [equal_other hp hte hsz (Ne.symm hne) hb hc, ih]
    omega

set_option maxRecDepth 100000 in
theorem findKey_ask (hp : P.underlying tp = some (.pointer te)) (b : Nat) (l : List MapEntry) (hl : ∀ e, e ∈ l → ∃ c, e.key = ptr c) : (Instr.findKey tp (ptr b) l).run P w = (Instr.findAsking tp (ptr b) l 0).run P w := by
  cases l with
  | nil => simp [Instr.findKey, run_underlying hp, Instr.findNow, Instr.findAsking]
  | cons e l =>
    obtain ⟨c, hk⟩ := hl e (List.mem_cons_self ..)
    simp [Instr.findKey, run_underlying hp, Instr.findNow, hk, Instr.sameNow]

set_option maxRecDepth 100000 in
theorem checkKey_ptr (hp : P.underlying tp = some (.pointer te)) (em : Bool) (n b : Nat) : (Instr.checkKey em (n + 1) tp (ptr b)).run P w = .ok () w := by
  unfold Instr.checkKey
  simp [run_underlying hp]
end

/-- block mb is a map that leads from each of these blocks to its place -/
def PMap (w : World) (mb : Nat) (ks : List Nat) : Prop :=
  ∃ es clock, w.heap[mb]? = some (.map es clock) ∧ es.toList.length = ks.length ∧ ∀ i, i < ks.length → ∃ e, es.toList[i]? = some e ∧ e.key = ptr ks[i]! ∧ e.val = .int .i64 (i : Int)

set_option maxRecDepth 100000 in
theorem PMap.lt {w : World} {mb : Nat} {ks : List Nat} (h : PMap w mb ks) : mb < w.heap.size := by
  obtain ⟨es, clock, hb, _⟩ := h
  exact (Array.getElem?_eq_some_iff.1 hb).1
set_option maxRecDepth 100000 in
theorem PMap.of_block {w w' : World} {mb : Nat} {ks : List Nat} (h : PMap w mb ks) (e : w'.heap[mb]? = w.heap[mb]?) : PMap w' mb ks := by
  obtain ⟨es, clock, hb, r⟩ := h
  exact ⟨es, clock, e.trans hb, r⟩
set_option maxRecDepth 100000 in
theorem PMap.kept {p : Nat → Prop} {w w' : World} {mb : Nat} {ks : List Nat} (h : PMap w mb ks) (k : Kept p w w') (hn : ¬ p mb) : PMap w' mb ks := h.of_block (k.block mb h.lt hn)

section
variable {P : Program} {w : World} {tm tp te ti : TypeId} {j : TypeInfo}

set_option maxRecDepth 100000 in
theorem PMap.mem {ks : List Nat} {es : Array MapEntry} (hl : es.toList.length = ks.length) (hE : ∀ i, i < ks.length → ∃ e, es.toList[i]? = some e ∧ e.key = ptr ks[i]! ∧ e.val = .int .i64 (i : Int)) :
    ∀ e, e ∈ es.toList → ∃ c, e.key = ptr c ∧ c ∈ ks := fun e he => by
  obtain ⟨i, hi, hie⟩ := List.getElem_of_mem he
  obtain ⟨e', h1, h2, _⟩ := hE i (by omega)
  rw [List.getElem?_eq_getElem hi, hie] at h1
  simp at h1
  subst h1
  exact ⟨ks[i]!, h2, mem_at (by omega)⟩

set_option maxRecDepth 100000 in
theorem run_lookup_none {mb : Nat} {ks : List Nat} (h : PMap w mb ks) (hm : P.underlying tm = some (.map tp ti)) (hp : P.underlying tp = some (.pointer te)) (hte : P.info? te = some j) (hsz : j.size ≠ 0) (hz : (zeroValue ti).run P w = .ok (.int .i64 0) w)
    {b : Nat} (hb : CellsAt w b) (hks : ∀ c, c ∈ ks → CellsAt w c) (hn : b ∉ ks) :
    (Instr.lookup tm (.map (some mb)) (ptr b) true).run P w = .ok (.tuple #[.int .i64 0, .bool false]) w := by
  obtain ⟨es, clock, hmb, hl, hE⟩ := h
  have hmem := PMap.mem hl hE
  have h1 := findKey_ask (P := P) (w := w) hp b es.toList (fun e he => let ⟨c, hc, _⟩ := hmem e he; ⟨c, hc⟩)
  have h2 := ask_none (P := P) (w := w) hp hte hsz hb es.toList 0 (fun e he => let ⟨c, hc, hcm⟩ := hmem e he; ⟨c, hc, fun e => hn (e ▸ hcm), hks c hcm⟩)
  rw [h2] at h1
  simp [Instr.lookup, run_underlying hm, MapKept.run_getObj_map hmb, checkKey_ptr hp _ 9999, h1, hz]

set_option maxRecDepth 100000 in
theorem run_lookup_some {mb : Nat} {ks : List Nat} (h : PMap w mb ks) (hm : P.underlying tm = some (.map tp ti)) (hp : P.underlying tp = some (.pointer te)) (hte : P.info? te = some j) (hsz : j.size ≠ 0)
    {b : Nat} (hb : CellsAt w b) (hks : ∀ c, c ∈ ks → CellsAt w c) (hnd : ks.Nodup) (hn : b ∈ ks) :
    (Instr.lookup tm (.map (some mb)) (ptr b) true).run P w = .ok (.tuple #[.int .i64 (ks.idxOf b : Nat), .bool true]) w := by
  obtain ⟨es, clock, hmb, hl, hE⟩ := h
  have hmem := PMap.mem hl hE
  have h1 := findKey_ask (P := P) (w := w) hp b es.toList (fun e he => let ⟨c, hc, _⟩ := hmem e he; ⟨c, hc⟩)
  have hi : ks.idxOf b < ks.length := List.idxOf_lt_length_of_mem hn
  obtain ⟨e, he, hek, hev⟩ := hE _ hi
  rw [getElem!_pos ks _ hi, List.getElem_idxOf hi] at hek
  have hsp : es.toList = es.toList.take (ks.idxOf b) ++ e :: es.toList.drop (ks.idxOf b + 1) := by
    obtain ⟨hlt, e1⟩ := List.getElem?_eq_some_iff.1 he
    rw [← e1, List.getElem_cons_drop, List.take_append_drop]
  have hpre : ∀ e, e ∈ es.toList.take (ks.idxOf b) → ∃ c, e.key = ptr c ∧ c ≠ b ∧ CellsAt w c := fun e' he' => by
    obtain ⟨i, hi', hie⟩ := List.getElem_of_mem he'
    have hil : i < ks.idxOf b := by have := hi'; simp at this; omega
    obtain ⟨e2, h3, h4, _⟩ := hE i (by omega)
    rw [List.getElem_take] at hie
    rw [List.getElem?_eq_getElem (by omega), hie] at h3
    simp at h3
    subst h3
    have hik : i < ks.length := by omega
    refine ⟨ks[i]!, h4, fun e => ?_, hks _ (mem_at hik)⟩
    rw [getElem!_pos ks i hik] at e
    have h9 := hnd.idxOf_getElem i hik
    rw [e] at h9
    omega
  have h2 := ask_some (P := P) (w := w) hp hte hsz hb (es.toList.take (ks.idxOf b)) e (es.toList.drop (ks.idxOf b + 1)) 0 hpre hek
  rw [← hsp] at h2
  rw [h2] at h1
  simp [Instr.lookup, run_underlying hm, MapKept.run_getObj_map hmb, checkKey_ptr hp _ 9999, h1, hev]

set_option maxRecDepth 100000 in
/-- a store at a key that is not there -/
theorem run_update_new {mb : Nat} {ks : List Nat} (h : PMap w mb ks) (hm : P.underlying tm = some (.map tp ti)) (hp : P.underlying tp = some (.pointer te)) (hte : P.info? te = some j) (hsz : j.size ≠ 0)
    {b : Nat} (hb : CellsAt w b) (hks : ∀ c, c ∈ ks → CellsAt w c) (hn : b ∉ ks) :
    ∃ w', (Instr.mapUpdate tm (.map (some mb)) (ptr b) (.int .i64 (ks.length : Int))).run P w = .ok () w' ∧ PMap w' mb (ks ++ [b]) ∧ Kept (fun k => k = mb) w w' ∧ w'.heap.size = w.heap.size := by
  obtain ⟨es, clock, hmb, hl, hE⟩ := h
  have hmem := PMap.mem hl hE
  have h1 := findKey_ask (P := P) (w := w) hp b es.toList (fun e he => let ⟨c, hc, _⟩ := hmem e he; ⟨c, hc⟩)
  have h2 := ask_none (P := P) (w := w) hp hte hsz hb es.toList 0 (fun e he => let ⟨c, hc, hcm⟩ := hmem e he; ⟨c, hc, fun e => hn (e ▸ hcm), hks c hcm⟩)
  rw [h2] at h1
  have hlt : mb < w.heap.size := (Array.getElem?_eq_some_iff.1 hmb).1
  refine ⟨{ w with heap := w.heap.setIfInBounds mb (.map (es.push { key := ptr b, val := .int .i64 (ks.length : Int), born := clock }) (clock + 1)) }, ?_, ?_, ?_, by simp⟩
  · simp [Instr.mapUpdate, run_underlying hm, MapKept.run_getObj_map hmb, checkKey_ptr hp _ 9999, h1, MapKept.run_setObj_map _ hmb]
  · refine ⟨es.push { key := ptr b, val := .int .i64 (ks.length : Int), born := clock }, clock + 1, (by simp [hlt]), by simpa using hl, fun i hi => ?_⟩
    by_cases e : i < ks.length
    · obtain ⟨en, h3, h4, h5⟩ := hE i e
      refine ⟨en, ?_, ?_, h5⟩
      · rw [Array.toList_push, List.getElem?_append_left (by omega)]; exact h3
      · rw [h4, getElem!_pos ks i e, getElem!_pos (ks ++ [b]) i hi, List.getElem_append_left e]
    · have ei : i = ks.length := by simp at hi; omega
      subst ei
      refine ⟨_, by rw [Array.toList_push, List.getElem?_append_right (by omega), hl]; simp; rfl, ?_, rfl⟩
      rw [getElem!_pos (ks ++ [b]) _ hi]
      simp
  · refine ⟨rfl, rfl, rfl, by simp, fun k hk hn => ?_⟩
    simp [Ne.symm hn]
end

end Go.Proofs.Ythjddpkegooobab

/-
  SPECREN: the specification's renaming. Own work.
-/
namespace Go.Proofs.Ythjddpkegooobab
open Go.RowKit

set_option maxRecDepth 100000 in
theorem info_int : (Try.prog.info? 3).map (fun i => (i.zero, i.size, i.bytes)) = some (some (.int .i64 0), 1, 8) := by kernel_rfl

/-- what the specification's renaming leaves -/
def RenPost (base n wb : Nat) (ord : List Nat) (v : GV) (oa : Option Addr) (w : World) (e : Ending) (w' : World) : Prop :=
  ∃ oa' ocap', e = .returned (.tuple #[(renVal ord v).val, .slice oa' (renOrd ord v).length ocap']) ∧ w'.rowIs wb 3 n (fun i => .int .i64 (whereOf (renOrd ord v) i)) ∧
    w'.ownsRow base 3 1 (.slice oa' (renOrd ord v).length ocap') (renOrd ord v).length (ints (renOrd ord v)) ∧
    (oa' = oa ∨ ∃ g, oa' = some ⟨g, 0, none⟩ ∧ w.heap.size ≤ g) ∧ Kept (fun k => k = wb ∨ oa = some ⟨k, 0, none⟩) w w'

set_option maxRecDepth 100000 in
theorem l1renamed_not (base n : Nat) (ord : List Nat) (v : GV) (wb : Nat) (oa : Option Addr) (ocap : Nat) (w : World) (hk : v.kind ≠ 4)
    (hw : w.rowIs wb 3 n (fun i => .int .i64 (whereOf ord i))) (ho : w.ownsRow base 3 1 (.slice oa ord.length ocap) ord.length (ints ord)) :
    Calls Try.prog 164 #[v.val, .slice (some ⟨wb, 0, none⟩) n n, .slice oa ord.length ocap] w (RenPost base n wb ord v oa w) := by
  obtain ⟨e1, e2⟩ := ren_not (ord := ord) hk
  have hne : (v.kind != 4) = true := by simpa using hk
  go_enter Try.func164, Try.ntmps164
  go_wp2
  exact bodyPost_ret (v := .tuple #[v.val, .slice oa ord.length ocap]) (by simp [results, Try.results164, go_sem]) rfl
    ⟨oa, ocap, by rw [e1, e2], by rw [e1]; exact (hw.alloc _).alloc _, by rw [e1]; exact (ho.alloc _).alloc _, Or.inl rfl, Kept.of_below (gal (gal (gre _) _) _) _⟩

set_option maxRecDepth 100000 in
theorem l1renamed_old (base n : Nat) (ord : List Nat) (m : Int) (t : ByteArray) (x : Nat) (wb : Nat) (oa : Option Addr) (ocap : Nat) (w : World) (hx : x ∈ ord) (hxn : x < n) (_hn : n ≤ 300)
    (hw : w.rowIs wb 3 n (fun i => .int .i64 (whereOf ord i))) (ho : w.ownsRow base 3 1 (.slice oa ord.length ocap) ord.length (ints ord)) :
    Calls Try.prog 164 #[(GV.mk 4 m t x).val, .slice (some ⟨wb, 0, none⟩) n n, .slice oa ord.length ocap] w (RenPost base n wb ord ⟨4, m, t, x⟩ oa w) := by
  obtain ⟨e1, e2⟩ := ren_old (ord := ord) (v := ⟨4, m, t, x⟩) rfl hx
  have hc := hw.cell hxn
  rw [whereOf_pos hx] at hc
  have hwl := hw.lt
  have hxi : (0 : Int) ≤ (x : Int) := by omega
  have hxj : (x : Int) < (n : Int) := by omega
  have h0 : (0 : Int) ≤ (ord.idxOf x : Int) := by omega
  go_enter Try.func164, Try.ntmps164
  go_wp2
  exact bodyPost_ret (v := .tuple #[(GV.mk 4 m t (ord.idxOf x : Nat)).val, .slice oa ord.length ocap]) (by simp [results, Try.results164, go_sem]) rfl
    ⟨oa, ocap, by rw [e1, e2]; rfl, by rw [e1]; exact (hw.alloc _).alloc _, by rw [e1]; exact (ho.alloc _).alloc _, Or.inl rfl, Kept.of_below (gal (gal (gre _) _) _) _⟩

set_option maxRecDepth 100000 in
theorem l1renamed_new (base n : Nat) (ord : List Nat) (m : Int) (t : ByteArray) (x : Nat) (wb : Nat) (oa : Option Addr) (ocap : Nat) (w : World) (hx : x ∉ ord) (hxn : x < n) (_hn : n ≤ 300) (hol : ord.length ≤ 300)
    (hwb : wb < base) (hbase : base ≤ w.heap.size)
    (hw : w.rowIs wb 3 n (fun i => .int .i64 (whereOf ord i))) (ho : w.ownsRow base 3 1 (.slice oa ord.length ocap) ord.length (ints ord)) :
    Calls Try.prog 164 #[(GV.mk 4 m t x).val, .slice (some ⟨wb, 0, none⟩) n n, .slice oa ord.length ocap] w (RenPost base n wb ord ⟨4, m, t, x⟩ oa w) := by
  obtain ⟨e1, e2⟩ := ren_new (ord := ord) (v := ⟨4, m, t, x⟩) rfl hx
  obtain ⟨i0, hi, hz0, hz1, hz2⟩ := info_parts info_int
  have hc := hw.cell hxn
  rw [whereOf_neg hx] at hc
  have hwl := hw.lt
  have hfr := hw.frozen x
  have hxi : (0 : Int) ≤ (x : Int) := by omega
  have hxj : (x : Int) < (n : Int) := by omega
  have hn0 : some w.heap.size ≠ (Value.slice oa ord.length ocap).ownBlock := fun e => by have := (ho.lt _ e.symm).2; omega
  have hn1 : some (w.heap.size + 1) ≠ (Value.slice oa ord.length ocap).ownBlock := fun e => by have := (ho.lt _ e.symm).2; omega
  have hn2 : some wb ≠ (Value.slice oa ord.length ocap).ownBlock := fun e => by have := (ho.lt _ e.symm).1; omega
  go_enter Try.func164, Try.ntmps164
  go_wp2_with (at_builtin; refine wpList_append_lies _ rfl (.tmp 25) (.tmp 28) 194 rfl base 3 i0 (.int .i64 0) 1 8 Try.underlying194 hi hz0 hz1 hz2 rfl (by decide) _ _ _ rfl ((((ownsRow_setCell_below ho hwb _).alloc _).alloc _).alloc _) ⟨w.heap.size + 1 + 1, 0, none⟩ 1 1 [.int .i64 (x : Int)] rfl rfl (World.news_of_block (cs := #[.int .i64 (x : Int)]) (t := 3) (fr := (0, 0)) (blk_new_at _ _ _ (by simp))) (by simp [Value.oneCell']) (by decide) (by unfold maxLen; omega) (by omega) (by simp; omega) (w.heap.size + 1 + 1 + 1) (by simp) ?_; intro g cap w1 hown1 hgrow hat hlt; have hr1 := (Kept.of_grown hgrow).rowIs ((((hw.set x (.int .i64 (ord.length : Int))).alloc _).alloc _).alloc _) (fun e => hn2 e.symm); have q2 : w1.cell? ⟨wb, x, none⟩ = some (.int .i64 (ord.length : Int)) := (hr1.cell hxn).trans (by rw [if_pos rfl]); obtain ⟨z0, k0, k1, k2, k3, kf⟩ := (((Four.new_at (w.setCell ⟨wb, x, none⟩ (.int .i64 (ord.length : Int))) ⟨4, m, t, x⟩ _ w.heap.size (by simp)).alloc _).alloc _).kept (Kept.of_grown hgrow) (fun e => hn0 e.symm); obtain ⟨z1, l0, l1, l2, l3, lf⟩ := ((Four.new_at _ ⟨0, 0, .empty, 0⟩ _ (w.heap.size + 1) (by simp)).alloc _).kept (Kept.of_grown hgrow) (fun e => hn1 e.symm))
  have e1' : renOrd ord ⟨4, m, t, x⟩ = ord ++ [x] := by simpa using e1
  have hl1 : (ord ++ [x]).length = ord.length + 1 := by simp
  have hK : Kept (fun k => k = wb ∨ oa = some ⟨k, 0, none⟩) w w1 :=
    ((((Kept.refl _ w).set (fun _ => Or.inl rfl) _).alloc _).alloc _).alloc _ |>.trans (Kept.of_grown hgrow) (fun k _ hq => Or.inr (owns_addr ho hq))
  have hg : w.heap.size ≠ g ∧ w.heap.size + 1 ≠ g ∧ (some ⟨g, 0, none⟩ = oa ∨ w.heap.size ≤ g) := by
    rcases hat with h | h
    · have h1 := ho.lt g h
      have h2 := owns_addr ho h
      exact ⟨by omega, by omega, Or.inl h2.symm⟩
    · exact ⟨by omega, by omega, Or.inr (by omega)⟩
  have hQ : Kept (fun k => k = w.heap.size ∨ k = w.heap.size + 1) w1 (((((w1.setCell ⟨w.heap.size, 3, none⟩ (.int .i64 (ord.length : Int))).setCell ⟨w.heap.size + 1, 0, none⟩ (.int .i64 4)).setCell ⟨w.heap.size + 1, 1, none⟩ (.int .i64 m)).setCell ⟨w.heap.size + 1, 2, none⟩ (.string t)).setCell ⟨w.heap.size + 1, 3, none⟩ (.int .i64 (ord.length : Int))) :=
    (((((Kept.refl _ w1).set (fun _ => Or.inl rfl) _).set (fun _ => Or.inr rfl) _).set (fun _ => Or.inr rfl) _).set (fun _ => Or.inr rfl) _).set (fun _ => Or.inr rfl) _
  refine bodyPost_ret (v := .tuple #[(GV.mk 4 m t (ord.length : Nat)).val, .slice (some ⟨g, 0, none⟩) (ord.length + 1) cap]) (by simp [results, Try.results164, go_sem, l0, l1, l2, l3]) rfl
    ⟨some ⟨g, 0, none⟩, cap, by rw [e1', e2, hl1], ?_, ?_, hg.2.2.elim (fun h => Or.inl h) (fun h => Or.inr ⟨g, rfl, h⟩), hK.trans hQ (fun k hk hq => by omega)⟩
  · rw [e1']
    exact (hQ.rowIs hr1 (by omega)).congr fun j _ => by rw [whereOf_snoc hx]; split <;> rfl
  · rw [e1', hl1]
    have h3 := hQ.owns hown1 (fun k hk => by simp [Value.ownBlock] at hk; omega)
    simpa [ints] using h3

end Go.Proofs.Ythjddpkegooobab

/-
  SPECREN2: the specification's renaming, of whatever value that is well made. Own work.
-/
namespace Go.Proofs.Ythjddpkegooobab
open Go.RowKit

theorem l1renamed_any (base n : Nat) (ord : List Nat) (v : GV) (wb : Nat) (oa : Option Addr) (ocap : Nat) (w : World) (hv : okV n v = true) (hinv : InvO n ord) (hn : n ≤ 300) (hwb : wb < base) (hbase : base ≤ w.heap.size)
    (hw : w.rowIs wb 3 n (fun i => .int .i64 (whereOf ord i))) (ho : w.ownsRow base 3 1 (.slice oa ord.length ocap) ord.length (ints ord)) :
    Calls Try.prog 164 #[v.val, .slice (some ⟨wb, 0, none⟩) n n, .slice oa ord.length ocap] w (RenPost base n wb ord v oa w) := by
  by_cases hk : v.kind = 4
  · have hb := okV_node hv hk
    obtain ⟨k, m, t, x⟩ := v
    obtain rfl : k = 4 := hk
    obtain ⟨y, rfl⟩ := Int.eq_ofNat_of_zero_le hb.1
    have hy : y < n := by have := hb.2; simpa using this
    by_cases hm : y ∈ ord
    · exact l1renamed_old base n ord m t y wb oa ocap w hm hy hn hw ho
    · exact l1renamed_new base n ord m t y wb oa ocap w hm hy hn (Nat.le_trans hinv.le hn) hwb hbase hw ho
  · exact l1renamed_not base n ord v wb oa ocap w hk hw ho

end Go.Proofs.Ythjddpkegooobab

/-
  OK3: graphs that are well made: the program's word. Own work.
-/
namespace Go.Proofs.Ythjddpkegooobab
open Go.RowKit

set_option maxRecDepth 100000 in
theorem okG_long {g : GG} (h : 300 < g.nodes.length) : okG g = false := by
  unfold okG; rw [decide_eq_false (by omega)]; rfl
theorem okG_root {g : GG} (h : okV g.nodes.length g.root = false) : okG g = false := by
  unfold okG; rw [h, Bool.and_false]; rfl
set_option maxRecDepth 100000 in
theorem okG_nodes {g : GG} (h : g.nodes.length ≤ 300) (hr : okV g.nodes.length g.root = true) : okG g = g.nodes.all (okN g.nodes.length) := by
  unfold okG; rw [decide_eq_true h, hr]; rfl

set_option maxRecDepth 100000 in
theorem implGraphOk_any (a : Option Addr) (cap : Nat) (g : GG) (w : World) (hg : g.Ok) (ha : NodesAt w.heap.size w a g.nodes) :
    Calls Try.prog 74 #[g.val a cap] w fun e w' => e = .returned (.bool (okG g)) ∧ Below w.heap.size w w' := by
  by_cases hlen : 300 < g.nodes.length
  · have hk : Hid _ := okG_long hlen
    go_enter Try.func74, Try.ntmps74
    go_wp2
    go_ret
    exact ⟨ret_bool hk.out.symm, gal (gre _) _⟩
  · have t0 : decide (300 < (g.nodes.length : Int)) = false := decide_eq_false (by omega)
    cases hr : okV g.nodes.length g.root with
    | false =>
      have hk : Hid _ := okG_root hr
      go_enter Try.func74, Try.ntmps74
      go_wp2_with (go_at_call 133; refine (implVal_any g.nodes.length g.root _).mono ?_; rintro e w' ⟨rfl, hb'⟩)
      go_ret
      exact ⟨ret_bool hk.out.symm, gca (gal (gre _) _) hb'⟩
    | true =>
      have hk : Hid _ := okG_nodes (by omega) hr
      go_enter Try.func74, Try.ntmps74
      go_wp2_with (go_at_call 133; refine (implVal_any g.nodes.length g.root _).mono ?_; rintro e w' ⟨rfl, hb'⟩; obtain ⟨hc, hf⟩ := bcell hb')
      have hz : w.heap.size < w'.heap.size := by have := hb'.size; simp at this; omega
      have hbx : w'.cell? ⟨w.heap.size, 4, none⟩ = some (.slice a g.nodes.length cap) := by rw [hc _ _ (by simp)]; simp
      have hB : Below w.heap.size w w' := gca (gal (gre _) _) hb'
      clear hc hf hb'
      go_loopw [21] (fun i wr => ∃ k : Nat, k ≤ g.nodes.length ∧ i = .int .i64 k ∧ (g.nodes.take k).all (okN g.nodes.length) = true ∧ w'.heap.size ≤ wr.heap.size ∧ wr.cell? ⟨w.heap.size, 4, none⟩ = some (.slice a g.nodes.length cap) ∧ Below w.heap.size w wr) (fun i _ => g.nodes.length - (intOf i).toNat)
      case atStart => exact ⟨0, Nat.zero_le _, rfl, by simp, Nat.le_refl _, hbx, hB⟩
      case round =>
        clear hbx hB
        obtain ⟨k, hk', rfl, hall, hsz, hbx, hb⟩ := hrel
        have hz' : w.heap.size < wr.heap.size := by omega
        by_cases hlt : k < g.nodes.length
        · obtain ⟨n, b, off, av, cv, hvk, hvm, rfl, hbs, hva⟩ := ha.get hlt
          have hva := hva.below hb hbs
          have c0 := hva.tag
          have c1 := hva.sl
          have hv1 : ValsAt wr.heap.size wr av n.vals := hva.vals.mono hb.size
          have hall' : Hid _ := hall
          clear hall
          cases hr2 : okN g.nodes.length n with
          | false =>
            have hf : Hid (g.nodes.all (okN g.nodes.length) = false) := all_false_at hlt (by rw [← hvk.out]; exact hr2)
            go_wp2_with (go_at_call 134; refine (implNode_any g.nodes.length n av cv _ (hg.nodes n hvm).len (hv1.grow (gal (gre _) _))).mono ?_; rintro e w'' ⟨rfl, hb''⟩)
            go_ret
            exact ⟨ret_bool (by rw [hk.out, hf.out]), gca (gal hb _) hb''⟩
          | true =>
            have hf : Hid ((g.nodes.take (k + 1)).all (okN g.nodes.length) = true) := all_take_succ hlt hall'.out (by rw [← hvk.out]; exact hr2)
            go_wp2_with (go_at_call 134; refine (implNode_any g.nodes.length n av cv _ (hg.nodes n hvm).len (hv1.grow (gal (gre _) _))).mono ?_; rintro e w'' ⟨rfl, hb''⟩)
            go_roundw
            case rel =>
              have hG : Below wr.heap.size wr w'' := gca (gal (gre _) _) hb''
              exact ⟨k + 1, by omega, by go_num, hf.out, Nat.le_trans hsz hG.size, cell_later hG hbx, gca (gal hb _) hb''⟩
            case measure => simp [intOf]; omega
        · have e : k = g.nodes.length := by omega
          have hall' : Hid (g.nodes.all (okN g.nodes.length) = true) := by rw [e, List.take_length] at hall; exact hall
          clear hall
          go_wp2
          go_ret
          exact ⟨ret_bool (by rw [hk.out, hall'.out]), hb⟩

end Go.Proofs.Ythjddpkegooobab
