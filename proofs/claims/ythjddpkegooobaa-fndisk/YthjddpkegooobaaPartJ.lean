import Derived.Lib.AppendStr
import Derived.Laws.BitsAllLaws
import Derived.LaidEqlPtr
import Derived.MapKept
import Derived.Test.YthjddpkegooobaaPartI

/-
  IMGPLAIN: images as lists of numbers. Own work.
-/
namespace Go.Proofs.Ythjddpkegooobaa

/-- a number in groups of seven bits -/
def numB (n : Nat) : List Nat := if n < 128 then [n] else (n % 128 + 128) :: numB (n / 128)
termination_by n
decreasing_by omega

/-- so many bytes of a number, the lowest first -/
def lowB : Nat → Nat → List Nat
  | 0, _ => []
  | k + 1, n => n % 256 :: lowB k (n / 256)

/-- a number with a sign as one without -/
def zig (n : Int) : Nat := if n < 0 then (-2 * n - 1).toNat else (2 * n).toNat
/-- 64 bits of a number -/
def u64n (n : Int) : Nat := (n % 18446744073709551616).toNat
/-- a text's bytes -/
def bsOf (s : ByteArray) : List Nat := s.data.toList.map UInt8.toNat

def valB (v : GV) : List Nat :=
  v.kind.toNat :: (if v.kind = 1 then numB (zig v.num) else if v.kind = 2 then lowB 8 (u64n v.num) else if v.kind = 3 then numB v.text.size ++ bsOf v.text else if v.kind = 4 then numB v.node.toNat else [])
def valsB : List GV → List Nat
  | [] => []
  | v :: r => valB v ++ valsB r
def nodeB (n : GN) : List Nat := numB n.tag.toNat ++ (numB n.vals.length ++ valsB n.vals)
def nodesB : List GN → List Nat
  | [] => []
  | n :: r => nodeB n ++ nodesB r
def graphB (g : GG) : List Nat := [72, 49] ++ (numB g.nodes.length ++ (valB g.root ++ nodesB g.nodes))

/-- one byte more into a sum -/
def sumStep (h x : Nat) : Nat := (h ^^^ x) * 1099511628211 % 18446744073709551616
def sumN (b : List Nat) : Nat := b.foldl sumStep 14695981039346656037

/-- the image of a graph in its one form -/
def formB (c : GG) : List Nat := graphB c ++ lowB 8 (sumN (graphB c))
def imageB (g : GG) : List Nat := formB (canon g)
/-- what Pack answers -/
def packB (g : GG) : List Nat := if okG g = true ∧ (imageB g).length ≤ 4096 then imageB g else []

theorem numB_small {n : Nat} (h : n < 128) : numB n = [n] := by rw [numB, if_pos h]
theorem numB_great {n : Nat} (h : ¬ n < 128) : numB n = (n % 128 + 128) :: numB (n / 128) := by rw [numB, if_neg h]

theorem valsB_append (a b : List GV) : valsB (a ++ b) = valsB a ++ valsB b := by
  induction a with
  | nil => rfl
  | cons v r ih => simp [valsB, ih]
theorem nodesB_append (a b : List GN) : nodesB (a ++ b) = nodesB a ++ nodesB b := by
  induction a with
  | nil => rfl
  | cons v r ih => simp [nodesB, ih]
theorem valsB_take_succ (l : List GV) (k : Nat) (h : k < l.length) : valsB (l.take (k + 1)) = valsB (l.take k) ++ valB l[k]! := by
  rw [take_snoc l k h, valsB_append]; simp [valsB]
theorem nodesB_take_succ (l : List GN) (k : Nat) (h : k < l.length) : nodesB (l.take (k + 1)) = nodesB (l.take k) ++ nodeB l[k]! := by
  rw [take_snoc l k h, nodesB_append]; simp [nodesB]
theorem valsB_take_le (l : List GV) (k : Nat) : (valsB (l.take k)).length ≤ (valsB l).length := by
  have h : valsB l = valsB (l.take k) ++ valsB (l.drop k) := by rw [← valsB_append, List.take_append_drop]
  rw [h, List.length_append]; omega
theorem nodesB_take_le (l : List GN) (k : Nat) : (nodesB (l.take k)).length ≤ (nodesB l).length := by
  have h : nodesB l = nodesB (l.take k) ++ nodesB (l.drop k) := by rw [← nodesB_append, List.take_append_drop]
  rw [h, List.length_append]; omega

theorem lowB_length : ∀ k n, (lowB k n).length = k
  | 0, _ => rfl
  | k + 1, n => by simp [lowB, lowB_length k]
theorem lowB_byte : ∀ (k n x : Nat), x ∈ lowB k n → x < 256
  | 0, _, _, h => by cases h
  | k + 1, n, x, h => by
    rcases List.mem_cons.1 h with h | h
    · omega
    · exact lowB_byte k _ x h
theorem lowB_get : ∀ (k n i : Nat), i < k → (lowB k n)[i]! = n / 256 ^ i % 256
  | 0, _, _, h => absurd h (Nat.not_lt_zero _)
  | k + 1, n, 0, _ => by simp [lowB]
  | k + 1, n, i + 1, h => by
    have h1 := lowB_get k (n / 256) i (by omega)
    show (lowB k (n / 256))[i]! = _
    rw [h1, Nat.div_div_eq_div_mul, Nat.pow_succ', Nat.mul_comm]
theorem lowB_snoc : ∀ (k n : Nat), lowB (k + 1) n = lowB k n ++ [n / 256 ^ k % 256]
  | 0, n => by simp [lowB]
  | k + 1, n => by
    have h1 := lowB_snoc k (n / 256)
    show n % 256 :: lowB (k + 1) (n / 256) = n % 256 :: (lowB k (n / 256) ++ _)
    rw [h1, Nat.div_div_eq_div_mul, Nat.pow_succ', Nat.mul_comm]

theorem numB_byte (n x : Nat) (h : x ∈ numB n) : x < 256 := by
  induction n using Nat.strongRecOn with
  | _ n ih =>
    by_cases hn : n < 128
    · rw [numB_small hn] at h
      have := List.mem_singleton.1 h
      omega
    · rw [numB_great hn] at h
      rcases List.mem_cons.1 h with h | h
      · omega
      · exact ih (n / 128) (by omega) h
theorem bsOf_byte {s : ByteArray} {x : Nat} (h : x ∈ bsOf s) : x < 256 := by
  obtain ⟨y, _, rfl⟩ := List.mem_map.1 h
  exact y.toNat_lt
theorem bsOf_length (s : ByteArray) : (bsOf s).length = s.size := by unfold bsOf; rw [List.length_map, Array.length_toList]; rfl

theorem sumStep_lt (h x : Nat) : sumStep h x < 18446744073709551616 := Nat.mod_lt _ (by omega)
theorem sumN_snoc (b : List Nat) (x : Nat) : sumN (b ++ [x]) = sumStep (sumN b) x := by unfold sumN; rw [List.foldl_append, List.foldl_cons, List.foldl_nil]
theorem sumN_lt (b : List Nat) : sumN b < 18446744073709551616 := by
  rcases List.eq_nil_or_concat b with rfl | ⟨l, x, rfl⟩
  · unfold sumN; rw [List.foldl_nil]; omega
  · rw [List.concat_eq_append, sumN_snoc]; exact sumStep_lt _ _
theorem sumN_take_succ (l : List Nat) (k : Nat) (h : k < l.length) : sumN (l.take (k + 1)) = sumStep (sumN (l.take k)) l[k]! := by
  rw [take_snoc l k h, sumN_snoc]

theorem u64n_nat {n : Nat} (h : n < 18446744073709551616) : u64n (n : Int) = n := by unfold u64n; omega
theorem zig_lt {n : Int} (h : I64 n) : zig n < 18446744073709551616 := by unfold zig; unfold I64 at h; split <;> omega
theorem u64n_lt (n : Int) : u64n n < 18446744073709551616 := by unfold u64n; omega

end Go.Proofs.Ythjddpkegooobaa

/-
  OB: bytes that are appended to. Own work.
-/
namespace Go.Proofs.Ythjddpkegooobaa
open Go.RowKit

/-- bytes of one's own, since a world -/
structure Ob (w0 : World) (base : Nat) (oa0 : Option Addr) (w : World) (oa : Option Addr) (cap : Nat) (zs : List Nat) : Prop where
  own : w.ownsRow base 5 1 (.slice oa zs.length cap) zs.length (bcells zs)
  loc : ∀ k, k < w0.heap.size → oa = some ⟨k, 0, none⟩ → oa0 = some ⟨k, 0, none⟩
  kept : Kept (fun k => oa0 = some ⟨k, 0, none⟩) w0 w

set_option maxRecDepth 100000 in
theorem Ob.start {base : Nat} {w : World} {oa : Option Addr} {cap : Nat} {zs : List Nat} (h : w.ownsRow base 5 1 (.slice oa zs.length cap) zs.length (bcells zs)) : Ob w base oa w oa cap zs := ⟨h, fun _ _ e => e, Kept.refl _ _⟩
theorem Ob.lt {w0 w : World} {base : Nat} {oa0 oa : Option Addr} {cap : Nat} {zs : List Nat} (h : Ob w0 base oa0 w oa cap zs) {k : Nat} (e : oa = some ⟨k, 0, none⟩) : base ≤ k ∧ k < w.heap.size := h.own.lt k (by rw [e]; rfl)
theorem Ob.grow {w0 w w' : World} {base : Nat} {oa0 oa : Option Addr} {cap : Nat} {zs : List Nat} (h : Ob w0 base oa0 w oa cap zs) (hb : Below w.heap.size w w') : Ob w0 base oa0 w' oa cap zs :=
  ⟨(Kept.of_below hb (fun _ => False)).owns h.own (fun _ _ e => e), h.loc, h.kept.trans (Kept.of_below hb _) (fun _ _ e => e)⟩
set_option maxRecDepth 100000 in
theorem Ob.call {w0 w w1 : World} {base : Nat} {oa0 oa oa1 : Option Addr} {cap cap1 : Nat} {zs ys : List Nat} (h : Ob w0 base oa0 w oa cap zs) (k : Ob w base oa w1 oa1 cap1 ys) : Ob w0 base oa0 w1 oa1 cap1 ys :=
  ⟨k.own, fun b hb e => h.loc b hb (k.loc b (Nat.lt_of_lt_of_le hb h.kept.size) e), h.kept.trans k.kept (fun b hb e => h.loc b hb e)⟩
theorem Ob.push {w0 w wa w1 : World} {base : Nat} {oa0 oa : Option Addr} {cap cap1 g : Nat} {zs ys : List Nat} (h : Ob w0 base oa0 w oa cap zs) (hb : Below w.heap.size w wa)
    (hown : w1.ownsRow base 5 1 (.slice (some ⟨g, 0, none⟩) (zs.length + ys.length) cap1) (zs.length + ys.length) (bcells zs ++ bcells ys)) (hgrow : wa.grownBy w1 (Value.slice oa zs.length cap).ownBlock)
    (hat : (Value.slice oa zs.length cap).ownBlock = some g ∨ w.heap.size ≤ g) : Ob w0 base oa0 w1 (some ⟨g, 0, none⟩) cap1 (zs ++ ys) := by
  refine ⟨?_, fun k hk e => ?_, ?_⟩
  · rw [List.length_append, show bcells (zs ++ ys) = bcells zs ++ bcells ys by simp [bcells]]; exact hown
  · have e2 := some_addr e
    subst e2
    rcases hat with hg | hg
    · exact h.loc g hk (owns_addr h.own hg)
    · have := h.kept.size; omega
  · exact (h.kept.trans (Kept.of_below hb _) (fun _ _ e => e)).trans (Kept.of_grown hgrow) (fun k hk e => h.loc k hk (owns_addr h.own e))

/-- what a call leaves that appends so much -/
def APost (base : Nat) (oa : Option Addr) (xs ys : List Nat) (w : World) (e : Ending) (w' : World) : Prop :=
  ∃ oa' cap', e = .returned (.slice oa' (xs ++ ys).length cap') ∧ Ob w base oa w' oa' cap' (xs ++ ys)

set_option maxRecDepth 100000 in
theorem numB_len : ∀ (f n : Nat), n < 128 ^ f → 0 < f → (numB n).length ≤ f
  | 0, _, _, h => absurd h (Nat.lt_irrefl _)
  | f + 1, n, hn, _ => by
    by_cases h : n < 128
    · rw [numB_small h]; simp
    · rw [numB_great h]
      have hf : 0 < f := by
        rcases Nat.eq_zero_or_pos f with rfl | h2
        · simp at hn; omega
        · exact h2
      have := numB_len f (n / 128) (by rw [Nat.div_lt_iff_lt_mul (by omega)]; rw [Nat.pow_succ] at hn; exact hn) hf
      simp only [List.length_cons]
      omega
set_option maxRecDepth 100000 in
theorem numB_ten {n : Nat} (h : n < 18446744073709551616) : (numB n).length ≤ 10 := numB_len 10 n (Nat.lt_of_lt_of_le h (by decide)) (by omega)

theorem and_or128 (m : Nat) (hm : m < 18446744073709551616) : IntKind.u8.wrap (bits .or .u64 (bits .and .u64 (m : Int) 127) 128) = ((m % 128 + 128 : Nat) : Int) := by
  have e1 : bits .and .u64 (m : Int) 127 = ((m % 128 : Nat) : Int) := by
    rw [u64_and _ _ (by omega) (by omega) (by omega) (by omega)]
    have h1 : (127 : Int).toNat = 127 := rfl
    rw [h1, Int.toNat_natCast, nat_mask7]
  have e2 : bits .or .u64 ((m % 128 : Nat) : Int) 128 = ((m % 128 + 128 : Nat) : Int) := by
    rw [u64_or _ _ (by omega) (by omega) (by omega) (by omega)]
    have h1 : (128 : Int).toNat = 128 := rfl
    rw [h1, Int.toNat_natCast, Nat.or_comm, nat_join 7 128 (m % 128) (by decide) (by omega)]
    omega
  rw [e1, e2, IntKind.wrap_u8']
  omega

set_option maxRecDepth 100000 in
theorem l2num_any (base : Nat) (oa : Option Addr) (len cap : Nat) (xs : List Nat) (n : Nat) (z : Int) (w : World) (hlen : len = xs.length) (hz : z = (n : Int)) (hn : n < 18446744073709551616) (hbase : base ≤ w.heap.size) (hl : xs.length ≤ 1099511627776)
    (hO : w.ownsRow base 5 1 (.slice oa xs.length cap) xs.length (bcells xs)) :
    Calls Try.prog 127 #[.slice oa len cap, .int .u64 z] w (APost base oa xs (numB n) w) := by
  subst hz hlen
  obtain ⟨i0, hi, hz0, hz1, hz2⟩ := info_parts info_u8
  have hten := numB_ten hn
  go_enter Try.func127, Try.ntmps127
  go_wp2
  go_loopw [0, 1] (fun o i ws => ∃ (m : Nat) (ys zs : List Nat) (oa1 : Option Addr) (cap1 : Nat), o = .slice oa1 zs.length cap1 ∧ i = .int .u64 m ∧ Hid (zs = xs ++ ys) ∧ Hid (numB n = ys ++ numB m) ∧ m < 18446744073709551616 ∧ Ob w base oa ws oa1 cap1 zs) (fun _ i _ => (intOf i).toNat)
  case atStart => exact ⟨n, [], xs, oa, cap, rfl, rfl, (List.append_nil _).symm, rfl, hn, Ob.start hO⟩
  case round =>
    obtain ⟨m, ys, zs, oa1, cap1, rfl, rfl, hzs, hm, hm64, hOb⟩ := hrel
    have hyl : zs.length ≤ xs.length + 10 := by
      have h1 := congrArg List.length hm.out
      rw [hzs.out]
      simp only [List.length_append] at h1 ⊢
      omega
    have hsz := hOb.kept.size
    by_cases hlt : m < 128
    · have hd : ¬ ((127 : Int) < (m : Int)) := by omega
      have e2 : IntKind.u8.wrap (m : Int) = (m : Int) := by rw [IntKind.wrap_u8']; omega
      go_wp2_with (at_builtin; refine wpList_append_lies _ rfl (.tmp 16) (.tmp 19) 22 rfl base 5 i0 (.int .u8 0) 1 1 Try.underlying22 hi hz0 hz1 hz2 rfl (by decide) _ _ _ rfl (hOb.own.alloc _) ⟨wr.heap.size, 0, none⟩ 1 1 [.int .u8 (m : Int)] rfl rfl (World.news_of_block (cs := #[.int .u8 (m : Int)]) (t := 5) (fr := (0, 0)) (blk_new_at _ _ _ (by simp))) (by simp [Value.oneCell']) (by decide) (by unfold maxLen; omega) (by omega) (by simp; omega) (wr.heap.size + 1) (by simp) ?_; intro g cap2 w1 hown1 hgrow hat hlt2)
      go_ret
      have hP := hOb.push (ys := [m]) (gal (gre _) _) hown1 hgrow (hat.elim Or.inl (fun h => Or.inr (by omega)))
      have e3 : zs ++ [m] = xs ++ numB n := by rw [hm.out, hzs.out, numB_small hlt, List.append_assoc]
      rw [e3] at hP
      exact ⟨_, cap2, by rw [← e3]; simp, hP⟩
    · have hd : ((127 : Int) < (m : Int)) := by omega
      obtain ⟨x, hx⟩ : ∃ x, Hid (x = m % 128 + 128) := ⟨_, rfl⟩
      have e2 : IntKind.u8.wrap (bits .or .u64 (bits .and .u64 (m : Int) 127) 128) = (x : Int) := by rw [hx.out]; exact and_or128 m hm64
      go_wp2_with (at_builtin; refine wpList_append_lies _ rfl (.tmp 7) (.tmp 12) 22 rfl base 5 i0 (.int .u8 0) 1 1 Try.underlying22 hi hz0 hz1 hz2 rfl (by decide) _ _ _ rfl (hOb.own.alloc _) ⟨wr.heap.size, 0, none⟩ 1 1 [.int .u8 (x : Int)] rfl rfl (World.news_of_block (cs := #[.int .u8 (x : Int)]) (t := 5) (fr := (0, 0)) (blk_new_at _ _ _ (by simp))) (by simp [Value.oneCell']) (by decide) (by unfold maxLen; omega) (by omega) (by simp; omega) (wr.heap.size + 1) (by simp) ?_; intro g cap2 w1 hown1 hgrow hat hlt2)
      have hP := hOb.push (ys := [x]) (gal (gre _) _) hown1 hgrow (hat.elim Or.inl (fun h => Or.inr (by omega)))
      go_roundw
      case rel =>
        refine ⟨m / 128, ys ++ [x], zs ++ [x], _, _, by simp, by go_num, by show _ = _; rw [hzs.out, List.append_assoc], ?_, by omega, hP⟩
        show _ = _
        rw [hm.out, numB_great hlt, hx.out]; simp
      case measure => simp [intOf]; omega

end Go.Proofs.Ythjddpkegooobaa

/-
  ROWS3: values and nodes in rows that grow. Own work.
-/
namespace Go.Proofs.Ythjddpkegooobaa
open Go.RowKit

theorem flatMap_get {α β : Type} [Inhabited α] {f : α → List β} {c : Nat} (hf : ∀ x, (f x).length = c) : ∀ (l : List α) (i j : Nat), i < l.length → j < c → (l.flatMap f)[i * c + j]? = (f l[i]!)[j]?
  | [], _, _, hi, _ => absurd hi (Nat.not_lt_zero _)
  | x :: r, 0, j, _, hj => by
    rw [List.flatMap_cons, Nat.zero_mul, Nat.zero_add, List.getElem?_append_left (by rw [hf]; exact hj)]
    rfl
  | x :: r, i + 1, j, hi, hj => by
    have hlt : i < r.length := by simpa using hi
    have ih := flatMap_get hf r i j hlt hj
    rw [List.flatMap_cons, List.getElem?_append_right (by rw [hf, Nat.add_mul]; omega), hf, show (i + 1) * c + j - c = i * c + j by rw [Nat.add_mul]; omega, ih]
    rw [getElem!_pos r i hlt, getElem!_pos (x :: r) (i + 1) hi]
    rfl

def GV.four (v : GV) : List Value := [.int .i64 v.kind, .int .i64 v.num, .string v.text, .int .i64 v.node]
theorem GV.four_length (v : GV) : v.four.length = 4 := rfl
def valCells (vs : List GV) : List Value := vs.flatMap GV.four
theorem valCells_snoc (vs : List GV) (v : GV) : valCells (vs ++ [v]) = valCells vs ++ [.int .i64 v.kind, .int .i64 v.num, .string v.text, .int .i64 v.node] := by
  simp [valCells, GV.four]

theorem owns_vals {w : World} {base t n len cap : Nat} {a : Option Addr} {vs : List GV} (ho : w.ownsRow base t 4 (.slice a len cap) n (valCells vs)) {B : Nat} (hB : w.heap.size ≤ B) : ValsAt B w a vs := fun i hi => by
  have hg : ∀ j, j < 4 → (valCells vs)[i * 4 + j]? = (vs[i]!.four)[j]? := fun j hj => flatMap_get GV.four_length vs i j hi hj
  obtain ⟨g, ha, hb, hlt, c0⟩ := owns_cell ho (hg 0 (by decide))
  obtain ⟨g1, ha1, _, _, c1⟩ := owns_cell ho (hg 1 (by decide))
  obtain ⟨g2, ha2, _, _, c2⟩ := owns_cell ho (hg 2 (by decide))
  obtain ⟨g3, ha3, _, _, c3⟩ := owns_cell ho (hg 3 (by decide))
  rw [ha] at ha1 ha2 ha3
  simp at ha1 ha2 ha3
  subst ha1 ha2 ha3
  exact ⟨g, 0, ha, by omega, ⟨by rw [Nat.zero_add]; exact c0, by rw [Nat.zero_add]; exact c1, by rw [Nat.zero_add]; exact c2, by rw [Nat.zero_add]; exact c3⟩⟩

/-- a node, and where its values lie -/
structure NL where
  n : GN
  a : Option Addr
  cap : Nat
  deriving Inhabited
def NL.two (x : NL) : List Value := [.int .i64 x.n.tag, .slice x.a x.n.vals.length x.cap]
theorem NL.two_length (x : NL) : x.two.length = 2 := rfl
def nodeCells (l : List NL) : List Value := l.flatMap NL.two
theorem nodeCells_snoc (l : List NL) (x : NL) : nodeCells (l ++ [x]) = nodeCells l ++ [.int .i64 x.n.tag, .slice x.a x.n.vals.length x.cap] := by
  simp [nodeCells, NL.two]

theorem owns_nodes {w : World} {base t n len cap : Nat} {a : Option Addr} {l : List NL} (ho : w.ownsRow base t 2 (.slice a len cap) n (nodeCells l)) (hv : ∀ x, x ∈ l → ValsAt w.heap.size w x.a x.n.vals) : NodesAt w.heap.size w a (l.map (·.n)) := fun i hi => by
  have hi' : i < l.length := by simpa using hi
  have e : (l.map (·.n))[i]! = (l[i]!).n := by rw [getElem!_pos _ i hi, getElem!_pos l i hi']; simp
  have hg : ∀ j, j < 2 → (nodeCells l)[i * 2 + j]? = (l[i]!.two)[j]? := fun j hj => flatMap_get NL.two_length l i j hi' hj
  obtain ⟨g, ha, hb, hlt, c0⟩ := owns_cell ho (hg 0 (by decide))
  obtain ⟨g1, ha1, _, _, c1⟩ := owns_cell ho (hg 1 (by decide))
  rw [ha] at ha1
  simp at ha1
  subst ha1
  rw [e]
  exact ⟨g, 0, l[i]!.a, l[i]!.cap, ha, hlt, ⟨by rw [Nat.zero_add]; exact c0, by rw [Nat.zero_add]; exact c1, hv _ (mem_at hi')⟩⟩

/-- a node's own variable -/
structure Two (w : World) (b : Nat) (t : Int) (s : Value) : Prop where
  lt : b < w.heap.size
  c0 : w.cell? ⟨b, 0, none⟩ = some (.int .i64 t)
  c1 : w.cell? ⟨b, 1, none⟩ = some s
  f : ∀ o, w.frozen? ⟨b, o, none⟩ = false
  z : ∃ c ty, w.heap[b]? = some (.cells c ty (0, 0))
theorem Two.same {w w' : World} {b : Nat} {t : Int} {s : Value} (h : Two w b t s) (e : w'.heap[b]? = w.heap[b]?) (hlt : b < w'.heap.size) : Two w' b t s :=
  ⟨hlt, (World.cell?_of_block (w := w) e).trans h.c0, (World.cell?_of_block (w := w) e).trans h.c1, fun o => (World.frozen?_of_block (w := w) e).trans (h.f o), let ⟨c, ty, hc⟩ := h.z; ⟨c, ty, e.trans hc⟩⟩
theorem Two.kept {p : Nat → Prop} {w w' : World} {b : Nat} {t : Int} {s : Value} (h : Two w b t s) (k : Kept p w w') (hn : ¬ p b) : Two w' b t s := h.same (k.block b h.lt hn) (Nat.lt_of_lt_of_le h.lt k.size)
theorem Two.new_at (w : World) (t : Int) (s : Value) (ty : TypeId) (b : Nat) (hb : b = w.heap.size) : Two (w.alloc (.cells #[.int .i64 t, s] ty)) b t s := by
  subst hb; exact ⟨by simp, by simp, by simp, fun o => by simp, _, _, blk_new_at _ _ _ rfl⟩
theorem Two.set {w : World} {b : Nat} {t : Int} {s s' : Value} (h : Two w b t s) : Two (w.setCell ⟨b, 1, none⟩ s') b t s' := by
  refine ⟨by have := h.lt; simpa [World.setCell] using this, ?_, ?_, fun o => ?_, ?_⟩
  · rw [World.cell?_setCell_other _ _ _ _ (by simp)]; exact h.c0
  · exact World.cell?_setCell_same _ _ _ h.c1
  · rw [World.frozen?_setCell]; exact h.f o
  · obtain ⟨c, ty, hc⟩ := h.z
    exact ⟨c.setIfInBounds 1 s', ty, by simp [World.setCell, Array.getElem?_modify, hc]⟩

/-- a graph's own variable, written -/
structure Five (w : World) (b : Nat) (v : GV) (s : Value) : Prop where
  lt : b < w.heap.size
  c0 : w.cell? ⟨b, 0, none⟩ = some (.int .i64 v.kind)
  c1 : w.cell? ⟨b, 1, none⟩ = some (.int .i64 v.num)
  c2 : w.cell? ⟨b, 2, none⟩ = some (.string v.text)
  c3 : w.cell? ⟨b, 3, none⟩ = some (.int .i64 v.node)
  c4 : w.cell? ⟨b, 4, none⟩ = some s
  f : ∀ o, w.frozen? ⟨b, o, none⟩ = false
theorem Five.same {w w' : World} {b : Nat} {v : GV} {s : Value} (h : Five w b v s) (e : w'.heap[b]? = w.heap[b]?) (hlt : b < w'.heap.size) : Five w' b v s :=
  ⟨hlt, (World.cell?_of_block (w := w) e).trans h.c0, (World.cell?_of_block (w := w) e).trans h.c1, (World.cell?_of_block (w := w) e).trans h.c2, (World.cell?_of_block (w := w) e).trans h.c3, (World.cell?_of_block (w := w) e).trans h.c4, fun o => (World.frozen?_of_block (w := w) e).trans (h.f o)⟩
theorem Five.kept {p : Nat → Prop} {w w' : World} {b : Nat} {v : GV} {s : Value} (h : Five w b v s) (k : Kept p w w') (hn : ¬ p b) : Five w' b v s := h.same (k.block b h.lt hn) (Nat.lt_of_lt_of_le h.lt k.size)
theorem Five.new_at (w : World) (v : GV) (s : Value) (ty : TypeId) (b : Nat) (hb : b = w.heap.size) : Five (w.alloc (.cells #[.int .i64 v.kind, .int .i64 v.num, .string v.text, .int .i64 v.node, s] ty)) b v s := by
  subst hb; exact ⟨by simp, by simp, by simp, by simp, by simp, by simp, fun o => by simp⟩
theorem Five.set {w : World} {b : Nat} {v : GV} {s s' : Value} (h : Five w b v s) : Five (w.setCell ⟨b, 4, none⟩ s') b v s' := by
  refine ⟨by have := h.lt; simpa [World.setCell] using this, ?_, ?_, ?_, ?_, ?_, fun o => ?_⟩
  · rw [World.cell?_setCell_other _ _ _ _ (by simp)]; exact h.c0
  · rw [World.cell?_setCell_other _ _ _ _ (by simp)]; exact h.c1
  · rw [World.cell?_setCell_other _ _ _ _ (by simp)]; exact h.c2
  · rw [World.cell?_setCell_other _ _ _ _ (by simp)]; exact h.c3
  · exact World.cell?_setCell_same _ _ _ h.c4
  · rw [World.frozen?_setCell]; exact h.f o

/-- a value written into a variable of its own -/
abbrev put4 (w : World) (b : Nat) (v : GV) : World := (((w.setCell ⟨b, 0, none⟩ (.int .i64 v.kind)).setCell ⟨b, 1, none⟩ (.int .i64 v.num)).setCell ⟨b, 2, none⟩ (.string v.text)).setCell ⟨b, 3, none⟩ (.int .i64 v.node)
theorem Kept.put4 (w : World) (b : Nat) (v : GV) : Kept (fun k => k = b) w (put4 w b v) :=
  ((((Kept.refl (fun k => k = b) w).set (fun _ => rfl) _).set (fun _ => rfl) _).set (fun _ => rfl) _).set (fun _ => rfl) _

/-- a value written into a graph's root -/
theorem Five.put {w : World} {b : Nat} {v v' : GV} {s : Value} (h : Five w b v s) :
    Five ((((w.setCell ⟨b, 0, none⟩ (.int .i64 v'.kind)).setCell ⟨b, 1, none⟩ (.int .i64 v'.num)).setCell ⟨b, 2, none⟩ (.string v'.text)).setCell ⟨b, 3, none⟩ (.int .i64 v'.node)) b v' s := by
  have h0 := World.cell?_setCell_same w ⟨b, 0, none⟩ (.int .i64 v'.kind) h.c0
  have h1 : (w.setCell ⟨b, 0, none⟩ (.int .i64 v'.kind)).cell? ⟨b, 1, none⟩ = _ := (World.cell?_setCell_other _ _ _ _ (by simp)).trans h.c1
  have h2 : (w.setCell ⟨b, 0, none⟩ (.int .i64 v'.kind)).cell? ⟨b, 2, none⟩ = _ := (World.cell?_setCell_other _ _ _ _ (by simp)).trans h.c2
  have h3 : (w.setCell ⟨b, 0, none⟩ (.int .i64 v'.kind)).cell? ⟨b, 3, none⟩ = _ := (World.cell?_setCell_other _ _ _ _ (by simp)).trans h.c3
  have h4 : (w.setCell ⟨b, 0, none⟩ (.int .i64 v'.kind)).cell? ⟨b, 4, none⟩ = _ := (World.cell?_setCell_other _ _ _ _ (by simp)).trans h.c4
  refine ⟨by have := h.lt; simpa [World.setCell] using this, ?_, ?_, ?_, ?_, ?_, fun o => ?_⟩
  · rw [World.cell?_setCell_other _ _ _ _ (by simp), World.cell?_setCell_other _ _ _ _ (by simp), World.cell?_setCell_other _ _ _ _ (by simp)]; exact h0
  · rw [World.cell?_setCell_other _ _ _ _ (by simp), World.cell?_setCell_other _ _ _ _ (by simp)]; exact World.cell?_setCell_same _ _ _ h1
  · rw [World.cell?_setCell_other _ _ _ _ (by simp)]
    exact World.cell?_setCell_same _ _ _ (u := .string v.text) (by rw [World.cell?_setCell_other _ _ _ _ (by simp)]; exact h2)
  · exact World.cell?_setCell_same _ _ _ (u := .int .i64 v.node) (by rw [World.cell?_setCell_other _ _ _ _ (by simp), World.cell?_setCell_other _ _ _ _ (by simp)]; exact h3)
  · rw [World.cell?_setCell_other _ _ _ _ (by simp), World.cell?_setCell_other _ _ _ _ (by simp), World.cell?_setCell_other _ _ _ _ (by simp)]; exact h4
  · rw [World.frozen?_setCell, World.frozen?_setCell, World.frozen?_setCell, World.frozen?_setCell]; exact h.f o

end Go.Proofs.Ythjddpkegooobaa

/-
  PTRMAP: a map whose keys are pointers to blocks. Own work.
-/
namespace Go.Proofs.Ythjddpkegooobaa
open Go.RowKit

/-- a plain block of cells, none frozen -/
def CellsAt (w : World) (b : Nat) : Prop := ∃ c t, w.heap[b]? = some (.cells c t (0, 0))

abbrev ptr (b : Nat) : Value := .pointer (some ⟨b, 0, none⟩)

section
variable {P : Program} {w : World} {tp te : TypeId} {j : TypeInfo}

set_option maxRecDepth 100000 in
theorem equal_same (b : Nat) (hp : P.underlying tp = some (.pointer te)) (hte : P.info? te = some j) : (Op.equal tp (ptr b) (ptr b)).run P w = .ok true w := by
  have h : ∀ d : Nat, (Op.equalIn (d + 1) tp (ptr b) (ptr b)).run P w = .ok true w := fun d => by
    simp [Op.equalIn, run_underlying hp, sizeOf, typeInfo, hte, run_sameAddr_same]
  exact h 9999
set_option maxRecDepth 100000 in
theorem equal_other {b c : Nat} (hp : P.underlying tp = some (.pointer te)) (hte : P.info? te = some j) (hsz : j.size ≠ 0) (hne : b ≠ c) (hb : CellsAt w b) (hc : CellsAt w c) : (Op.equal tp (ptr b) (ptr c)).run P w = .ok false w := by
  obtain ⟨cb, tb, hb⟩ := hb
  obtain ⟨cc, tc, hc⟩ := hc
  have hn : (⟨b, 0, none⟩ : Addr) ≠ ⟨c, 0, none⟩ := fun e => hne (by have := congrArg Addr.block e; simpa using this)
  have h : ∀ d : Nat, (Op.equalIn (d + 1) tp (ptr b) (ptr c)).run P w = .ok false w := fun d => by
    simp [Op.equalIn, run_underlying hp, sizeOf, typeInfo, hte, hsz, run_sameAddr_other w hn hb hc]
  exact h 9999

set_option maxRecDepth 100000 in
theorem ask_none (hp : P.underlying tp = some (.pointer te)) (hte : P.info? te = some j) (hsz : j.size ≠ 0) {b : Nat} (hb : CellsAt w b) :
    ∀ (l : List MapEntry) (i : Nat), (∀ e, e ∈ l → ∃ c, e.key = ptr c ∧ c ≠ b ∧ CellsAt w c) → (Instr.findAsking tp (ptr b) l i).run P w = .ok none w
  | [], i, _ => by simp [Instr.findAsking]
  | e :: l, i, h => by
    obtain ⟨c, hk, hne, hc⟩ := h e (List.mem_cons_self ..)
    have ih := ask_none hp hte hsz hb l (i + 1) (fun e he => h e (List.mem_cons_of_mem _ he))
    unfold Instr.findAsking
    rw [hk]
    simp [equal_other hp hte hsz (Ne.symm hne) hb hc, ih]

set_option maxRecDepth 100000 in
theorem ask_some (hp : P.underlying tp = some (.pointer te)) (hte : P.info? te = some j) (hsz : j.size ≠ 0) {b : Nat} (hb : CellsAt w b) :
    ∀ (l : List MapEntry) (e : MapEntry) (r : List MapEntry) (i : Nat), (∀ e, e ∈ l → ∃ c, e.key = ptr c ∧ c ≠ b ∧ CellsAt w c) → e.key = ptr b → (Instr.findAsking tp (ptr b) (l ++ e :: r) i).run P w = .ok (some (i + l.length, e.val)) w
  | [], e, r, i, _, hk => by
    unfold Instr.findAsking
    simp only [List.nil_append]
    rw [hk]
    simp [equal_same b hp hte]
  | e' :: l, e, r, i, h, hk => by
    obtain ⟨c, hk', hne, hc⟩ := h e' (List.mem_cons_self ..)
    have ih := ask_some hp hte hsz hb l e r (i + 1) (fun e he => h e (List.mem_cons_of_mem _ he)) hk
    rw [List.cons_append]
    unfold Instr.findAsking
    rw [hk']
    simp [equal_other hp hte hsz (Ne.symm hne) hb hc, ih]
    omega

set_option maxRecDepth 100000 in
theorem findKey_ask (hp : P.underlying tp = some (.pointer te)) (b : Nat) (l : List MapEntry) (hl : ∀ e, e ∈ l → ∃ c, e.key = ptr c) : (Instr.findKey tp (ptr b) l).run P w = (Instr.findAsking tp (ptr b) l 0).run P w := by
  cases l with
  | nil => simp [Instr.findKey, run_underlying hp, Instr.findNow, Instr.findAsking]
  | cons e l =>
    obtain ⟨c, hk⟩ := hl e (List.mem_cons_self ..)
    simp [Instr.findKey, run_underlying hp, Instr.findNow, hk, Instr.sameNow]

set_option maxRecDepth 100000 in
theorem checkKey_ptr (hp : P.underlying tp = some (.pointer te)) (em : Bool) (n b : Nat) : (Instr.checkKey em (n + 1) tp (ptr b)).run P w = .ok () w := by
  unfold Instr.checkKey
  simp [run_underlying hp]
end

/-- block mb is a map that leads from each of these blocks to its place -/
def PMap (w : World) (mb : Nat) (ks : List Nat) : Prop :=
  ∃ es clock, w.heap[mb]? = some (.map es clock) ∧ es.toList.length = ks.length ∧ ∀ i, i < ks.length → ∃ e, es.toList[i]? = some e ∧ e.key = ptr ks[i]! ∧ e.val = .int .i64 (i : Int)

set_option maxRecDepth 100000 in
theorem PMap.lt {w : World} {mb : Nat} {ks : List Nat} (h : PMap w mb ks) : mb < w.heap.size := by
  obtain ⟨es, clock, hb, _⟩ := h
  exact (Array.getElem?_eq_some_iff.1 hb).1
set_option maxRecDepth 100000 in
theorem PMap.of_block {w w' : World} {mb : Nat} {ks : List Nat} (h : PMap w mb ks) (e : w'.heap[mb]? = w.heap[mb]?) : PMap w' mb ks := by
  obtain ⟨es, clock, hb, r⟩ := h
  exact ⟨es, clock, e.trans hb, r⟩
set_option maxRecDepth 100000 in
theorem PMap.kept {p : Nat → Prop} {w w' : World} {mb : Nat} {ks : List Nat} (h : PMap w mb ks) (k : Kept p w w') (hn : ¬ p mb) : PMap w' mb ks := h.of_block (k.block mb h.lt hn)

section
variable {P : Program} {w : World} {tm tp te ti : TypeId} {j : TypeInfo}

set_option maxRecDepth 100000 in
theorem PMap.mem {ks : List Nat} {es : Array MapEntry} (hl : es.toList.length = ks.length) (hE : ∀ i, i < ks.length → ∃ e, es.toList[i]? = some e ∧ e.key = ptr ks[i]! ∧ e.val = .int .i64 (i : Int)) :
    ∀ e, e ∈ es.toList → ∃ c, e.key = ptr c ∧ c ∈ ks := fun e he => by
  obtain ⟨i, hi, hie⟩ := List.getElem_of_mem he
  obtain ⟨e', h1, h2, _⟩ := hE i (by omega)
  rw [List.getElem?_eq_getElem hi, hie] at h1
  simp at h1
  subst h1
  exact ⟨ks[i]!, h2, mem_at (by omega)⟩

set_option maxRecDepth 100000 in
theorem run_lookup_none {mb : Nat} {ks : List Nat} (h : PMap w mb ks) (hm : P.underlying tm = some (.map tp ti)) (hp : P.underlying tp = some (.pointer te)) (hte : P.info? te = some j) (hsz : j.size ≠ 0) (hz : (zeroValue ti).run P w = .ok (.int .i64 0) w)
    {b : Nat} (hb : CellsAt w b) (hks : ∀ c, c ∈ ks → CellsAt w c) (hn : b ∉ ks) :
    (Instr.lookup tm (.map (some mb)) (ptr b) true).run P w = .ok (.tuple #[.int .i64 0, .bool false]) w := by
  obtain ⟨es, clock, hmb, hl, hE⟩ := h
  have hmem := PMap.mem hl hE
  have h1 := findKey_ask (P := P) (w := w) hp b es.toList (fun e he => let ⟨c, hc, _⟩ := hmem e he; ⟨c, hc⟩)
  have h2 := ask_none (P := P) (w := w) hp hte hsz hb es.toList 0 (fun e he => let ⟨c, hc, hcm⟩ := hmem e he; ⟨c, hc, fun e => hn (e ▸ hcm), hks c hcm⟩)
  rw [h2] at h1
  simp [Instr.lookup, run_underlying hm, MapKept.run_getObj_map hmb, checkKey_ptr hp _ 9999, h1, hz]

set_option maxRecDepth 100000 in
theorem run_lookup_some {mb : Nat} {ks : List Nat} (h : PMap w mb ks) (hm : P.underlying tm = some (.map tp ti)) (hp : P.underlying tp = some (.pointer te)) (hte : P.info? te = some j) (hsz : j.size ≠ 0)
    {b : Nat} (hb : CellsAt w b) (hks : ∀ c, c ∈ ks → CellsAt w c) (hnd : ks.Nodup) (hn : b ∈ ks) :
    (Instr.lookup tm (.map (some mb)) (ptr b) true).run P w = .ok (.tuple #[.int .i64 (ks.idxOf b : Nat), .bool true]) w := by
  obtain ⟨es, clock, hmb, hl, hE⟩ := h
  have hmem := PMap.mem hl hE
  have h1 := findKey_ask (P := P) (w := w) hp b es.toList (fun e he => let ⟨c, hc, _⟩ := hmem e he; ⟨c, hc⟩)
  have hi : ks.idxOf b < ks.length := List.idxOf_lt_length_of_mem hn
  obtain ⟨e, he, hek, hev⟩ := hE _ hi
  rw [getElem!_pos ks _ hi, List.getElem_idxOf hi] at hek
  have hsp : es.toList = es.toList.take (ks.idxOf b) ++ e :: es.toList.drop (ks.idxOf b + 1) := by
    obtain ⟨hlt, e1⟩ := List.getElem?_eq_some_iff.1 he
    rw [← e1, List.getElem_cons_drop, List.take_append_drop]
  have hpre : ∀ e, e ∈ es.toList.take (ks.idxOf b) → ∃ c, e.key = ptr c ∧ c ≠ b ∧ CellsAt w c := fun e' he' => by
    obtain ⟨i, hi', hie⟩ := List.getElem_of_mem he'
    have hil : i < ks.idxOf b := by have := hi'; simp at this; omega
    obtain ⟨e2, h3, h4, _⟩ := hE i (by omega)
    rw [List.getElem_take] at hie
    rw [List.getElem?_eq_getElem (by omega), hie] at h3
    simp at h3
    subst h3
    have hik : i < ks.length := by omega
    refine ⟨ks[i]!, h4, fun e => ?_, hks _ (mem_at hik)⟩
    rw [getElem!_pos ks i hik] at e
    have h9 := hnd.idxOf_getElem i hik
    rw [e] at h9
    omega
  have h2 := ask_some (P := P) (w := w) hp hte hsz hb (es.toList.take (ks.idxOf b)) e (es.toList.drop (ks.idxOf b + 1)) 0 hpre hek
  rw [← hsp] at h2
  rw [h2] at h1
  simp [Instr.lookup, run_underlying hm, MapKept.run_getObj_map hmb, checkKey_ptr hp _ 9999, h1, hev]

set_option maxRecDepth 100000 in
/-- a store at a key that is not there -/
theorem run_update_new {mb : Nat} {ks : List Nat} (h : PMap w mb ks) (hm : P.underlying tm = some (.map tp ti)) (hp : P.underlying tp = some (.pointer te)) (hte : P.info? te = some j) (hsz : j.size ≠ 0)
    {b : Nat} (hb : CellsAt w b) (hks : ∀ c, c ∈ ks → CellsAt w c) (hn : b ∉ ks) :
    ∃ w', (Instr.mapUpdate tm (.map (some mb)) (ptr b) (.int .i64 (ks.length : Int))).run P w = .ok () w' ∧ PMap w' mb (ks ++ [b]) ∧ Kept (fun k => k = mb) w w' ∧ w'.heap.size = w.heap.size := by
  obtain ⟨es, clock, hmb, hl, hE⟩ := h
  have hmem := PMap.mem hl hE
  have h1 := findKey_ask (P := P) (w := w) hp b es.toList (fun e he => let ⟨c, hc, _⟩ := hmem e he; ⟨c, hc⟩)
  have h2 := ask_none (P := P) (w := w) hp hte hsz hb es.toList 0 (fun e he => let ⟨c, hc, hcm⟩ := hmem e he; ⟨c, hc, fun e => hn (e ▸ hcm), hks c hcm⟩)
  rw [h2] at h1
  have hlt : mb < w.heap.size := (Array.getElem?_eq_some_iff.1 hmb).1
  refine ⟨{ w with heap := w.heap.setIfInBounds mb (.map (es.push { key := ptr b, val := .int .i64 (ks.length : Int), born := clock }) (clock + 1)) }, ?_, ?_, ?_, by simp⟩
  · simp [Instr.mapUpdate, run_underlying hm, MapKept.run_getObj_map hmb, checkKey_ptr hp _ 9999, h1, MapKept.run_setObj_map _ hmb]
  · refine ⟨es.push { key := ptr b, val := .int .i64 (ks.length : Int), born := clock }, clock + 1, (by simp [hlt]), by simpa using hl, fun i hi => ?_⟩
    by_cases e : i < ks.length
    · obtain ⟨en, h3, h4, h5⟩ := hE i e
      refine ⟨en, ?_, ?_, h5⟩
      · rw [Array.toList_push, List.getElem?_append_left (by omega)]; exact h3
      · rw [h4, getElem!_pos ks i e, getElem!_pos (ks ++ [b]) i hi, List.getElem_append_left e]
    · have ei : i = ks.length := by simp at hi; omega
      subst ei
      refine ⟨_, by rw [Array.toList_push, List.getElem?_append_right (by omega), hl]; simp; rfl, ?_, rfl⟩
      rw [getElem!_pos (ks ++ [b]) _ hi]
      simp
  · refine ⟨rfl, rfl, rfl, by simp, fun k hk hn => ?_⟩
    simp [Ne.symm hn]
end

end Go.Proofs.Ythjddpkegooobaa
