/-
  OB3: the specification's image. Own work.
-/
import Derived.Test.YtnbikemmnpldcabOb2
import Derived.Test.YtnbikemmnpldcabSum
import Derived.Test.YtnbikemmnpldcabCanonOk2
import Derived.Test.YtnbikemmnpldcabSpecCanon
import Derived.Test.YtnbikemmnpldcabOk4
namespace Go.Proofs.Ytnbikemmnpldcab
open Go.RowKit

set_option maxRecDepth 100000 in
theorem wpList_append_str {P : Program} {ops : Array Oper} {rest : List Oper} {o : Oper} {a : Act} {Q : Exit → Act → World → Prop} {w : World} (hgd : o.guard = none) (sl x : Operand) (t u : TypeId)
    (ho : o.op = .call { callee := .builtin .append, args := #[sl, x], argTypes := #[t, u] })
    (base : Nat) (e : TypeId) (i : TypeInfo) (ht : P.underlying t = some (.slice e)) (hu : P.underlying u = some .string) (hi : P.info? e = some i) (hz : i.zero = some (.int .u8 0))
    (hsize : i.size = 1) (hby : i.bytes = 1)
    (v : Value) (n : Nat) (xs : List Value) (hs : a.eval sl = v) (hown : w.ownsRow base e 1 v n xs) (s : ByteArray) (hx : a.eval x = .string s)
    (h63 : n + s.size ≤ maxLen) (hbytes : n + s.size ≤ 140737488355328) (hbase : base ≤ w.heap.size) (hn : 0 < n)
    (h : ∀ g cap w', w'.ownsRow base e 1 (.slice (some ⟨g, 0, none⟩) (n + s.size) cap) (n + s.size) (xs ++ Lib.strCells s) → w.grownBy w' v.ownBlock → (v.ownBlock = some g ∨ g = w.heap.size) → wpList P ops Q rest (a.put o.dst (.slice (some ⟨g, 0, none⟩) (n + s.size) cap)) w') : wpList P ops Q (o :: rest) a w := by
  refine wpList_plain hgd fun K hK => ?_
  obtain ⟨g, cap, w', hr, h2, h3, h4⟩ := append_str_lies (P := P) w base t u o.type e i ht hu hi hz hsize hby v n xs hown s h63 hbytes hbase hn
  unfold Oper.wp execOp
  simp only [ho, resolve, invoke, builtin, Sem.run_bind, Sem.run_pure, Result.andThen_ok, List.map_toArray, List.map_cons, List.map_nil, hs, hx, hr]
  exact hK _ _ (h g cap w' h2 h3 h4)

set_option maxRecDepth 100000 in
theorem hid_ex {α : Type} (x : α) : ∃ y, Hid (y = x) := ⟨x, rfl⟩

theorem strCells_bs (s : ByteArray) : Lib.strCells s = bcells (bsOf s) := by
  unfold Lib.strCells bcells bsOf
  rw [List.map_map]
  rfl

set_option maxRecDepth 100000 in
theorem l2val_text (base : Nat) (oa : Option Addr) (cap : Nat) (xs : List Nat) (text : ByteArray) (w : World) (hn : text.size ≤ 1000) (hbase : base ≤ w.heap.size) (hl : xs.length ≤ 1099511600000)
    (hO : w.ownsRow base 5 1 (.slice oa xs.length cap) xs.length (bcells xs)) :
    Calls Try.prog 106 #[.slice oa xs.length cap, (GV.mk 3 0 text 0).val] w (APost base oa xs (3 :: (numB text.size ++ bsOf text)) w) := by
  obtain ⟨i0, hi, hz0, hz1, hz2⟩ := info_parts info_u8
  have hF := (Four.new w ⟨3, 0, text, 0⟩ 30).alloc (.cells #[.int .u8 3] 5)
  have hn0 : ¬ ((Value.slice oa xs.length cap).ownBlock = some w.heap.size) := fun e => by have := (hO.lt _ e).2; omega
  have e6 : IntKind.u64.wrap (text.size : Int) = (text.size : Int) := by rw [IntKind.wrap_u64]; omega
  have hten := numB_ten (n := text.size) (by omega)
  have hbl := bsOf_length text
  go_enter Try.func106, Try.ntmps106
  go_wp2_with (first
    | (at_builtin; refine wpList_append_str rfl (.tmp 35) (.tmp 37) 28 9 rfl base 5 i0 Try.underlying28 Try.underlying9 hi hz0 hz1 hz2 _ _ _ rfl hRo text rfl (by unfold maxLen; omega) (by omega) (by omega) (by omega) ?_; intro g4 cap4 w4 hown4 hgrow4 hat4)
    | (at_builtin; refine wpList_append_lies _ rfl (.tmp 5) (.tmp 9) 28 rfl base 5 i0 (.int .u8 0) 1 1 Try.underlying28 hi hz0 hz1 hz2 rfl (by decide) _ _ _ rfl ((hO.alloc _).alloc _) ⟨w.heap.size + 1, 0, none⟩ 1 1 [.int .u8 3] rfl rfl (World.news_of_block (cs := #[.int .u8 3]) (t := 5) (fr := (0, 0)) (blk_new_at _ _ _ (by simp))) (by simp [Value.oneCell']) (by decide) (by unfold maxLen; omega) (by omega) (by simp; omega) (w.heap.size + 2) (by simp) ?_; intro g cap2 w1 hown1 hgrow hat hlt2; have hF1 := hF.kept (Kept.of_grown hgrow) hn0; obtain ⟨fz, f0, f1, f2, f3, ff⟩ := id hF1; have hP := (Ob.start hO).push (ys := [3]) (gal (gal (gre _) _) _) hown1 hgrow (hat.elim Or.inl (fun h => Or.inr (by omega))); have hs1 := hP.kept.size; have hg1 : w.heap.size ≠ g := (hat.elim (fun h => fun e => hn0 (by rw [e]; exact h)) (fun h => by omega)))
    | (go_at_call 105; refine (l2num_any base _ _ _ (xs ++ [3]) text.size _ _ (by simp) ?_ (by omega) (by omega) (by simp; omega) hP.own).mono ?_; (first | rfl | exact e6); rintro e w3 ⟨oa3, cap3, rfl, hQ⟩; obtain ⟨gz, g0, g1, g2, g3, gf⟩ := hF1.kept hQ.kept (fun e => hg1 (some_addr e).symm); have hR := hP.call hQ; have hs3 := hR.kept.size; obtain ⟨ln, hln⟩ := hid_ex (xs ++ [3] ++ numB text.size).length; have hRo := hR.own; rw [← hln.out] at hRo; rw [← hln.out]; have hln1 : ln ≤ xs.length + 11 ∧ 0 < ln := (by have h := hln.out; simp only [List.length_append, List.length_singleton] at h; omega)))
  go_ret
  have e4 : ln + text.size = (xs ++ [3] ++ numB text.size).length + (bsOf text).length := by rw [hln.out, hbl]
  rw [strCells_bs, e4] at hown4
  have hT := hR.push (wa := w3) (ys := bsOf text) (gre _) hown4 (by rw [← hln.out]; exact hgrow4) (by rw [← hln.out]; exact hat4.elim Or.inl (fun h => Or.inr (by omega)))
  have e5 : xs ++ [3] ++ numB text.size ++ bsOf text = xs ++ (3 :: (numB text.size ++ bsOf text)) := by simp
  rw [e5] at hT
  refine ⟨_, _, ?_, hT⟩
  rw [← e5, List.length_append, ← e4]
  rfl

set_option maxRecDepth 100000 in
theorem l2val_any (base n : Nat) (oa : Option Addr) (len cap : Nat) (xs : List Nat) (v : GV) (w : World) (hlen : len = xs.length) (hn : n ≤ 300) (ho : v.Ok) (hv : okV n v = true) (hbase : base ≤ w.heap.size) (hl : xs.length ≤ 1099511600000)
    (hO : w.ownsRow base 5 1 (.slice oa xs.length cap) xs.length (bcells xs)) :
    Calls Try.prog 106 #[.slice oa len cap, v.val] w (APost base oa xs (valB v) w) := by
  subst hlen
  rcases okV_cases hv with rfl | ⟨m, rfl⟩ | ⟨m, rfl⟩ | ⟨t, ht, rfl⟩ | ⟨k, hk, rfl⟩
  · exact l2val_nil base oa cap xs w hbase hl hO
  · exact l2val_num base oa cap xs m w ho.num hbase hl hO
  · exact l2val_bits base oa cap xs m w hbase hl hO
  · exact l2val_text base oa cap xs t w ht hbase hl hO
  · exact l2val_node base oa cap xs k w (by omega) hbase hl hO

/-- what the specification's image leaves -/
def PackSPost (ys : List Nat) (w : World) (e : Ending) (w' : World) : Prop :=
  ∃ oa cap, e = .returned (.slice oa ys.length cap) ∧ w'.ownsRow w.heap.size 5 1 (.slice oa ys.length cap) ys.length (bcells ys) ∧ Below w.heap.size w w'

set_option maxRecDepth 100000 in
theorem owns_two (w : World) (base : Nat) (hb : base ≤ w.heap.size) : (w.alloc (.cells #[.int .u8 72, .int .u8 49] 5)).ownsRow base 5 1 (.slice (some ⟨w.heap.size, 0, none⟩) 2 2) 2 (bcells [72, 49]) :=
  ⟨rfl, Or.inr ⟨w.heap.size, 2, #[.int .u8 72, .int .u8 49], rfl, hb, blk_new_at _ _ _ rfl, by decide, by decide, rfl, rfl⟩⟩

end Go.Proofs.Ytnbikemmnpldcab
