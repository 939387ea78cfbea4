import Derived.Recover
import Derived.Laws.Pointers
import Derived.RangeFuncRecord
import Derived.Test.YthjddpkegooobacGreatPartP

/-
  OB3: the specification's image. Own work.
-/
namespace Go.Proofs.YthjddpkegooobacGreat
open Go.RowKit

set_option maxRecDepth 100000 in
theorem wpList_append_str {P : Program} {ops : Array Oper} {rest : List Oper} {o : Oper} {a : Act} {Q : Exit → Act → World → Prop} {w : World} (hgd : o.guard = none) (sl x : Operand) (t u : TypeId)
    (ho : o.op = .call { callee := .builtin .append, args := #[sl, x], argTypes := #[t, u] })
    (base : Nat) (e : TypeId) (i : TypeInfo) (ht : P.underlying t = some (.slice e)) (hu : P.underlying u = some .string) (hi : P.info? e = some i) (hz : i.zero = some (.int .u8 0))
    (hsize : i.size = 1) (hby : i.bytes = 1)
    (v : Value) (n : Nat) (xs : List Value) (hs : a.eval sl = v) (hown : w.ownsRow base e 1 v n xs) (s : ByteArray) (hx : a.eval x = .string s)
    (h63 : n + s.size ≤ maxLen) (hbytes : n + s.size ≤ 140737488355328) (hbase : base ≤ w.heap.size) (hn : 0 < n)
    (h : ∀ g cap w', w'.ownsRow base e 1 (.slice (some ⟨g, 0, none⟩) (n + s.size) cap) (n + s.size) (xs ++ Lib.strCells s) → w.grownBy w' v.ownBlock → (v.ownBlock = some g ∨ g = w.heap.size) → wpList P ops Q rest (a.put o.dst (.slice (some ⟨g, 0, none⟩) (n + s.size) cap)) w') : wpList P ops Q (o :: rest) a w := by
  refine wpList_plain hgd fun K hK => ?_
  obtain ⟨g, cap, w', hr, h2, h3, h4⟩ := append_str_lies (P := P) w base t u o.type e i ht hu hi hz hsize hby v n xs hown s h63 hbytes hbase hn
  unfold Oper.wp execOp
  simp only [ho, resolve, invoke, builtin, Sem.run_bind, Sem.run_pure, Result.andThen_ok, List.map_toArray, List.map_cons, List.map_nil, hs, hx, hr]
  exact hK _ _ (h g cap w' h2 h3 h4)

set_option maxRecDepth 100000 in

theorem strCells_bs (s : ByteArray) : Lib.strCells s = bcells (bsOf s) := by
  unfold Lib.strCells bcells bsOf
  rw [List.map_map]
  rfl

set_option maxRecDepth 100000 in
theorem l2val_text (base : Nat) (oa : Option Addr) (cap : Nat) (xs : List Nat) (text : ByteArray) (w : World) (hn : text.size ≤ 1000) (hbase : base ≤ w.heap.size) (hl : xs.length ≤ 1099511600000)
    (hO : w.ownsRow base 5 1 (.slice oa xs.length cap) xs.length (bcells xs)) :
    Calls Tryz.prog 76 #[.slice oa xs.length cap, (GV.mk 3 0 text 0).val] w (APost base oa xs (3 :: (numB text.size ++ bsOf text)) w) := by
  obtain ⟨i0, hi, hz0, hz1, hz2⟩ := info_parts info_u8
  have hF := (Four.new w ⟨3, 0, text, 0⟩ 38).alloc (.cells #[.int .u8 3] 5)
  have hn0 : ¬ ((Value.slice oa xs.length cap).ownBlock = some w.heap.size) := fun e => by have := (hO.lt _ e).2; omega
  have e6 : IntKind.u64.wrap (text.size : Int) = (text.size : Int) := by rw [IntKind.wrap_u64]; omega
  have hten := numB_ten (n := text.size) (by omega)
  have hbl := bsOf_length text
  go_enter Tryz.func76, Tryz.ntmps76
  go_wp2_with (first
    | (at_builtin; refine wpList_append_str rfl (.tmp 35) (.tmp 37) 52 9 rfl base 5 i0 Tryz.underlying52 Tryz.underlying9 hi hz0 hz1 hz2 _ _ _ rfl hRo text rfl (by unfold maxLen; omega) (by omega) (by omega) (by omega) ?_; intro g4 cap4 w4 hown4 hgrow4 hat4)
    | (at_builtin; refine wpList_append_lies _ rfl (.tmp 5) (.tmp 9) 52 rfl base 5 i0 (.int .u8 0) 1 1 Tryz.underlying52 hi hz0 hz1 hz2 rfl (by decide) _ _ _ rfl ((hO.alloc _).alloc _) ⟨w.heap.size + 1, 0, none⟩ 1 1 [.int .u8 3] rfl rfl (World.news_of_block (cs := #[.int .u8 3]) (t := 5) (fr := (0, 0)) (blk_new_at _ _ _ (by simp))) (by simp [Value.oneCell']) (by decide) (by unfold maxLen; omega) (by omega) (by simp; omega) (w.heap.size + 2) (by simp) ?_; intro g cap2 w1 hown1 hgrow hat hlt2; have hF1 := hF.kept (Kept.of_grown hgrow) hn0; obtain ⟨fz, f0, f1, f2, f3, ff⟩ := id hF1; have hP := (Ob.start hO).push (ys := [3]) (gal (gal (gre _) _) _) hown1 hgrow (hat.elim Or.inl (fun h => Or.inr (by omega))); have hs1 := hP.kept.size; have hg1 : w.heap.size ≠ g := (hat.elim (fun h => fun e => hn0 (by rw [e]; exact h)) (fun h => by omega)))
    | (go_at_call 75; refine (l2num_any base _ _ _ (xs ++ [3]) text.size _ _ (by simp) ?_ (by omega) (by omega) (by simp; omega) hP.own).mono ?_; (first | rfl | exact e6); rintro e w3 ⟨oa3, cap3, rfl, hQ⟩; obtain ⟨gz, g0, g1, g2, g3, gf⟩ := hF1.kept hQ.kept (fun e => hg1 (some_addr e).symm); have hR := hP.call hQ; have hs3 := hR.kept.size; obtain ⟨ln, hln⟩ := hid_ex (xs ++ [3] ++ numB text.size).length; have hRo := hR.own; rw [← hln.out] at hRo; rw [← hln.out]; have hln1 : ln ≤ xs.length + 11 ∧ 0 < ln := (by have h := hln.out; simp only [List.length_append, List.length_singleton] at h; omega)))
  go_ret
  have e4 : ln + text.size = (xs ++ [3] ++ numB text.size).length + (bsOf text).length := by rw [hln.out, hbl]
  rw [strCells_bs, e4] at hown4
  have hT := hR.push (wa := w3) (ys := bsOf text) (gre _) hown4 (by rw [← hln.out]; exact hgrow4) (by rw [← hln.out]; exact hat4.elim Or.inl (fun h => Or.inr (by omega)))
  have e5 : xs ++ [3] ++ numB text.size ++ bsOf text = xs ++ (3 :: (numB text.size ++ bsOf text)) := by simp
  rw [e5] at hT
  refine ⟨_, _, ?_, hT⟩
  rw [← e5, List.length_append, ← e4]
  rfl

set_option maxRecDepth 100000 in
theorem l2val_any (base n : Nat) (oa : Option Addr) (len cap : Nat) (xs : List Nat) (v : GV) (w : World) (hlen : len = xs.length) (hn : n ≤ 300) (ho : v.Ok) (hv : okV n v = true) (hbase : base ≤ w.heap.size) (hl : xs.length ≤ 1099511600000)
    (hO : w.ownsRow base 5 1 (.slice oa xs.length cap) xs.length (bcells xs)) :
    Calls Tryz.prog 76 #[.slice oa len cap, v.val] w (APost base oa xs (valB v) w) := by
  subst hlen
  rcases okV_cases hv with rfl | ⟨m, rfl⟩ | ⟨m, rfl⟩ | ⟨t, ht, rfl⟩ | ⟨k, hk, rfl⟩
  · exact l2val_nil base oa cap xs w hbase hl hO
  · exact l2val_num base oa cap xs m w ho.num hbase hl hO
  · exact l2val_bits base oa cap xs m w hbase hl hO
  · exact l2val_text base oa cap xs t w ht hbase hl hO
  · exact l2val_node base oa cap xs k w (by omega) hbase hl hO

/-- what the specification's image leaves -/
def PackSPost (ys : List Nat) (w : World) (e : Ending) (w' : World) : Prop :=
  ∃ oa cap, e = .returned (.slice oa ys.length cap) ∧ w'.ownsRow w.heap.size 5 1 (.slice oa ys.length cap) ys.length (bcells ys) ∧ Below w.heap.size w w'

set_option maxRecDepth 100000 in
theorem owns_two (w : World) (base : Nat) (hb : base ≤ w.heap.size) : (w.alloc (.cells #[.int .u8 72, .int .u8 49] 5)).ownsRow base 5 1 (.slice (some ⟨w.heap.size, 0, none⟩) 2 2) 2 (bcells [72, 49]) :=
  ⟨rfl, Or.inr ⟨w.heap.size, 2, #[.int .u8 72, .int .u8 49], rfl, hb, blk_new_at _ _ _ rfl, by decide, by decide, rfl, rfl⟩⟩

end Go.Proofs.YthjddpkegooobacGreat

/-
  OB4: the specification's image, walked. Own work.
-/
namespace Go.Proofs.YthjddpkegooobacGreat
open Go.RowKit

set_option maxRecDepth 100000 in
theorem owns_bytesO {w : World} {base : Nat} {oa : Option Addr} {len cap n : Nat} {zs : List Nat} (h : w.ownsRow base 5 1 (.slice oa len cap) n (bcells zs)) : BytesAt w oa zs := fun i hi => by
  obtain ⟨g, ha, _, _, hc⟩ := owns_cell h (bcells_get hi)
  exact ⟨g, 0, ha, by rw [Nat.zero_add]; exact hc⟩
set_option maxRecDepth 100000 in
theorem numB_bytes (n : Nat) : ∀ x, x ∈ numB n → x < 256 := fun x hx => numB_byte n x hx
theorem valB_bytes {n : Nat} {v : GV} (h : okV n v = true) : ∀ x, x ∈ valB v → x < 256 := by
  intro x hx
  rcases okV_cases h with rfl | ⟨m, rfl⟩ | ⟨m, rfl⟩ | ⟨t, ht, rfl⟩ | ⟨k, hk, rfl⟩
  · have h1 : x ∈ [0] := hx
    have := List.mem_singleton.1 h1; omega
  · have h1 : x ∈ 1 :: numB (zig m) := hx
    rcases List.mem_cons.1 h1 with h2 | h2
    · omega
    · exact numB_byte _ x h2
  · have h1 : x ∈ 2 :: lowB 8 (u64n m) := hx
    rcases List.mem_cons.1 h1 with h2 | h2
    · omega
    · exact lowB_byte _ _ x h2
  · have h1 : x ∈ 3 :: (numB t.size ++ bsOf t) := hx
    rcases List.mem_cons.1 h1 with h2 | h2
    · omega
    · rcases List.mem_append.1 h2 with h3 | h3
      · exact numB_byte _ x h3
      · exact bsOf_byte h3
  · have h1 : x ∈ 4 :: numB k := hx
    rcases List.mem_cons.1 h1 with h2 | h2
    · omega
    · exact numB_byte _ x h2
set_option maxRecDepth 100000 in
theorem valsB_bytes {n : Nat} {l : List GV} (h : ∀ v, v ∈ l → okV n v = true) : ∀ x, x ∈ valsB l → x < 256 := by
  induction l with
  | nil => intro x hx; cases hx
  | cons v r ih =>
    intro x hx
    rcases List.mem_append.1 hx with h1 | h1
    · exact valB_bytes (h v (List.mem_cons_self ..)) x h1
    · exact ih (fun y hy => h y (List.mem_cons_of_mem _ hy)) x h1
set_option maxRecDepth 100000 in
theorem nodesB_bytes {n : Nat} {l : List GN} (h : ∀ v, v ∈ l → okN n v = true) : ∀ x, x ∈ nodesB l → x < 256 := by
  induction l with
  | nil => intro x hx; cases hx
  | cons v r ih =>
    intro x hx
    rcases List.mem_append.1 hx with h1 | h1
    · rcases List.mem_append.1 h1 with h2 | h2
      · exact numB_byte _ x h2
      · rcases List.mem_append.1 h2 with h3 | h3
        · exact numB_byte _ x h3
        · exact valsB_bytes (okN_parts (h v (List.mem_cons_self ..))).2 x h3
    · exact ih (fun y hy => h y (List.mem_cons_of_mem _ hy)) x h1
set_option maxRecDepth 100000 in
theorem graphB_bytes {g : GG} (hok : okG g = true) : ∀ x, x ∈ graphB g → x < 256 := by
  obtain ⟨_, hroot, hnodes⟩ := okG_parts hok
  intro x hx
  rcases List.mem_append.1 hx with h1 | h1
  · simp at h1; omega
  · rcases List.mem_append.1 h1 with h2 | h2
    · exact numB_byte _ x h2
    · rcases List.mem_append.1 h2 with h3 | h3
      · exact valB_bytes hroot x h3
      · exact nodesB_bytes hnodes x h3
set_option maxRecDepth 100000 in
theorem formB_bytes {g : GG} (hok : okG g = true) : ∀ x, x ∈ formB g → x < 256 := by
  intro x hx
  rcases List.mem_append.1 hx with h1 | h1
  · exact graphB_bytes hok x h1
  · exact lowB_byte _ _ x h1

set_option maxRecDepth 100000 in
theorem Ob.back {w0 w1 w : World} {base b0 : Nat} {oa : Option Addr} {cap : Nat} {zs : List Nat} (h : Ob w0 base (some ⟨b0, 0, none⟩) w oa cap zs) (hb : Below w1.heap.size w1 w0) (h0 : w1.heap.size ≤ b0) : Below w1.heap.size w1 w :=
  hb.trans (h.kept.below hb.size (fun k hk e => by have := some_addr e; omega))

set_option maxRecDepth 100000 in
theorem l2pack_any (a : Option Addr) (cap : Nat) (g : GG) (w : World) (hg : g.Ok) (hok : okG g = true) (ha : NodesAt w.heap.size w a g.nodes) :
    Calls Tryz.prog 42 #[g.val a cap] w (PackSPost (imageB g) w) := by
  obtain ⟨c, hc⟩ := hid_ex (canon g)
  have hcok : okG c = true := by rw [hc.out]; exact canon_okG hok
  have hcO : c.Ok := by rw [hc.out]; exact canon_ok hg hok
  obtain ⟨hl300, hroot, hnodes⟩ := okG_parts hcok
  have hgl : Hid (graphB c = gheadB c ++ nodesB c.nodes) := graphB_head c
  have hgl2 : (graphB c).length = (gheadB c).length + (nodesB c.nodes).length := by rw [hgl.out, List.length_append]
  have hglen := graphB_len hcO hcok
  have hnum := numB_ten (n := c.nodes.length) (by omega)
  have e6 := wrap_nat (n := c.nodes.length) (by omega)
  go_enter Tryz.func42, Tryz.ntmps42
  go_wp2_with (first
    | (go_at_call 74; refine (specCanon_any a cap g _ hok (ha.grow (gal (gre _) _))).mono ?_; rintro e w1 ⟨na, nc, rfl, hN, hb1⟩; rw [← hc.out] at hN ⊢; have hF := Five.new_at w1 c.root (.slice na c.nodes.length nc) 41 w1.heap.size rfl; have hO2 := owns_two (w1.alloc (.cells #[.int .i64 c.root.kind, .int .i64 c.root.num, .string c.root.text, .int .i64 c.root.node, .slice na c.nodes.length nc] 41)) (w1.heap.size + 1) (by simp); rw [show (w1.alloc (.cells #[.int .i64 c.root.kind, .int .i64 c.root.num, .string c.root.text, .int .i64 c.root.node, .slice na c.nodes.length nc] 41)).heap.size = w1.heap.size + 1 by simp] at hO2)
    | (go_at_call 75; refine (l2num_any (w1.heap.size + 1) _ _ _ [72, 49] c.nodes.length _ _ rfl ?_ (by omega) (by simp) (by simp) hO2).mono ?_; (first | rfl | exact e6); rintro e w3 ⟨oa3, cap3, rfl, hQ3⟩; obtain ⟨l3, hl3⟩ := hid_ex ([72, 49] ++ numB c.nodes.length).length; rw [← hl3.out]; have hF3 := (hF.kept (Kept.of_below (gal (gre _) _) (fun _ => False)) (fun e => e)).kept hQ3.kept (fun e => by have := some_addr e; omega); obtain ⟨gz, g0, g1, g2, g3, g4, gf⟩ := id hF3; have hs3 := hQ3.kept.size; simp only [World.size_alloc] at hs3)
    | (go_at_call 76; refine (l2val_any (w1.heap.size + 1) c.nodes.length _ _ _ ([72, 49] ++ numB c.nodes.length) c.root _ hl3.out hl300 hcO.root hroot (by omega) (by simp only [List.length_append, List.length_cons, List.length_nil]; omega) hQ3.own).mono ?_; rintro e w4 ⟨oa4, cap4, rfl, hQ4⟩; obtain ⟨l4, hl4⟩ := hid_ex ([72, 49] ++ numB c.nodes.length ++ valB c.root).length; rw [← hl4.out]; have hF4 := hF3.kept hQ4.kept (fun e => by have := (hQ3.lt e).1; omega); obtain ⟨iz, i0, i1, i2, i3, i4, if_⟩ := id hF4))
  have hR4 := hQ3.call hQ4
  obtain ⟨W2, hB12, hW2s, hR⟩ : ∃ W2, Below w1.heap.size w1 W2 ∧ w1.heap.size + 2 ≤ W2.heap.size ∧ Ob W2 (w1.heap.size + 1) (some ⟨w1.heap.size + 1, 0, none⟩) w4 oa4 cap4 (gheadB c) := ⟨_, gal (gal (gre _) _) _, by simp, by have e : [72, 49] ++ numB c.nodes.length ++ valB c.root = gheadB c := (by unfold gheadB; simp only [List.append_assoc]); rw [← e]; exact hR4⟩
  have hl4' : Hid (l4 = (gheadB c).length) := by show _ = _; rw [hl4.out]; unfold gheadB; simp only [List.append_assoc]
  have hw01 : Below w.heap.size w w1 := gca (gal (gre _) _) hb1
  clear hR4 hQ3 hQ4 hF hF3 hF4 hO2 gz g0 g1 g2 g3 g4 gf iz i0 i1 i2 i3 i4 if_ hb1 hl4 hl3 hs3
  go_loopw [4, 25] (fun o i ws => ∃ (k : Nat) (zs : List Nat) (oa1 : Option Addr) (cap1 : Nat), o = .slice oa1 zs.length cap1 ∧ i = .int .i64 k ∧ k ≤ c.nodes.length ∧ Hid (zs = gheadB c ++ nodesB (c.nodes.take k)) ∧ Ob W2 (w1.heap.size + 1) (some ⟨w1.heap.size + 1, 0, none⟩) ws oa1 cap1 zs) (fun _ i _ => c.nodes.length - (intOf i).toNat)
  case atStart => exact ⟨0, gheadB c, oa4, cap4, by rw [hl4'.out], rfl, Nat.zero_le _, by show _ = _; rw [List.take_zero, nodesB, List.append_nil], hR⟩
  case round =>
    obtain ⟨k, zs, oa1, cap1, rfl, rfl, hk, hzs, hOb⟩ := hrel
    have hBs := hOb.back hB12 (by omega)
    have hsz := hBs.size
    have hsz0 := hOb.kept.size
    by_cases hkl : k < c.nodes.length
    · obtain ⟨n, bn, off, va, vc, hnk, hnm, rfl, hbn, hnat⟩ := hN.get hkl
      have hnat2 := hnat.below hBs hbn
      have c0 := hnat2.tag
      have c1 := hnat2.sl
      have hvals := hnat.vals
      have hnok := hnodes n hnm
      have hnO := hcO.nodes n hnm
      obtain ⟨hvl, hvok⟩ := okN_parts hnok
      obtain ⟨ht0, ht1⟩ := okN_tag hnok
      obtain ⟨tg, htg⟩ : ∃ tg : Nat, n.tag = (tg : Int) := ⟨n.tag.toNat, by omega⟩
      have hnb : Hid (nodesB (c.nodes.take (k + 1)) = nodesB (c.nodes.take k) ++ (numB tg ++ (numB n.vals.length ++ valsB n.vals))) := by
        show _ = _
        rw [nodesB_take_succ _ _ hkl, ← hnk.out, nodeB, htg]; rfl
      have hnle : (nodesB (c.nodes.take (k + 1))).length ≤ (nodesB c.nodes).length := nodesB_take_le _ _
      rw [hnb.out] at hnle
      simp only [List.length_append] at hnle
      have hzl : zs.length ≤ 40000000 - ((numB tg).length + ((numB n.vals.length).length + (valsB n.vals).length)) := by rw [hzs.out, List.length_append]; omega
      have hzl2 : (numB tg).length + ((numB n.vals.length).length + (valsB n.vals).length) ≤ 40000000 := by omega
      rw [htg] at c0
      have hT := Two.new_at wr tg (.slice va n.vals.length vc) 84 wr.heap.size rfl
      have e7 := wrap_nat (n := tg) (by omega)
      have e8 := wrap_nat (n := n.vals.length) (by omega)
      have hnp : ¬ (oa1 = some ⟨wr.heap.size, 0, none⟩) := fun e => by have := (hOb.lt e).2; omega
      go_wp2_with (first
        | (go_at_call 75; refine (l2num_any (w1.heap.size + 1) _ _ _ (zs ++ numB tg) n.vals.length _ _ hl5.out ?_ (by omega) (by omega) (by simp only [List.length_append]; omega) hQ5.own).mono ?_; (first | rfl | exact e8); rintro e w6 ⟨oa6, cap6, rfl, hQ6⟩; obtain ⟨l6, hl6⟩ := hid_ex (zs ++ numB tg ++ numB n.vals.length).length; rw [← hl6.out]; obtain ⟨uz, u0, u1, uf, _⟩ := hT5.kept hQ6.kept (fun e => hnp (hQ5.loc _ (by simp) e)))
        | (go_at_call 75; refine (l2num_any (w1.heap.size + 1) _ _ _ zs tg _ _ rfl ?_ (by omega) (by simp only [World.size_alloc]; omega) (by omega) (hOb.grow (gal (gre _) _)).own).mono ?_; (first | rfl | exact e7); rintro e w5 ⟨oa5, cap5, rfl, hQ5⟩; obtain ⟨l5, hl5⟩ := hid_ex (zs ++ numB tg).length; rw [← hl5.out]; have hT5 := hT.kept hQ5.kept hnp; obtain ⟨tz, t0, t1, tf, _⟩ := id hT5; have hs5 := hQ5.kept.size; simp only [World.size_alloc] at hs5))
      have hR6 := ((hOb.grow (gal (gre _) _)).call hQ5).call hQ6
      clear hT hT5 tz t0 t1 tf uz u0 u1 uf hQ5 hQ6 hl5
      go_loopw [4, 43] (fun o i ws => ∃ (m : Nat) (ys : List Nat) (oa2 : Option Addr) (cap2 : Nat), o = .slice oa2 ys.length cap2 ∧ i = .int .i64 m ∧ m ≤ n.vals.length ∧ Hid (ys = zs ++ numB tg ++ numB n.vals.length ++ valsB (n.vals.take m)) ∧ Ob W2 (w1.heap.size + 1) (some ⟨w1.heap.size + 1, 0, none⟩) ws oa2 cap2 ys) (fun _ i _ => n.vals.length - (intOf i).toNat)
      case atStart => exact ⟨0, _, oa6, cap6, by rw [hl6.out], rfl, Nat.zero_le _, by show _ = _; rw [List.take_zero, valsB, List.append_nil], hR6⟩
      case round =>
        obtain ⟨m, ys, oa2, cap2, rfl, rfl, hm, hys, hOb2⟩ := hrel
        have hBs2 := hOb2.back hB12 (by omega)
        have hsz2 := hBs2.size
        by_cases hml : m < n.vals.length
        · obtain ⟨v, bv, ov, hvk, hvm, rfl, hbv, hvc⟩ := hvals.get hml
          obtain ⟨d0, d1, d2, d3⟩ := hvc.below hBs2 hbv
          have hvb : Hid (valsB (n.vals.take (m + 1)) = valsB (n.vals.take m) ++ valB v) := by show _ = _; rw [valsB_take_succ _ _ hml, ← hvk.out]
          have hvle : (valsB (n.vals.take (m + 1))).length ≤ (valsB n.vals).length := valsB_take_le _ _
          rw [hvb.out, List.length_append] at hvle
          have hyl : ys.length ≤ 40000000 := by rw [hys.out]; simp only [List.length_append]; omega
          go_wp2_with (go_at_call 76; refine (l2val_any (w1.heap.size + 1) c.nodes.length _ _ _ ys v _ rfl hl300 (hnO.vals v hvm) (hvok v hvm) (by simp only [World.size_alloc]; omega) (by omega) (hOb2.grow (gal (gre _) _)).own).mono ?_; rintro e w7 ⟨oa7, cap7, rfl, hQ7⟩; obtain ⟨l7, hl7⟩ := hid_ex (ys ++ valB v).length; rw [← hl7.out])
          go_roundw
          case rel => exact ⟨m + 1, ys ++ valB v, oa7, cap7, by rw [hl7.out], by go_num, by omega, by show _ = _; rw [hvb.out, ← List.append_assoc, ← hys.out], (hOb2.grow (gal (gre _) _)).call hQ7⟩
          case measure => simp [intOf]; omega
        · obtain rfl : m = n.vals.length := by omega
          have hfin : Hid (ys = gheadB c ++ nodesB (c.nodes.take (k + 1))) := by
            show _ = _
            rw [hnb.out, hys.out, List.take_length, hzs.out]
            simp only [List.append_assoc]
          go_wp2
          go_roundw
          case rel =>
            exact ⟨k + 1, ys, oa2, cap2, rfl, by go_num, by omega, hfin, hOb2⟩
          case measure => simp [intOf]; omega
    · obtain rfl : k = c.nodes.length := by omega
      have e9 : Hid (zs = graphB c) := by show _ = _; rw [hzs.out, List.take_length, hgl.out]
      have hzl : zs.length ≤ 40000000 := by rw [e9.out]; exact hglen
      go_wp2_with (first
        | (go_at_call 78; refine (l2sum_any oa1 zs cap1 _ (owns_bytesO hOb.own) (by unfold maxLen; omega) (by rw [e9.out]; exact graphB_bytes hcok)).mono ?_; rintro e w8 ⟨rfl, hb8⟩; have hOb8 := hOb.grow hb8; have hs8 := hb8.size)
        | (go_at_call 77; refine (l2eight_any (w1.heap.size + 1) _ _ _ zs (sumN zs) _ _ rfl rfl (sumN_lt _) (by omega) (by omega) hOb8.own).mono ?_; rintro e w9 ⟨oa9, cap9, rfl, hQ9⟩; obtain ⟨l9, hl9⟩ := hid_ex (zs ++ lowB 8 (sumN zs)).length; rw [← hl9.out]))
      go_ret
      have hR9 := hOb8.call hQ9
      have e10 : zs ++ lowB 8 (sumN zs) = imageB g := by unfold imageB formB; rw [← hc.out, e9.out]
      have hB9 := hR9.back hB12 (by omega)
      rw [e10] at hR9 hl9
      exact ⟨oa9, cap9, by rw [← hl9.out]; rfl, owns_le hR9.own (by have := hw01.size; omega), hw01.trans (hB9.mono hw01.size)⟩


set_option maxRecDepth 100000 in
theorem specPack_any (a : Option Addr) (cap : Nat) (g : GG) (w : World) (hg : g.Ok) (ha : NodesAt w.heap.size w a g.nodes) :
    Calls Tryz.prog 19 #[g.val a cap] w (PackSPost (packB g) w) := by
  have hX0 := GBox.new w g a cap 41
  cases hok : okG g with
  | false =>
    have hz : Hid (packB g = []) := if_neg (by rw [hok]; simp)
    have hok' : Hid _ := hok
    go_enter Tryz.func19, Tryz.ntmps19
    go_wp2_with (go_at_call 41; refine (specGraphOk_any a cap g _ hg (ha.grow (gal (gre _) _))).mono ?_; rintro e w1 ⟨rfl, hb1⟩; rw [hok'.out])
    go_ret
    exact ⟨none, 0, by rw [hz.out]; rfl, by rw [hz.out]; exact World.ownsRow_nil _ _ _ _, gca (gal (gre _) _) hb1⟩
  | true =>
    have hok' : Hid _ := hok
    by_cases hl : (imageB g).length ≤ 4096
    · have hz : Hid (packB g = imageB g) := if_pos ⟨hok, hl⟩
      have hd : ¬ ((4096 : Int) < ((imageB g).length : Int)) := by omega
      go_enter Tryz.func19, Tryz.ntmps19
      go_wp2_with (first
        | (go_at_call 41; refine (specGraphOk_any a cap g _ hg (ha.grow (gal (gre _) _))).mono ?_; rintro e w1 ⟨rfl, hb1⟩; obtain ⟨xz, x0, x1, x2, x3, x4⟩ := hX0.grow hb1; rw [hok'.out])
        | (go_at_call 42; refine (l2pack_any a cap g _ hg hok'.out (ha.grow (gca (gal (gre _) _) hb1))).mono ?_; rintro e w2 ⟨oa, cap2, rfl, hown, hb2⟩))
      go_ret
      exact ⟨oa, cap2, by rw [hz.out]; rfl, by rw [hz.out]; exact owns_le hown (by have := hb1.size; simp at this; omega), gca (gca (gal (gre _) _) hb1) hb2⟩
    · have hz : Hid (packB g = []) := if_neg (fun h => hl h.2)
      have hd : ((4096 : Int) < ((imageB g).length : Int)) := by omega
      go_enter Tryz.func19, Tryz.ntmps19
      go_wp2_with (first
        | (go_at_call 41; refine (specGraphOk_any a cap g _ hg (ha.grow (gal (gre _) _))).mono ?_; rintro e w1 ⟨rfl, hb1⟩; obtain ⟨xz, x0, x1, x2, x3, x4⟩ := hX0.grow hb1; rw [hok'.out])
        | (go_at_call 42; refine (l2pack_any a cap g _ hg hok'.out (ha.grow (gca (gal (gre _) _) hb1))).mono ?_; rintro e w2 ⟨oa, cap2, rfl, hown, hb2⟩))
      go_ret
      exact ⟨none, 0, by rw [hz.out]; rfl, by rw [hz.out]; exact World.ownsRow_nil _ _ _ _, gca (gca (gal (gre _) _) hb1) hb2⟩

end Go.Proofs.YthjddpkegooobacGreat

/-
  PACKI: the program's Pack. Own work.
-/
namespace Go.Proofs.YthjddpkegooobacGreat
open Go.RowKit

set_option maxRecDepth 100000 in
theorem assert_nil (w : World) : (Instr.typeAssert .nilIface 20 136 true).run Tryz.prog w = .ok (.tuple #[.agg #[], .bool false]) w := by kernel_rfl
theorem assert_halt (w : World) : (Instr.typeAssert (.iface 136 (.agg #[])) 20 136 true).run Tryz.prog w = .ok (.tuple #[.agg #[], .bool true]) w := by kernel_rfl

set_option maxRecDepth 100000 in
theorem passOn_nil (w : World) : Calls Tryz.prog 56 #[.nilIface] w fun e w' => e = .returned (.tuple #[]) ∧ w' = w := by
  have ht := assert_nil
  go_enter Tryz.func56, Tryz.ntmps56
  go_wp2
  first | go_end0 | refine bodyPost_ret (results_none rfl _ _ _) rfl ?_
  exact ⟨rfl, rfl⟩

set_option maxRecDepth 100000 in
theorem passOn_halt (w : World) : Calls Tryz.prog 56 #[.iface 136 (.agg #[])] w fun e w' => e = .returned (.tuple #[]) ∧ w' = w := by
  have ht := assert_halt
  go_enter Tryz.func56, Tryz.ntmps56
  go_wp2
  first | go_end0 | refine bodyPost_ret (results_none rfl _ _ _) rfl ?_
  exact ⟨rfl, rfl⟩

set_option maxRecDepth 100000 in
theorem packCatch_panicking (older : List PanicEntry) (w : World) :
    CallsD Tryz.prog 55 #[] (.panicking (haltP :: older)) w fun e u' w' =>
      e = .returned (.tuple #[]) ∧ u' = .panicking ({ v := .iface 136 (.agg #[]), recovered := true } :: older) ∧ w' = w := by
  refine callsD_of_wpS Tryz.func55 rfl fun c₀ cs hu => ?_
  apply wpS_region
  simp [wpOpsS, go_sem, recoverD, hu, Tryz.ntmps55]
  refine (passOn_halt w).mono ?_
  rintro e w' ⟨rfl, rfl⟩
  simp [bodyPostS, results, Tryz.results55]

set_option maxRecDepth 100000 in
theorem packCatch_idle (w : World) :
    CallsD Tryz.prog 55 #[] .returning w fun e u' w' => e = .returned (.tuple #[]) ∧ u' = .returning ∧ w' = w := by
  refine callsD_of_wpS Tryz.func55 rfl fun c₀ cs hu => ?_
  apply wpS_region
  simp [wpOpsS, go_sem, recoverD, hu, Tryz.ntmps55]
  refine (passOn_nil w).mono ?_
  rintro e w' ⟨rfl, rfl⟩
  cases c₀
  simp_all [bodyPostS, results, Tryz.results55]

/-- what Pack leaves -/
def PackIPost (ys : List Nat) (w : World) (e : Ending) (w' : World) : Prop :=
  ∃ oa cap, e = .returned (.slice oa ys.length cap) ∧ MB w' w.heap.size oa ys ∧ Below w.heap.size w w'
/-- the same, and its room -/
def PackICap (ys : List Nat) (w : World) (e : Ending) (w' : World) : Prop :=
  ∃ oa cap, e = .returned (.slice oa ys.length cap) ∧ MB w' w.heap.size oa ys ∧ Below w.heap.size w w' ∧ ys.length ≤ cap
theorem PackICap.post {ys : List Nat} {w : World} {e : Ending} {w' : World} (h : PackICap ys w e w') : PackIPost ys w e w' := let ⟨oa, cap, h1, h2, h3, _⟩ := h; ⟨oa, cap, h1, h2, h3⟩

set_option maxRecDepth 100000 in
theorem u64n_wrap {n : Nat} (h : n < 18446744073709551616) : u64n (wrap64 (n : Int)) = n := by unfold u64n wrap64; omega
theorem i64_wrap (n : Int) : I64 (wrap64 n) := by unfold I64 wrap64; omega

set_option maxRecDepth 100000 in
theorem wr_new (w : World) (M : Array Value) (hM : M.size = 4096) : Wr ((w.alloc (.cells M 5)).alloc (.cells #[.slice (some ⟨w.heap.size, 0, none⟩) 4096 4096, .int .i64 0] 103)) (w.heap.size + 1) w.heap.size [] := by
  refine ⟨⟨by simp, by simp, by simp, fun o => by simp⟩, by omega, ⟨M, ?_, hM, by simp, fun i hi => absurd hi (Nat.not_lt_zero _)⟩⟩
  rw [Below.heap_alloc _ _ _ (by simp)]
  exact blk_new_at _ _ _ rfl

set_option maxRecDepth 100000 in
theorem implPack_cap (a : Option Addr) (cap : Nat) (g : GG) (w : World) (hg : g.Ok) (ha : NodesAt w.heap.size w a g.nodes) :
    Calls Tryz.prog 27 #[g.val a cap] w (PackICap (packB g) w) := by
  have hX0 := GBox.new w g a cap 41
  cases hok : okG g with
  | false =>
    have hz : Hid (packB g = []) := if_neg (by rw [hok]; simp)
    have hok' : Hid _ := hok
    go_enter_defers Tryz.func27, Tryz.ntmps27
    go_wp2_with (go_at_call 57; refine (implGraphOk_any a cap g _ hg (ha.grow (gal (gre _) _))).mono ?_; rintro e w1 ⟨rfl, hb1⟩; rw [hok'.out])
    refine leaves_cons (f := 55) (args := #[]) (by simp) (by simp [go_sem]) ?_
    refine (packCatch_idle _).mono ?_
    rintro e u' w'' ⟨rfl, rfl, rfl⟩
    refine ⟨_, results_tmp rfl _ _ _, ?_⟩
    exact ⟨none, 0, by rw [hz.out]; rfl, Or.inl hz.out, gca (gal (gre _) _) hb1, by rw [hz.out]; exact Nat.le_refl _⟩
  | true =>
    have hok' : Hid _ := hok
    obtain ⟨i0, hi, hz0, hz1, hz2⟩ := info_parts info_u8
    obtain ⟨M, hM⟩ := hid_ex (madeCells #[Value.int .u8 0] 4096)
    have hMs : M.size = 4096 := by rw [hM.out, size_madeCells]
    have hmk : ∀ u : World, (Instr.makeSlice 52 (.int .i64 4096) (.int .i64 4096)).run Tryz.prog u = .ok (.slice (some ⟨u.heap.size, 0, none⟩) 4096 4096) (u.alloc (.cells M 5)) := fun u => by
      have h := run_make (P := Tryz.prog) u 52 5 i0 _ Tryz.underlying52 hi hz0 .i64 .i64 4096 4096 (by omega) (Int.le_refl _) (by rw [hz2]; omega) (by omega)
      rw [hM.out]
      simpa [hz1, Value.cells] using h
    obtain ⟨c, hc⟩ := hid_ex (canon g)
    have hcz : Hid (canonZ g = c) := by show _ = _; rw [hc.out]; exact if_pos hok
    have hcok : okG c = true := by rw [hc.out]; exact canon_okG hok
    have hcO : c.Ok := by rw [hc.out]; exact canon_ok hg hok
    have hcb := graphB_bytes hcok
    have him : Hid (imageB g = graphB c ++ lowB 8 (sumN (graphB c))) := by show _ = _; unfold imageB formB; rw [← hc.out]
    have hsl := u64n_wrap (sumN_lt (graphB c))
    have hlow := lowB_length 8 (sumN (graphB c))
    clear hM
    go_enter_defers Tryz.func27, Tryz.ntmps27
    go_wp2_with (first
      | (go_at_call 61; refine (passed_any _ _ 4096 4096 _ _ hW6.cur (by omega) (by decide) hW6.le).mono ?_; rintro e w7 ⟨rfl, hb7⟩; have hW7 := hW6.grow hb7)
      | (go_at_call 57; refine (implGraphOk_any a cap g _ hg (ha.grow (gal (gre _) _))).mono ?_; rintro e w1 ⟨rfl, hb1⟩; have hX1 := hX0.grow hb1; obtain ⟨xz, x0, x1, x2, x3, x4⟩ := id hX1; rw [hok'.out]; have hWn := wr_new w1 M hMs)
      | (go_at_call 59; refine (implCanon_any a cap g _ hg (ha.grow (gal (gal (gca (gal (gre _) _) hb1) _) _))).mono ?_; rintro e w3 ⟨na, nc, nl, rfl, hnl, hown, hb3⟩; rw [hcz.out] at hnl ⊢; have hW3 := hWn.grow hb3; simp only [World.size_alloc] at hown)
      | (go_at_call 58; refine (writeGraph_any (w1.heap.size + 1) w1.heap.size [] c na nc (w1.heap.size + 1 + 1) nl _ hW3 hcO hcok hnl (fun w' hK => hown.kept hK (fun b hb hp => by have := (hown.nodes.lt b (by rw [hb]; rfl)).1; omega) (fun x hx b hb hp => by have := ((hown.vals x hx).lt b (by rw [hb]; rfl)).1; omega))).mono ?_; rintro e w4 ⟨hK4, h4⟩; rw [List.nil_append] at h4; obtain ⟨hf4, rfl, hW4⟩ | ⟨hno4, rfl⟩ := h4)
      | (go_at_call 52; refine (implSumOf_any _ (graphB c) 4096 _ (brow_bytes hW5.row) (by have := hW5.le; unfold maxLen; omega) hcb).mono ?_; rintro e w55 ⟨rfl, hb55⟩; have hW55 := hW5.grow hb55)
      | (go_at_call 60; refine (writeWord_any _ _ (graphB c) _ _ hW55 (i64_wrap _)).mono ?_; rintro e w6 ⟨hK6, h6⟩; rw [hsl] at h6; obtain ⟨hf6, rfl, hW6⟩ | ⟨hno6, rfl⟩ := h6)
      | (go_at_call 61; refine (passed_any _ _ 4096 4096 _ _ hW4.cur (by omega) (by decide) hW4.le).mono ?_; rintro e w5 ⟨rfl, hb5⟩; have hW5 := hW4.grow hb5))
    · have hB3 : Below w.heap.size w w3 := gca (gal (gal (gca (gal (gre _) _) hb1) _) _) hb3
      have hB4 := hB3.trans (hK4.below hB3.size (fun k hk hp => by omega))
      have hB6 := (gca (gca hB4 hb5) hb55).trans (hK6.below (gca (gca hB4 hb5) hb55).size (fun k hk hp => by omega))
      have hz : packB g = graphB c ++ lowB 8 (sumN (graphB c)) := by
        rw [← him.out]
        exact if_pos ⟨hok, by rw [him.out, List.length_append]; exact hf6⟩
      refine leaves_cons (f := 55) (args := #[]) (by simp) (by simp [go_sem]) ?_
      refine (packCatch_idle _).mono ?_
      rintro e u' w'' ⟨rfl, rfl, rfl⟩
      refine ⟨_, results_tmp rfl _ _ _, ?_⟩
      exact ⟨some ⟨w1.heap.size, 0, none⟩, 4096, by rw [hz, List.length_append, hlow]; rfl, Or.inr ⟨w1.heap.size, 4096, rfl, by omega, by rw [hz]; exact hW7.row⟩, gca hB6 hb7, by rw [hz, List.length_append]; exact hf6⟩
    · have hB3 : Below w.heap.size w w3 := gca (gal (gal (gca (gal (gre _) _) hb1) _) _) hb3
      have hB4 := hB3.trans (hK4.below hB3.size (fun k hk hp => by omega))
      have hB6 := (gca (gca hB4 hb5) hb55).trans (hK6.below (gca (gca hB4 hb5) hb55).size (fun k hk hp => by omega))
      have hz : packB g = [] := if_neg (fun h => by have h2 := h.2; rw [him.out, List.length_append] at h2; omega)
      refine leaves_cons (f := 55) (args := #[]) (by simp) (by simp [go_sem]) ?_
      refine (packCatch_panicking [] _).mono ?_
      rintro e u' w'' ⟨rfl, rfl, rfl⟩
      refine ⟨_, results_tmp rfl _ _ _, ?_⟩
      exact ⟨none, 0, by rw [hz]; rfl, Or.inl hz, hB6, by rw [hz]; exact Nat.le_refl _⟩
    · have hB3 : Below w.heap.size w w3 := gca (gal (gal (gca (gal (gre _) _) hb1) _) _) hb3
      have hB4 := hB3.trans (hK4.below hB3.size (fun k hk hp => by omega))
      have hz : packB g = [] := if_neg (fun h => by have h2 := h.2; rw [him.out, List.length_append] at h2; simp at hno4; omega)
      refine leaves_cons (f := 55) (args := #[]) (by simp) (by simp [go_sem]) ?_
      refine (packCatch_panicking [] _).mono ?_
      rintro e u' w'' ⟨rfl, rfl, rfl⟩
      refine ⟨_, results_tmp rfl _ _ _, ?_⟩
      exact ⟨none, 0, by rw [hz]; rfl, Or.inl hz, hB4, by rw [hz]; exact Nat.le_refl _⟩

theorem implPack_any (a : Option Addr) (cap : Nat) (g : GG) (w : World) (hg : g.Ok) (ha : NodesAt w.heap.size w a g.nodes) :
    Calls Tryz.prog 27 #[g.val a cap] w (PackIPost (packB g) w) := (implPack_cap a cap g w hg ha).mono fun _ _ h => h.post

end Go.Proofs.YthjddpkegooobacGreat

/-
  ASTEPS: the program's steps, each a function of its own. Own work.
-/
namespace Go.Proofs.YthjddpkegooobacGreat
open Go.RowKit

/-- a block of cells of a type -/
def IsT (t : TypeId) (w : World) (z : Nat) : Prop := ∃ c, w.heap[z]? = some (.cells c t (0, 0))
theorem IsT.lt {t : TypeId} {w : World} {z : Nat} (h : IsT t w z) : z < w.heap.size := let ⟨_, hc⟩ := h; (Array.getElem?_eq_some_iff.1 hc).1
theorem IsT.eq {t t' : TypeId} {w : World} {z : Nat} (h : IsT t w z) (h' : IsT t' w z) : t = t' := by
  obtain ⟨c, hc⟩ := h
  obtain ⟨c', hc'⟩ := h'
  rw [hc] at hc'
  injection hc' with e
  injection e
theorem owns_isT {w : World} {t : TypeId} {base size n cap : Nat} {a : Option Addr} {xs : List Value} (h : w.ownsRow base t size (.slice a n cap) n xs) {z : Nat} (hz : (Value.slice a n cap).ownBlock = some z) : IsT t w z ∧ base ≤ z := by
  have ha := owns_addr h hz
  rcases h.2 with ⟨e, _⟩ | ⟨g, cap', cur, hv, hb, hg, _⟩
  · simp at e
    rw [e.1] at ha
    cases ha
  · simp only [Value.slice.injEq] at hv
    rw [ha] at hv
    obtain rfl := some_addr hv.1
    exact ⟨⟨cur, hg⟩, hb⟩

theorem info_step : (Tryz.prog.info? 158).map (fun i => (i.zero, i.size, i.bytes)) = some (some .nilFunc, 1, 8) := by kernel_rfl

/-- a step -/
def stepV (V b : Nat) : Value := .func (.func 99) #[] #[.pointer (some ⟨b, 0, none⟩), .pointer (some ⟨V, 0, none⟩)]
/-- an op's own variable -/
def OBx (w : World) (b : Nat) (o : OP) (a : Option Addr) (c : Nat) : Prop := w.heap[b]? = some (.cells #[.bool o.sync, .int .i64 o.block, .slice a o.bytes.length c] 98 (0, 0))
/-- the drive's own variable -/
def VBx (w : World) (V p : Nat) : Prop := w.heap[V]? = some (.cells #[.pointer (some ⟨p, 0, none⟩)] 108 (0, 0))
theorem OBx.isT {w : World} {b : Nat} {o : OP} {a : Option Addr} {c : Nat} (h : OBx w b o a c) : IsT 98 w b := ⟨_, h⟩
theorem VBx.isT {w : World} {V p : Nat} (h : VBx w V p) : IsT 108 w V := ⟨_, h⟩

/-- steps that stand ready -/
structure Ready (w0 w : World) (base V p : Nat) (ops : List OP) (k : Nat) (sa : Option Addr) (sc : Nat) (obs : List Nat) : Prop where
  len : obs.length = k
  row : w.ownsRow base 158 1 (.slice sa k sc) k (obs.map (stepV V))
  ob : ∀ j, j < k → ∃ a c, OBx w obs[j]! ops[j]! a c ∧ BytesAt w0 a ops[j]!.bytes ∧ base ≤ obs[j]!
  v : VBx w V p
  bV : base ≤ V

theorem Ready.kept {q : Nat → Prop} {w0 w w' : World} {base V p : Nat} {ops : List OP} {k : Nat} {sa : Option Addr} {sc : Nat} {obs : List Nat} (h : Ready w0 w base V p ops k sa sc obs) (hK : Kept q w w') (h1 : ∀ z, base ≤ z → IsT 158 w z → ¬ q z) (h2 : ∀ z, base ≤ z → IsT 98 w z → ¬ q z) (h3 : ∀ z, base ≤ z → IsT 108 w z → ¬ q z) : Ready w0 w' base V p ops k sa sc obs :=
  ⟨h.len, hK.owns h.row (fun z hz => h1 z (owns_isT h.row hz).2 (owns_isT h.row hz).1), fun j hj => by
    obtain ⟨a, c, ho, hb, hl⟩ := h.ob j hj
    exact ⟨a, c, (hK.block _ ho.isT.lt (h2 _ hl ho.isT)).trans ho, hb, hl⟩, (hK.block _ h.v.isT.lt (h3 _ h.bV h.v.isT)).trans h.v, h.bV⟩

/-- what steps answers -/
def StepsP (w0 : World) (p : Nat) (ops : List OP) (w : World) (e : Ending) (w' : World) : Prop :=
  ∃ sa sc V obs, e = .returned (.slice sa ops.length sc) ∧ Ready w0 w' w.heap.size V p ops ops.length sa sc obs ∧ Below w.heap.size w w'

theorem Ready.next {w0 w : World} {base V p : Nat} {ops : List OP} {k : Nat} {sa : Option Addr} {sc : Nat} {obs : List Nat} (h : Ready w0 w base V p ops k sa sc obs) {O : Nat} {a : Option Addr} {c : Nat} {x : OP} (hxe : x = ops[k]!) (ho : OBx w O x a c) (hb : BytesAt w0 a x.bytes) (hO : base ≤ O) {w' : World} {g cc : Nat}
    (hown : w'.ownsRow base 158 1 (.slice (some ⟨g, 0, none⟩) (k + 1) cc) (k + 1) (obs.map (stepV V) ++ [stepV V O])) (hg : w.grownBy w' (Value.slice sa k sc).ownBlock) : Ready w0 w' base V p ops (k + 1) (some ⟨g, 0, none⟩) cc (obs ++ [O]) := by
  subst hxe
  have hK := Kept.of_grown hg
  have hx : ∀ {t : TypeId} {z : Nat}, t ≠ 158 → IsT t w z → ¬ ((Value.slice sa k sc).ownBlock = some z) := fun ht hz e => ht (hz.eq (owns_isT h.row e).1)
  have key : ∀ j, j < k → (obs ++ [O])[j]! = obs[j]! := fun j hj => by
    have := h.len
    rw [getElem!_pos _ j (by simp; omega), getElem!_pos obs j (by omega), List.getElem_append_left]
  have keyk : (obs ++ [O])[k]! = O := by
    have := h.len
    rw [getElem!_pos _ k (by simp; omega), List.getElem_append_right (by omega)]
    simp
  refine ⟨by simp [h.len], by simpa using hown, fun j hj => ?_, (hK.block _ h.v.isT.lt (hx (by decide) h.v.isT)).trans h.v, h.bV⟩
  rcases Nat.lt_or_ge j k with hj' | hj'
  · obtain ⟨a1, c1, ho1, hb1, hl1⟩ := h.ob j hj'
    rw [key j hj']
    exact ⟨a1, c1, (hK.block _ ho1.isT.lt (hx (by decide) ho1.isT)).trans ho1, hb1, hl1⟩
  · obtain rfl : j = k := by omega
    rw [keyk]
    exact ⟨a, c, (hK.block _ ho.isT.lt (hx (by decide) ho.isT)).trans ho, hb, hO⟩

set_option maxHeartbeats 4000000 in
set_option maxRecDepth 100000 in
theorem steps_any (p : Nat) (oa : Option Addr) (oc : Nat) (ops : List OP) (w0 w : World) (hl : ops.length ≤ 1048576) (ha : OpsAt w0 oa ops) (hb0 : Below w0.heap.size w0 w) :
    Calls Tryz.prog 64 #[.pointer (some ⟨p, 0, none⟩), .slice oa ops.length oc] w (StepsP w0 p ops w) := by
  obtain ⟨i0, hi, hz0, hz1, hz2⟩ := info_parts info_step
  have hV0 : VBx (w.alloc (.cells #[.pointer (some ⟨p, 0, none⟩)] 108)) w.heap.size p := World.alloc_heap_new w _
  have hB0 := gal (gre w) (.cells #[.pointer (some ⟨p, 0, none⟩)] 108)
  obtain ⟨n, hn⟩ := hid_ex ops.length
  have hn2 : n ≤ 1048576 := by rw [hn.out]; exact hl
  rw [← hn.out]
  go_enter Tryz.func64, Tryz.ntmps64
  go_wp2
  go_loopw [10, 5] (fun i s wr => ∃ (k : Nat) (sa : Option Addr) (sc : Nat) (obs : List Nat), k ≤ n ∧ i = .int .i64 (k : Int) ∧ s = .slice sa k sc ∧ Ready w0 wr w.heap.size w.heap.size p ops k sa sc obs ∧ Below w.heap.size w wr) (fun i _ _ => n - (intOf i).toNat)
  case atStart => exact ⟨0, none, 0, [], Nat.zero_le _, rfl, rfl, ⟨rfl, ⟨rfl, Or.inl ⟨rfl, rfl⟩⟩, fun j hj => absurd hj (Nat.not_lt_zero _), hV0, Nat.le_refl _⟩, hB0⟩
  case round =>
    obtain ⟨k, sa, sc, obs, hk, rfl, rfl, hR, hB⟩ := hrel
    by_cases hlt : k < n
    · have hki : (k : Int) < (n : Int) := by omega
      have hk0 : (0 : Int) ≤ (k : Int) := by omega
      obtain ⟨x, b, off, a', cap, hx, _, rfl, c0, c1, c2, hbx⟩ := ha.get (k := k) (by rw [← hn.out]; exact hlt)
      have hBw := gca hb0 hB
      have d0 := cell_later hBw c0
      have d1 := cell_later hBw c1
      have d2 := cell_later hBw c2
      have hO1 : OBx (wr.alloc (.cells #[.bool x.sync, .int .i64 x.block, .slice a' x.bytes.length cap] 98)) wr.heap.size x a' cap := World.alloc_heap_new wr _
      have hsz : w.heap.size ≤ wr.heap.size := hB.size
      have hB2 := gal (gal hB (.cells #[.bool x.sync, .int .i64 x.block, .slice a' x.bytes.length cap] 98)) (.cells #[stepV w.heap.size wr.heap.size] 158)
      have hR2 : Ready w0 ((wr.alloc (.cells #[.bool x.sync, .int .i64 x.block, .slice a' x.bytes.length cap] 98)).alloc (.cells #[stepV w.heap.size wr.heap.size] 158)) w.heap.size w.heap.size p ops k sa sc obs := hR.kept (((Kept.refl (fun _ => False) wr).alloc _).alloc _) (fun _ _ _ e => e) (fun _ _ _ e => e) (fun _ _ _ e => e)
      have hO2 : OBx ((wr.alloc (.cells #[.bool x.sync, .int .i64 x.block, .slice a' x.bytes.length cap] 98)).alloc (.cells #[stepV w.heap.size wr.heap.size] 158)) wr.heap.size x a' cap := (Below.heap_alloc _ _ _ (by simp)).trans hO1
      have hN2 : ((wr.alloc (.cells #[.bool x.sync, .int .i64 x.block, .slice a' x.bytes.length cap] 98)).alloc (.cells #[stepV w.heap.size wr.heap.size] 158)).heap[wr.heap.size + 1]? = some (.cells #[stepV w.heap.size wr.heap.size] 158 (0, 0)) := by have := World.alloc_heap_new (wr.alloc (.cells #[.bool x.sync, .int .i64 x.block, .slice a' x.bytes.length cap] 98)) (.cells #[stepV w.heap.size wr.heap.size] 158); rwa [World.size_alloc] at this
      go_wp2_with (at_builtin; refine wpList_append_lies _ rfl (.tmp 14) (.tmp 16) 113 rfl w.heap.size 158 i0 _ 1 8 Tryz.underlying113 hi hz0 hz1 hz2 rfl (by decide) _ _ _ rfl hR2.row ⟨wr.heap.size + 1, 0, none⟩ 1 1 [stepV w.heap.size wr.heap.size] rfl rfl (World.news_of_block (cs := #[stepV w.heap.size wr.heap.size]) (t := 158) (fr := (0, 0)) hN2) (by simp [stepV, Value.oneCell']) (by decide) (by unfold maxLen; omega) (by omega) (by simp; omega) (wr.heap.size + 2) (by simp) ?_; intro gg cc w8 hown8 hgrow8 hat8 hlt8)
      have hR3 := hR2.next hx.out hO2 hbx (by omega) hown8 hgrow8
      have hB3 : Below w.heap.size w w8 := hB2.trans ((Kept.of_grown hgrow8).below hB2.size (fun z hz e => by have := (owns_isT hR2.row e).2; omega))
      go_roundw
      case rel => exact ⟨k + 1, some ⟨gg, 0, none⟩, cc, _, by omega, by go_num, rfl, hR3, hB3⟩
      case measure => simp [intOf]; omega
    · obtain rfl : k = n := by omega
      have hki : ¬ ((k : Int) < (k : Int)) := by omega
      go_wp2
      go_ret
      exact ⟨sa, sc, w.heap.size, obs, by rw [← hn.out]; rfl, by rw [← hn.out]; exact hR, hB⟩

end Go.Proofs.YthjddpkegooobacGreat
