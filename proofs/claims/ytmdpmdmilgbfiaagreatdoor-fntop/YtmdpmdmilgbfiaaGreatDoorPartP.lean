import Derived.Recover
import Derived.Laws.Pointers
import Derived.Laws.EntriesVeiled
import Derived.Test.YtmdpmdmilgbfiaaGreatDoorPartO
namespace Go.Proofs.YtmdpmdmilgbfiaaGreatDoor
open Go.RowKit
set_option maxRecDepth 100000
set_option maxHeartbeats 8000000
theorem wpList_append_str {P : Program} {ops : Array Oper} {rest : List Oper} {o : Oper} {a : Act} {Q : Exit → Act → World → Prop} {w : World} (hgd : o.guard = none) (sl x : Operand) (t u : TypeId)
  (ho : o.op = .call { callee := .builtin .append, args := #[sl, x], argTypes := #[t, u] })
  (base : Nat) (e : TypeId) (i : TypeInfo) (ht : P.underlying t = some (.slice e)) (hu : P.underlying u = some .string) (hi : P.info? e = some i) (hz : i.zero = some (.int .u8 0))
  (hsize : i.size = 1) (hby : i.bytes = 1)
  (v : Value) (n : Nat) (xs : List Value) (hs : a.eval sl = v) (hown : w.ownsRow base e 1 v n xs) (s : ByteArray) (hx : a.eval x = .string s)
  (h63 : n + s.size ≤ maxLen) (hbytes : n + s.size ≤ 140737488355328) (hbase : base ≤ w.heap.size) (hn : 0 < n)
  (h : ∀ g cap w', w'.ownsRow base e 1 (.slice (some ⟨g, 0, none⟩) (n + s.size) cap) (n + s.size) (xs ++ Lib.strCells s) → w.grownBy w' v.ownBlock → (v.ownBlock = some g ∨ g = w.heap.size) → wpList P ops Q rest (a.put o.dst (.slice (some ⟨g, 0, none⟩) (n + s.size) cap)) w') : wpList P ops Q (o :: rest) a w := by
 refine wpList_plain hgd fun K hK => ?_
 obtain ⟨g, cap, w', hr, h2, h3, h4⟩ := append_str_lies (P := P) w base t u o.type e i ht hu hi hz hsize hby v n xs hown s h63 hbytes hbase hn
 unfold Oper.wp execOp
 simp only [ho, resolve, invoke, builtin, Sem.run_bind, Sem.run_pure, Result.andThen_ok, List.map_toArray, List.map_cons, List.map_nil, hs, hx, hr]
 exact hK _ _ (h g cap w' h2 h3 h4)
theorem strCells_bs (s : ByteArray) : Lib.strCells s = bcells (bsOf s) := by
 unfold Lib.strCells bcells bsOf
 rw [List.map_map]
 rfl
theorem l2val_text (base : Nat) (oa : Option Addr) (cap : Nat) (xs : List Nat) (text : ByteArray) (w : World) (hn : text.size ≤ 1000) (hbase : base ≤ w.heap.size) (hl : xs.length ≤ 1099511600000)
  (hO : w.ownsRow base 5 1 (.slice oa xs.length cap) xs.length (bcells xs)) :
  Calls Tryz.prog 89 #[.slice oa xs.length cap, (GV.mk 3 0 text 0).val] w (APost base oa xs (3 :: (numB text.size ++ bsOf text)) w) := by
 obtain ⟨i0, hi, hz0, hz1, hz2⟩ := info_parts info_u8
 have hF := (Four.new w ⟨3, 0, text, 0⟩ 29).alloc (.cells #[.int .u8 3] 5)
 have hn0 : ¬ ((Value.slice oa xs.length cap).ownBlock = some w.heap.size) := fun e => by have := (hO.lt _ e).2; omega
 have e6 : IntKind.u64.wrap (text.size : Int) = (text.size : Int) := by rw [IntKind.wrap_u64]; omega
 have hten := numB_ten (n := text.size) (by omega)
 have hbl := bsOf_length text
 go_enter Tryz.func89, Tryz.ntmps89
 go_wp2_with (first
  | (at_builtin; refine wpList_append_str rfl (.tmp 35) (.tmp 37) 22 9 rfl base 5 i0 Tryz.underlying22 Tryz.underlying9 hi hz0 hz1 hz2 _ _ _ rfl hRo text rfl (by unfold maxLen; omega) (by omega) (by omega) (by omega) ?_; intro g4 cap4 w4 hown4 hgrow4 hat4)
  | (at_builtin; refine wpList_append_lies _ rfl (.tmp 5) (.tmp 9) 22 rfl base 5 i0 (.int .u8 0) 1 1 Tryz.underlying22 hi hz0 hz1 hz2 rfl (by decide) _ _ _ rfl ((hO.alloc _).alloc _) ⟨w.heap.size + 1, 0, none⟩ 1 1 [.int .u8 3] rfl rfl (World.news_of_block (cs := #[.int .u8 3]) (t := 5) (fr := (0, 0)) (blk_new_at _ _ _ (by simp))) (by simp [Value.oneCell']) (by decide) (by unfold maxLen; omega) (by omega) (by simp; omega) (w.heap.size + 2) (by simp) ?_; intro g cap2 w1 hown1 hgrow hat hlt2; have hF1 := hF.kept (Kept.of_grown hgrow) hn0; obtain ⟨fz, f0, f1, f2, f3, ff⟩ := id hF1; have hP := (Ob.start hO).push (ys := [3]) (gal (gal (gre _) _) _) hown1 hgrow (hat.elim Or.inl (fun h => Or.inr (by omega))); have hs1 := hP.kept.size; have hg1 : w.heap.size ≠ g := (hat.elim (fun h => fun e => hn0 (by rw [e]; exact h)) (fun h => by omega)))
  | (go_at_call 88; refine (l2num_any base _ _ _ (xs ++ [3]) text.size _ _ (by simp) ?_ (by omega) (by omega) (by simp; omega) hP.own).mono ?_; (first | rfl | exact e6); rintro e w3 ⟨oa3, cap3, rfl, hQ⟩; obtain ⟨gz, g0, g1, g2, g3, gf⟩ := hF1.kept hQ.kept (fun e => hg1 (some_addr e).symm); have hR := hP.call hQ; have hs3 := hR.kept.size; obtain ⟨ln, hln⟩ := hid_ex (xs ++ [3] ++ numB text.size).length; have hRo := hR.own; rw [← hln.out] at hRo; rw [← hln.out]; have hln1 : ln ≤ xs.length + 11 ∧ 0 < ln := (by have h := hln.out; simp only [List.length_append, List.length_singleton] at h; omega)))
 go_ret
 have e4 : ln + text.size = (xs ++ [3] ++ numB text.size).length + (bsOf text).length := by rw [hln.out, hbl]
 rw [strCells_bs, e4] at hown4
 have hT := hR.push (wa := w3) (ys := bsOf text) (gre _) hown4 (by rw [← hln.out]; exact hgrow4) (by rw [← hln.out]; exact hat4.elim Or.inl (fun h => Or.inr (by omega)))
 have e5 : xs ++ [3] ++ numB text.size ++ bsOf text = xs ++ (3 :: (numB text.size ++ bsOf text)) := by simp
 rw [e5] at hT
 refine ⟨_, _, ?_, hT⟩
 rw [← e5, List.length_append, ← e4]
 rfl
theorem l2val_any (base n : Nat) (oa : Option Addr) (len cap : Nat) (xs : List Nat) (v : GV) (w : World) (hlen : len = xs.length) (hn : n ≤ 300) (ho : v.Ok) (hv : okV n v = true) (hbase : base ≤ w.heap.size) (hl : xs.length ≤ 1099511600000)
  (hO : w.ownsRow base 5 1 (.slice oa xs.length cap) xs.length (bcells xs)) :
  Calls Tryz.prog 89 #[.slice oa len cap, v.val] w (APost base oa xs (valB v) w) := by
 subst hlen
 rcases okV_cases hv with rfl | ⟨m, rfl⟩ | ⟨m, rfl⟩ | ⟨t, ht, rfl⟩ | ⟨k, hk, rfl⟩
 · exact l2val_nil base oa cap xs w hbase hl hO
 · exact l2val_num base oa cap xs m w ho.num hbase hl hO
 · exact l2val_bits base oa cap xs m w hbase hl hO
 · exact l2val_text base oa cap xs t w ht hbase hl hO
 · exact l2val_node base oa cap xs k w (by omega) hbase hl hO
def PackSPost (ys : List Nat) (w : World) (e : Ending) (w' : World) : Prop :=
 ∃ oa cap, e = .returned (.slice oa ys.length cap) ∧ w'.ownsRow w.heap.size 5 1 (.slice oa ys.length cap) ys.length (bcells ys) ∧ Below w.heap.size w w'
theorem owns_two (w : World) (base : Nat) (hb : base ≤ w.heap.size) : (w.alloc (.cells #[.int .u8 72, .int .u8 49] 5)).ownsRow base 5 1 (.slice (some ⟨w.heap.size, 0, none⟩) 2 2) 2 (bcells [72, 49]) :=
 ⟨rfl, Or.inr ⟨w.heap.size, 2, #[.int .u8 72, .int .u8 49], rfl, hb, blk_new_at _ _ _ rfl, by decide, by decide, rfl, rfl⟩⟩
theorem owns_bytesO {w : World} {base : Nat} {oa : Option Addr} {len cap n : Nat} {zs : List Nat} (h : w.ownsRow base 5 1 (.slice oa len cap) n (bcells zs)) : BytesAt w oa zs := fun i hi => by
 obtain ⟨g, ha, _, _, hc⟩ := owns_cell h (bcells_get hi)
 exact ⟨g, 0, ha, by rw [Nat.zero_add]; exact hc⟩
theorem valB_bytes {n : Nat} {v : GV} (h : okV n v = true) : ∀ x, x ∈ valB v → x < 256 := by
 intro x hx
 rcases okV_cases h with rfl | ⟨m, rfl⟩ | ⟨m, rfl⟩ | ⟨t, ht, rfl⟩ | ⟨k, hk, rfl⟩
 ·
  have h1 : x ∈ [0] := hx
  have := List.mem_singleton.1 h1; omega
 ·
  have h1 : x ∈ 1 :: numB (zig m) := hx
  rcases List.mem_cons.1 h1 with h2 | h2
  · omega
  · exact numB_byte _ x h2
 ·
  have h1 : x ∈ 2 :: lowB 8 (u64n m) := hx
  rcases List.mem_cons.1 h1 with h2 | h2
  · omega
  · exact lowB_byte _ _ x h2
 ·
  have h1 : x ∈ 3 :: (numB t.size ++ bsOf t) := hx
  rcases List.mem_cons.1 h1 with h2 | h2
  · omega
  ·
   rcases List.mem_append.1 h2 with h3 | h3
   · exact numB_byte _ x h3
   · exact bsOf_byte h3
 ·
  have h1 : x ∈ 4 :: numB k := hx
  rcases List.mem_cons.1 h1 with h2 | h2
  · omega
  · exact numB_byte _ x h2
theorem valsB_bytes {n : Nat} {l : List GV} (h : ∀ v, v ∈ l → okV n v = true) : ∀ x, x ∈ valsB l → x < 256 := by
 induction l with
 | nil => intro x hx; cases hx
 | cons v r ih =>
  intro x hx
  rcases List.mem_append.1 hx with h1 | h1
  · exact valB_bytes (h v (List.mem_cons_self ..)) x h1
  · exact ih (fun y hy => h y (List.mem_cons_of_mem _ hy)) x h1
theorem nodesB_bytes {n : Nat} {l : List GN} (h : ∀ v, v ∈ l → okN n v = true) : ∀ x, x ∈ nodesB l → x < 256 := by
 induction l with
 | nil => intro x hx; cases hx
 | cons v r ih =>
  intro x hx
  rcases List.mem_append.1 hx with h1 | h1
  ·
   rcases List.mem_append.1 h1 with h2 | h2
   · exact numB_byte _ x h2
   ·
    rcases List.mem_append.1 h2 with h3 | h3
    · exact numB_byte _ x h3
    · exact valsB_bytes (okN_parts (h v (List.mem_cons_self ..))).2 x h3
  · exact ih (fun y hy => h y (List.mem_cons_of_mem _ hy)) x h1
theorem graphB_bytes {g : GG} (hok : okG g = true) : ∀ x, x ∈ graphB g → x < 256 := by
 obtain ⟨_, hroot, hnodes⟩ := okG_parts hok
 intro x hx
 rcases List.mem_append.1 hx with h1 | h1
 · simp at h1; omega
 ·
  rcases List.mem_append.1 h1 with h2 | h2
  · exact numB_byte _ x h2
  ·
   rcases List.mem_append.1 h2 with h3 | h3
   · exact valB_bytes hroot x h3
   · exact nodesB_bytes hnodes x h3
theorem formB_bytes {g : GG} (hok : okG g = true) : ∀ x, x ∈ formB g → x < 256 := by
 intro x hx
 rcases List.mem_append.1 hx with h1 | h1
 · exact graphB_bytes hok x h1
 · exact lowB_byte _ _ x h1
theorem Ob.back {w0 w1 w : World} {base b0 : Nat} {oa : Option Addr} {cap : Nat} {zs : List Nat} (h : Ob w0 base (some ⟨b0, 0, none⟩) w oa cap zs) (hb : Below w1.heap.size w1 w0) (h0 : w1.heap.size ≤ b0) : Below w1.heap.size w1 w :=
 hb.trans (h.kept.below hb.size (fun k hk e => by have := some_addr e; omega))
theorem l2pack_any (a : Option Addr) (cap : Nat) (g : GG) (w : World) (hg : g.Ok) (hok : okG g = true) (ha : NodesAt w.heap.size w a g.nodes) :
  Calls Tryz.prog 49 #[g.val a cap] w (PackSPost (imageB g) w) := by
 obtain ⟨c, hc⟩ := hid_ex (canon g)
 have hcok : okG c = true := by rw [hc.out]; exact canon_okG hok
 have hcO : c.Ok := by rw [hc.out]; exact canon_ok hg hok
 obtain ⟨hl300, hroot, hnodes⟩ := okG_parts hcok
 have hgl : Hid (graphB c = gheadB c ++ nodesB c.nodes) := graphB_head c
 have hgl2 : (graphB c).length = (gheadB c).length + (nodesB c.nodes).length := by rw [hgl.out, List.length_append]
 have hglen := graphB_len hcO hcok
 have hnum := numB_ten (n := c.nodes.length) (by omega)
 have e6 := wrap_nat (n := c.nodes.length) (by omega)
 go_enter Tryz.func49, Tryz.ntmps49
 go_wp2_with (first
  | (go_at_call 61; refine (specCanon_any a cap g _ hok (ha.grow (gal (gre _) _))).mono ?_; rintro e w1 ⟨na, nc, rfl, hN, hb1⟩; rw [← hc.out] at hN ⊢; have hF := Five.new_at w1 c.root (.slice na c.nodes.length nc) 32 w1.heap.size rfl; have hO2 := owns_two (w1.alloc (.cells #[.int .i64 c.root.kind, .int .i64 c.root.num, .string c.root.text, .int .i64 c.root.node, .slice na c.nodes.length nc] 32)) (w1.heap.size + 1) (by simp); rw [show (w1.alloc (.cells #[.int .i64 c.root.kind, .int .i64 c.root.num, .string c.root.text, .int .i64 c.root.node, .slice na c.nodes.length nc] 32)).heap.size = w1.heap.size + 1 by simp] at hO2)
  | (go_at_call 88; refine (l2num_any (w1.heap.size + 1) _ _ _ [72, 49] c.nodes.length _ _ rfl ?_ (by omega) (by simp) (by simp) hO2).mono ?_; (first | rfl | exact e6); rintro e w3 ⟨oa3, cap3, rfl, hQ3⟩; obtain ⟨l3, hl3⟩ := hid_ex ([72, 49] ++ numB c.nodes.length).length; rw [← hl3.out]; have hF3 := (hF.kept (Kept.of_below (gal (gre _) _) (fun _ => False)) (fun e => e)).kept hQ3.kept (fun e => by have := some_addr e; omega); obtain ⟨gz, g0, g1, g2, g3, g4, gf⟩ := id hF3; have hs3 := hQ3.kept.size; simp only [World.size_alloc] at hs3)
  | (go_at_call 89; refine (l2val_any (w1.heap.size + 1) c.nodes.length _ _ _ ([72, 49] ++ numB c.nodes.length) c.root _ hl3.out hl300 hcO.root hroot (by omega) (by simp only [List.length_append, List.length_cons, List.length_nil]; omega) hQ3.own).mono ?_; rintro e w4 ⟨oa4, cap4, rfl, hQ4⟩; obtain ⟨l4, hl4⟩ := hid_ex ([72, 49] ++ numB c.nodes.length ++ valB c.root).length; rw [← hl4.out]; have hF4 := hF3.kept hQ4.kept (fun e => by have := (hQ3.lt e).1; omega); obtain ⟨iz, i0, i1, i2, i3, i4, if_⟩ := id hF4))
 have hR4 := hQ3.call hQ4
 obtain ⟨W2, hB12, hW2s, hR⟩ : ∃ W2, Below w1.heap.size w1 W2 ∧ w1.heap.size + 2 ≤ W2.heap.size ∧ Ob W2 (w1.heap.size + 1) (some ⟨w1.heap.size + 1, 0, none⟩) w4 oa4 cap4 (gheadB c) := ⟨_, gal (gal (gre _) _) _, by simp, by have e : [72, 49] ++ numB c.nodes.length ++ valB c.root = gheadB c := (by unfold gheadB; simp only [List.append_assoc]); rw [← e]; exact hR4⟩
 have hl4' : Hid (l4 = (gheadB c).length) := by show _ = _; rw [hl4.out]; unfold gheadB; simp only [List.append_assoc]
 have hw01 : Below w.heap.size w w1 := gca (gal (gre _) _) hb1
 clear hR4 hQ3 hQ4 hF hF3 hF4 hO2 gz g0 g1 g2 g3 g4 gf iz i0 i1 i2 i3 i4 if_ hb1 hl4 hl3 hs3
 go_loopw [4, 25] (fun o i ws => ∃ (k : Nat) (zs : List Nat) (oa1 : Option Addr) (cap1 : Nat), o = .slice oa1 zs.length cap1 ∧ i = .int .i64 k ∧ k ≤ c.nodes.length ∧ Hid (zs = gheadB c ++ nodesB (c.nodes.take k)) ∧ Ob W2 (w1.heap.size + 1) (some ⟨w1.heap.size + 1, 0, none⟩) ws oa1 cap1 zs) (fun _ i _ => c.nodes.length - (intOf i).toNat)
 case atStart => exact ⟨0, gheadB c, oa4, cap4, by rw [hl4'.out], rfl, Nat.zero_le _, by show _ = _; rw [List.take_zero, nodesB, List.append_nil], hR⟩
 case round =>
  obtain ⟨k, zs, oa1, cap1, rfl, rfl, hk, hzs, hOb⟩ := hrel
  have hBs := hOb.back hB12 (by omega)
  have hsz := hBs.size
  have hsz0 := hOb.kept.size
  by_cases hkl : k < c.nodes.length
  ·
   obtain ⟨n, bn, off, va, vc, hnk, hnm, rfl, hbn, hnat⟩ := hN.get hkl
   have hnat2 := hnat.below hBs hbn
   have c0 := hnat2.tag
   have c1 := hnat2.sl
   have hvals := hnat.vals
   have hnok := hnodes n hnm
   have hnO := hcO.nodes n hnm
   obtain ⟨hvl, hvok⟩ := okN_parts hnok
   obtain ⟨ht0, ht1⟩ := okN_tag hnok
   obtain ⟨tg, htg⟩ : ∃ tg : Nat, n.tag = (tg : Int) := ⟨n.tag.toNat, by omega⟩
   have hnb : Hid (nodesB (c.nodes.take (k + 1)) = nodesB (c.nodes.take k) ++ (numB tg ++ (numB n.vals.length ++ valsB n.vals))) := by
    show _ = _
    rw [nodesB_take_succ _ _ hkl, ← hnk.out, nodeB, htg]; rfl
   have hnle : (nodesB (c.nodes.take (k + 1))).length ≤ (nodesB c.nodes).length := nodesB_take_le _ _
   rw [hnb.out] at hnle
   simp only [List.length_append] at hnle
   have hzl : zs.length ≤ 40000000 - ((numB tg).length + ((numB n.vals.length).length + (valsB n.vals).length)) := by rw [hzs.out, List.length_append]; omega
   have hzl2 : (numB tg).length + ((numB n.vals.length).length + (valsB n.vals).length) ≤ 40000000 := by omega
   rw [htg] at c0
   have hT := Two.new_at wr tg (.slice va n.vals.length vc) 37 wr.heap.size rfl
   have e7 := wrap_nat (n := tg) (by omega)
   have e8 := wrap_nat (n := n.vals.length) (by omega)
   have hnp : ¬ (oa1 = some ⟨wr.heap.size, 0, none⟩) := fun e => by have := (hOb.lt e).2; omega
   go_wp2_with (first
    | (go_at_call 88; refine (l2num_any (w1.heap.size + 1) _ _ _ (zs ++ numB tg) n.vals.length _ _ hl5.out ?_ (by omega) (by omega) (by simp only [List.length_append]; omega) hQ5.own).mono ?_; (first | rfl | exact e8); rintro e w6 ⟨oa6, cap6, rfl, hQ6⟩; obtain ⟨l6, hl6⟩ := hid_ex (zs ++ numB tg ++ numB n.vals.length).length; rw [← hl6.out]; obtain ⟨uz, u0, u1, uf, _⟩ := hT5.kept hQ6.kept (fun e => hnp (hQ5.loc _ (by simp) e)))
    | (go_at_call 88; refine (l2num_any (w1.heap.size + 1) _ _ _ zs tg _ _ rfl ?_ (by omega) (by simp only [World.size_alloc]; omega) (by omega) (hOb.grow (gal (gre _) _)).own).mono ?_; (first | rfl | exact e7); rintro e w5 ⟨oa5, cap5, rfl, hQ5⟩; obtain ⟨l5, hl5⟩ := hid_ex (zs ++ numB tg).length; rw [← hl5.out]; have hT5 := hT.kept hQ5.kept hnp; obtain ⟨tz, t0, t1, tf, _⟩ := id hT5; have hs5 := hQ5.kept.size; simp only [World.size_alloc] at hs5))
   have hR6 := ((hOb.grow (gal (gre _) _)).call hQ5).call hQ6
   clear hT hT5 tz t0 t1 tf uz u0 u1 uf hQ5 hQ6 hl5
   go_loopw [4, 43] (fun o i ws => ∃ (m : Nat) (ys : List Nat) (oa2 : Option Addr) (cap2 : Nat), o = .slice oa2 ys.length cap2 ∧ i = .int .i64 m ∧ m ≤ n.vals.length ∧ Hid (ys = zs ++ numB tg ++ numB n.vals.length ++ valsB (n.vals.take m)) ∧ Ob W2 (w1.heap.size + 1) (some ⟨w1.heap.size + 1, 0, none⟩) ws oa2 cap2 ys) (fun _ i _ => n.vals.length - (intOf i).toNat)
   case atStart => exact ⟨0, _, oa6, cap6, by rw [hl6.out], rfl, Nat.zero_le _, by show _ = _; rw [List.take_zero, valsB, List.append_nil], hR6⟩
   case round =>
    obtain ⟨m, ys, oa2, cap2, rfl, rfl, hm, hys, hOb2⟩ := hrel
    have hBs2 := hOb2.back hB12 (by omega)
    have hsz2 := hBs2.size
    by_cases hml : m < n.vals.length
    ·
     obtain ⟨v, bv, ov, hvk, hvm, rfl, hbv, hvc⟩ := hvals.get hml
     obtain ⟨d0, d1, d2, d3⟩ := hvc.below hBs2 hbv
     have hvb : Hid (valsB (n.vals.take (m + 1)) = valsB (n.vals.take m) ++ valB v) := by show _ = _; rw [valsB_take_succ _ _ hml, ← hvk.out]
     have hvle : (valsB (n.vals.take (m + 1))).length ≤ (valsB n.vals).length := valsB_take_le _ _
     rw [hvb.out, List.length_append] at hvle
     have hyl : ys.length ≤ 40000000 := by rw [hys.out]; simp only [List.length_append]; omega
     go_wp2_with (go_at_call 89; refine (l2val_any (w1.heap.size + 1) c.nodes.length _ _ _ ys v _ rfl hl300 (hnO.vals v hvm) (hvok v hvm) (by simp only [World.size_alloc]; omega) (by omega) (hOb2.grow (gal (gre _) _)).own).mono ?_; rintro e w7 ⟨oa7, cap7, rfl, hQ7⟩; obtain ⟨l7, hl7⟩ := hid_ex (ys ++ valB v).length; rw [← hl7.out])
     go_roundw
     case rel => exact ⟨m + 1, ys ++ valB v, oa7, cap7, by rw [hl7.out], by go_num, by omega, by show _ = _; rw [hvb.out, ← List.append_assoc, ← hys.out], (hOb2.grow (gal (gre _) _)).call hQ7⟩
     case measure => simp [intOf]; omega
    ·
     obtain rfl : m = n.vals.length := by omega
     have hfin : Hid (ys = gheadB c ++ nodesB (c.nodes.take (k + 1))) := by
      show _ = _
      rw [hnb.out, hys.out, List.take_length, hzs.out]
      simp only [List.append_assoc]
     go_wp2
     go_roundw
     case rel =>
      exact ⟨k + 1, ys, oa2, cap2, rfl, by go_num, by omega, hfin, hOb2⟩
     case measure => simp [intOf]; omega
  ·
   obtain rfl : k = c.nodes.length := by omega
   have e9 : Hid (zs = graphB c) := by show _ = _; rw [hzs.out, List.take_length, hgl.out]
   have hzl : zs.length ≤ 40000000 := by rw [e9.out]; exact hglen
   go_wp2_with (first
    | (go_at_call 91; refine (l2sum_any oa1 zs cap1 _ (owns_bytesO hOb.own) (by unfold maxLen; omega) (by rw [e9.out]; exact graphB_bytes hcok)).mono ?_; rintro e w8 ⟨rfl, hb8⟩; have hOb8 := hOb.grow hb8; have hs8 := hb8.size)
    | (go_at_call 90; refine (l2eight_any (w1.heap.size + 1) _ _ _ zs (sumN zs) _ _ rfl rfl (sumN_lt _) (by omega) (by omega) hOb8.own).mono ?_; rintro e w9 ⟨oa9, cap9, rfl, hQ9⟩; obtain ⟨l9, hl9⟩ := hid_ex (zs ++ lowB 8 (sumN zs)).length; rw [← hl9.out]))
   go_ret
   have hR9 := hOb8.call hQ9
   have e10 : zs ++ lowB 8 (sumN zs) = imageB g := by unfold imageB formB; rw [← hc.out, e9.out]
   have hB9 := hR9.back hB12 (by omega)
   rw [e10] at hR9 hl9
   exact ⟨oa9, cap9, by rw [← hl9.out]; rfl, owns_le hR9.own (by have := hw01.size; omega), hw01.trans (hB9.mono hw01.size)⟩
theorem specPack_any (a : Option Addr) (cap : Nat) (g : GG) (w : World) (hg : g.Ok) (ha : NodesAt w.heap.size w a g.nodes) :
  Calls Tryz.prog 16 #[g.val a cap] w (PackSPost (packB g) w) := by
 have hX0 := GBox.new w g a cap 32
 cases hok : okG g with
 | false =>
  have hz : Hid (packB g = []) := if_neg (by rw [hok]; simp)
  have hok' : Hid _ := hok
  go_enter Tryz.func16, Tryz.ntmps16
  go_wp2_with (go_at_call 48; refine (specGraphOk_any a cap g _ hg (ha.grow (gal (gre _) _))).mono ?_; rintro e w1 ⟨rfl, hb1⟩; rw [hok'.out])
  go_ret
  exact ⟨none, 0, by rw [hz.out]; rfl, by rw [hz.out]; exact World.ownsRow_nil _ _ _ _, gca (gal (gre _) _) hb1⟩
 | true =>
  have hok' : Hid _ := hok
  by_cases hl : (imageB g).length ≤ 4096
  ·
   have hz : Hid (packB g = imageB g) := if_pos ⟨hok, hl⟩
   have hd : ¬ ((4096 : Int) < ((imageB g).length : Int)) := by omega
   go_enter Tryz.func16, Tryz.ntmps16
   go_wp2_with (first
    | (go_at_call 48; refine (specGraphOk_any a cap g _ hg (ha.grow (gal (gre _) _))).mono ?_; rintro e w1 ⟨rfl, hb1⟩; obtain ⟨xz, x0, x1, x2, x3, x4⟩ := hX0.grow hb1; rw [hok'.out])
    | (go_at_call 49; refine (l2pack_any a cap g _ hg hok'.out (ha.grow (gca (gal (gre _) _) hb1))).mono ?_; rintro e w2 ⟨oa, cap2, rfl, hown, hb2⟩))
   go_ret
   exact ⟨oa, cap2, by rw [hz.out]; rfl, by rw [hz.out]; exact owns_le hown (by have := hb1.size; simp at this; omega), gca (gca (gal (gre _) _) hb1) hb2⟩
  ·
   have hz : Hid (packB g = []) := if_neg (fun h => hl h.2)
   have hd : ((4096 : Int) < ((imageB g).length : Int)) := by omega
   go_enter Tryz.func16, Tryz.ntmps16
   go_wp2_with (first
    | (go_at_call 48; refine (specGraphOk_any a cap g _ hg (ha.grow (gal (gre _) _))).mono ?_; rintro e w1 ⟨rfl, hb1⟩; obtain ⟨xz, x0, x1, x2, x3, x4⟩ := hX0.grow hb1; rw [hok'.out])
    | (go_at_call 49; refine (l2pack_any a cap g _ hg hok'.out (ha.grow (gca (gal (gre _) _) hb1))).mono ?_; rintro e w2 ⟨oa, cap2, rfl, hown, hb2⟩))
   go_ret
   exact ⟨none, 0, by rw [hz.out]; rfl, by rw [hz.out]; exact World.ownsRow_nil _ _ _ _, gca (gca (gal (gre _) _) hb1) hb2⟩
theorem assert_nil (w : World) : (Instr.typeAssert .nilIface 20 141 true).run Tryz.prog w = .ok (.tuple #[.agg #[], .bool false]) w := by kernel_rfl
theorem assert_halt (w : World) : (Instr.typeAssert (.iface 141 (.agg #[])) 20 141 true).run Tryz.prog w = .ok (.tuple #[.agg #[], .bool true]) w := by kernel_rfl
theorem passOn_nil (w : World) : Calls Tryz.prog 41 #[.nilIface] w fun e w' => e = .returned (.tuple #[]) ∧ w' = w := by
 have ht := assert_nil
 go_enter Tryz.func41, Tryz.ntmps41
 go_wp2
 first | go_end0 | refine bodyPost_ret (results_none rfl _ _ _) rfl ?_
 exact ⟨rfl, rfl⟩
theorem passOn_halt (w : World) : Calls Tryz.prog 41 #[.iface 141 (.agg #[])] w fun e w' => e = .returned (.tuple #[]) ∧ w' = w := by
 have ht := assert_halt
 go_enter Tryz.func41, Tryz.ntmps41
 go_wp2
 first | go_end0 | refine bodyPost_ret (results_none rfl _ _ _) rfl ?_
 exact ⟨rfl, rfl⟩
theorem packCatch_panicking (older : List PanicEntry) (w : World) :
  CallsD Tryz.prog 40 #[] (.panicking (haltP :: older)) w fun e u' w' =>
   e = .returned (.tuple #[]) ∧ u' = .panicking ({ v := .iface 141 (.agg #[]), recovered := true } :: older) ∧ w' = w := by
 refine callsD_of_wpS Tryz.func40 rfl fun c₀ cs hu => ?_
 apply wpS_region
 simp [wpOpsS, go_sem, recoverD, hu, Tryz.ntmps40]
 refine (passOn_halt w).mono ?_
 rintro e w' ⟨rfl, rfl⟩
 simp [bodyPostS, results, Tryz.results40]
theorem packCatch_idle (w : World) :
  CallsD Tryz.prog 40 #[] .returning w fun e u' w' => e = .returned (.tuple #[]) ∧ u' = .returning ∧ w' = w := by
 refine callsD_of_wpS Tryz.func40 rfl fun c₀ cs hu => ?_
 apply wpS_region
 simp [wpOpsS, go_sem, recoverD, hu, Tryz.ntmps40]
 refine (passOn_nil w).mono ?_
 rintro e w' ⟨rfl, rfl⟩
 cases c₀
 simp_all [bodyPostS, results, Tryz.results40]
def PackIPost (ys : List Nat) (w : World) (e : Ending) (w' : World) : Prop :=
 ∃ oa cap, e = .returned (.slice oa ys.length cap) ∧ MB w' w.heap.size oa ys ∧ Below w.heap.size w w'
def PackICap (ys : List Nat) (w : World) (e : Ending) (w' : World) : Prop :=
 ∃ oa cap, e = .returned (.slice oa ys.length cap) ∧ MB w' w.heap.size oa ys ∧ Below w.heap.size w w' ∧ ys.length ≤ cap
theorem PackICap.post {ys : List Nat} {w : World} {e : Ending} {w' : World} (h : PackICap ys w e w') : PackIPost ys w e w' := let ⟨oa, cap, h1, h2, h3, _⟩ := h; ⟨oa, cap, h1, h2, h3⟩
theorem u64n_wrap {n : Nat} (h : n < 18446744073709551616) : u64n (wrap64 (n : Int)) = n := by unfold u64n wrap64; omega
theorem i64_wrap (n : Int) : I64 (wrap64 n) := by unfold I64 wrap64; omega
theorem wr_new (w : World) (M : Array Value) (hM : M.size = 4096) : Wr ((w.alloc (.cells M 5)).alloc (.cells #[.slice (some ⟨w.heap.size, 0, none⟩) 4096 4096, .int .i64 0] 90)) (w.heap.size + 1) w.heap.size [] := by
 refine ⟨⟨by simp, by simp, by simp, fun o => by simp⟩, by omega, ⟨M, ?_, hM, by simp, fun i hi => absurd hi (Nat.not_lt_zero _)⟩⟩
 rw [Below.heap_alloc _ _ _ (by simp)]
 exact blk_new_at _ _ _ rfl
theorem implPack_cap (a : Option Addr) (cap : Nat) (g : GG) (w : World) (hg : g.Ok) (ha : NodesAt w.heap.size w a g.nodes) :
  Calls Tryz.prog 14 #[g.val a cap] w (PackICap (packB g) w) := by
 have hX0 := GBox.new w g a cap 32
 cases hok : okG g with
 | false =>
  have hz : Hid (packB g = []) := if_neg (by rw [hok]; simp)
  have hok' : Hid _ := hok
  go_enter_defers Tryz.func14, Tryz.ntmps14
  go_wp2_with (go_at_call 42; refine (implGraphOk_any a cap g _ hg (ha.grow (gal (gre _) _))).mono ?_; rintro e w1 ⟨rfl, hb1⟩; rw [hok'.out])
  refine leaves_cons (f := 40) (args := #[]) (by simp) (by simp [go_sem]) ?_
  refine (packCatch_idle _).mono ?_
  rintro e u' w'' ⟨rfl, rfl, rfl⟩
  refine ⟨_, results_tmp rfl _ _ _, ?_⟩
  exact ⟨none, 0, by rw [hz.out]; rfl, Or.inl hz.out, gca (gal (gre _) _) hb1, by rw [hz.out]; exact Nat.le_refl _⟩
 | true =>
  have hok' : Hid _ := hok
  obtain ⟨i0, hi, hz0, hz1, hz2⟩ := info_parts info_u8
  obtain ⟨M, hM⟩ := hid_ex (madeCells #[Value.int .u8 0] 4096)
  have hMs : M.size = 4096 := by rw [hM.out, size_madeCells]
  have hmk : ∀ u : World, (Instr.makeSlice 22 (.int .i64 4096) (.int .i64 4096)).run Tryz.prog u = .ok (.slice (some ⟨u.heap.size, 0, none⟩) 4096 4096) (u.alloc (.cells M 5)) := fun u => by
   have h := run_make (P := Tryz.prog) u 22 5 i0 _ Tryz.underlying22 hi hz0 .i64 .i64 4096 4096 (by omega) (Int.le_refl _) (by rw [hz2]; omega) (by omega)
   rw [hM.out]
   simpa [hz1, Value.cells] using h
  obtain ⟨c, hc⟩ := hid_ex (canon g)
  have hcz : Hid (canonZ g = c) := by show _ = _; rw [hc.out]; exact if_pos hok
  have hcok : okG c = true := by rw [hc.out]; exact canon_okG hok
  have hcO : c.Ok := by rw [hc.out]; exact canon_ok hg hok
  have hcb := graphB_bytes hcok
  have him : Hid (imageB g = graphB c ++ lowB 8 (sumN (graphB c))) := by show _ = _; unfold imageB formB; rw [← hc.out]
  have hsl := u64n_wrap (sumN_lt (graphB c))
  have hlow := lowB_length 8 (sumN (graphB c))
  clear hM
  go_enter_defers Tryz.func14, Tryz.ntmps14
  go_wp2_with (first
   | (go_at_call 47; refine (passed_any _ _ 4096 4096 _ _ hW6.cur (by omega) (by decide) hW6.le).mono ?_; rintro e w7 ⟨rfl, hb7⟩; have hW7 := hW6.grow hb7)
   | (go_at_call 42; refine (implGraphOk_any a cap g _ hg (ha.grow (gal (gre _) _))).mono ?_; rintro e w1 ⟨rfl, hb1⟩; have hX1 := hX0.grow hb1; obtain ⟨xz, x0, x1, x2, x3, x4⟩ := id hX1; rw [hok'.out]; have hWn := wr_new w1 M hMs)
   | (go_at_call 44; refine (implCanon_any a cap g _ hg (ha.grow (gal (gal (gca (gal (gre _) _) hb1) _) _))).mono ?_; rintro e w3 ⟨na, nc, nl, rfl, hnl, hown, hb3⟩; rw [hcz.out] at hnl ⊢; have hW3 := hWn.grow hb3; simp only [World.size_alloc] at hown)
   | (go_at_call 43; refine (writeGraph_any (w1.heap.size + 1) w1.heap.size [] c na nc (w1.heap.size + 1 + 1) nl _ hW3 hcO hcok hnl (fun w' hK => hown.kept hK (fun b hb hp => by have := (hown.nodes.lt b (by rw [hb]; rfl)).1; omega) (fun x hx b hb hp => by have := ((hown.vals x hx).lt b (by rw [hb]; rfl)).1; omega))).mono ?_; rintro e w4 ⟨hK4, h4⟩; rw [List.nil_append] at h4; obtain ⟨hf4, rfl, hW4⟩ | ⟨hno4, rfl⟩ := h4)
   | (go_at_call 46; refine (implSumOf_any _ (graphB c) 4096 _ (brow_bytes hW5.row) (by have := hW5.le; unfold maxLen; omega) hcb).mono ?_; rintro e w55 ⟨rfl, hb55⟩; have hW55 := hW5.grow hb55)
   | (go_at_call 45; refine (writeWord_any _ _ (graphB c) _ _ hW55 (i64_wrap _)).mono ?_; rintro e w6 ⟨hK6, h6⟩; rw [hsl] at h6; obtain ⟨hf6, rfl, hW6⟩ | ⟨hno6, rfl⟩ := h6)
   | (go_at_call 47; refine (passed_any _ _ 4096 4096 _ _ hW4.cur (by omega) (by decide) hW4.le).mono ?_; rintro e w5 ⟨rfl, hb5⟩; have hW5 := hW4.grow hb5))
  ·
   have hB3 : Below w.heap.size w w3 := gca (gal (gal (gca (gal (gre _) _) hb1) _) _) hb3
   have hB4 := hB3.trans (hK4.below hB3.size (fun k hk hp => by omega))
   have hB6 := (gca (gca hB4 hb5) hb55).trans (hK6.below (gca (gca hB4 hb5) hb55).size (fun k hk hp => by omega))
   have hz : packB g = graphB c ++ lowB 8 (sumN (graphB c)) := by
    rw [← him.out]
    exact if_pos ⟨hok, by rw [him.out, List.length_append]; exact hf6⟩
   refine leaves_cons (f := 40) (args := #[]) (by simp) (by simp [go_sem]) ?_
   refine (packCatch_idle _).mono ?_
   rintro e u' w'' ⟨rfl, rfl, rfl⟩
   refine ⟨_, results_tmp rfl _ _ _, ?_⟩
   exact ⟨some ⟨w1.heap.size, 0, none⟩, 4096, by rw [hz, List.length_append, hlow]; rfl, Or.inr ⟨w1.heap.size, 4096, rfl, by omega, by rw [hz]; exact hW7.row⟩, gca hB6 hb7, by rw [hz, List.length_append]; exact hf6⟩
  ·
   have hB3 : Below w.heap.size w w3 := gca (gal (gal (gca (gal (gre _) _) hb1) _) _) hb3
   have hB4 := hB3.trans (hK4.below hB3.size (fun k hk hp => by omega))
   have hB6 := (gca (gca hB4 hb5) hb55).trans (hK6.below (gca (gca hB4 hb5) hb55).size (fun k hk hp => by omega))
   have hz : packB g = [] := if_neg (fun h => by have h2 := h.2; rw [him.out, List.length_append] at h2; omega)
   refine leaves_cons (f := 40) (args := #[]) (by simp) (by simp [go_sem]) ?_
   refine (packCatch_panicking [] _).mono ?_
   rintro e u' w'' ⟨rfl, rfl, rfl⟩
   refine ⟨_, results_tmp rfl _ _ _, ?_⟩
   exact ⟨none, 0, by rw [hz]; rfl, Or.inl hz, hB6, by rw [hz]; exact Nat.le_refl _⟩
  ·
   have hB3 : Below w.heap.size w w3 := gca (gal (gal (gca (gal (gre _) _) hb1) _) _) hb3
   have hB4 := hB3.trans (hK4.below hB3.size (fun k hk hp => by omega))
   have hz : packB g = [] := if_neg (fun h => by have h2 := h.2; rw [him.out, List.length_append] at h2; simp at hno4; omega)
   refine leaves_cons (f := 40) (args := #[]) (by simp) (by simp [go_sem]) ?_
   refine (packCatch_panicking [] _).mono ?_
   rintro e u' w'' ⟨rfl, rfl, rfl⟩
   refine ⟨_, results_tmp rfl _ _ _, ?_⟩
   exact ⟨none, 0, by rw [hz]; rfl, Or.inl hz, hB4, by rw [hz]; exact Nat.le_refl _⟩
theorem implPack_any (a : Option Addr) (cap : Nat) (g : GG) (w : World) (hg : g.Ok) (ha : NodesAt w.heap.size w a g.nodes) :
  Calls Tryz.prog 14 #[g.val a cap] w (PackIPost (packB g) w) := (implPack_cap a cap g w hg ha).mono fun _ _ h => h.post
theorem calls_args {P : Program} {f : Nat} {a b : Array Value} {w : World} {Q : Ending → World → Prop} (h : Calls P f a w Q) (e : a = b) : Calls P f b w Q := by subst e; exact h
theorem CPost.zero {w w' : World} (h : Below w.heap.size w w') : CPost zeroD w (.returned (.agg #[.slice none 0 0, .slice none 0 0])) w' := ⟨[], [], none, 0, none, 0, rfl, rfl, rfl, SB.nil _ _, SW.nil _ _, h⟩
theorem specSync_any (d : DD) (l : DL) (w : World) (hd : d.Ok) (ha : DAt w l d) : Calls Tryz.prog 113 #[d.val l] w (CPost (d.settle keepAll) w) := by
 have hA := gal (gal (gre w) (.cells #[.slice l.ba d.blocks.length l.bc, .slice l.wa d.waiting.length l.wc] 46)) (.cells #[.slice none 0 0, .slice none 0 0] 46)
 have hX0 := (DBox.new w d l 46).grow (gal (gre _) (.cells #[.slice none 0 0, .slice none 0 0] 46))
 have hR0 := VB.new_at (w.alloc (.cells #[.slice l.ba d.blocks.length l.bc, .slice l.wa d.waiting.length l.wc] 46)) (.slice none 0 0) (.slice none 0 0) 46 (w.heap.size + 1) (by simp)
 cases hok : d.ok with
 | false =>
  have hok' : Hid _ := hok
  clear hok
  rw [settle_no hok'.out]
  go_enter Tryz.func113, Tryz.ntmps113
  go_wp2_with (go_at_call 30; refine (specDiskOk_any d l _ hd (ha.grow hA)).mono ?_; rintro e w2 ⟨rfl, hb2⟩; rw [hok'.out]; obtain ⟨z0, z1, zf⟩ := hR0.grow hb2)
  obtain ⟨c0, c1, K⟩ := ret2 (A := .slice none 0 0) (B := .slice none 0 0) z0 z1
  refine bodyPost_ret (v := .agg #[.slice none 0 0, .slice none 0 0]) (by simp [results, Tryz.results113, go_sem, c0, c1]) rfl (CPost.zero ?_)
  exact (gca hA hb2).trans (K.below (gca hA hb2).size (fun z hz e => by omega))
 | true =>
  have hok' : Hid _ := hok
  clear hok
  have hsn : settleN (keepOf (List.replicate d.waiting.length true)) d.blocks d.waiting d.waiting.length = settleN keepAll d.blocks d.waiting d.waiting.length := settleN_congr _ _ _ (fun i hi => keepOf_all hi)
  rw [settle_yes hok'.out, ← hsn]
  obtain ⟨d', hd'⟩ := hid_ex (DD.mk (settleN (keepOf (List.replicate d.waiting.length true)) d.blocks d.waiting d.waiting.length) [])
  rw [← hd'.out]
  clear hsn
  go_enter Tryz.func113, Tryz.ntmps113
  go_upto_region 3 with (go_at_call 30; refine (specDiskOk_any d l _ hd (ha.grow hA)).mono ?_; rintro e w2 ⟨rfl, hb2⟩; rw [hok'.out])
  have hX2 := hX0.grow hb2
  have hR2 := hR0.grow hb2
  have hb2A := gca hA hb2
  refine wp_regionU (fun u => DBox u w.heap.size d l) 6 (by kernel_rfl) (hX2.grow (gdr (gre w2))) (fun hS0 => ?_)
  have hRd := hR2.grow (gdr (gre w2))
  have hbd := gdr hb2A
  generalize w2.drew = wd at hRd hbd hS0 ⊢
  refine anyU_tk (i := 0) rfl hS0 (fun u hSu => by obtain ⟨_, s0, s1⟩ := hSu; go_simp <;> with_reducible rfl) ?_
  refine anyU_tk (i := 1) rfl hS0 (fun u hSu => by obtain ⟨_, s0, s1⟩ := hSu; go_simp <;> with_reducible rfl) ?_
  refine anyU_tk (i := 2) rfl hS0 (fun u hSu => by obtain ⟨_, s0, s1⟩ := hSu; go_simp <;> with_reducible rfl) ?_
  refine anyU_tk (i := 3) rfl hS0 (fun u hSu => by obtain ⟨_, s0, s1⟩ := hSu; go_simp <;> with_reducible rfl) ?_
  simp only [Act.put, List.getElem_toArray, List.getElem_cons_zero, List.getElem_cons_succ, List.setIfInBounds_toArray, List.set_cons_zero, List.set_cons_succ]
  refine anyU_one (i := 4) (by kernel_rfl) rfl (fun K hK => ?_)
  go_simp
  refine (l3all_any d.waiting.length _ (by have := (DD.fit hok'.out).wl; omega)).mono ?_
  rintro e w3 ⟨kb, rfl, hks, hb3⟩
  have hS3 := hS0.grow hb3
  refine hK.out _ _ hS3 ?_
  clear hK
  refine anyU_one (i := 5) (by kernel_rfl) rfl (fun K hK => ?_)
  go_simp
  have hll : (List.replicate d.waiting.length true).length = d.waiting.length := List.length_replicate
  refine (calls_args (l3settle_any d l (some ⟨kb, 0, none⟩) (List.replicate d.waiting.length true) d.waiting.length w3 (DD.fit hok'.out) (ha.grow (gca hbd hb3)) (by rw [hll]; exact hd.wl) hks) (by rw [hll])).mono ?_
  rw [← hd'.out]
  rintro e w4 ⟨lb, lw, ba, bc, wa, wc, rfl, hlb, hlw, hL4, hW4, hb4⟩
  have hS4 := hS3.grow hb4
  refine hK.out _ _ hS4 ?_
  clear hK
  have hR4 := (hRd.grow hb3).grow hb4
  have z0 := hR4.v0
  have z1 := hR4.v1
  have zf := hR4.vf
  refine anyU_last (by kernel_rfl) rfl (by kernel_rfl) (fun K hK => ?_)
  go_simp
  refine hK.out _ _ ?_
  clear hK
  have hball := gca (gca hbd hb3) hb4
  go_wp2
  obtain ⟨c0, c1, K⟩ := ret2 (A := .slice ba d'.blocks.length bc) (B := .slice wa d'.waiting.length wc) z0 z1
  have hRl : w.heap.size + 1 < w3.heap.size := by have := hRd.lt; have := hb3.size; omega
  have hfL := ((hL4.set (V := w.heap.size + 1) hRl 0 (.slice ba d'.blocks.length bc)).set (V := w.heap.size + 1) hRl 1 (.slice wa d'.waiting.length wc)).le (base' := w.heap.size) (by omega)
  have hfW := ((hW4.set (V := w.heap.size + 1) hRl 0 (.slice ba d'.blocks.length bc)).set (V := w.heap.size + 1) hRl 1 (.slice wa d'.waiting.length wc)).le (base' := w.heap.size) (by omega)
  refine bodyPost_ret (v := .agg #[.slice ba d'.blocks.length bc, .slice wa d'.waiting.length wc]) (by simp [results, Tryz.results113, go_sem, c0, c1]) rfl ⟨lb, lw, ba, bc, wa, wc, rfl, hlb, hlw, hfL, hfW, ?_⟩
  exact hball.trans (K.below hball.size (fun z hz e => by omega))
def IsD (w : World) (b : Nat) : Prop := ∃ c, w.heap[b]? = some (.cells c 46 (0, 0))
theorem IsD.kept {p : Nat → Prop} {w w' : World} {b : Nat} (h : IsD w b) (K : Kept p w w') (hn : ¬ p b) : IsD w' b := by
 obtain ⟨c, hc⟩ := h
 exact ⟨c, (K.block b (Array.getElem?_eq_some_iff.1 hc).1 hn).trans hc⟩
theorem IsD.grow {w w' : World} {b : Nat} (h : IsD w b) (hb : Below w.heap.size w w') : IsD w' b := h.kept (Kept.of_below hb (fun _ => False)) (fun e => e)
theorem not_W_of_D {w : World} {b : Nat} (h : IsD w b) : ¬ IsW w b := fun ⟨c, hc⟩ => by
 obtain ⟨c', hc'⟩ := h
 rw [hc] at hc'
 simp at hc'
theorem not_B_of_D {w : World} {b : Nat} (h : IsD w b) : ¬ IsB w b := fun ⟨c, hc⟩ => by
 obtain ⟨c', hc'⟩ := h
 rw [hc] at hc'
 simp at hc'
theorem not_S_of_D {w : World} {b : Nat} (h : IsD w b) : ¬ IsS w b := fun ⟨c, hc⟩ => by
 obtain ⟨c', hc'⟩ := h
 rw [hc] at hc'
 simp at hc'
theorem put_no1 {d : DD} {b : Int} {bs : List Nat} (h : d.ok = false) : d.put b bs = zeroD := by simp [DD.put, h]
theorem put_no2 {d : DD} {b : Int} {bs : List Nat} (h : wrOk ⟨b, bs⟩ = false) : d.put b bs = zeroD := by simp [DD.put, h]
theorem put_no3 {d : DD} {b : Int} {bs : List Nat} (h : d.waiting.length = 200) : d.put b bs = zeroD := by simp [DD.put, h]
theorem put_yes {d : DD} {b : Int} {bs : List Nat} (h : d.ok = true) (h2 : wrOk ⟨b, bs⟩ = true) (h3 : d.waiting.length ≠ 200) : d.put b bs = ⟨d.blocks, d.waiting ++ [⟨b, bs⟩]⟩ := by simp [DD.put, h, h2, h3]
theorem specPut_any (d : DD) (l : DL) (b : Int) (ka : Option Addr) (ks : List Nat) (kc : Nat) (w : World) (hd : d.Ok) (ha : DAt w l d) (_hb : I64 b) (hkl : ks.length ≤ maxLen) (hka : BytesAt w ka ks) : Calls Tryz.prog 114 #[d.val l, .int .i64 b, .slice ka ks.length kc] w (CPost (d.put b ks) w) := by
 have hA := gal (gal (gre w) (.cells #[.slice l.ba d.blocks.length l.bc, .slice l.wa d.waiting.length l.wc] 46)) (.cells #[.slice none 0 0, .slice none 0 0] 46)
 have hX0 := (DBox.new w d l 46).grow (gal (gre _) (.cells #[.slice none 0 0, .slice none 0 0] 46))
 have hR0 := VB.new_at (w.alloc (.cells #[.slice l.ba d.blocks.length l.bc, .slice l.wa d.waiting.length l.wc] 46)) (.slice none 0 0) (.slice none 0 0) 46 (w.heap.size + 1) (by simp)
 have hkl' := hkl
 unfold maxLen at hkl'
 cases hok : d.ok with
 | false =>
  have hok' : Hid _ := hok
  clear hok
  rw [put_no1 hok'.out]
  go_enter Tryz.func114, Tryz.ntmps114
  go_wp2_with (go_at_call 30; refine (specDiskOk_any d l _ hd (ha.grow hA)).mono ?_; rintro e w2 ⟨rfl, hb2⟩; rw [hok'.out]; obtain ⟨z0, z1, zf⟩ := hR0.grow hb2; obtain ⟨_, x0, x1⟩ := hX0.grow hb2)
  obtain ⟨c0, c1, K⟩ := ret2 (A := .slice none 0 0) (B := .slice none 0 0) z0 z1
  refine bodyPost_ret (v := .agg #[.slice none 0 0, .slice none 0 0]) (by simp [results, Tryz.results114, go_sem, c0, c1]) rfl (CPost.zero ?_)
  exact (gca hA hb2).trans (K.below (gca hA hb2).size (fun z hz e => by omega))
 | true =>
  have hok' : Hid _ := hok
  clear hok
  have hfit := DD.fit hok'.out
  by_cases g0 : b < 0
  ·
   rw [put_no2 (by simp [wrOk]; omega)]
   go_enter Tryz.func114, Tryz.ntmps114
   go_wp2_with (go_at_call 30; refine (specDiskOk_any d l _ hd (ha.grow hA)).mono ?_; rintro e w2 ⟨rfl, hb2⟩; rw [hok'.out]; obtain ⟨z0, z1, zf⟩ := hR0.grow hb2; obtain ⟨_, x0, x1⟩ := hX0.grow hb2)
   obtain ⟨c0, c1, K⟩ := ret2 (A := .slice none 0 0) (B := .slice none 0 0) z0 z1
   refine bodyPost_ret (v := .agg #[.slice none 0 0, .slice none 0 0]) (by simp [results, Tryz.results114, go_sem, c0, c1]) rfl (CPost.zero ?_)
   exact (gca hA hb2).trans (K.below (gca hA hb2).size (fun z hz e => by omega))
  ·
   by_cases g1 : b ≥ 130
   ·
    rw [put_no2 (by simp [wrOk]; omega)]
    go_enter Tryz.func114, Tryz.ntmps114
    go_wp2_with (go_at_call 30; refine (specDiskOk_any d l _ hd (ha.grow hA)).mono ?_; rintro e w2 ⟨rfl, hb2⟩; rw [hok'.out]; obtain ⟨z0, z1, zf⟩ := hR0.grow hb2; obtain ⟨_, x0, x1⟩ := hX0.grow hb2)
    obtain ⟨c0, c1, K⟩ := ret2 (A := .slice none 0 0) (B := .slice none 0 0) z0 z1
    refine bodyPost_ret (v := .agg #[.slice none 0 0, .slice none 0 0]) (by simp [results, Tryz.results114, go_sem, c0, c1]) rfl (CPost.zero ?_)
    exact (gca hA hb2).trans (K.below (gca hA hb2).size (fun z hz e => by omega))
   ·
    by_cases g2 : ks.length = 64
    ·
     have hn64 : Hid _ := g2
     have t2 : ((ks.length : Int) != 64) = false := by simp; omega
     by_cases g3 : d.waiting.length = 200
     ·
      have t3 : ((d.waiting.length : Int) == 200) = true := by simp; omega
      rw [put_no3 g3]
      clear g2 g3
      go_enter Tryz.func114, Tryz.ntmps114
      go_wp2_with (go_at_call 30; refine (specDiskOk_any d l _ hd (ha.grow hA)).mono ?_; rintro e w2 ⟨rfl, hb2⟩; rw [hok'.out]; obtain ⟨z0, z1, zf⟩ := hR0.grow hb2; obtain ⟨_, x0, x1⟩ := hX0.grow hb2)
      obtain ⟨c0, c1, K⟩ := ret2 (A := .slice none 0 0) (B := .slice none 0 0) z0 z1
      refine bodyPost_ret (v := .agg #[.slice none 0 0, .slice none 0 0]) (by simp [results, Tryz.results114, go_sem, c0, c1]) rfl (CPost.zero ?_)
      exact (gca hA hb2).trans (K.below (gca hA hb2).size (fun z hz e => by omega))
     ·
      have t3 : ((d.waiting.length : Int) == 200) = false := by simp; omega
      rw [put_yes hok'.out (by simp [wrOk, g2]; omega) g3]
      obtain ⟨k0, hkk, hk0, hk1, hk2⟩ := info_parts info_implWrite
      have hs : d.Small := ⟨by have := hfit.bl; omega, fun b hb => by have := hfit.bb b hb; omega, by have := hfit.wl; omega, fun x hx => by have := (hfit.wb x hx).2.2; omega⟩
      clear g2 g3
      go_enter Tryz.func114, Tryz.ntmps114
      go_upto_region 4 with (first
       | (go_at_call 30; refine (specDiskOk_any d l _ hd (ha.grow hA)).mono ?_; rintro e w1 ⟨rfl, hb1⟩; rw [hok'.out]; obtain ⟨_, x0, x1⟩ := hX0.grow hb1)
       | (go_at_call 68; refine (l3copy_any d l _ hs (ha.grow (gca hA hb1))).mono ?_; rintro e w2 ⟨lb, lw, ba, bc, wa, wc, rfl, hlb, hlw, hL2, hW2, hb2⟩))
      have hAl := gal (gre w2) (.cells #[.slice ba d.blocks.length bc, .slice wa d.waiting.length wc] 46)
      have hL3 := hL2.grow hAl
      have hW3 := hW2.grow hAl
      have hV3 := VB.new w2 (.slice ba d.blocks.length bc) (.slice wa d.waiting.length wc) 46
      have hD3 : IsD (w2.alloc (.cells #[.slice ba d.blocks.length bc, .slice wa d.waiting.length wc] 46)) w2.heap.size := ⟨_, blk_new_at _ _ _ rfl⟩
      have hR3 := (hR0.grow hb1).grow (gca hb2 hAl)
      have hb3A := gca (gca hA hb1) (gca hb2 hAl)
      have hbs : Hid (w.heap.size + 1 < w1.heap.size) := (hR0.grow hb1).lt
      have hVb : Hid (w1.heap.size ≤ w2.heap.size) := hb2.size
      have hlwl : Hid (lw.length = d.waiting.length) := by show _ = _; rw [← hlw]; simp
      generalize w2.alloc (.cells #[.slice ba d.blocks.length bc, .slice wa d.waiting.length wc] 46) = w3 at hAl hL3 hW3 hV3 hD3 hR3 hb3A ⊢
      generalize w2.heap.size = V at hV3 hD3 hVb ⊢
      generalize w1.heap.size = base at hL3 hW3 hbs hVb
      clear hAl hL2 hW2 hb2 hb1 x0 x1 hX0 hA
      refine wp_regionU (fun u => u.cell? ⟨V, 1, none⟩ = some (.slice wa d.waiting.length wc)) 9 (by kernel_rfl) (hV3.grow (gdr (gre w3))).v1 (fun hS0 => ?_)
      have hLd := hL3.grow (gdr (gre w3))
      have hWd := hW3.grow (gdr (gre w3))
      have hVd := hV3.grow (gdr (gre w3))
      have hRd := hR3.grow (gdr (gre w3))
      have hDd := hD3.grow (gdr (gre w3))
      have hbd := gdr hb3A
      have hvd := (hka.grow hb3A).grow (gdr (gre w3))
      generalize w3.drew = wd at hLd hWd hVd hRd hDd hbd hvd hS0 ⊢
      refine anyU_tk (i := 0) rfl hS0 (fun u hSu => by (try dsimp only at hSu); go_simp <;> with_reducible rfl) ?_
      refine anyU_tk (i := 1) rfl hS0 (fun u hSu => by (try dsimp only at hSu); go_simp <;> with_reducible rfl) ?_
      refine anyU_tk (i := 2) rfl hS0 (fun u hSu => by (try dsimp only at hSu); go_simp <;> with_reducible rfl) ?_
      refine anyU_tk (i := 3) rfl hS0 (fun u hSu => by (try dsimp only at hSu); go_simp <;> with_reducible rfl) ?_
      simp only [Act.put, List.getElem_toArray, List.getElem_cons_zero, List.getElem_cons_succ, List.setIfInBounds_toArray, List.set_cons_zero, List.set_cons_succ]
      refine anyU_one (i := 4) (by kernel_rfl) rfl (fun K hK => ?_)
      go_simp
      refine (l2copy_any ka ks kc _ (by have := hn64.out; omega) hvd).mono ?_
      rintro e w4 ⟨oa, oc, rfl, hoy, hB1⟩
      have hS1 := cell_later hB1 hS0
      refine hK.out _ _ hS1 ?_
      clear hK
      have hL1 := hLd.grow hB1
      have hW1 := hWd.grow hB1
      have hV1 := hVd.grow hB1
      have hR1 := hRd.grow hB1
      have hD1 := hDd.grow hB1
      have hbel1 := gca hbd hB1
      have hy : w4.ownsRow base 5 1 (.slice oa ks.length oc) ks.length (bcells ks) := owns_le hoy (by have := hVd.lt; have := hVb.out; omega)
      refine anyU_one (i := 5) (by kernel_rfl) rfl (fun K hK => ?_)
      go_simp
      refine hK.out _ _ hS1 ?_
      clear hK
      have hB2 := gal (gre w4) (.cells #[.int .i64 b, .slice oa ks.length oc] 125)
      have hS2 := cell_later hB2 hS1
      have hS2' : Hid _ := hS2
      clear hS2
      refine anyU_one (i := 6) (by kernel_rfl) rfl (fun K hK => ?_)
      go_simp
      refine hK.out _ _ hS2'.out ?_
      clear hK
      have hL2 := hL1.grow hB2
      have hW2 := hW1.grow hB2
      have hV2 := hV1.grow hB2
      have hR2 := hR1.grow hB2
      have hD2 := hD1.grow hB2
      have hbel2 := gca hbel1 hB2
      have hy2 := (Kept.of_below hB2 (fun _ => False)).owns hy (fun _ _ e => e)
      have hnew := World.news_of_block (cs := #[.int .i64 b, .slice oa ks.length oc]) (t := 125) (fr := (0, 0)) (blk_new_at w4 (.cells #[.int .i64 b, .slice oa ks.length oc] 125) _ rfl)
      have hs2 : (w4.alloc (.cells #[.int .i64 b, .slice oa ks.length oc] 125)).heap.size = w4.heap.size + 1 := by simp
      generalize w4.alloc (.cells #[.int .i64 b, .slice oa ks.length oc] 125) = w5 at hB2 hS2' hL2 hW2 hV2 hR2 hD2 hbel2 hy2 hnew hs2 ⊢
      have hwl := hfit.wl
      refine anyU_one (i := 7) (by kernel_rfl) rfl (fun K hK => ?_)
      refine step_append_lies _ (by rfl) (.tmp 34) (.tmp 39) 44 rfl base 125 k0 _ 2 32 Tryz.underlying44 hkk hk0 hk1 hk2 rfl (by decide) (.slice wa d.waiting.length wc) d.waiting.length (wCells lw) (by rfl) (by have := hW2.own; rw [hlwl.out] at this; exact this) ⟨w4.heap.size, 0, none⟩ 1 1 [.int .i64 b, .slice oa ks.length oc] (by rfl) rfl hnew (by simp [Value.oneCell']) (by decide) (by unfold maxLen; omega) (by omega) (by have := hV2.lt; have := hVb.out; omega) (w4.heap.size + 1) hs2 ?_
      intro gg cc w6 hown5 hgrow5 hat5 hlt5
      have K5 := Kept.of_grown hgrow5
      have hz5 : ∀ z, (Value.slice wa d.waiting.length wc).ownBlock = some z → IsW w5 z ∧ base ≤ z := fun z e => by have h8 := hW2.own; rw [hlwl.out] at h8; exact owns_isW h8 e
      have hW5 := hW2.push (y := ⟨⟨b, ks⟩, oa, oc⟩) hy2 (by rw [hlwl.out]; exact hown5) (by rw [hlwl.out]; exact hgrow5)
      have hL5 := hL2.kept K5 (fun z e _ => ⟨fun hS => not_W_of_S hS (hz5 z e).1, not_B_of_W (hz5 z e).1⟩)
      have hV5 := hV2.kept K5 (fun e => not_W_of_D hD2 (hz5 _ e).1)
      have hR5 := hR2.kept K5 (fun e => by have := (hz5 _ e).2; have := hbs.out; omega)
      have hD5 := hD2.kept K5 (fun e => not_W_of_D hD2 (hz5 _ e).1)
      refine hK.out _ _ hV5.v1 ?_
      clear hK
      simp only [Act.put, List.getElem_toArray, List.getElem_cons_zero, List.getElem_cons_succ, List.setIfInBounds_toArray, List.set_cons_zero, List.set_cons_succ]
      refine anyU_one (i := 8) (by kernel_rfl) rfl (fun K hK => ?_)
      go_simp
      refine hK.out _ _ hV5.v1 ?_
      clear hK
      have fz := hV5.vf
      have c8 := hV5.v1
      refine anyU_last (by kernel_rfl) rfl (by kernel_rfl) (fun K hK => ?_)
      go_simp
      refine hK.out _ _ ?_
      clear hK
      have hbel5 := hbel2.trans (K5.below (B := w.heap.size) hbel2.size (fun z hz e => by have := (hz5 _ e).2; have := hbs.out; omega))
      have K6 := Kept.one w6 V 1 (.slice (some ⟨gg, 0, none⟩) (d.waiting.length + 1) cc)
      have hW6 := hW5.kept K6 (fun z e _ => by subst e; exact ⟨not_W_of_D hD5, not_B_of_D hD5⟩)
      have hL6 := hL5.kept K6 (fun z e _ => by subst e; exact ⟨not_S_of_D hD5, not_B_of_D hD5⟩)
      have hV6 := hV5.set1 (.slice (some ⟨gg, 0, none⟩) (d.waiting.length + 1) cc)
      have hR6 := hR5.kept K6 (by have := hVb.out; have := hbs.out; omega)
      have hbel6 := hbel5.trans (K6.below (B := w.heap.size) hbel5.size (fun z hz e => by have := hVb.out; have := hbs.out; omega))
      generalize w6.setCell ⟨V, 1, none⟩ (.slice (some ⟨gg, 0, none⟩) (d.waiting.length + 1) cc) = w7 at hW6 hL6 hV6 hR6 hbel6 ⊢
      have y0 := hV6.v0
      have y1 := hV6.v1
      have z0 := hR6.v0
      have z1 := hR6.v1
      have zf := hR6.vf
      obtain ⟨c0, c1, K⟩ := ret2 (A := .slice ba d.blocks.length bc) (B := .slice (some ⟨gg, 0, none⟩) (d.waiting.length + 1) cc) z0 z1
      have hRb : w.heap.size + 1 < base := by have := hbs.out; omega
      have hfL := ((hL6.set (V := w.heap.size + 1) hRb 0 (.slice ba d.blocks.length bc)).set (V := w.heap.size + 1) hRb 1 (.slice (some ⟨gg, 0, none⟩) (d.waiting.length + 1) cc)).le (base' := w.heap.size) (by omega)
      have hfW := ((hW6.set (V := w.heap.size + 1) hRb 0 (.slice ba d.blocks.length bc)).set (V := w.heap.size + 1) hRb 1 (.slice (some ⟨gg, 0, none⟩) (d.waiting.length + 1) cc)).le (base' := w.heap.size) (by omega)
      have hbel := hbel6.trans (K.below hbel6.size (fun z hz e => by omega))
      clear K hRb
      go_wp2
      refine bodyPost_ret (v := .agg #[.slice ba d.blocks.length bc, .slice (some ⟨gg, 0, none⟩) (d.waiting.length + 1) cc]) (by simp [results, Tryz.results114, go_sem, c0, c1]) rfl ⟨lb, lw ++ [⟨⟨b, ks⟩, oa, oc⟩], ba, bc, some ⟨gg, 0, none⟩, cc, by simp [DD.val], hlb, by rw [List.map_append, hlw]; rfl, hfL, hfW, hbel⟩
    ·
     have t2 : ((ks.length : Int) != 64) = true := by simp; omega
     rw [put_no2 (by simp [wrOk, g2])]
     clear g2
     go_enter Tryz.func114, Tryz.ntmps114
     go_wp2_with (go_at_call 30; refine (specDiskOk_any d l _ hd (ha.grow hA)).mono ?_; rintro e w2 ⟨rfl, hb2⟩; rw [hok'.out]; obtain ⟨z0, z1, zf⟩ := hR0.grow hb2; obtain ⟨_, x0, x1⟩ := hX0.grow hb2)
     obtain ⟨c0, c1, K⟩ := ret2 (A := .slice none 0 0) (B := .slice none 0 0) z0 z1
     refine bodyPost_ret (v := .agg #[.slice none 0 0, .slice none 0 0]) (by simp [results, Tryz.results114, go_sem, c0, c1]) rfl (CPost.zero ?_)
     exact (gca hA hb2).trans (K.below (gca hA hb2).size (fun z hz e => by omega))
theorem md_zero (w : World) (lo hi : Nat) : MD w lo hi ⟨none, 0, none, 0⟩ zeroD (fun _ => none) (fun _ => none) (fun _ => 0) (fun _ => 0) :=
 ⟨⟨fun h => absurd h (Nat.lt_irrefl _), fun _i hi => absurd hi (Nat.not_lt_zero _), fun _i _j _ hj => absurd hj (Nat.not_lt_zero _)⟩, ⟨fun h => absurd h (Nat.lt_irrefl _), fun _i hi => absurd hi (Nat.not_lt_zero _), fun _i _j _ hj => absurd hj (Nat.not_lt_zero _)⟩, fun _i _j hi _ => absurd hi (Nat.not_lt_zero _)⟩
theorem DPost.zero {w w' : World} (h : Below w.heap.size w w') : DPost zeroD w (.returned (.agg #[.slice none 0 0, .slice none 0 0])) w' := ⟨⟨none, 0, none, 0⟩, _, _, _, _, rfl, md_zero _ _ _, h⟩
theorem VB.below {w w' : World} {V p : Nat} {s0 s1 : Value} (h : VB w V s0 s1) (hb : Below p w w') (hV : V < p) : VB w' V s0 s1 :=
 ⟨(World.cell?_of_block (w := w) (hb.block V hV)).trans h.v0, (World.cell?_of_block (w := w) (hb.block V hV)).trans h.v1, fun o => (World.frozen?_of_block (w := w) (a := ⟨V, o, none⟩) (hb.block V hV)).trans (h.vf o)⟩
theorem syncK_any (p : Nat) (bl : List (List Nat)) (pa : Option Addr) (pc : Nat) (ws : List DW) (kv : Value) (w : World) (hw : ws.length ≤ 201) (hwb : ∀ x, x ∈ ws → 0 ≤ x.block ∧ x.block < 130) (hDr : Dr w p bl pa pc ws kv) :
  Calls Tryz.prog 98 #[.pointer (some ⟨p, 0, none⟩)] w fun e w' => e = .returned (.tuple #[]) ∧ Dr w' p (settleN keepAll bl ws ws.length) none 0 [] (.func (.func 132) #[] #[]) ∧ Kept (fun z => z = p) w w' := by
 have kf := hDr.d.kf
 have kz := hDr.d.frozen (o := 8321) (by decide)
 go_enter Tryz.func98, Tryz.ntmps98
 go_upto_region 1 with fail
 have hD4 := hDr.d.setK (.func (.func 132) #[] #[])
 have K4 := Kept.one w p 8321 (.func (.func 132) #[] #[])
 have hO4 := K4.owns hDr.own (fun z hz e => by have := (hDr.own.lt z hz).1; omega)
 have hDr4 : Dr (w.setCell ⟨p, 8321, none⟩ (.func (.func 132) #[] #[])) p bl pa pc ws (.func (.func 132) #[] #[]) := ⟨hD4, hO4, hDr.w64⟩
 generalize w.setCell ⟨p, 8321, none⟩ (.func (.func 132) #[] #[]) = w4 at hD4 K4 hO4 hDr4 ⊢
 clear hD4 hO4 kf kz
 go_wp2_with (go_at_call 56; refine (powerSyncK_any p bl pa pc ws _ hw hwb hDr4).mono ?_; rintro e w5 ⟨rfl, hDr5, hb5⟩)
 go_end0
 exact ⟨rfl, hDr5, K4.trans hb5 (fun _ _ e => e)⟩
theorem drvPut_no (x : DW) (a : Option Addr) (cap p : Nat) (bl : List (List Nat)) (pa : Option Addr) (pc : Nat) (ws : List DW) (kv : Value) (w : World) (hb : I64 x.block) (hkl : x.bytes.length ≤ maxLen) (_hw : ws.length ≤ 201) (hno : wrOk x = false ∨ ws.length = 200) (hDr : Dr w p bl pa pc ws kv) :
  Calls Tryz.prog 99 #[.pointer (some ⟨p, 0, none⟩), x.val a cap] w fun e w' => e = .returned (.bool false) ∧ Below w.heap.size w w' := by
 have hA := gal (gre w) (.cells #[.int .i64 x.block, .slice a x.bytes.length cap] 125)
 have hY0 := VB.new_at w (.int .i64 x.block) (.slice a x.bytes.length cap) 125 w.heap.size rfl
 cases hwr : wrOk x with
 | false =>
  have hwr' : Hid _ := hwr
  clear hwr hno
  obtain ⟨y0, y1, yf⟩ := id hY0
  go_enter Tryz.func99, Tryz.ntmps99
  go_wp2_with (go_at_call 66; refine (writeOk_any x a cap _ hb hkl).mono ?_; rintro e w3 ⟨rfl, hb3⟩; rw [hwr'.out])
  go_ret
  exact ⟨rfl, gca hA hb3⟩
 | true =>
  have g3 : ws.length = 200 := hno.resolve_left (by rw [hwr]; simp)
  have t3 : ((ws.length : Int) == 200) = true := by simp; omega
  have hwr' : Hid _ := hwr
  clear hwr hno g3
  obtain ⟨y0, y1, yf⟩ := id hY0
  go_enter Tryz.func99, Tryz.ntmps99
  go_wp2_with (go_at_call 66; refine (writeOk_any x a cap _ hb hkl).mono ?_; rintro e w3 ⟨rfl, hb3⟩; rw [hwr'.out]; have x0 := ((hDr.d.grow hA).grow hb3).ws)
  go_ret
  exact ⟨rfl, gca hA hb3⟩
theorem drvPutK_yes (x : DW) (a : Option Addr) (cap p : Nat) (bl : List (List Nat)) (pa : Option Addr) (pc : Nat) (ws : List DW) (kv : Value) (w : World) (hb : I64 x.block) (hkl : x.bytes.length ≤ maxLen) (hw : ws.length ≤ 200) (hwr : wrOk x = true) (g3 : ws.length ≠ 200) (ha : BytesAt w a x.bytes) (hfar : ∀ b off, a = some ⟨b, off, none⟩ → b < p) (hDr : Dr w p bl pa pc ws kv) :
  Calls Tryz.prog 99 #[.pointer (some ⟨p, 0, none⟩), x.val a cap] w fun e w' => e = .returned (.bool true) ∧ ∃ pa' pc', Dr w' p bl pa' pc' (ws ++ [x]) kv ∧ Kept (fun z => z = p ∨ (Value.slice pa ws.length pc).ownBlock = some z) w w' := by
 have hA := gal (gre w) (.cells #[.int .i64 x.block, .slice a x.bytes.length cap] 125)
 have hY0 := VB.new_at w (.int .i64 x.block) (.slice a x.bytes.length cap) 125 w.heap.size rfl
 have t3 : ((ws.length : Int) == 200) = false := by simp; omega
 have hn64 : Hid (x.bytes.length = 64) := by have := hwr; simp only [wrOk, Bool.and_eq_true, decide_eq_true_eq] at this; exact this.2
 have hwr' : Hid _ := hwr
 clear hwr g3
 obtain ⟨y0, y1, yf⟩ := id hY0
 go_enter Tryz.func99, Tryz.ntmps99
 go_wp2_with (first
  | (go_at_call 66; refine (writeOk_any x a cap _ hb hkl).mono ?_; rintro e w3 ⟨rfl, hb3⟩; rw [hwr'.out]; have x0 := ((hDr.d.grow hA).grow hb3).ws; obtain ⟨y0, y1, yf⟩ := hY0.grow hb3)
  | (go_at_call 94; refine (takeK_any x a cap p bl pa pc ws kv _ hn64.out hw (ha.grow (gca hA hb3)) hfar (hDr.grow (gca hA hb3))).mono ?_; rintro e w5 ⟨rfl, pa5, pc5, hDr5, hK5⟩))
 go_ret
 exact ⟨rfl, pa5, pc5, hDr5, (Kept.of_below (gca hA hb3) _).trans hK5 (fun _ _ e => e)⟩
theorem put_tame {d : DD} {b : Int} {ks : List Nat} (hd : d.Ok) (hb : I64 b) (hk : BOk ks) : (d.put b ks).Ok ∧ (d.put b ks = zeroD ∨ (d.put b ks).Fit) := by
 cases hok : d.ok with
 | false => rw [put_no1 hok]; exact ⟨⟨Nat.zero_le _, fun b hb => (by cases hb), Nat.zero_le _, fun x hx => (by cases hx), fun x hx => (by cases hx)⟩, Or.inl rfl⟩
 | true =>
  cases hwr : wrOk ⟨b, ks⟩ with
  | false => rw [put_no2 hwr]; exact ⟨⟨Nat.zero_le _, fun b hb => (by cases hb), Nat.zero_le _, fun x hx => (by cases hx), fun x hx => (by cases hx)⟩, Or.inl rfl⟩
  | true =>
   by_cases h : d.waiting.length = 200
   · rw [put_no3 h]; exact ⟨⟨Nat.zero_le _, fun b hb => (by cases hb), Nat.zero_le _, fun x hx => (by cases hx), fun x hx => (by cases hx)⟩, Or.inl rfl⟩
   ·
    have hf := DD.fit hok
    rw [put_yes hok hwr h]
    have hl : (d.waiting ++ [(⟨b, ks⟩ : DW)]).length = d.waiting.length + 1 := by simp
    have hw := hf.wl
    have hwr2 : 0 ≤ b ∧ b < 130 ∧ ks.length = 64 := by
     simp only [wrOk, Bool.and_eq_true, decide_eq_true_eq] at hwr
     exact ⟨hwr.1.1, hwr.1.2, hwr.2⟩
    refine ⟨⟨hd.bl, hd.bb, by show (d.waiting ++ [(⟨b, ks⟩ : DW)]).length ≤ maxLen; rw [hl]; unfold maxLen; omega, fun x hx => ?_, fun x hx => ?_⟩, Or.inr ⟨hf.bl, by show (d.waiting ++ [(⟨b, ks⟩ : DW)]).length ≤ 200; rw [hl]; omega, hf.bb, fun x hx => ?_⟩⟩
    all_goals
     rcases List.mem_append.1 hx with e | e
    · exact hd.wi x e
    ·
     obtain rfl : x = (⟨b, ks⟩ : DW) := by simpa using e
     exact hb
    · exact hd.wb x e
    ·
     obtain rfl : x = (⟨b, ks⟩ : DW) := by simpa using e
     exact hk
    · exact hf.wb x e
    ·
     obtain rfl : x = (⟨b, ks⟩ : DW) := by simpa using e
     exact hwr2
end Go.Proofs.YtmdpmdmilgbfiaaGreatDoor
