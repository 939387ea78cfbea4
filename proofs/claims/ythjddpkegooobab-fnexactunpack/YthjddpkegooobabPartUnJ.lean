import Derived.Recover
import Derived.Laws.Pointers
import Derived.Test.YthjddpkegooobabPartUnI

/-
  OB4: the specification's image, walked. Own work.
-/
namespace Go.Proofs.Ythjddpkegooobab
open Go.RowKit

set_option maxRecDepth 100000 in
theorem owns_bytesO {w : World} {base : Nat} {oa : Option Addr} {len cap n : Nat} {zs : List Nat} (h : w.ownsRow base 5 1 (.slice oa len cap) n (bcells zs)) : BytesAt w oa zs := fun i hi => by
  obtain ⟨g, ha, _, _, hc⟩ := owns_cell h (bcells_get hi)
  exact ⟨g, 0, ha, by rw [Nat.zero_add]; exact hc⟩
set_option maxRecDepth 100000 in
theorem numB_bytes (n : Nat) : ∀ x, x ∈ numB n → x < 256 := fun x hx => numB_byte n x hx
theorem valB_bytes {n : Nat} {v : GV} (h : okV n v = true) : ∀ x, x ∈ valB v → x < 256 := by
  intro x hx
  rcases okV_cases h with rfl | ⟨m, rfl⟩ | ⟨m, rfl⟩ | ⟨t, ht, rfl⟩ | ⟨k, hk, rfl⟩
  · have h1 : x ∈ [0] := hx
    have := List.mem_singleton.1 h1; omega
  · have h1 : x ∈ 1 :: numB (zig m) := hx
    rcases List.mem_cons.1 h1 with h2 | h2
    · omega
    · exact numB_byte _ x h2
  · have h1 : x ∈ 2 :: lowB 8 (u64n m) := hx
    rcases List.mem_cons.1 h1 with h2 | h2
    · omega
    · exact lowB_byte _ _ x h2
  · have h1 : x ∈ 3 :: (numB t.size ++ bsOf t) := hx
    rcases List.mem_cons.1 h1 with h2 | h2
    · omega
    · rcases List.mem_append.1 h2 with h3 | h3
      · exact numB_byte _ x h3
      · exact bsOf_byte h3
  · have h1 : x ∈ 4 :: numB k := hx
    rcases List.mem_cons.1 h1 with h2 | h2
    · omega
    · exact numB_byte _ x h2
set_option maxRecDepth 100000 in
theorem valsB_bytes {n : Nat} {l : List GV} (h : ∀ v, v ∈ l → okV n v = true) : ∀ x, x ∈ valsB l → x < 256 := by
  induction l with
  | nil => intro x hx; cases hx
  | cons v r ih =>
    intro x hx
    rcases List.mem_append.1 hx with h1 | h1
    · exact valB_bytes (h v (List.mem_cons_self ..)) x h1
    · exact ih (fun y hy => h y (List.mem_cons_of_mem _ hy)) x h1
set_option maxRecDepth 100000 in
theorem nodesB_bytes {n : Nat} {l : List GN} (h : ∀ v, v ∈ l → okN n v = true) : ∀ x, x ∈ nodesB l → x < 256 := by
  induction l with
  | nil => intro x hx; cases hx
  | cons v r ih =>
    intro x hx
    rcases List.mem_append.1 hx with h1 | h1
    · rcases List.mem_append.1 h1 with h2 | h2
      · exact numB_byte _ x h2
      · rcases List.mem_append.1 h2 with h3 | h3
        · exact numB_byte _ x h3
        · exact valsB_bytes (okN_parts (h v (List.mem_cons_self ..))).2 x h3
    · exact ih (fun y hy => h y (List.mem_cons_of_mem _ hy)) x h1
set_option maxRecDepth 100000 in
theorem graphB_bytes {g : GG} (hok : okG g = true) : ∀ x, x ∈ graphB g → x < 256 := by
  obtain ⟨_, hroot, hnodes⟩ := okG_parts hok
  intro x hx
  rcases List.mem_append.1 hx with h1 | h1
  · simp at h1; omega
  · rcases List.mem_append.1 h1 with h2 | h2
    · exact numB_byte _ x h2
    · rcases List.mem_append.1 h2 with h3 | h3
      · exact valB_bytes hroot x h3
      · exact nodesB_bytes hnodes x h3
set_option maxRecDepth 100000 in
theorem formB_bytes {g : GG} (hok : okG g = true) : ∀ x, x ∈ formB g → x < 256 := by
  intro x hx
  rcases List.mem_append.1 hx with h1 | h1
  · exact graphB_bytes hok x h1
  · exact lowB_byte _ _ x h1

set_option maxRecDepth 100000 in
theorem Ob.back {w0 w1 w : World} {base b0 : Nat} {oa : Option Addr} {cap : Nat} {zs : List Nat} (h : Ob w0 base (some ⟨b0, 0, none⟩) w oa cap zs) (hb : Below w1.heap.size w1 w0) (h0 : w1.heap.size ≤ b0) : Below w1.heap.size w1 w :=
  hb.trans (h.kept.below hb.size (fun k hk e => by have := some_addr e; omega))

set_option maxRecDepth 100000 in
theorem l2pack_any (a : Option Addr) (cap : Nat) (g : GG) (w : World) (hg : g.Ok) (hok : okG g = true) (ha : NodesAt w.heap.size w a g.nodes) :
    Calls Try.prog 69 #[g.val a cap] w (PackSPost (imageB g) w) := by
  obtain ⟨c, hc⟩ := hid_ex (canon g)
  have hcok : okG c = true := by rw [hc.out]; exact canon_okG hok
  have hcO : c.Ok := by rw [hc.out]; exact canon_ok hg hok
  obtain ⟨hl300, hroot, hnodes⟩ := okG_parts hcok
  have hgl : Hid (graphB c = gheadB c ++ nodesB c.nodes) := graphB_head c
  have hgl2 : (graphB c).length = (gheadB c).length + (nodesB c.nodes).length := by rw [hgl.out, List.length_append]
  have hglen := graphB_len hcO hcok
  have hnum := numB_ten (n := c.nodes.length) (by omega)
  have e6 := wrap_nat (n := c.nodes.length) (by omega)
  go_enter Try.func69, Try.ntmps69
  go_wp2_with (first
    | (go_at_call 127; refine (specCanon_any a cap g _ hok (ha.grow (gal (gre _) _))).mono ?_; rintro e w1 ⟨na, nc, rfl, hN, hb1⟩; rw [← hc.out] at hN ⊢; have hF := Five.new_at w1 c.root (.slice na c.nodes.length nc) 33 w1.heap.size rfl; have hO2 := owns_two (w1.alloc (.cells #[.int .i64 c.root.kind, .int .i64 c.root.num, .string c.root.text, .int .i64 c.root.node, .slice na c.nodes.length nc] 33)) (w1.heap.size + 1) (by simp); rw [show (w1.alloc (.cells #[.int .i64 c.root.kind, .int .i64 c.root.num, .string c.root.text, .int .i64 c.root.node, .slice na c.nodes.length nc] 33)).heap.size = w1.heap.size + 1 by simp] at hO2)
    | (go_at_call 128; refine (l2num_any (w1.heap.size + 1) _ _ _ [72, 49] c.nodes.length _ _ rfl ?_ (by omega) (by simp) (by simp) hO2).mono ?_; (first | rfl | exact e6); rintro e w3 ⟨oa3, cap3, rfl, hQ3⟩; obtain ⟨l3, hl3⟩ := hid_ex ([72, 49] ++ numB c.nodes.length).length; rw [← hl3.out]; have hF3 := (hF.kept (Kept.of_below (gal (gre _) _) (fun _ => False)) (fun e => e)).kept hQ3.kept (fun e => by have := some_addr e; omega); obtain ⟨gz, g0, g1, g2, g3, g4, gf⟩ := id hF3; have hs3 := hQ3.kept.size; simp only [World.size_alloc] at hs3)
    | (go_at_call 129; refine (l2val_any (w1.heap.size + 1) c.nodes.length _ _ _ ([72, 49] ++ numB c.nodes.length) c.root _ hl3.out hl300 hcO.root hroot (by omega) (by simp only [List.length_append, List.length_cons, List.length_nil]; omega) hQ3.own).mono ?_; rintro e w4 ⟨oa4, cap4, rfl, hQ4⟩; obtain ⟨l4, hl4⟩ := hid_ex ([72, 49] ++ numB c.nodes.length ++ valB c.root).length; rw [← hl4.out]; have hF4 := hF3.kept hQ4.kept (fun e => by have := (hQ3.lt e).1; omega); obtain ⟨iz, i0, i1, i2, i3, i4, if_⟩ := id hF4))
  have hR4 := hQ3.call hQ4
  obtain ⟨W2, hB12, hW2s, hR⟩ : ∃ W2, Below w1.heap.size w1 W2 ∧ w1.heap.size + 2 ≤ W2.heap.size ∧ Ob W2 (w1.heap.size + 1) (some ⟨w1.heap.size + 1, 0, none⟩) w4 oa4 cap4 (gheadB c) := ⟨_, gal (gal (gre _) _) _, by simp, by have e : [72, 49] ++ numB c.nodes.length ++ valB c.root = gheadB c := (by unfold gheadB; simp only [List.append_assoc]); rw [← e]; exact hR4⟩
  have hl4' : Hid (l4 = (gheadB c).length) := by show _ = _; rw [hl4.out]; unfold gheadB; simp only [List.append_assoc]
  have hw01 : Below w.heap.size w w1 := gca (gal (gre _) _) hb1
  clear hR4 hQ3 hQ4 hF hF3 hF4 hO2 gz g0 g1 g2 g3 g4 gf iz i0 i1 i2 i3 i4 if_ hb1 hl4 hl3 hs3
  go_loopw [4, 25] (fun o i ws => ∃ (k : Nat) (zs : List Nat) (oa1 : Option Addr) (cap1 : Nat), o = .slice oa1 zs.length cap1 ∧ i = .int .i64 k ∧ k ≤ c.nodes.length ∧ Hid (zs = gheadB c ++ nodesB (c.nodes.take k)) ∧ Ob W2 (w1.heap.size + 1) (some ⟨w1.heap.size + 1, 0, none⟩) ws oa1 cap1 zs) (fun _ i _ => c.nodes.length - (intOf i).toNat)
  case atStart => exact ⟨0, gheadB c, oa4, cap4, by rw [hl4'.out], rfl, Nat.zero_le _, by show _ = _; rw [List.take_zero, nodesB, List.append_nil], hR⟩
  case round =>
    obtain ⟨k, zs, oa1, cap1, rfl, rfl, hk, hzs, hOb⟩ := hrel
    have hBs := hOb.back hB12 (by omega)
    have hsz := hBs.size
    have hsz0 := hOb.kept.size
    by_cases hkl : k < c.nodes.length
    · obtain ⟨n, bn, off, va, vc, hnk, hnm, rfl, hbn, hnat⟩ := hN.get hkl
      have hnat2 := hnat.below hBs hbn
      have c0 := hnat2.tag
      have c1 := hnat2.sl
      have hvals := hnat.vals
      have hnok := hnodes n hnm
      have hnO := hcO.nodes n hnm
      obtain ⟨hvl, hvok⟩ := okN_parts hnok
      obtain ⟨ht0, ht1⟩ := okN_tag hnok
      obtain ⟨tg, htg⟩ : ∃ tg : Nat, n.tag = (tg : Int) := ⟨n.tag.toNat, by omega⟩
      have hnb : Hid (nodesB (c.nodes.take (k + 1)) = nodesB (c.nodes.take k) ++ (numB tg ++ (numB n.vals.length ++ valsB n.vals))) := by
        show _ = _
        rw [nodesB_take_succ _ _ hkl, ← hnk.out, nodeB, htg]; rfl
      have hnle : (nodesB (c.nodes.take (k + 1))).length ≤ (nodesB c.nodes).length := nodesB_take_le _ _
      rw [hnb.out] at hnle
      simp only [List.length_append] at hnle
      have hzl : zs.length ≤ 40000000 - ((numB tg).length + ((numB n.vals.length).length + (valsB n.vals).length)) := by rw [hzs.out, List.length_append]; omega
      have hzl2 : (numB tg).length + ((numB n.vals.length).length + (valsB n.vals).length) ≤ 40000000 := by omega
      rw [htg] at c0
      have hT := Two.new_at wr tg (.slice va n.vals.length vc) 116 wr.heap.size rfl
      have e7 := wrap_nat (n := tg) (by omega)
      have e8 := wrap_nat (n := n.vals.length) (by omega)
      have hnp : ¬ (oa1 = some ⟨wr.heap.size, 0, none⟩) := fun e => by have := (hOb.lt e).2; omega
      go_wp2_with (first
        | (go_at_call 128; refine (l2num_any (w1.heap.size + 1) _ _ _ (zs ++ numB tg) n.vals.length _ _ hl5.out ?_ (by omega) (by omega) (by simp only [List.length_append]; omega) hQ5.own).mono ?_; (first | rfl | exact e8); rintro e w6 ⟨oa6, cap6, rfl, hQ6⟩; obtain ⟨l6, hl6⟩ := hid_ex (zs ++ numB tg ++ numB n.vals.length).length; rw [← hl6.out]; obtain ⟨uz, u0, u1, uf, _⟩ := hT5.kept hQ6.kept (fun e => hnp (hQ5.loc _ (by simp) e)))
        | (go_at_call 128; refine (l2num_any (w1.heap.size + 1) _ _ _ zs tg _ _ rfl ?_ (by omega) (by simp only [World.size_alloc]; omega) (by omega) (hOb.grow (gal (gre _) _)).own).mono ?_; (first | rfl | exact e7); rintro e w5 ⟨oa5, cap5, rfl, hQ5⟩; obtain ⟨l5, hl5⟩ := hid_ex (zs ++ numB tg).length; rw [← hl5.out]; have hT5 := hT.kept hQ5.kept hnp; obtain ⟨tz, t0, t1, tf, _⟩ := id hT5; have hs5 := hQ5.kept.size; simp only [World.size_alloc] at hs5))
      have hR6 := ((hOb.grow (gal (gre _) _)).call hQ5).call hQ6
      clear hT hT5 tz t0 t1 tf uz u0 u1 uf hQ5 hQ6 hl5
      go_loopw [4, 43] (fun o i ws => ∃ (m : Nat) (ys : List Nat) (oa2 : Option Addr) (cap2 : Nat), o = .slice oa2 ys.length cap2 ∧ i = .int .i64 m ∧ m ≤ n.vals.length ∧ Hid (ys = zs ++ numB tg ++ numB n.vals.length ++ valsB (n.vals.take m)) ∧ Ob W2 (w1.heap.size + 1) (some ⟨w1.heap.size + 1, 0, none⟩) ws oa2 cap2 ys) (fun _ i _ => n.vals.length - (intOf i).toNat)
      case atStart => exact ⟨0, _, oa6, cap6, by rw [hl6.out], rfl, Nat.zero_le _, by show _ = _; rw [List.take_zero, valsB, List.append_nil], hR6⟩
      case round =>
        obtain ⟨m, ys, oa2, cap2, rfl, rfl, hm, hys, hOb2⟩ := hrel
        have hBs2 := hOb2.back hB12 (by omega)
        have hsz2 := hBs2.size
        by_cases hml : m < n.vals.length
        · obtain ⟨v, bv, ov, hvk, hvm, rfl, hbv, hvc⟩ := hvals.get hml
          obtain ⟨d0, d1, d2, d3⟩ := hvc.below hBs2 hbv
          have hvb : Hid (valsB (n.vals.take (m + 1)) = valsB (n.vals.take m) ++ valB v) := by show _ = _; rw [valsB_take_succ _ _ hml, ← hvk.out]
          have hvle : (valsB (n.vals.take (m + 1))).length ≤ (valsB n.vals).length := valsB_take_le _ _
          rw [hvb.out, List.length_append] at hvle
          have hyl : ys.length ≤ 40000000 := by rw [hys.out]; simp only [List.length_append]; omega
          go_wp2_with (go_at_call 129; refine (l2val_any (w1.heap.size + 1) c.nodes.length _ _ _ ys v _ rfl hl300 (hnO.vals v hvm) (hvok v hvm) (by simp only [World.size_alloc]; omega) (by omega) (hOb2.grow (gal (gre _) _)).own).mono ?_; rintro e w7 ⟨oa7, cap7, rfl, hQ7⟩; obtain ⟨l7, hl7⟩ := hid_ex (ys ++ valB v).length; rw [← hl7.out])
          go_roundw
          case rel => exact ⟨m + 1, ys ++ valB v, oa7, cap7, by rw [hl7.out], by go_num, by omega, by show _ = _; rw [hvb.out, ← List.append_assoc, ← hys.out], (hOb2.grow (gal (gre _) _)).call hQ7⟩
          case measure => simp [intOf]; omega
        · obtain rfl : m = n.vals.length := by omega
          have hfin : Hid (ys = gheadB c ++ nodesB (c.nodes.take (k + 1))) := by
            show _ = _
            rw [hnb.out, hys.out, List.take_length, hzs.out]
            simp only [List.append_assoc]
          go_wp2
          go_roundw
          case rel =>
            exact ⟨k + 1, ys, oa2, cap2, rfl, by go_num, by omega, hfin, hOb2⟩
          case measure => simp [intOf]; omega
    · obtain rfl : k = c.nodes.length := by omega
      have e9 : Hid (zs = graphB c) := by show _ = _; rw [hzs.out, List.take_length, hgl.out]
      have hzl : zs.length ≤ 40000000 := by rw [e9.out]; exact hglen
      go_wp2_with (first
        | (go_at_call 131; refine (l2sum_any oa1 zs cap1 _ (owns_bytesO hOb.own) (by unfold maxLen; omega) (by rw [e9.out]; exact graphB_bytes hcok)).mono ?_; rintro e w8 ⟨rfl, hb8⟩; have hOb8 := hOb.grow hb8; have hs8 := hb8.size)
        | (go_at_call 130; refine (l2eight_any (w1.heap.size + 1) _ _ _ zs (sumN zs) _ _ rfl rfl (sumN_lt _) (by omega) (by omega) hOb8.own).mono ?_; rintro e w9 ⟨oa9, cap9, rfl, hQ9⟩; obtain ⟨l9, hl9⟩ := hid_ex (zs ++ lowB 8 (sumN zs)).length; rw [← hl9.out]))
      go_ret
      have hR9 := hOb8.call hQ9
      have e10 : zs ++ lowB 8 (sumN zs) = imageB g := by unfold imageB formB; rw [← hc.out, e9.out]
      have hB9 := hR9.back hB12 (by omega)
      rw [e10] at hR9 hl9
      exact ⟨oa9, cap9, by rw [← hl9.out]; rfl, owns_le hR9.own (by have := hw01.size; omega), hw01.trans (hB9.mono hw01.size)⟩


set_option maxRecDepth 100000 in
theorem specPack_any (a : Option Addr) (cap : Nat) (g : GG) (w : World) (hg : g.Ok) (ha : NodesAt w.heap.size w a g.nodes) :
    Calls Try.prog 16 #[g.val a cap] w (PackSPost (packB g) w) := by
  have hX0 := GBox.new w g a cap 33
  cases hok : okG g with
  | false =>
    have hz : Hid (packB g = []) := if_neg (by rw [hok]; simp)
    have hok' : Hid _ := hok
    go_enter Try.func16, Try.ntmps16
    go_wp2_with (go_at_call 68; refine (specGraphOk_any a cap g _ hg (ha.grow (gal (gre _) _))).mono ?_; rintro e w1 ⟨rfl, hb1⟩; rw [hok'.out])
    go_ret
    exact ⟨none, 0, by rw [hz.out]; rfl, by rw [hz.out]; exact World.ownsRow_nil _ _ _ _, gca (gal (gre _) _) hb1⟩
  | true =>
    have hok' : Hid _ := hok
    by_cases hl : (imageB g).length ≤ 4096
    · have hz : Hid (packB g = imageB g) := if_pos ⟨hok, hl⟩
      have hd : ¬ ((4096 : Int) < ((imageB g).length : Int)) := by omega
      go_enter Try.func16, Try.ntmps16
      go_wp2_with (first
        | (go_at_call 68; refine (specGraphOk_any a cap g _ hg (ha.grow (gal (gre _) _))).mono ?_; rintro e w1 ⟨rfl, hb1⟩; obtain ⟨xz, x0, x1, x2, x3, x4⟩ := hX0.grow hb1; rw [hok'.out])
        | (go_at_call 69; refine (l2pack_any a cap g _ hg hok'.out (ha.grow (gca (gal (gre _) _) hb1))).mono ?_; rintro e w2 ⟨oa, cap2, rfl, hown, hb2⟩))
      go_ret
      exact ⟨oa, cap2, by rw [hz.out]; rfl, by rw [hz.out]; exact owns_le hown (by have := hb1.size; simp at this; omega), gca (gca (gal (gre _) _) hb1) hb2⟩
    · have hz : Hid (packB g = []) := if_neg (fun h => hl h.2)
      have hd : ((4096 : Int) < ((imageB g).length : Int)) := by omega
      go_enter Try.func16, Try.ntmps16
      go_wp2_with (first
        | (go_at_call 68; refine (specGraphOk_any a cap g _ hg (ha.grow (gal (gre _) _))).mono ?_; rintro e w1 ⟨rfl, hb1⟩; obtain ⟨xz, x0, x1, x2, x3, x4⟩ := hX0.grow hb1; rw [hok'.out])
        | (go_at_call 69; refine (l2pack_any a cap g _ hg hok'.out (ha.grow (gca (gal (gre _) _) hb1))).mono ?_; rintro e w2 ⟨oa, cap2, rfl, hown, hb2⟩))
      go_ret
      exact ⟨none, 0, by rw [hz.out]; rfl, by rw [hz.out]; exact World.ownsRow_nil _ _ _ _, gca (gca (gal (gre _) _) hb1) hb2⟩

end Go.Proofs.Ythjddpkegooobab

/-
  PACKI: the program's Pack. Own work.
-/
namespace Go.Proofs.Ythjddpkegooobab
open Go.RowKit

set_option maxRecDepth 100000 in
theorem assert_nil (w : World) : (Instr.typeAssert .nilIface 20 164 true).run Try.prog w = .ok (.tuple #[.agg #[], .bool false]) w := by kernel_rfl
theorem assert_halt (w : World) : (Instr.typeAssert (.iface 164 (.agg #[])) 20 164 true).run Try.prog w = .ok (.tuple #[.agg #[], .bool true]) w := by kernel_rfl

set_option maxRecDepth 100000 in
theorem passOn_nil (w : World) : Calls Try.prog 73 #[.nilIface] w fun e w' => e = .returned (.tuple #[]) ∧ w' = w := by
  have ht := assert_nil
  go_enter Try.func73, Try.ntmps73
  go_wp2
  first | go_end0 | refine bodyPost_ret (results_none rfl _ _ _) rfl ?_
  exact ⟨rfl, rfl⟩

set_option maxRecDepth 100000 in
theorem passOn_halt (w : World) : Calls Try.prog 73 #[.iface 164 (.agg #[])] w fun e w' => e = .returned (.tuple #[]) ∧ w' = w := by
  have ht := assert_halt
  go_enter Try.func73, Try.ntmps73
  go_wp2
  first | go_end0 | refine bodyPost_ret (results_none rfl _ _ _) rfl ?_
  exact ⟨rfl, rfl⟩

set_option maxRecDepth 100000 in
theorem packCatch_panicking (older : List PanicEntry) (w : World) :
    CallsD Try.prog 72 #[] (.panicking (haltP :: older)) w fun e u' w' =>
      e = .returned (.tuple #[]) ∧ u' = .panicking ({ v := .iface 164 (.agg #[]), recovered := true } :: older) ∧ w' = w := by
  refine callsD_of_wpS Try.func72 rfl fun c₀ cs hu => ?_
  apply wpS_region
  simp [wpOpsS, go_sem, recoverD, hu, Try.ntmps72]
  refine (passOn_halt w).mono ?_
  rintro e w' ⟨rfl, rfl⟩
  simp [bodyPostS, results, Try.results72]

set_option maxRecDepth 100000 in
theorem packCatch_idle (w : World) :
    CallsD Try.prog 72 #[] .returning w fun e u' w' => e = .returned (.tuple #[]) ∧ u' = .returning ∧ w' = w := by
  refine callsD_of_wpS Try.func72 rfl fun c₀ cs hu => ?_
  apply wpS_region
  simp [wpOpsS, go_sem, recoverD, hu, Try.ntmps72]
  refine (passOn_nil w).mono ?_
  rintro e w' ⟨rfl, rfl⟩
  cases c₀
  simp_all [bodyPostS, results, Try.results72]

/-- what Pack leaves -/
def PackIPost (ys : List Nat) (w : World) (e : Ending) (w' : World) : Prop :=
  ∃ oa cap, e = .returned (.slice oa ys.length cap) ∧ MB w' w.heap.size oa ys ∧ Below w.heap.size w w'
/-- the same, and its room -/
def PackICap (ys : List Nat) (w : World) (e : Ending) (w' : World) : Prop :=
  ∃ oa cap, e = .returned (.slice oa ys.length cap) ∧ MB w' w.heap.size oa ys ∧ Below w.heap.size w w' ∧ ys.length ≤ cap
theorem PackICap.post {ys : List Nat} {w : World} {e : Ending} {w' : World} (h : PackICap ys w e w') : PackIPost ys w e w' := let ⟨oa, cap, h1, h2, h3, _⟩ := h; ⟨oa, cap, h1, h2, h3⟩

set_option maxRecDepth 100000 in
theorem u64n_wrap {n : Nat} (h : n < 18446744073709551616) : u64n (wrap64 (n : Int)) = n := by unfold u64n wrap64; omega
theorem i64_wrap (n : Int) : I64 (wrap64 n) := by unfold I64 wrap64; omega

set_option maxRecDepth 100000 in
theorem wr_new (w : World) (M : Array Value) (hM : M.size = 4096) : Wr ((w.alloc (.cells M 5)).alloc (.cells #[.slice (some ⟨w.heap.size, 0, none⟩) 4096 4096, .int .i64 0] 100)) (w.heap.size + 1) w.heap.size [] := by
  refine ⟨⟨by simp, by simp, by simp, fun o => by simp⟩, by omega, ⟨M, ?_, hM, by simp, fun i hi => absurd hi (Nat.not_lt_zero _)⟩⟩
  rw [Below.heap_alloc _ _ _ (by simp)]
  exact blk_new_at _ _ _ rfl

set_option maxRecDepth 100000 in
theorem implPack_cap (a : Option Addr) (cap : Nat) (g : GG) (w : World) (hg : g.Ok) (ha : NodesAt w.heap.size w a g.nodes) :
    Calls Try.prog 18 #[g.val a cap] w (PackICap (packB g) w) := by
  have hX0 := GBox.new w g a cap 33
  cases hok : okG g with
  | false =>
    have hz : Hid (packB g = []) := if_neg (by rw [hok]; simp)
    have hok' : Hid _ := hok
    go_enter_defers Try.func18, Try.ntmps18
    go_wp2_with (go_at_call 74; refine (implGraphOk_any a cap g _ hg (ha.grow (gal (gre _) _))).mono ?_; rintro e w1 ⟨rfl, hb1⟩; rw [hok'.out])
    refine leaves_cons (f := 72) (args := #[]) (by simp) (by simp [go_sem]) ?_
    refine (packCatch_idle _).mono ?_
    rintro e u' w'' ⟨rfl, rfl, rfl⟩
    refine ⟨_, results_tmp rfl _ _ _, ?_⟩
    exact ⟨none, 0, by rw [hz.out]; rfl, Or.inl hz.out, gca (gal (gre _) _) hb1, by rw [hz.out]; exact Nat.le_refl _⟩
  | true =>
    have hok' : Hid _ := hok
    obtain ⟨i0, hi, hz0, hz1, hz2⟩ := info_parts info_u8
    obtain ⟨M, hM⟩ := hid_ex (madeCells #[Value.int .u8 0] 4096)
    have hMs : M.size = 4096 := by rw [hM.out, size_madeCells]
    have hmk : ∀ u : World, (Instr.makeSlice 28 (.int .i64 4096) (.int .i64 4096)).run Try.prog u = .ok (.slice (some ⟨u.heap.size, 0, none⟩) 4096 4096) (u.alloc (.cells M 5)) := fun u => by
      have h := run_make (P := Try.prog) u 28 5 i0 _ Try.underlying28 hi hz0 .i64 .i64 4096 4096 (by omega) (Int.le_refl _) (by rw [hz2]; omega) (by omega)
      rw [hM.out]
      simpa [hz1, Value.cells] using h
    obtain ⟨c, hc⟩ := hid_ex (canon g)
    have hcz : Hid (canonZ g = c) := by show _ = _; rw [hc.out]; exact if_pos hok
    have hcok : okG c = true := by rw [hc.out]; exact canon_okG hok
    have hcO : c.Ok := by rw [hc.out]; exact canon_ok hg hok
    have hcb := graphB_bytes hcok
    have him : Hid (imageB g = graphB c ++ lowB 8 (sumN (graphB c))) := by show _ = _; unfold imageB formB; rw [← hc.out]
    have hsl := u64n_wrap (sumN_lt (graphB c))
    have hlow := lowB_length 8 (sumN (graphB c))
    clear hM
    go_enter_defers Try.func18, Try.ntmps18
    go_wp2_with (first
      | (go_at_call 79; refine (passed_any _ _ 4096 4096 _ _ hW6.cur (by omega) (by decide) hW6.le).mono ?_; rintro e w7 ⟨rfl, hb7⟩; have hW7 := hW6.grow hb7)
      | (go_at_call 74; refine (implGraphOk_any a cap g _ hg (ha.grow (gal (gre _) _))).mono ?_; rintro e w1 ⟨rfl, hb1⟩; have hX1 := hX0.grow hb1; obtain ⟨xz, x0, x1, x2, x3, x4⟩ := id hX1; rw [hok'.out]; have hWn := wr_new w1 M hMs)
      | (go_at_call 76; refine (implCanon_any a cap g _ hg (ha.grow (gal (gal (gca (gal (gre _) _) hb1) _) _))).mono ?_; rintro e w3 ⟨na, nc, nl, rfl, hnl, hown, hb3⟩; rw [hcz.out] at hnl ⊢; have hW3 := hWn.grow hb3; simp only [World.size_alloc] at hown)
      | (go_at_call 75; refine (writeGraph_any (w1.heap.size + 1) w1.heap.size [] c na nc (w1.heap.size + 1 + 1) nl _ hW3 hcO hcok hnl (fun w' hK => hown.kept hK (fun b hb hp => by have := (hown.nodes.lt b (by rw [hb]; rfl)).1; omega) (fun x hx b hb hp => by have := ((hown.vals x hx).lt b (by rw [hb]; rfl)).1; omega))).mono ?_; rintro e w4 ⟨hK4, h4⟩; rw [List.nil_append] at h4; obtain ⟨hf4, rfl, hW4⟩ | ⟨hno4, rfl⟩ := h4)
      | (go_at_call 78; refine (implSumOf_any _ (graphB c) 4096 _ (brow_bytes hW5.row) (by have := hW5.le; unfold maxLen; omega) hcb).mono ?_; rintro e w55 ⟨rfl, hb55⟩; have hW55 := hW5.grow hb55)
      | (go_at_call 77; refine (writeWord_any _ _ (graphB c) _ _ hW55 (i64_wrap _)).mono ?_; rintro e w6 ⟨hK6, h6⟩; rw [hsl] at h6; obtain ⟨hf6, rfl, hW6⟩ | ⟨hno6, rfl⟩ := h6)
      | (go_at_call 79; refine (passed_any _ _ 4096 4096 _ _ hW4.cur (by omega) (by decide) hW4.le).mono ?_; rintro e w5 ⟨rfl, hb5⟩; have hW5 := hW4.grow hb5))
    · have hB3 : Below w.heap.size w w3 := gca (gal (gal (gca (gal (gre _) _) hb1) _) _) hb3
      have hB4 := hB3.trans (hK4.below hB3.size (fun k hk hp => by omega))
      have hB6 := (gca (gca hB4 hb5) hb55).trans (hK6.below (gca (gca hB4 hb5) hb55).size (fun k hk hp => by omega))
      have hz : packB g = graphB c ++ lowB 8 (sumN (graphB c)) := by
        rw [← him.out]
        exact if_pos ⟨hok, by rw [him.out, List.length_append]; exact hf6⟩
      refine leaves_cons (f := 72) (args := #[]) (by simp) (by simp [go_sem]) ?_
      refine (packCatch_idle _).mono ?_
      rintro e u' w'' ⟨rfl, rfl, rfl⟩
      refine ⟨_, results_tmp rfl _ _ _, ?_⟩
      exact ⟨some ⟨w1.heap.size, 0, none⟩, 4096, by rw [hz, List.length_append, hlow]; rfl, Or.inr ⟨w1.heap.size, 4096, rfl, by omega, by rw [hz]; exact hW7.row⟩, gca hB6 hb7, by rw [hz, List.length_append]; exact hf6⟩
    · have hB3 : Below w.heap.size w w3 := gca (gal (gal (gca (gal (gre _) _) hb1) _) _) hb3
      have hB4 := hB3.trans (hK4.below hB3.size (fun k hk hp => by omega))
      have hB6 := (gca (gca hB4 hb5) hb55).trans (hK6.below (gca (gca hB4 hb5) hb55).size (fun k hk hp => by omega))
      have hz : packB g = [] := if_neg (fun h => by have h2 := h.2; rw [him.out, List.length_append] at h2; omega)
      refine leaves_cons (f := 72) (args := #[]) (by simp) (by simp [go_sem]) ?_
      refine (packCatch_panicking [] _).mono ?_
      rintro e u' w'' ⟨rfl, rfl, rfl⟩
      refine ⟨_, results_tmp rfl _ _ _, ?_⟩
      exact ⟨none, 0, by rw [hz]; rfl, Or.inl hz, hB6, by rw [hz]; exact Nat.le_refl _⟩
    · have hB3 : Below w.heap.size w w3 := gca (gal (gal (gca (gal (gre _) _) hb1) _) _) hb3
      have hB4 := hB3.trans (hK4.below hB3.size (fun k hk hp => by omega))
      have hz : packB g = [] := if_neg (fun h => by have h2 := h.2; rw [him.out, List.length_append] at h2; simp at hno4; omega)
      refine leaves_cons (f := 72) (args := #[]) (by simp) (by simp [go_sem]) ?_
      refine (packCatch_panicking [] _).mono ?_
      rintro e u' w'' ⟨rfl, rfl, rfl⟩
      refine ⟨_, results_tmp rfl _ _ _, ?_⟩
      exact ⟨none, 0, by rw [hz]; rfl, Or.inl hz, hB4, by rw [hz]; exact Nat.le_refl _⟩

theorem implPack_any (a : Option Addr) (cap : Nat) (g : GG) (w : World) (hg : g.Ok) (ha : NodesAt w.heap.size w a g.nodes) :
    Calls Try.prog 18 #[g.val a cap] w (PackIPost (packB g) w) := (implPack_cap a cap g w hg ha).mono fun _ _ h => h.post

end Go.Proofs.Ythjddpkegooobab

/-
  UNPACKI: the program's Unpack. Own work.
-/
namespace Go.Proofs.Ythjddpkegooobab
open Go.RowKit

set_option maxRecDepth 100000 in
theorem unCatch_panicking (older : List PanicEntry) (w : World) :
    CallsD Try.prog 86 #[] (.panicking (haltP :: older)) w fun e u' w' =>
      e = .returned (.tuple #[]) ∧ u' = .panicking ({ v := .iface 164 (.agg #[]), recovered := true } :: older) ∧ w' = w := by
  refine callsD_of_wpS Try.func86 rfl fun c₀ cs hu => ?_
  apply wpS_region
  simp [wpOpsS, go_sem, recoverD, hu, Try.ntmps86]
  refine (passOn_halt w).mono ?_
  rintro e w' ⟨rfl, rfl⟩
  simp [bodyPostS, results, Try.results86]

set_option maxRecDepth 100000 in
theorem unCatch_idle (w : World) :
    CallsD Try.prog 86 #[] .returning w fun e u' w' => e = .returned (.tuple #[]) ∧ u' = .returning ∧ w' = w := by
  refine callsD_of_wpS Try.func86 rfl fun c₀ cs hu => ?_
  apply wpS_region
  simp [wpOpsS, go_sem, recoverD, hu, Try.ntmps86]
  refine (passOn_nil w).mono ?_
  rintro e w' ⟨rfl, rfl⟩
  cases c₀
  simp_all [bodyPostS, results, Try.results86]

abbrev unVal (ok : Bool) (g : GG) (na : Option Addr) (nc : Nat) : Value :=
  .agg #[.bool ok, .int .i64 g.root.kind, .int .i64 g.root.num, .string g.root.text, .int .i64 g.root.node, .slice na g.nodes.length nc]

/-- what Unpack leaves -/
def UIPost (bs : List Nat) (w : World) (e : Ending) (w' : World) : Prop :=
  ∃ na nc nl, e = .returned (unVal (unB bs).1 (unB bs).2 na nc) ∧ nl.map (·.n) = (unB bs).2.nodes ∧ OwnG w' w.heap.size na nc nl ∧ Below w.heap.size w w'

theorem own_nil (w : World) (base : Nat) : OwnG w base none 0 [] :=
  ⟨World.ownsRow_nil _ _ _ _, fun x hx => (by cases hx), fun x hx => (by cases hx), fun i j _ hj => absurd hj (Nat.not_lt_zero _)⟩
theorem packB_bytes (g : GG) : ∀ x, x ∈ packB g → x < 256 := by
  unfold packB
  split
  · rename_i h; exact formB_bytes (canon_okG h.1)
  · intro x hx; cases hx
theorem rd_new (w : World) (sa : Option Addr) (bs : List Nat) (cap : Nat) (ha : BytesAt w sa bs) (hc : bs.length ≤ cap) (hl : bs.length ≤ 1099511627776) (hb : ∀ x, x ∈ bs → x < 256) : Rd (w.alloc (.cells #[.slice sa bs.length cap, .int .i64 0] 117)) w.heap.size sa cap bs bs :=
  ⟨⟨0, ⟨by simp, by simp, by simp, fun o => by simp⟩, Nat.zero_le _, rfl⟩, (ha.low).below (gal (gre _) _), hc, hl, hb⟩

theorem MB.bytes {w : World} {lo : Nat} {oa : Option Addr} {ys : List Nat} (h : MB w lo oa ys) : BytesAt w oa ys := by
  rcases h with rfl | ⟨G, n, rfl, _, hB⟩
  · exact fun i hi => absurd hi (Nat.not_lt_zero _)
  · exact brow_bytes hB

/-- an answer's own variable -/
structure Six (w : World) (b : Nat) (ok : Bool) (v : GV) (s : Value) : Prop where
  lt : b < w.heap.size
  c0 : w.cell? ⟨b, 0, none⟩ = some (.bool ok)
  c1 : w.cell? ⟨b, 1, none⟩ = some (.int .i64 v.kind)
  c2 : w.cell? ⟨b, 2, none⟩ = some (.int .i64 v.num)
  c3 : w.cell? ⟨b, 3, none⟩ = some (.string v.text)
  c4 : w.cell? ⟨b, 4, none⟩ = some (.int .i64 v.node)
  c5 : w.cell? ⟨b, 5, none⟩ = some s
  f : ∀ o, w.frozen? ⟨b, o, none⟩ = false
theorem Six.same {w w' : World} {b : Nat} {ok : Bool} {v : GV} {s : Value} (h : Six w b ok v s) (e : w'.heap[b]? = w.heap[b]?) (hlt : b < w'.heap.size) : Six w' b ok v s :=
  ⟨hlt, (World.cell?_of_block (w := w) e).trans h.c0, (World.cell?_of_block (w := w) e).trans h.c1, (World.cell?_of_block (w := w) e).trans h.c2, (World.cell?_of_block (w := w) e).trans h.c3, (World.cell?_of_block (w := w) e).trans h.c4, (World.cell?_of_block (w := w) e).trans h.c5, fun o => (World.frozen?_of_block (w := w) e).trans (h.f o)⟩
theorem Six.kept {p : Nat → Prop} {w w' : World} {b : Nat} {ok : Bool} {v : GV} {s : Value} (h : Six w b ok v s) (k : Kept p w w') (hn : ¬ p b) : Six w' b ok v s := h.same (k.block b h.lt hn) (Nat.lt_of_lt_of_le h.lt k.size)
theorem Six.new (w : World) (ok : Bool) (v : GV) (s : Value) (t : TypeId) : Six (w.alloc (.cells #[.bool ok, .int .i64 v.kind, .int .i64 v.num, .string v.text, .int .i64 v.node, s] t)) w.heap.size ok v s :=
  ⟨by simp, by simp, by simp, by simp, by simp, by simp, by simp, fun o => by simp⟩

theorem GRPost.no {b : Nat} {sa : Option Addr} {cap : Nat} {bs r : List Nat} {w w' : World} {e : Ending} (h : GRPost b sa cap bs r w e w') (hn : rdGraph r = none) : e = .panicked [haltP] ∧ Kept (fun k => k = b) w w' := by
  obtain ⟨hK, ⟨g, q, na, nc, nl, hx, _⟩ | ⟨_, e1⟩⟩ := h
  · have := hx.out; rw [hn] at this; cases this
  · exact ⟨e1, hK⟩
theorem GRPost.ok {b : Nat} {sa : Option Addr} {cap : Nat} {bs r : List Nat} {w w' : World} {e : Ending} {g : GG} {q : List Nat} (h : GRPost b sa cap bs r w e w') (hn : rdGraph r = some (g, q)) : ∃ na nc nl, e = .returned (g.val na nc) ∧ nl.map (·.n) = g.nodes ∧ OwnG w' w.heap.size na nc nl ∧ Kept (fun k => k = b) w w' := by
  obtain ⟨hK, ⟨g', q', na, nc, nl, hx, e1, h1, h2, _⟩ | ⟨hx, _⟩⟩ := h
  · have e2 := hx.out
    rw [hn] at e2
    have e3 : g = g' := by cases e2; rfl
    subst e3
    exact ⟨na, nc, nl, e1, h1, h2, hK⟩
  · have := hx.out; rw [hn] at this; cases this

set_option maxHeartbeats 1000000 in
set_option maxRecDepth 100000 in
theorem implUnpack_any (sa : Option Addr) (cap : Nat) (bs : List Nat) (w : World) (ha : BytesAt w sa bs) (hc : bs.length ≤ cap) (hl : bs.length ≤ 1099511627776) (hbyte : ∀ x, x ∈ bs → x < 256) :
    Calls Try.prog 26 #[.slice sa bs.length cap] w (UIPost bs w) := by
  have hS0 := Six.new w false ⟨0, 0, ⟨#[]⟩, 0⟩ (.slice none 0 0) 41
  have hR0 := rd_new (w.alloc (.cells #[.bool false, .int .i64 0, .int .i64 0, .string ⟨#[]⟩, .int .i64 0, .slice none 0 0] 41)) sa bs cap (ha.grow (gal (gre _) _)) hc hl hbyte
  simp only [World.size_alloc] at hR0
  cases hg : rdGraph bs with
  | none =>
    have hg' : Hid _ := hg
    have hun : unB bs = (false, zeroG) := by unfold unB; rw [hg]
    go_enter_defers Try.func26, Try.ntmps26
    go_wp2_with (go_at_call 87; refine (readGraph_any (w.heap.size + 1) sa cap bs bs _ hR0).mono ?_; intro e w1 h1; obtain ⟨rfl, hK1⟩ := h1.no hg'.out)
    obtain ⟨sz, s0, s1, s2, s3, s4, s5, sf⟩ := (hS0.kept ((Kept.refl (fun _ => False) _).alloc (.cells #[.slice sa bs.length cap, .int .i64 0] 117)) (fun e => e)).kept hK1 (by omega)
    refine leaves_cons (f := 86) (args := #[]) (by simp) (by simp [go_sem]) ?_
    refine (unCatch_panicking [] _).mono ?_
    rintro e u' w'' ⟨rfl, rfl, rfl⟩
    refine ⟨unVal false zeroG none 0, by simp [results, Try.results26, go_sem, s0, s1, s2, s3, s4, s5, zeroG], ?_⟩
    exact ⟨none, 0, [], by rw [hun], by rw [hun]; rfl, own_nil _ _, (gal (gal (gre w) _) _).trans (hK1.below (by simp; omega) (fun k hk e => by omega))⟩
  | some y =>
    obtain ⟨g, q⟩ := y
    have hg' : Hid _ := hg
    have hgok := rdGraph_ok hg
    obtain ⟨p, hp⟩ := hid_ex (packB g)
    have hpb : ∀ x, x ∈ p → x < 256 := by rw [hp.out]; exact packB_bytes g
    by_cases heq : p = bs
    · have hun : unB bs = (true, g) := by unfold unB; rw [hg]; exact if_pos (by rw [← hp.out]; exact heq)
      have heq' : Hid (decide (p = bs) = true) := decide_eq_true heq
      clear heq
      go_enter_defers Try.func26, Try.ntmps26
      go_wp2_with (first
        | (go_at_call 87; refine (readGraph_any (w.heap.size + 1) sa cap bs bs _ hR0).mono ?_; intro e w1 h1; obtain ⟨na, nc, nl, rfl, hnl, hO1, hK1⟩ := h1.ok hg'.out; clear h1; simp only [World.size_alloc] at hO1; have hS1 := (hS0.kept ((Kept.refl (fun _ => False) _).alloc (.cells #[.slice sa bs.length cap, .int .i64 0] 117)) (fun e => e)).kept hK1 (by omega); have hB1 : Below w.heap.size w w1 := (gal (gal (gre w) _) _).trans (hK1.below (by simp; omega) (fun k hk e => by omega)); have hX1 := GBox.new w1 g na nc 33; have hN1 := hO1.at_; rw [hnl] at hN1)
        | (go_at_call 18; refine (implPack_any na nc g _ hgok (hN1.grow (gal (gre _) _))).mono ?_; rintro e w2 ⟨oa2, cap2, rfl, hM2, hb2⟩; rw [← hp.out] at hM2 ⊢; have hX2 := hX1.grow hb2; have hS2 := (hS1.kept ((Kept.refl (fun _ => False) _).alloc (.cells #[.int .i64 g.root.kind, .int .i64 g.root.num, .string g.root.text, .int .i64 g.root.node, .slice na g.nodes.length nc] 33)) (fun e => e)).kept (Kept.of_below hb2 (fun _ => False)) (fun e => e); have hB2 := gca (gal hB1 _) hb2; have hM2' := hM2.bytes)
        | (go_at_call 88; refine (bytesEqual_any oa2 sa p bs cap2 cap _ hpb hbyte hM2' (ha.grow hB2)).mono ?_; rintro e w3 ⟨rfl, hb3⟩; rw [heq'.out]; obtain ⟨xz, x0, x1, x2, x3, x4⟩ := hX2.grow hb3; have hS3 := hS2.kept (Kept.of_below hb3 (fun _ => False)) (fun e => e); obtain ⟨sz, s0, s1, s2, s3, s4, s5, sf⟩ := id hS3))
      have hC : Kept (fun k => k = w.heap.size) w3 ((((((w3.setCell ⟨w.heap.size, 0, none⟩ (.bool true)).setCell ⟨w.heap.size, 1, none⟩ (.int .i64 g.root.kind)).setCell ⟨w.heap.size, 2, none⟩ (.int .i64 g.root.num)).setCell ⟨w.heap.size, 3, none⟩ (.string g.root.text)).setCell ⟨w.heap.size, 4, none⟩ (.int .i64 g.root.node)).setCell ⟨w.heap.size, 5, none⟩ (.slice na g.nodes.length nc)) := ((((((Kept.refl (fun k => k = w.heap.size) w3).set (fun _ => rfl) _).set (fun _ => rfl) _).set (fun _ => rfl) _).set (fun _ => rfl) _).set (fun _ => rfl) _).set (fun _ => rfl) _
      have hB3 := gca hB2 hb3
      have hO3 := ((hO1.kept (Kept.of_below (gca (gal (gre w1) (.cells #[.int .i64 g.root.kind, .int .i64 g.root.num, .string g.root.text, .int .i64 g.root.node, .slice na g.nodes.length nc] 33)) (gca hb2 hb3)) (fun _ => False)) (fun _ _ e => e) (fun _ _ _ _ e => e)).kept hC (fun k hk hp => by have := hO1.nodes.lt k (by rw [hk]; rfl); omega) (fun x hx k hk hp => by have := (hO1.vals x hx).lt k (by rw [hk]; rfl); omega)).le (show w.heap.size ≤ w.heap.size + 1 + 1 by omega)
      refine leaves_cons (f := 86) (args := #[]) (by simp) (by simp [go_sem]) ?_
      refine (unCatch_idle _).mono ?_
      rintro e u' w'' ⟨rfl, rfl, rfl⟩
      refine ⟨unVal true g na nc, by simp [results, Try.results26, go_sem, s0, s1, s2, s3, s4, s5], ?_⟩
      exact ⟨na, nc, nl, by rw [hun], by rw [hun]; exact hnl, hO3, hB3.trans (hC.below hB3.size (fun k hk e => by omega))⟩
    · have hun : unB bs = (false, zeroG) := by unfold unB; rw [hg]; exact if_neg (by rw [← hp.out]; exact heq)
      have heq' : Hid (decide (p = bs) = false) := decide_eq_false heq
      clear heq
      go_enter_defers Try.func26, Try.ntmps26
      go_wp2_with (first
        | (go_at_call 87; refine (readGraph_any (w.heap.size + 1) sa cap bs bs _ hR0).mono ?_; intro e w1 h1; obtain ⟨na, nc, nl, rfl, hnl, hO1, hK1⟩ := h1.ok hg'.out; clear h1; simp only [World.size_alloc] at hO1; have hS1 := (hS0.kept ((Kept.refl (fun _ => False) _).alloc (.cells #[.slice sa bs.length cap, .int .i64 0] 117)) (fun e => e)).kept hK1 (by omega); have hB1 : Below w.heap.size w w1 := (gal (gal (gre w) _) _).trans (hK1.below (by simp; omega) (fun k hk e => by omega)); have hX1 := GBox.new w1 g na nc 33; have hN1 := hO1.at_; rw [hnl] at hN1)
        | (go_at_call 18; refine (implPack_any na nc g _ hgok (hN1.grow (gal (gre _) _))).mono ?_; rintro e w2 ⟨oa2, cap2, rfl, hM2, hb2⟩; rw [← hp.out] at hM2 ⊢; have hX2 := hX1.grow hb2; have hS2 := (hS1.kept ((Kept.refl (fun _ => False) _).alloc (.cells #[.int .i64 g.root.kind, .int .i64 g.root.num, .string g.root.text, .int .i64 g.root.node, .slice na g.nodes.length nc] 33)) (fun e => e)).kept (Kept.of_below hb2 (fun _ => False)) (fun e => e); have hB2 := gca (gal hB1 _) hb2; have hM2' := hM2.bytes)
        | (go_at_call 88; refine (bytesEqual_any oa2 sa p bs cap2 cap _ hpb hbyte hM2' (ha.grow hB2)).mono ?_; rintro e w3 ⟨rfl, hb3⟩; rw [heq'.out]; obtain ⟨xz, x0, x1, x2, x3, x4⟩ := hX2.grow hb3; have hS3 := hS2.kept (Kept.of_below hb3 (fun _ => False)) (fun e => e); obtain ⟨sz, s0, s1, s2, s3, s4, s5, sf⟩ := id hS3))
      have hC : Kept (fun k => k = w.heap.size) w3 ((((((w3.setCell ⟨w.heap.size, 0, none⟩ (.bool false)).setCell ⟨w.heap.size, 1, none⟩ (.int .i64 0)).setCell ⟨w.heap.size, 2, none⟩ (.int .i64 0)).setCell ⟨w.heap.size, 3, none⟩ (.string ⟨#[]⟩)).setCell ⟨w.heap.size, 4, none⟩ (.int .i64 0)).setCell ⟨w.heap.size, 5, none⟩ (.slice none 0 0)) := ((((((Kept.refl (fun k => k = w.heap.size) w3).set (fun _ => rfl) _).set (fun _ => rfl) _).set (fun _ => rfl) _).set (fun _ => rfl) _).set (fun _ => rfl) _).set (fun _ => rfl) _
      have hB3 := gca hB2 hb3
      refine leaves_cons (f := 86) (args := #[]) (by simp) (by simp [go_sem]) ?_
      refine (unCatch_idle _).mono ?_
      rintro e u' w'' ⟨rfl, rfl, rfl⟩
      refine ⟨unVal false zeroG none 0, by simp [results, Try.results26, go_sem, s0, s1, s2, s3, s4, s5, zeroG], ?_⟩
      exact ⟨none, 0, [], by rw [hun], by rw [hun]; rfl, own_nil _ _, hB3.trans (hC.below hB3.size (fun k hk e => by omega))⟩

end Go.Proofs.Ythjddpkegooobab

/-
  SUNPA: where the specification's Unpack stands. Own work.
-/
namespace Go.Proofs.Ythjddpkegooobab
open Go.RowKit

/-- what stands at the head of the round -/
structure SGS (w : World) (R b : Nat) (sa : Option Addr) (cap : Nat) (bs : List Nat) (rv : GV) (G : Nat) (ws : World) (at_ : Nat) (bad : Bool) (na : Option Addr) (nc : Nat) (nl : List NL) : Prop where
  kept : Kept (fun k => k = b) w ws
  blk : R < b ∧ b < w.heap.size ∧ w.heap.size ≤ G ∧ G < ws.heap.size
  res : Six ws R false ⟨0, 0, ⟨#[]⟩, 0⟩ (.slice none 0 0)
  out : Five ws G rv (.slice na nl.length nc)
  rd : SR ws b sa cap bs at_ bad
  own : OwnG ws (G + 1) na nc nl

theorem SGS.step {w : World} {R b : Nat} {sa : Option Addr} {cap : Nat} {bs : List Nat} {rv : GV} {G : Nat} {ws : World} {at_ : Nat} {bad : Bool} {na : Option Addr} {nc : Nat} {nl : List NL} (h : SGS w R b sa cap bs rv G ws at_ bad na nc nl) {n : GN} {w1 w3 : World} {at1 : Nat} {bad1 : Bool} {va : Option Addr} {vc : Nat} {gg cc : Nat} {o : Obj}
    (hR1 : SR w1 b sa cap bs at1 bad1) (hK1 : Kept (fun k => k = b) ws w1) (hv1 : w1.ownsRow ws.heap.size 30 4 (.slice va n.vals.length vc) n.vals.length (valCells n.vals))
    (hown : w3.ownsRow (G + 1) 116 2 (.slice (some ⟨gg, 0, none⟩) (nl.length + 1) cc) (nl.length + 1) (nodeCells nl ++ [.int .i64 n.tag, .slice va n.vals.length vc]))
    (hgrow : (w1.alloc o).grownBy w3 (Value.slice na nl.length nc).ownBlock) (hat : (Value.slice na nl.length nc).ownBlock = some gg ∨ gg = w1.heap.size + 1) :
    SGS w R b sa cap bs rv G (w3.setCell ⟨G, 4, none⟩ (.slice (some ⟨gg, 0, none⟩) (nl.length + 1) cc)) at1 bad1 (some ⟨gg, 0, none⟩) cc (nl ++ [⟨n, va, vc⟩]) := by
  obtain ⟨b0, b1, b2, b3⟩ := h.blk
  have hs1 := hK1.size
  have hA : Kept (fun _ => False) w1 (w1.alloc o) := (Kept.refl _ w1).alloc _
  have hG := Kept.of_grown hgrow
  have hs3 : w1.heap.size + 1 ≤ w3.heap.size := by have := hgrow.size; simpa using this
  have hC := (Kept.refl (fun k => k = G) w3).set (a := ⟨G, 4, none⟩) (fun _ => rfl) (.slice (some ⟨gg, 0, none⟩) (nl.length + 1) cc)
  have hnb : ∀ k, (Value.slice na nl.length nc).ownBlock = some k → G + 1 ≤ k ∧ k < ws.heap.size ∧ na = some ⟨k, 0, none⟩ := fun k hk => ⟨(h.own.nodes.lt k hk).1, (h.own.nodes.lt k hk).2, owns_addr h.own.nodes hk⟩
  have hvab : ∀ k, va = some ⟨k, 0, none⟩ → ws.heap.size ≤ k ∧ k < w1.heap.size := fun k hk => hv1.lt k (by rw [hk]; rfl)
  have hxb : ∀ x, x ∈ nl → ∀ k, x.a = some ⟨k, 0, none⟩ → G + 1 ≤ k ∧ k < ws.heap.size := fun x hx k hk => (h.own.vals x hx).lt k (by rw [hk]; rfl)
  have hggb : G + 1 ≤ gg ∧ (na = some ⟨gg, 0, none⟩ ∨ w1.heap.size < gg) := ⟨(hown.lt gg rfl).1, hat.imp (fun e => (hnb gg e).2.2) (fun e => by omega)⟩
  have hsz := h.kept.size
  exact {
    kept := (((h.kept.trans hK1 (fun _ _ e => e)).trans hA (fun _ _ e => e.elim)).trans hG (fun k hk hp => by have := hnb k hp; omega)).trans hC (fun k hk hp => by omega)
    blk := ⟨b0, b1, b2, by have := hC.size; omega⟩
    res := (((h.res.kept hK1 (by omega)).kept hA (fun e => e)).kept hG (fun hp => by have := hnb _ hp; omega)).kept hC (by omega)
    out := by
      have h1 := ((h.out.kept hK1 (by omega)).kept hA (fun e => e)).kept hG (fun hp => by have := hnb _ hp; omega)
      simpa using h1.set (s' := .slice (some ⟨gg, 0, none⟩) (nl.length + 1) cc)
    rd := ((hR1.kept hA (fun _ _ e => e)).kept hG (fun k hk hp => by have := hnb k hp; omega)).kept hC (fun k hk hp => by omega)
    own := by
      refine ⟨?_, fun x hx => ?_, fun x hx => ?_, fun i j hij hj => ?_⟩
      · have h1 := hC.owns hown (fun k hk hp => by have := (hown.lt k hk).1; omega)
        simpa [nodeCells_snoc] using h1
      · rcases List.mem_append.1 hx with hx | hx
        · have h1 := h.own.vals x hx
          refine hC.owns (hG.owns (hA.owns (hK1.owns h1 (fun k hk hp => ?_)) (fun _ _ e => e)) (fun k hk hp => h.own.apn x hx k (owns_addr h1 hk) (hnb k hp).2.2)) (fun k hk hp => ?_)
          · have := (h1.lt k hk).1; omega
          · have := (h1.lt k hk).1; omega
        · simp at hx
          subst hx
          refine hC.owns (hG.owns (hA.owns (owns_le hv1 (by omega)) (fun _ _ e => e)) (fun k hk hp => ?_)) (fun k hk hp => ?_)
          · have h2 := hvab k (owns_addr hv1 hk); have h3 := hnb k hp; omega
          · have h2 := hvab k (owns_addr hv1 hk); omega
      · intro k hk hx2
        have e := some_addr hx2
        subst e
        rcases List.mem_append.1 hx with hx | hx
        · rcases hggb.2 with e3 | e3
          · exact h.own.apn x hx gg hk e3
          · have := hxb x hx gg hk; omega
        · simp at hx
          subst hx
          have h2 := hvab gg hk
          rcases hggb.2 with e3 | e3
          · have h4 := h.own.nodes.lt gg (by rw [e3]; rfl); omega
          · omega
      · have hj' : j < nl.length + 1 := by simpa using hj
        have hi' : i < nl.length := by omega
        have ei : (nl ++ [(⟨n, va, vc⟩ : NL)])[i]! = nl[i]! := by rw [getElem!_pos _ i (by simp; omega), getElem!_pos nl i hi', List.getElem_append_left hi']
        rw [ei]
        by_cases ej : j < nl.length
        · have ej2 : (nl ++ [(⟨n, va, vc⟩ : NL)])[j]! = nl[j]! := by rw [getElem!_pos _ j hj, getElem!_pos nl j ej, List.getElem_append_left ej]
          rw [ej2]
          exact h.own.apv i j hij ej
        · have ej2 : (nl ++ [(⟨n, va, vc⟩ : NL)])[j]! = ⟨n, va, vc⟩ := by
            have e : j = nl.length := by omega
            subst e
            rw [getElem!_pos (nl ++ [(⟨n, va, vc⟩ : NL)]) nl.length hj]; simp
          rw [ej2]
          intro k hk hx2
          have h2 := hvab k hx2
          have h3 := hxb _ (mem_at hi') k hk
          omega }

/-- what stands at the head of the round -/
structure SVS (w : World) (b : Nat) (sa : Option Addr) (cap : Nat) (bs : List Nat) (tag : Int) (X : Nat) (ws : World) (at_ : Nat) (bad : Bool) (va : Option Addr) (vc : Nat) (vs : List GV) : Prop where
  kept : Kept (fun k => k = b) w ws
  blk : b < w.heap.size ∧ w.heap.size ≤ X ∧ X < ws.heap.size
  x : Two ws X tag (.slice va vs.length vc)
  rd : SR ws b sa cap bs at_ bad
  vals : ws.ownsRow (X + 1) 30 4 (.slice va vs.length vc) vs.length (valCells vs)

theorem SVS.step {w : World} {b : Nat} {sa : Option Addr} {cap : Nat} {bs : List Nat} {tag : Int} {X : Nat} {ws : World} {at_ : Nat} {bad : Bool} {va : Option Addr} {vc : Nat} {vs : List GV} (h : SVS w b sa cap bs tag X ws at_ bad va vc vs) {v : GV} {w1 w3 : World} {at1 : Nat} {bad1 : Bool} {gg cc : Nat} {o : Obj}
    (hR1 : SR w1 b sa cap bs at1 bad1) (hK1 : Kept (fun k => k = b) ws w1)
    (hown : w3.ownsRow (X + 1) 30 4 (.slice (some ⟨gg, 0, none⟩) (vs.length + 1) cc) (vs.length + 1) (valCells vs ++ v.four))
    (hgrow : (w1.alloc o).grownBy w3 (Value.slice va vs.length vc).ownBlock) :
    SVS w b sa cap bs tag X (w3.setCell ⟨X, 1, none⟩ (.slice (some ⟨gg, 0, none⟩) (vs.length + 1) cc)) at1 bad1 (some ⟨gg, 0, none⟩) cc (vs ++ [v]) := by
  obtain ⟨b1, b2, b3⟩ := h.blk
  have hs1 := hK1.size
  have hA : Kept (fun _ => False) w1 (w1.alloc o) := (Kept.refl _ w1).alloc _
  have hG := Kept.of_grown hgrow
  have hs3 : w1.heap.size + 1 ≤ w3.heap.size := by have := hgrow.size; simpa using this
  have hC := (Kept.refl (fun k => k = X) w3).set (a := ⟨X, 1, none⟩) (fun _ => rfl) (.slice (some ⟨gg, 0, none⟩) (vs.length + 1) cc)
  have hvb : ∀ k, (Value.slice va vs.length vc).ownBlock = some k → X + 1 ≤ k ∧ k < ws.heap.size := fun k hk => h.vals.lt k hk
  have hsz := h.kept.size
  exact {
    kept := (((h.kept.trans hK1 (fun _ _ e => e)).trans hA (fun _ _ e => e.elim)).trans hG (fun k hk hp => by have := hvb k hp; omega)).trans hC (fun k hk hp => by omega)
    blk := ⟨b1, b2, by have := hC.size; omega⟩
    x := by
      have h1 := ((h.x.kept hK1 (by omega)).kept hA (fun e => e)).kept hG (fun hp => by have := hvb _ hp; omega)
      simpa using h1.set (s' := .slice (some ⟨gg, 0, none⟩) (vs.length + 1) cc)
    rd := ((hR1.kept hA (fun _ _ e => e)).kept hG (fun k hk hp => by have := hvb k hp; omega)).kept hC (fun k hk hp => by omega)
    vals := by
      have h1 := hC.owns hown (fun k hk hp => by have := (hown.lt k hk).1; omega)
      simpa [valCells_snoc, GV.four] using h1 }


/-- so many values of m have been read -/
def SvInv (m : Nat) (r : List Nat) (j : Nat) (vs : List GV) (q : List Nat) : Prop := sVals m r = (sVals (m - j) q).map fun y => (vs ++ y.1, y.2)
theorem SvInv.start (m : Nat) (r : List Nat) : SvInv m r 0 [] r := by
  unfold SvInv
  rw [Nat.sub_zero]
  cases sVals m r <;> simp
theorem sVals_next {m j : Nat} {q q1 : List Nat} {vs : List GV} {v : GV} (hj : j < m) (hv : sVal q = some (v, q1)) : ((sVals (m - j) q).map fun y => (vs ++ y.1, y.2)) = ((sVals (m - (j + 1)) q1).map fun y => ((vs ++ [v]) ++ y.1, y.2)) := by
  rw [show m - j = (m - (j + 1)) + 1 by omega, sVals, hv]
  simp only [Option.bind_some, Option.map_map]
  congr 1
  funext y
  simp
theorem sVals_none {m j : Nat} {q : List Nat} {vs : List GV} (hj : j < m) (hv : sVal q = none) : ((sVals (m - j) q).map fun y => (vs ++ y.1, y.2)) = none := by
  rw [show m - j = (m - (j + 1)) + 1 by omega, sVals, hv]
  rfl
theorem sNodes_next {m j : Nat} {q q1 : List Nat} {ns : List GN} {n : GN} (hj : j < m) (hv : sNode q = some (n, q1)) : ((sNodes (m - j) q).map fun y => (ns ++ y.1, y.2)) = ((sNodes (m - (j + 1)) q1).map fun y => ((ns ++ [n]) ++ y.1, y.2)) := by
  rw [show m - j = (m - (j + 1)) + 1 by omega, sNodes, hv]
  simp only [Option.bind_some, Option.map_map]
  congr 1
  funext y
  simp
theorem sNodes_none {m j : Nat} {q : List Nat} {ns : List GN} (hj : j < m) (hv : sNode q = none) : ((sNodes (m - j) q).map fun y => (ns ++ y.1, y.2)) = none := by
  rw [show m - j = (m - (j + 1)) + 1 by omega, sNodes, hv]
  rfl

end Go.Proofs.Ythjddpkegooobab
