/-
  OB4: the specification's image, walked. Own work.
-/
import Derived.Test.YtnbikemmnpldcabOb3
import Derived.Test.YtnbikemmnpldcabWr4
namespace Go.Proofs.Ytnbikemmnpldcab
open Go.RowKit

set_option maxRecDepth 100000 in
theorem owns_bytes {w : World} {base : Nat} {oa : Option Addr} {len cap n : Nat} {zs : List Nat} (h : w.ownsRow base 5 1 (.slice oa len cap) n (bcells zs)) : BytesAt w oa zs := fun i hi => by
  obtain ⟨g, ha, _, _, hc⟩ := owns_cell h (bcells_get hi)
  exact ⟨g, 0, ha, by rw [Nat.zero_add]; exact hc⟩
set_option maxRecDepth 100000 in
theorem numB_bytes (n : Nat) : ∀ x, x ∈ numB n → x < 256 := fun x hx => numB_byte n x hx
theorem valB_bytes {n : Nat} {v : GV} (h : okV n v = true) : ∀ x, x ∈ valB v → x < 256 := by
  intro x hx
  rcases okV_cases h with rfl | ⟨m, rfl⟩ | ⟨m, rfl⟩ | ⟨t, ht, rfl⟩ | ⟨k, hk, rfl⟩
  · have h1 : x ∈ [0] := hx
    have := List.mem_singleton.1 h1; omega
  · have h1 : x ∈ 1 :: numB (zig m) := hx
    rcases List.mem_cons.1 h1 with h2 | h2
    · omega
    · exact numB_byte _ x h2
  · have h1 : x ∈ 2 :: lowB 8 (u64n m) := hx
    rcases List.mem_cons.1 h1 with h2 | h2
    · omega
    · exact lowB_byte _ _ x h2
  · have h1 : x ∈ 3 :: (numB t.size ++ bsOf t) := hx
    rcases List.mem_cons.1 h1 with h2 | h2
    · omega
    · rcases List.mem_append.1 h2 with h3 | h3
      · exact numB_byte _ x h3
      · exact bsOf_byte h3
  · have h1 : x ∈ 4 :: numB k := hx
    rcases List.mem_cons.1 h1 with h2 | h2
    · omega
    · exact numB_byte _ x h2
set_option maxRecDepth 100000 in
theorem valsB_bytes {n : Nat} {l : List GV} (h : ∀ v, v ∈ l → okV n v = true) : ∀ x, x ∈ valsB l → x < 256 := by
  induction l with
  | nil => intro x hx; cases hx
  | cons v r ih =>
    intro x hx
    rcases List.mem_append.1 hx with h1 | h1
    · exact valB_bytes (h v (List.mem_cons_self ..)) x h1
    · exact ih (fun y hy => h y (List.mem_cons_of_mem _ hy)) x h1
set_option maxRecDepth 100000 in
theorem nodesB_bytes {n : Nat} {l : List GN} (h : ∀ v, v ∈ l → okN n v = true) : ∀ x, x ∈ nodesB l → x < 256 := by
  induction l with
  | nil => intro x hx; cases hx
  | cons v r ih =>
    intro x hx
    rcases List.mem_append.1 hx with h1 | h1
    · rcases List.mem_append.1 h1 with h2 | h2
      · exact numB_byte _ x h2
      · rcases List.mem_append.1 h2 with h3 | h3
        · exact numB_byte _ x h3
        · exact valsB_bytes (okN_parts (h v (List.mem_cons_self ..))).2 x h3
    · exact ih (fun y hy => h y (List.mem_cons_of_mem _ hy)) x h1
set_option maxRecDepth 100000 in
theorem graphB_bytes {g : GG} (hok : okG g = true) : ∀ x, x ∈ graphB g → x < 256 := by
  obtain ⟨_, hroot, hnodes⟩ := okG_parts hok
  intro x hx
  rcases List.mem_append.1 hx with h1 | h1
  · simp at h1; omega
  · rcases List.mem_append.1 h1 with h2 | h2
    · exact numB_byte _ x h2
    · rcases List.mem_append.1 h2 with h3 | h3
      · exact valB_bytes hroot x h3
      · exact nodesB_bytes hnodes x h3
set_option maxRecDepth 100000 in
theorem formB_bytes {g : GG} (hok : okG g = true) : ∀ x, x ∈ formB g → x < 256 := by
  intro x hx
  rcases List.mem_append.1 hx with h1 | h1
  · exact graphB_bytes hok x h1
  · exact lowB_byte _ _ x h1

set_option maxRecDepth 100000 in
theorem Ob.back {w0 w1 w : World} {base b0 : Nat} {oa : Option Addr} {cap : Nat} {zs : List Nat} (h : Ob w0 base (some ⟨b0, 0, none⟩) w oa cap zs) (hb : Below w1.heap.size w1 w0) (h0 : w1.heap.size ≤ b0) : Below w1.heap.size w1 w :=
  hb.trans (h.kept.below hb.size (fun k hk e => by have := some_addr e; omega))

set_option maxRecDepth 100000 in
theorem l2pack_any (a : Option Addr) (cap : Nat) (g : GG) (w : World) (hg : g.Ok) (hok : okG g = true) (ha : NodesAt w.heap.size w a g.nodes) :
    Calls Try.prog 62 #[g.val a cap] w (PackSPost (imageB g) w) := by
  obtain ⟨c, hc⟩ := hid_ex (canon g)
  have hcok : okG c = true := by rw [hc.out]; exact canon_okG hok
  have hcO : c.Ok := by rw [hc.out]; exact canon_ok hg hok
  obtain ⟨hl300, hroot, hnodes⟩ := okG_parts hcok
  have hgl : Hid (graphB c = headB c ++ nodesB c.nodes) := graphB_head c
  have hgl2 : (graphB c).length = (headB c).length + (nodesB c.nodes).length := by rw [hgl.out, List.length_append]
  have hglen := graphB_len hcO hcok
  have hnum := numB_ten (n := c.nodes.length) (by omega)
  have e6 := wrap_nat (n := c.nodes.length) (by omega)
  go_enter Try.func62, Try.ntmps62
  go_wp2_with (first
    | (go_at_call 104; refine (specCanon_any a cap g _ hok (ha.grow (gal (gre _) _))).mono ?_; rintro e w1 ⟨na, nc, rfl, hN, hb1⟩; rw [← hc.out] at hN ⊢; have hF := Five.new_at w1 c.root (.slice na c.nodes.length nc) 33 w1.heap.size rfl; have hO2 := owns_two (w1.alloc (.cells #[.int .i64 c.root.kind, .int .i64 c.root.num, .string c.root.text, .int .i64 c.root.node, .slice na c.nodes.length nc] 33)) (w1.heap.size + 1) (by simp); rw [show (w1.alloc (.cells #[.int .i64 c.root.kind, .int .i64 c.root.num, .string c.root.text, .int .i64 c.root.node, .slice na c.nodes.length nc] 33)).heap.size = w1.heap.size + 1 by simp] at hO2)
    | (go_at_call 105; refine (l2num_any (w1.heap.size + 1) _ _ _ [72, 49] c.nodes.length _ _ rfl ?_ (by omega) (by simp) (by simp) hO2).mono ?_; (first | rfl | exact e6); rintro e w3 ⟨oa3, cap3, rfl, hQ3⟩; obtain ⟨l3, hl3⟩ := hid_ex ([72, 49] ++ numB c.nodes.length).length; rw [← hl3.out]; have hF3 := (hF.kept (Kept.of_below (gal (gre _) _) (fun _ => False)) (fun e => e)).kept hQ3.kept (fun e => by have := some_addr e; omega); obtain ⟨gz, g0, g1, g2, g3, g4, gf⟩ := id hF3; have hs3 := hQ3.kept.size; simp only [World.size_alloc] at hs3)
    | (go_at_call 106; refine (l2val_any (w1.heap.size + 1) c.nodes.length _ _ _ ([72, 49] ++ numB c.nodes.length) c.root _ hl3.out hl300 hcO.root hroot (by omega) (by simp only [List.length_append, List.length_cons, List.length_nil]; omega) hQ3.own).mono ?_; rintro e w4 ⟨oa4, cap4, rfl, hQ4⟩; obtain ⟨l4, hl4⟩ := hid_ex ([72, 49] ++ numB c.nodes.length ++ valB c.root).length; rw [← hl4.out]; have hF4 := hF3.kept hQ4.kept (fun e => by have := (hQ3.lt e).1; omega); obtain ⟨iz, i0, i1, i2, i3, i4, if_⟩ := id hF4))
  have hR4 := hQ3.call hQ4
  obtain ⟨W2, hB12, hW2s, hR⟩ : ∃ W2, Below w1.heap.size w1 W2 ∧ w1.heap.size + 2 ≤ W2.heap.size ∧ Ob W2 (w1.heap.size + 1) (some ⟨w1.heap.size + 1, 0, none⟩) w4 oa4 cap4 (headB c) := ⟨_, gal (gal (gre _) _) _, by simp, by have e : [72, 49] ++ numB c.nodes.length ++ valB c.root = headB c := (by unfold headB; simp only [List.append_assoc]); rw [← e]; exact hR4⟩
  have hl4' : Hid (l4 = (headB c).length) := by show _ = _; rw [hl4.out]; unfold headB; simp only [List.append_assoc]
  have hw01 : Below w.heap.size w w1 := gca (gal (gre _) _) hb1
  clear hR4 hQ3 hQ4 hF hF3 hF4 hO2 gz g0 g1 g2 g3 g4 gf iz i0 i1 i2 i3 i4 if_ hb1 hl4 hl3 hs3
  go_loopw [4, 25] (fun o i ws => ∃ (k : Nat) (zs : List Nat) (oa1 : Option Addr) (cap1 : Nat), o = .slice oa1 zs.length cap1 ∧ i = .int .i64 k ∧ k ≤ c.nodes.length ∧ Hid (zs = headB c ++ nodesB (c.nodes.take k)) ∧ Ob W2 (w1.heap.size + 1) (some ⟨w1.heap.size + 1, 0, none⟩) ws oa1 cap1 zs) (fun _ i _ => c.nodes.length - (intOf i).toNat)
  case atStart => exact ⟨0, headB c, oa4, cap4, by rw [hl4'.out], rfl, Nat.zero_le _, by show _ = _; rw [List.take_zero, nodesB, List.append_nil], hR⟩
  case round =>
    obtain ⟨k, zs, oa1, cap1, rfl, rfl, hk, hzs, hOb⟩ := hrel
    have hBs := hOb.back hB12 (by omega)
    have hsz := hBs.size
    have hsz0 := hOb.kept.size
    by_cases hkl : k < c.nodes.length
    · obtain ⟨n, bn, off, va, vc, hnk, hnm, rfl, hbn, hnat⟩ := hN.get hkl
      have hnat2 := hnat.below hBs hbn
      have c0 := hnat2.tag
      have c1 := hnat2.sl
      have hvals := hnat.vals
      have hnok := hnodes n hnm
      have hnO := hcO.nodes n hnm
      obtain ⟨hvl, hvok⟩ := okN_parts hnok
      obtain ⟨ht0, ht1⟩ := okN_tag hnok
      obtain ⟨tg, htg⟩ : ∃ tg : Nat, n.tag = (tg : Int) := ⟨n.tag.toNat, by omega⟩
      have hnb : Hid (nodesB (c.nodes.take (k + 1)) = nodesB (c.nodes.take k) ++ (numB tg ++ (numB n.vals.length ++ valsB n.vals))) := by
        show _ = _
        rw [nodesB_take_succ _ _ hkl, ← hnk.out, nodeB, htg]; rfl
      have hnle : (nodesB (c.nodes.take (k + 1))).length ≤ (nodesB c.nodes).length := nodesB_take_le _ _
      rw [hnb.out] at hnle
      simp only [List.length_append] at hnle
      have hzl : zs.length ≤ 40000000 - ((numB tg).length + ((numB n.vals.length).length + (valsB n.vals).length)) := by rw [hzs.out, List.length_append]; omega
      have hzl2 : (numB tg).length + ((numB n.vals.length).length + (valsB n.vals).length) ≤ 40000000 := by omega
      rw [htg] at c0
      have hT := Two.new_at wr tg (.slice va n.vals.length vc) 110 wr.heap.size rfl
      have e7 := wrap_nat (n := tg) (by omega)
      have e8 := wrap_nat (n := n.vals.length) (by omega)
      have hnp : ¬ (oa1 = some ⟨wr.heap.size, 0, none⟩) := fun e => by have := (hOb.lt e).2; omega
      go_wp2_with (first
        | (go_at_call 105; refine (l2num_any (w1.heap.size + 1) _ _ _ (zs ++ numB tg) n.vals.length _ _ hl5.out ?_ (by omega) (by omega) (by simp only [List.length_append]; omega) hQ5.own).mono ?_; (first | rfl | exact e8); rintro e w6 ⟨oa6, cap6, rfl, hQ6⟩; obtain ⟨l6, hl6⟩ := hid_ex (zs ++ numB tg ++ numB n.vals.length).length; rw [← hl6.out]; obtain ⟨uz, u0, u1, uf, _⟩ := hT5.kept hQ6.kept (fun e => hnp (hQ5.loc _ (by simp) e)))
        | (go_at_call 105; refine (l2num_any (w1.heap.size + 1) _ _ _ zs tg _ _ rfl ?_ (by omega) (by simp only [World.size_alloc]; omega) (by omega) (hOb.grow (gal (gre _) _)).own).mono ?_; (first | rfl | exact e7); rintro e w5 ⟨oa5, cap5, rfl, hQ5⟩; obtain ⟨l5, hl5⟩ := hid_ex (zs ++ numB tg).length; rw [← hl5.out]; have hT5 := hT.kept hQ5.kept hnp; obtain ⟨tz, t0, t1, tf, _⟩ := id hT5; have hs5 := hQ5.kept.size; simp only [World.size_alloc] at hs5))
      have hR6 := ((hOb.grow (gal (gre _) _)).call hQ5).call hQ6
      clear hT hT5 tz t0 t1 tf uz u0 u1 uf hQ5 hQ6 hl5
      go_loopw [4, 43] (fun o i ws => ∃ (m : Nat) (ys : List Nat) (oa2 : Option Addr) (cap2 : Nat), o = .slice oa2 ys.length cap2 ∧ i = .int .i64 m ∧ m ≤ n.vals.length ∧ Hid (ys = zs ++ numB tg ++ numB n.vals.length ++ valsB (n.vals.take m)) ∧ Ob W2 (w1.heap.size + 1) (some ⟨w1.heap.size + 1, 0, none⟩) ws oa2 cap2 ys) (fun _ i _ => n.vals.length - (intOf i).toNat)
      case atStart => exact ⟨0, _, oa6, cap6, by rw [hl6.out], rfl, Nat.zero_le _, by show _ = _; rw [List.take_zero, valsB, List.append_nil], hR6⟩
      case round =>
        obtain ⟨m, ys, oa2, cap2, rfl, rfl, hm, hys, hOb2⟩ := hrel
        have hBs2 := hOb2.back hB12 (by omega)
        have hsz2 := hBs2.size
        by_cases hml : m < n.vals.length
        · obtain ⟨v, bv, ov, hvk, hvm, rfl, hbv, hvc⟩ := hvals.get hml
          obtain ⟨d0, d1, d2, d3⟩ := hvc.below hBs2 hbv
          have hvb : Hid (valsB (n.vals.take (m + 1)) = valsB (n.vals.take m) ++ valB v) := by show _ = _; rw [valsB_take_succ _ _ hml, ← hvk.out]
          have hvle : (valsB (n.vals.take (m + 1))).length ≤ (valsB n.vals).length := valsB_take_le _ _
          rw [hvb.out, List.length_append] at hvle
          have hyl : ys.length ≤ 40000000 := by rw [hys.out]; simp only [List.length_append]; omega
          go_wp2_with (go_at_call 106; refine (l2val_any (w1.heap.size + 1) c.nodes.length _ _ _ ys v _ rfl hl300 (hnO.vals v hvm) (hvok v hvm) (by simp only [World.size_alloc]; omega) (by omega) (hOb2.grow (gal (gre _) _)).own).mono ?_; rintro e w7 ⟨oa7, cap7, rfl, hQ7⟩; obtain ⟨l7, hl7⟩ := hid_ex (ys ++ valB v).length; rw [← hl7.out])
          go_roundw
          case rel => exact ⟨m + 1, ys ++ valB v, oa7, cap7, by rw [hl7.out], by go_num, by omega, by show _ = _; rw [hvb.out, ← List.append_assoc, ← hys.out], (hOb2.grow (gal (gre _) _)).call hQ7⟩
          case measure => simp [intOf]; omega
        · obtain rfl : m = n.vals.length := by omega
          have hfin : Hid (ys = headB c ++ nodesB (c.nodes.take (k + 1))) := by
            show _ = _
            rw [hnb.out, hys.out, List.take_length, hzs.out]
            simp only [List.append_assoc]
          go_wp2
          go_roundw
          case rel =>
            exact ⟨k + 1, ys, oa2, cap2, rfl, by go_num, by omega, hfin, hOb2⟩
          case measure => simp [intOf]; omega
    · obtain rfl : k = c.nodes.length := by omega
      have e9 : Hid (zs = graphB c) := by show _ = _; rw [hzs.out, List.take_length, hgl.out]
      have hzl : zs.length ≤ 40000000 := by rw [e9.out]; exact hglen
      go_wp2_with (first
        | (go_at_call 108; refine (l2sum_any oa1 zs cap1 _ (owns_bytes hOb.own) (by unfold maxLen; omega) (by rw [e9.out]; exact graphB_bytes hcok)).mono ?_; rintro e w8 ⟨rfl, hb8⟩; have hOb8 := hOb.grow hb8; have hs8 := hb8.size)
        | (go_at_call 107; refine (l2eight_any (w1.heap.size + 1) _ _ _ zs (sumN zs) _ _ rfl rfl (sumN_lt _) (by omega) (by omega) hOb8.own).mono ?_; rintro e w9 ⟨oa9, cap9, rfl, hQ9⟩; obtain ⟨l9, hl9⟩ := hid_ex (zs ++ lowB 8 (sumN zs)).length; rw [← hl9.out]))
      go_ret
      have hR9 := hOb8.call hQ9
      have e10 : zs ++ lowB 8 (sumN zs) = imageB g := by unfold imageB formB; rw [← hc.out, e9.out]
      have hB9 := hR9.back hB12 (by omega)
      rw [e10] at hR9 hl9
      exact ⟨oa9, cap9, by rw [← hl9.out]; rfl, owns_le hR9.own (by have := hw01.size; omega), hw01.trans (hB9.mono hw01.size)⟩


set_option maxRecDepth 100000 in
theorem specPack_any (a : Option Addr) (cap : Nat) (g : GG) (w : World) (hg : g.Ok) (ha : NodesAt w.heap.size w a g.nodes) :
    Calls Try.prog 14 #[g.val a cap] w (PackSPost (packB g) w) := by
  have hX0 := GBox.new w g a cap 33
  cases hok : okG g with
  | false =>
    have hz : Hid (packB g = []) := if_neg (by rw [hok]; simp)
    have hok' : Hid _ := hok
    go_enter Try.func14, Try.ntmps14
    go_wp2_with (go_at_call 61; refine (specGraphOk_any a cap g _ hg (ha.grow (gal (gre _) _))).mono ?_; rintro e w1 ⟨rfl, hb1⟩; rw [hok'.out])
    go_ret
    exact ⟨none, 0, by rw [hz.out]; rfl, by rw [hz.out]; exact World.ownsRow_nil _ _ _ _, gca (gal (gre _) _) hb1⟩
  | true =>
    have hok' : Hid _ := hok
    by_cases hl : (imageB g).length ≤ 4096
    · have hz : Hid (packB g = imageB g) := if_pos ⟨hok, hl⟩
      have hd : ¬ ((4096 : Int) < ((imageB g).length : Int)) := by omega
      go_enter Try.func14, Try.ntmps14
      go_wp2_with (first
        | (go_at_call 61; refine (specGraphOk_any a cap g _ hg (ha.grow (gal (gre _) _))).mono ?_; rintro e w1 ⟨rfl, hb1⟩; obtain ⟨xz, x0, x1, x2, x3, x4⟩ := hX0.grow hb1; rw [hok'.out])
        | (go_at_call 62; refine (l2pack_any a cap g _ hg hok'.out (ha.grow (gca (gal (gre _) _) hb1))).mono ?_; rintro e w2 ⟨oa, cap2, rfl, hown, hb2⟩))
      go_ret
      exact ⟨oa, cap2, by rw [hz.out]; rfl, by rw [hz.out]; exact owns_le hown (by have := hb1.size; simp at this; omega), gca (gca (gal (gre _) _) hb1) hb2⟩
    · have hz : Hid (packB g = []) := if_neg (fun h => hl h.2)
      have hd : ((4096 : Int) < ((imageB g).length : Int)) := by omega
      go_enter Try.func14, Try.ntmps14
      go_wp2_with (first
        | (go_at_call 61; refine (specGraphOk_any a cap g _ hg (ha.grow (gal (gre _) _))).mono ?_; rintro e w1 ⟨rfl, hb1⟩; obtain ⟨xz, x0, x1, x2, x3, x4⟩ := hX0.grow hb1; rw [hok'.out])
        | (go_at_call 62; refine (l2pack_any a cap g _ hg hok'.out (ha.grow (gca (gal (gre _) _) hb1))).mono ?_; rintro e w2 ⟨oa, cap2, rfl, hown, hb2⟩))
      go_ret
      exact ⟨none, 0, by rw [hz.out]; rfl, by rw [hz.out]; exact World.ownsRow_nil _ _ _ _, gca (gca (gal (gre _) _) hb1) hb2⟩

end Go.Proofs.Ytnbikemmnpldcab
