import Derived.Laws.OwnMore
import Derived.Test.YthjddpkegooobaaPartRoH

/-
  OB4: the specification's image, walked. Own work.
-/
namespace Go.Proofs.Ythjddpkegooobaa
open Go.RowKit

set_option maxRecDepth 100000 in
theorem owns_bytesO {w : World} {base : Nat} {oa : Option Addr} {len cap n : Nat} {zs : List Nat} (h : w.ownsRow base 5 1 (.slice oa len cap) n (bcells zs)) : BytesAt w oa zs := fun i hi => by
  obtain ⟨g, ha, _, _, hc⟩ := owns_cell h (bcells_get hi)
  exact ⟨g, 0, ha, by rw [Nat.zero_add]; exact hc⟩
set_option maxRecDepth 100000 in
theorem numB_bytes (n : Nat) : ∀ x, x ∈ numB n → x < 256 := fun x hx => numB_byte n x hx
theorem valB_bytes {n : Nat} {v : GV} (h : okV n v = true) : ∀ x, x ∈ valB v → x < 256 := by
  intro x hx
  rcases okV_cases h with rfl | ⟨m, rfl⟩ | ⟨m, rfl⟩ | ⟨t, ht, rfl⟩ | ⟨k, hk, rfl⟩
  · have h1 : x ∈ [0] := hx
    have := List.mem_singleton.1 h1; omega
  · have h1 : x ∈ 1 :: numB (zig m) := hx
    rcases List.mem_cons.1 h1 with h2 | h2
    · omega
    · exact numB_byte _ x h2
  · have h1 : x ∈ 2 :: lowB 8 (u64n m) := hx
    rcases List.mem_cons.1 h1 with h2 | h2
    · omega
    · exact lowB_byte _ _ x h2
  · have h1 : x ∈ 3 :: (numB t.size ++ bsOf t) := hx
    rcases List.mem_cons.1 h1 with h2 | h2
    · omega
    · rcases List.mem_append.1 h2 with h3 | h3
      · exact numB_byte _ x h3
      · exact bsOf_byte h3
  · have h1 : x ∈ 4 :: numB k := hx
    rcases List.mem_cons.1 h1 with h2 | h2
    · omega
    · exact numB_byte _ x h2
set_option maxRecDepth 100000 in
theorem valsB_bytes {n : Nat} {l : List GV} (h : ∀ v, v ∈ l → okV n v = true) : ∀ x, x ∈ valsB l → x < 256 := by
  induction l with
  | nil => intro x hx; cases hx
  | cons v r ih =>
    intro x hx
    rcases List.mem_append.1 hx with h1 | h1
    · exact valB_bytes (h v (List.mem_cons_self ..)) x h1
    · exact ih (fun y hy => h y (List.mem_cons_of_mem _ hy)) x h1
set_option maxRecDepth 100000 in
theorem nodesB_bytes {n : Nat} {l : List GN} (h : ∀ v, v ∈ l → okN n v = true) : ∀ x, x ∈ nodesB l → x < 256 := by
  induction l with
  | nil => intro x hx; cases hx
  | cons v r ih =>
    intro x hx
    rcases List.mem_append.1 hx with h1 | h1
    · rcases List.mem_append.1 h1 with h2 | h2
      · exact numB_byte _ x h2
      · rcases List.mem_append.1 h2 with h3 | h3
        · exact numB_byte _ x h3
        · exact valsB_bytes (okN_parts (h v (List.mem_cons_self ..))).2 x h3
    · exact ih (fun y hy => h y (List.mem_cons_of_mem _ hy)) x h1
set_option maxRecDepth 100000 in
theorem graphB_bytes {g : GG} (hok : okG g = true) : ∀ x, x ∈ graphB g → x < 256 := by
  obtain ⟨_, hroot, hnodes⟩ := okG_parts hok
  intro x hx
  rcases List.mem_append.1 hx with h1 | h1
  · simp at h1; omega
  · rcases List.mem_append.1 h1 with h2 | h2
    · exact numB_byte _ x h2
    · rcases List.mem_append.1 h2 with h3 | h3
      · exact valB_bytes hroot x h3
      · exact nodesB_bytes hnodes x h3
set_option maxRecDepth 100000 in
theorem formB_bytes {g : GG} (hok : okG g = true) : ∀ x, x ∈ formB g → x < 256 := by
  intro x hx
  rcases List.mem_append.1 hx with h1 | h1
  · exact graphB_bytes hok x h1
  · exact lowB_byte _ _ x h1

set_option maxRecDepth 100000 in
theorem Ob.back {w0 w1 w : World} {base b0 : Nat} {oa : Option Addr} {cap : Nat} {zs : List Nat} (h : Ob w0 base (some ⟨b0, 0, none⟩) w oa cap zs) (hb : Below w1.heap.size w1 w0) (h0 : w1.heap.size ≤ b0) : Below w1.heap.size w1 w :=
  hb.trans (h.kept.below hb.size (fun k hk e => by have := some_addr e; omega))

set_option maxRecDepth 100000 in
theorem l2pack_any (a : Option Addr) (cap : Nat) (g : GG) (w : World) (hg : g.Ok) (hok : okG g = true) (ha : NodesAt w.heap.size w a g.nodes) :
    Calls Try.prog 72 #[g.val a cap] w (PackSPost (imageB g) w) := by
  obtain ⟨c, hc⟩ := hid_ex (canon g)
  have hcok : okG c = true := by rw [hc.out]; exact canon_okG hok
  have hcO : c.Ok := by rw [hc.out]; exact canon_ok hg hok
  obtain ⟨hl300, hroot, hnodes⟩ := okG_parts hcok
  have hgl : Hid (graphB c = gheadB c ++ nodesB c.nodes) := graphB_head c
  have hgl2 : (graphB c).length = (gheadB c).length + (nodesB c.nodes).length := by rw [hgl.out, List.length_append]
  have hglen := graphB_len hcO hcok
  have hnum := numB_ten (n := c.nodes.length) (by omega)
  have e6 := wrap_nat (n := c.nodes.length) (by omega)
  go_enter Try.func72, Try.ntmps72
  go_wp2_with (first
    | (go_at_call 57; refine (specCanon_any a cap g _ hok (ha.grow (gal (gre _) _))).mono ?_; rintro e w1 ⟨na, nc, rfl, hN, hb1⟩; rw [← hc.out] at hN ⊢; have hF := Five.new_at w1 c.root (.slice na c.nodes.length nc) 27 w1.heap.size rfl; have hO2 := owns_two (w1.alloc (.cells #[.int .i64 c.root.kind, .int .i64 c.root.num, .string c.root.text, .int .i64 c.root.node, .slice na c.nodes.length nc] 27)) (w1.heap.size + 1) (by simp); rw [show (w1.alloc (.cells #[.int .i64 c.root.kind, .int .i64 c.root.num, .string c.root.text, .int .i64 c.root.node, .slice na c.nodes.length nc] 27)).heap.size = w1.heap.size + 1 by simp] at hO2)
    | (go_at_call 127; refine (l2num_any (w1.heap.size + 1) _ _ _ [72, 49] c.nodes.length _ _ rfl ?_ (by omega) (by simp) (by simp) hO2).mono ?_; (first | rfl | exact e6); rintro e w3 ⟨oa3, cap3, rfl, hQ3⟩; obtain ⟨l3, hl3⟩ := hid_ex ([72, 49] ++ numB c.nodes.length).length; rw [← hl3.out]; have hF3 := (hF.kept (Kept.of_below (gal (gre _) _) (fun _ => False)) (fun e => e)).kept hQ3.kept (fun e => by have := some_addr e; omega); obtain ⟨gz, g0, g1, g2, g3, g4, gf⟩ := id hF3; have hs3 := hQ3.kept.size; simp only [World.size_alloc] at hs3)
    | (go_at_call 128; refine (l2val_any (w1.heap.size + 1) c.nodes.length _ _ _ ([72, 49] ++ numB c.nodes.length) c.root _ hl3.out hl300 hcO.root hroot (by omega) (by simp only [List.length_append, List.length_cons, List.length_nil]; omega) hQ3.own).mono ?_; rintro e w4 ⟨oa4, cap4, rfl, hQ4⟩; obtain ⟨l4, hl4⟩ := hid_ex ([72, 49] ++ numB c.nodes.length ++ valB c.root).length; rw [← hl4.out]; have hF4 := hF3.kept hQ4.kept (fun e => by have := (hQ3.lt e).1; omega); obtain ⟨iz, i0, i1, i2, i3, i4, if_⟩ := id hF4))
  have hR4 := hQ3.call hQ4
  obtain ⟨W2, hB12, hW2s, hR⟩ : ∃ W2, Below w1.heap.size w1 W2 ∧ w1.heap.size + 2 ≤ W2.heap.size ∧ Ob W2 (w1.heap.size + 1) (some ⟨w1.heap.size + 1, 0, none⟩) w4 oa4 cap4 (gheadB c) := ⟨_, gal (gal (gre _) _) _, by simp, by have e : [72, 49] ++ numB c.nodes.length ++ valB c.root = gheadB c := (by unfold gheadB; simp only [List.append_assoc]); rw [← e]; exact hR4⟩
  have hl4' : Hid (l4 = (gheadB c).length) := by show _ = _; rw [hl4.out]; unfold gheadB; simp only [List.append_assoc]
  have hw01 : Below w.heap.size w w1 := gca (gal (gre _) _) hb1
  clear hR4 hQ3 hQ4 hF hF3 hF4 hO2 gz g0 g1 g2 g3 g4 gf iz i0 i1 i2 i3 i4 if_ hb1 hl4 hl3 hs3
  go_loopw [4, 25] (fun o i ws => ∃ (k : Nat) (zs : List Nat) (oa1 : Option Addr) (cap1 : Nat), o = .slice oa1 zs.length cap1 ∧ i = .int .i64 k ∧ k ≤ c.nodes.length ∧ Hid (zs = gheadB c ++ nodesB (c.nodes.take k)) ∧ Ob W2 (w1.heap.size + 1) (some ⟨w1.heap.size + 1, 0, none⟩) ws oa1 cap1 zs) (fun _ i _ => c.nodes.length - (intOf i).toNat)
  case atStart => exact ⟨0, gheadB c, oa4, cap4, by rw [hl4'.out], rfl, Nat.zero_le _, by show _ = _; rw [List.take_zero, nodesB, List.append_nil], hR⟩
  case round =>
    obtain ⟨k, zs, oa1, cap1, rfl, rfl, hk, hzs, hOb⟩ := hrel
    have hBs := hOb.back hB12 (by omega)
    have hsz := hBs.size
    have hsz0 := hOb.kept.size
    by_cases hkl : k < c.nodes.length
    · obtain ⟨n, bn, off, va, vc, hnk, hnm, rfl, hbn, hnat⟩ := hN.get hkl
      have hnat2 := hnat.below hBs hbn
      have c0 := hnat2.tag
      have c1 := hnat2.sl
      have hvals := hnat.vals
      have hnok := hnodes n hnm
      have hnO := hcO.nodes n hnm
      obtain ⟨hvl, hvok⟩ := okN_parts hnok
      obtain ⟨ht0, ht1⟩ := okN_tag hnok
      obtain ⟨tg, htg⟩ : ∃ tg : Nat, n.tag = (tg : Int) := ⟨n.tag.toNat, by omega⟩
      have hnb : Hid (nodesB (c.nodes.take (k + 1)) = nodesB (c.nodes.take k) ++ (numB tg ++ (numB n.vals.length ++ valsB n.vals))) := by
        show _ = _
        rw [nodesB_take_succ _ _ hkl, ← hnk.out, nodeB, htg]; rfl
      have hnle : (nodesB (c.nodes.take (k + 1))).length ≤ (nodesB c.nodes).length := nodesB_take_le _ _
      rw [hnb.out] at hnle
      simp only [List.length_append] at hnle
      have hzl : zs.length ≤ 40000000 - ((numB tg).length + ((numB n.vals.length).length + (valsB n.vals).length)) := by rw [hzs.out, List.length_append]; omega
      have hzl2 : (numB tg).length + ((numB n.vals.length).length + (valsB n.vals).length) ≤ 40000000 := by omega
      rw [htg] at c0
      have hT := Two.new_at wr tg (.slice va n.vals.length vc) 84 wr.heap.size rfl
      have e7 := wrap_nat (n := tg) (by omega)
      have e8 := wrap_nat (n := n.vals.length) (by omega)
      have hnp : ¬ (oa1 = some ⟨wr.heap.size, 0, none⟩) := fun e => by have := (hOb.lt e).2; omega
      go_wp2_with (first
        | (go_at_call 127; refine (l2num_any (w1.heap.size + 1) _ _ _ (zs ++ numB tg) n.vals.length _ _ hl5.out ?_ (by omega) (by omega) (by simp only [List.length_append]; omega) hQ5.own).mono ?_; (first | rfl | exact e8); rintro e w6 ⟨oa6, cap6, rfl, hQ6⟩; obtain ⟨l6, hl6⟩ := hid_ex (zs ++ numB tg ++ numB n.vals.length).length; rw [← hl6.out]; obtain ⟨uz, u0, u1, uf, _⟩ := hT5.kept hQ6.kept (fun e => hnp (hQ5.loc _ (by simp) e)))
        | (go_at_call 127; refine (l2num_any (w1.heap.size + 1) _ _ _ zs tg _ _ rfl ?_ (by omega) (by simp only [World.size_alloc]; omega) (by omega) (hOb.grow (gal (gre _) _)).own).mono ?_; (first | rfl | exact e7); rintro e w5 ⟨oa5, cap5, rfl, hQ5⟩; obtain ⟨l5, hl5⟩ := hid_ex (zs ++ numB tg).length; rw [← hl5.out]; have hT5 := hT.kept hQ5.kept hnp; obtain ⟨tz, t0, t1, tf, _⟩ := id hT5; have hs5 := hQ5.kept.size; simp only [World.size_alloc] at hs5))
      have hR6 := ((hOb.grow (gal (gre _) _)).call hQ5).call hQ6
      clear hT hT5 tz t0 t1 tf uz u0 u1 uf hQ5 hQ6 hl5
      go_loopw [4, 43] (fun o i ws => ∃ (m : Nat) (ys : List Nat) (oa2 : Option Addr) (cap2 : Nat), o = .slice oa2 ys.length cap2 ∧ i = .int .i64 m ∧ m ≤ n.vals.length ∧ Hid (ys = zs ++ numB tg ++ numB n.vals.length ++ valsB (n.vals.take m)) ∧ Ob W2 (w1.heap.size + 1) (some ⟨w1.heap.size + 1, 0, none⟩) ws oa2 cap2 ys) (fun _ i _ => n.vals.length - (intOf i).toNat)
      case atStart => exact ⟨0, _, oa6, cap6, by rw [hl6.out], rfl, Nat.zero_le _, by show _ = _; rw [List.take_zero, valsB, List.append_nil], hR6⟩
      case round =>
        obtain ⟨m, ys, oa2, cap2, rfl, rfl, hm, hys, hOb2⟩ := hrel
        have hBs2 := hOb2.back hB12 (by omega)
        have hsz2 := hBs2.size
        by_cases hml : m < n.vals.length
        · obtain ⟨v, bv, ov, hvk, hvm, rfl, hbv, hvc⟩ := hvals.get hml
          obtain ⟨d0, d1, d2, d3⟩ := hvc.below hBs2 hbv
          have hvb : Hid (valsB (n.vals.take (m + 1)) = valsB (n.vals.take m) ++ valB v) := by show _ = _; rw [valsB_take_succ _ _ hml, ← hvk.out]
          have hvle : (valsB (n.vals.take (m + 1))).length ≤ (valsB n.vals).length := valsB_take_le _ _
          rw [hvb.out, List.length_append] at hvle
          have hyl : ys.length ≤ 40000000 := by rw [hys.out]; simp only [List.length_append]; omega
          go_wp2_with (go_at_call 128; refine (l2val_any (w1.heap.size + 1) c.nodes.length _ _ _ ys v _ rfl hl300 (hnO.vals v hvm) (hvok v hvm) (by simp only [World.size_alloc]; omega) (by omega) (hOb2.grow (gal (gre _) _)).own).mono ?_; rintro e w7 ⟨oa7, cap7, rfl, hQ7⟩; obtain ⟨l7, hl7⟩ := hid_ex (ys ++ valB v).length; rw [← hl7.out])
          go_roundw
          case rel => exact ⟨m + 1, ys ++ valB v, oa7, cap7, by rw [hl7.out], by go_num, by omega, by show _ = _; rw [hvb.out, ← List.append_assoc, ← hys.out], (hOb2.grow (gal (gre _) _)).call hQ7⟩
          case measure => simp [intOf]; omega
        · obtain rfl : m = n.vals.length := by omega
          have hfin : Hid (ys = gheadB c ++ nodesB (c.nodes.take (k + 1))) := by
            show _ = _
            rw [hnb.out, hys.out, List.take_length, hzs.out]
            simp only [List.append_assoc]
          go_wp2
          go_roundw
          case rel =>
            exact ⟨k + 1, ys, oa2, cap2, rfl, by go_num, by omega, hfin, hOb2⟩
          case measure => simp [intOf]; omega
    · obtain rfl : k = c.nodes.length := by omega
      have e9 : Hid (zs = graphB c) := by show _ = _; rw [hzs.out, List.take_length, hgl.out]
      have hzl : zs.length ≤ 40000000 := by rw [e9.out]; exact hglen
      go_wp2_with (first
        | (go_at_call 108; refine (l2sum_any oa1 zs cap1 _ (owns_bytesO hOb.own) (by unfold maxLen; omega) (by rw [e9.out]; exact graphB_bytes hcok)).mono ?_; rintro e w8 ⟨rfl, hb8⟩; have hOb8 := hOb.grow hb8; have hs8 := hb8.size)
        | (go_at_call 123; refine (l2eight_any (w1.heap.size + 1) _ _ _ zs (sumN zs) _ _ rfl rfl (sumN_lt _) (by omega) (by omega) hOb8.own).mono ?_; rintro e w9 ⟨oa9, cap9, rfl, hQ9⟩; obtain ⟨l9, hl9⟩ := hid_ex (zs ++ lowB 8 (sumN zs)).length; rw [← hl9.out]))
      go_ret
      have hR9 := hOb8.call hQ9
      have e10 : zs ++ lowB 8 (sumN zs) = imageB g := by unfold imageB formB; rw [← hc.out, e9.out]
      have hB9 := hR9.back hB12 (by omega)
      rw [e10] at hR9 hl9
      exact ⟨oa9, cap9, by rw [← hl9.out]; rfl, owns_le hR9.own (by have := hw01.size; omega), hw01.trans (hB9.mono hw01.size)⟩


set_option maxRecDepth 100000 in
theorem specPack_any (a : Option Addr) (cap : Nat) (g : GG) (w : World) (hg : g.Ok) (ha : NodesAt w.heap.size w a g.nodes) :
    Calls Try.prog 22 #[g.val a cap] w (PackSPost (packB g) w) := by
  have hX0 := GBox.new w g a cap 27
  cases hok : okG g with
  | false =>
    have hz : Hid (packB g = []) := if_neg (by rw [hok]; simp)
    have hok' : Hid _ := hok
    go_enter Try.func22, Try.ntmps22
    go_wp2_with (go_at_call 42; refine (specGraphOk_any a cap g _ hg (ha.grow (gal (gre _) _))).mono ?_; rintro e w1 ⟨rfl, hb1⟩; rw [hok'.out])
    go_ret
    exact ⟨none, 0, by rw [hz.out]; rfl, by rw [hz.out]; exact World.ownsRow_nil _ _ _ _, gca (gal (gre _) _) hb1⟩
  | true =>
    have hok' : Hid _ := hok
    by_cases hl : (imageB g).length ≤ 4096
    · have hz : Hid (packB g = imageB g) := if_pos ⟨hok, hl⟩
      have hd : ¬ ((4096 : Int) < ((imageB g).length : Int)) := by omega
      go_enter Try.func22, Try.ntmps22
      go_wp2_with (first
        | (go_at_call 42; refine (specGraphOk_any a cap g _ hg (ha.grow (gal (gre _) _))).mono ?_; rintro e w1 ⟨rfl, hb1⟩; obtain ⟨xz, x0, x1, x2, x3, x4⟩ := hX0.grow hb1; rw [hok'.out])
        | (go_at_call 72; refine (l2pack_any a cap g _ hg hok'.out (ha.grow (gca (gal (gre _) _) hb1))).mono ?_; rintro e w2 ⟨oa, cap2, rfl, hown, hb2⟩))
      go_ret
      exact ⟨oa, cap2, by rw [hz.out]; rfl, by rw [hz.out]; exact owns_le hown (by have := hb1.size; simp at this; omega), gca (gca (gal (gre _) _) hb1) hb2⟩
    · have hz : Hid (packB g = []) := if_neg (fun h => hl h.2)
      have hd : ((4096 : Int) < ((imageB g).length : Int)) := by omega
      go_enter Try.func22, Try.ntmps22
      go_wp2_with (first
        | (go_at_call 42; refine (specGraphOk_any a cap g _ hg (ha.grow (gal (gre _) _))).mono ?_; rintro e w1 ⟨rfl, hb1⟩; obtain ⟨xz, x0, x1, x2, x3, x4⟩ := hX0.grow hb1; rw [hok'.out])
        | (go_at_call 72; refine (l2pack_any a cap g _ hg hok'.out (ha.grow (gca (gal (gre _) _) hb1))).mono ?_; rintro e w2 ⟨oa, cap2, rfl, hown, hb2⟩))
      go_ret
      exact ⟨none, 0, by rw [hz.out]; rfl, by rw [hz.out]; exact World.ownsRow_nil _ _ _ _, gca (gca (gal (gre _) _) hb1) hb2⟩

end Go.Proofs.Ythjddpkegooobaa

/-
  L6F: the fullest graph. Own work.
-/
namespace Go.Proofs.Ythjddpkegooobaa
open Go.RowKit

def longL : List Nat := (List.range 1000).map fun j => j % 256
theorem longL_length : longL.length = 1000 := by simp [longL]
theorem longL_get {i : Nat} (h : i < 1000) : longL[i]! = i % 256 := by
  rw [getElem!_pos _ i (by rw [longL_length]; exact h)]
  simp [longL]
def tvOf (s : ByteArray) : GV := ⟨3, 0, s, 0⟩
def fullV (s : ByteArray) (k : Nat) : List GV := List.replicate k (tvOf s)
def fullG (vs : List GV) : GG := ⟨⟨4, 0, ⟨#[]⟩, 0⟩, [⟨0, vs⟩]⟩

theorem renVals_text {ord : List Nat} : ∀ {vs : List GV}, (∀ v, v ∈ vs → v.kind = 3) → renVals ord vs = vs
  | [], _ => rfl
  | v :: r, h => by
    have hv := h v (List.mem_cons_self ..)
    have e1 : renVal ord v = v := by unfold renVal; rw [if_neg (by rw [hv]; decide)]
    have e2 : renOrd ord v = ord := by unfold renOrd; rw [if_neg (by rw [hv]; simp)]
    rw [renVals, e1, e2, renVals_text (fun x hx => h x (List.mem_cons_of_mem _ hx))]
theorem canon_full {vs : List GV} (h : ∀ v, v ∈ vs → v.kind = 3) : canon (fullG vs) = fullG vs := by
  have e0 : renOrd [] (⟨4, 0, ⟨#[]⟩, 0⟩ : GV) = [0] := by simp [renOrd]
  have e1 : renVal [] (⟨4, 0, ⟨#[]⟩, 0⟩ : GV) = ⟨4, 0, ⟨#[]⟩, 0⟩ := by simp [renVal, e0]
  show (⟨renVal [] ⟨4, 0, ⟨#[]⟩, 0⟩, canonN [⟨0, vs⟩] (renOrd [] ⟨4, 0, ⟨#[]⟩, 0⟩) 1⟩ : GG) = _
  rw [e0, e1, canonN_succ]
  simp only [canonO, canonN, List.length_cons, List.length_nil]
  simp [fullG, renVals_text h]
theorem valsB_full (s : ByteArray) (hs : s.size = 1000) : ∀ k, (valsB (fullV s k)).length = 1003 * k
  | 0 => rfl
  | k + 1 => by
    have e : numB 1000 = [1000 % 128 + 128, 7] := by rw [numB_great (by decide), numB_small (by decide)]
    have ih := valsB_full s hs k
    show (valB (tvOf s) ++ valsB (fullV s k)).length = _
    rw [List.length_append, ih]
    simp [valB, tvOf, hs, e, bsOf_length]
    omega
theorem full4_length (s : ByteArray) (hs : s.size = 1000) : (imageB (fullG (fullV s 4))).length = 4027 := by
  have hk : ∀ v, v ∈ fullV s 4 → v.kind = 3 := fun v hv => by rw [List.eq_of_mem_replicate hv]; rfl
  have hl := valsB_full s hs 4
  have h1 : (lowB 8 (sumN (graphB (fullG (fullV s 4))))).length = 8 := by simp [lowB]
  unfold imageB formB
  rw [canon_full hk, List.length_append, h1]
  unfold graphB fullG
  simp only [nodesB, nodeB, List.length_append, List.append_nil]
  rw [hl]
  simp [valB, fullV, numB_small]

theorem BRow.at0 {w : World} {a n : Nat} {xs : List Nat} (h : BRow w a n xs) : BytesAt w (some ⟨a, 0, none⟩) xs := fun i hi => ⟨a, 0, rfl, by simpa using h.cell hi⟩

theorem fullV_length (s : ByteArray) (k : Nat) : (fullV s k).length = k := List.length_replicate
theorem fullV_snoc (s : ByteArray) (k : Nat) : fullV s k ++ [tvOf s] = fullV s (k + 1) := List.replicate_succ'.symm
theorem OwnG.one {w : World} {base : Nat} {tag : Int} {va : Option Addr} {vc : Nat} {vs : List GV} (h : w.ownsRow base 24 4 (.slice va vs.length vc) vs.length (valCells vs)) (hb : base ≤ w.heap.size) :
    OwnG (w.alloc (.cells #[.int .i64 tag, .slice va vs.length vc] 84)) base (some ⟨w.heap.size, 0, none⟩) 1 [⟨⟨tag, vs⟩, va, vc⟩] := by
  refine ⟨World.ownsRow_lit w _ 1 hb (by decide) rfl, fun x hx => ?_, fun x hx => ?_, fun i j hij hj => ?_⟩
  · obtain rfl := List.mem_singleton.1 hx
    exact h.alloc _
  · obtain rfl := List.mem_singleton.1 hx
    intro k hk e
    have h1 := h.lt k (by show (Value.slice va vs.length vc).ownBlock = _; rw [show va = some ⟨k, 0, none⟩ from hk]; rfl)
    have h2 := some_addr e
    omega
  · have : j < 1 := hj
    omega

/-- while the values are laid -/
def FInv (w : World) (b : Nat) (sa : Option Addr) (bs : List Nat) (cap at_ LB X k : Nat) (wr : World) : Prop :=
  ∃ (va : Option Addr) (vc : Nat), DVS w b sa bs cap 0 X wr at_ va vc (fullV (strB longL) k) ∧ BRow wr LB 1000 longL ∧ Five wr w.heap.size ⟨0, 0, ⟨#[]⟩, 0⟩ (.slice none 0 0)

set_option maxHeartbeats 8000000 in
set_option maxRecDepth 100000 in
theorem l6full_any (b : Nat) (sa : Option Addr) (bs : List Nat) (cap at_ : Nat) (w : World) (hc : DC w b sa bs cap at_) (hat : at_ + 16000 < 4611686018427387904) :
    Calls Try.prog 53 #[.pointer (some ⟨b, 0, none⟩)] w (GraphD w b sa bs cap at_) := by
  have hs0 := hc.lt
  obtain ⟨j0, hj, hy0, hy1, hy2⟩ := info_parts info_implNode
  obtain ⟨i0, hi, hz0, hz1, hz2⟩ := info_parts info_implVal
  obtain ⟨u0, hu, hu0, hu1, hu2⟩ := info_parts info_u8
  obtain ⟨M, hM⟩ := hid_ex (madeCells #[Value.int .u8 0] 1000)
  have hmk : ∀ u : World, (Instr.makeSlice 22 (.int .i64 1000) (.int .i64 1000)).run Try.prog u =
      .ok (.slice (some ⟨u.heap.size, 0, none⟩) 1000 1000) (u.alloc (.cells M 5)) := fun u => by
    have h := run_make (P := Try.prog) u 22 5 u0 _ Try.underlying22 hu hu0 .i64 .i64 (1000 : Int) (1000 : Int) (by omega) (Int.le_refl _) (by rw [hu2]; omega) (by omega)
    rw [hM.out]
    simpa [hu1, Value.cells] using h
  go_enter Try.func53, Try.ntmps53
  go_upto_region 2 with fail
  have hF0 := (Five.new_at w ⟨0, 0, ⟨#[]⟩, 0⟩ (.slice none 0 0) 27 w.heap.size rfl).kept ((Kept.refl (fun _ => False) _).alloc (.cells M 5)) (fun e => e)
  have hrow0 : ((w.alloc (.cells #[.int .i64 0, .int .i64 0, .string ⟨#[]⟩, .int .i64 0, .slice none 0 0] 27)).alloc (.cells M 5)).rowIs (w.heap.size + 1) 5 1000 (fun i => (#[Value.int .u8 0] : Array Value)[i % (#[Value.int .u8 0] : Array Value).size]!) := by
    have e1 : (w.alloc (.cells #[.int .i64 0, .int .i64 0, .string ⟨#[]⟩, .int .i64 0, .slice none 0 0] 27)).heap.size = w.heap.size + 1 := by simp
    have := rowIs_made_any (w.alloc (.cells #[.int .i64 0, .int .i64 0, .string ⟨#[]⟩, .int .i64 0, .slice none 0 0] 27)) #[Value.int .u8 0] 1000 5
    rw [← hM.out, e1] at this
    exact this
  have hK0 : Kept (fun _ => False) w ((w.alloc (.cells #[.int .i64 0, .int .i64 0, .string ⟨#[]⟩, .int .i64 0, .slice none 0 0] 27)).alloc (.cells M 5)) := ((Kept.refl _ w).alloc _).alloc _
  have hszA : ((w.alloc (.cells #[.int .i64 0, .int .i64 0, .string ⟨#[]⟩, .int .i64 0, .slice none 0 0] 27)).alloc (.cells M 5)).heap.size = w.heap.size + 1 + 1 := by simp
  generalize (w.alloc (.cells #[.int .i64 0, .int .i64 0, .string ⟨#[]⟩, .int .i64 0, .slice none 0 0] 27)).alloc (.cells M 5) = wA at hF0 hrow0 hK0 hszA ⊢
  obtain ⟨LB, hLB⟩ := hid_ex (w.heap.size + 1)
  rw [← hLB.out] at hrow0 ⊢
  clear hmk hM
  go_wp2
  go_loopw [11] (fun i wr => ∃ (k : Nat) (f : Nat → Value), k ≤ 1000 ∧ i = .int .i64 k ∧ wr.rowIs LB 5 1000 f ∧ (∀ j, j < k → f j = .int .u8 ((j % 256 : Nat) : Int)) ∧ Kept (fun z => z = LB) wA wr ∧ Hid (wr.heap.size = wA.heap.size)) (fun i _ => 1000 - (intOf i).toNat)
  case atStart => exact ⟨0, _, Nat.zero_le _, rfl, hrow0, fun i hi => absurd hi (Nat.not_lt_zero _), Kept.refl _ _, rfl⟩
  case round =>
    obtain ⟨k, f, hk, rfl, hrow, hin, hK, hsz⟩ := hrel
    by_cases hlt : k < 1000
    · have d0 := hrow.cell hlt
      have fz := hrow.frozen
      have e0 : (0 : Int) ≤ (k : Int) := by omega
      have e1 : (k : Int) < 1000 := by omega
      obtain ⟨x, hx⟩ := hid_ex (k % 256)
      have e2 : IntKind.u8.wrap (k : Int) = (x : Int) := by rw [hx.out, IntKind.wrap_u8']; omega
      go_wp2
      go_roundw
      case rel =>
        refine ⟨k + 1, _, by omega, by go_num, hrow.set _ _, fun j hj => ?_, hK.set (fun _ => rfl) _, by show _ = _; rw [← hsz.out]; simp [World.setCell]⟩
        show (if j = k then _ else _) = _
        split
        · rename_i e; rw [e, hx.out]
        · exact hin j (by omega)
      case measure => simp [intOf]; omega
    · have hk1 : k = 1000 := by omega
      have hd1 : ¬ ((k : Int) < 1000) := by omega
      have hBR : BRow wr LB 1000 longL := BRow.of_row hrow (by rw [longL_length]; exact Nat.le_refl _) (fun i hi => by rw [longL_length] at hi; rw [longL_get hi]; exact hin i (by omega))
      have hKw : Kept (fun k => k = b) w wr := (hK0.mono (fun _ _ e => e.elim)).trans hK (fun z hz e => by have := hLB.out; omega)
      have hDCr := (hc.kept hK0 (fun e => e) (fun _ _ _ e => e)).kept hK (by have := hLB.out; omega) (fun g off e e2 => by have := hc.sl g off e; have := hLB.out; omega)
      have hFr := hF0.kept hK (by have := hLB.out; omega)
      have hszr := hsz.out
      rw [hszA] at hszr
      clear hrow hin hK hrow0 hF0 hK0 hk1 hk hlt
      go_upto_region 8 with fail
      have hA2 : Kept (fun _ => False) wr (wr.alloc (.cells #[.int .i64 0, .slice none 0 0] 84)) := (Kept.refl _ wr).alloc _
      have hF2 : FInv w b sa bs cap at_ LB (w.heap.size + 1 + 1) 0 (wr.alloc (.cells #[.int .i64 0, .slice none 0 0] 84)) :=
        ⟨none, 0, ⟨hKw.trans hA2 (fun _ _ e => e.elim), ⟨hs0, by omega, by simp; omega⟩, hc.sl, Two.new_at wr 0 (.slice none 0 0) 84 _ hszr.symm, hDCr.kept hA2 (fun e => e) (fun _ _ _ e => e), World.ownsRow_nil _ _ _ _⟩, hBR.kept hA2 (fun e => e), hFr.kept hA2 (fun e => e)⟩
      have hLX : LB < w.heap.size + 1 + 1 := by have := hLB.out; omega
      have hLw : w.heap.size < LB := by have := hLB.out; omega
      generalize wr.alloc (.cells #[.int .i64 0, .slice none 0 0] 84) = w3 at hF2 ⊢
      have hXw : w.heap.size < w.heap.size + 1 + 1 := by omega
      generalize w.heap.size + 1 + 1 = X at hF2 hLX hXw ⊢
      clear hA2 hBR hKw hDCr hFr hszr hc
      go_wp2
      go_loopw [6] (fun i ws => ∃ k : Nat, i = .int .i64 (k : Int) ∧ k ≤ 4 ∧ FInv w b sa bs cap at_ LB X k ws) (fun i _ => 4 - (intOf i).toNat)
      case atStart => exact ⟨0, rfl, by omega, hF2⟩
      case round =>
        obtain ⟨k, rfl, hk4, va, vc, hV, hB, hR⟩ := hrel
        obtain ⟨p1, p2, p3⟩ := hV.blk
        obtain ⟨tz, t0, t1, tf, _⟩ := id hV.x
        by_cases hlt : k < 4
        · have hd : (k : Int) < 4 := by omega
          have hcv := conv_text (c := 1000) hB.at0 longL_length
          have hlen : Hid ((fullV (strB longL) k).length = k) := fullV_length _ _
          go_wp2_with (at_builtin; refine wpList_append_lies _ rfl (.tmp 25) (.tmp 29) 82 rfl (X + 1) 24 i0 _ 4 40 Try.underlying82 hi hz0 hz1 hz2 rfl (by decide) _ _ _ rfl (World.ownsRow.alloc hV.vals _) ⟨wr.heap.size, 0, none⟩ 1 1 (tvOf (strB longL)).four rfl rfl (World.news_of_block (cs := #[.int .i64 3, .int .i64 0, .string (strB longL), .int .i64 0]) (t := 24) (fr := (0, 0)) (blk_new_at _ _ _ rfl)) (by simp [GV.four, tvOf, Value.oneCell']) (by decide) (by have h7 := hlen.out; unfold maxLen; omega) (by have h7 := hlen.out; omega) (by simp; omega) (wr.heap.size + 1) (by simp) ?_; intro gg8 cc8 w8 hown8 hgrow8 hat8 hlt8; obtain ⟨ez8, e08, e18, ef8, _⟩ := (hV.x.kept ((Kept.refl (fun _ => False) wr).alloc (.cells #[.int .i64 3, .int .i64 0, .string (strB longL), .int .i64 0] 24)) (fun e => e)).kept (Kept.of_grown hgrow8) (fun hp => by have := (hV.vals.lt _ hp).1; omega))
          have hA8 : Kept (fun _ => False) wr (wr.alloc (.cells #[.int .i64 3, .int .i64 0, .string (strB longL), .int .i64 0] 24)) := (Kept.refl _ wr).alloc _
          have hG8 := Kept.of_grown hgrow8
          have hC8 := (Kept.refl (fun k => k = X) w8).set (a := ⟨X, 1, none⟩) (fun _ => rfl) (.slice (some ⟨gg8, 0, none⟩) ((fullV (strB longL) k).length + 1) cc8)
          have hfin := hV.step (v := tvOf (strB longL)) hV.rd (Kept.refl _ _) hown8 hgrow8
          rw [fullV_snoc] at hfin
          go_roundw
          case rel => exact ⟨k + 1, by go_num, by omega, some ⟨gg8, 0, none⟩, cc8, hfin, ((hB.kept hA8 (fun e => e)).kept hG8 (fun hp => by have := (hV.vals.lt _ hp).1; omega)).kept hC8 (by omega), ((hR.kept hA8 (fun e => e)).kept hG8 (fun hp => by have := (hV.vals.lt _ hp).1; omega)).kept hC8 (by omega)⟩
          case measure => simp [intOf]; omega
        · obtain rfl : k = 4 := by omega
          have hlen : Hid ((fullV (strB longL) 4).length = 4) := fullV_length _ _
          obtain ⟨vs, hvs⟩ := hid_ex (fullV (strB longL) 4)
          have hvk : ∀ v, v ∈ vs → v = tvOf (strB longL) := fun v hv => by rw [hvs.out] at hv; exact List.eq_of_mem_replicate hv
          have hls : (strB longL).size = 1000 := by rw [strB_size, longL_length]
          have hvo : ∀ n v, v ∈ vs → v.Ok ∧ okV n v = true := fun n v hv => by
            rw [hvk v hv]
            exact ⟨⟨by unfold I64 tvOf; dsimp only; omega, by unfold I64 tvOf; dsimp only; omega, by show (strB longL).size ≤ maxLen; rw [hls]; decide, by unfold I64 tvOf; dsimp only; omega⟩, by simp [okV, tvOf, hls]⟩
          have hvl : Hid (vs.length = 4) := by show _ = _; rw [hvs.out]; exact hlen.out
          have hgO : (fullG vs).Ok := ⟨⟨by show I64 4; unfold I64; omega, by show I64 0; unfold I64; omega, by show (0 : Nat) ≤ maxLen; decide, by show I64 0; unfold I64; omega⟩, by show 1 ≤ maxLen; decide, fun x hx => by obtain rfl := List.mem_singleton.1 hx; exact ⟨by show I64 0; unfold I64; omega, by show vs.length ≤ maxLen; rw [hvl.out]; decide, fun v hv => (hvo 1 v hv).1⟩⟩
          have hgok : okG (fullG vs) = true := by
            have := okN_of (n := 1) (x := ⟨0, vs⟩) (by show (0 : Int) ≤ 0; omega) (by show (0 : Int) ≤ 1000; omega) (by show vs.length ≤ 100; rw [hvl.out]; decide) (fun v hv => (hvo 1 v hv).2)
            simp [okG, fullG, okV, this]
          have hil : (imageB (fullG vs)).length = 4027 := by rw [hvs.out]; exact full4_length _ hls
          rw [← hvs.out] at hV t1
          have hOG := OwnG.one (tag := 0) hV.vals (by omega)
          have hat1 := hOG.at_
          go_upto_region 13 with (first
            | (go_at_call 72; refine (l2pack_any _ 1 (fullG vs) _ hgO hgok hat1).mono ?_; rintro e w5 ⟨oa, oc, he, ho5, hb5⟩; rw [hil] at he; subst he)
            | (go_at_call_of 52 ((3 : Int)); refine (l6pick_of b sa bs cap at_ 3 3 w5 rfl ((hV.rd.kept ((Kept.refl (fun _ => False) _).alloc _) (fun e => e) (fun _ _ _ e => e)).kept (Kept.of_below hb5 (fun _ => False)) (fun e => e) (fun _ _ _ e => e)) (by omega) (by omega) (by omega)).mono ?_; rintro e w6 ⟨y, at6, hy, ha6, rfl, hk6⟩))
          obtain ⟨r, hr, hr68⟩ : ∃ r : Nat, (66 + (y : Int)) = (r : Int) ∧ r ≤ 68 := ⟨66 + y, by omega, by omega⟩
          rw [hr]
          have hAw : Kept (fun k => k = b) wr (wr.alloc (.cells #[.int .i64 0, .slice va vs.length vc] 84)) := (Kept.refl _ wr).alloc _
          have hK7 : Kept (fun k => k = b) wr w6.drew := kk (hAw.trans (Kept.of_below hb5 (fun k => k = b)) (fun _ _ e => e)) (kk hk6.kept (Kept.refl (fun k => k = b) w6).drew)
          have hD7 : DC w6.drew b sa bs cap at6 := hk6.dc.kept ((Kept.refl (fun _ => False) w6).drew) (fun e => e) (fun _ _ _ e => e)
          have hX7 := hV.x.kept hK7 (by omega)
          have hB7 := hB.kept hK7 (by omega)
          have hR7 := hR.kept hK7 (by omega)
          have hv7 : Hid _ := hK7.owns hV.vals (fun k hk hp => by have := (hV.vals.lt k hk).1; omega)
          obtain ⟨_, _, x1, _, _⟩ := id hX7
          obtain ⟨tx, htx⟩ := hid_ex (strB (longL.take r))
          have hcvU : Hid (∀ u : World, BRow u LB 1000 longL → (convert 22 9 (.slice (some ⟨LB, 0, none⟩) r 1000)).run Try.prog u = .ok (.string tx) u) := fun u hu => by
            rw [htx.out]
            refine conv_text (w := u) (n := r) (c := 1000) (ys := longL.take r) (a := some ⟨LB, 0, none⟩) (fun i hi => ?_) (by rw [List.length_take, longL_length]; omega)
            have h1 : i < r := by rw [List.length_take] at hi; omega
            have h2 : i < longL.length := by rw [longL_length]; omega
            refine ⟨LB, 0, rfl, ?_⟩
            have h3 := hu.cell h2
            rw [getElem!_pos _ i hi, List.getElem_take, ← getElem!_pos longL i h2]
            simpa using h3
          have hts : tx.size ≤ 1000 := by rw [htx.out, strB_size, List.length_take, longL_length]; omega
          have hcv := hcvU.out _ hB7
          have hr0 : (0 : Int) ≤ (r : Int) := by omega
          have hr1 : (r : Int) ≤ 1000 := by omega
          have hr2 : r ≤ 1000 := by omega
          have hs7 := hK7.size
          refine wp_regionU (fun u => u.cell? ⟨X, 1, none⟩ = some (.slice va vs.length vc) ∧ (convert 22 9 (.slice (some ⟨LB, 0, none⟩) r 1000)).run Try.prog u = .ok (.string tx) u) 10 (by kernel_rfl) ⟨x1, hcv⟩ (fun hS0 => ?_)
          generalize w6.drew = w7 at hK7 hD7 hX7 hB7 hR7 hv7 x1 hcv hs7 hS0 ⊢
          clear t0 t1 tf
          refine anyU_take (i := 0) (v := ?_) rfl (by kernel_rfl) (by kernel_rfl) (by kernel_rfl) (by kernel_rfl) (fun _ _ _ h => h) (Or.inl ⟨by rfl, ?_⟩) hS0 ?_
          rotate_left
          · intro u hSu; obtain ⟨q0, q1⟩ := hSu; go_simp <;> with_reducible rfl
          simp only [Act.put, List.getElem_toArray, List.getElem_cons_zero, List.setIfInBounds_toArray, List.set_cons_zero, List.set_cons_succ]
          refine anyU_take (i := 1) (v := ?_) rfl (by kernel_rfl) (by kernel_rfl) (by kernel_rfl) (by kernel_rfl) (fun _ _ _ h => h) (Or.inl ⟨by rfl, ?_⟩) hS0 ?_
          rotate_left
          · intro u hSu; obtain ⟨q0, q1⟩ := hSu; go_simp <;> with_reducible rfl
          simp only [Act.put, List.getElem_toArray, List.getElem_cons_zero, List.getElem_cons_succ, List.setIfInBounds_toArray, List.set_cons_zero, List.set_cons_succ]
          refine anyU_take (i := 2) (v := ?_) rfl (by kernel_rfl) (by kernel_rfl) (by kernel_rfl) (by kernel_rfl) (fun _ _ _ h => h) (Or.inl ⟨by rfl, ?_⟩) hS0 ?_
          rotate_left
          · intro u hSu; obtain ⟨q0, q1⟩ := hSu; go_simp <;> with_reducible rfl
          simp only [Act.put, List.getElem_toArray, List.getElem_cons_zero, List.getElem_cons_succ, List.setIfInBounds_toArray, List.set_cons_zero, List.set_cons_succ]
          refine anyU_take (i := 3) (v := ?_) rfl (by kernel_rfl) (by kernel_rfl) (by kernel_rfl) (by kernel_rfl) (fun _ _ _ h => h) (Or.inl ⟨by rfl, ?_⟩) hS0 ?_
          rotate_left
          · intro u hSu; obtain ⟨q0, q1⟩ := hSu; go_simp <;> with_reducible rfl
          simp only [Act.put, List.getElem_toArray, List.getElem_cons_zero, List.getElem_cons_succ, List.setIfInBounds_toArray, List.set_cons_zero, List.set_cons_succ]
          refine anyU_take (i := 4) (v := ?_) rfl (by kernel_rfl) (by kernel_rfl) (by kernel_rfl) (by kernel_rfl) (fun _ _ _ h => h) (Or.inl ⟨by rfl, ?_⟩) hS0 ?_
          rotate_left
          · intro u hSu; obtain ⟨q0, q1⟩ := hSu; go_simp <;> with_reducible rfl
          simp only [Act.put, List.getElem_toArray, List.getElem_cons_zero, List.getElem_cons_succ, List.setIfInBounds_toArray, List.set_cons_zero, List.set_cons_succ]
          refine anyU_take (i := 5) (v := ?_) rfl (by kernel_rfl) (by kernel_rfl) (by kernel_rfl) (by kernel_rfl) (fun _ _ _ h => h) (Or.inl ⟨by rfl, ?_⟩) hS0 ?_
          rotate_left
          · intro u hSu; obtain ⟨q0, q1⟩ := hSu; go_simp <;> with_reducible rfl
          simp only [Act.put, List.getElem_toArray, List.getElem_cons_zero, List.getElem_cons_succ, List.setIfInBounds_toArray, List.set_cons_zero, List.set_cons_succ]
          refine anyU_take (i := 6) (v := ?_) rfl (by kernel_rfl) (by kernel_rfl) (by kernel_rfl) (by kernel_rfl) (fun _ _ _ h => h) (Or.inl ⟨by rfl, ?_⟩) hS0 ?_
          rotate_left
          · intro u hSu; obtain ⟨q0, q1⟩ := hSu; go_simp <;> with_reducible rfl
          simp only [Act.put, List.getElem_toArray, List.getElem_cons_zero, List.getElem_cons_succ, List.setIfInBounds_toArray, List.set_cons_zero, List.set_cons_succ]
          have hB8 := hB7.kept ((Kept.refl (fun _ => False) w7).alloc (.cells #[.int .i64 3, .int .i64 0, .string tx, .int .i64 0] 24)) (fun e => e)
          have hX8 := hX7.kept ((Kept.refl (fun _ => False) w7).alloc (.cells #[.int .i64 3, .int .i64 0, .string tx, .int .i64 0] 24)) (fun e => e)
          obtain ⟨_, _, x18, _, _⟩ := id hX8
          have hc8 : Hid _ := And.intro x18 (hcvU.out _ hB8)
          clear x18
          refine anyU_one (i := 7) (by kernel_rfl) rfl (fun K hK => ?_)
          go_simp
          refine hK.out _ _ hc8.out ?_
          clear hK
          refine anyU_one (i := 8) (by kernel_rfl) rfl (fun K hK => ?_)
          refine step_append_lies _ (by rfl) (.tmp 45) (.tmp 51) 82 rfl (X + 1) 24 i0 _ 4 40 Try.underlying82 hi hz0 hz1 hz2 rfl (by decide) (.slice va vs.length vc) vs.length (valCells vs) (by rfl) (World.ownsRow.alloc hv7.out _) ⟨w7.heap.size, 0, none⟩ 1 1 (tvOf tx).four (by rfl) rfl (World.news_of_block (cs := #[.int .i64 3, .int .i64 0, .string tx, .int .i64 0]) (t := 24) (fr := (0, 0)) (blk_new_at _ _ _ rfl)) (by simp [GV.four, tvOf, Value.oneCell']) (by decide) (by have h7 := hvl.out; unfold maxLen; omega) (by have h7 := hvl.out; omega) (by simp; omega) (w7.heap.size + 1) (by simp) ?_
          intro gg cc w9 hown9 hgrow9 hat9 hlt9
          have hG9 := Kept.of_grown hgrow9
          have hX9 := hX8.kept hG9 (fun hp => by have := (hV.vals.lt _ hp).1; omega)
          have hB9 := hB8.kept hG9 (fun hp => by have := (hV.vals.lt _ hp).1; omega)
          have hR9 := (hR7.kept ((Kept.refl (fun _ => False) w7).alloc _) (fun e => e)).kept hG9 (fun hp => by have := (hV.vals.lt _ hp).1; omega)
          obtain ⟨yz, y0, y1, yf, _⟩ := id hX9
          have hc9 : Hid _ := And.intro y1 (hcvU.out _ hB9)
          refine hK.out _ _ hc9.out ?_
          clear hK
          simp only [Act.put, List.getElem_toArray, List.getElem_cons_zero, List.getElem_cons_succ, List.setIfInBounds_toArray, List.set_cons_zero, List.set_cons_succ]
          refine anyU_one (i := 9) (by kernel_rfl) rfl (fun K hK => ?_)
          go_simp
          refine hK.out _ _ hc9.out ?_
          clear hK
          refine anyU_last (by kernel_rfl) rfl (by kernel_rfl) (fun K hK => ?_)
          go_simp
          refine hK.out _ _ ?_
          clear hK
          have hfin := hV.step (v := tvOf tx) hD7 hK7 hown9 hgrow9
          have hR10 := hR9.kept ((Kept.refl (fun k => k = X) w9).set (a := ⟨X, 1, none⟩) (fun _ => rfl) (.slice (some ⟨gg, 0, none⟩) (vs.length + 1) cc)) (by omega)
          generalize w9.setCell ⟨X, 1, none⟩ (.slice (some ⟨gg, 0, none⟩) (vs.length + 1) cc) = wF at hfin hR10 ⊢
          clear hX9 hB9 hR9 yz y0 y1 yf hc9 hc8 hX8 hB8 hS0 x1 hcv hX7 hB7 hR7
          obtain ⟨us, hus⟩ := hid_ex (vs ++ [tvOf tx])
          rw [← hus.out] at hfin
          have hlu : Hid (us.length = vs.length + 1) := by show _ = _; rw [hus.out]; simp
          rw [← hlu.out]
          have hwu : ∀ n v, v ∈ us → v.Ok ∧ okV n v = true := fun n v hv => by
            rw [hus.out] at hv
            rcases List.mem_append.1 hv with hv | hv
            · exact hvo n v hv
            · obtain rfl := List.mem_singleton.1 hv
              exact ⟨⟨by show I64 3; unfold I64; omega, by show I64 0; unfold I64; omega, by show tx.size ≤ maxLen; unfold maxLen; omega, by show I64 0; unfold I64; omega⟩, by simp [okV, tvOf]; omega⟩
          obtain ⟨f1, f2, f3⟩ := hfin.blk
          obtain ⟨fz, f0, f1', ff, _⟩ := id hfin.x
          have hOGF := OwnG.one (tag := 0) hfin.vals (by omega)
          have hRG := hR10.kept ((Kept.refl (fun _ => False) wF).alloc (.cells #[.int .i64 0, .slice (some ⟨gg, 0, none⟩) us.length cc] 84)) (fun e => e)
          obtain ⟨rz, r0, r1', r2, r3, r4, rf_⟩ := id hRG
          go_wp2
          have hRf := (hRG.rootS ⟨4, 0, ⟨#[]⟩, 0⟩).set (s' := .slice (some ⟨wF.heap.size, 0, none⟩) 1 1)
          have hAF : Kept (fun k => k = w.heap.size) wF (wF.alloc (.cells #[.int .i64 0, .slice (some ⟨gg, 0, none⟩) us.length cc] 84)) := (Kept.refl _ wF).alloc _
          have hKR := ((((((Kept.refl (fun k => k = w.heap.size) (wF.alloc (.cells #[.int .i64 0, .slice (some ⟨gg, 0, none⟩) us.length cc] 84))).set (a := ⟨w.heap.size, 0, none⟩) (fun _ => rfl) (.int .i64 4)).set (a := ⟨w.heap.size, 1, none⟩) (fun _ => rfl) (.int .i64 0)).set (a := ⟨w.heap.size, 2, none⟩) (fun _ => rfl) (.string ⟨#[]⟩)).set (a := ⟨w.heap.size, 3, none⟩) (fun _ => rfl) (.int .i64 0)).set (a := ⟨w.heap.size, 4, none⟩) (fun _ => rfl) (.slice (some ⟨wF.heap.size, 0, none⟩) 1 1))
          dsimp only at hRf
          generalize ((((((wF.alloc (.cells #[.int .i64 0, .slice (some ⟨gg, 0, none⟩) us.length cc] 84)).setCell ⟨w.heap.size, 0, none⟩ (.int .i64 4)).setCell ⟨w.heap.size, 1, none⟩ (.int .i64 0)).setCell ⟨w.heap.size, 2, none⟩ (.string ⟨#[]⟩)).setCell ⟨w.heap.size, 3, none⟩ (.int .i64 0)).setCell ⟨w.heap.size, 4, none⟩ (.slice (some ⟨wF.heap.size, 0, none⟩) 1 1)) = wG at hRf hKR ⊢
          obtain ⟨_, s0, s1, s2, s3, s4, _⟩ := hRf
          have hKK := hAF.trans hKR (fun _ _ e => e)
          have hgg := hfin.vals.lt gg rfl
          refine bodyPost_ret (v := (fullG us).val (some ⟨wF.heap.size, 0, none⟩) 1) (by simp [results, Try.results53, go_sem, s0, s1, s2, s3, s4, GG.val, fullG]) rfl ⟨fullG us, some ⟨wF.heap.size, 0, none⟩, 1, [⟨⟨0, us⟩, some ⟨gg, 0, none⟩, cc⟩], at6, rfl, rfl, ?_, ?_, ?_, by omega, ?_, ?_⟩
          · exact ⟨⟨by show I64 4; unfold I64; omega, by show I64 0; unfold I64; omega, by show (0 : Nat) ≤ maxLen; decide, by show I64 0; unfold I64; omega⟩, by show 1 ≤ maxLen; decide, fun x hx => by obtain rfl := List.mem_singleton.1 hx; exact ⟨by show I64 0; unfold I64; omega, by show us.length ≤ maxLen; rw [hlu.out, hvl.out]; decide, fun v hv => (hwu 1 v hv).1⟩⟩
          · have := okN_of (n := 1) (x := ⟨0, us⟩) (by show (0 : Int) ≤ 0; omega) (by show (0 : Int) ≤ 1000; omega) (by show us.length ≤ 100; rw [hlu.out, hvl.out]; decide) (fun v hv => (hwu 1 v hv).2)
            simp [okG, fullG, okV, this]
          · refine (hOGF.kept hKR (fun k e hp => ?_) (fun x hx k e hp => ?_)).le (by omega)
            · have := some_addr e; omega
            · obtain rfl := List.mem_singleton.1 hx
              have := some_addr e; omega
          · exact hfin.rd.kept hKK (by omega) (fun g off e hp => by have := hfin.low g off e; omega)
          · exact hfin.kept.trans hKK (fun k hk e => by omega)

end Go.Proofs.Ythjddpkegooobaa

/-
  L6U: bytes that are nearly an image, drawn. Own work.
-/
namespace Go.Proofs.Ythjddpkegooobaa
open Go.RowKit

/-- drawn bytes -/
def BytesD (w : World) (b : Nat) (sa : Option Addr) (bs : List Nat) (cap at_ : Nat) (e : Ending) (w' : World) : Prop :=
  ∃ (ys : List Nat) (oa : Option Addr) (c at' : Nat), e = .returned (.slice oa ys.length c) ∧ ys.length ≤ 1099511627776 ∧ (∀ x, x ∈ ys → x < 256) ∧ w'.ownsRow w.heap.size 5 1 (.slice oa ys.length c) ys.length (bcells ys) ∧ at' ≤ at_ + 20000 ∧ DK w w' b sa bs cap at'

theorem owns_cap {w : World} {base e size n c : Nat} {a : Option Addr} {xs : List Value} (h : w.ownsRow base e size (.slice a n c) n xs) : n ≤ c := by
  rcases h.2 with ⟨_, e0⟩ | ⟨g, cap', cur, hv, hb, hg, h1, _⟩
  · omega
  · simp only [Value.slice.injEq] at hv
    omega
theorem owns_setB {w : World} {base e n cap g : Nat} {xs : List Value} (h : w.ownsRow base e 1 (.slice (some ⟨g, 0, none⟩) n cap) n xs) (j : Nat) (v : Value) : (w.setCell ⟨g, j, none⟩ v).ownsRow base e 1 (.slice (some ⟨g, 0, none⟩) n cap) n (xs.set j v) := by
  refine ⟨by rw [List.length_set]; exact h.1, ?_⟩
  rcases h.2 with ⟨e0, _⟩ | ⟨g', cap', cur, hv, hb, hg, h1, h2, h3, h4⟩
  · simp at e0
  · simp only [Value.slice.injEq] at hv
    obtain ⟨e1, _, rfl⟩ := hv
    obtain rfl := some_addr e1
    refine Or.inr ⟨g, cap, cur.setIfInBounds j v, rfl, hb, by simp [World.setCell, Array.getElem?_modify, hg], h1, h2, by rw [Array.size_setIfInBounds]; exact h3, ?_⟩
    rw [Array.toList_setIfInBounds, List.take_set, h4]
theorem owns_trunc {w : World} {base e n cap g i : Nat} {xs : List Value} (h : w.ownsRow base e 1 (.slice (some ⟨g, 0, none⟩) n cap) n xs) (hi : i ≤ n) : w.ownsRow base e 1 (.slice (some ⟨g, 0, none⟩) i cap) i (xs.take i) := by
  refine ⟨by rw [List.length_take]; have := h.1; omega, ?_⟩
  rcases h.2 with ⟨e0, _⟩ | ⟨g', cap', cur, hv, hb, hg, h1, h2, h3, h4⟩
  · simp at e0
  · simp only [Value.slice.injEq] at hv
    obtain ⟨e1, _, rfl⟩ := hv
    obtain rfl := some_addr e1
    refine Or.inr ⟨g, cap, cur, rfl, hb, hg, by omega, h2, h3, ?_⟩
    rw [← h4, List.take_take]
    congr 1
    omega
theorem bcells_take (xs : List Nat) (i : Nat) : (bcells xs).take i = bcells (xs.take i) := by simp [bcells, List.map_take]
theorem bcells_set (xs : List Nat) (i x : Nat) : (bcells xs).set i (.int .u8 (x : Int)) = bcells (xs.set i x) := by simp [bcells, List.map_set]

set_option maxHeartbeats 4000000 in
set_option maxRecDepth 100000 in
theorem l6loose_any (b : Nat) (sa : Option Addr) (bs : List Nat) (cap at_ : Nat) (w : World) (hc : DC w b sa bs cap at_) (hat : at_ + 20000 < 4611686018427387904) :
    Calls Try.prog 68 #[.pointer (some ⟨b, 0, none⟩)] w (BytesD w b sa bs cap at_) := by
  have hs0 := hc.lt
  obtain ⟨i0, hi, hz0, hz1, hz2⟩ := info_parts info_u8
  have hA : Kept (fun _ => False) w (w.alloc (.cells #[.int .u8 72, .int .u8 49] 5)) := (Kept.refl _ w).alloc _
  have hDA := hc.kept hA (fun e => e) (fun _ _ _ e => e)
  have hO0 : (w.alloc (.cells #[.int .u8 72, .int .u8 49] 5)).ownsRow w.heap.size 5 1 (.slice (some ⟨w.heap.size, 0, none⟩) 2 2) 2 (bcells [72, 49]) := owns_two w _ (Nat.le_refl _)
  go_enter Try.func68, Try.ntmps68
  go_upto_if 10 with (go_at_call_of 52 ((4 : Int)); refine (l6pick_of b sa bs cap at_ 4 4 _ rfl hDA (by omega) (by omega) (by omega)).mono ?_; rintro e w2 ⟨x, at2, hx, ha2, rfl, hk2⟩)
  have hO2 := hk2.kept.owns hO0 (fun k hk e => by have := (hO0.lt k hk).1; omega)
  have hs2 : w.heap.size + 1 ≤ w2.heap.size := by have := hk2.kept.size; simpa using this
  have hKw : DK w w2 b sa bs cap at2 := ⟨hk2.dc, (hA.mono (fun _ _ e => e.elim)).trans hk2.kept (fun _ _ e => e)⟩
  have hlow : ∀ g off, sa = some ⟨g, off, none⟩ → g < w.heap.size := hc.sl
  have hob : ∀ k, (Value.slice (some ⟨w.heap.size, 0, none⟩) 2 2).ownBlock = some k → w.heap.size ≤ k := fun k hk => (hO2.lt k hk).1
  clear hA hDA hO0 hc
  obtain rfl | rfl | rfl | rfl : x = 0 ∨ x = 1 ∨ x = 2 ∨ x = 3 := by omega
  · go_wp2_with (first
      | (at_builtin; refine wpList_append_lies _ rfl (.tmp 12) (.tmp 13) 22 rfl w.heap.size 5 i0 (.int .u8 0) 1 1 Try.underlying22 hi hz0 hz1 hz2 rfl (by decide) _ _ _ rfl (World.ownsRow.alloc hO2 (.cells #[.int .u8 129, .int .u8 0, .int .u8 4, .int .u8 0, .int .u8 5, .int .u8 0] 5)) ⟨w2.heap.size, 0, none⟩ 6 6 [.int .u8 129, .int .u8 0, .int .u8 4, .int .u8 0, .int .u8 5, .int .u8 0] rfl rfl (World.news_of_block (cs := #[.int .u8 129, .int .u8 0, .int .u8 4, .int .u8 0, .int .u8 5, .int .u8 0]) (t := 5) (fr := (0, 0)) (blk_new_at _ _ _ rfl)) (by simp [Value.oneCell']) (by decide) (by unfold maxLen; omega) (by omega) (by simp; omega) (w2.heap.size + 1) (by simp) ?_; intro gg cc w3 hown3 hgrow3 hat3 hlt3; obtain ⟨zs, hzs⟩ := hid_ex ([72, 49, 129, 0, 4, 0, 5, 0] : List Nat); have hzl : (2 + 6 : Nat) = zs.length := (by rw [hzs.out]; rfl); rw [hzl] at hown3 ⊢; replace hown3 : w3.ownsRow w.heap.size 5 1 (.slice (some ⟨gg, 0, none⟩) zs.length cc) zs.length (bcells zs) := (by rw [hzs.out] at hown3 ⊢; exact hown3); have hzb : ∀ x, x ∈ zs → x < 256 := (by rw [hzs.out]; decide); have hzk : Hid (zs.length = 2 + 6) := hzl.symm; clear hzl)
      | (go_at_call 108; refine (l2sum_any (some ⟨gg, 0, none⟩) zs cc w3 (owns_bytesD hown3) (by rw [hzk.out]; decide) hzb).mono ?_; rintro e w4 ⟨rfl, hb4⟩)
      | (go_at_call 123; refine (l2eight_any w.heap.size (some ⟨gg, 0, none⟩) zs.length cc zs (sumN zs) _ w4 rfl rfl (sumN_lt zs) (by have := hb4.size; have := hgrow3.size; simp at this; omega) (by rw [hzk.out]; decide) ((Kept.of_below hb4 (fun _ => False)).owns hown3 (fun _ _ e => e))).mono ?_; rintro e w5 ⟨oa5, cap5, rfl, hOb⟩))
    have hA3 : Kept (fun _ => False) w2 (w2.alloc (.cells #[.int .u8 129, .int .u8 0, .int .u8 4, .int .u8 0, .int .u8 5, .int .u8 0] 5)) := (Kept.refl _ w2).alloc _
    have hG3 := Kept.of_grown hgrow3
    have hgg := (hown3.lt gg rfl).1
    have hl5 : (zs ++ lowB 8 (sumN zs)).length = 2 + 6 + 8 := by rw [List.length_append, hzk.out]; simp [lowB]
    go_ret
    refine ⟨zs ++ lowB 8 (sumN zs), oa5, cap5, at2, by rw [List.length_append]; rfl, by rw [hl5]; decide, fun x hx => ?_, hOb.own, by omega, ⟨(((hKw.dc.kept hA3 (fun e => e) (fun _ _ _ e => e)).kept hG3 (fun hp => by have := hob _ hp; omega) (fun g off e hp => by have := hob _ hp; have := hlow g off e; omega)).kept (Kept.of_below hb4 (fun _ => False)) (fun e => e) (fun _ _ _ e => e)).kept hOb.kept (fun hp => by have := some_addr hp; omega) (fun g off e hp => by have := some_addr hp; have := hlow g off e; omega), (((hKw.kept.trans hA3 (fun _ _ e => e.elim)).trans hG3 (fun k hk hp => by have := hob _ hp; omega)).trans (Kept.of_below hb4 (fun _ => False)) (fun _ _ e => e.elim)).trans hOb.kept (fun k hk hp => by have := some_addr hp; omega)⟩⟩
    rcases List.mem_append.1 hx with hx | hx
    · exact hzb x hx
    · exact lowB_byte _ _ _ hx
  · go_wp2_with (first
      | (at_builtin; refine wpList_append_lies _ rfl (.tmp 17) (.tmp 18) 22 rfl w.heap.size 5 i0 (.int .u8 0) 1 1 Try.underlying22 hi hz0 hz1 hz2 rfl (by decide) _ _ _ rfl (World.ownsRow.alloc hO2 (.cells #[.int .u8 2, .int .u8 4, .int .u8 1, .int .u8 5, .int .u8 1, .int .u8 4, .int .u8 0, .int .u8 6, .int .u8 1, .int .u8 4, .int .u8 0] 5)) ⟨w2.heap.size, 0, none⟩ 11 11 [.int .u8 2, .int .u8 4, .int .u8 1, .int .u8 5, .int .u8 1, .int .u8 4, .int .u8 0, .int .u8 6, .int .u8 1, .int .u8 4, .int .u8 0] rfl rfl (World.news_of_block (cs := #[.int .u8 2, .int .u8 4, .int .u8 1, .int .u8 5, .int .u8 1, .int .u8 4, .int .u8 0, .int .u8 6, .int .u8 1, .int .u8 4, .int .u8 0]) (t := 5) (fr := (0, 0)) (blk_new_at _ _ _ rfl)) (by simp [Value.oneCell']) (by decide) (by unfold maxLen; omega) (by omega) (by simp; omega) (w2.heap.size + 1) (by simp) ?_; intro gg cc w3 hown3 hgrow3 hat3 hlt3; obtain ⟨zs, hzs⟩ := hid_ex ([72, 49, 2, 4, 1, 5, 1, 4, 0, 6, 1, 4, 0] : List Nat); have hzl : (2 + 11 : Nat) = zs.length := (by rw [hzs.out]; rfl); rw [hzl] at hown3 ⊢; replace hown3 : w3.ownsRow w.heap.size 5 1 (.slice (some ⟨gg, 0, none⟩) zs.length cc) zs.length (bcells zs) := (by rw [hzs.out] at hown3 ⊢; exact hown3); have hzb : ∀ x, x ∈ zs → x < 256 := (by rw [hzs.out]; decide); have hzk : Hid (zs.length = 2 + 11) := hzl.symm; clear hzl)
      | (go_at_call 108; refine (l2sum_any (some ⟨gg, 0, none⟩) zs cc w3 (owns_bytesD hown3) (by rw [hzk.out]; decide) hzb).mono ?_; rintro e w4 ⟨rfl, hb4⟩)
      | (go_at_call 123; refine (l2eight_any w.heap.size (some ⟨gg, 0, none⟩) zs.length cc zs (sumN zs) _ w4 rfl rfl (sumN_lt zs) (by have := hb4.size; have := hgrow3.size; simp at this; omega) (by rw [hzk.out]; decide) ((Kept.of_below hb4 (fun _ => False)).owns hown3 (fun _ _ e => e))).mono ?_; rintro e w5 ⟨oa5, cap5, rfl, hOb⟩))
    have hA3 : Kept (fun _ => False) w2 (w2.alloc (.cells #[.int .u8 2, .int .u8 4, .int .u8 1, .int .u8 5, .int .u8 1, .int .u8 4, .int .u8 0, .int .u8 6, .int .u8 1, .int .u8 4, .int .u8 0] 5)) := (Kept.refl _ w2).alloc _
    have hG3 := Kept.of_grown hgrow3
    have hgg := (hown3.lt gg rfl).1
    have hl5 : (zs ++ lowB 8 (sumN zs)).length = 2 + 11 + 8 := by rw [List.length_append, hzk.out]; simp [lowB]
    go_ret
    refine ⟨zs ++ lowB 8 (sumN zs), oa5, cap5, at2, by rw [List.length_append]; rfl, by rw [hl5]; decide, fun x hx => ?_, hOb.own, by omega, ⟨(((hKw.dc.kept hA3 (fun e => e) (fun _ _ _ e => e)).kept hG3 (fun hp => by have := hob _ hp; omega) (fun g off e hp => by have := hob _ hp; have := hlow g off e; omega)).kept (Kept.of_below hb4 (fun _ => False)) (fun e => e) (fun _ _ _ e => e)).kept hOb.kept (fun hp => by have := some_addr hp; omega) (fun g off e hp => by have := some_addr hp; have := hlow g off e; omega), (((hKw.kept.trans hA3 (fun _ _ e => e.elim)).trans hG3 (fun k hk hp => by have := hob _ hp; omega)).trans (Kept.of_below hb4 (fun _ => False)) (fun _ _ e => e.elim)).trans hOb.kept (fun k hk hp => by have := some_addr hp; omega)⟩⟩
    rcases List.mem_append.1 hx with hx | hx
    · exact hzb x hx
    · exact lowB_byte _ _ _ hx
  · go_wp2_with (first
      | (at_builtin; refine wpList_append_lies _ rfl (.tmp 22) (.tmp 23) 22 rfl w.heap.size 5 i0 (.int .u8 0) 1 1 Try.underlying22 hi hz0 hz1 hz2 rfl (by decide) _ _ _ rfl (World.ownsRow.alloc hO2 (.cells #[.int .u8 2, .int .u8 4, .int .u8 0, .int .u8 5, .int .u8 0, .int .u8 6, .int .u8 0] 5)) ⟨w2.heap.size, 0, none⟩ 7 7 [.int .u8 2, .int .u8 4, .int .u8 0, .int .u8 5, .int .u8 0, .int .u8 6, .int .u8 0] rfl rfl (World.news_of_block (cs := #[.int .u8 2, .int .u8 4, .int .u8 0, .int .u8 5, .int .u8 0, .int .u8 6, .int .u8 0]) (t := 5) (fr := (0, 0)) (blk_new_at _ _ _ rfl)) (by simp [Value.oneCell']) (by decide) (by unfold maxLen; omega) (by omega) (by simp; omega) (w2.heap.size + 1) (by simp) ?_; intro gg cc w3 hown3 hgrow3 hat3 hlt3; obtain ⟨zs, hzs⟩ := hid_ex ([72, 49, 2, 4, 0, 5, 0, 6, 0] : List Nat); have hzl : (2 + 7 : Nat) = zs.length := (by rw [hzs.out]; rfl); rw [hzl] at hown3 ⊢; replace hown3 : w3.ownsRow w.heap.size 5 1 (.slice (some ⟨gg, 0, none⟩) zs.length cc) zs.length (bcells zs) := (by rw [hzs.out] at hown3 ⊢; exact hown3); have hzb : ∀ x, x ∈ zs → x < 256 := (by rw [hzs.out]; decide); have hzk : Hid (zs.length = 2 + 7) := hzl.symm; clear hzl)
      | (go_at_call 108; refine (l2sum_any (some ⟨gg, 0, none⟩) zs cc w3 (owns_bytesD hown3) (by rw [hzk.out]; decide) hzb).mono ?_; rintro e w4 ⟨rfl, hb4⟩)
      | (go_at_call 123; refine (l2eight_any w.heap.size (some ⟨gg, 0, none⟩) zs.length cc zs (sumN zs) _ w4 rfl rfl (sumN_lt zs) (by have := hb4.size; have := hgrow3.size; simp at this; omega) (by rw [hzk.out]; decide) ((Kept.of_below hb4 (fun _ => False)).owns hown3 (fun _ _ e => e))).mono ?_; rintro e w5 ⟨oa5, cap5, rfl, hOb⟩))
    have hA3 : Kept (fun _ => False) w2 (w2.alloc (.cells #[.int .u8 2, .int .u8 4, .int .u8 0, .int .u8 5, .int .u8 0, .int .u8 6, .int .u8 0] 5)) := (Kept.refl _ w2).alloc _
    have hG3 := Kept.of_grown hgrow3
    have hgg := (hown3.lt gg rfl).1
    have hl5 : (zs ++ lowB 8 (sumN zs)).length = 2 + 7 + 8 := by rw [List.length_append, hzk.out]; simp [lowB]
    go_ret
    refine ⟨zs ++ lowB 8 (sumN zs), oa5, cap5, at2, by rw [List.length_append]; rfl, by rw [hl5]; decide, fun x hx => ?_, hOb.own, by omega, ⟨(((hKw.dc.kept hA3 (fun e => e) (fun _ _ _ e => e)).kept hG3 (fun hp => by have := hob _ hp; omega) (fun g off e hp => by have := hob _ hp; have := hlow g off e; omega)).kept (Kept.of_below hb4 (fun _ => False)) (fun e => e) (fun _ _ _ e => e)).kept hOb.kept (fun hp => by have := some_addr hp; omega) (fun g off e hp => by have := some_addr hp; have := hlow g off e; omega), (((hKw.kept.trans hA3 (fun _ _ e => e.elim)).trans hG3 (fun k hk hp => by have := hob _ hp; omega)).trans (Kept.of_below hb4 (fun _ => False)) (fun _ _ e => e.elim)).trans hOb.kept (fun k hk hp => by have := some_addr hp; omega)⟩⟩
    rcases List.mem_append.1 hx with hx | hx
    · exact hzb x hx
    · exact lowB_byte _ _ _ hx
  · go_wp2_with (first
      | (at_builtin; refine wpList_append_lies _ rfl (.tmp 7) (.tmp 8) 22 rfl w.heap.size 5 i0 (.int .u8 0) 1 1 Try.underlying22 hi hz0 hz1 hz2 rfl (by decide) _ _ _ rfl (World.ownsRow.alloc hO2 (.cells #[.int .u8 1, .int .u8 4, .int .u8 0, .int .u8 5, .int .u8 1, .int .u8 4, .int .u8 0] 5)) ⟨w2.heap.size, 0, none⟩ 7 7 [.int .u8 1, .int .u8 4, .int .u8 0, .int .u8 5, .int .u8 1, .int .u8 4, .int .u8 0] rfl rfl (World.news_of_block (cs := #[.int .u8 1, .int .u8 4, .int .u8 0, .int .u8 5, .int .u8 1, .int .u8 4, .int .u8 0]) (t := 5) (fr := (0, 0)) (blk_new_at _ _ _ rfl)) (by simp [Value.oneCell']) (by decide) (by unfold maxLen; omega) (by omega) (by simp; omega) (w2.heap.size + 1) (by simp) ?_; intro gg cc w3 hown3 hgrow3 hat3 hlt3; obtain ⟨zs, hzs⟩ := hid_ex ([72, 49, 1, 4, 0, 5, 1, 4, 0] : List Nat); have hzl : (2 + 7 : Nat) = zs.length := (by rw [hzs.out]; rfl); rw [hzl] at hown3 ⊢; replace hown3 : w3.ownsRow w.heap.size 5 1 (.slice (some ⟨gg, 0, none⟩) zs.length cc) zs.length (bcells zs) := (by rw [hzs.out] at hown3 ⊢; exact hown3); have hzb : ∀ x, x ∈ zs → x < 256 := (by rw [hzs.out]; decide); have hzk : Hid (zs.length = 2 + 7) := hzl.symm; clear hzl)
      | (go_at_call 108; refine (l2sum_any (some ⟨gg, 0, none⟩) zs cc w3 (owns_bytesD hown3) (by rw [hzk.out]; decide) hzb).mono ?_; rintro e w4 ⟨rfl, hb4⟩)
      | (go_at_call 123; refine (l2eight_any w.heap.size (some ⟨gg, 0, none⟩) zs.length cc zs (sumN zs) _ w4 rfl rfl (sumN_lt zs) (by have := hb4.size; have := hgrow3.size; simp at this; omega) (by rw [hzk.out]; decide) ((Kept.of_below hb4 (fun _ => False)).owns hown3 (fun _ _ e => e))).mono ?_; rintro e w5 ⟨oa5, cap5, rfl, hOb⟩))
    have hA3 : Kept (fun _ => False) w2 (w2.alloc (.cells #[.int .u8 1, .int .u8 4, .int .u8 0, .int .u8 5, .int .u8 1, .int .u8 4, .int .u8 0] 5)) := (Kept.refl _ w2).alloc _
    have hG3 := Kept.of_grown hgrow3
    have hgg := (hown3.lt gg rfl).1
    have hl5 : (zs ++ lowB 8 (sumN zs)).length = 2 + 7 + 8 := by rw [List.length_append, hzk.out]; simp [lowB]
    go_ret
    refine ⟨zs ++ lowB 8 (sumN zs), oa5, cap5, at2, by rw [List.length_append]; rfl, by rw [hl5]; decide, fun x hx => ?_, hOb.own, by omega, ⟨(((hKw.dc.kept hA3 (fun e => e) (fun _ _ _ e => e)).kept hG3 (fun hp => by have := hob _ hp; omega) (fun g off e hp => by have := hob _ hp; have := hlow g off e; omega)).kept (Kept.of_below hb4 (fun _ => False)) (fun e => e) (fun _ _ _ e => e)).kept hOb.kept (fun hp => by have := some_addr hp; omega) (fun g off e hp => by have := some_addr hp; have := hlow g off e; omega), (((hKw.kept.trans hA3 (fun _ _ e => e.elim)).trans hG3 (fun k hk hp => by have := hob _ hp; omega)).trans (Kept.of_below hb4 (fun _ => False)) (fun _ _ e => e.elim)).trans hOb.kept (fun k hk hp => by have := some_addr hp; omega)⟩⟩
    rcases List.mem_append.1 hx with hx | hx
    · exact hzb x hx
    · exact lowB_byte _ _ _ hx

end Go.Proofs.Ythjddpkegooobaa
