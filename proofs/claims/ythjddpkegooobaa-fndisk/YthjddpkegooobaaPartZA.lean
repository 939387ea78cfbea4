import Derived.Test.YthjddpkegooobaaPartV
import Derived.Test.YthjddpkegooobaaPartZ

/-
  WR4: the program's writer: graphs. Own work.
-/
namespace Go.Proofs.Ythjddpkegooobaa
open Go.RowKit

set_option maxRecDepth 100000 in
theorem okN_tag {n : Nat} {x : GN} (h : okN n x = true) : 0 ≤ x.tag ∧ x.tag ≤ 1000 := by
  unfold okN at h
  simp only [Bool.and_eq_true, decide_eq_true_eq, List.all_eq_true] at h
  exact ⟨h.1.1, h.1.2.1⟩
set_option maxRecDepth 100000 in
theorem wrap_nat {n : Nat} (h : n < 18446744073709551616) : IntKind.u64.wrap (n : Int) = (n : Int) := by rw [IntKind.wrap_u64]; omega

/-- what is written when k nodes are -/
def gheadB (g : GG) : List Nat := [72, 49] ++ (numB g.nodes.length ++ valB g.root)
set_option maxRecDepth 100000 in
theorem graphB_head (g : GG) : graphB g = gheadB g ++ nodesB g.nodes := by simp [graphB, gheadB]

theorem OwnG.get {w : World} {base : Nat} {na : Option Addr} {nc : Nat} {nl : List NL} (h : OwnG w base na nc nl) {k : Nat} (hk : k < nl.length) :
    ∃ x G, Hid (x = nl[k]!) ∧ x ∈ nl ∧ na = some ⟨G, 0, none⟩ ∧ w.cell? ⟨G, k * 2, none⟩ = some (.int .i64 x.n.tag) ∧ w.cell? ⟨G, k * 2 + 1, none⟩ = some (.slice x.a x.n.vals.length x.cap) := by
  have hg : ∀ j, j < 2 → (nodeCells nl)[k * 2 + j]? = (nl[k]!.two)[j]? := fun j hj => flatMap_get NL.two_length nl k j hk hj
  obtain ⟨G, ha, _, _, c0⟩ := owns_cell h.nodes (hg 0 (by decide))
  obtain ⟨G1, ha1, _, _, c1⟩ := owns_cell h.nodes (hg 1 (by decide))
  rw [ha] at ha1
  obtain rfl := some_addr ha1
  exact ⟨nl[k]!, G, rfl, mem_at hk, ha, c0, c1⟩

set_option maxRecDepth 100000 in
theorem map_get {nl : List NL} {ns : List GN} (h : nl.map (·.n) = ns) {k : Nat} (hk : k < nl.length) : ns[k]! = (nl[k]!).n := by
  subst h
  rw [getElem!_pos _ k (by simpa using hk), getElem!_pos nl k hk]
  simp

set_option maxRecDepth 100000 in
theorem writeGraph_any (b a : Nat) (xs : List Nat) (g : GG) (na : Option Addr) (nc base : Nat) (nl : List NL) (w : World) (hW : Wr w b a xs) (hg : g.Ok) (hok : okG g = true) (hnl : Hid (nl.map (·.n) = g.nodes)) (hO : ∀ w', Kept (fun k => k = b ∨ k = a) w w' → OwnG w' base na nc nl) :
    Calls Try.prog 62 #[.pointer (some ⟨b, 0, none⟩), g.val na nc] w (WPost b a xs (graphB g) w) := by
  obtain ⟨hl300, hroot, hnodes⟩ := okG_parts hok
  have hF := Five.new_at w g.root (.slice na g.nodes.length nc) 27 w.heap.size rfl
  have hlt := hW.cur.lt
  have hla := hW.row.lt
  have hlen : nl.length = g.nodes.length := by rw [← hnl.out, List.length_map]
  have hgl : Hid (graphB g = gheadB g ++ nodesB g.nodes) := graphB_head g
  have hbH : bsOf ⟨#[72, 49]⟩ = [72, 49] := rfl
  have e6 := wrap_nat (n := g.nodes.length) (by omega)
  go_enter Try.func62, Try.ntmps62
  go_wp2_with (first
    | (go_at_call 93; refine (writeText_any b a xs ⟨#[72, 49]⟩ _ (hW.grow (gal (gre _) _)) (by decide)).mono ?_; rintro e w1 ⟨hK1, h1⟩; have hF1 := hF.kept hK1 (by omega); obtain ⟨fz, f0, f1, f2, f3, f4, ff⟩ := id hF1; rw [hbH] at h1; obtain ⟨hf, rfl, hW1⟩ | ⟨hno, rfl⟩ := h1)
    | (go_at_call 116; refine (writeNumber_any b a _ g.nodes.length _ _ hW1 ?_ (by omega)).mono ?_; (first | rfl | exact e6); rintro e w2 ⟨hK2, h2⟩; have hF2 := hF1.kept hK2 (by omega); obtain ⟨gz, g0, g1, g2, g3, g4, gf⟩ := id hF2; obtain ⟨hf2, rfl, hW2⟩ | ⟨hno2, rfl⟩ := h2)
    | (go_at_call 117; refine (writeVal_any b a g.nodes.length _ g.root _ hW2 hl300 hg.root hroot).mono ?_; rintro e w3 ⟨hK3, h3⟩; have hF3 := hF2.kept hK3 (by omega); obtain ⟨iz, i0, i1, i2, i3, i4, if_⟩ := id hF3; obtain ⟨hf3, rfl, hW3⟩ | ⟨hno3, rfl⟩ := h3))
  · have hK30 : Kept (fun k => k = b ∨ k = a) w w3 := kt (kt (kt ((Kept.refl _ w).alloc _) hK1) hK2) hK3
    have hW3' : Wr w3 b a (xs ++ gheadB g) := by
      have e : xs ++ [72, 49] ++ numB g.nodes.length ++ valB g.root = xs ++ gheadB g := by unfold gheadB; simp only [List.append_assoc]
      rw [← e]; exact hW3
    clear hF hF1 hF2 hF3 fz f0 f1 f2 f3 f4 ff gz g0 g1 g2 g3 g4 gf iz i0 i1 i2 i3 i4 if_ hW1 hW2 hW3 hf hf2 hf3 hK1 hK2 hK3
    go_loopw [23] (fun i ws => ∃ (k : Nat), i = .int .i64 k ∧ k ≤ g.nodes.length ∧ Wr ws b a (xs ++ gheadB g ++ nodesB (g.nodes.take k)) ∧ Kept (fun k => k = b ∨ k = a) w ws) (fun i _ => g.nodes.length - (intOf i).toNat)
    case atStart => exact ⟨0, rfl, Nat.zero_le _, by rw [List.take_zero, nodesB, List.append_nil]; exact hW3', hK30⟩
    case round =>
      obtain ⟨k, rfl, hk, hWk, hKk⟩ := hrel
      by_cases hkl : k < g.nodes.length
      · have hOk := hO wr hKk
        obtain ⟨⟨xn, xa, xc⟩, G, hx, hxm, rfl, c0, c1⟩ := hOk.get (k := k) (by omega)
        dsimp only at c0 c1
        have hxn : Hid (g.nodes[k]! = xn) := by show _ = _; rw [map_get hnl.out (by omega), ← hx.out]
        have hxok : okN g.nodes.length xn = true := by rw [← hxn.out]; exact hnodes _ (mem_at hkl)
        have hxg : xn.Ok := by rw [← hxn.out]; exact hg.nodes _ (mem_at hkl)
        obtain ⟨hvl, hvok⟩ := okN_parts hxok
        obtain ⟨ht0, ht1⟩ := okN_tag hxok
        obtain ⟨tg, htg⟩ : ∃ tg : Nat, xn.tag = (tg : Int) := ⟨xn.tag.toNat, by omega⟩
        have hnb : Hid (nodesB (g.nodes.take (k + 1)) = nodesB (g.nodes.take k) ++ (numB tg ++ (numB xn.vals.length ++ valsB xn.vals))) := by
          show _ = _
          rw [nodesB_take_succ _ _ hkl, hxn.out, nodeB, htg]; rfl
        have hnle : (nodesB (g.nodes.take (k + 1))).length ≤ (nodesB g.nodes).length := nodesB_take_le _ _
        rw [hnb.out] at hnle
        simp only [List.length_append] at hnle
        have hgl2 : (graphB g).length = (gheadB g).length + (nodesB g.nodes).length := by rw [hgl.out, List.length_append]
        rw [htg] at c0
        have hT := Two.new_at wr tg (.slice xa xn.vals.length xc) 84 wr.heap.size rfl
        have e7 := wrap_nat (n := tg) (by omega)
        have e8 := wrap_nat (n := xn.vals.length) (by omega)
        have hwb : b ≠ wr.heap.size := by have := hWk.cur.lt; omega
        have hwa : a ≠ wr.heap.size := by have := hWk.row.lt; omega
        have hnp : ¬ (wr.heap.size = b ∨ wr.heap.size = a) := by omega
        go_wp2_with (first
          | (go_at_call 116; refine (writeNumber_any b a _ xn.vals.length _ _ hW4 ?_ (by omega)).mono ?_; (first | rfl | exact e8); rintro e w5 ⟨hK5, h5⟩; obtain ⟨uz, u0, u1, uf, _⟩ := hT4.kept hK5 hnp; obtain ⟨hf5, rfl, hW5⟩ | ⟨hno5, rfl⟩ := h5)
          | (go_at_call 116; refine (writeNumber_any b a _ tg _ _ (hWk.grow (gal (gre _) _)) ?_ (by omega)).mono ?_; (first | rfl | exact e7); rintro e w4 ⟨hK4, h4⟩; have hT4 := hT.kept hK4 hnp; obtain ⟨tz, t0, t1, tf, _⟩ := id hT4; obtain ⟨hf4, rfl, hW4⟩ | ⟨hno4, rfl⟩ := h4))
        · have hK50 : Kept (fun k => k = b ∨ k = a) w w5 := kt (kt (hKk.alloc _) hK4) hK5
          clear hT hT4 tz t0 t1 tf uz u0 u1 uf hK4 hK5 hW4 hf4 hf5
          go_loopw [41] (fun i ws => ∃ (m : Nat), i = .int .i64 m ∧ m ≤ xn.vals.length ∧ Wr ws b a (xs ++ gheadB g ++ nodesB (g.nodes.take k) ++ numB tg ++ numB xn.vals.length ++ valsB (xn.vals.take m)) ∧ Kept (fun k => k = b ∨ k = a) w ws) (fun i _ => xn.vals.length - (intOf i).toNat)
          case atStart => exact ⟨0, rfl, Nat.zero_le _, by rw [List.take_zero, valsB, List.append_nil]; exact hW5, hK50⟩
          case round =>
            obtain ⟨m, rfl, hm, hWm, hKm⟩ := hrel
            by_cases hml : m < xn.vals.length
            · have hOm := hO wr hKm
              have hva := owns_vals (hOm.vals _ hxm) (Nat.le_refl _)
              obtain ⟨v, bv, ov, hvk, hvm, rfl, hbv, hvc⟩ := hva.get hml
              obtain ⟨d0, d1, d2, d3⟩ := hvc
              have hvb : Hid (valsB (xn.vals.take (m + 1)) = valsB (xn.vals.take m) ++ valB v) := by show _ = _; rw [valsB_take_succ _ _ hml, ← hvk.out]
              have hvle : (valsB (xn.vals.take (m + 1))).length ≤ (valsB xn.vals).length := valsB_take_le _ _
              rw [hvb.out, List.length_append] at hvle
              go_wp2_with (go_at_call 117; refine (writeVal_any b a g.nodes.length _ v _ (hWm.grow (gal (gre _) _)) hl300 (hxg.vals v hvm) (hvok v hvm)).mono ?_; rintro e w6 ⟨hK6, h6⟩; obtain ⟨hf6, rfl, hW6⟩ | ⟨hno6, rfl⟩ := h6)
              · go_roundw
                case rel => exact ⟨m + 1, by go_num, by omega, by rw [hvb.out, ← List.append_assoc]; exact hW6, kt (hKm.alloc _) hK6⟩
                case measure => simp [intOf]; omega
              · refine ⟨rfl, WPost.no (kt (hKm.alloc _) hK6) ?_⟩
                simp at hno6; omega
            · obtain rfl : m = xn.vals.length := by omega
              go_wp2
              go_roundw
              case rel =>
                refine ⟨k + 1, by go_num, by omega, ?_, hKm⟩
                rw [List.take_length] at hWm
                rw [hnb.out]
                simp only [← List.append_assoc]
                exact hWm
              case measure => simp [intOf]; omega
        · refine ⟨rfl, WPost.no (kt (kt (hKk.alloc _) hK4) hK5) ?_⟩
          simp at hno5; omega
        · refine ⟨rfl, WPost.no (kt (hKk.alloc _) hK4) ?_⟩
          simp at hno4; omega
      · obtain rfl : k = g.nodes.length := by omega
        go_wp2
        go_end0
        refine WPost.ok hKk ?_
        rw [List.take_length, List.append_assoc, ← hgl.out] at hWk
        exact hWk
  · refine ⟨rfl, WPost.no (kt (kt (kt ((Kept.refl _ w).alloc _) hK1) hK2) hK3) ?_⟩
    rw [hgl.out]; simp [gheadB] at hno3 ⊢; omega
  · refine ⟨rfl, WPost.no (kt (kt ((Kept.refl _ w).alloc _) hK1) hK2) ?_⟩
    rw [hgl.out]; simp [gheadB] at hno2 ⊢; omega
  · refine ⟨rfl, WPost.no (kt ((Kept.refl _ w).alloc _) hK1) ?_⟩
    rw [hgl.out]; simp [gheadB] at hno ⊢; omega

end Go.Proofs.Ythjddpkegooobaa

/-
  OB4: the specification's image, walked. Own work.
-/
namespace Go.Proofs.Ythjddpkegooobaa
open Go.RowKit

set_option maxRecDepth 100000 in
theorem owns_bytesO {w : World} {base : Nat} {oa : Option Addr} {len cap n : Nat} {zs : List Nat} (h : w.ownsRow base 5 1 (.slice oa len cap) n (bcells zs)) : BytesAt w oa zs := fun i hi => by
  obtain ⟨g, ha, _, _, hc⟩ := owns_cell h (bcells_get hi)
  exact ⟨g, 0, ha, by rw [Nat.zero_add]; exact hc⟩
set_option maxRecDepth 100000 in
theorem numB_bytes (n : Nat) : ∀ x, x ∈ numB n → x < 256 := fun x hx => numB_byte n x hx
theorem valB_bytes {n : Nat} {v : GV} (h : okV n v = true) : ∀ x, x ∈ valB v → x < 256 := by
  intro x hx
  rcases okV_cases h with rfl | ⟨m, rfl⟩ | ⟨m, rfl⟩ | ⟨t, ht, rfl⟩ | ⟨k, hk, rfl⟩
  · have h1 : x ∈ [0] := hx
    have := List.mem_singleton.1 h1; omega
  · have h1 : x ∈ 1 :: numB (zig m) := hx
    rcases List.mem_cons.1 h1 with h2 | h2
    · omega
    · exact numB_byte _ x h2
  · have h1 : x ∈ 2 :: lowB 8 (u64n m) := hx
    rcases List.mem_cons.1 h1 with h2 | h2
    · omega
    · exact lowB_byte _ _ x h2
  · have h1 : x ∈ 3 :: (numB t.size ++ bsOf t) := hx
    rcases List.mem_cons.1 h1 with h2 | h2
    · omega
    · rcases List.mem_append.1 h2 with h3 | h3
      · exact numB_byte _ x h3
      · exact bsOf_byte h3
  · have h1 : x ∈ 4 :: numB k := hx
    rcases List.mem_cons.1 h1 with h2 | h2
    · omega
    · exact numB_byte _ x h2
set_option maxRecDepth 100000 in
theorem valsB_bytes {n : Nat} {l : List GV} (h : ∀ v, v ∈ l → okV n v = true) : ∀ x, x ∈ valsB l → x < 256 := by
  induction l with
  | nil => intro x hx; cases hx
  | cons v r ih =>
    intro x hx
    rcases List.mem_append.1 hx with h1 | h1
    · exact valB_bytes (h v (List.mem_cons_self ..)) x h1
    · exact ih (fun y hy => h y (List.mem_cons_of_mem _ hy)) x h1
set_option maxRecDepth 100000 in
theorem nodesB_bytes {n : Nat} {l : List GN} (h : ∀ v, v ∈ l → okN n v = true) : ∀ x, x ∈ nodesB l → x < 256 := by
  induction l with
  | nil => intro x hx; cases hx
  | cons v r ih =>
    intro x hx
    rcases List.mem_append.1 hx with h1 | h1
    · rcases List.mem_append.1 h1 with h2 | h2
      · exact numB_byte _ x h2
      · rcases List.mem_append.1 h2 with h3 | h3
        · exact numB_byte _ x h3
        · exact valsB_bytes (okN_parts (h v (List.mem_cons_self ..))).2 x h3
    · exact ih (fun y hy => h y (List.mem_cons_of_mem _ hy)) x h1
set_option maxRecDepth 100000 in
theorem graphB_bytes {g : GG} (hok : okG g = true) : ∀ x, x ∈ graphB g → x < 256 := by
  obtain ⟨_, hroot, hnodes⟩ := okG_parts hok
  intro x hx
  rcases List.mem_append.1 hx with h1 | h1
  · simp at h1; omega
  · rcases List.mem_append.1 h1 with h2 | h2
    · exact numB_byte _ x h2
    · rcases List.mem_append.1 h2 with h3 | h3
      · exact valB_bytes hroot x h3
      · exact nodesB_bytes hnodes x h3
set_option maxRecDepth 100000 in
theorem formB_bytes {g : GG} (hok : okG g = true) : ∀ x, x ∈ formB g → x < 256 := by
  intro x hx
  rcases List.mem_append.1 hx with h1 | h1
  · exact graphB_bytes hok x h1
  · exact lowB_byte _ _ x h1

set_option maxRecDepth 100000 in
theorem Ob.back {w0 w1 w : World} {base b0 : Nat} {oa : Option Addr} {cap : Nat} {zs : List Nat} (h : Ob w0 base (some ⟨b0, 0, none⟩) w oa cap zs) (hb : Below w1.heap.size w1 w0) (h0 : w1.heap.size ≤ b0) : Below w1.heap.size w1 w :=
  hb.trans (h.kept.below hb.size (fun k hk e => by have := some_addr e; omega))

set_option maxRecDepth 100000 in
theorem l2pack_any (a : Option Addr) (cap : Nat) (g : GG) (w : World) (hg : g.Ok) (hok : okG g = true) (ha : NodesAt w.heap.size w a g.nodes) :
    Calls Try.prog 72 #[g.val a cap] w (PackSPost (imageB g) w) := by
  obtain ⟨c, hc⟩ := hid_ex (canon g)
  have hcok : okG c = true := by rw [hc.out]; exact canon_okG hok
  have hcO : c.Ok := by rw [hc.out]; exact canon_ok hg hok
  obtain ⟨hl300, hroot, hnodes⟩ := okG_parts hcok
  have hgl : Hid (graphB c = gheadB c ++ nodesB c.nodes) := graphB_head c
  have hgl2 : (graphB c).length = (gheadB c).length + (nodesB c.nodes).length := by rw [hgl.out, List.length_append]
  have hglen := graphB_len hcO hcok
  have hnum := numB_ten (n := c.nodes.length) (by omega)
  have e6 := wrap_nat (n := c.nodes.length) (by omega)
  go_enter Try.func72, Try.ntmps72
  go_wp2_with (first
    | (go_at_call 57; refine (specCanon_any a cap g _ hok (ha.grow (gal (gre _) _))).mono ?_; rintro e w1 ⟨na, nc, rfl, hN, hb1⟩; rw [← hc.out] at hN ⊢; have hF := Five.new_at w1 c.root (.slice na c.nodes.length nc) 27 w1.heap.size rfl; have hO2 := owns_two (w1.alloc (.cells #[.int .i64 c.root.kind, .int .i64 c.root.num, .string c.root.text, .int .i64 c.root.node, .slice na c.nodes.length nc] 27)) (w1.heap.size + 1) (by simp); rw [show (w1.alloc (.cells #[.int .i64 c.root.kind, .int .i64 c.root.num, .string c.root.text, .int .i64 c.root.node, .slice na c.nodes.length nc] 27)).heap.size = w1.heap.size + 1 by simp] at hO2)
    | (go_at_call 127; refine (l2num_any (w1.heap.size + 1) _ _ _ [72, 49] c.nodes.length _ _ rfl ?_ (by omega) (by simp) (by simp) hO2).mono ?_; (first | rfl | exact e6); rintro e w3 ⟨oa3, cap3, rfl, hQ3⟩; obtain ⟨l3, hl3⟩ := hid_ex ([72, 49] ++ numB c.nodes.length).length; rw [← hl3.out]; have hF3 := (hF.kept (Kept.of_below (gal (gre _) _) (fun _ => False)) (fun e => e)).kept hQ3.kept (fun e => by have := some_addr e; omega); obtain ⟨gz, g0, g1, g2, g3, g4, gf⟩ := id hF3; have hs3 := hQ3.kept.size; simp only [World.size_alloc] at hs3)
    | (go_at_call 128; refine (l2val_any (w1.heap.size + 1) c.nodes.length _ _ _ ([72, 49] ++ numB c.nodes.length) c.root _ hl3.out hl300 hcO.root hroot (by omega) (by simp only [List.length_append, List.length_cons, List.length_nil]; omega) hQ3.own).mono ?_; rintro e w4 ⟨oa4, cap4, rfl, hQ4⟩; obtain ⟨l4, hl4⟩ := hid_ex ([72, 49] ++ numB c.nodes.length ++ valB c.root).length; rw [← hl4.out]; have hF4 := hF3.kept hQ4.kept (fun e => by have := (hQ3.lt e).1; omega); obtain ⟨iz, i0, i1, i2, i3, i4, if_⟩ := id hF4))
  have hR4 := hQ3.call hQ4
  obtain ⟨W2, hB12, hW2s, hR⟩ : ∃ W2, Below w1.heap.size w1 W2 ∧ w1.heap.size + 2 ≤ W2.heap.size ∧ Ob W2 (w1.heap.size + 1) (some ⟨w1.heap.size + 1, 0, none⟩) w4 oa4 cap4 (gheadB c) := ⟨_, gal (gal (gre _) _) _, by simp, by have e : [72, 49] ++ numB c.nodes.length ++ valB c.root = gheadB c := (by unfold gheadB; simp only [List.append_assoc]); rw [← e]; exact hR4⟩
  have hl4' : Hid (l4 = (gheadB c).length) := by show _ = _; rw [hl4.out]; unfold gheadB; simp only [List.append_assoc]
  have hw01 : Below w.heap.size w w1 := gca (gal (gre _) _) hb1
  clear hR4 hQ3 hQ4 hF hF3 hF4 hO2 gz g0 g1 g2 g3 g4 gf iz i0 i1 i2 i3 i4 if_ hb1 hl4 hl3 hs3
  go_loopw [4, 25] (fun o i ws => ∃ (k : Nat) (zs : List Nat) (oa1 : Option Addr) (cap1 : Nat), o = .slice oa1 zs.length cap1 ∧ i = .int .i64 k ∧ k ≤ c.nodes.length ∧ Hid (zs = gheadB c ++ nodesB (c.nodes.take k)) ∧ Ob W2 (w1.heap.size + 1) (some ⟨w1.heap.size + 1, 0, none⟩) ws oa1 cap1 zs) (fun _ i _ => c.nodes.length - (intOf i).toNat)
  case atStart => exact ⟨0, gheadB c, oa4, cap4, by rw [hl4'.out], rfl, Nat.zero_le _, by show _ = _; rw [List.take_zero, nodesB, List.append_nil], hR⟩
  case round =>
    obtain ⟨k, zs, oa1, cap1, rfl, rfl, hk, hzs, hOb⟩ := hrel
    have hBs := hOb.back hB12 (by omega)
    have hsz := hBs.size
    have hsz0 := hOb.kept.size
    by_cases hkl : k < c.nodes.length
    · obtain ⟨n, bn, off, va, vc, hnk, hnm, rfl, hbn, hnat⟩ := hN.get hkl
      have hnat2 := hnat.below hBs hbn
      have c0 := hnat2.tag
      have c1 := hnat2.sl
      have hvals := hnat.vals
      have hnok := hnodes n hnm
      have hnO := hcO.nodes n hnm
      obtain ⟨hvl, hvok⟩ := okN_parts hnok
      obtain ⟨ht0, ht1⟩ := okN_tag hnok
      obtain ⟨tg, htg⟩ : ∃ tg : Nat, n.tag = (tg : Int) := ⟨n.tag.toNat, by omega⟩
      have hnb : Hid (nodesB (c.nodes.take (k + 1)) = nodesB (c.nodes.take k) ++ (numB tg ++ (numB n.vals.length ++ valsB n.vals))) := by
        show _ = _
        rw [nodesB_take_succ _ _ hkl, ← hnk.out, nodeB, htg]; rfl
      have hnle : (nodesB (c.nodes.take (k + 1))).length ≤ (nodesB c.nodes).length := nodesB_take_le _ _
      rw [hnb.out] at hnle
      simp only [List.length_append] at hnle
      have hzl : zs.length ≤ 40000000 - ((numB tg).length + ((numB n.vals.length).length + (valsB n.vals).length)) := by rw [hzs.out, List.length_append]; omega
      have hzl2 : (numB tg).length + ((numB n.vals.length).length + (valsB n.vals).length) ≤ 40000000 := by omega
      rw [htg] at c0
      have hT := Two.new_at wr tg (.slice va n.vals.length vc) 84 wr.heap.size rfl
      have e7 := wrap_nat (n := tg) (by omega)
      have e8 := wrap_nat (n := n.vals.length) (by omega)
      have hnp : ¬ (oa1 = some ⟨wr.heap.size, 0, none⟩) := fun e => by have := (hOb.lt e).2; omega
      go_wp2_with (first
        | (go_at_call 127; refine (l2num_any (w1.heap.size + 1) _ _ _ (zs ++ numB tg) n.vals.length _ _ hl5.out ?_ (by omega) (by omega) (by simp only [List.length_append]; omega) hQ5.own).mono ?_; (first | rfl | exact e8); rintro e w6 ⟨oa6, cap6, rfl, hQ6⟩; obtain ⟨l6, hl6⟩ := hid_ex (zs ++ numB tg ++ numB n.vals.length).length; rw [← hl6.out]; obtain ⟨uz, u0, u1, uf, _⟩ := hT5.kept hQ6.kept (fun e => hnp (hQ5.loc _ (by simp) e)))
        | (go_at_call 127; refine (l2num_any (w1.heap.size + 1) _ _ _ zs tg _ _ rfl ?_ (by omega) (by simp only [World.size_alloc]; omega) (by omega) (hOb.grow (gal (gre _) _)).own).mono ?_; (first | rfl | exact e7); rintro e w5 ⟨oa5, cap5, rfl, hQ5⟩; obtain ⟨l5, hl5⟩ := hid_ex (zs ++ numB tg).length; rw [← hl5.out]; have hT5 := hT.kept hQ5.kept hnp; obtain ⟨tz, t0, t1, tf, _⟩ := id hT5; have hs5 := hQ5.kept.size; simp only [World.size_alloc] at hs5))
      have hR6 := ((hOb.grow (gal (gre _) _)).call hQ5).call hQ6
      clear hT hT5 tz t0 t1 tf uz u0 u1 uf hQ5 hQ6 hl5
      go_loopw [4, 43] (fun o i ws => ∃ (m : Nat) (ys : List Nat) (oa2 : Option Addr) (cap2 : Nat), o = .slice oa2 ys.length cap2 ∧ i = .int .i64 m ∧ m ≤ n.vals.length ∧ Hid (ys = zs ++ numB tg ++ numB n.vals.length ++ valsB (n.vals.take m)) ∧ Ob W2 (w1.heap.size + 1) (some ⟨w1.heap.size + 1, 0, none⟩) ws oa2 cap2 ys) (fun _ i _ => n.vals.length - (intOf i).toNat)
      case atStart => exact ⟨0, _, oa6, cap6, by rw [hl6.out], rfl, Nat.zero_le _, by show _ = _; rw [List.take_zero, valsB, List.append_nil], hR6⟩
      case round =>
        obtain ⟨m, ys, oa2, cap2, rfl, rfl, hm, hys, hOb2⟩ := hrel
        have hBs2 := hOb2.back hB12 (by omega)
        have hsz2 := hBs2.size
        by_cases hml : m < n.vals.length
        · obtain ⟨v, bv, ov, hvk, hvm, rfl, hbv, hvc⟩ := hvals.get hml
          obtain ⟨d0, d1, d2, d3⟩ := hvc.below hBs2 hbv
          have hvb : Hid (valsB (n.vals.take (m + 1)) = valsB (n.vals.take m) ++ valB v) := by show _ = _; rw [valsB_take_succ _ _ hml, ← hvk.out]
          have hvle : (valsB (n.vals.take (m + 1))).length ≤ (valsB n.vals).length := valsB_take_le _ _
          rw [hvb.out, List.length_append] at hvle
          have hyl : ys.length ≤ 40000000 := by rw [hys.out]; simp only [List.length_append]; omega
          go_wp2_with (go_at_call 128; refine (l2val_any (w1.heap.size + 1) c.nodes.length _ _ _ ys v _ rfl hl300 (hnO.vals v hvm) (hvok v hvm) (by simp only [World.size_alloc]; omega) (by omega) (hOb2.grow (gal (gre _) _)).own).mono ?_; rintro e w7 ⟨oa7, cap7, rfl, hQ7⟩; obtain ⟨l7, hl7⟩ := hid_ex (ys ++ valB v).length; rw [← hl7.out])
          go_roundw
          case rel => exact ⟨m + 1, ys ++ valB v, oa7, cap7, by rw [hl7.out], by go_num, by omega, by show _ = _; rw [hvb.out, ← List.append_assoc, ← hys.out], (hOb2.grow (gal (gre _) _)).call hQ7⟩
          case measure => simp [intOf]; omega
        · obtain rfl : m = n.vals.length := by omega
          have hfin : Hid (ys = gheadB c ++ nodesB (c.nodes.take (k + 1))) := by
            show _ = _
            rw [hnb.out, hys.out, List.take_length, hzs.out]
            simp only [List.append_assoc]
          go_wp2
          go_roundw
          case rel =>
            exact ⟨k + 1, ys, oa2, cap2, rfl, by go_num, by omega, hfin, hOb2⟩
          case measure => simp [intOf]; omega
    · obtain rfl : k = c.nodes.length := by omega
      have e9 : Hid (zs = graphB c) := by show _ = _; rw [hzs.out, List.take_length, hgl.out]
      have hzl : zs.length ≤ 40000000 := by rw [e9.out]; exact hglen
      go_wp2_with (first
        | (go_at_call 108; refine (l2sum_any oa1 zs cap1 _ (owns_bytesO hOb.own) (by unfold maxLen; omega) (by rw [e9.out]; exact graphB_bytes hcok)).mono ?_; rintro e w8 ⟨rfl, hb8⟩; have hOb8 := hOb.grow hb8; have hs8 := hb8.size)
        | (go_at_call 123; refine (l2eight_any (w1.heap.size + 1) _ _ _ zs (sumN zs) _ _ rfl rfl (sumN_lt _) (by omega) (by omega) hOb8.own).mono ?_; rintro e w9 ⟨oa9, cap9, rfl, hQ9⟩; obtain ⟨l9, hl9⟩ := hid_ex (zs ++ lowB 8 (sumN zs)).length; rw [← hl9.out]))
      go_ret
      have hR9 := hOb8.call hQ9
      have e10 : zs ++ lowB 8 (sumN zs) = imageB g := by unfold imageB formB; rw [← hc.out, e9.out]
      have hB9 := hR9.back hB12 (by omega)
      rw [e10] at hR9 hl9
      exact ⟨oa9, cap9, by rw [← hl9.out]; rfl, owns_le hR9.own (by have := hw01.size; omega), hw01.trans (hB9.mono hw01.size)⟩


set_option maxRecDepth 100000 in
theorem specPack_any (a : Option Addr) (cap : Nat) (g : GG) (w : World) (hg : g.Ok) (ha : NodesAt w.heap.size w a g.nodes) :
    Calls Try.prog 22 #[g.val a cap] w (PackSPost (packB g) w) := by
  have hX0 := GBox.new w g a cap 27
  cases hok : okG g with
  | false =>
    have hz : Hid (packB g = []) := if_neg (by rw [hok]; simp)
    have hok' : Hid _ := hok
    go_enter Try.func22, Try.ntmps22
    go_wp2_with (go_at_call 42; refine (specGraphOk_any a cap g _ hg (ha.grow (gal (gre _) _))).mono ?_; rintro e w1 ⟨rfl, hb1⟩; rw [hok'.out])
    go_ret
    exact ⟨none, 0, by rw [hz.out]; rfl, by rw [hz.out]; exact World.ownsRow_nil _ _ _ _, gca (gal (gre _) _) hb1⟩
  | true =>
    have hok' : Hid _ := hok
    by_cases hl : (imageB g).length ≤ 4096
    · have hz : Hid (packB g = imageB g) := if_pos ⟨hok, hl⟩
      have hd : ¬ ((4096 : Int) < ((imageB g).length : Int)) := by omega
      go_enter Try.func22, Try.ntmps22
      go_wp2_with (first
        | (go_at_call 42; refine (specGraphOk_any a cap g _ hg (ha.grow (gal (gre _) _))).mono ?_; rintro e w1 ⟨rfl, hb1⟩; obtain ⟨xz, x0, x1, x2, x3, x4⟩ := hX0.grow hb1; rw [hok'.out])
        | (go_at_call 72; refine (l2pack_any a cap g _ hg hok'.out (ha.grow (gca (gal (gre _) _) hb1))).mono ?_; rintro e w2 ⟨oa, cap2, rfl, hown, hb2⟩))
      go_ret
      exact ⟨oa, cap2, by rw [hz.out]; rfl, by rw [hz.out]; exact owns_le hown (by have := hb1.size; simp at this; omega), gca (gca (gal (gre _) _) hb1) hb2⟩
    · have hz : Hid (packB g = []) := if_neg (fun h => hl h.2)
      have hd : ((4096 : Int) < ((imageB g).length : Int)) := by omega
      go_enter Try.func22, Try.ntmps22
      go_wp2_with (first
        | (go_at_call 42; refine (specGraphOk_any a cap g _ hg (ha.grow (gal (gre _) _))).mono ?_; rintro e w1 ⟨rfl, hb1⟩; obtain ⟨xz, x0, x1, x2, x3, x4⟩ := hX0.grow hb1; rw [hok'.out])
        | (go_at_call 72; refine (l2pack_any a cap g _ hg hok'.out (ha.grow (gca (gal (gre _) _) hb1))).mono ?_; rintro e w2 ⟨oa, cap2, rfl, hown, hb2⟩))
      go_ret
      exact ⟨none, 0, by rw [hz.out]; rfl, by rw [hz.out]; exact World.ownsRow_nil _ _ _ _, gca (gca (gal (gre _) _) hb1) hb2⟩

end Go.Proofs.Ythjddpkegooobaa
