/-
  WR4: the program's writer: graphs. Own work.
-/
import Derived.Test.YtnbikemmnpldcabWr3
import Derived.Test.YtnbikemmnpldcabCanonI
namespace Go.Proofs.Ytnbikemmnpldcab
open Go.RowKit

set_option maxRecDepth 100000 in
theorem okN_tag {n : Nat} {x : GN} (h : okN n x = true) : 0 ≤ x.tag ∧ x.tag ≤ 1000 := by
  unfold okN at h
  simp only [Bool.and_eq_true, decide_eq_true_eq, List.all_eq_true] at h
  exact ⟨h.1.1, h.1.2.1⟩
set_option maxRecDepth 100000 in
theorem wrap_nat {n : Nat} (h : n < 18446744073709551616) : IntKind.u64.wrap (n : Int) = (n : Int) := by rw [IntKind.wrap_u64]; omega

/-- what is written when k nodes are -/
def headB (g : GG) : List Nat := [72, 49] ++ (numB g.nodes.length ++ valB g.root)
set_option maxRecDepth 100000 in
theorem graphB_head (g : GG) : graphB g = headB g ++ nodesB g.nodes := by simp [graphB, headB]

theorem OwnG.get {w : World} {base : Nat} {na : Option Addr} {nc : Nat} {nl : List NL} (h : OwnG w base na nc nl) {k : Nat} (hk : k < nl.length) :
    ∃ x G, Hid (x = nl[k]!) ∧ x ∈ nl ∧ na = some ⟨G, 0, none⟩ ∧ w.cell? ⟨G, k * 2, none⟩ = some (.int .i64 x.n.tag) ∧ w.cell? ⟨G, k * 2 + 1, none⟩ = some (.slice x.a x.n.vals.length x.cap) := by
  have hg : ∀ j, j < 2 → (nodeCells nl)[k * 2 + j]? = (nl[k]!.two)[j]? := fun j hj => flatMap_get NL.two_length nl k j hk hj
  obtain ⟨G, ha, _, _, c0⟩ := owns_cell h.nodes (hg 0 (by decide))
  obtain ⟨G1, ha1, _, _, c1⟩ := owns_cell h.nodes (hg 1 (by decide))
  rw [ha] at ha1
  obtain rfl := some_addr ha1
  exact ⟨nl[k]!, G, rfl, mem_at hk, ha, c0, c1⟩

set_option maxRecDepth 100000 in
theorem map_get {nl : List NL} {ns : List GN} (h : nl.map (·.n) = ns) {k : Nat} (hk : k < nl.length) : ns[k]! = (nl[k]!).n := by
  subst h
  rw [getElem!_pos _ k (by simpa using hk), getElem!_pos nl k hk]
  simp

set_option maxRecDepth 100000 in
theorem writeGraph_any (b a : Nat) (xs : List Nat) (g : GG) (na : Option Addr) (nc base : Nat) (nl : List NL) (w : World) (hW : Wr w b a xs) (hg : g.Ok) (hok : okG g = true) (hnl : Hid (nl.map (·.n) = g.nodes)) (hO : ∀ w', Kept (fun k => k = b ∨ k = a) w w' → OwnG w' base na nc nl) :
    Calls Try.prog 68 #[.pointer (some ⟨b, 0, none⟩), g.val na nc] w (WPost b a xs (graphB g) w) := by
  obtain ⟨hl300, hroot, hnodes⟩ := okG_parts hok
  have hF := Five.new_at w g.root (.slice na g.nodes.length nc) 33 w.heap.size rfl
  have hlt := hW.cur.lt
  have hla := hW.row.lt
  have hlen : nl.length = g.nodes.length := by rw [← hnl.out, List.length_map]
  have hgl : Hid (graphB g = headB g ++ nodesB g.nodes) := graphB_head g
  have hbH : bsOf ⟨#[72, 49]⟩ = [72, 49] := rfl
  have e6 := wrap_nat (n := g.nodes.length) (by omega)
  go_enter Try.func68, Try.ntmps68
  go_wp2_with (first
    | (go_at_call 112; refine (writeText_any b a xs ⟨#[72, 49]⟩ _ (hW.grow (gal (gre _) _)) (by decide)).mono ?_; rintro e w1 ⟨hK1, h1⟩; have hF1 := hF.kept hK1 (by omega); obtain ⟨fz, f0, f1, f2, f3, f4, ff⟩ := id hF1; rw [hbH] at h1; obtain ⟨hf, rfl, hW1⟩ | ⟨hno, rfl⟩ := h1)
    | (go_at_call 113; refine (writeNumber_any b a _ g.nodes.length _ _ hW1 ?_ (by omega)).mono ?_; (first | rfl | exact e6); rintro e w2 ⟨hK2, h2⟩; have hF2 := hF1.kept hK2 (by omega); obtain ⟨gz, g0, g1, g2, g3, g4, gf⟩ := id hF2; obtain ⟨hf2, rfl, hW2⟩ | ⟨hno2, rfl⟩ := h2)
    | (go_at_call 114; refine (writeVal_any b a g.nodes.length _ g.root _ hW2 hl300 hg.root hroot).mono ?_; rintro e w3 ⟨hK3, h3⟩; have hF3 := hF2.kept hK3 (by omega); obtain ⟨iz, i0, i1, i2, i3, i4, if_⟩ := id hF3; obtain ⟨hf3, rfl, hW3⟩ | ⟨hno3, rfl⟩ := h3))
  · have hK30 : Kept (fun k => k = b ∨ k = a) w w3 := kt (kt (kt ((Kept.refl _ w).alloc _) hK1) hK2) hK3
    have hW3' : Wr w3 b a (xs ++ headB g) := by
      have e : xs ++ [72, 49] ++ numB g.nodes.length ++ valB g.root = xs ++ headB g := by unfold headB; simp only [List.append_assoc]
      rw [← e]; exact hW3
    clear hF hF1 hF2 hF3 fz f0 f1 f2 f3 f4 ff gz g0 g1 g2 g3 g4 gf iz i0 i1 i2 i3 i4 if_ hW1 hW2 hW3 hf hf2 hf3 hK1 hK2 hK3
    go_loopw [23] (fun i ws => ∃ (k : Nat), i = .int .i64 k ∧ k ≤ g.nodes.length ∧ Wr ws b a (xs ++ headB g ++ nodesB (g.nodes.take k)) ∧ Kept (fun k => k = b ∨ k = a) w ws) (fun i _ => g.nodes.length - (intOf i).toNat)
    case atStart => exact ⟨0, rfl, Nat.zero_le _, by rw [List.take_zero, nodesB, List.append_nil]; exact hW3', hK30⟩
    case round =>
      obtain ⟨k, rfl, hk, hWk, hKk⟩ := hrel
      by_cases hkl : k < g.nodes.length
      · have hOk := hO wr hKk
        obtain ⟨⟨xn, xa, xc⟩, G, hx, hxm, rfl, c0, c1⟩ := hOk.get (k := k) (by omega)
        dsimp only at c0 c1
        have hxn : Hid (g.nodes[k]! = xn) := by show _ = _; rw [map_get hnl.out (by omega), ← hx.out]
        have hxok : okN g.nodes.length xn = true := by rw [← hxn.out]; exact hnodes _ (mem_at hkl)
        have hxg : xn.Ok := by rw [← hxn.out]; exact hg.nodes _ (mem_at hkl)
        obtain ⟨hvl, hvok⟩ := okN_parts hxok
        obtain ⟨ht0, ht1⟩ := okN_tag hxok
        obtain ⟨tg, htg⟩ : ∃ tg : Nat, xn.tag = (tg : Int) := ⟨xn.tag.toNat, by omega⟩
        have hnb : Hid (nodesB (g.nodes.take (k + 1)) = nodesB (g.nodes.take k) ++ (numB tg ++ (numB xn.vals.length ++ valsB xn.vals))) := by
          show _ = _
          rw [nodesB_take_succ _ _ hkl, hxn.out, nodeB, htg]; rfl
        have hnle : (nodesB (g.nodes.take (k + 1))).length ≤ (nodesB g.nodes).length := nodesB_take_le _ _
        rw [hnb.out] at hnle
        simp only [List.length_append] at hnle
        have hgl2 : (graphB g).length = (headB g).length + (nodesB g.nodes).length := by rw [hgl.out, List.length_append]
        rw [htg] at c0
        have hT := Two.new_at wr tg (.slice xa xn.vals.length xc) 110 wr.heap.size rfl
        have e7 := wrap_nat (n := tg) (by omega)
        have e8 := wrap_nat (n := xn.vals.length) (by omega)
        have hwb : b ≠ wr.heap.size := by have := hWk.cur.lt; omega
        have hwa : a ≠ wr.heap.size := by have := hWk.row.lt; omega
        have hnp : ¬ (wr.heap.size = b ∨ wr.heap.size = a) := by omega
        go_wp2_with (first
          | (go_at_call 113; refine (writeNumber_any b a _ xn.vals.length _ _ hW4 ?_ (by omega)).mono ?_; (first | rfl | exact e8); rintro e w5 ⟨hK5, h5⟩; obtain ⟨uz, u0, u1, uf, _⟩ := hT4.kept hK5 hnp; obtain ⟨hf5, rfl, hW5⟩ | ⟨hno5, rfl⟩ := h5)
          | (go_at_call 113; refine (writeNumber_any b a _ tg _ _ (hWk.grow (gal (gre _) _)) ?_ (by omega)).mono ?_; (first | rfl | exact e7); rintro e w4 ⟨hK4, h4⟩; have hT4 := hT.kept hK4 hnp; obtain ⟨tz, t0, t1, tf, _⟩ := id hT4; obtain ⟨hf4, rfl, hW4⟩ | ⟨hno4, rfl⟩ := h4))
        · have hK50 : Kept (fun k => k = b ∨ k = a) w w5 := kt (kt (hKk.alloc _) hK4) hK5
          clear hT hT4 tz t0 t1 tf uz u0 u1 uf hK4 hK5 hW4 hf4 hf5
          go_loopw [41] (fun i ws => ∃ (m : Nat), i = .int .i64 m ∧ m ≤ xn.vals.length ∧ Wr ws b a (xs ++ headB g ++ nodesB (g.nodes.take k) ++ numB tg ++ numB xn.vals.length ++ valsB (xn.vals.take m)) ∧ Kept (fun k => k = b ∨ k = a) w ws) (fun i _ => xn.vals.length - (intOf i).toNat)
          case atStart => exact ⟨0, rfl, Nat.zero_le _, by rw [List.take_zero, valsB, List.append_nil]; exact hW5, hK50⟩
          case round =>
            obtain ⟨m, rfl, hm, hWm, hKm⟩ := hrel
            by_cases hml : m < xn.vals.length
            · have hOm := hO wr hKm
              have hva := owns_vals (hOm.vals _ hxm) (Nat.le_refl _)
              obtain ⟨v, bv, ov, hvk, hvm, rfl, hbv, hvc⟩ := hva.get hml
              obtain ⟨d0, d1, d2, d3⟩ := hvc
              have hvb : Hid (valsB (xn.vals.take (m + 1)) = valsB (xn.vals.take m) ++ valB v) := by show _ = _; rw [valsB_take_succ _ _ hml, ← hvk.out]
              have hvle : (valsB (xn.vals.take (m + 1))).length ≤ (valsB xn.vals).length := valsB_take_le _ _
              rw [hvb.out, List.length_append] at hvle
              go_wp2_with (go_at_call 114; refine (writeVal_any b a g.nodes.length _ v _ (hWm.grow (gal (gre _) _)) hl300 (hxg.vals v hvm) (hvok v hvm)).mono ?_; rintro e w6 ⟨hK6, h6⟩; obtain ⟨hf6, rfl, hW6⟩ | ⟨hno6, rfl⟩ := h6)
              · go_roundw
                case rel => exact ⟨m + 1, by go_num, by omega, by rw [hvb.out, ← List.append_assoc]; exact hW6, kt (hKm.alloc _) hK6⟩
                case measure => simp [intOf]; omega
              · refine ⟨rfl, WPost.no (kt (hKm.alloc _) hK6) ?_⟩
                simp at hno6; omega
            · obtain rfl : m = xn.vals.length := by omega
              go_wp2
              go_roundw
              case rel =>
                refine ⟨k + 1, by go_num, by omega, ?_, hKm⟩
                rw [List.take_length] at hWm
                rw [hnb.out]
                simp only [← List.append_assoc]
                exact hWm
              case measure => simp [intOf]; omega
        · refine ⟨rfl, WPost.no (kt (kt (hKk.alloc _) hK4) hK5) ?_⟩
          simp at hno5; omega
        · refine ⟨rfl, WPost.no (kt (hKk.alloc _) hK4) ?_⟩
          simp at hno4; omega
      · obtain rfl : k = g.nodes.length := by omega
        go_wp2
        go_end0
        refine WPost.ok hKk ?_
        rw [List.take_length, List.append_assoc, ← hgl.out] at hWk
        exact hWk
  · refine ⟨rfl, WPost.no (kt (kt (kt ((Kept.refl _ w).alloc _) hK1) hK2) hK3) ?_⟩
    rw [hgl.out]; simp [headB] at hno3 ⊢; omega
  · refine ⟨rfl, WPost.no (kt (kt ((Kept.refl _ w).alloc _) hK1) hK2) ?_⟩
    rw [hgl.out]; simp [headB] at hno2 ⊢; omega
  · refine ⟨rfl, WPost.no (kt ((Kept.refl _ w).alloc _) hK1) ?_⟩
    rw [hgl.out]; simp [headB] at hno ⊢; omega

end Go.Proofs.Ytnbikemmnpldcab
