import Derived.Laws.BitsAllLaws
import Derived.Lib.AppendStr
import Derived.Test.YthjddpkegooobabPartPkE

/-
  WR4: the program's writer: graphs. Own work.
-/
namespace Go.Proofs.Ythjddpkegooobab
open Go.RowKit

set_option maxRecDepth 100000 in
theorem okN_tag {n : Nat} {x : GN} (h : okN n x = true) : 0 ≤ x.tag ∧ x.tag ≤ 1000 := by
  unfold okN at h
  simp only [Bool.and_eq_true, decide_eq_true_eq, List.all_eq_true] at h
  exact ⟨h.1.1, h.1.2.1⟩
set_option maxRecDepth 100000 in
theorem wrap_nat {n : Nat} (h : n < 18446744073709551616) : IntKind.u64.wrap (n : Int) = (n : Int) := by rw [IntKind.wrap_u64]; omega

/-- what is written when k nodes are -/
def gheadB (g : GG) : List Nat := [72, 49] ++ (numB g.nodes.length ++ valB g.root)
set_option maxRecDepth 100000 in
theorem graphB_head (g : GG) : graphB g = gheadB g ++ nodesB g.nodes := by simp [graphB, gheadB]

theorem OwnG.get {w : World} {base : Nat} {na : Option Addr} {nc : Nat} {nl : List NL} (h : OwnG w base na nc nl) {k : Nat} (hk : k < nl.length) :
    ∃ x G, Hid (x = nl[k]!) ∧ x ∈ nl ∧ na = some ⟨G, 0, none⟩ ∧ w.cell? ⟨G, k * 2, none⟩ = some (.int .i64 x.n.tag) ∧ w.cell? ⟨G, k * 2 + 1, none⟩ = some (.slice x.a x.n.vals.length x.cap) := by
  have hg : ∀ j, j < 2 → (nodeCells nl)[k * 2 + j]? = (nl[k]!.two)[j]? := fun j hj => flatMap_get NL.two_length nl k j hk hj
  obtain ⟨G, ha, _, _, c0⟩ := owns_cell h.nodes (hg 0 (by decide))
  obtain ⟨G1, ha1, _, _, c1⟩ := owns_cell h.nodes (hg 1 (by decide))
  rw [ha] at ha1
  obtain rfl := some_addr ha1
  exact ⟨nl[k]!, G, rfl, mem_at hk, ha, c0, c1⟩

set_option maxRecDepth 100000 in
theorem map_get {nl : List NL} {ns : List GN} (h : nl.map (·.n) = ns) {k : Nat} (hk : k < nl.length) : ns[k]! = (nl[k]!).n := by
  subst h
  rw [getElem!_pos _ k (by simpa using hk), getElem!_pos nl k hk]
  simp

set_option maxRecDepth 100000 in
theorem writeGraph_any (b a : Nat) (xs : List Nat) (g : GG) (na : Option Addr) (nc base : Nat) (nl : List NL) (w : World) (hW : Wr w b a xs) (hg : g.Ok) (hok : okG g = true) (hnl : Hid (nl.map (·.n) = g.nodes)) (hO : ∀ w', Kept (fun k => k = b ∨ k = a) w w' → OwnG w' base na nc nl) :
    Calls Try.prog 75 #[.pointer (some ⟨b, 0, none⟩), g.val na nc] w (WPost b a xs (graphB g) w) := by
  obtain ⟨hl300, hroot, hnodes⟩ := okG_parts hok
  have hF := Five.new_at w g.root (.slice na g.nodes.length nc) 33 w.heap.size rfl
  have hlt := hW.cur.lt
  have hla := hW.row.lt
  have hlen : nl.length = g.nodes.length := by rw [← hnl.out, List.length_map]
  have hgl : Hid (graphB g = gheadB g ++ nodesB g.nodes) := graphB_head g
  have hbH : bsOf ⟨#[72, 49]⟩ = [72, 49] := rfl
  have e6 := wrap_nat (n := g.nodes.length) (by omega)
  go_enter Try.func75, Try.ntmps75
  go_wp2_with (first
    | (go_at_call 118; refine (writeText_any b a xs ⟨#[72, 49]⟩ _ (hW.grow (gal (gre _) _)) (by decide)).mono ?_; rintro e w1 ⟨hK1, h1⟩; have hF1 := hF.kept hK1 (by omega); obtain ⟨fz, f0, f1, f2, f3, f4, ff⟩ := id hF1; rw [hbH] at h1; obtain ⟨hf, rfl, hW1⟩ | ⟨hno, rfl⟩ := h1)
    | (go_at_call 135; refine (writeNumber_any b a _ g.nodes.length _ _ hW1 ?_ (by omega)).mono ?_; (first | rfl | exact e6); rintro e w2 ⟨hK2, h2⟩; have hF2 := hF1.kept hK2 (by omega); obtain ⟨gz, g0, g1, g2, g3, g4, gf⟩ := id hF2; obtain ⟨hf2, rfl, hW2⟩ | ⟨hno2, rfl⟩ := h2)
    | (go_at_call 136; refine (writeVal_any b a g.nodes.length _ g.root _ hW2 hl300 hg.root hroot).mono ?_; rintro e w3 ⟨hK3, h3⟩; have hF3 := hF2.kept hK3 (by omega); obtain ⟨iz, i0, i1, i2, i3, i4, if_⟩ := id hF3; obtain ⟨hf3, rfl, hW3⟩ | ⟨hno3, rfl⟩ := h3))
  · have hK30 : Kept (fun k => k = b ∨ k = a) w w3 := kt (kt (kt ((Kept.refl _ w).alloc _) hK1) hK2) hK3
    have hW3' : Wr w3 b a (xs ++ gheadB g) := by
      have e : xs ++ [72, 49] ++ numB g.nodes.length ++ valB g.root = xs ++ gheadB g := by unfold gheadB; simp only [List.append_assoc]
      rw [← e]; exact hW3
    clear hF hF1 hF2 hF3 fz f0 f1 f2 f3 f4 ff gz g0 g1 g2 g3 g4 gf iz i0 i1 i2 i3 i4 if_ hW1 hW2 hW3 hf hf2 hf3 hK1 hK2 hK3
    go_loopw [23] (fun i ws => ∃ (k : Nat), i = .int .i64 k ∧ k ≤ g.nodes.length ∧ Wr ws b a (xs ++ gheadB g ++ nodesB (g.nodes.take k)) ∧ Kept (fun k => k = b ∨ k = a) w ws) (fun i _ => g.nodes.length - (intOf i).toNat)
    case atStart => exact ⟨0, rfl, Nat.zero_le _, by rw [List.take_zero, nodesB, List.append_nil]; exact hW3', hK30⟩
    case round =>
      obtain ⟨k, rfl, hk, hWk, hKk⟩ := hrel
      by_cases hkl : k < g.nodes.length
      · have hOk := hO wr hKk
        obtain ⟨⟨xn, xa, xc⟩, G, hx, hxm, rfl, c0, c1⟩ := hOk.get (k := k) (by omega)
        dsimp only at c0 c1
        have hxn : Hid (g.nodes[k]! = xn) := by show _ = _; rw [map_get hnl.out (by omega), ← hx.out]
        have hxok : okN g.nodes.length xn = true := by rw [← hxn.out]; exact hnodes _ (mem_at hkl)
        have hxg : xn.Ok := by rw [← hxn.out]; exact hg.nodes _ (mem_at hkl)
        obtain ⟨hvl, hvok⟩ := okN_parts hxok
        obtain ⟨ht0, ht1⟩ := okN_tag hxok
        obtain ⟨tg, htg⟩ : ∃ tg : Nat, xn.tag = (tg : Int) := ⟨xn.tag.toNat, by omega⟩
        have hnb : Hid (nodesB (g.nodes.take (k + 1)) = nodesB (g.nodes.take k) ++ (numB tg ++ (numB xn.vals.length ++ valsB xn.vals))) := by
          show _ = _
          rw [nodesB_take_succ _ _ hkl, hxn.out, nodeB, htg]; rfl
        have hnle : (nodesB (g.nodes.take (k + 1))).length ≤ (nodesB g.nodes).length := nodesB_take_le _ _
        rw [hnb.out] at hnle
        simp only [List.length_append] at hnle
        have hgl2 : (graphB g).length = (gheadB g).length + (nodesB g.nodes).length := by rw [hgl.out, List.length_append]
        rw [htg] at c0
        have hT := Two.new_at wr tg (.slice xa xn.vals.length xc) 116 wr.heap.size rfl
        have e7 := wrap_nat (n := tg) (by omega)
        have e8 := wrap_nat (n := xn.vals.length) (by omega)
        have hwb : b ≠ wr.heap.size := by have := hWk.cur.lt; omega
        have hwa : a ≠ wr.heap.size := by have := hWk.row.lt; omega
        have hnp : ¬ (wr.heap.size = b ∨ wr.heap.size = a) := by omega
        go_wp2_with (first
          | (go_at_call 135; refine (writeNumber_any b a _ xn.vals.length _ _ hW4 ?_ (by omega)).mono ?_; (first | rfl | exact e8); rintro e w5 ⟨hK5, h5⟩; obtain ⟨uz, u0, u1, uf, _⟩ := hT4.kept hK5 hnp; obtain ⟨hf5, rfl, hW5⟩ | ⟨hno5, rfl⟩ := h5)
          | (go_at_call 135; refine (writeNumber_any b a _ tg _ _ (hWk.grow (gal (gre _) _)) ?_ (by omega)).mono ?_; (first | rfl | exact e7); rintro e w4 ⟨hK4, h4⟩; have hT4 := hT.kept hK4 hnp; obtain ⟨tz, t0, t1, tf, _⟩ := id hT4; obtain ⟨hf4, rfl, hW4⟩ | ⟨hno4, rfl⟩ := h4))
        · have hK50 : Kept (fun k => k = b ∨ k = a) w w5 := kt (kt (hKk.alloc _) hK4) hK5
          clear hT hT4 tz t0 t1 tf uz u0 u1 uf hK4 hK5 hW4 hf4 hf5
          go_loopw [41] (fun i ws => ∃ (m : Nat), i = .int .i64 m ∧ m ≤ xn.vals.length ∧ Wr ws b a (xs ++ gheadB g ++ nodesB (g.nodes.take k) ++ numB tg ++ numB xn.vals.length ++ valsB (xn.vals.take m)) ∧ Kept (fun k => k = b ∨ k = a) w ws) (fun i _ => xn.vals.length - (intOf i).toNat)
          case atStart => exact ⟨0, rfl, Nat.zero_le _, by rw [List.take_zero, valsB, List.append_nil]; exact hW5, hK50⟩
          case round =>
            obtain ⟨m, rfl, hm, hWm, hKm⟩ := hrel
            by_cases hml : m < xn.vals.length
            · have hOm := hO wr hKm
              have hva := owns_vals (hOm.vals _ hxm) (Nat.le_refl _)
              obtain ⟨v, bv, ov, hvk, hvm, rfl, hbv, hvc⟩ := hva.get hml
              obtain ⟨d0, d1, d2, d3⟩ := hvc
              have hvb : Hid (valsB (xn.vals.take (m + 1)) = valsB (xn.vals.take m) ++ valB v) := by show _ = _; rw [valsB_take_succ _ _ hml, ← hvk.out]
              have hvle : (valsB (xn.vals.take (m + 1))).length ≤ (valsB xn.vals).length := valsB_take_le _ _
              rw [hvb.out, List.length_append] at hvle
              go_wp2_with (go_at_call 136; refine (writeVal_any b a g.nodes.length _ v _ (hWm.grow (gal (gre _) _)) hl300 (hxg.vals v hvm) (hvok v hvm)).mono ?_; rintro e w6 ⟨hK6, h6⟩; obtain ⟨hf6, rfl, hW6⟩ | ⟨hno6, rfl⟩ := h6)
              · go_roundw
                case rel => exact ⟨m + 1, by go_num, by omega, by rw [hvb.out, ← List.append_assoc]; exact hW6, kt (hKm.alloc _) hK6⟩
                case measure => simp [intOf]; omega
              · refine ⟨rfl, WPost.no (kt (hKm.alloc _) hK6) ?_⟩
                simp at hno6; omega
            · obtain rfl : m = xn.vals.length := by omega
              go_wp2
              go_roundw
              case rel =>
                refine ⟨k + 1, by go_num, by omega, ?_, hKm⟩
                rw [List.take_length] at hWm
                rw [hnb.out]
                simp only [← List.append_assoc]
                exact hWm
              case measure => simp [intOf]; omega
        · refine ⟨rfl, WPost.no (kt (kt (hKk.alloc _) hK4) hK5) ?_⟩
          simp at hno5; omega
        · refine ⟨rfl, WPost.no (kt (hKk.alloc _) hK4) ?_⟩
          simp at hno4; omega
      · obtain rfl : k = g.nodes.length := by omega
        go_wp2
        go_end0
        refine WPost.ok hKk ?_
        rw [List.take_length, List.append_assoc, ← hgl.out] at hWk
        exact hWk
  · refine ⟨rfl, WPost.no (kt (kt (kt ((Kept.refl _ w).alloc _) hK1) hK2) hK3) ?_⟩
    rw [hgl.out]; simp [gheadB] at hno3 ⊢; omega
  · refine ⟨rfl, WPost.no (kt (kt ((Kept.refl _ w).alloc _) hK1) hK2) ?_⟩
    rw [hgl.out]; simp [gheadB] at hno2 ⊢; omega
  · refine ⟨rfl, WPost.no (kt ((Kept.refl _ w).alloc _) hK1) ?_⟩
    rw [hgl.out]; simp [gheadB] at hno ⊢; omega

end Go.Proofs.Ythjddpkegooobab

/-
  SUM: sums of bytes. Own work.
-/
namespace Go.Proofs.Ythjddpkegooobab
open Go.RowKit

set_option maxRecDepth 100000 in
theorem sum_bits (h x : Nat) (hh : h < 18446744073709551616) (hx : x < 256) : IntKind.u64.wrap (bits .xor .u64 (h : Int) (x : Int) * 1099511628211) = (sumStep h x : Int) := by
  rw [u64_xor_nat h x hh (by omega), IntKind.wrap_u64]
  unfold sumStep
  omega

set_option maxRecDepth 100000 in
theorem implSumOf_any (a : Option Addr) (bs : List Nat) (cap : Nat) (w : World) (ha : BytesAt w a bs) (hl : bs.length ≤ maxLen) (hx : ∀ x, x ∈ bs → x < 256) :
    Calls Try.prog 78 #[.slice a bs.length cap] w fun e w' => e = .returned (.int .i64 (wrap64 (sumN bs : Int))) ∧ Below w.heap.size w w' := by
  unfold maxLen at hl
  go_enter Try.func78, Try.ntmps78
  go_wp2
  go_loopw [3, 8] (fun s i ws => ∃ (k h : Nat), i = .int .i64 k ∧ s = .int .u64 h ∧ k ≤ bs.length ∧ Hid (h = sumN (bs.take k)) ∧ Below w.heap.size w ws) (fun _ i _ => bs.length - (intOf i).toNat)
  case atStart => exact ⟨0, _, rfl, rfl, Nat.zero_le _, rfl, gre _⟩
  case round =>
    obtain ⟨k, h, rfl, rfl, hk, hh, hb⟩ := hrel
    by_cases hlt : k < bs.length
    · obtain ⟨x, b, off, hxk, hxm, rfl, hc⟩ := (ha.grow hb).get hlt
      have e0 : IntKind.u64.wrap (x : Int) = (x : Int) := by have := hx x hxm; rw [IntKind.wrap_u64]; omega
      have e1 := sum_bits h x (by rw [hh.out]; exact sumN_lt _) (hx x hxm)
      have e2 : Hid (sumStep h x = sumN (bs.take (k + 1))) := by show _ = _; rw [sumN_take_succ _ _ hlt, ← hxk.out, ← hh.out]
      go_wp2
      go_roundw
      case rel => exact ⟨k + 1, sumStep h x, by go_num, rfl, by omega, e2, hb⟩
      case measure => simp [intOf]; omega
    · obtain rfl : k = bs.length := by omega
      have e1 : Hid (sumN bs = h) := by show _ = _; rw [hh.out, List.take_length]
      go_wp2
      go_ret
      exact ⟨by rw [e1.out]; rfl, hb⟩

set_option maxRecDepth 100000 in
theorem l2sum_any (a : Option Addr) (bs : List Nat) (cap : Nat) (w : World) (ha : BytesAt w a bs) (hl : bs.length ≤ maxLen) (hx : ∀ x, x ∈ bs → x < 256) :
    Calls Try.prog 131 #[.slice a bs.length cap] w fun e w' => e = .returned (.int .u64 (sumN bs : Int)) ∧ Below w.heap.size w w' := by
  unfold maxLen at hl
  go_enter Try.func131, Try.ntmps131
  go_wp2
  go_loopw [3, 8] (fun s i ws => ∃ (k h : Nat), i = .int .i64 k ∧ s = .int .u64 h ∧ k ≤ bs.length ∧ Hid (h = sumN (bs.take k)) ∧ Below w.heap.size w ws) (fun _ i _ => bs.length - (intOf i).toNat)
  case atStart => exact ⟨0, _, rfl, rfl, Nat.zero_le _, rfl, gre _⟩
  case round =>
    obtain ⟨k, h, rfl, rfl, hk, hh, hb⟩ := hrel
    by_cases hlt : k < bs.length
    · obtain ⟨x, b, off, hxk, hxm, rfl, hc⟩ := (ha.grow hb).get hlt
      have e0 : IntKind.u64.wrap (x : Int) = (x : Int) := by have := hx x hxm; rw [IntKind.wrap_u64]; omega
      have e1 := sum_bits h x (by rw [hh.out]; exact sumN_lt _) (hx x hxm)
      have e2 : Hid (sumStep h x = sumN (bs.take (k + 1))) := by show _ = _; rw [sumN_take_succ _ _ hlt, ← hxk.out, ← hh.out]
      go_wp2
      go_roundw
      case rel => exact ⟨k + 1, sumStep h x, by go_num, rfl, by omega, e2, hb⟩
      case measure => simp [intOf]; omega
    · obtain rfl : k = bs.length := by omega
      have e1 : Hid (sumN bs = h) := by show _ = _; rw [hh.out, List.take_length]
      go_wp2
      go_ret
      exact ⟨by rw [e1.out]; rfl, hb⟩

end Go.Proofs.Ythjddpkegooobab

/-
  OB: bytes that are appended to. Own work.
-/
namespace Go.Proofs.Ythjddpkegooobab
open Go.RowKit

/-- bytes of one's own, since a world -/
structure Ob (w0 : World) (base : Nat) (oa0 : Option Addr) (w : World) (oa : Option Addr) (cap : Nat) (zs : List Nat) : Prop where
  own : w.ownsRow base 5 1 (.slice oa zs.length cap) zs.length (bcells zs)
  loc : ∀ k, k < w0.heap.size → oa = some ⟨k, 0, none⟩ → oa0 = some ⟨k, 0, none⟩
  kept : Kept (fun k => oa0 = some ⟨k, 0, none⟩) w0 w

set_option maxRecDepth 100000 in
theorem Ob.start {base : Nat} {w : World} {oa : Option Addr} {cap : Nat} {zs : List Nat} (h : w.ownsRow base 5 1 (.slice oa zs.length cap) zs.length (bcells zs)) : Ob w base oa w oa cap zs := ⟨h, fun _ _ e => e, Kept.refl _ _⟩
theorem Ob.lt {w0 w : World} {base : Nat} {oa0 oa : Option Addr} {cap : Nat} {zs : List Nat} (h : Ob w0 base oa0 w oa cap zs) {k : Nat} (e : oa = some ⟨k, 0, none⟩) : base ≤ k ∧ k < w.heap.size := h.own.lt k (by rw [e]; rfl)
theorem Ob.grow {w0 w w' : World} {base : Nat} {oa0 oa : Option Addr} {cap : Nat} {zs : List Nat} (h : Ob w0 base oa0 w oa cap zs) (hb : Below w.heap.size w w') : Ob w0 base oa0 w' oa cap zs :=
  ⟨(Kept.of_below hb (fun _ => False)).owns h.own (fun _ _ e => e), h.loc, h.kept.trans (Kept.of_below hb _) (fun _ _ e => e)⟩
set_option maxRecDepth 100000 in
theorem Ob.call {w0 w w1 : World} {base : Nat} {oa0 oa oa1 : Option Addr} {cap cap1 : Nat} {zs ys : List Nat} (h : Ob w0 base oa0 w oa cap zs) (k : Ob w base oa w1 oa1 cap1 ys) : Ob w0 base oa0 w1 oa1 cap1 ys :=
  ⟨k.own, fun b hb e => h.loc b hb (k.loc b (Nat.lt_of_lt_of_le hb h.kept.size) e), h.kept.trans k.kept (fun b hb e => h.loc b hb e)⟩
theorem Ob.push {w0 w wa w1 : World} {base : Nat} {oa0 oa : Option Addr} {cap cap1 g : Nat} {zs ys : List Nat} (h : Ob w0 base oa0 w oa cap zs) (hb : Below w.heap.size w wa)
    (hown : w1.ownsRow base 5 1 (.slice (some ⟨g, 0, none⟩) (zs.length + ys.length) cap1) (zs.length + ys.length) (bcells zs ++ bcells ys)) (hgrow : wa.grownBy w1 (Value.slice oa zs.length cap).ownBlock)
    (hat : (Value.slice oa zs.length cap).ownBlock = some g ∨ w.heap.size ≤ g) : Ob w0 base oa0 w1 (some ⟨g, 0, none⟩) cap1 (zs ++ ys) := by
  refine ⟨?_, fun k hk e => ?_, ?_⟩
  · rw [List.length_append, show bcells (zs ++ ys) = bcells zs ++ bcells ys by simp [bcells]]; exact hown
  · have e2 := some_addr e
    subst e2
    rcases hat with hg | hg
    · exact h.loc g hk (owns_addr h.own hg)
    · have := h.kept.size; omega
  · exact (h.kept.trans (Kept.of_below hb _) (fun _ _ e => e)).trans (Kept.of_grown hgrow) (fun k hk e => h.loc k hk (owns_addr h.own e))

/-- what a call leaves that appends so much -/
def APost (base : Nat) (oa : Option Addr) (xs ys : List Nat) (w : World) (e : Ending) (w' : World) : Prop :=
  ∃ oa' cap', e = .returned (.slice oa' (xs ++ ys).length cap') ∧ Ob w base oa w' oa' cap' (xs ++ ys)

set_option maxRecDepth 100000 in
theorem numB_len : ∀ (f n : Nat), n < 128 ^ f → 0 < f → (numB n).length ≤ f
  | 0, _, _, h => absurd h (Nat.lt_irrefl _)
  | f + 1, n, hn, _ => by
    by_cases h : n < 128
    · rw [numB_small h]; simp
    · rw [numB_great h]
      have hf : 0 < f := by
        rcases Nat.eq_zero_or_pos f with rfl | h2
        · simp at hn; omega
        · exact h2
      have := numB_len f (n / 128) (by rw [Nat.div_lt_iff_lt_mul (by omega)]; rw [Nat.pow_succ] at hn; exact hn) hf
      simp only [List.length_cons]
      omega
set_option maxRecDepth 100000 in
theorem numB_ten {n : Nat} (h : n < 18446744073709551616) : (numB n).length ≤ 10 := numB_len 10 n (Nat.lt_of_lt_of_le h (by decide)) (by omega)

theorem and_or128 (m : Nat) (hm : m < 18446744073709551616) : IntKind.u8.wrap (bits .or .u64 (bits .and .u64 (m : Int) 127) 128) = ((m % 128 + 128 : Nat) : Int) := by
  have e1 : bits .and .u64 (m : Int) 127 = ((m % 128 : Nat) : Int) := by
    rw [u64_and _ _ (by omega) (by omega) (by omega) (by omega)]
    have h1 : (127 : Int).toNat = 127 := rfl
    rw [h1, Int.toNat_natCast, nat_mask7]
  have e2 : bits .or .u64 ((m % 128 : Nat) : Int) 128 = ((m % 128 + 128 : Nat) : Int) := by
    rw [u64_or _ _ (by omega) (by omega) (by omega) (by omega)]
    have h1 : (128 : Int).toNat = 128 := rfl
    rw [h1, Int.toNat_natCast, Nat.or_comm, nat_join 7 128 (m % 128) (by decide) (by omega)]
    omega
  rw [e1, e2, IntKind.wrap_u8']
  omega

set_option maxRecDepth 100000 in
theorem l2num_any (base : Nat) (oa : Option Addr) (len cap : Nat) (xs : List Nat) (n : Nat) (z : Int) (w : World) (hlen : len = xs.length) (hz : z = (n : Int)) (hn : n < 18446744073709551616) (hbase : base ≤ w.heap.size) (hl : xs.length ≤ 1099511627776)
    (hO : w.ownsRow base 5 1 (.slice oa xs.length cap) xs.length (bcells xs)) :
    Calls Try.prog 128 #[.slice oa len cap, .int .u64 z] w (APost base oa xs (numB n) w) := by
  subst hz hlen
  obtain ⟨i0, hi, hz0, hz1, hz2⟩ := info_parts info_u8
  have hten := numB_ten hn
  go_enter Try.func128, Try.ntmps128
  go_wp2
  go_loopw [0, 1] (fun o i ws => ∃ (m : Nat) (ys zs : List Nat) (oa1 : Option Addr) (cap1 : Nat), o = .slice oa1 zs.length cap1 ∧ i = .int .u64 m ∧ Hid (zs = xs ++ ys) ∧ Hid (numB n = ys ++ numB m) ∧ m < 18446744073709551616 ∧ Ob w base oa ws oa1 cap1 zs) (fun _ i _ => (intOf i).toNat)
  case atStart => exact ⟨n, [], xs, oa, cap, rfl, rfl, (List.append_nil _).symm, rfl, hn, Ob.start hO⟩
  case round =>
    obtain ⟨m, ys, zs, oa1, cap1, rfl, rfl, hzs, hm, hm64, hOb⟩ := hrel
    have hyl : zs.length ≤ xs.length + 10 := by
      have h1 := congrArg List.length hm.out
      rw [hzs.out]
      simp only [List.length_append] at h1 ⊢
      omega
    have hsz := hOb.kept.size
    by_cases hlt : m < 128
    · have hd : ¬ ((127 : Int) < (m : Int)) := by omega
      have e2 : IntKind.u8.wrap (m : Int) = (m : Int) := by rw [IntKind.wrap_u8']; omega
      go_wp2_with (at_builtin; refine wpList_append_lies _ rfl (.tmp 16) (.tmp 19) 28 rfl base 5 i0 (.int .u8 0) 1 1 Try.underlying28 hi hz0 hz1 hz2 rfl (by decide) _ _ _ rfl (hOb.own.alloc _) ⟨wr.heap.size, 0, none⟩ 1 1 [.int .u8 (m : Int)] rfl rfl (World.news_of_block (cs := #[.int .u8 (m : Int)]) (t := 5) (fr := (0, 0)) (blk_new_at _ _ _ (by simp))) (by simp [Value.oneCell']) (by decide) (by unfold maxLen; omega) (by omega) (by simp; omega) (wr.heap.size + 1) (by simp) ?_; intro g cap2 w1 hown1 hgrow hat hlt2)
      go_ret
      have hP := hOb.push (ys := [m]) (gal (gre _) _) hown1 hgrow (hat.elim Or.inl (fun h => Or.inr (by omega)))
      have e3 : zs ++ [m] = xs ++ numB n := by rw [hm.out, hzs.out, numB_small hlt, List.append_assoc]
      rw [e3] at hP
      exact ⟨_, cap2, by rw [← e3]; simp, hP⟩
    · have hd : ((127 : Int) < (m : Int)) := by omega
      obtain ⟨x, hx⟩ : ∃ x, Hid (x = m % 128 + 128) := ⟨_, rfl⟩
      have e2 : IntKind.u8.wrap (bits .or .u64 (bits .and .u64 (m : Int) 127) 128) = (x : Int) := by rw [hx.out]; exact and_or128 m hm64
      go_wp2_with (at_builtin; refine wpList_append_lies _ rfl (.tmp 7) (.tmp 12) 28 rfl base 5 i0 (.int .u8 0) 1 1 Try.underlying28 hi hz0 hz1 hz2 rfl (by decide) _ _ _ rfl (hOb.own.alloc _) ⟨wr.heap.size, 0, none⟩ 1 1 [.int .u8 (x : Int)] rfl rfl (World.news_of_block (cs := #[.int .u8 (x : Int)]) (t := 5) (fr := (0, 0)) (blk_new_at _ _ _ (by simp))) (by simp [Value.oneCell']) (by decide) (by unfold maxLen; omega) (by omega) (by simp; omega) (wr.heap.size + 1) (by simp) ?_; intro g cap2 w1 hown1 hgrow hat hlt2)
      have hP := hOb.push (ys := [x]) (gal (gre _) _) hown1 hgrow (hat.elim Or.inl (fun h => Or.inr (by omega)))
      go_roundw
      case rel =>
        refine ⟨m / 128, ys ++ [x], zs ++ [x], _, _, by simp, by go_num, by show _ = _; rw [hzs.out, List.append_assoc], ?_, by omega, hP⟩
        show _ = _
        rw [hm.out, numB_great hlt, hx.out]; simp
      case measure => simp [intOf]; omega

end Go.Proofs.Ythjddpkegooobab

/-
  CANONOK: the one form is of the sizes of what it comes from. Own work.
-/
namespace Go.Proofs.Ythjddpkegooobab
open Go.RowKit

theorem canonN_all {nodes : List GN} {ord0 : List Nat} {p : GN → Prop} (h0 : InvO nodes.length ord0) (hn : ∀ n, n ∈ nodes → okN nodes.length n = true) (hp : ∀ (ord : List Nat) (n : GN), InvO nodes.length ord → n ∈ nodes → p ⟨n.tag, renVals ord n.vals⟩) : ∀ (k : Nat) (n : GN), n ∈ canonN nodes ord0 k → p n
  | 0, n, hx => by unfold canonN at hx; cases hx
  | k + 1, n, hx => by
    rw [canonN_succ] at hx
    have hi := canonO_inv h0 hn k
    split at hx
    · rename_i hlt
      rcases List.mem_append.1 hx with h | h
      · exact canonN_all h0 hn hp k n h
      · rw [List.mem_singleton] at h
        rw [h]
        exact hp _ _ hi (mem_at (hi.2 _ (mem_at hlt)))
    · exact canonN_all h0 hn hp k n hx

theorem canonN_length (nodes : List GN) (ord0 : List Nat) : ∀ k, (canonN nodes ord0 k).length ≤ k
  | 0 => by unfold canonN; simp
  | k + 1 => by
    have := canonN_length nodes ord0 k
    rw [canonN_succ]
    split
    · simp; omega
    · omega

theorem canon_all {g : GG} {p : GN → Prop} (hok : okG g = true) (hp : ∀ (ord : List Nat) (n : GN), InvO g.nodes.length ord → n ∈ g.nodes → p ⟨n.tag, renVals ord n.vals⟩) : ∀ n, n ∈ (canon g).nodes → p n := fun n hn => by
  obtain ⟨_, h2, h3⟩ := okG_parts hok
  exact canonN_all ((InvO.nil _).ren h2) h3 hp g.nodes.length n hn

theorem canon_small {g : GG} (hok : okG g = true) : (canon g).nodes.length ≤ 300 ∧ ∀ n, n ∈ (canon g).nodes → n.vals.length ≤ 100 := by
  obtain ⟨h1, _, h3⟩ := okG_parts hok
  refine ⟨?_, canon_all hok (fun ord n _ hn => ?_)⟩
  · have := canonN_length g.nodes (renOrd [] g.root) g.nodes.length
    unfold canon
    simp only
    omega
  · simp only [renVals_length]
    exact (okN_parts (h3 n hn)).1

theorem renVal_ok {n : Nat} {ord : List Nat} {v : GV} (hv : v.Ok) (hk : okV n v = true) (hinv : InvO n ord) (hn : n ≤ 300) : (renVal ord v).Ok := by
  unfold renVal
  split
  · have h1 := (hinv.ren hk).le
    have h2 := List.idxOf_le_length (a := v.node.toNat) (l := renOrd ord v)
    exact ⟨hv.1, hv.2, hv.3, by unfold I64; simp only; omega⟩
  · exact hv

theorem renVals_ok {n : Nat} {ord : List Nat} {l : List GV} (hv : ∀ v, v ∈ l → v.Ok) (hk : ∀ v, v ∈ l → okV n v = true) (hinv : InvO n ord) (hn : n ≤ 300) : ∀ v, v ∈ renVals ord l → v.Ok := by
  induction l generalizing ord with
  | nil => intro v hx; unfold renVals at hx; cases hx
  | cons y r ih =>
    intro v hx
    unfold renVals at hx
    rcases List.mem_cons.1 hx with h | h
    · rw [h]; exact renVal_ok (hv y (List.mem_cons_self ..)) (hk y (List.mem_cons_self ..)) hinv hn
    · exact ih (fun z hz => hv z (List.mem_cons_of_mem _ hz)) (fun z hz => hk z (List.mem_cons_of_mem _ hz)) (hinv.ren (hk y (List.mem_cons_self ..))) v h

theorem canon_ok {g : GG} (hg : g.Ok) (hok : okG g = true) : (canon g).Ok := by
  obtain ⟨h1, h2, h3⟩ := okG_parts hok
  have hs := canon_small hok
  refine ⟨renVal_ok hg.root h2 (InvO.nil _) h1, by unfold maxLen; omega, canon_all hok (fun ord n hi hn => ?_)⟩
  have h4 := okN_parts (h3 n hn)
  exact ⟨(hg.nodes n hn).tag, by simp only [renVals_length]; exact (hg.nodes n hn).len, renVals_ok (hg.nodes n hn).vals h4.2 hi h1⟩

end Go.Proofs.Ythjddpkegooobab

/-
  CANONOK2: a graph's one form is well made. Own work.
-/
namespace Go.Proofs.Ythjddpkegooobab

theorem okV_mono {n m : Nat} {v : GV} (h : okV n v = true) (hm : n ≤ m) : okV m v = true := by
  rcases okV_cases h with rfl | ⟨k, rfl⟩ | ⟨k, rfl⟩ | ⟨t, ht, rfl⟩ | ⟨k, hk, rfl⟩
  · exact h
  · exact h
  · exact h
  · exact h
  · unfold okV at h ⊢
    simp only at h ⊢
    have h1 := of_decide_eq_true h
    exact decide_eq_true ⟨h1.1, h1.2.1, h1.2.2.1, by omega⟩

theorem mem_renOrd {ord : List Nat} {v : GV} (hk : v.kind = 4) : v.node.toNat ∈ renOrd ord v := by
  unfold renOrd
  split
  · simp
  · rename_i h
    by_cases hm : v.node.toNat ∈ ord
    · exact hm
    · exact absurd ⟨hk, hm⟩ h

theorem okV_ren {n m : Nat} {ord : List Nat} {v : GV} (h : okV n v = true) (hm : (renOrd ord v).length ≤ m) : okV m (renVal ord v) = true := by
  rcases okV_cases h with rfl | ⟨k, rfl⟩ | ⟨k, rfl⟩ | ⟨t, ht, rfl⟩ | ⟨k, hk, rfl⟩
  · exact h
  · exact h
  · exact h
  · exact h
  · have h1 : (renOrd ord ⟨4, 0, ⟨#[]⟩, (k : Int)⟩).idxOf k < (renOrd ord ⟨4, 0, ⟨#[]⟩, (k : Int)⟩).length := List.idxOf_lt_length_of_mem (mem_renOrd (v := ⟨4, 0, ⟨#[]⟩, (k : Int)⟩) rfl)
    unfold renVal
    rw [if_pos rfl]
    have h2 : okV n ⟨4, 0, ⟨#[]⟩, (k : Int)⟩ = true := h
    unfold okV at h2 ⊢
    simp only at h2 ⊢
    have h3 := of_decide_eq_true h2
    refine decide_eq_true ⟨h3.1, h3.2.1, by omega, ?_⟩
    simp only [Int.toNat_natCast]
    omega

theorem okVs_ren {n m : Nat} {ord : List Nat} {l : List GV} (h : ∀ v, v ∈ l → okV n v = true) (hm : (renOrds ord l).length ≤ m) : ∀ v, v ∈ renVals ord l → okV m v = true := by
  induction l generalizing ord with
  | nil => intro v hv; cases hv
  | cons x r ih =>
    intro v hv
    have h1 : (renOrd ord x).length ≤ (renOrds (renOrd ord x) r).length := renOrds_le _ _
    have h2 : (renOrds (renOrd ord x) r).length ≤ m := hm
    rcases List.mem_cons.1 hv with rfl | hv
    · exact okV_ren (h x (List.mem_cons_self ..)) (by omega)
    · exact ih (fun y hy => h y (List.mem_cons_of_mem _ hy)) h2 v hv

theorem okN_mk {m : Nat} {x : GN} (h1 : 0 ≤ x.tag ∧ x.tag ≤ 1000) (h2 : x.vals.length ≤ 100) (h3 : ∀ v, v ∈ x.vals → okV m v = true) : okN m x = true := by
  unfold okN
  simp only [Bool.and_eq_true, decide_eq_true_eq, List.all_eq_true]
  exact ⟨⟨h1.1, h1.2, h2⟩, h3⟩
theorem okN_tag' {n : Nat} {x : GN} (h : okN n x = true) : 0 ≤ x.tag ∧ x.tag ≤ 1000 := by
  unfold okN at h
  simp only [Bool.and_eq_true, decide_eq_true_eq, List.all_eq_true] at h
  exact ⟨h.1.1, h.1.2.1⟩
theorem okN_mono {n m : Nat} {x : GN} (h : okN n x = true) (hm : n ≤ m) : okN m x = true :=
  okN_mk (okN_tag' h) (okN_parts h).1 (fun v hv => okV_mono ((okN_parts h).2 v hv) hm)

theorem canonO_le (nodes : List GN) (ord0 : List Nat) (k : Nat) : (canonO nodes ord0 k).length ≤ (canonO nodes ord0 (k + 1)).length := by
  rw [canonO_succ]
  split
  · exact renOrds_le _ _
  · exact Nat.le_refl _
theorem canonO_mono (nodes : List GN) (ord0 : List Nat) {k m : Nat} (h : k ≤ m) : (canonO nodes ord0 k).length ≤ (canonO nodes ord0 m).length := by
  induction h with
  | refl => exact Nat.le_refl _
  | step _ ih => exact Nat.le_trans ih (canonO_le _ _ _)

theorem canonN_len (nodes : List GN) (ord0 : List Nat) : ∀ k, (canonN nodes ord0 k).length = min k (canonO nodes ord0 k).length
  | 0 => by unfold canonN; simp
  | k + 1 => by
    have ih := canonN_len nodes ord0 k
    have hle := canonO_le nodes ord0 k
    rw [canonN_succ]
    by_cases h : k < (canonO nodes ord0 k).length
    · rw [if_pos h, List.length_append, ih, List.length_singleton]
      omega
    · have e : canonO nodes ord0 (k + 1) = canonO nodes ord0 k := by rw [canonO_succ, if_neg h]
      rw [if_neg h, ih, e]
      omega

theorem canonN_ok {nodes : List GN} {ord0 : List Nat} (h0 : InvO nodes.length ord0) (hn : ∀ n, n ∈ nodes → okN nodes.length n = true) : ∀ k x, x ∈ canonN nodes ord0 k → okN (canonO nodes ord0 k).length x = true
  | 0, x, hx => by unfold canonN at hx; cases hx
  | k + 1, x, hx => by
    have hle := canonO_le nodes ord0 k
    have hinv := canonO_inv h0 hn k
    rw [canonN_succ] at hx
    by_cases h : k < (canonO nodes ord0 k).length
    · rw [if_pos h] at hx
      rcases List.mem_append.1 hx with hx | hx
      · exact okN_mono (canonN_ok h0 hn k x hx) hle
      · have e : canonO nodes ord0 (k + 1) = renOrds (canonO nodes ord0 k) (nodes[(canonO nodes ord0 k)[k]!]!).vals := by rw [canonO_succ, if_pos h]
        have hm := hn _ (mem_at (hinv.2 _ (mem_at h)))
        have ht := okN_tag' hm
        rw [List.mem_singleton.1 hx, e]
        exact okN_mk ht (by rw [renVals_length]; exact (okN_parts hm).1) (okVs_ren (okN_parts hm).2 (Nat.le_refl _))
    · rw [if_neg h] at hx
      exact okN_mono (canonN_ok h0 hn k x hx) hle

theorem canon_okG {g : GG} (hok : okG g = true) : okG (canon g) = true := by
  obtain ⟨hn, hroot, hnodes⟩ := okG_parts hok
  have h0 : InvO g.nodes.length (renOrd [] g.root) := (InvO.nil _).ren hroot
  have hlen : (canon g).nodes.length = (canonO g.nodes (renOrd [] g.root) g.nodes.length).length := by
    have h1 := canonN_len g.nodes (renOrd [] g.root) g.nodes.length
    have h2 := (canonO_inv h0 hnodes g.nodes.length).le
    show (canonN g.nodes (renOrd [] g.root) g.nodes.length).length = _
    omega
  have hr : okV (canon g).nodes.length (canon g).root = true := by
    rw [hlen]
    refine okV_ren hroot ?_
    have h1 := canonO_mono g.nodes (renOrd [] g.root) (Nat.zero_le g.nodes.length)
    rw [show canonO g.nodes (renOrd [] g.root) 0 = renOrd [] g.root by unfold canonO; rfl] at h1
    exact h1
  have ha : ∀ x, x ∈ (canon g).nodes → okN (canon g).nodes.length x = true := by
    rw [hlen]
    exact canonN_ok h0 hnodes _
  unfold okG
  simp only [Bool.and_eq_true, decide_eq_true_eq, List.all_eq_true]
  exact ⟨⟨(canon_small hok).1, hr⟩, ha⟩

/-! how long an image may be -/
theorem valB_len {n : Nat} {v : GV} (hn : n ≤ 300) (ho : v.Ok) (h : okV n v = true) : (valB v).length ≤ 1011 := by
  rcases okV_cases h with rfl | ⟨k, rfl⟩ | ⟨k, rfl⟩ | ⟨t, ht, rfl⟩ | ⟨k, hk, rfl⟩
  · show 1 ≤ 1011; omega
  · show (numB (zig k)).length + 1 ≤ 1011
    have := numB_len 10 (zig k) (Nat.lt_of_lt_of_le (zig_lt ho.num) (by decide)) (by omega)
    omega
  · show (lowB 8 (u64n k)).length + 1 ≤ 1011
    rw [lowB_length]; omega
  · show (numB t.size ++ bsOf t).length + 1 ≤ 1011
    have := numB_len 10 t.size (Nat.lt_of_le_of_lt ht (by decide)) (by omega)
    rw [List.length_append, bsOf_length]
    omega
  · show (numB k).length + 1 ≤ 1011
    have := numB_len 10 k (Nat.lt_of_lt_of_le (show k < 300 by omega) (by decide)) (by omega)
    omega
theorem valsB_len {n : Nat} {l : List GV} (hn : n ≤ 300) (ho : ∀ v, v ∈ l → v.Ok) (h : ∀ v, v ∈ l → okV n v = true) : (valsB l).length ≤ 1011 * l.length := by
  induction l with
  | nil => simp [valsB]
  | cons x r ih =>
    have h1 := valB_len hn (ho x (List.mem_cons_self ..)) (h x (List.mem_cons_self ..))
    have h2 := ih (fun v hv => ho v (List.mem_cons_of_mem _ hv)) (fun v hv => h v (List.mem_cons_of_mem _ hv))
    simp only [valsB, List.length_append, List.length_cons]
    omega
theorem nodeB_len {n : Nat} {x : GN} (hn : n ≤ 300) (ho : x.Ok) (h : okN n x = true) : (nodeB x).length ≤ 102000 := by
  have h1 := valsB_len hn ho.vals (okN_parts h).2
  have h2 := (okN_parts h).1
  have h3 := okN_tag' h
  have h4 := numB_len 10 x.tag.toNat (Nat.lt_of_le_of_lt (show x.tag.toNat ≤ 1000 by omega) (by decide)) (by omega)
  have h5 := numB_len 10 x.vals.length (Nat.lt_of_le_of_lt h2 (by decide)) (by omega)
  simp only [nodeB, List.length_append]
  omega
theorem nodesB_len {n : Nat} {l : List GN} (hn : n ≤ 300) (ho : ∀ v, v ∈ l → v.Ok) (h : ∀ v, v ∈ l → okN n v = true) : (nodesB l).length ≤ 102000 * l.length := by
  induction l with
  | nil => simp [nodesB]
  | cons x r ih =>
    have h1 := nodeB_len hn (ho x (List.mem_cons_self ..)) (h x (List.mem_cons_self ..))
    have h2 := ih (fun v hv => ho v (List.mem_cons_of_mem _ hv)) (fun v hv => h v (List.mem_cons_of_mem _ hv))
    simp only [nodesB, List.length_append, List.length_cons]
    omega
theorem graphB_len {g : GG} (ho : g.Ok) (hok : okG g = true) : (graphB g).length ≤ 40000000 := by
  obtain ⟨hn, hroot, hnodes⟩ := okG_parts hok
  have h1 := nodesB_len hn ho.nodes hnodes
  have h2 := valB_len hn ho.root hroot
  have h3 := numB_len 10 g.nodes.length (Nat.lt_of_le_of_lt hn (by decide)) (by omega)
  simp only [graphB, List.length_append, List.length_cons, List.length_nil]
  omega

end Go.Proofs.Ythjddpkegooobab

/-
  OB2: the specification's values as bytes. Own work.
-/
namespace Go.Proofs.Ythjddpkegooobab
open Go.RowKit

set_option maxRecDepth 100000 in
theorem l2eight_any (base : Nat) (oa : Option Addr) (len cap : Nat) (xs : List Nat) (n : Nat) (z : Int) (w : World) (hlen : len = xs.length) (hz : z = (n : Int)) (hn : n < 18446744073709551616) (hbase : base ≤ w.heap.size) (hl : xs.length ≤ 1099511627776)
    (hO : w.ownsRow base 5 1 (.slice oa xs.length cap) xs.length (bcells xs)) :
    Calls Try.prog 130 #[.slice oa len cap, .int .u64 z] w (APost base oa xs (lowB 8 n) w) := by
  subst hz hlen
  obtain ⟨i0, hi, hz0, hz1, hz2⟩ := info_parts info_u8
  go_enter Try.func130, Try.ntmps130
  go_wp2
  go_loopw [0, 1, 5] (fun o i c ws => ∃ (k m : Nat) (zs : List Nat) (oa1 : Option Addr) (cap1 : Nat), o = .slice oa1 zs.length cap1 ∧ i = .int .u64 m ∧ c = .int .i64 k ∧ k ≤ 8 ∧ Hid (zs = xs ++ lowB k n) ∧ Hid (m = n / 256 ^ k) ∧ zs.length ≤ xs.length + k ∧ m < 18446744073709551616 ∧ Ob w base oa ws oa1 cap1 zs) (fun _ _ c _ => 8 - (intOf c).toNat)
  case atStart => exact ⟨0, n, xs, oa, cap, rfl, rfl, rfl, by omega, (List.append_nil _).symm, by show _ = _; simp, Nat.le_refl _, hn, Ob.start hO⟩
  case round =>
    obtain ⟨k, m, zs, oa1, cap1, rfl, rfl, rfl, hk, hzs, hm, hzl, hm64, hOb⟩ := hrel
    have hsz := hOb.kept.size
    by_cases hlt : k < 8
    · have hd : (k : Int) < 8 := by omega
      obtain ⟨x, hx⟩ : ∃ x, Hid (x = m % 256) := ⟨_, rfl⟩
      have e2 : IntKind.u8.wrap (m : Int) = (x : Int) := by rw [hx.out, IntKind.wrap_u8']; omega
      go_wp2_with (at_builtin; refine wpList_append_lies _ rfl (.tmp 10) (.tmp 13) 28 rfl base 5 i0 (.int .u8 0) 1 1 Try.underlying28 hi hz0 hz1 hz2 rfl (by decide) _ _ _ rfl (hOb.own.alloc _) ⟨wr.heap.size, 0, none⟩ 1 1 [.int .u8 (x : Int)] rfl rfl (World.news_of_block (cs := #[.int .u8 (x : Int)]) (t := 5) (fr := (0, 0)) (blk_new_at _ _ _ (by simp))) (by simp [Value.oneCell']) (by decide) (by unfold maxLen; omega) (by omega) (by simp; omega) (wr.heap.size + 1) (by simp) ?_; intro g cap2 w1 hown1 hgrow hat hlt2)
      have hP := hOb.push (ys := [x]) (gal (gre _) _) hown1 hgrow (hat.elim Or.inl (fun h => Or.inr (by omega)))
      go_roundw
      case rel =>
        refine ⟨k + 1, m / 256, zs ++ [x], _, _, by simp, by go_num, by go_num, by omega, ?_, ?_, by simp; omega, by omega, hP⟩
        · show _ = _
          rw [hzs.out, lowB_snoc, hx.out, hm.out, List.append_assoc]
        · show _ = _
          rw [hm.out, Nat.div_div_eq_div_mul, Nat.pow_succ]
      case measure => simp [intOf]; omega
    · obtain rfl : k = 8 := by omega
      go_wp2
      go_ret
      have e3 := hzs.out
      subst e3
      exact ⟨_, _, rfl, hOb⟩

set_option maxRecDepth 100000 in
theorem l2signed_any (n : Int) (w : World) (hn : I64 n) :
    Calls Try.prog 165 #[.int .i64 n] w fun e w' => e = .returned (.int .u64 (zig n : Int)) ∧ Below w.heap.size w w' := by
  unfold I64 at hn
  by_cases h0 : n < 0
  · have e1 : Hid (zig n = (-2 * n - 1).toNat) := if_pos h0
    go_enter Try.func165, Try.ntmps165
    go_wp2
    go_ret
    refine ⟨ret_int ?_, gre _⟩
    rw [e1.out]
    try simp only [IntKind.wrap_u64, wrap64]
    omega
  · have e1 : Hid (zig n = (2 * n).toNat) := if_neg h0
    go_enter Try.func165, Try.ntmps165
    go_wp2
    go_ret
    refine ⟨ret_int ?_, gre _⟩
    rw [e1.out]
    try simp only [IntKind.wrap_u64, wrap64]
    omega

set_option maxRecDepth 100000 in
theorem l2val_nil (base : Nat) (oa : Option Addr) (cap : Nat) (xs : List Nat)  (w : World)  (hbase : base ≤ w.heap.size) (hl : xs.length ≤ 1099511600000)
    (hO : w.ownsRow base 5 1 (.slice oa xs.length cap) xs.length (bcells xs)) :
    Calls Try.prog 129 #[.slice oa xs.length cap, (GV.mk 0 0 ⟨#[]⟩ 0).val] w (APost base oa xs (0 :: []) w) := by
  obtain ⟨i0, hi, hz0, hz1, hz2⟩ := info_parts info_u8
  have hF := (Four.new w ⟨0, 0, ⟨#[]⟩, 0⟩ 30).alloc (.cells #[.int .u8 0] 5)
  have hn0 : ¬ ((Value.slice oa xs.length cap).ownBlock = some w.heap.size) := fun e => by have := (hO.lt _ e).2; omega
  go_enter Try.func129, Try.ntmps129
  go_wp2_with (at_builtin; refine wpList_append_lies _ rfl (.tmp 5) (.tmp 9) 28 rfl base 5 i0 (.int .u8 0) 1 1 Try.underlying28 hi hz0 hz1 hz2 rfl (by decide) _ _ _ rfl ((hO.alloc _).alloc _) ⟨w.heap.size + 1, 0, none⟩ 1 1 [.int .u8 0] rfl rfl (World.news_of_block (cs := #[.int .u8 0]) (t := 5) (fr := (0, 0)) (blk_new_at _ _ _ (by simp))) (by simp [Value.oneCell']) (by decide) (by unfold maxLen; omega) (by omega) (by simp; omega) (w.heap.size + 2) (by simp) ?_; intro g cap2 w1 hown1 hgrow hat hlt2; have hF1 := hF.kept (Kept.of_grown hgrow) hn0; obtain ⟨fz, f0, f1, f2, f3, ff⟩ := id hF1; have hP := (Ob.start hO).push (ys := [0]) (gal (gal (gre _) _) _) hown1 hgrow (hat.elim Or.inl (fun h => Or.inr (by omega))); have hs1 := hP.kept.size)
  go_ret
  exact ⟨_, _, by simp, hP⟩

set_option maxRecDepth 100000 in
theorem l2val_num (base : Nat) (oa : Option Addr) (cap : Nat) (xs : List Nat) (num : Int) (w : World) (hn : I64 num) (hbase : base ≤ w.heap.size) (hl : xs.length ≤ 1099511600000)
    (hO : w.ownsRow base 5 1 (.slice oa xs.length cap) xs.length (bcells xs)) :
    Calls Try.prog 129 #[.slice oa xs.length cap, (GV.mk 1 num ⟨#[]⟩ 0).val] w (APost base oa xs (1 :: numB (zig num)) w) := by
  obtain ⟨i0, hi, hz0, hz1, hz2⟩ := info_parts info_u8
  have hF := (Four.new w ⟨1, num, ⟨#[]⟩, 0⟩ 30).alloc (.cells #[.int .u8 1] 5)
  have hn0 : ¬ ((Value.slice oa xs.length cap).ownBlock = some w.heap.size) := fun e => by have := (hO.lt _ e).2; omega
  go_enter Try.func129, Try.ntmps129
  go_wp2_with (first
    | (at_builtin; refine wpList_append_lies _ rfl (.tmp 5) (.tmp 9) 28 rfl base 5 i0 (.int .u8 0) 1 1 Try.underlying28 hi hz0 hz1 hz2 rfl (by decide) _ _ _ rfl ((hO.alloc _).alloc _) ⟨w.heap.size + 1, 0, none⟩ 1 1 [.int .u8 1] rfl rfl (World.news_of_block (cs := #[.int .u8 1]) (t := 5) (fr := (0, 0)) (blk_new_at _ _ _ (by simp))) (by simp [Value.oneCell']) (by decide) (by unfold maxLen; omega) (by omega) (by simp; omega) (w.heap.size + 2) (by simp) ?_; intro g cap2 w1 hown1 hgrow hat hlt2; have hF1 := hF.kept (Kept.of_grown hgrow) hn0; obtain ⟨fz, f0, f1, f2, f3, ff⟩ := id hF1; have hP := (Ob.start hO).push (ys := [1]) (gal (gal (gre _) _) _) hown1 hgrow (hat.elim Or.inl (fun h => Or.inr (by omega))); have hs1 := hP.kept.size)
    | (go_at_call 165; refine (l2signed_any num _ hn).mono ?_; rintro e w2 ⟨rfl, hb2⟩; have hP2 := hP.grow hb2; have hs2 := hP2.kept.size)
    | (go_at_call 128; refine (l2num_any base _ _ _ (xs ++ [1]) (zig num) _ _ (by simp) rfl (zig_lt hn) (by omega) (by simp; omega) hP2.own).mono ?_; rintro e w3 ⟨oa3, cap3, rfl, hQ⟩))
  go_ret
  have hR := hP2.call hQ
  rw [List.append_assoc] at hR
  exact ⟨_, _, by simp, hR⟩

set_option maxRecDepth 100000 in
theorem l2val_bits (base : Nat) (oa : Option Addr) (cap : Nat) (xs : List Nat) (num : Int) (w : World)  (hbase : base ≤ w.heap.size) (hl : xs.length ≤ 1099511600000)
    (hO : w.ownsRow base 5 1 (.slice oa xs.length cap) xs.length (bcells xs)) :
    Calls Try.prog 129 #[.slice oa xs.length cap, (GV.mk 2 num ⟨#[]⟩ 0).val] w (APost base oa xs (2 :: lowB 8 (u64n num)) w) := by
  obtain ⟨i0, hi, hz0, hz1, hz2⟩ := info_parts info_u8
  have hF := (Four.new w ⟨2, num, ⟨#[]⟩, 0⟩ 30).alloc (.cells #[.int .u8 2] 5)
  have hn0 : ¬ ((Value.slice oa xs.length cap).ownBlock = some w.heap.size) := fun e => by have := (hO.lt _ e).2; omega
  have e6 : IntKind.u64.wrap num = ((u64n num : Nat) : Int) := by rw [IntKind.wrap_u64]; unfold u64n; omega
  go_enter Try.func129, Try.ntmps129
  go_wp2_with (first
    | (at_builtin; refine wpList_append_lies _ rfl (.tmp 5) (.tmp 9) 28 rfl base 5 i0 (.int .u8 0) 1 1 Try.underlying28 hi hz0 hz1 hz2 rfl (by decide) _ _ _ rfl ((hO.alloc _).alloc _) ⟨w.heap.size + 1, 0, none⟩ 1 1 [.int .u8 2] rfl rfl (World.news_of_block (cs := #[.int .u8 2]) (t := 5) (fr := (0, 0)) (blk_new_at _ _ _ (by simp))) (by simp [Value.oneCell']) (by decide) (by unfold maxLen; omega) (by omega) (by simp; omega) (w.heap.size + 2) (by simp) ?_; intro g cap2 w1 hown1 hgrow hat hlt2; have hF1 := hF.kept (Kept.of_grown hgrow) hn0; obtain ⟨fz, f0, f1, f2, f3, ff⟩ := id hF1; have hP := (Ob.start hO).push (ys := [2]) (gal (gal (gre _) _) _) hown1 hgrow (hat.elim Or.inl (fun h => Or.inr (by omega))); have hs1 := hP.kept.size)
    | (go_at_call 130; refine (l2eight_any base _ _ _ (xs ++ [2]) (u64n num) _ _ (by simp) ?_ (u64n_lt num) (by omega) (by simp; omega) hP.own).mono ?_; (first | rfl | exact e6); rintro e w3 ⟨oa3, cap3, rfl, hQ⟩))
  go_ret
  have hR := hP.call hQ
  rw [List.append_assoc] at hR
  exact ⟨_, _, by simp, hR⟩

set_option maxRecDepth 100000 in
theorem l2val_node (base : Nat) (oa : Option Addr) (cap : Nat) (xs : List Nat) (node : Nat) (w : World) (hn : node < 300) (hbase : base ≤ w.heap.size) (hl : xs.length ≤ 1099511600000)
    (hO : w.ownsRow base 5 1 (.slice oa xs.length cap) xs.length (bcells xs)) :
    Calls Try.prog 129 #[.slice oa xs.length cap, (GV.mk 4 0 ⟨#[]⟩ node).val] w (APost base oa xs (4 :: numB node) w) := by
  obtain ⟨i0, hi, hz0, hz1, hz2⟩ := info_parts info_u8
  have hF := (Four.new w ⟨4, 0, ⟨#[]⟩, node⟩ 30).alloc (.cells #[.int .u8 4] 5)
  have hn0 : ¬ ((Value.slice oa xs.length cap).ownBlock = some w.heap.size) := fun e => by have := (hO.lt _ e).2; omega
  have e6 : IntKind.u64.wrap (node : Int) = (node : Int) := by rw [IntKind.wrap_u64]; omega
  go_enter Try.func129, Try.ntmps129
  go_wp2_with (first
    | (at_builtin; refine wpList_append_lies _ rfl (.tmp 5) (.tmp 9) 28 rfl base 5 i0 (.int .u8 0) 1 1 Try.underlying28 hi hz0 hz1 hz2 rfl (by decide) _ _ _ rfl ((hO.alloc _).alloc _) ⟨w.heap.size + 1, 0, none⟩ 1 1 [.int .u8 4] rfl rfl (World.news_of_block (cs := #[.int .u8 4]) (t := 5) (fr := (0, 0)) (blk_new_at _ _ _ (by simp))) (by simp [Value.oneCell']) (by decide) (by unfold maxLen; omega) (by omega) (by simp; omega) (w.heap.size + 2) (by simp) ?_; intro g cap2 w1 hown1 hgrow hat hlt2; have hF1 := hF.kept (Kept.of_grown hgrow) hn0; obtain ⟨fz, f0, f1, f2, f3, ff⟩ := id hF1; have hP := (Ob.start hO).push (ys := [4]) (gal (gal (gre _) _) _) hown1 hgrow (hat.elim Or.inl (fun h => Or.inr (by omega))); have hs1 := hP.kept.size)
    | (go_at_call 128; refine (l2num_any base _ _ _ (xs ++ [4]) node _ _ (by simp) ?_ (by omega) (by omega) (by simp; omega) hP.own).mono ?_; (first | rfl | exact e6); rintro e w3 ⟨oa3, cap3, rfl, hQ⟩))
  go_ret
  have hR := hP.call hQ
  rw [List.append_assoc] at hR
  exact ⟨_, _, by simp, hR⟩


set_option maxRecDepth 100000 in
/-- a text's bytes appended: where they lie -/
theorem append_str_lies {P : Program} (w : World) (base : Nat) (t u ty e : TypeId) (i : TypeInfo) (ht : P.underlying t = some (.slice e)) (hu : P.underlying u = some .string) (hi : P.info? e = some i) (hz : i.zero = some (.int .u8 0))
    (hsize : i.size = 1) (hby : i.bytes = 1) (v : Value) (n : Nat) (xs : List Value) (hown : w.ownsRow base e 1 v n xs) (s : ByteArray)
    (h63 : n + s.size ≤ maxLen) (hbytes : n + s.size ≤ 140737488355328) (hbase : base ≤ w.heap.size) (hn : 0 < n) :
    ∃ g cap w', (Builtin.append_ #[t, u] ty #[v, .string s]).run P w = .ok (.slice (some ⟨g, 0, none⟩) (n + s.size) cap) w' ∧ w'.ownsRow base e 1 (.slice (some ⟨g, 0, none⟩) (n + s.size) cap) (n + s.size) (xs ++ Lib.strCells s) ∧ w.grownBy w' v.ownBlock ∧ (v.ownBlock = some g ∨ g = w.heap.size) := by
  obtain ⟨v', w', hr, h2, h3, _⟩ := Lib.run_append_own_string (P := P) w base t u ty e i ht hu hi hz hsize hby v n xs hown s h63 hbytes hbase
  obtain ⟨g, cap, rfl, _, hlt⟩ := h2.form (by omega)
  refine ⟨g, cap, w', hr, h2, h3, ?_⟩
  unfold maxLen at h63
  have hxl : xs.length = n := by simpa using hown.1
  rcases hown.2 with ⟨rfl, rfl⟩ | ⟨g0, cap0, cur, rfl, hbg, hg, hnc, hcm, hcs, htake⟩
  · omega
  · have hcs' : cur.size = cap0 := by simpa using hcs
    by_cases hroom : n + s.size ≤ cap0
    · have hr2 := Lib.run_append_room_string (P := P) w t u ty e i ht hu hi hsize g0 n cap0 cur hg s hroom (by omega)
      rw [hr] at hr2
      simp at hr2
      left
      rw [hr2.1.1]; rfl
    · have holds : ∀ j u, xs[j]? = some u → w.cell? ((⟨g0, 0, none⟩ : Addr).add j) = some u := hown.cells (g := g0) rfl
      have hr2 := Lib.run_append_grow_string (P := P) w t u ty e i (.int .u8 0) ht hu hi hz ⟨g0, 0, none⟩ n cap0 xs (by rw [hsize]; simpa using hxl) holds s (by omega) (by omega) (by rw [hby]; exact growslice_fits (by omega) (by omega))
      rw [hr] at hr2
      simp at hr2
      right
      exact hr2.1.1

end Go.Proofs.Ythjddpkegooobab
