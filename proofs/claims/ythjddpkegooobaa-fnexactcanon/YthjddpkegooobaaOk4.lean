/-
  OK4: graphs that are well made: the specification's word. Own work.
-/
import Derived.Test.YthjddpkegooobaaOk3
namespace Go.Proofs.Ythjddpkegooobaa
open Go.RowKit

/-- a graph's own variable: five cells -/
structure GBox (w : World) (b : Nat) (g : GG) (a : Option Addr) (cap : Nat) : Prop where
  lt : b < w.heap.size
  kind : w.cell? ⟨b, 0, none⟩ = some (.int .i64 g.root.kind)
  num : w.cell? ⟨b, 1, none⟩ = some (.int .i64 g.root.num)
  text : w.cell? ⟨b, 2, none⟩ = some (.string g.root.text)
  node : w.cell? ⟨b, 3, none⟩ = some (.int .i64 g.root.node)
  sl : w.cell? ⟨b, 4, none⟩ = some (.slice a g.nodes.length cap)

set_option maxRecDepth 100000 in
theorem GBox.grow {w w' : World} {b : Nat} {g : GG} {a : Option Addr} {cap : Nat} (h : GBox w b g a cap) (hb : Below w.heap.size w w') : GBox w' b g a cap :=
  ⟨Nat.lt_of_lt_of_le h.lt hb.size, cell_later hb h.kind, cell_later hb h.num, cell_later hb h.text, cell_later hb h.node, cell_later hb h.sl⟩

set_option maxRecDepth 100000 in
theorem GBox.new (w : World) (g : GG) (a : Option Addr) (cap : Nat) (t : TypeId) :
    GBox (w.alloc (.cells #[.int .i64 g.root.kind, .int .i64 g.root.num, .string g.root.text, .int .i64 g.root.node, .slice a g.nodes.length cap] t)) w.heap.size g a cap :=
  ⟨by simp, by simp, by simp, by simp, by simp, by simp⟩

set_option maxHeartbeats 1000000 in
set_option maxRecDepth 100000 in
theorem specGraphOk_any (a : Option Addr) (cap : Nat) (g : GG) (w : World) (hg : g.Ok) (ha : NodesAt w.heap.size w a g.nodes) :
    Calls Try.prog 42 #[g.val a cap] w fun e w' => e = .returned (.bool (okG g)) ∧ Below w.heap.size w w' := by
  by_cases hlen : 300 < g.nodes.length
  · have hk : Hid _ := okG_long hlen
    have t0 : decide (300 < (g.nodes.length : Int)) = true := decide_eq_true (by omega)
    go_enter Try.func42, Try.ntmps42
    go_wp2
    go_ret
    exact ⟨ret_bool hk.out.symm, gal (gre _) _⟩
  · have t0 : decide (300 < (g.nodes.length : Int)) = false := decide_eq_false (by omega)
    cases hr : okV g.nodes.length g.root with
    | false =>
      have hk : Hid _ := okG_root hr
      go_enter Try.func42, Try.ntmps42
      go_wp2_with (go_at_call 99; refine (specVal_any a cap g g.root _).mono ?_; rintro e w' ⟨rfl, hb'⟩)
      go_ret
      exact ⟨ret_bool hk.out.symm, gca (gal (gre _) _) hb'⟩
    | true =>
      have hk : Hid _ := okG_nodes (by omega) hr
      go_enter Try.func42, Try.ntmps42
      go_wp2_with (go_at_call 99; refine (specVal_any a cap g g.root _).mono ?_; rintro e w' ⟨rfl, hb'⟩; obtain ⟨hc, hf⟩ := bcell hb')
      have hbx : GBox w' w.heap.size g a cap := (GBox.new w g a cap _).grow hb'
      have hB : Below w.heap.size w w' := gca (gal (gre _) _) hb'
      have hle300 : g.nodes.length ≤ 300 := by omega
      clear hc hf hb' hlen
      go_loopw [21] (fun i wr => ∃ k : Nat, k ≤ g.nodes.length ∧ i = .int .i64 k ∧ (g.nodes.take k).all (okN g.nodes.length) = true ∧ GBox wr w.heap.size g a cap ∧ Below w.heap.size w wr) (fun i _ => g.nodes.length - (intOf i).toNat)
      case atStart => exact ⟨0, Nat.zero_le _, rfl, by simp, hbx, hB⟩
      case round =>
        clear hbx hB
        obtain ⟨k, hk', rfl, hall, hbx, hb⟩ := hrel
        have hz' := hbx.lt
        by_cases hlt : k < g.nodes.length
        · obtain ⟨n, b, off, av, cv, hvk, hvm, rfl, hbs, hva⟩ := ha.get hlt
          have hva := hva.below hb hbs
          have c0 := hva.tag
          have c1 := hva.sl
          have hv1 : ValsAt wr.heap.size wr av n.vals := hva.vals.mono hb.size
          have hnl := (hg.nodes n hvm).len
          unfold maxLen at hnl
          have hall' : Hid _ := hall
          clear hall hva
          by_cases hok : 0 ≤ n.tag ∧ n.tag ≤ 1000 ∧ n.vals.length ≤ 100
          · have hkv : Hid _ := okN_vals (n := g.nodes.length) hok
            obtain ⟨h1, h2, h3⟩ := hok
            have u0 : decide (n.tag < 0) = false := decide_eq_false (by omega)
            have u1 : decide (1000 < n.tag) = false := decide_eq_false (by omega)
            have u2 : decide (100 < (n.vals.length : Int)) = false := decide_eq_false (by omega)
            go_wp2
            have hB1 : Below wr.heap.size wr (wr.alloc (.cells #[.int .i64 n.tag, .slice av n.vals.length cv] 84)) := gal (gre _) _
            go_loopw [42] (fun i ws => ∃ j : Nat, j ≤ n.vals.length ∧ i = .int .i64 j ∧ (n.vals.take j).all (okV g.nodes.length) = true ∧ Below wr.heap.size wr ws) (fun i _ => n.vals.length - (intOf i).toNat)
            case atStart => exact ⟨0, Nat.zero_le _, rfl, by simp, hB1⟩
            case round =>
              obtain ⟨j, hj, rfl, hall2, hb2⟩ := hrel
              clear hB1
              have hbx2 := hbx.grow hb2
              have hz2 := hbx2.lt
              have e0 := hbx2.kind
              have e1 := hbx2.num
              have e2 := hbx2.text
              have e3 := hbx2.node
              have e4 := hbx2.sl
              by_cases hjl : j < n.vals.length
              · obtain ⟨v, bb, oo, hvj, hvm2, rfl, hbs2, hva2⟩ := hv1.get hjl
                have hva2 := hva2.below hb2 hbs2
                have q0 := hva2.kind
                have q1 := hva2.num
                have q2 := hva2.text
                have q3 := hva2.node
                have hall2' : Hid _ := hall2
                clear hall2 hva2
                cases hr2 : okV g.nodes.length v with
                | false =>
                  have hf : Hid (g.nodes.all (okN g.nodes.length) = false) := all_false_at hlt (by rw [← hvk.out, hkv.out]; exact all_false_at hjl (by rw [← hvj.out]; exact hr2))
                  go_wp2_with (go_at_call 99; refine (specVal_any _ cap g v _).mono ?_; rintro e w'' ⟨rfl, hb''⟩)
                  go_ret
                  exact ⟨ret_bool (by rw [hk.out, hf.out]), gca (gal (gca hb hb2) _) hb''⟩
                | true =>
                  have hf : Hid ((n.vals.take (j + 1)).all (okV g.nodes.length) = true) := all_take_succ hjl hall2'.out (by rw [← hvj.out]; exact hr2)
                  go_wp2_with (go_at_call 99; refine (specVal_any _ cap g v _).mono ?_; rintro e w'' ⟨rfl, hb''⟩)
                  go_roundw
                  case rel => exact ⟨j + 1, by omega, by go_num, hf.out, gca (gal hb2 _) hb''⟩
                  case measure => simp [intOf]; omega
              · have e : j = n.vals.length := by omega
                have hf : Hid ((g.nodes.take (k + 1)).all (okN g.nodes.length) = true) := all_take_succ hlt hall'.out (by rw [← hvk.out, hkv.out]; rw [e, List.take_length] at hall2; exact hall2)
                clear hall2
                go_wp2
                go_roundw
                case rel => exact ⟨k + 1, by omega, by go_num, hf.out, hbx2, gca hb hb2⟩
                case measure => simp [intOf]; omega
          · have hkf : Hid (g.nodes.all (okN g.nodes.length) = false) := all_false_at hlt (by rw [← hvk.out]; exact okN_false (by omega))
            go_wp2
            all_goals first | (go_ret; exact ⟨ret_bool (by rw [hk.out, hkf.out]), gal hb _⟩) | (exfalso; omega)
        · have e : k = g.nodes.length := by omega
          have hall' : Hid (g.nodes.all (okN g.nodes.length) = true) := by rw [e, List.take_length] at hall; exact hall
          clear hall
          go_wp2
          go_ret
          exact ⟨ret_bool (by rw [hk.out, hall'.out]), hb⟩

end Go.Proofs.Ythjddpkegooobaa
