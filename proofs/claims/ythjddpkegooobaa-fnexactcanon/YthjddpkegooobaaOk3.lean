/-
  OK3: graphs that are well made: the program's word. Own work.
-/
import Derived.Test.YthjddpkegooobaaOk2
namespace Go.Proofs.Ythjddpkegooobaa
open Go.RowKit

set_option maxRecDepth 100000 in
theorem okG_long {g : GG} (h : 300 < g.nodes.length) : okG g = false := by
  unfold okG; rw [decide_eq_false (by omega)]; rfl
theorem okG_root {g : GG} (h : okV g.nodes.length g.root = false) : okG g = false := by
  unfold okG; rw [h, Bool.and_false]; rfl
set_option maxRecDepth 100000 in
theorem okG_nodes {g : GG} (h : g.nodes.length ≤ 300) (hr : okV g.nodes.length g.root = true) : okG g = g.nodes.all (okN g.nodes.length) := by
  unfold okG; rw [decide_eq_true h, hr]; rfl

set_option maxRecDepth 100000 in
theorem implGraphOk_any (a : Option Addr) (cap : Nat) (g : GG) (w : World) (hg : g.Ok) (ha : NodesAt w.heap.size w a g.nodes) :
    Calls Try.prog 44 #[g.val a cap] w fun e w' => e = .returned (.bool (okG g)) ∧ Below w.heap.size w w' := by
  by_cases hlen : 300 < g.nodes.length
  · have hk : Hid _ := okG_long hlen
    go_enter Try.func44, Try.ntmps44
    go_wp2
    go_ret
    exact ⟨ret_bool hk.out.symm, gal (gre _) _⟩
  · have t0 : decide (300 < (g.nodes.length : Int)) = false := decide_eq_false (by omega)
    cases hr : okV g.nodes.length g.root with
    | false =>
      have hk : Hid _ := okG_root hr
      go_enter Try.func44, Try.ntmps44
      go_wp2_with (go_at_call 102; refine (implVal_any g.nodes.length g.root _).mono ?_; rintro e w' ⟨rfl, hb'⟩)
      go_ret
      exact ⟨ret_bool hk.out.symm, gca (gal (gre _) _) hb'⟩
    | true =>
      have hk : Hid _ := okG_nodes (by omega) hr
      go_enter Try.func44, Try.ntmps44
      go_wp2_with (go_at_call 102; refine (implVal_any g.nodes.length g.root _).mono ?_; rintro e w' ⟨rfl, hb'⟩; obtain ⟨hc, hf⟩ := bcell hb')
      have hz : w.heap.size < w'.heap.size := by have := hb'.size; simp at this; omega
      have hbx : w'.cell? ⟨w.heap.size, 4, none⟩ = some (.slice a g.nodes.length cap) := by rw [hc _ _ (by simp)]; simp
      have hB : Below w.heap.size w w' := gca (gal (gre _) _) hb'
      clear hc hf hb'
      go_loopw [21] (fun i wr => ∃ k : Nat, k ≤ g.nodes.length ∧ i = .int .i64 k ∧ (g.nodes.take k).all (okN g.nodes.length) = true ∧ w'.heap.size ≤ wr.heap.size ∧ wr.cell? ⟨w.heap.size, 4, none⟩ = some (.slice a g.nodes.length cap) ∧ Below w.heap.size w wr) (fun i _ => g.nodes.length - (intOf i).toNat)
      case atStart => exact ⟨0, Nat.zero_le _, rfl, by simp, Nat.le_refl _, hbx, hB⟩
      case round =>
        clear hbx hB
        obtain ⟨k, hk', rfl, hall, hsz, hbx, hb⟩ := hrel
        have hz' : w.heap.size < wr.heap.size := by omega
        by_cases hlt : k < g.nodes.length
        · obtain ⟨n, b, off, av, cv, hvk, hvm, rfl, hbs, hva⟩ := ha.get hlt
          have hva := hva.below hb hbs
          have c0 := hva.tag
          have c1 := hva.sl
          have hv1 : ValsAt wr.heap.size wr av n.vals := hva.vals.mono hb.size
          have hall' : Hid _ := hall
          clear hall
          cases hr2 : okN g.nodes.length n with
          | false =>
            have hf : Hid (g.nodes.all (okN g.nodes.length) = false) := all_false_at hlt (by rw [← hvk.out]; exact hr2)
            go_wp2_with (go_at_call 103; refine (implNode_any g.nodes.length n av cv _ (hg.nodes n hvm).len (hv1.grow (gal (gre _) _))).mono ?_; rintro e w'' ⟨rfl, hb''⟩)
            go_ret
            exact ⟨ret_bool (by rw [hk.out, hf.out]), gca (gal hb _) hb''⟩
          | true =>
            have hf : Hid ((g.nodes.take (k + 1)).all (okN g.nodes.length) = true) := all_take_succ hlt hall'.out (by rw [← hvk.out]; exact hr2)
            go_wp2_with (go_at_call 103; refine (implNode_any g.nodes.length n av cv _ (hg.nodes n hvm).len (hv1.grow (gal (gre _) _))).mono ?_; rintro e w'' ⟨rfl, hb''⟩)
            go_roundw
            case rel =>
              have hG : Below wr.heap.size wr w'' := gca (gal (gre _) _) hb''
              exact ⟨k + 1, by omega, by go_num, hf.out, Nat.le_trans hsz hG.size, cell_later hG hbx, gca (gal hb _) hb''⟩
            case measure => simp [intOf]; omega
        · have e : k = g.nodes.length := by omega
          have hall' : Hid (g.nodes.all (okN g.nodes.length) = true) := by rw [e, List.take_length] at hall; exact hall
          clear hall
          go_wp2
          go_ret
          exact ⟨ret_bool (by rw [hk.out, hall'.out]), hb⟩

end Go.Proofs.Ythjddpkegooobaa
