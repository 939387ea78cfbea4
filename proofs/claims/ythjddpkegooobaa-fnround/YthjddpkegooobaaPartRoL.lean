import Derived.Deep.Cut
import Derived.Test.YthjddpkegooobaaPartRoK

/-
  ALIKEI: the program's Alike. Own work.
-/
namespace Go.Proofs.Ythjddpkegooobaa
open Go.RowKit

section
variable {P : Program} {ops : Array Oper} {Q : Exit → Act → World → Prop} {md : Region.Mode} {S : World → Prop} {lst : Nat} {fuel : Nat} {listed : Array Bool} {a : Act} {w : World}
set_option maxRecDepth 100000 in
/-- two may come up, neither the last -/
theorem anyU_two {i j : Nat} {oi oj : Oper} (hr : Region.ready md ops listed = [i, j]) (hoi : ops[i]? = some oi) (hoj : ops[j]? = some oj)
    (h1 : ∀ K : Act → World → Prop, Shut (∀ a w, S w → anyU P md ops Q S lst fuel (listed.setIfInBounds i true) a w → K a w) → if Region.wanted oi (yielded ops a.tmps) = true then Oper.wp P oi a w K Q else K (a.put oi.dst undef) w)
    (h2 : ∀ K : Act → World → Prop, Shut (∀ a w, S w → anyU P md ops Q S lst fuel (listed.setIfInBounds j true) a w → K a w) → if Region.wanted oj (yielded ops a.tmps) = true then Oper.wp P oj a w K Q else K (a.put oj.dst undef) w) :
    anyU P md ops Q S lst (fuel + 1) listed a w := by
  refine ⟨fun h0 => (by rw [hr] at h0; cases h0), fun k hk => ?_⟩
  rw [hr] at hk
  rcases List.mem_cons.1 hk with e | hk
  · subst e; exact wpOp_step hoi (fun K' hK => h1 K' (fun a w hS hW => hK a w ⟨fun _ => hS, hW⟩))
  · obtain rfl : k = j := by simpa using hk
    exact wpOp_step hoj (fun K' hK => h2 K' (fun a w hS hW => hK a w ⟨fun _ => hS, hW⟩))
set_option maxRecDepth 100000 in
/-- three may come up, none the last -/
theorem anyU_three {i j k : Nat} {oi oj ok : Oper} (hr : Region.ready md ops listed = [i, j, k]) (hoi : ops[i]? = some oi) (hoj : ops[j]? = some oj) (hok : ops[k]? = some ok)
    (h1 : ∀ K : Act → World → Prop, Shut (∀ a w, S w → anyU P md ops Q S lst fuel (listed.setIfInBounds i true) a w → K a w) → if Region.wanted oi (yielded ops a.tmps) = true then Oper.wp P oi a w K Q else K (a.put oi.dst undef) w)
    (h2 : ∀ K : Act → World → Prop, Shut (∀ a w, S w → anyU P md ops Q S lst fuel (listed.setIfInBounds j true) a w → K a w) → if Region.wanted oj (yielded ops a.tmps) = true then Oper.wp P oj a w K Q else K (a.put oj.dst undef) w)
    (h3 : ∀ K : Act → World → Prop, Shut (∀ a w, S w → anyU P md ops Q S lst fuel (listed.setIfInBounds k true) a w → K a w) → if Region.wanted ok (yielded ops a.tmps) = true then Oper.wp P ok a w K Q else K (a.put ok.dst undef) w) :
    anyU P md ops Q S lst (fuel + 1) listed a w := by
  refine ⟨fun h0 => (by rw [hr] at h0; cases h0), fun l hl => ?_⟩
  rw [hr] at hl
  rcases List.mem_cons.1 hl with e | hl
  · subst e; exact wpOp_step hoi (fun K' hK => h1 K' (fun a w hS hW => hK a w ⟨fun _ => hS, hW⟩))
  · rcases List.mem_cons.1 hl with e | hl
    · subst e; exact wpOp_step hoj (fun K' hK => h2 K' (fun a w hS hW => hK a w ⟨fun _ => hS, hW⟩))
    · obtain rfl : l = k := by simpa using hl
      exact wpOp_step hok (fun K' hK => h3 K' (fun a w hS hW => hK a w ⟨fun _ => hS, hW⟩))
end

/-- a block that is none of the graph's -/
structure Off (p : Nat) (na : Option Addr) (nl : List NL) : Prop where
  n : ∀ b, na = some ⟨b, 0, none⟩ → b ≠ p
  v : ∀ x, x ∈ nl → ∀ b, x.a = some ⟨b, 0, none⟩ → b ≠ p
set_option maxRecDepth 100000 in
theorem OwnG.off_new {w : World} {base : Nat} {na : Option Addr} {nc : Nat} {nl : List NL} (h : OwnG w base na nc nl) {p : Nat} (hp : w.heap.size ≤ p) : Off p na nl :=
  ⟨fun b hb => by have := h.nodes.lt b (by rw [hb]; rfl); omega, fun x hx b hb => by have := (h.vals x hx).lt b (by rw [hb]; rfl); omega⟩
theorem OwnG.off_old {w : World} {base : Nat} {na : Option Addr} {nc : Nat} {nl : List NL} (h : OwnG w base na nc nl) {p : Nat} (hp : p < base) : Off p na nl :=
  ⟨fun b hb => by have := h.nodes.lt b (by rw [hb]; rfl); omega, fun x hx b hb => by have := (h.vals x hx).lt b (by rw [hb]; rfl); omega⟩
set_option maxRecDepth 100000 in
theorem OwnG.grow {w w' : World} {base : Nat} {na : Option Addr} {nc : Nat} {nl : List NL} (h : OwnG w base na nc nl) (hb : Below w.heap.size w w') : OwnG w' base na nc nl := h.kept (Kept.of_below hb (fun _ => False)) (fun _ _ e => e) (fun _ _ _ _ e => e)
theorem Five.grow {w w' : World} {b : Nat} {v : GV} {s : Value} (h : Five w b v s) (hb : Below w.heap.size w w') : Five w' b v s := h.kept (Kept.of_below hb (fun _ => False)) (fun e => e)
/-- a whole graph written into a variable of its own -/
abbrev put5 (w : World) (b : Nat) (v : GV) (s : Value) : World := ((((w.setCell ⟨b, 0, none⟩ (.int .i64 v.kind)).setCell ⟨b, 1, none⟩ (.int .i64 v.num)).setCell ⟨b, 2, none⟩ (.string v.text)).setCell ⟨b, 3, none⟩ (.int .i64 v.node)).setCell ⟨b, 4, none⟩ s
set_option maxRecDepth 100000 in
theorem Kept.put5 (w : World) (b : Nat) (v : GV) (s : Value) : Kept (fun k => k = b) w (put5 w b v s) :=
  (((((Kept.refl (fun k => k = b) w).set (fun _ => rfl) _).set (fun _ => rfl) _).set (fun _ => rfl) _).set (fun _ => rfl) _).set (fun _ => rfl) _
theorem Five.put5 {w : World} {b : Nat} {v v' : GV} {s s' : Value} (h : Five w b v s) : Five (put5 w b v' s') b v' s' := h.put.set

/-- what stands behind the two graphs' making -/
def Both (g g' : GG) (w : World) (x y : Value) (wc : World) : Prop :=
  ∃ (p q : Nat) (na : Option Addr) (nc : Nat) (na' : Option Addr) (nc' : Nat), x = ptr p ∧ y = ptr q ∧ Five wc p (canon g).root (.slice na (canon g).nodes.length nc) ∧ Five wc q (canon g').root (.slice na' (canon g').nodes.length nc') ∧
    NodesAt wc.heap.size wc na (canon g).nodes ∧ NodesAt wc.heap.size wc na' (canon g').nodes ∧ Below w.heap.size w wc

set_option maxRecDepth 100000 in
theorem Both.of {g g' : GG} {w wc : World} {p q : Nat} {na na' : Option Addr} {nc nc' : Nat} {nl nl' : List NL} {v v' : GV} {s s' : Value} (hB : Below w.heap.size w wc) (hpw : w.heap.size ≤ p) (hqw : w.heap.size ≤ q) (hpq : p ≠ q) (hP : Five wc p v s) (hR : Five wc q v' s') (hN : OwnG wc w.heap.size na nc nl) (hN' : OwnG wc w.heap.size na' nc' nl')
    (hl : nl.map (·.n) = (canon g).nodes) (hl' : nl'.map (·.n) = (canon g').nodes) (o1 : Off p na nl) (o2 : Off q na nl) (o3 : Off p na' nl') (o4 : Off q na' nl') :
    Both g g' w (ptr p) (ptr q) (put5 (put5 wc p (canon g).root (.slice na (canon g).nodes.length nc)) q (canon g').root (.slice na' (canon g').nodes.length nc')) := by
  have k1 := Kept.put5 wc p (canon g).root (.slice na (canon g).nodes.length nc)
  have k2 := Kept.put5 (put5 wc p (canon g).root (.slice na (canon g).nodes.length nc)) q (canon g').root (.slice na' (canon g').nodes.length nc')
  have n1 := ((hN.kept k1 (fun b hb => o1.n b hb) (fun x hx b hb => o1.v x hx b hb)).kept k2 (fun b hb => o2.n b hb) (fun x hx b hb => o2.v x hx b hb)).at_
  have n2 := ((hN'.kept k1 (fun b hb => o3.n b hb) (fun x hx b hb => o3.v x hx b hb)).kept k2 (fun b hb => o4.n b hb) (fun x hx b hb => o4.v x hx b hb)).at_
  rw [hl] at n1
  rw [hl'] at n2
  refine ⟨p, q, na, nc, na', nc', rfl, rfl, hP.put5.kept k2 hpq, (hR.kept k1 (Ne.symm hpq)).put5, n1, n2, ?_⟩
  exact (hB.trans (k1.below hB.size (fun k hk hp => by omega))).trans (k2.below (Nat.le_trans hB.size k1.size) (fun k hk hp => by omega))

set_option maxHeartbeats 4000000 in
set_option maxRecDepth 100000 in
theorem implAlike_any (a a' : Option Addr) (cap cap' : Nat) (g g' : GG) (w : World) (hg : g.Ok) (hg' : g'.Ok) (ha : NodesAt w.heap.size w a g.nodes) (ha' : NodesAt w.heap.size w a' g'.nodes) :
    Calls Try.prog 15 #[g.val a cap, g'.val a' cap'] w fun e w' => ∃ b, e = .returned (.bool b) ∧ (b = true ↔ AlikeP g g') ∧ Below w.heap.size w w' := by
  have hX0 := (GBox.new w g a cap 27).grow (gal (gre _) (.cells #[.int .i64 g'.root.kind, .int .i64 g'.root.num, .string g'.root.text, .int .i64 g'.root.node, .slice a' g'.nodes.length cap'] 27))
  have hY0 := GBox.new (w.alloc (.cells #[.int .i64 g.root.kind, .int .i64 g.root.num, .string g.root.text, .int .i64 g.root.node, .slice a g.nodes.length cap] 27)) g' a' cap' 27
  rw [show (w.alloc (.cells #[.int .i64 g.root.kind, .int .i64 g.root.num, .string g.root.text, .int .i64 g.root.node, .slice a g.nodes.length cap] 27)).heap.size = w.heap.size + 1 by simp] at hY0
  cases hok : okG g with
  | false =>
    have hn : Hid (¬ AlikeP g g') := fun h => by rw [h.1] at hok; cases hok
    have hok1 : Hid _ := hok
    clear hok
    go_enter Try.func15, Try.ntmps15
    go_wp2_with (go_at_call 44; refine (implGraphOk_any a cap g _ hg (ha.grow (gal (gal (gre _) _) _))).mono ?_; rintro e w1 ⟨rfl, hb1⟩; rw [hok1.out])
    go_ret
    exact ⟨false, rfl, ⟨fun h => (by cases h), fun h => absurd h hn.out⟩, gca (gal (gal (gre _) _) _) hb1⟩
  | true =>
    have hok1 : Hid _ := hok
    clear hok
    cases hok : okG g' with
    | false =>
      have hn : Hid (¬ AlikeP g g') := fun h => by rw [h.2.1] at hok; cases hok
      have hok2 : Hid _ := hok
      clear hok
      go_enter Try.func15, Try.ntmps15
      go_wp2_with (first
        | (go_at_call_of 44 (g.root.kind); refine (implGraphOk_any a cap g _ hg (ha.grow (gal (gal (gre _) _) _))).mono ?_; rintro e w1 ⟨rfl, hb1⟩; rw [hok1.out]; obtain ⟨yz, y0, y1, y2, y3, y4⟩ := hY0.grow hb1)
        | (go_at_call_of 44 (g'.root.kind); refine (implGraphOk_any a' cap' g' _ hg' (ha'.grow (gca (gal (gal (gre _) _) _) hb1))).mono ?_; rintro e w2 ⟨rfl, hb2⟩; rw [hok2.out]))
      go_ret
      exact ⟨false, rfl, ⟨fun h => (by cases h), fun h => absurd h hn.out⟩, gca (gca (gal (gal (gre _) _) _) hb1) hb2⟩
    | true =>
      have hok2 : Hid _ := hok
      clear hok
      have hs1 := canon_small hok1.out
      have hs2 := canon_small hok2.out
      have hm1 : Hid ((canon g).nodes.length ≤ maxLen ∧ ∀ n, n ∈ (canon g).nodes → n.vals.length ≤ maxLen) := ⟨by unfold maxLen; omega, fun n hn => by have := hs1.2 n hn; unfold maxLen; omega⟩
      have hm2 : Hid ((canon g').nodes.length ≤ maxLen ∧ ∀ n, n ∈ (canon g').nodes → n.vals.length ≤ maxLen) := ⟨by unfold maxLen; omega, fun n hn => by have := hs2.2 n hn; unfold maxLen; omega⟩
      have hz1 : Hid (canonZ g = canon g) := if_pos hok1.out
      have hz2 : Hid (canonZ g' = canon g') := if_pos hok2.out
      clear hs1 hs2
      go_enter Try.func15, Try.ntmps15
      go_wp2_with (first
        | (go_at_call_of 44 (g.root.kind); refine (implGraphOk_any a cap g _ hg (ha.grow (gal (gal (gre _) _) _))).mono ?_; rintro e w1 ⟨rfl, hb1⟩; rw [hok1.out]; obtain ⟨yz, y0, y1, y2, y3, y4⟩ := hY0.grow hb1)
        | (go_at_call_of 44 (g'.root.kind); refine (implGraphOk_any a' cap' g' _ hg' (ha'.grow (gca (gal (gal (gre _) _) _) hb1))).mono ?_; rintro e w2 ⟨rfl, hb2⟩; rw [hok2.out]))
      have hX2 := hX0.grow (gca hb1 hb2)
      have hY2 := hY0.grow (gca hb1 hb2)
      have hB0 : Below w.heap.size w w2 := gca (gca (gal (gal (gre _) _) _) hb1) hb2
      have ha2 := ha.grow hB0
      have ha2' := ha'.grow hB0
      clear hX0 hY0 hb1 hb2 yz y0 y1 y2 y3 y4
      go_cut [5, 6] from 15 (fun x y wc => Both g g' w2 x y wc)
      case rest =>
        obtain ⟨p, q, na, nc, na', nc', rfl, rfl, hP, hR, hN, hN', hBc⟩ := hcut
        have hne := run_eql_val (canon g).root (canon g').root
        have hBw := hB0.trans (hBc.mono hB0.size)
        obtain ⟨pz, p0, p1, p2, p3, p4, pf⟩ := hP
        obtain ⟨qz, q0, q1, q2, q3, q4, qf⟩ := hR
        clear hX2 hY2 ha2 ha2'
        cases hs : sameV (canon g).root (canon g').root with
        | true =>
          rw [hs] at hne
          have hrr : Hid ((canon g).root = (canon g').root) := (sameV_iff _ _).1 hs
          clear hs
          go_wp2_with (go_at_call 58; refine (equalNodes_any na na' nc nc' (canon g).nodes (canon g').nodes _ hm1.out.1 hm2.out.1 hm1.out.2 hm2.out.2 hN hN').mono ?_; rintro e w5 ⟨bb, rfl, hbi0, hb5⟩; have hbi : Hid (bb = true ↔ (canon g).nodes = (canon g').nodes) := hbi0; clear hbi0)
          go_ret
          exact ⟨bb, rfl, hbi.out.trans ⟨fun h => ⟨hok1.out, hok2.out, gg_ext hrr.out h⟩, fun h => by rw [h.2.2]⟩, gca hBw hb5⟩
        | false =>
          rw [hs] at hne
          have hn : Hid (¬ AlikeP g g') := fun h => by rw [h.2.2, sameV_self] at hs; cases hs
          clear hs
          go_wp2
          go_ret
          exact ⟨false, rfl, ⟨fun h => (by cases h), fun h => absurd h hn.out⟩, hBw⟩
      have hB : Below w2.heap.size w2 w2.drew := gdr (gre _)
      refine wp_regionU (fun u => GBox u w.heap.size g a cap ∧ GBox u (w.heap.size + 1) g' a' cap') 7 (by kernel_rfl) ⟨hX2.grow hB, hY2.grow hB⟩ (fun _ => ?_)
      refine anyU_take (i := 0) (v := ?_) rfl (by kernel_rfl) (by kernel_rfl) (by kernel_rfl) (by kernel_rfl) (fun _ _ _ h => h) (Or.inl ⟨by rfl, ?_⟩) ⟨hX2.grow hB, hY2.grow hB⟩ ?_
      rotate_left
      · intro u hSu; obtain ⟨⟨_, s0, s1, s2, s3, s4⟩, ⟨_, t0, t1, t2, t3, t4⟩⟩ := hSu; go_simp <;> with_reducible rfl
      simp only [Act.put, List.getElem_toArray, List.getElem_cons_zero, List.setIfInBounds_toArray, List.set_cons_zero, List.set_cons_succ]
      refine anyU_take (i := 2) (v := ?_) rfl (by kernel_rfl) (by kernel_rfl) (by kernel_rfl) (by kernel_rfl) (fun _ _ _ h => h) (Or.inl ⟨by rfl, ?_⟩) ⟨hX2.grow hB, hY2.grow hB⟩ ?_
      rotate_left
      · intro u hSu; obtain ⟨⟨_, s0, s1, s2, s3, s4⟩, ⟨_, t0, t1, t2, t3, t4⟩⟩ := hSu; go_simp <;> with_reducible rfl
      simp only [Act.put, List.getElem_toArray, List.getElem_cons_zero, List.getElem_cons_succ, List.setIfInBounds_toArray, List.set_cons_zero, List.set_cons_succ]
      refine anyU_three (i := 1) (j := 4) (k := 5) (by kernel_rfl) rfl rfl rfl (fun K hK => ?_) (fun K hK => ?_) (fun K hK => ?_)
      · go_simp
        refine (implCanon_any a cap g _ hg (ha2.grow hB)).mono ?_
        rintro e w3 ⟨na, nc, nl, rfl, hnl, hN, hb⟩
        rw [hz1.out]
        have hN := hN.le hB.size
        have hB := gca hB hb
        refine hK.out _ _ ⟨hX2.grow hB, hY2.grow hB⟩ ?_
        clear hK
        refine anyU_three (i := 3) (j := 4) (k := 5) (by kernel_rfl) rfl rfl rfl (fun K hK => ?_) (fun K hK => ?_) (fun K hK => ?_)
        · go_simp
          refine (implCanon_any a' cap' g' _ hg' (ha2'.grow hB)).mono ?_
          rintro e w4 ⟨na', nc', nl', rfl, hnl', hN', hb⟩
          rw [hz2.out]
          have hN' := hN'.le hB.size
          have hB := gca hB hb
          have hN := hN.grow hb
          refine hK.out _ _ ⟨hX2.grow hB, hY2.grow hB⟩ ?_
          clear hK
          refine anyU_two (i := 4) (j := 5) (by kernel_rfl) rfl rfl (fun K hK => ?_) (fun K hK => ?_)
          · go_simp
            have o1 := hN.off_new (p := w4.heap.size) (Nat.le_of_eq (by simp))
            have o3 := hN'.off_new (p := w4.heap.size) (Nat.le_of_eq (by simp))
            have hpw : w2.heap.size ≤ w4.heap.size := by have h9 := hB.size; (try simp at h9); omega
            have hb : Below w4.heap.size w4 (w4.alloc (.cells #[.int .i64 0, .int .i64 0, .string ⟨#[]⟩, .int .i64 0, .slice none 0 0] 27)) := gal (gre _) _
            have hB := gca hB hb
            have hN := hN.grow hb
            have hN' := hN'.grow hb
            have hP := Five.new_at w4 ⟨0, 0, ⟨#[]⟩, 0⟩ (.slice none 0 0) 27 (w4.heap.size) (by simp)
            refine hK.out _ _ ⟨hX2.grow hB, hY2.grow hB⟩ ?_
            clear hK
            refine anyU_one (i := 5) (by kernel_rfl) rfl (fun K hK => ?_)
            go_simp
            have o2 := hN.off_new (p := w4.heap.size + 1) (Nat.le_of_eq (by simp))
            have o4 := hN'.off_new (p := w4.heap.size + 1) (Nat.le_of_eq (by simp))
            have hqw : w2.heap.size ≤ w4.heap.size + 1 := by have h9 := hB.size; (try simp at h9); omega
            have hpq : w4.heap.size ≠ w4.heap.size + 1 := by have h9 := hP.lt; (try simp at h9); omega
            have hb : Below (w4.alloc (.cells #[.int .i64 0, .int .i64 0, .string ⟨#[]⟩, .int .i64 0, .slice none 0 0] 27)).heap.size (w4.alloc (.cells #[.int .i64 0, .int .i64 0, .string ⟨#[]⟩, .int .i64 0, .slice none 0 0] 27)) ((w4.alloc (.cells #[.int .i64 0, .int .i64 0, .string ⟨#[]⟩, .int .i64 0, .slice none 0 0] 27)).alloc (.cells #[.int .i64 0, .int .i64 0, .string ⟨#[]⟩, .int .i64 0, .slice none 0 0] 27)) := gal (gre _) _
            have hB := gca hB hb
            have hN := hN.grow hb
            have hN' := hN'.grow hb
            have hP := hP.grow hb
            have hR := Five.new_at (w4.alloc (.cells #[.int .i64 0, .int .i64 0, .string ⟨#[]⟩, .int .i64 0, .slice none 0 0] 27)) ⟨0, 0, ⟨#[]⟩, 0⟩ (.slice none 0 0) 27 (w4.heap.size + 1) (by simp)
            refine hK.out _ _ ⟨hX2.grow hB, hY2.grow hB⟩ ?_
            clear hK
            generalize ((w4.alloc (.cells #[.int .i64 0, .int .i64 0, .string ⟨#[]⟩, .int .i64 0, .slice none 0 0] 27)).alloc (.cells #[.int .i64 0, .int .i64 0, .string ⟨#[]⟩, .int .i64 0, .slice none 0 0] 27)) = wf at hB hN hN' hP hR ⊢
            rw [hz1.out] at hnl
            rw [hz2.out] at hnl'
            have hfin := Both.of hB hpw hqw hpq hP hR hN hN' hnl hnl' o1 o2 o3 o4
            obtain ⟨pz, p0, p1, p2, p3, p4, pf⟩ := hP
            obtain ⟨rz, r0, r1, r2, r3, r4, rf⟩ := hR
            have hS6 := hB.trans ((Kept.put5 _ (w4.heap.size) (canon g).root (.slice na (canon g).nodes.length nc)).below hB.size (fun k hk hp => by omega))
            refine anyU_one (i := 6) (by kernel_rfl) rfl (fun K hK => ?_)
            go_simp
            refine hK.out _ _ ⟨hX2.grow hS6, hY2.grow hS6⟩ ?_
            clear hK
            have q0 := (Kept.put5 _ _ (canon g).root (.slice na (canon g).nodes.length nc)).cell r0 (Ne.symm hpq)
            have q1 := (Kept.put5 _ _ (canon g).root (.slice na (canon g).nodes.length nc)).cell r1 (Ne.symm hpq)
            have q2 := (Kept.put5 _ _ (canon g).root (.slice na (canon g).nodes.length nc)).cell r2 (Ne.symm hpq)
            have q3 := (Kept.put5 _ _ (canon g).root (.slice na (canon g).nodes.length nc)).cell r3 (Ne.symm hpq)
            have q4 := (Kept.put5 _ _ (canon g).root (.slice na (canon g).nodes.length nc)).cell r4 (Ne.symm hpq)
            clear p0 p1 p2 p3 p4 r0 r1 r2 r3 r4
            refine anyU_last (by kernel_rfl) rfl (by kernel_rfl) (fun K hK => ?_)
            go_simp
            refine hK.out _ _ ?_
            clear hK
            go_wp2
            go_meet
            case rel => exact hfin
          · go_simp
            have o2 := hN.off_new (p := w4.heap.size) (Nat.le_of_eq (by simp))
            have o4 := hN'.off_new (p := w4.heap.size) (Nat.le_of_eq (by simp))
            have hqw : w2.heap.size ≤ w4.heap.size := by have h9 := hB.size; (try simp at h9); omega
            have hb : Below w4.heap.size w4 (w4.alloc (.cells #[.int .i64 0, .int .i64 0, .string ⟨#[]⟩, .int .i64 0, .slice none 0 0] 27)) := gal (gre _) _
            have hB := gca hB hb
            have hN := hN.grow hb
            have hN' := hN'.grow hb
            have hR := Five.new_at w4 ⟨0, 0, ⟨#[]⟩, 0⟩ (.slice none 0 0) 27 (w4.heap.size) (by simp)
            refine hK.out _ _ ⟨hX2.grow hB, hY2.grow hB⟩ ?_
            clear hK
            refine anyU_one (i := 4) (by kernel_rfl) rfl (fun K hK => ?_)
            go_simp
            have o1 := hN.off_new (p := w4.heap.size + 1) (Nat.le_of_eq (by simp))
            have o3 := hN'.off_new (p := w4.heap.size + 1) (Nat.le_of_eq (by simp))
            have hpw : w2.heap.size ≤ w4.heap.size + 1 := by have h9 := hB.size; (try simp at h9); omega
            have hpq : w4.heap.size + 1 ≠ w4.heap.size := by have h9 := hR.lt; (try simp at h9); omega
            have hb : Below (w4.alloc (.cells #[.int .i64 0, .int .i64 0, .string ⟨#[]⟩, .int .i64 0, .slice none 0 0] 27)).heap.size (w4.alloc (.cells #[.int .i64 0, .int .i64 0, .string ⟨#[]⟩, .int .i64 0, .slice none 0 0] 27)) ((w4.alloc (.cells #[.int .i64 0, .int .i64 0, .string ⟨#[]⟩, .int .i64 0, .slice none 0 0] 27)).alloc (.cells #[.int .i64 0, .int .i64 0, .string ⟨#[]⟩, .int .i64 0, .slice none 0 0] 27)) := gal (gre _) _
            have hB := gca hB hb
            have hN := hN.grow hb
            have hN' := hN'.grow hb
            have hR := hR.grow hb
            have hP := Five.new_at (w4.alloc (.cells #[.int .i64 0, .int .i64 0, .string ⟨#[]⟩, .int .i64 0, .slice none 0 0] 27)) ⟨0, 0, ⟨#[]⟩, 0⟩ (.slice none 0 0) 27 (w4.heap.size + 1) (by simp)
            refine hK.out _ _ ⟨hX2.grow hB, hY2.grow hB⟩ ?_
            clear hK
            generalize ((w4.alloc (.cells #[.int .i64 0, .int .i64 0, .string ⟨#[]⟩, .int .i64 0, .slice none 0 0] 27)).alloc (.cells #[.int .i64 0, .int .i64 0, .string ⟨#[]⟩, .int .i64 0, .slice none 0 0] 27)) = wf at hB hN hN' hP hR ⊢
            rw [hz1.out] at hnl
            rw [hz2.out] at hnl'
            have hfin := Both.of hB hpw hqw hpq hP hR hN hN' hnl hnl' o1 o2 o3 o4
            obtain ⟨pz, p0, p1, p2, p3, p4, pf⟩ := hP
            obtain ⟨rz, r0, r1, r2, r3, r4, rf⟩ := hR
            have hS6 := hB.trans ((Kept.put5 _ (w4.heap.size + 1) (canon g).root (.slice na (canon g).nodes.length nc)).below hB.size (fun k hk hp => by omega))
            refine anyU_one (i := 6) (by kernel_rfl) rfl (fun K hK => ?_)
            go_simp
            refine hK.out _ _ ⟨hX2.grow hS6, hY2.grow hS6⟩ ?_
            clear hK
            have q0 := (Kept.put5 _ _ (canon g).root (.slice na (canon g).nodes.length nc)).cell r0 (Ne.symm hpq)
            have q1 := (Kept.put5 _ _ (canon g).root (.slice na (canon g).nodes.length nc)).cell r1 (Ne.symm hpq)
            have q2 := (Kept.put5 _ _ (canon g).root (.slice na (canon g).nodes.length nc)).cell r2 (Ne.symm hpq)
            have q3 := (Kept.put5 _ _ (canon g).root (.slice na (canon g).nodes.length nc)).cell r3 (Ne.symm hpq)
            have q4 := (Kept.put5 _ _ (canon g).root (.slice na (canon g).nodes.length nc)).cell r4 (Ne.symm hpq)
            clear p0 p1 p2 p3 p4 r0 r1 r2 r3 r4
            refine anyU_last (by kernel_rfl) rfl (by kernel_rfl) (fun K hK => ?_)
            go_simp
            refine hK.out _ _ ?_
            clear hK
            go_wp2
            go_meet
            case rel => exact hfin
        · go_simp
          have o1 := hN.off_new (p := w3.heap.size) (Nat.le_of_eq (by simp))
          have hpw : w2.heap.size ≤ w3.heap.size := by have h9 := hB.size; (try simp at h9); omega
          have hb : Below w3.heap.size w3 (w3.alloc (.cells #[.int .i64 0, .int .i64 0, .string ⟨#[]⟩, .int .i64 0, .slice none 0 0] 27)) := gal (gre _) _
          have hB := gca hB hb
          have hN := hN.grow hb
          have hP := Five.new_at w3 ⟨0, 0, ⟨#[]⟩, 0⟩ (.slice none 0 0) 27 (w3.heap.size) (by simp)
          refine hK.out _ _ ⟨hX2.grow hB, hY2.grow hB⟩ ?_
          clear hK
          refine anyU_two (i := 3) (j := 5) (by kernel_rfl) rfl rfl (fun K hK => ?_) (fun K hK => ?_)
          · go_simp
            refine (implCanon_any a' cap' g' _ hg' (ha2'.grow hB)).mono ?_
            rintro e w4 ⟨na', nc', nl', rfl, hnl', hN', hb⟩
            rw [hz2.out]
            have o3 := hN'.off_old hP.lt
            have hN' := hN'.le hB.size
            have hB := gca hB hb
            have hN := hN.grow hb
            have hP := hP.grow hb
            refine hK.out _ _ ⟨hX2.grow hB, hY2.grow hB⟩ ?_
            clear hK
            refine anyU_one (i := 5) (by kernel_rfl) rfl (fun K hK => ?_)
            go_simp
            have o2 := hN.off_new (p := w4.heap.size) (Nat.le_of_eq (by simp))
            have o4 := hN'.off_new (p := w4.heap.size) (Nat.le_of_eq (by simp))
            have hqw : w2.heap.size ≤ w4.heap.size := by have h9 := hB.size; (try simp at h9); omega
            have hpq : w3.heap.size ≠ w4.heap.size := by have h9 := hP.lt; (try simp at h9); omega
            have hb : Below w4.heap.size w4 (w4.alloc (.cells #[.int .i64 0, .int .i64 0, .string ⟨#[]⟩, .int .i64 0, .slice none 0 0] 27)) := gal (gre _) _
            have hB := gca hB hb
            have hN := hN.grow hb
            have hN' := hN'.grow hb
            have hP := hP.grow hb
            have hR := Five.new_at w4 ⟨0, 0, ⟨#[]⟩, 0⟩ (.slice none 0 0) 27 (w4.heap.size) (by simp)
            refine hK.out _ _ ⟨hX2.grow hB, hY2.grow hB⟩ ?_
            clear hK
            generalize (w4.alloc (.cells #[.int .i64 0, .int .i64 0, .string ⟨#[]⟩, .int .i64 0, .slice none 0 0] 27)) = wf at hB hN hN' hP hR ⊢
            rw [hz1.out] at hnl
            rw [hz2.out] at hnl'
            have hfin := Both.of hB hpw hqw hpq hP hR hN hN' hnl hnl' o1 o2 o3 o4
            obtain ⟨pz, p0, p1, p2, p3, p4, pf⟩ := hP
            obtain ⟨rz, r0, r1, r2, r3, r4, rf⟩ := hR
            have hS6 := hB.trans ((Kept.put5 _ (w3.heap.size) (canon g).root (.slice na (canon g).nodes.length nc)).below hB.size (fun k hk hp => by omega))
            refine anyU_one (i := 6) (by kernel_rfl) rfl (fun K hK => ?_)
            go_simp
            refine hK.out _ _ ⟨hX2.grow hS6, hY2.grow hS6⟩ ?_
            clear hK
            have q0 := (Kept.put5 _ _ (canon g).root (.slice na (canon g).nodes.length nc)).cell r0 (Ne.symm hpq)
            have q1 := (Kept.put5 _ _ (canon g).root (.slice na (canon g).nodes.length nc)).cell r1 (Ne.symm hpq)
            have q2 := (Kept.put5 _ _ (canon g).root (.slice na (canon g).nodes.length nc)).cell r2 (Ne.symm hpq)
            have q3 := (Kept.put5 _ _ (canon g).root (.slice na (canon g).nodes.length nc)).cell r3 (Ne.symm hpq)
            have q4 := (Kept.put5 _ _ (canon g).root (.slice na (canon g).nodes.length nc)).cell r4 (Ne.symm hpq)
            clear p0 p1 p2 p3 p4 r0 r1 r2 r3 r4
            refine anyU_last (by kernel_rfl) rfl (by kernel_rfl) (fun K hK => ?_)
            go_simp
            refine hK.out _ _ ?_
            clear hK
            go_wp2
            go_meet
            case rel => exact hfin
          · go_simp
            have o2 := hN.off_new (p := w3.heap.size + 1) (Nat.le_of_eq (by simp))
            have hqw : w2.heap.size ≤ w3.heap.size + 1 := by have h9 := hB.size; (try simp at h9); omega
            have hpq : w3.heap.size ≠ w3.heap.size + 1 := by have h9 := hP.lt; (try simp at h9); omega
            have hb : Below (w3.alloc (.cells #[.int .i64 0, .int .i64 0, .string ⟨#[]⟩, .int .i64 0, .slice none 0 0] 27)).heap.size (w3.alloc (.cells #[.int .i64 0, .int .i64 0, .string ⟨#[]⟩, .int .i64 0, .slice none 0 0] 27)) ((w3.alloc (.cells #[.int .i64 0, .int .i64 0, .string ⟨#[]⟩, .int .i64 0, .slice none 0 0] 27)).alloc (.cells #[.int .i64 0, .int .i64 0, .string ⟨#[]⟩, .int .i64 0, .slice none 0 0] 27)) := gal (gre _) _
            have hB := gca hB hb
            have hN := hN.grow hb
            have hP := hP.grow hb
            have hR := Five.new_at (w3.alloc (.cells #[.int .i64 0, .int .i64 0, .string ⟨#[]⟩, .int .i64 0, .slice none 0 0] 27)) ⟨0, 0, ⟨#[]⟩, 0⟩ (.slice none 0 0) 27 (w3.heap.size + 1) (by simp)
            refine hK.out _ _ ⟨hX2.grow hB, hY2.grow hB⟩ ?_
            clear hK
            refine anyU_one (i := 3) (by kernel_rfl) rfl (fun K hK => ?_)
            go_simp
            refine (implCanon_any a' cap' g' _ hg' (ha2'.grow hB)).mono ?_
            rintro e w4 ⟨na', nc', nl', rfl, hnl', hN', hb⟩
            rw [hz2.out]
            have o3 := hN'.off_old hP.lt
            have o4 := hN'.off_old hR.lt
            have hN' := hN'.le hB.size
            have hB := gca hB hb
            have hN := hN.grow hb
            have hP := hP.grow hb
            have hR := hR.grow hb
            refine hK.out _ _ ⟨hX2.grow hB, hY2.grow hB⟩ ?_
            clear hK
            rw [hz1.out] at hnl
            rw [hz2.out] at hnl'
            have hfin := Both.of hB hpw hqw hpq hP hR hN hN' hnl hnl' o1 o2 o3 o4
            obtain ⟨pz, p0, p1, p2, p3, p4, pf⟩ := hP
            obtain ⟨rz, r0, r1, r2, r3, r4, rf⟩ := hR
            have hS6 := hB.trans ((Kept.put5 _ (w3.heap.size) (canon g).root (.slice na (canon g).nodes.length nc)).below hB.size (fun k hk hp => by omega))
            refine anyU_one (i := 6) (by kernel_rfl) rfl (fun K hK => ?_)
            go_simp
            refine hK.out _ _ ⟨hX2.grow hS6, hY2.grow hS6⟩ ?_
            clear hK
            have q0 := (Kept.put5 _ _ (canon g).root (.slice na (canon g).nodes.length nc)).cell r0 (Ne.symm hpq)
            have q1 := (Kept.put5 _ _ (canon g).root (.slice na (canon g).nodes.length nc)).cell r1 (Ne.symm hpq)
            have q2 := (Kept.put5 _ _ (canon g).root (.slice na (canon g).nodes.length nc)).cell r2 (Ne.symm hpq)
            have q3 := (Kept.put5 _ _ (canon g).root (.slice na (canon g).nodes.length nc)).cell r3 (Ne.symm hpq)
            have q4 := (Kept.put5 _ _ (canon g).root (.slice na (canon g).nodes.length nc)).cell r4 (Ne.symm hpq)
            clear p0 p1 p2 p3 p4 r0 r1 r2 r3 r4
            refine anyU_last (by kernel_rfl) rfl (by kernel_rfl) (fun K hK => ?_)
            go_simp
            refine hK.out _ _ ?_
            clear hK
            go_wp2
            go_meet
            case rel => exact hfin
        · go_simp
          have o2 := hN.off_new (p := w3.heap.size) (Nat.le_of_eq (by simp))
          have hqw : w2.heap.size ≤ w3.heap.size := by have h9 := hB.size; (try simp at h9); omega
          have hb : Below w3.heap.size w3 (w3.alloc (.cells #[.int .i64 0, .int .i64 0, .string ⟨#[]⟩, .int .i64 0, .slice none 0 0] 27)) := gal (gre _) _
          have hB := gca hB hb
          have hN := hN.grow hb
          have hR := Five.new_at w3 ⟨0, 0, ⟨#[]⟩, 0⟩ (.slice none 0 0) 27 (w3.heap.size) (by simp)
          refine hK.out _ _ ⟨hX2.grow hB, hY2.grow hB⟩ ?_
          clear hK
          refine anyU_two (i := 3) (j := 4) (by kernel_rfl) rfl rfl (fun K hK => ?_) (fun K hK => ?_)
          · go_simp
            refine (implCanon_any a' cap' g' _ hg' (ha2'.grow hB)).mono ?_
            rintro e w4 ⟨na', nc', nl', rfl, hnl', hN', hb⟩
            rw [hz2.out]
            have o4 := hN'.off_old hR.lt
            have hN' := hN'.le hB.size
            have hB := gca hB hb
            have hN := hN.grow hb
            have hR := hR.grow hb
            refine hK.out _ _ ⟨hX2.grow hB, hY2.grow hB⟩ ?_
            clear hK
            refine anyU_one (i := 4) (by kernel_rfl) rfl (fun K hK => ?_)
            go_simp
            have o1 := hN.off_new (p := w4.heap.size) (Nat.le_of_eq (by simp))
            have o3 := hN'.off_new (p := w4.heap.size) (Nat.le_of_eq (by simp))
            have hpw : w2.heap.size ≤ w4.heap.size := by have h9 := hB.size; (try simp at h9); omega
            have hpq : w4.heap.size ≠ w3.heap.size := by have h9 := hR.lt; (try simp at h9); omega
            have hb : Below w4.heap.size w4 (w4.alloc (.cells #[.int .i64 0, .int .i64 0, .string ⟨#[]⟩, .int .i64 0, .slice none 0 0] 27)) := gal (gre _) _
            have hB := gca hB hb
            have hN := hN.grow hb
            have hN' := hN'.grow hb
            have hR := hR.grow hb
            have hP := Five.new_at w4 ⟨0, 0, ⟨#[]⟩, 0⟩ (.slice none 0 0) 27 (w4.heap.size) (by simp)
            refine hK.out _ _ ⟨hX2.grow hB, hY2.grow hB⟩ ?_
            clear hK
            generalize (w4.alloc (.cells #[.int .i64 0, .int .i64 0, .string ⟨#[]⟩, .int .i64 0, .slice none 0 0] 27)) = wf at hB hN hN' hP hR ⊢
            rw [hz1.out] at hnl
            rw [hz2.out] at hnl'
            have hfin := Both.of hB hpw hqw hpq hP hR hN hN' hnl hnl' o1 o2 o3 o4
            obtain ⟨pz, p0, p1, p2, p3, p4, pf⟩ := hP
            obtain ⟨rz, r0, r1, r2, r3, r4, rf⟩ := hR
            have hS6 := hB.trans ((Kept.put5 _ (w4.heap.size) (canon g).root (.slice na (canon g).nodes.length nc)).below hB.size (fun k hk hp => by omega))
            refine anyU_one (i := 6) (by kernel_rfl) rfl (fun K hK => ?_)
            go_simp
            refine hK.out _ _ ⟨hX2.grow hS6, hY2.grow hS6⟩ ?_
            clear hK
            have q0 := (Kept.put5 _ _ (canon g).root (.slice na (canon g).nodes.length nc)).cell r0 (Ne.symm hpq)
            have q1 := (Kept.put5 _ _ (canon g).root (.slice na (canon g).nodes.length nc)).cell r1 (Ne.symm hpq)
            have q2 := (Kept.put5 _ _ (canon g).root (.slice na (canon g).nodes.length nc)).cell r2 (Ne.symm hpq)
            have q3 := (Kept.put5 _ _ (canon g).root (.slice na (canon g).nodes.length nc)).cell r3 (Ne.symm hpq)
            have q4 := (Kept.put5 _ _ (canon g).root (.slice na (canon g).nodes.length nc)).cell r4 (Ne.symm hpq)
            clear p0 p1 p2 p3 p4 r0 r1 r2 r3 r4
            refine anyU_last (by kernel_rfl) rfl (by kernel_rfl) (fun K hK => ?_)
            go_simp
            refine hK.out _ _ ?_
            clear hK
            go_wp2
            go_meet
            case rel => exact hfin
          · go_simp
            have o1 := hN.off_new (p := w3.heap.size + 1) (Nat.le_of_eq (by simp))
            have hpw : w2.heap.size ≤ w3.heap.size + 1 := by have h9 := hB.size; (try simp at h9); omega
            have hpq : w3.heap.size + 1 ≠ w3.heap.size := by have h9 := hR.lt; (try simp at h9); omega
            have hb : Below (w3.alloc (.cells #[.int .i64 0, .int .i64 0, .string ⟨#[]⟩, .int .i64 0, .slice none 0 0] 27)).heap.size (w3.alloc (.cells #[.int .i64 0, .int .i64 0, .string ⟨#[]⟩, .int .i64 0, .slice none 0 0] 27)) ((w3.alloc (.cells #[.int .i64 0, .int .i64 0, .string ⟨#[]⟩, .int .i64 0, .slice none 0 0] 27)).alloc (.cells #[.int .i64 0, .int .i64 0, .string ⟨#[]⟩, .int .i64 0, .slice none 0 0] 27)) := gal (gre _) _
            have hB := gca hB hb
            have hN := hN.grow hb
            have hR := hR.grow hb
            have hP := Five.new_at (w3.alloc (.cells #[.int .i64 0, .int .i64 0, .string ⟨#[]⟩, .int .i64 0, .slice none 0 0] 27)) ⟨0, 0, ⟨#[]⟩, 0⟩ (.slice none 0 0) 27 (w3.heap.size + 1) (by simp)
            refine hK.out _ _ ⟨hX2.grow hB, hY2.grow hB⟩ ?_
            clear hK
            refine anyU_one (i := 3) (by kernel_rfl) rfl (fun K hK => ?_)
            go_simp
            refine (implCanon_any a' cap' g' _ hg' (ha2'.grow hB)).mono ?_
            rintro e w4 ⟨na', nc', nl', rfl, hnl', hN', hb⟩
            rw [hz2.out]
            have o3 := hN'.off_old hP.lt
            have o4 := hN'.off_old hR.lt
            have hN' := hN'.le hB.size
            have hB := gca hB hb
            have hN := hN.grow hb
            have hP := hP.grow hb
            have hR := hR.grow hb
            refine hK.out _ _ ⟨hX2.grow hB, hY2.grow hB⟩ ?_
            clear hK
            rw [hz1.out] at hnl
            rw [hz2.out] at hnl'
            have hfin := Both.of hB hpw hqw hpq hP hR hN hN' hnl hnl' o1 o2 o3 o4
            obtain ⟨pz, p0, p1, p2, p3, p4, pf⟩ := hP
            obtain ⟨rz, r0, r1, r2, r3, r4, rf⟩ := hR
            have hS6 := hB.trans ((Kept.put5 _ (w3.heap.size + 1) (canon g).root (.slice na (canon g).nodes.length nc)).below hB.size (fun k hk hp => by omega))
            refine anyU_one (i := 6) (by kernel_rfl) rfl (fun K hK => ?_)
            go_simp
            refine hK.out _ _ ⟨hX2.grow hS6, hY2.grow hS6⟩ ?_
            clear hK
            have q0 := (Kept.put5 _ _ (canon g).root (.slice na (canon g).nodes.length nc)).cell r0 (Ne.symm hpq)
            have q1 := (Kept.put5 _ _ (canon g).root (.slice na (canon g).nodes.length nc)).cell r1 (Ne.symm hpq)
            have q2 := (Kept.put5 _ _ (canon g).root (.slice na (canon g).nodes.length nc)).cell r2 (Ne.symm hpq)
            have q3 := (Kept.put5 _ _ (canon g).root (.slice na (canon g).nodes.length nc)).cell r3 (Ne.symm hpq)
            have q4 := (Kept.put5 _ _ (canon g).root (.slice na (canon g).nodes.length nc)).cell r4 (Ne.symm hpq)
            clear p0 p1 p2 p3 p4 r0 r1 r2 r3 r4
            refine anyU_last (by kernel_rfl) rfl (by kernel_rfl) (fun K hK => ?_)
            go_simp
            refine hK.out _ _ ?_
            clear hK
            go_wp2
            go_meet
            case rel => exact hfin
      · go_simp
        have hpw : w2.heap.size ≤ w2.heap.size := by have h9 := hB.size; (try simp at h9); omega
        have hb : Below w2.drew.heap.size w2.drew (w2.drew.alloc (.cells #[.int .i64 0, .int .i64 0, .string ⟨#[]⟩, .int .i64 0, .slice none 0 0] 27)) := gal (gre _) _
        have hB := gca hB hb
        have hP := Five.new_at w2.drew ⟨0, 0, ⟨#[]⟩, 0⟩ (.slice none 0 0) 27 (w2.heap.size) (by simp)
        refine hK.out _ _ ⟨hX2.grow hB, hY2.grow hB⟩ ?_
        clear hK
        refine anyU_two (i := 1) (j := 5) (by kernel_rfl) rfl rfl (fun K hK => ?_) (fun K hK => ?_)
        · go_simp
          refine (implCanon_any a cap g _ hg (ha2.grow hB)).mono ?_
          rintro e w3 ⟨na, nc, nl, rfl, hnl, hN, hb⟩
          rw [hz1.out]
          have o1 := hN.off_old hP.lt
          have hN := hN.le hB.size
          have hB := gca hB hb
          have hP := hP.grow hb
          refine hK.out _ _ ⟨hX2.grow hB, hY2.grow hB⟩ ?_
          clear hK
          refine anyU_two (i := 3) (j := 5) (by kernel_rfl) rfl rfl (fun K hK => ?_) (fun K hK => ?_)
          · go_simp
            refine (implCanon_any a' cap' g' _ hg' (ha2'.grow hB)).mono ?_
            rintro e w4 ⟨na', nc', nl', rfl, hnl', hN', hb⟩
            rw [hz2.out]
            have o3 := hN'.off_old hP.lt
            have hN' := hN'.le hB.size
            have hB := gca hB hb
            have hN := hN.grow hb
            have hP := hP.grow hb
            refine hK.out _ _ ⟨hX2.grow hB, hY2.grow hB⟩ ?_
            clear hK
            refine anyU_one (i := 5) (by kernel_rfl) rfl (fun K hK => ?_)
            go_simp
            have o2 := hN.off_new (p := w4.heap.size) (Nat.le_of_eq (by simp))
            have o4 := hN'.off_new (p := w4.heap.size) (Nat.le_of_eq (by simp))
            have hqw : w2.heap.size ≤ w4.heap.size := by have h9 := hB.size; (try simp at h9); omega
            have hpq : w2.heap.size ≠ w4.heap.size := by have h9 := hP.lt; (try simp at h9); omega
            have hb : Below w4.heap.size w4 (w4.alloc (.cells #[.int .i64 0, .int .i64 0, .string ⟨#[]⟩, .int .i64 0, .slice none 0 0] 27)) := gal (gre _) _
            have hB := gca hB hb
            have hN := hN.grow hb
            have hN' := hN'.grow hb
            have hP := hP.grow hb
            have hR := Five.new_at w4 ⟨0, 0, ⟨#[]⟩, 0⟩ (.slice none 0 0) 27 (w4.heap.size) (by simp)
            refine hK.out _ _ ⟨hX2.grow hB, hY2.grow hB⟩ ?_
            clear hK
            generalize (w4.alloc (.cells #[.int .i64 0, .int .i64 0, .string ⟨#[]⟩, .int .i64 0, .slice none 0 0] 27)) = wf at hB hN hN' hP hR ⊢
            rw [hz1.out] at hnl
            rw [hz2.out] at hnl'
            have hfin := Both.of hB hpw hqw hpq hP hR hN hN' hnl hnl' o1 o2 o3 o4
            obtain ⟨pz, p0, p1, p2, p3, p4, pf⟩ := hP
            obtain ⟨rz, r0, r1, r2, r3, r4, rf⟩ := hR
            have hS6 := hB.trans ((Kept.put5 _ (w2.heap.size) (canon g).root (.slice na (canon g).nodes.length nc)).below hB.size (fun k hk hp => by omega))
            refine anyU_one (i := 6) (by kernel_rfl) rfl (fun K hK => ?_)
            go_simp
            refine hK.out _ _ ⟨hX2.grow hS6, hY2.grow hS6⟩ ?_
            clear hK
            have q0 := (Kept.put5 _ _ (canon g).root (.slice na (canon g).nodes.length nc)).cell r0 (Ne.symm hpq)
            have q1 := (Kept.put5 _ _ (canon g).root (.slice na (canon g).nodes.length nc)).cell r1 (Ne.symm hpq)
            have q2 := (Kept.put5 _ _ (canon g).root (.slice na (canon g).nodes.length nc)).cell r2 (Ne.symm hpq)
            have q3 := (Kept.put5 _ _ (canon g).root (.slice na (canon g).nodes.length nc)).cell r3 (Ne.symm hpq)
            have q4 := (Kept.put5 _ _ (canon g).root (.slice na (canon g).nodes.length nc)).cell r4 (Ne.symm hpq)
            clear p0 p1 p2 p3 p4 r0 r1 r2 r3 r4
            refine anyU_last (by kernel_rfl) rfl (by kernel_rfl) (fun K hK => ?_)
            go_simp
            refine hK.out _ _ ?_
            clear hK
            go_wp2
            go_meet
            case rel => exact hfin
          · go_simp
            have o2 := hN.off_new (p := w3.heap.size) (Nat.le_of_eq (by simp))
            have hqw : w2.heap.size ≤ w3.heap.size := by have h9 := hB.size; (try simp at h9); omega
            have hpq : w2.heap.size ≠ w3.heap.size := by have h9 := hP.lt; (try simp at h9); omega
            have hb : Below w3.heap.size w3 (w3.alloc (.cells #[.int .i64 0, .int .i64 0, .string ⟨#[]⟩, .int .i64 0, .slice none 0 0] 27)) := gal (gre _) _
            have hB := gca hB hb
            have hN := hN.grow hb
            have hP := hP.grow hb
            have hR := Five.new_at w3 ⟨0, 0, ⟨#[]⟩, 0⟩ (.slice none 0 0) 27 (w3.heap.size) (by simp)
            refine hK.out _ _ ⟨hX2.grow hB, hY2.grow hB⟩ ?_
            clear hK
            refine anyU_one (i := 3) (by kernel_rfl) rfl (fun K hK => ?_)
            go_simp
            refine (implCanon_any a' cap' g' _ hg' (ha2'.grow hB)).mono ?_
            rintro e w4 ⟨na', nc', nl', rfl, hnl', hN', hb⟩
            rw [hz2.out]
            have o3 := hN'.off_old hP.lt
            have o4 := hN'.off_old hR.lt
            have hN' := hN'.le hB.size
            have hB := gca hB hb
            have hN := hN.grow hb
            have hP := hP.grow hb
            have hR := hR.grow hb
            refine hK.out _ _ ⟨hX2.grow hB, hY2.grow hB⟩ ?_
            clear hK
            rw [hz1.out] at hnl
            rw [hz2.out] at hnl'
            have hfin := Both.of hB hpw hqw hpq hP hR hN hN' hnl hnl' o1 o2 o3 o4
            obtain ⟨pz, p0, p1, p2, p3, p4, pf⟩ := hP
            obtain ⟨rz, r0, r1, r2, r3, r4, rf⟩ := hR
            have hS6 := hB.trans ((Kept.put5 _ (w2.heap.size) (canon g).root (.slice na (canon g).nodes.length nc)).below hB.size (fun k hk hp => by omega))
            refine anyU_one (i := 6) (by kernel_rfl) rfl (fun K hK => ?_)
            go_simp
            refine hK.out _ _ ⟨hX2.grow hS6, hY2.grow hS6⟩ ?_
            clear hK
            have q0 := (Kept.put5 _ _ (canon g).root (.slice na (canon g).nodes.length nc)).cell r0 (Ne.symm hpq)
            have q1 := (Kept.put5 _ _ (canon g).root (.slice na (canon g).nodes.length nc)).cell r1 (Ne.symm hpq)
            have q2 := (Kept.put5 _ _ (canon g).root (.slice na (canon g).nodes.length nc)).cell r2 (Ne.symm hpq)
            have q3 := (Kept.put5 _ _ (canon g).root (.slice na (canon g).nodes.length nc)).cell r3 (Ne.symm hpq)
            have q4 := (Kept.put5 _ _ (canon g).root (.slice na (canon g).nodes.length nc)).cell r4 (Ne.symm hpq)
            clear p0 p1 p2 p3 p4 r0 r1 r2 r3 r4
            refine anyU_last (by kernel_rfl) rfl (by kernel_rfl) (fun K hK => ?_)
            go_simp
            refine hK.out _ _ ?_
            clear hK
            go_wp2
            go_meet
            case rel => exact hfin
        · go_simp
          have hqw : w2.heap.size ≤ w2.heap.size + 1 := by have h9 := hB.size; (try simp at h9); omega
          have hpq : w2.heap.size ≠ w2.heap.size + 1 := by have h9 := hP.lt; (try simp at h9); omega
          have hb : Below (w2.drew.alloc (.cells #[.int .i64 0, .int .i64 0, .string ⟨#[]⟩, .int .i64 0, .slice none 0 0] 27)).heap.size (w2.drew.alloc (.cells #[.int .i64 0, .int .i64 0, .string ⟨#[]⟩, .int .i64 0, .slice none 0 0] 27)) ((w2.drew.alloc (.cells #[.int .i64 0, .int .i64 0, .string ⟨#[]⟩, .int .i64 0, .slice none 0 0] 27)).alloc (.cells #[.int .i64 0, .int .i64 0, .string ⟨#[]⟩, .int .i64 0, .slice none 0 0] 27)) := gal (gre _) _
          have hB := gca hB hb
          have hP := hP.grow hb
          have hR := Five.new_at (w2.drew.alloc (.cells #[.int .i64 0, .int .i64 0, .string ⟨#[]⟩, .int .i64 0, .slice none 0 0] 27)) ⟨0, 0, ⟨#[]⟩, 0⟩ (.slice none 0 0) 27 (w2.heap.size + 1) (by simp)
          refine hK.out _ _ ⟨hX2.grow hB, hY2.grow hB⟩ ?_
          clear hK
          refine anyU_one (i := 1) (by kernel_rfl) rfl (fun K hK => ?_)
          go_simp
          refine (implCanon_any a cap g _ hg (ha2.grow hB)).mono ?_
          rintro e w3 ⟨na, nc, nl, rfl, hnl, hN, hb⟩
          rw [hz1.out]
          have o1 := hN.off_old hP.lt
          have o2 := hN.off_old hR.lt
          have hN := hN.le hB.size
          have hB := gca hB hb
          have hP := hP.grow hb
          have hR := hR.grow hb
          refine hK.out _ _ ⟨hX2.grow hB, hY2.grow hB⟩ ?_
          clear hK
          refine anyU_one (i := 3) (by kernel_rfl) rfl (fun K hK => ?_)
          go_simp
          refine (implCanon_any a' cap' g' _ hg' (ha2'.grow hB)).mono ?_
          rintro e w4 ⟨na', nc', nl', rfl, hnl', hN', hb⟩
          rw [hz2.out]
          have o3 := hN'.off_old hP.lt
          have o4 := hN'.off_old hR.lt
          have hN' := hN'.le hB.size
          have hB := gca hB hb
          have hN := hN.grow hb
          have hP := hP.grow hb
          have hR := hR.grow hb
          refine hK.out _ _ ⟨hX2.grow hB, hY2.grow hB⟩ ?_
          clear hK
          rw [hz1.out] at hnl
          rw [hz2.out] at hnl'
          have hfin := Both.of hB hpw hqw hpq hP hR hN hN' hnl hnl' o1 o2 o3 o4
          obtain ⟨pz, p0, p1, p2, p3, p4, pf⟩ := hP
          obtain ⟨rz, r0, r1, r2, r3, r4, rf⟩ := hR
          have hS6 := hB.trans ((Kept.put5 _ (w2.heap.size) (canon g).root (.slice na (canon g).nodes.length nc)).below hB.size (fun k hk hp => by omega))
          refine anyU_one (i := 6) (by kernel_rfl) rfl (fun K hK => ?_)
          go_simp
          refine hK.out _ _ ⟨hX2.grow hS6, hY2.grow hS6⟩ ?_
          clear hK
          have q0 := (Kept.put5 _ _ (canon g).root (.slice na (canon g).nodes.length nc)).cell r0 (Ne.symm hpq)
          have q1 := (Kept.put5 _ _ (canon g).root (.slice na (canon g).nodes.length nc)).cell r1 (Ne.symm hpq)
          have q2 := (Kept.put5 _ _ (canon g).root (.slice na (canon g).nodes.length nc)).cell r2 (Ne.symm hpq)
          have q3 := (Kept.put5 _ _ (canon g).root (.slice na (canon g).nodes.length nc)).cell r3 (Ne.symm hpq)
          have q4 := (Kept.put5 _ _ (canon g).root (.slice na (canon g).nodes.length nc)).cell r4 (Ne.symm hpq)
          clear p0 p1 p2 p3 p4 r0 r1 r2 r3 r4
          refine anyU_last (by kernel_rfl) rfl (by kernel_rfl) (fun K hK => ?_)
          go_simp
          refine hK.out _ _ ?_
          clear hK
          go_wp2
          go_meet
          case rel => exact hfin
      · go_simp
        have hqw : w2.heap.size ≤ w2.heap.size := by have h9 := hB.size; (try simp at h9); omega
        have hb : Below w2.drew.heap.size w2.drew (w2.drew.alloc (.cells #[.int .i64 0, .int .i64 0, .string ⟨#[]⟩, .int .i64 0, .slice none 0 0] 27)) := gal (gre _) _
        have hB := gca hB hb
        have hR := Five.new_at w2.drew ⟨0, 0, ⟨#[]⟩, 0⟩ (.slice none 0 0) 27 (w2.heap.size) (by simp)
        refine hK.out _ _ ⟨hX2.grow hB, hY2.grow hB⟩ ?_
        clear hK
        refine anyU_two (i := 1) (j := 4) (by kernel_rfl) rfl rfl (fun K hK => ?_) (fun K hK => ?_)
        · go_simp
          refine (implCanon_any a cap g _ hg (ha2.grow hB)).mono ?_
          rintro e w3 ⟨na, nc, nl, rfl, hnl, hN, hb⟩
          rw [hz1.out]
          have o2 := hN.off_old hR.lt
          have hN := hN.le hB.size
          have hB := gca hB hb
          have hR := hR.grow hb
          refine hK.out _ _ ⟨hX2.grow hB, hY2.grow hB⟩ ?_
          clear hK
          refine anyU_two (i := 3) (j := 4) (by kernel_rfl) rfl rfl (fun K hK => ?_) (fun K hK => ?_)
          · go_simp
            refine (implCanon_any a' cap' g' _ hg' (ha2'.grow hB)).mono ?_
            rintro e w4 ⟨na', nc', nl', rfl, hnl', hN', hb⟩
            rw [hz2.out]
            have o4 := hN'.off_old hR.lt
            have hN' := hN'.le hB.size
            have hB := gca hB hb
            have hN := hN.grow hb
            have hR := hR.grow hb
            refine hK.out _ _ ⟨hX2.grow hB, hY2.grow hB⟩ ?_
            clear hK
            refine anyU_one (i := 4) (by kernel_rfl) rfl (fun K hK => ?_)
            go_simp
            have o1 := hN.off_new (p := w4.heap.size) (Nat.le_of_eq (by simp))
            have o3 := hN'.off_new (p := w4.heap.size) (Nat.le_of_eq (by simp))
            have hpw : w2.heap.size ≤ w4.heap.size := by have h9 := hB.size; (try simp at h9); omega
            have hpq : w4.heap.size ≠ w2.heap.size := by have h9 := hR.lt; (try simp at h9); omega
            have hb : Below w4.heap.size w4 (w4.alloc (.cells #[.int .i64 0, .int .i64 0, .string ⟨#[]⟩, .int .i64 0, .slice none 0 0] 27)) := gal (gre _) _
            have hB := gca hB hb
            have hN := hN.grow hb
            have hN' := hN'.grow hb
            have hR := hR.grow hb
            have hP := Five.new_at w4 ⟨0, 0, ⟨#[]⟩, 0⟩ (.slice none 0 0) 27 (w4.heap.size) (by simp)
            refine hK.out _ _ ⟨hX2.grow hB, hY2.grow hB⟩ ?_
            clear hK
            generalize (w4.alloc (.cells #[.int .i64 0, .int .i64 0, .string ⟨#[]⟩, .int .i64 0, .slice none 0 0] 27)) = wf at hB hN hN' hP hR ⊢
            rw [hz1.out] at hnl
            rw [hz2.out] at hnl'
            have hfin := Both.of hB hpw hqw hpq hP hR hN hN' hnl hnl' o1 o2 o3 o4
            obtain ⟨pz, p0, p1, p2, p3, p4, pf⟩ := hP
            obtain ⟨rz, r0, r1, r2, r3, r4, rf⟩ := hR
            have hS6 := hB.trans ((Kept.put5 _ (w4.heap.size) (canon g).root (.slice na (canon g).nodes.length nc)).below hB.size (fun k hk hp => by omega))
            refine anyU_one (i := 6) (by kernel_rfl) rfl (fun K hK => ?_)
            go_simp
            refine hK.out _ _ ⟨hX2.grow hS6, hY2.grow hS6⟩ ?_
            clear hK
            have q0 := (Kept.put5 _ _ (canon g).root (.slice na (canon g).nodes.length nc)).cell r0 (Ne.symm hpq)
            have q1 := (Kept.put5 _ _ (canon g).root (.slice na (canon g).nodes.length nc)).cell r1 (Ne.symm hpq)
            have q2 := (Kept.put5 _ _ (canon g).root (.slice na (canon g).nodes.length nc)).cell r2 (Ne.symm hpq)
            have q3 := (Kept.put5 _ _ (canon g).root (.slice na (canon g).nodes.length nc)).cell r3 (Ne.symm hpq)
            have q4 := (Kept.put5 _ _ (canon g).root (.slice na (canon g).nodes.length nc)).cell r4 (Ne.symm hpq)
            clear p0 p1 p2 p3 p4 r0 r1 r2 r3 r4
            refine anyU_last (by kernel_rfl) rfl (by kernel_rfl) (fun K hK => ?_)
            go_simp
            refine hK.out _ _ ?_
            clear hK
            go_wp2
            go_meet
            case rel => exact hfin
          · go_simp
            have o1 := hN.off_new (p := w3.heap.size) (Nat.le_of_eq (by simp))
            have hpw : w2.heap.size ≤ w3.heap.size := by have h9 := hB.size; (try simp at h9); omega
            have hpq : w3.heap.size ≠ w2.heap.size := by have h9 := hR.lt; (try simp at h9); omega
            have hb : Below w3.heap.size w3 (w3.alloc (.cells #[.int .i64 0, .int .i64 0, .string ⟨#[]⟩, .int .i64 0, .slice none 0 0] 27)) := gal (gre _) _
            have hB := gca hB hb
            have hN := hN.grow hb
            have hR := hR.grow hb
            have hP := Five.new_at w3 ⟨0, 0, ⟨#[]⟩, 0⟩ (.slice none 0 0) 27 (w3.heap.size) (by simp)
            refine hK.out _ _ ⟨hX2.grow hB, hY2.grow hB⟩ ?_
            clear hK
            refine anyU_one (i := 3) (by kernel_rfl) rfl (fun K hK => ?_)
            go_simp
            refine (implCanon_any a' cap' g' _ hg' (ha2'.grow hB)).mono ?_
            rintro e w4 ⟨na', nc', nl', rfl, hnl', hN', hb⟩
            rw [hz2.out]
            have o3 := hN'.off_old hP.lt
            have o4 := hN'.off_old hR.lt
            have hN' := hN'.le hB.size
            have hB := gca hB hb
            have hN := hN.grow hb
            have hP := hP.grow hb
            have hR := hR.grow hb
            refine hK.out _ _ ⟨hX2.grow hB, hY2.grow hB⟩ ?_
            clear hK
            rw [hz1.out] at hnl
            rw [hz2.out] at hnl'
            have hfin := Both.of hB hpw hqw hpq hP hR hN hN' hnl hnl' o1 o2 o3 o4
            obtain ⟨pz, p0, p1, p2, p3, p4, pf⟩ := hP
            obtain ⟨rz, r0, r1, r2, r3, r4, rf⟩ := hR
            have hS6 := hB.trans ((Kept.put5 _ (w3.heap.size) (canon g).root (.slice na (canon g).nodes.length nc)).below hB.size (fun k hk hp => by omega))
            refine anyU_one (i := 6) (by kernel_rfl) rfl (fun K hK => ?_)
            go_simp
            refine hK.out _ _ ⟨hX2.grow hS6, hY2.grow hS6⟩ ?_
            clear hK
            have q0 := (Kept.put5 _ _ (canon g).root (.slice na (canon g).nodes.length nc)).cell r0 (Ne.symm hpq)
            have q1 := (Kept.put5 _ _ (canon g).root (.slice na (canon g).nodes.length nc)).cell r1 (Ne.symm hpq)
            have q2 := (Kept.put5 _ _ (canon g).root (.slice na (canon g).nodes.length nc)).cell r2 (Ne.symm hpq)
            have q3 := (Kept.put5 _ _ (canon g).root (.slice na (canon g).nodes.length nc)).cell r3 (Ne.symm hpq)
            have q4 := (Kept.put5 _ _ (canon g).root (.slice na (canon g).nodes.length nc)).cell r4 (Ne.symm hpq)
            clear p0 p1 p2 p3 p4 r0 r1 r2 r3 r4
            refine anyU_last (by kernel_rfl) rfl (by kernel_rfl) (fun K hK => ?_)
            go_simp
            refine hK.out _ _ ?_
            clear hK
            go_wp2
            go_meet
            case rel => exact hfin
        · go_simp
          have hpw : w2.heap.size ≤ w2.heap.size + 1 := by have h9 := hB.size; (try simp at h9); omega
          have hpq : w2.heap.size + 1 ≠ w2.heap.size := by have h9 := hR.lt; (try simp at h9); omega
          have hb : Below (w2.drew.alloc (.cells #[.int .i64 0, .int .i64 0, .string ⟨#[]⟩, .int .i64 0, .slice none 0 0] 27)).heap.size (w2.drew.alloc (.cells #[.int .i64 0, .int .i64 0, .string ⟨#[]⟩, .int .i64 0, .slice none 0 0] 27)) ((w2.drew.alloc (.cells #[.int .i64 0, .int .i64 0, .string ⟨#[]⟩, .int .i64 0, .slice none 0 0] 27)).alloc (.cells #[.int .i64 0, .int .i64 0, .string ⟨#[]⟩, .int .i64 0, .slice none 0 0] 27)) := gal (gre _) _
          have hB := gca hB hb
          have hR := hR.grow hb
          have hP := Five.new_at (w2.drew.alloc (.cells #[.int .i64 0, .int .i64 0, .string ⟨#[]⟩, .int .i64 0, .slice none 0 0] 27)) ⟨0, 0, ⟨#[]⟩, 0⟩ (.slice none 0 0) 27 (w2.heap.size + 1) (by simp)
          refine hK.out _ _ ⟨hX2.grow hB, hY2.grow hB⟩ ?_
          clear hK
          refine anyU_one (i := 1) (by kernel_rfl) rfl (fun K hK => ?_)
          go_simp
          refine (implCanon_any a cap g _ hg (ha2.grow hB)).mono ?_
          rintro e w3 ⟨na, nc, nl, rfl, hnl, hN, hb⟩
          rw [hz1.out]
          have o1 := hN.off_old hP.lt
          have o2 := hN.off_old hR.lt
          have hN := hN.le hB.size
          have hB := gca hB hb
          have hP := hP.grow hb
          have hR := hR.grow hb
          refine hK.out _ _ ⟨hX2.grow hB, hY2.grow hB⟩ ?_
          clear hK
          refine anyU_one (i := 3) (by kernel_rfl) rfl (fun K hK => ?_)
          go_simp
          refine (implCanon_any a' cap' g' _ hg' (ha2'.grow hB)).mono ?_
          rintro e w4 ⟨na', nc', nl', rfl, hnl', hN', hb⟩
          rw [hz2.out]
          have o3 := hN'.off_old hP.lt
          have o4 := hN'.off_old hR.lt
          have hN' := hN'.le hB.size
          have hB := gca hB hb
          have hN := hN.grow hb
          have hP := hP.grow hb
          have hR := hR.grow hb
          refine hK.out _ _ ⟨hX2.grow hB, hY2.grow hB⟩ ?_
          clear hK
          rw [hz1.out] at hnl
          rw [hz2.out] at hnl'
          have hfin := Both.of hB hpw hqw hpq hP hR hN hN' hnl hnl' o1 o2 o3 o4
          obtain ⟨pz, p0, p1, p2, p3, p4, pf⟩ := hP
          obtain ⟨rz, r0, r1, r2, r3, r4, rf⟩ := hR
          have hS6 := hB.trans ((Kept.put5 _ (w2.heap.size + 1) (canon g).root (.slice na (canon g).nodes.length nc)).below hB.size (fun k hk hp => by omega))
          refine anyU_one (i := 6) (by kernel_rfl) rfl (fun K hK => ?_)
          go_simp
          refine hK.out _ _ ⟨hX2.grow hS6, hY2.grow hS6⟩ ?_
          clear hK
          have q0 := (Kept.put5 _ _ (canon g).root (.slice na (canon g).nodes.length nc)).cell r0 (Ne.symm hpq)
          have q1 := (Kept.put5 _ _ (canon g).root (.slice na (canon g).nodes.length nc)).cell r1 (Ne.symm hpq)
          have q2 := (Kept.put5 _ _ (canon g).root (.slice na (canon g).nodes.length nc)).cell r2 (Ne.symm hpq)
          have q3 := (Kept.put5 _ _ (canon g).root (.slice na (canon g).nodes.length nc)).cell r3 (Ne.symm hpq)
          have q4 := (Kept.put5 _ _ (canon g).root (.slice na (canon g).nodes.length nc)).cell r4 (Ne.symm hpq)
          clear p0 p1 p2 p3 p4 r0 r1 r2 r3 r4
          refine anyU_last (by kernel_rfl) rfl (by kernel_rfl) (fun K hK => ?_)
          go_simp
          refine hK.out _ _ ?_
          clear hK
          go_wp2
          go_meet
          case rel => exact hfin

end Go.Proofs.Ythjddpkegooobaa
