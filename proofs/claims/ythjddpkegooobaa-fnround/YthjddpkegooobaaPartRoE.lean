import Derived.Test.YthjddpkegooobaaPartRoD

/-
  LINKED2: the things made, walked. Own work.
-/
namespace Go.Proofs.Ythjddpkegooobaa
open Go.RowKit

set_option maxRecDepth 100000 in
theorem info_thing : (Try.prog.info? 139).map (fun i => (i.zero, i.size, i.bytes)) = some (some (.pointer none), 1, 8) := by kernel_rfl
theorem info_value : (Try.prog.info? 80).map (fun i => (i.zero, i.size, i.bytes)) = some (some .nilIface, 1, 16) := by kernel_rfl

/-- what making the things leaves -/
def LinkedPost (g : GG) (a : Option Addr) (cap : Nat) (w : World) (e : Ending) (w' : World) : Prop :=
  ∃ (B : Nat) (tb : Nat → Nat) (xa : Nat → Option Addr) (xc : Nat → Nat), e = .returned (encV tb g.root) ∧ L2 g a cap w B tb w' (fun i => g.nodes[i]!.vals.length) xa xc

set_option maxHeartbeats 1000000 in
set_option maxRecDepth 100000 in
theorem linked_any (a : Option Addr) (cap : Nat) (g : GG) (w : World) (hok : okG g = true) (ha : NodesAt w.heap.size w a g.nodes) :
    Calls Try.prog 56 #[g.val a cap] w (LinkedPost g a cap w) := by
  obtain ⟨hn, hroot, hnodes⟩ := okG_parts hok
  obtain ⟨i0, hi, hz0, hz1, hz2⟩ := info_parts info_value
  have hmk := fun u => run_make_row' (P := Try.prog) 134 139 (.pointer none) 8 Try.underlying134 info_thing rfl .i64 .i64 g.nodes.length (by omega) (by omega) u
  go_enter Try.func56, Try.ntmps56
  go_wp2
  go_loopw [17] (fun i wr => ∃ (k : Nat) (tb : Nat → Nat), k ≤ g.nodes.length ∧ i = .int .i64 k ∧ L1 g a cap w wr k tb) (fun i _ => g.nodes.length - (intOf i).toNat)
  case atStart =>
    refine ⟨0, fun _ => 0, Nat.zero_le _, rfl, gal (gal (gre _) _) _, (GBox.new w g a cap _).grow (gal (gre _) _), ?_, fun i hi => absurd hi (Nat.not_lt_zero _), fun i j _ hj => absurd hj (Nat.not_lt_zero _)⟩
    exact ⟨_, blk_new_at _ _ _ (by simp), size_madeCells _ _, fun i hi => by simp [madeCells, hi, Nat.mod_one]⟩
  case round =>
    obtain ⟨k, tb, hk, rfl, hL⟩ := hrel
    have hbl := hL.box.lt
    have hrl := hL.row.lt
    by_cases hlt : k < g.nodes.length
    · obtain ⟨n, b, off, av, cv, hnx, hnm, rfl, hbs, hva⟩ := ha.get hlt
      have hva := hva.below hL.low hbs
      have c0 := hva.tag
      have c1 := hva.sl
      have hbb : b < wr.heap.size := Nat.lt_of_lt_of_le hbs hL.low.size
      have d0 := hL.row.cell hlt
      have df := hL.row.frozen k
      rw [if_neg (by omega)] at d0
      have hst := hL.step (.slice av n.vals.length cv) 84 142
      rw [← hnx.out] at hst
      have hst' : Hid _ := hst
      clear hst hva
      go_wp2
      go_roundw
      case rel => exact ⟨k + 1, _, by omega, by go_num, hst'.out⟩
      case measure => simp [intOf]; omega
    · have e : k = g.nodes.length := by omega
      subst e
      have hb4 := hL.box.sl
      have hS : L2 g a cap w wr.heap.size tb wr (fun _ => 0) (fun _ => none) (fun _ => 0) := {
        low := hL.low
        base := ⟨hrl, Nat.le_refl _⟩
        box := hL.box
        th := hL.row.congr fun i hi => by rw [if_pos hi]
        tbs := fun i hi => ⟨(hL.things i hi).2, (hL.things i hi).1.lt⟩
        inj := fun i j hi hj e => by
          rcases Nat.lt_trichotomy i j with h | h | h
          · have := hL.inj i j h hj; omega
          · exact h
          · have := hL.inj j i h hi; omega
        cell := fun i hi => (hL.things i hi).1
        vals := fun i hi => by simpa using World.ownsRow_nil wr wr.heap.size 80 1
        ap := fun i j _ _ _ b hb => by cases hb }
      obtain ⟨B, hB⟩ : ∃ B, B = wr.heap.size := ⟨_, rfl⟩
      rw [← hB] at hS
      clear hL hB
      go_wp2
      go_loopw [33] (fun i ws => ∃ (k : Nat) (xa : Nat → Option Addr) (xc : Nat → Nat), k ≤ g.nodes.length ∧ i = .int .i64 k ∧ L2 g a cap w B tb ws (fun i => if i < k then g.nodes[i]!.vals.length else 0) xa xc) (fun i _ => g.nodes.length - (intOf i).toNat)
      case atStart => exact ⟨0, _, _, Nat.zero_le _, rfl, by simpa using hS⟩
      case round =>
        clear hS
        rename World => wo
        obtain ⟨k, xa, xc, hk, rfl, hS⟩ := hrel
        by_cases hlt : k < g.nodes.length
        · obtain ⟨n, b, off, av, cv, hnx, hnm, rfl, hbs, hva⟩ := ha.get hlt
          have hva := hva.below hS.low hbs
          have c0 := hva.tag
          have c1 := hva.sl
          have hv1 : ValsAt w.heap.size wo av n.vals := hva.vals
          have hbb : b < wo.heap.size := Nat.lt_of_lt_of_le hbs hS.low.size
          have hvl := (okN_parts (hnodes n hnm)).1
          have hvok := (okN_parts (hnodes n hnm)).2
          go_wp2
          go_loopw [41] (fun i ws => ∃ (j : Nat) (xa : Nat → Option Addr) (xc : Nat → Nat), j ≤ n.vals.length ∧ i = .int .i64 j ∧ Below w.heap.size wo ws ∧ L2 g (some ⟨b, off, none⟩) cap w B tb ws (fun i => if i < k then g.nodes[i]!.vals.length else if i = k then j else 0) xa xc) (fun i _ => n.vals.length - (intOf i).toNat)
          case atStart => exact ⟨0, xa, xc, Nat.zero_le _, rfl, (Below.refl _ _).alloc hS.low.size _, by simpa using hS.grow (gal (gre _) _)⟩
          case round =>
            clear hS
            obtain ⟨j, xa, xc, hj, rfl, hbl2, hS⟩ := hrel
            by_cases hjl : j < n.vals.length
            · obtain ⟨v, bb, oo, hvj, hvm, rfl, hbs2, hva2⟩ := (hv1.below hbl2).get hjl
              have q0 := hva2.kind
              have q1 := hva2.num
              have q2 := hva2.text
              have q3 := hva2.node
              have hb3 : bb < wr.heap.size := by have h1 := hbl2.size; have h2 := hS.low.size; omega
              have hth := hS.th.cell hlt
              have hthl := hS.th.lt
              have htc := hS.cell k hlt
              rw [if_neg (by omega), if_pos rfl] at htc
              obtain ⟨tz, t0, t1, tf⟩ := htc
              have i0' : (0 : Int) ≤ (k : Int) := by omega
              have i1' : (k : Int) < (g.nodes.length : Int) := by omega
              go_wp2
              have hS1 := hS.grow (gdr (gal (gre wr) (.cells #[.int .i64 v.kind, .int .i64 v.num, .string v.text, .int .i64 v.node] 24)))
              have hvokv := hvok v hvm
              have htb := hS.tbs k hlt
              have hBw := hS.base.2
              have hrows := hS1.vals k hlt
              rw [if_neg (by omega), if_pos rfl] at hrows
              have hnb : ∀ b, (Value.slice (xa k) j (xc k)).ownBlock = some b → B ≤ b ∧ b < wr.heap.size := fun b hb => by
                have h1 := hS.vals k hlt
                rw [if_neg (by omega), if_pos rfl] at h1
                exact h1.lt b hb
              have hF := (Four.new wr v 24).same (w' := (wr.alloc (.cells #[.int .i64 v.kind, .int .i64 v.num, .string v.text, .int .i64 v.node] 24)).drew) rfl (by simp)
              have hT1 := hS1.cell k hlt
              rw [if_neg (by omega), if_pos rfl] at hT1
              have hd : Hid (_ ∧ _ ∧ _ ∧ _ ∧ _ ∧ _) := ⟨hS1.th.cell hlt, hT1.c1, hF.c0, hF.c1, hF.c2, hF.c3⟩
              have hTH : Hid _ := hT1
              clear hF hT1
              refine wp_regionU (fun u => u.cell? ⟨w.heap.size + 1, k, none⟩ = some (.pointer (some ⟨tb k, 0, none⟩)) ∧ u.cell? ⟨tb k, 1, none⟩ = some (.slice (xa k) j (xc k)) ∧ u.cell? ⟨wr.heap.size, 0, none⟩ = some (.int .i64 v.kind) ∧ u.cell? ⟨wr.heap.size, 1, none⟩ = some (.int .i64 v.num) ∧ u.cell? ⟨wr.heap.size, 2, none⟩ = some (.string v.text) ∧ u.cell? ⟨wr.heap.size, 3, none⟩ = some (.int .i64 v.node)) 18 (by kernel_rfl) hd.out (fun hS0 => ?_)
              refine anyU_take (i := 0) (v := ?_) rfl (by kernel_rfl) (by kernel_rfl) (by kernel_rfl) (by kernel_rfl) (fun _ _ _ h => h) (Or.inl ⟨by rfl, ?_⟩) hS0 ?_
              rotate_left
              · intro u hSu; obtain ⟨p0, p1, p2, p3, p4, p5⟩ := hSu; go_simp <;> with_reducible rfl
              simp only [Act.put, List.getElem_toArray, List.getElem_cons_zero, List.setIfInBounds_toArray, List.set_cons_zero, List.set_cons_succ]
              refine anyU_take (i := 1) (v := ?_) rfl (by kernel_rfl) (by kernel_rfl) (by kernel_rfl) (by kernel_rfl) (fun _ _ _ h => h) (Or.inl ⟨by rfl, ?_⟩) hS0 ?_
              rotate_left
              · intro u hSu; obtain ⟨p0, p1, p2, p3, p4, p5⟩ := hSu; go_simp <;> with_reducible rfl
              simp only [Act.put, List.getElem_toArray, List.getElem_cons_zero, List.getElem_cons_succ, List.setIfInBounds_toArray, List.set_cons_zero, List.set_cons_succ]
              refine anyU_take (i := 2) (v := ?_) rfl (by kernel_rfl) (by kernel_rfl) (by kernel_rfl) (by kernel_rfl) (fun _ _ _ h => h) (Or.inl ⟨by rfl, ?_⟩) hS0 ?_
              rotate_left
              · intro u hSu; obtain ⟨p0, p1, p2, p3, p4, p5⟩ := hSu; go_simp <;> with_reducible rfl
              simp only [Act.put, List.getElem_toArray, List.getElem_cons_zero, List.getElem_cons_succ, List.setIfInBounds_toArray, List.set_cons_zero, List.set_cons_succ]
              refine anyU_take (i := 3) (v := ?_) rfl (by kernel_rfl) (by kernel_rfl) (by kernel_rfl) (by kernel_rfl) (fun _ _ _ h => h) (Or.inl ⟨by rfl, ?_⟩) hS0 ?_
              rotate_left
              · intro u hSu; obtain ⟨p0, p1, p2, p3, p4, p5⟩ := hSu; go_simp <;> with_reducible rfl
              simp only [Act.put, List.getElem_toArray, List.getElem_cons_zero, List.getElem_cons_succ, List.setIfInBounds_toArray, List.set_cons_zero, List.set_cons_succ]
              refine anyU_take (i := 4) (v := ?_) rfl (by kernel_rfl) (by kernel_rfl) (by kernel_rfl) (by kernel_rfl) (fun _ _ _ h => h) (Or.inl ⟨by rfl, ?_⟩) hS0 ?_
              rotate_left
              · intro u hSu; obtain ⟨p0, p1, p2, p3, p4, p5⟩ := hSu; go_simp <;> with_reducible rfl
              simp only [Act.put, List.getElem_toArray, List.getElem_cons_zero, List.getElem_cons_succ, List.setIfInBounds_toArray, List.set_cons_zero, List.set_cons_succ]
              refine anyU_take (i := 5) (v := ?_) rfl (by kernel_rfl) (by kernel_rfl) (by kernel_rfl) (by kernel_rfl) (fun _ _ _ h => h) (Or.inl ⟨by rfl, ?_⟩) hS0 ?_
              rotate_left
              · intro u hSu; obtain ⟨p0, p1, p2, p3, p4, p5⟩ := hSu; go_simp <;> with_reducible rfl
              simp only [Act.put, List.getElem_toArray, List.getElem_cons_zero, List.getElem_cons_succ, List.setIfInBounds_toArray, List.set_cons_zero, List.set_cons_succ]
              refine anyU_take (i := 6) (v := ?_) rfl (by kernel_rfl) (by kernel_rfl) (by kernel_rfl) (by kernel_rfl) (fun _ _ _ h => h) (Or.inl ⟨by rfl, ?_⟩) hS0 ?_
              rotate_left
              · intro u hSu; obtain ⟨p0, p1, p2, p3, p4, p5⟩ := hSu; go_simp <;> with_reducible rfl
              simp only [Act.put, List.getElem_toArray, List.getElem_cons_zero, List.getElem_cons_succ, List.setIfInBounds_toArray, List.set_cons_zero, List.set_cons_succ]
              refine anyU_take (i := 7) (v := ?_) rfl (by kernel_rfl) (by kernel_rfl) (by kernel_rfl) (by kernel_rfl) (fun _ _ _ h => h) (Or.inl ⟨by rfl, ?_⟩) hS0 ?_
              rotate_left
              · intro u hSu; obtain ⟨p0, p1, p2, p3, p4, p5⟩ := hSu; go_simp <;> with_reducible rfl
              simp only [Act.put, List.getElem_toArray, List.getElem_cons_zero, List.getElem_cons_succ, List.setIfInBounds_toArray, List.set_cons_zero, List.set_cons_succ]
              refine anyU_take (i := 8) (v := ?_) rfl (by kernel_rfl) (by kernel_rfl) (by kernel_rfl) (by kernel_rfl) (fun _ _ _ h => h) (Or.inl ⟨by rfl, ?_⟩) hS0 ?_
              rotate_left
              · intro u hSu; obtain ⟨p0, p1, p2, p3, p4, p5⟩ := hSu; go_simp <;> with_reducible rfl
              simp only [Act.put, List.getElem_toArray, List.getElem_cons_zero, List.getElem_cons_succ, List.setIfInBounds_toArray, List.set_cons_zero, List.set_cons_succ]
              refine anyU_take (i := 9) (v := ?_) rfl (by kernel_rfl) (by kernel_rfl) (by kernel_rfl) (by kernel_rfl) (fun _ _ _ h => h) (Or.inl ⟨by rfl, ?_⟩) hS0 ?_
              rotate_left
              · intro u hSu; obtain ⟨p0, p1, p2, p3, p4, p5⟩ := hSu; go_simp <;> with_reducible rfl
              simp only [Act.put, List.getElem_toArray, List.getElem_cons_zero, List.getElem_cons_succ, List.setIfInBounds_toArray, List.set_cons_zero, List.set_cons_succ]
              refine anyU_take (i := 10) (v := ?_) rfl (by kernel_rfl) (by kernel_rfl) (by kernel_rfl) (by kernel_rfl) (fun _ _ _ h => h) (Or.inl ⟨by rfl, ?_⟩) hS0 ?_
              rotate_left
              · intro u hSu; obtain ⟨p0, p1, p2, p3, p4, p5⟩ := hSu; go_simp <;> with_reducible rfl
              simp only [Act.put, List.getElem_toArray, List.getElem_cons_zero, List.getElem_cons_succ, List.setIfInBounds_toArray, List.set_cons_zero, List.set_cons_succ]
              refine anyU_take (i := 11) (v := ?_) rfl (by kernel_rfl) (by kernel_rfl) (by kernel_rfl) (by kernel_rfl) (fun _ _ _ h => h) (Or.inl ⟨by rfl, ?_⟩) hS0 ?_
              rotate_left
              · intro u hSu; obtain ⟨p0, p1, p2, p3, p4, p5⟩ := hSu; go_simp <;> with_reducible rfl
              simp only [Act.put, List.getElem_toArray, List.getElem_cons_zero, List.getElem_cons_succ, List.setIfInBounds_toArray, List.set_cons_zero, List.set_cons_succ]
              refine anyU_take (i := 12) (v := ?_) rfl (by kernel_rfl) (by kernel_rfl) (by kernel_rfl) (by kernel_rfl) (fun _ _ _ h => h) (Or.inl ⟨by rfl, ?_⟩) hS0 ?_
              rotate_left
              · intro u hSu; obtain ⟨p0, p1, p2, p3, p4, p5⟩ := hSu; go_simp <;> with_reducible rfl
              simp only [Act.put, List.getElem_toArray, List.getElem_cons_zero, List.getElem_cons_succ, List.setIfInBounds_toArray, List.set_cons_zero, List.set_cons_succ]
              refine anyU_one (i := 13) (by kernel_rfl) rfl (fun K hK => ?_)
              go_simp
              refine (valueOf_any g.nodes.length (w.heap.size + 1) tb v _ hvokv hn hS1.th).mono ?_
              rintro e w1 ⟨rfl, hb1⟩
              have hs1 : wr.heap.size + 1 ≤ w1.heap.size := by have h8 := hb1.size; simpa using h8
              have hK1 : Kept (fun _ => False) _ w1 := Kept.of_below hb1 _
              refine hK.out _ _ ⟨hK1.cell hd.out.1 (fun e => e), hK1.cell hd.out.2.1 (fun e => e), hK1.cell hd.out.2.2.1 (fun e => e), hK1.cell hd.out.2.2.2.1 (fun e => e), hK1.cell hd.out.2.2.2.2.1 (fun e => e), hK1.cell hd.out.2.2.2.2.2 (fun e => e)⟩ ?_
              clear hK
              have hA1 : Kept (fun _ => False) w1 (w1.alloc (.cells #[encV tb v] 80)) := (Kept.refl _ w1).alloc _
              have hK2 := hK1.trans hA1 (fun _ _ e => e)
              have hs2 : _ ∧ _ ∧ _ ∧ _ ∧ _ ∧ _ := ⟨hK2.cell hd.out.1 (fun e => e), hK2.cell hd.out.2.1 (fun e => e), hK2.cell hd.out.2.2.1 (fun e => e), hK2.cell hd.out.2.2.2.1 (fun e => e), hK2.cell hd.out.2.2.2.2.1 (fun e => e), hK2.cell hd.out.2.2.2.2.2 (fun e => e)⟩
              have hs2' : Hid _ := hs2
              clear hs2
              refine anyU_one (i := 14) (by kernel_rfl) rfl (fun K hK => ?_)
              go_simp
              refine hK.out _ _ hs2'.out ?_
              clear hK
              refine anyU_one (i := 15) (by kernel_rfl) rfl (fun K hK => ?_)
              refine step_append_lies _ (by rfl) (.tmp 55) (.tmp 59) 140 rfl B 80 i0 .nilIface 1 16 Try.underlying140 hi hz0 hz1 hz2 rfl (by decide) (.slice (xa k) j (xc k)) j _ (by rfl) ((hK1.owns hrows (fun _ _ e => e)).alloc _) ⟨w1.heap.size, 0, none⟩ 1 1 [encV tb v] (by rfl) rfl (World.news_of_block (cs := #[encV tb v]) (t := 80) (fr := (0, 0)) (blk_new_at _ _ _ rfl)) (by simp [encV_one]) (by decide) (by unfold maxLen; omega) (by omega) (by simp; omega) (w1.heap.size + 1) (by simp) ?_
              intro gg cc w3 hown3 hgrow3 hat3 hlt3
              have hKK := (hK2.mono (q := fun b => (Value.slice (xa k) j (xc k)).ownBlock = some b) (fun _ _ e => e.elim)).trans (Kept.of_grown hgrow3) (fun _ _ e => e)
              have hs3 : Hid _ := (⟨hKK.cell hd.out.1 (fun hp => by have h9 := hnb _ hp; omega), hKK.cell hd.out.2.1 (fun hp => by have h9 := hnb _ hp; omega), hKK.cell hd.out.2.2.1 (fun hp => by have h9 := hnb _ hp; omega), hKK.cell hd.out.2.2.2.1 (fun hp => by have h9 := hnb _ hp; omega), hKK.cell hd.out.2.2.2.2.1 (fun hp => by have h9 := hnb _ hp; omega), hKK.cell hd.out.2.2.2.2.2 (fun hp => by have h9 := hnb _ hp; omega)⟩ : _ ∧ _ ∧ _ ∧ _ ∧ _ ∧ _)
              obtain ⟨hz3, hc30, hc31, hf3⟩ := hTH.out.kept hKK (fun hp => by have h9 := hnb _ hp; omega)
              refine hK.out _ _ hs3.out ?_
              clear hK
              simp only [Act.put, List.getElem_toArray, List.getElem_cons_zero, List.getElem_cons_succ, List.setIfInBounds_toArray, List.set_cons_zero, List.set_cons_succ]
              refine anyU_one (i := 16) (by kernel_rfl) rfl (fun K hK => ?_)
              go_simp
              refine hK.out _ _ hs3.out ?_
              clear hK
              refine anyU_one (i := 17) (by kernel_rfl) rfl (fun K hK => ?_)
              go_simp
              refine hK.out _ _ hs3.out ?_
              clear hK
              refine anyU_last (by kernel_rfl) rfl (by kernel_rfl) (fun K hK => ?_)
              go_simp
              refine hK.out _ _ ?_
              clear hK
              go_wp2
              have hG : Below wr.heap.size wr (w1.alloc (.cells #[encV tb v] 80)) := gal (gca (gdr (gal (gre wr) _)) hb1) _
              have hkk : (if k < k then g.nodes[k]!.vals.length else if k = k then j else 0) = j := by rw [if_neg (by omega), if_pos rfl]
              have hst := (hS.grow hG).step (k := k) hlt (v := v) (gg := gg) (cc := cc) (w3 := w3) (by rw [hkk, ← hnx.out]; exact hvj) (by rw [hkk, ← hnx.out]; exact hjl) (by rw [hkk]; exact hown3) (by rw [hkk]; exact hgrow3) (by rw [hkk]; exact hat3.imp id (fun e => by rw [e]; simp))
              have em : (fun i => if i = k then (if k < k then g.nodes[k]!.vals.length else if k = k then j else 0) + 1 else if i < k then g.nodes[i]!.vals.length else if i = k then j else 0) = (fun i => if i < k then g.nodes[i]!.vals.length else if i = k then j + 1 else 0) := by
                funext i
                by_cases e : i = k
                · subst e; simp
                · simp [e]
              rw [em, hkk] at hst
              have hbe : Below w.heap.size wo (w3.setCell ⟨tb k, 1, none⟩ (.slice (some ⟨gg, 0, none⟩) (j + 1) cc)) := by
                have hwl := hS.low.size
                have h1 : Below w.heap.size wr w3 := (((Kept.of_below (gdr (gal (gre wr) _)) _).trans hKK (fun _ _ e => e)).below hwl (fun b hb hp => by have h9 := hnb _ hp; have := hS.base.1; omega))
                exact (hbl2.trans h1).setCell (by show w.heap.size ≤ tb k; omega) _
              go_roundw
              case rel => exact ⟨j + 1, _, _, by omega, by go_num, hbe, hst⟩
              case measure => simp [intOf]; omega
            · have e : j = n.vals.length := by omega
              subst e
              go_wp2
              go_roundw
              case rel =>
                refine ⟨k + 1, xa, xc, by omega, by go_num, ?_⟩
                have em : (fun i => if i < k then g.nodes[i]!.vals.length else if i = k then n.vals.length else 0) = (fun i => if i < k + 1 then g.nodes[i]!.vals.length else 0) := by
                  funext i
                  by_cases e : i = k
                  · subst e; rw [if_neg (by omega), if_pos rfl, if_pos (by omega), ← hnx.out]
                  · by_cases e2 : i < k
                    · rw [if_pos e2, if_pos (by omega)]
                    · rw [if_neg e2, if_neg e, if_neg (by omega)]
                rw [← em]
                exact hS
              case measure => simp [intOf]; omega
        · have e : k = g.nodes.length := by omega
          subst e
          obtain ⟨bz, b0, b1, b2, b3, b4⟩ := hS.box
          have em : L2 g a cap w B tb wo (fun i => g.nodes[i]!.vals.length) xa xc := {
            low := hS.low, base := hS.base, box := hS.box, th := hS.th, tbs := hS.tbs, inj := hS.inj, ap := hS.ap
            cell := fun i hi => by have h1 := hS.cell i hi; rw [if_pos hi] at h1; exact h1
            vals := fun i hi => by have h1 := hS.vals i hi; rw [if_pos hi] at h1; exact h1 }
          go_wp2_with (go_at_call 113; refine (valueOf_any g.nodes.length (w.heap.size + 1) tb g.root _ hroot hn hS.th).mono ?_; rintro e w1 ⟨rfl, hb1⟩)
          go_ret
          exact ⟨B, tb, xa, xc, rfl, em.grow hb1⟩

end Go.Proofs.Ythjddpkegooobaa

/-
  PLACE: a thing's place among those met. Own work.
-/
namespace Go.Proofs.Ythjddpkegooobaa
open Go.RowKit

set_option maxRecDepth 100000 in
theorem zero_int (w : World) : (zeroValue 3).run Try.prog w = .ok (.int .i64 0) w := by kernel_rfl
theorem info_struct_thing : (Try.prog.info? 142).map (fun i => i.size) = some 2 := by kernel_rfl

/-- the meeting: its map and its list -/
structure Meet (w : World) (tb : Nat → Nat) (M mb base : Nat) (ord : List Nat) (ma : Option Addr) (mc : Nat) : Prop where
  lt : M < w.heap.size
  c0 : w.cell? ⟨M, 0, none⟩ = some (.map (some mb))
  c1 : w.cell? ⟨M, 1, none⟩ = some (.slice ma ord.length mc)
  f : ∀ o, w.frozen? ⟨M, o, none⟩ = false
  map : PMap w mb (ord.map tb)
  met : w.ownsRow base 139 1 (.slice ma ord.length mc) ord.length (ord.map fun x => ptr (tb x))
  mlt : M < base ∧ mb < base ∧ M ≠ mb

set_option maxRecDepth 100000 in
theorem Meet.kept {p : Nat → Prop} {w w' : World} {tb : Nat → Nat} {M mb base : Nat} {ord : List Nat} {ma : Option Addr} {mc : Nat} (h : Meet w tb M mb base ord ma mc) (k : Kept p w w') (h1 : ¬ p M) (h2 : ¬ p mb) (h3 : ∀ b, ma = some ⟨b, 0, none⟩ → ¬ p b) : Meet w' tb M mb base ord ma mc :=
  ⟨Nat.lt_of_lt_of_le h.lt k.size, k.cell h.c0 h1, k.cell h.c1 h1, fun o => (World.frozen?_of_block (w := w) (k.block M h.lt h1)).trans (h.f o), h.map.kept k h2, k.owns h.met (fun b hb => h3 b (owns_addr h.met hb)), h.mlt⟩

def addOrd (ord : List Nat) (x : Nat) : List Nat := if x ∈ ord then ord else ord ++ [x]

/-- what asking for a place leaves -/
def PlacePost (w : World) (tb : Nat → Nat) (M mb base : Nat) (ord : List Nat) (x : Nat) (ma : Option Addr) (e : Ending) (w' : World) : Prop :=
  ∃ ma' mc', e = .returned (.int .i64 ((addOrd ord x).idxOf x : Nat)) ∧ Meet w' tb M mb base (addOrd ord x) ma' mc' ∧ (ma' = ma ∨ ∃ b, ma' = some ⟨b, 0, none⟩ ∧ w.heap.size ≤ b) ∧ Kept (fun k => k = M ∨ k = mb ∨ ma = some ⟨k, 0, none⟩) w w'

set_option maxRecDepth 100000 in
theorem idxOf_map {tb : Nat → Nat} {n : Nat} (hinj : ∀ i j, i < n → j < n → tb i = tb j → i = j) : ∀ (ord : List Nat) (x : Nat), (∀ y, y ∈ ord → y < n) → x < n → (ord.map tb).idxOf (tb x) = ord.idxOf x
  | [], _, _, _ => rfl
  | y :: r, x, h, hx => by
    have hy := h y (List.mem_cons_self ..)
    have ih := idxOf_map hinj r x (fun z hz => h z (List.mem_cons_of_mem _ hz)) hx
    rw [List.map_cons, List.idxOf_cons, List.idxOf_cons, ih]
    by_cases e : y = x
    · subst e; simp
    · have e2 : ¬ tb y = tb x := fun e2 => e (hinj y x hy hx e2)
      rw [beq_false_of_ne e, beq_false_of_ne e2]
set_option maxRecDepth 100000 in
theorem mem_map_tb {tb : Nat → Nat} {n : Nat} (hinj : ∀ i j, i < n → j < n → tb i = tb j → i = j) {ord : List Nat} {x : Nat} (h : ∀ y, y ∈ ord → y < n) (hx : x < n) : tb x ∈ ord.map tb ↔ x ∈ ord := by
  constructor
  · intro hm
    obtain ⟨y, hy, e⟩ := List.mem_map.1 hm
    exact hinj y x (h y hy) hx e ▸ hy
  · intro hm; exact List.mem_map.2 ⟨x, hm, rfl⟩
set_option maxRecDepth 100000 in
theorem nodup_map_tb {tb : Nat → Nat} {n : Nat} (hinj : ∀ i j, i < n → j < n → tb i = tb j → i = j) : ∀ {ord : List Nat}, ord.Nodup → (∀ y, y ∈ ord → y < n) → (ord.map tb).Nodup
  | [], _, _ => List.nodup_nil
  | y :: r, hd, h => by
    rw [List.map_cons, List.nodup_cons]
    rw [List.nodup_cons] at hd
    exact ⟨fun hm => hd.1 ((mem_map_tb hinj (fun z hz => h z (List.mem_cons_of_mem _ hz)) (h y (List.mem_cons_self ..))).1 hm), nodup_map_tb hinj hd.2 (fun z hz => h z (List.mem_cons_of_mem _ hz))⟩

set_option maxRecDepth 100000 in
theorem placeOf_old (n : Nat) (tb : Nat → Nat) (M mb base : Nat) (ord : List Nat) (x : Nat) (ma : Option Addr) (mc : Nat) (w : World) (hinv : InvO n ord) (hx : x < n) (_hn : n ≤ 300) (hinj : ∀ i j, i < n → j < n → tb i = tb j → i = j)
    (hcells : ∀ i, i < n → CellsAt w (tb i)) (hM : Meet w tb M mb base ord ma mc) (hm : x ∈ ord) :
    Calls Try.prog 146 #[ptr M, ptr (tb x)] w (PlacePost w tb M mb base ord x ma) := by
  obtain ⟨i0, hi0, hi1⟩ := Option.map_eq_some_iff.1 info_struct_thing
  have hlk := run_lookup_some (P := Try.prog) (tm := 133) (ti := 3) hM.map Try.underlying133 Try.underlying139 hi0 (by omega) (hcells x hx) (fun c hc => by obtain ⟨y, hy, rfl⟩ := List.mem_map.1 hc; exact hcells y (hinv.2 y hy)) (nodup_map_tb hinj hinv.1 hinv.2) ((mem_map_tb hinj hinv.2 hx).2 hm)
  rw [idxOf_map hinj ord x hinv.2 hx] at hlk
  have c0 := hM.c0
  have hml := hM.lt
  have e1 : Hid (addOrd ord x = ord) := if_pos hm
  go_enter Try.func146, Try.ntmps146
  go_wp2
  go_ret
  exact ⟨ma, mc, by rw [e1.out]; rfl, by rw [e1.out]; exact hM, Or.inl rfl, Kept.refl _ _⟩

set_option maxRecDepth 100000 in
theorem placeOf_new (n : Nat) (tb : Nat → Nat) (M mb base : Nat) (ord : List Nat) (x : Nat) (ma : Option Addr) (mc : Nat) (w : World) (hinv : InvO n ord) (hx : x < n) (hn : n ≤ 300) (hinj : ∀ i j, i < n → j < n → tb i = tb j → i = j)
    (hcells : ∀ i, i < n → CellsAt w (tb i)) (hM : Meet w tb M mb base ord ma mc) (hbase : base ≤ w.heap.size) (hm : x ∉ ord) :
    Calls Try.prog 146 #[ptr M, ptr (tb x)] w (PlacePost w tb M mb base ord x ma) := by
  obtain ⟨i0, hi0, hi1⟩ := Option.map_eq_some_iff.1 info_struct_thing
  obtain ⟨t0, ht, hz0, hz1, hz2⟩ := info_parts info_thing
  have hol := hinv.le
  have hks : ∀ c, c ∈ ord.map tb → CellsAt w c := fun c hc => by obtain ⟨y, hy, rfl⟩ := List.mem_map.1 hc; exact hcells y (hinv.2 y hy)
  have hnm : tb x ∉ ord.map tb := fun h => hm ((mem_map_tb hinj hinv.2 hx).1 h)
  have hlk := run_lookup_none (P := Try.prog) (tm := 133) (ti := 3) hM.map Try.underlying133 Try.underlying139 hi0 (by omega) (zero_int w) (hcells x hx) hks hnm
  obtain ⟨w1, hup, hP1, hK1, hsz1⟩ := run_update_new (P := Try.prog) (tm := 133) (ti := 3) hM.map Try.underlying133 Try.underlying139 hi0 (by omega) (hcells x hx) hks hnm
  rw [List.length_map] at hup
  have c0 := hM.c0
  have c1 := hM.c1
  have hml := hM.lt
  obtain ⟨m1, m2, m3⟩ := hM.mlt
  have hmb : ∀ b, ma = some ⟨b, 0, none⟩ → base ≤ b ∧ b < w.heap.size := fun b hb => hM.met.lt b (by rw [hb]; rfl)
  have d0 := hK1.cell c0 m3
  have d1 := hK1.cell c1 m3
  have hown : w1.ownsRow base 139 1 (.slice ma ord.length mc) ord.length (ord.map fun x => ptr (tb x)) := hK1.owns hM.met (fun b hb => by have := hmb b (owns_addr hM.met hb); omega)
  have hml1 : M < w1.heap.size := by omega
  have hbw1 : base ≤ w1.heap.size := by omega
  have hown' : Hid _ := hown
  have hsz' : Hid _ := hsz1
  have hf1 : ∀ o, w1.frozen? ⟨M, o, none⟩ = false := fun o => (World.frozen?_of_block (w := w) (hK1.block M hml m3)).trans (hM.f o)
  have e1 : Hid (addOrd ord x = ord ++ [x]) := if_neg hm
  have hP1' : Hid _ := hP1
  clear hown hsz1 hks hnm hP1
  go_enter Try.func146, Try.ntmps146
  go_wp2_with (at_builtin; go_must (refine wpList_append_lies _ rfl (.tmp 33) (.tmp 35) 134 rfl base 139 t0 (.pointer none) 1 8 Try.underlying134 ht hz0 hz1 hz2 rfl (by decide) (.slice ma ord.length mc) ord.length _ rfl (World.ownsRow.alloc hown'.out _) ⟨w1.heap.size, 0, none⟩ 1 1 [ptr (tb x)] rfl rfl (World.news_of_block (cs := #[ptr (tb x)]) (t := 139) (fr := (0, 0)) (blk_new_at _ _ _ rfl)) (by simp [Value.oneCell']) (by decide) (by unfold maxLen; omega) (by omega) (by simp; omega) (w1.heap.size + 1) (by simp) ?_); intro gg cc w3 hown3 hgrow3 hat3 hlt3; have hq := ((Kept.refl (fun b => (Value.slice ma ord.length mc).ownBlock = some b) w1).alloc (.cells #[ptr (tb x)] 139)).trans (Kept.of_grown hgrow3) (fun _ _ e => e); have g1 := hq.cell d1 (fun hp => by have := hmb M (owns_addr hM.met hp); omega); have gf := fun o => (World.frozen?_of_block (w := w1) (hq.block M hml1 (fun hp => by have := hmb M (owns_addr hM.met hp); omega))).trans (hf1 o))
  have hix : Hid ((ord ++ [x]).idxOf x = ord.length) := by show (ord ++ [x]).idxOf x = ord.length; rw [List.idxOf_append, if_neg hm]; simp
  have hC := (Kept.refl (fun b => b = M) w3).set (a := ⟨M, 1, none⟩) (fun _ => rfl) (.slice (some ⟨gg, 0, none⟩) (ord.length + 1) cc)
  have hgg : base ≤ gg := (hown3.lt gg rfl).1
  have hsz := hsz'.out
  have hgor : (some ⟨gg, 0, none⟩ : Option Addr) = ma ∨ w.heap.size ≤ gg := by
    rcases hat3 with e | e
    · exact Or.inl (owns_addr hM.met e).symm
    · exact Or.inr (by omega)
  go_ret
  refine ⟨some ⟨gg, 0, none⟩, cc, by rw [e1.out, hix.out]; rfl, ?_, hgor.imp id (fun h => ⟨gg, rfl, h⟩), ?_⟩
  · rw [e1.out]
    refine ⟨by have h1 := hq.size; have h2 := hC.size; omega, ?_, ?_, fun o => ?_, ?_, ?_, m1, m2, m3⟩
    · rw [World.cell?_setCell_other _ _ _ _ (by simp)]; exact hq.cell d0 (fun hp => by have := hmb M (owns_addr hM.met hp); omega)
    · rw [World.cell?_setCell_same _ _ _ g1]; simp
    · rw [World.frozen?_setCell]; exact gf o
    · have h1 := (PMap.kept hP1'.out hq (fun hp => by have := hmb mb (owns_addr hM.met hp); omega)).kept hC (fun e => m3 e.symm)
      simpa using h1
    · have h1 := hC.owns hown3 (fun b hb hp => by have := (hown3.lt b hb).1; omega)
      simpa using h1
  · refine ((hK1.mono (q := fun k => k = M ∨ k = mb ∨ ma = some ⟨k, 0, none⟩) (fun k _ e => Or.inr (Or.inl e))).trans hq (fun k hk hp => Or.inr (Or.inr (owns_addr hM.met hp)))).trans hC (fun k hk hp => Or.inl hp)

set_option maxRecDepth 100000 in
theorem placeOf_any (n : Nat) (tb : Nat → Nat) (M mb base : Nat) (ord : List Nat) (x : Nat) (ma : Option Addr) (mc : Nat) (w : World) (hinv : InvO n ord) (hx : x < n) (hn : n ≤ 300) (hinj : ∀ i j, i < n → j < n → tb i = tb j → i = j)
    (hcells : ∀ i, i < n → CellsAt w (tb i)) (hM : Meet w tb M mb base ord ma mc) (hbase : base ≤ w.heap.size) :
    Calls Try.prog 146 #[ptr M, ptr (tb x)] w (PlacePost w tb M mb base ord x ma) := by
  by_cases hm : x ∈ ord
  · exact placeOf_old n tb M mb base ord x ma mc w hinv hx hn hinj hcells hM hm
  · exact placeOf_new n tb M mb base ord x ma mc w hinv hx hn hinj hcells hM hbase hm

end Go.Proofs.Ythjddpkegooobaa

/-
  VALOF: a value taken back from behind its interface. Own work.
-/
namespace Go.Proofs.Ythjddpkegooobaa
open Go.RowKit

set_option maxRecDepth 100000 in
theorem method_num (m : Int) (w : World) : (method 316 177 (.int .i64 m) "loop.example/chest/impl.kind").run Try.prog w = .ok (186, .int .i64 m) w := by kernel_rfl
theorem method_bits (m : Int) (w : World) : (method 316 178 (.int .i64 m) "loop.example/chest/impl.kind").run Try.prog w = .ok (187, .int .i64 m) w := by kernel_rfl
theorem method_text (s : ByteArray) (w : World) : (method 316 179 (.string s) "loop.example/chest/impl.kind").run Try.prog w = .ok (188, .string s) w := by kernel_rfl
set_option maxRecDepth 100000 in
theorem method_thing (b : Nat) (w : World) : (method 316 139 (ptr b) "loop.example/chest/impl.kind").run Try.prog w = .ok (185, ptr b) w := by kernel_rfl
theorem method_nothing (w : World) : (method 316 182 (.agg #[]) "loop.example/chest/impl.kind").run Try.prog w = .ok (189, .agg #[]) w := by kernel_rfl

set_option maxRecDepth 100000 in
theorem ta_num_num (x : Value) (w : World) : (Instr.typeAssert (.iface 177 x) 80 177 true).run Try.prog w = .ok (.tuple #[x, .bool true]) w := by kernel_rfl
theorem ta_bits_num (x : Value) (w : World) : (Instr.typeAssert (.iface 178 x) 80 177 true).run Try.prog w = .ok (.tuple #[.int .i64 0, .bool false]) w := by kernel_rfl
theorem ta_bits_bits (x : Value) (w : World) : (Instr.typeAssert (.iface 178 x) 80 178 true).run Try.prog w = .ok (.tuple #[x, .bool true]) w := by kernel_rfl
set_option maxRecDepth 100000 in
theorem ta_text_num (x : Value) (w : World) : (Instr.typeAssert (.iface 179 x) 80 177 true).run Try.prog w = .ok (.tuple #[.int .i64 0, .bool false]) w := by kernel_rfl
theorem ta_text_bits (x : Value) (w : World) : (Instr.typeAssert (.iface 179 x) 80 178 true).run Try.prog w = .ok (.tuple #[.int .i64 0, .bool false]) w := by kernel_rfl
theorem ta_text_text (x : Value) (w : World) : (Instr.typeAssert (.iface 179 x) 80 179 true).run Try.prog w = .ok (.tuple #[x, .bool true]) w := by kernel_rfl
set_option maxRecDepth 100000 in
theorem ta_thing_num (x : Value) (w : World) : (Instr.typeAssert (.iface 139 x) 80 177 true).run Try.prog w = .ok (.tuple #[.int .i64 0, .bool false]) w := by kernel_rfl
theorem ta_thing_bits (x : Value) (w : World) : (Instr.typeAssert (.iface 139 x) 80 178 true).run Try.prog w = .ok (.tuple #[.int .i64 0, .bool false]) w := by kernel_rfl
theorem ta_thing_text (x : Value) (w : World) : (Instr.typeAssert (.iface 139 x) 80 179 true).run Try.prog w = .ok (.tuple #[.string .empty, .bool false]) w := by kernel_rfl
set_option maxRecDepth 100000 in
theorem ta_thing_thing (x : Value) (w : World) : (Instr.typeAssert (.iface 139 x) 80 139 true).run Try.prog w = .ok (.tuple #[x, .bool true]) w := by kernel_rfl
theorem ta_nothing_num (x : Value) (w : World) : (Instr.typeAssert (.iface 182 x) 80 177 true).run Try.prog w = .ok (.tuple #[.int .i64 0, .bool false]) w := by kernel_rfl
theorem ta_nothing_bits (x : Value) (w : World) : (Instr.typeAssert (.iface 182 x) 80 178 true).run Try.prog w = .ok (.tuple #[.int .i64 0, .bool false]) w := by kernel_rfl
set_option maxRecDepth 100000 in
theorem ta_nothing_text (x : Value) (w : World) : (Instr.typeAssert (.iface 182 x) 80 179 true).run Try.prog w = .ok (.tuple #[.string .empty, .bool false]) w := by kernel_rfl
theorem ta_nothing_thing (x : Value) (w : World) : (Instr.typeAssert (.iface 182 x) 80 139 true).run Try.prog w = .ok (.tuple #[.pointer none, .bool false]) w := by kernel_rfl

set_option maxRecDepth 100000 in
theorem valOf_num (M : Nat) (m : Int) (w : World) :
    Calls Try.prog 111 #[ptr M, .iface 177 (.int .i64 m)] w fun e w' => e = .returned (GV.mk 1 m ⟨#[]⟩ 0).val ∧ Below w.heap.size w w' := by
  have hme := method_num m
  have h1 := ta_num_num (.int .i64 m)
  go_enter Try.func111, Try.ntmps111
  go_wp2
  exact bodyPost_ret (v := (GV.mk 1 m ⟨#[]⟩ 0).val) (by simp [results, Try.results111, go_sem]) rfl ⟨rfl, gal (gal (gre _) _) _⟩

set_option maxRecDepth 100000 in
theorem valOf_bits (M : Nat) (m : Int) (w : World) :
    Calls Try.prog 111 #[ptr M, .iface 178 (.int .i64 m)] w fun e w' => e = .returned (GV.mk 2 m ⟨#[]⟩ 0).val ∧ Below w.heap.size w w' := by
  have hme := method_bits m
  have h1 := ta_bits_num (.int .i64 m)
  have h2 := ta_bits_bits (.int .i64 m)
  go_enter Try.func111, Try.ntmps111
  go_wp2
  exact bodyPost_ret (v := (GV.mk 2 m ⟨#[]⟩ 0).val) (by simp [results, Try.results111, go_sem]) rfl ⟨rfl, gal (gal (gre _) _) _⟩

set_option maxRecDepth 100000 in
theorem valOf_nothing (M : Nat) (w : World) :
    Calls Try.prog 111 #[ptr M, .iface 182 (.agg #[])] w fun e w' => e = .returned (GV.mk 0 0 ⟨#[]⟩ 0).val ∧ Below w.heap.size w w' := by
  have hme := method_nothing
  have h1 := ta_nothing_num (.agg #[])
  have h2 := ta_nothing_bits (.agg #[])
  have h3 := ta_nothing_text (.agg #[])
  have h4 := ta_nothing_thing (.agg #[])
  go_enter Try.func111, Try.ntmps111
  go_wp2
  exact bodyPost_ret (v := (GV.mk 0 0 ⟨#[]⟩ 0).val) (by simp [results, Try.results111, go_sem]) rfl ⟨rfl, gal (gal (gal (gre _) _) _) _⟩

set_option maxRecDepth 100000 in
theorem valOf_text (M : Nat) (s : ByteArray) (w : World) (hs : s.size ≤ 1000) :
    Calls Try.prog 111 #[ptr M, .iface 179 (.string s)] w fun e w' => e = .returned (GV.mk 3 0 s 0).val ∧ Below w.heap.size w w' := by
  have hme := method_text s
  have h1 := ta_text_num (.string s)
  have h2 := ta_text_bits (.string s)
  have h3 := ta_text_text (.string s)
  go_enter Try.func111, Try.ntmps111
  go_wp2_with (first | (go_at_call 145; refine (clone_any s _ hs).mono ?_; rintro e w' ⟨rfl, hb⟩; obtain ⟨z0, a0, a1, a2, a3, af⟩ := ((Four.new_at w ⟨0, 0, ⟨#[]⟩, 0⟩ 24 w.heap.size rfl).alloc _).kept (Kept.of_below hb (fun _ => False)) (fun e => e); obtain ⟨z1, b0, b1, b2, b3, bf⟩ := (Four.new_at _ ⟨3, 0, ⟨#[]⟩, 0⟩ 24 (w.heap.size + 1) (by simp)).kept (Kept.of_below hb (fun _ => False)) (fun e => e)) | go_in)
  refine bodyPost_ret (v := (GV.mk 3 0 s 0).val) (by simp [results, Try.results111, go_sem, a0, a1, a2, a3]) rfl ⟨rfl, ?_⟩
  exact gse (gse (gse (gse (gse (gca (gal (gal (gre _) _) _) hb) (by simp) _) (by simp) _) (by simp) _) (by simp) _) (by simp) _

/-- what taking a value back leaves -/
def ValPost (w : World) (tb : Nat → Nat) (M mb base : Nat) (ord : List Nat) (v : GV) (ma : Option Addr) (e : Ending) (w' : World) : Prop :=
  ∃ ma' mc', e = .returned (renVal ord v).val ∧ Meet w' tb M mb base (renOrd ord v) ma' mc' ∧ (ma' = ma ∨ ∃ b, ma' = some ⟨b, 0, none⟩ ∧ w.heap.size ≤ b) ∧ Kept (fun k => k = M ∨ k = mb ∨ ma = some ⟨k, 0, none⟩) w w'

set_option maxRecDepth 100000 in
theorem renOrd_add {ord : List Nat} {v : GV} (hk : v.kind = 4) : renOrd ord v = addOrd ord v.node.toNat := by
  unfold renOrd addOrd
  by_cases h : v.node.toNat ∈ ord
  · rw [if_neg (fun c => c.2 h), if_pos h]
  · rw [if_pos ⟨hk, h⟩, if_neg h]

set_option maxRecDepth 100000 in
theorem valOf_thing (n : Nat) (tb : Nat → Nat) (M mb base : Nat) (ord : List Nat) (x : Nat) (ma : Option Addr) (mc : Nat) (w : World) (hinv : InvO n ord) (hx : x < n) (hn : n ≤ 300) (hinj : ∀ i j, i < n → j < n → tb i = tb j → i = j)
    (hcells : ∀ i, i < n → CellsAt w (tb i)) (hM : Meet w tb M mb base ord ma mc) (hbase : base ≤ w.heap.size) :
    Calls Try.prog 111 #[ptr M, .iface 139 (ptr (tb x))] w (ValPost w tb M mb base ord ⟨4, 0, ⟨#[]⟩, x⟩ ma) := by
  have hme := method_thing (tb x)
  have h1 := ta_thing_num (ptr (tb x))
  have h2 := ta_thing_bits (ptr (tb x))
  have h3 := ta_thing_text (ptr (tb x))
  have h4 := ta_thing_thing (ptr (tb x))
  have hA : Kept (fun _ => False) w ((w.alloc (.cells #[.int .i64 0, .int .i64 0, .string ⟨#[]⟩, .int .i64 0] 24)).alloc (.cells #[.int .i64 4, .int .i64 0, .string ⟨#[]⟩, .int .i64 0] 24)) := ((Kept.refl _ w).alloc _).alloc _
  have hM1 := hM.kept hA (fun e => e) (fun e => e) (fun _ _ e => e)
  have hcells1 : ∀ i, i < n → CellsAt ((w.alloc (.cells #[.int .i64 0, .int .i64 0, .string ⟨#[]⟩, .int .i64 0] 24)).alloc (.cells #[.int .i64 4, .int .i64 0, .string ⟨#[]⟩, .int .i64 0] 24)) (tb i) := fun i hi => by
    obtain ⟨c, t, hc⟩ := hcells i hi
    exact ⟨c, t, (hA.block _ (Array.getElem?_eq_some_iff.1 hc).1 (fun e => e)).trans hc⟩
  have hnew0 : ¬ (w.heap.size = M ∨ w.heap.size = mb ∨ ma = some ⟨w.heap.size, 0, none⟩) := fun hp => by
    have hm := hM.mlt
    rcases hp with hp | hp | hp
    · omega
    · omega
    · have := (hM.met.lt w.heap.size (by rw [hp]; rfl)).2; omega
  have hnew1 : ¬ (w.heap.size + 1 = M ∨ w.heap.size + 1 = mb ∨ ma = some ⟨w.heap.size + 1, 0, none⟩) := fun hp => by
    have hm := hM.mlt
    rcases hp with hp | hp | hp
    · omega
    · omega
    · have := (hM.met.lt (w.heap.size + 1) (by rw [hp]; rfl)).2; omega
  go_enter Try.func111, Try.ntmps111
  go_wp2_with (first | (go_at_call 146; refine (placeOf_any n tb M mb base ord x ma mc _ hinv hx hn hinj hcells1 hM1 (by simp; omega)).mono ?_; rintro e w' ⟨ma', mc', rfl, hM', hor, hK'⟩; obtain ⟨z0, a0, a1, a2, a3, af⟩ := ((Four.new_at w ⟨0, 0, ⟨#[]⟩, 0⟩ 24 w.heap.size rfl).alloc _).kept hK' hnew0; obtain ⟨z1, b0, b1, b2, b3, bf⟩ := (Four.new_at _ ⟨4, 0, ⟨#[]⟩, 0⟩ 24 (w.heap.size + 1) (by simp)).kept hK' hnew1) | go_in)
  have hx4 : Hid (renVal ord ⟨4, 0, ⟨#[]⟩, x⟩ = ⟨4, 0, ⟨#[]⟩, ((addOrd ord x).idxOf x : Nat)⟩) := by
    show renVal ord ⟨4, 0, ⟨#[]⟩, x⟩ = _
    unfold renVal
    rw [if_pos rfl, renOrd_add rfl]
    rfl
  have hx5 : Hid (renOrd ord ⟨4, 0, ⟨#[]⟩, x⟩ = addOrd ord x) := renOrd_add rfl
  have hC : Kept (fun k => k = w.heap.size ∨ k = w.heap.size + 1) w' (((((w'.setCell ⟨w.heap.size + 1, 3, none⟩ (.int .i64 ((addOrd ord x).idxOf x : Nat))).setCell ⟨w.heap.size, 0, none⟩ (.int .i64 4)).setCell ⟨w.heap.size, 1, none⟩ (.int .i64 0)).setCell ⟨w.heap.size, 2, none⟩ (.string ⟨#[]⟩)).setCell ⟨w.heap.size, 3, none⟩ (.int .i64 ((addOrd ord x).idxOf x : Nat))) :=
    (((((Kept.refl (fun k => k = w.heap.size ∨ k = w.heap.size + 1) w').set (fun _ => Or.inr rfl) _).set (fun _ => Or.inl rfl) _).set (fun _ => Or.inl rfl) _).set (fun _ => Or.inl rfl) _).set (fun _ => Or.inl rfl) _
  obtain ⟨m1, m2, m3⟩ := hM.mlt
  refine bodyPost_ret (v := (GV.mk 4 0 ⟨#[]⟩ ((addOrd ord x).idxOf x : Nat)).val) (by simp [results, Try.results111, go_sem, a0, a1, a2, a3]) rfl ⟨ma', mc', by rw [hx4.out], ?_, ?_, ?_⟩
  · rw [hx5.out]
    refine hM'.kept hC (by omega) (by omega) (fun b hb => ?_)
    rcases hor with e | ⟨c, e, hc⟩
    · have := hM.met.lt b (by rw [← e, hb]; rfl); omega
    · rw [hb] at e
      have e2 := some_addr e
      have h7 := hM'.met.lt b (by rw [hb]; rfl)
      simp at hc
      omega
  · rcases hor with e | ⟨c, e, hc⟩
    · exact Or.inl e
    · simp at hc; exact Or.inr ⟨c, e, by omega⟩
  · exact ((hA.mono (q := fun k => k = M ∨ k = mb ∨ ma = some ⟨k, 0, none⟩) (fun _ _ e => e.elim)).trans hK' (fun _ _ e => e)).trans hC (fun k hk hp => by omega)

set_option maxRecDepth 100000 in
theorem text_empty {s : ByteArray} (h : s.toList = []) : s = ⟨#[]⟩ := by
  apply ByteArray.ext
  have h2 : s.data.toList = [] := by rw [← ByteArray.toList_eq]; exact h
  simpa using h2

set_option maxRecDepth 100000 in
theorem ValPost.of_below {w : World} {tb : Nat → Nat} {M mb base : Nat} {ord : List Nat} {v : GV} {ma : Option Addr} {mc : Nat} (hM : Meet w tb M mb base ord ma mc) (hk : v.kind ≠ 4) {e : Ending} {w' : World} (he : e = .returned v.val) (hb : Below w.heap.size w w') : ValPost w tb M mb base ord v ma e w' := by
  obtain ⟨e1, e2⟩ := ren_not (ord := ord) hk
  have hK : Kept (fun _ => False) w w' := Kept.of_below hb _
  exact ⟨ma, mc, by rw [e2]; exact he, by rw [e1]; exact hM.kept hK (fun e => e) (fun e => e) (fun _ _ e => e), Or.inl rfl, hK.mono (fun _ _ e => e.elim)⟩

set_option maxRecDepth 100000 in
theorem valOf_any (n : Nat) (tb : Nat → Nat) (M mb base : Nat) (ord : List Nat) (v : GV) (ma : Option Addr) (mc : Nat) (w : World) (hv : okV n v = true) (hinv : InvO n ord) (hn : n ≤ 300) (hinj : ∀ i j, i < n → j < n → tb i = tb j → i = j)
    (hcells : ∀ i, i < n → CellsAt w (tb i)) (hM : Meet w tb M mb base ord ma mc) (hbase : base ≤ w.heap.size) :
    Calls Try.prog 111 #[ptr M, encV tb v] w (ValPost w tb M mb base ord v ma) := by
  obtain ⟨k, m, t, x⟩ := v
  have hv' := hv
  unfold okV at hv'
  dsimp only at hv'
  by_cases h1 : k = 1
  · subst h1
    rw [if_neg (by decide), if_pos (Or.inl rfl)] at hv'
    obtain ⟨ht, hx⟩ := of_decide_eq_true hv'
    obtain rfl := text_empty ht
    subst hx
    rw [enc1 rfl]
    exact (valOf_num M m w).mono fun e w' h => ValPost.of_below hM (by simp) h.1 h.2
  by_cases h2 : k = 2
  · subst h2
    rw [if_neg (by decide), if_pos (Or.inr rfl)] at hv'
    obtain ⟨ht, hx⟩ := of_decide_eq_true hv'
    obtain rfl := text_empty ht
    subst hx
    rw [enc2 rfl]
    exact (valOf_bits M m w).mono fun e w' h => ValPost.of_below hM (by simp) h.1 h.2
  by_cases h3 : k = 3
  · subst h3
    rw [if_neg (by decide), if_neg (by decide), if_pos rfl] at hv'
    obtain ⟨hm, hx, ht⟩ := of_decide_eq_true hv'
    subst hm hx
    rw [enc3 rfl]
    exact (valOf_text M t w ht).mono fun e w' h => ValPost.of_below hM (by simp) h.1 h.2
  by_cases h4 : k = 4
  · subst h4
    rw [if_neg (by decide), if_neg (by decide), if_neg (by decide), if_pos rfl] at hv'
    obtain ⟨hm, ht, hx0, hxn⟩ := of_decide_eq_true hv'
    obtain rfl := text_empty ht
    subst hm
    obtain ⟨y, rfl⟩ := Int.eq_ofNat_of_zero_le hx0
    rw [enc4 rfl]
    exact valOf_thing n tb M mb base ord y ma mc w hinv (by omega) hn hinj hcells hM hbase
  · by_cases h0 : k = 0
    · subst h0
      rw [if_pos rfl] at hv'
      obtain ⟨hm, ht, hx⟩ := of_decide_eq_true hv'
      obtain rfl := text_empty ht
      subst hm hx
      rw [enc0 (by decide) (by decide) (by decide) (by decide)]
      exact (valOf_nothing M w).mono fun e w' h => ValPost.of_below hM (by simp) h.1 h.2
    · rw [if_neg h0, if_neg (fun h => h.elim h1 h2), if_neg h3, if_neg h4] at hv'
      cases hv'

end Go.Proofs.Ythjddpkegooobaa

/-
  WR3: the program's writer: values. Own work.
-/
namespace Go.Proofs.Ythjddpkegooobaa
open Go.RowKit

set_option maxRecDepth 100000 in
theorem WPost.ok {b a : Nat} {xs ys : List Nat} {w wk : World} (hK : Kept (fun k => k = b ∨ k = a) w wk) (hW : Wr wk b a (xs ++ ys)) : WPost b a xs ys w (.returned (.tuple #[])) wk :=
  ⟨hK, Or.inl ⟨by have := hW.le; rwa [List.length_append] at this, rfl, hW⟩⟩
theorem WPost.no {b a : Nat} {xs ys : List Nat} {w wk : World} (hK : Kept (fun k => k = b ∨ k = a) w wk) (hno : 4096 < xs.length + ys.length) : WPost b a xs ys w (.panicked [haltP]) wk :=
  ⟨hK, Or.inr ⟨hno, rfl⟩⟩
set_option maxRecDepth 100000 in
theorem kt {p : Nat → Prop} {w w' w'' : World} (h : Kept p w w') (k : Kept p w' w'') : Kept p w w'' := h.trans k (fun _ _ h => h)

theorem writeVal_nil (b a : Nat) (xs : List Nat)  (w : World) (hW : Wr w b a xs)  :
    Calls Try.prog 117 #[.pointer (some ⟨b, 0, none⟩), (GV.mk 0 0 ⟨#[]⟩ 0).val] w (WPost b a xs (0 :: []) w) := by
  have hF := Four.new w ⟨0, 0, ⟨#[]⟩, 0⟩ 24
  have hlt := hW.cur.lt
  have hla := hW.row.lt
  go_enter Try.func117, Try.ntmps117
  go_wp2_with (go_at_call 118; refine (writeByte_any b a xs 0 _ _ (hW.grow (gal (gre _) _)) ?_).mono ?_; rfl; rintro e w1 ⟨hK1, h1⟩; obtain ⟨fz, f0, f1, f2, f3, ff⟩ := hF.kept hK1 (by omega); obtain ⟨hf, rfl, hW1⟩ | ⟨hno, rfl⟩ := h1)
  · go_end0
    exact WPost.ok (kt ((Kept.refl _ w).alloc _) hK1) hW1
  · exact ⟨rfl, WPost.no (kt ((Kept.refl _ w).alloc _) hK1) hno⟩

set_option maxRecDepth 100000 in
theorem writeVal_num (b a : Nat) (xs : List Nat) (num : Int) (w : World) (hW : Wr w b a xs) (hn : I64 num) :
    Calls Try.prog 117 #[.pointer (some ⟨b, 0, none⟩), (GV.mk 1 num ⟨#[]⟩ 0).val] w (WPost b a xs (1 :: numB (zig num)) w) := by
  have hF := Four.new w ⟨1, num, ⟨#[]⟩, 0⟩ 24
  have hlt := hW.cur.lt
  have hla := hW.row.lt
  go_enter Try.func117, Try.ntmps117
  go_wp2_with (first
    | (go_at_call 118; refine (writeByte_any b a xs 1 _ _ (hW.grow (gal (gre _) _)) ?_).mono ?_; rfl; rintro e w1 ⟨hK1, h1⟩; obtain ⟨fz, f0, f1, f2, f3, ff⟩ := hF.kept hK1 (by omega); obtain ⟨hf, rfl, hW1⟩ | ⟨hno, rfl⟩ := h1)
    | (go_at_call 147; refine (unsigned_any num _ hn).mono ?_; rintro e w2 ⟨rfl, hb2⟩)
    | (go_at_call 116; refine (writeNumber_any b a (xs ++ [1]) (zig num) _ _ (hW1.grow hb2) rfl (zig_lt hn)).mono ?_; rintro e w3 ⟨hK3, ⟨hf3, rfl, hW3⟩ | ⟨hno3, rfl⟩⟩))
  · go_end0
    exact WPost.ok (kt (kt (kt ((Kept.refl _ w).alloc _) hK1) (Kept.of_below hb2 _)) hK3) (by rw [List.append_assoc] at hW3; exact hW3)
  · exact ⟨rfl, WPost.no (kt (kt (kt ((Kept.refl _ w).alloc _) hK1) (Kept.of_below hb2 _)) hK3) (by simp at hno3 ⊢; omega)⟩
  · exact ⟨rfl, WPost.no (kt ((Kept.refl _ w).alloc _) hK1) (by simp at hno ⊢; omega)⟩

set_option maxRecDepth 100000 in
theorem writeVal_bits (b a : Nat) (xs : List Nat) (num : Int) (w : World) (hW : Wr w b a xs) (hn : I64 num) :
    Calls Try.prog 117 #[.pointer (some ⟨b, 0, none⟩), (GV.mk 2 num ⟨#[]⟩ 0).val] w (WPost b a xs (2 :: lowB 8 (u64n num)) w) := by
  have hF := Four.new w ⟨2, num, ⟨#[]⟩, 0⟩ 24
  have hlt := hW.cur.lt
  have hla := hW.row.lt
  go_enter Try.func117, Try.ntmps117
  go_wp2_with (first
    | (go_at_call 118; refine (writeByte_any b a xs 2 _ _ (hW.grow (gal (gre _) _)) ?_).mono ?_; rfl; rintro e w1 ⟨hK1, h1⟩; obtain ⟨fz, f0, f1, f2, f3, ff⟩ := hF.kept hK1 (by omega); obtain ⟨hf, rfl, hW1⟩ | ⟨hno, rfl⟩ := h1)
    | (go_at_call 63; refine (writeWord_any b a (xs ++ [2]) num _ hW1 hn).mono ?_; rintro e w3 ⟨hK3, ⟨hf3, rfl, hW3⟩ | ⟨hno3, rfl⟩⟩))
  · go_end0
    exact WPost.ok (kt (kt ((Kept.refl _ w).alloc _) hK1) hK3) (by rw [List.append_assoc] at hW3; exact hW3)
  · exact ⟨rfl, WPost.no (kt (kt ((Kept.refl _ w).alloc _) hK1) hK3) (by simp at hno3 ⊢; omega)⟩
  · exact ⟨rfl, WPost.no (kt ((Kept.refl _ w).alloc _) hK1) (by simp at hno ⊢; omega)⟩

set_option maxRecDepth 100000 in
theorem writeVal_node (b a : Nat) (xs : List Nat) (node : Nat) (w : World) (hW : Wr w b a xs) (hn : node < 300) :
    Calls Try.prog 117 #[.pointer (some ⟨b, 0, none⟩), (GV.mk 4 0 ⟨#[]⟩ node).val] w (WPost b a xs (4 :: numB node) w) := by
  have hF := Four.new w ⟨4, 0, ⟨#[]⟩, node⟩ 24
  have hlt := hW.cur.lt
  have hla := hW.row.lt
  have e6 : IntKind.u64.wrap (node : Int) = (node : Int) := by rw [IntKind.wrap_u64]; omega
  go_enter Try.func117, Try.ntmps117
  go_wp2_with (first
    | (go_at_call 118; refine (writeByte_any b a xs 4 _ _ (hW.grow (gal (gre _) _)) ?_).mono ?_; rfl; rintro e w1 ⟨hK1, h1⟩; obtain ⟨fz, f0, f1, f2, f3, ff⟩ := hF.kept hK1 (by omega); obtain ⟨hf, rfl, hW1⟩ | ⟨hno, rfl⟩ := h1)
    | (go_at_call 116; refine (writeNumber_any b a (xs ++ [4]) node _ _ hW1 ?_ (by omega)).mono ?_; (first | rfl | exact e6 | trace_state); rintro e w3 ⟨hK3, ⟨hf3, rfl, hW3⟩ | ⟨hno3, rfl⟩⟩))
  · go_end0
    exact WPost.ok (kt (kt ((Kept.refl _ w).alloc _) hK1) hK3) (by rw [List.append_assoc] at hW3; exact hW3)
  · exact ⟨rfl, WPost.no (kt (kt ((Kept.refl _ w).alloc _) hK1) hK3) (by simp at hno3 ⊢; omega)⟩
  · exact ⟨rfl, WPost.no (kt ((Kept.refl _ w).alloc _) hK1) (by simp at hno ⊢; omega)⟩

set_option maxRecDepth 100000 in
theorem writeVal_text (b a : Nat) (xs : List Nat) (text : ByteArray) (w : World) (hW : Wr w b a xs) (hn : text.size ≤ 1000) :
    Calls Try.prog 117 #[.pointer (some ⟨b, 0, none⟩), (GV.mk 3 0 text 0).val] w (WPost b a xs (3 :: (numB text.size ++ bsOf text)) w) := by
  have hF := Four.new w ⟨3, 0, text, 0⟩ 24
  have hlt := hW.cur.lt
  have hla := hW.row.lt
  have e6 : IntKind.u64.wrap (text.size : Int) = (text.size : Int) := by rw [IntKind.wrap_u64]; omega
  go_enter Try.func117, Try.ntmps117
  go_wp2_with (first
    | (go_at_call 118; refine (writeByte_any b a xs 3 _ _ (hW.grow (gal (gre _) _)) ?_).mono ?_; rfl; rintro e w1 ⟨hK1, h1⟩; have hF1 := hF.kept hK1 (by omega); obtain ⟨fz, f0, f1, f2, f3, ff⟩ := id hF1; obtain ⟨hf, rfl, hW1⟩ | ⟨hno, rfl⟩ := h1)
    | (go_at_call 116; refine (writeNumber_any b a (xs ++ [3]) text.size _ _ hW1 ?_ (by omega)).mono ?_; (first | rfl | exact e6 | trace_state); rintro e w3 ⟨hK3, h3⟩; obtain ⟨gz, g0, g1, g2, g3, gf⟩ := hF1.kept hK3 (by omega); obtain ⟨hf3, rfl, hW3⟩ | ⟨hno3, rfl⟩ := h3)
    | (go_at_call 93; refine (writeText_any b a (xs ++ [3] ++ numB text.size) text _ hW3 hn).mono ?_; rintro e w4 ⟨hK4, ⟨hf4, rfl, hW4⟩ | ⟨hno4, rfl⟩⟩))
  · go_end0
    exact WPost.ok (kt (kt (kt ((Kept.refl _ w).alloc _) hK1) hK3) hK4) (by rw [List.append_assoc, List.append_assoc] at hW4; exact hW4)
  · exact ⟨rfl, WPost.no (kt (kt (kt ((Kept.refl _ w).alloc _) hK1) hK3) hK4) (by simp at hno4 ⊢; omega)⟩
  · exact ⟨rfl, WPost.no (kt (kt ((Kept.refl _ w).alloc _) hK1) hK3) (by simp at hno3 ⊢; omega)⟩
  · exact ⟨rfl, WPost.no (kt ((Kept.refl _ w).alloc _) hK1) (by simp at hno ⊢; omega)⟩

set_option maxRecDepth 100000 in
/-- a well made value is one of five -/
theorem okV_cases {n : Nat} {v : GV} (h : okV n v = true) : v = ⟨0, 0, ⟨#[]⟩, 0⟩ ∨ (∃ m, v = ⟨1, m, ⟨#[]⟩, 0⟩) ∨ (∃ m, v = ⟨2, m, ⟨#[]⟩, 0⟩) ∨ (∃ t, t.size ≤ 1000 ∧ v = ⟨3, 0, t, 0⟩) ∨ (∃ k : Nat, k < n ∧ v = ⟨4, 0, ⟨#[]⟩, k⟩) := by
  obtain ⟨k, m, t, d⟩ := v
  unfold okV at h
  dsimp only at h
  split at h
  · rename_i hk
    obtain ⟨h1, h2, h3⟩ := of_decide_eq_true h
    exact Or.inl (by rw [hk, h1, text_empty h2, h3])
  · split at h
    · rename_i hk
      obtain ⟨h2, h3⟩ := of_decide_eq_true h
      rcases hk with hk | hk
      · exact Or.inr (Or.inl ⟨m, by rw [hk, text_empty h2, h3]⟩)
      · exact Or.inr (Or.inr (Or.inl ⟨m, by rw [hk, text_empty h2, h3]⟩))
    · split at h
      · rename_i hk
        obtain ⟨h1, h2, h3⟩ := of_decide_eq_true h
        exact Or.inr (Or.inr (Or.inr (Or.inl ⟨t, h3, by rw [hk, h1, h2]⟩)))
      · split at h
        · rename_i hk
          obtain ⟨h1, h2, h3, h4⟩ := of_decide_eq_true h
          exact Or.inr (Or.inr (Or.inr (Or.inr ⟨d.toNat, by omega, by rw [hk, h1, text_empty h2, show ((d.toNat : Nat) : Int) = d by omega]⟩)))
        · cases h

set_option maxRecDepth 100000 in
theorem writeVal_any (b a n : Nat) (xs : List Nat) (v : GV) (w : World) (hW : Wr w b a xs) (hn : n ≤ 300) (ho : v.Ok) (hv : okV n v = true) :
    Calls Try.prog 117 #[.pointer (some ⟨b, 0, none⟩), v.val] w (WPost b a xs (valB v) w) := by
  rcases okV_cases hv with rfl | ⟨m, rfl⟩ | ⟨m, rfl⟩ | ⟨t, ht, rfl⟩ | ⟨k, hk, rfl⟩
  · exact writeVal_nil b a xs w hW
  · exact writeVal_num b a xs m w hW ho.num
  · exact writeVal_bits b a xs m w hW ho.num
  · exact writeVal_text b a xs t w hW ht
  · exact writeVal_node b a xs k w hW (by omega)

end Go.Proofs.Ythjddpkegooobaa
