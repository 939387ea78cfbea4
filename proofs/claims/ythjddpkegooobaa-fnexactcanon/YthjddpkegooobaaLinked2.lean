/-
  LINKED2: the things made, walked. Own work.
-/
import Derived.Test.YthjddpkegooobaaLinked
import Derived.Test.YthjddpkegooobaaRegionU
namespace Go.Proofs.Ythjddpkegooobaa
open Go.RowKit

set_option maxRecDepth 100000 in
theorem info_thing : (Try.prog.info? 139).map (fun i => (i.zero, i.size, i.bytes)) = some (some (.pointer none), 1, 8) := by kernel_rfl
theorem info_value : (Try.prog.info? 80).map (fun i => (i.zero, i.size, i.bytes)) = some (some .nilIface, 1, 16) := by kernel_rfl

/-- what making the things leaves -/
def LinkedPost (g : GG) (a : Option Addr) (cap : Nat) (w : World) (e : Ending) (w' : World) : Prop :=
  ∃ (B : Nat) (tb : Nat → Nat) (xa : Nat → Option Addr) (xc : Nat → Nat), e = .returned (encV tb g.root) ∧ L2 g a cap w B tb w' (fun i => g.nodes[i]!.vals.length) xa xc

set_option maxHeartbeats 1000000 in
set_option maxRecDepth 100000 in
theorem linked_any (a : Option Addr) (cap : Nat) (g : GG) (w : World) (hok : okG g = true) (ha : NodesAt w.heap.size w a g.nodes) :
    Calls Try.prog 56 #[g.val a cap] w (LinkedPost g a cap w) := by
  obtain ⟨hn, hroot, hnodes⟩ := okG_parts hok
  obtain ⟨i0, hi, hz0, hz1, hz2⟩ := info_parts info_value
  have hmk := fun u => run_make_row' (P := Try.prog) 134 139 (.pointer none) 8 Try.underlying134 info_thing rfl .i64 .i64 g.nodes.length (by omega) (by omega) u
  go_enter Try.func56, Try.ntmps56
  go_wp2
  go_loopw [17] (fun i wr => ∃ (k : Nat) (tb : Nat → Nat), k ≤ g.nodes.length ∧ i = .int .i64 k ∧ L1 g a cap w wr k tb) (fun i _ => g.nodes.length - (intOf i).toNat)
  case atStart =>
    refine ⟨0, fun _ => 0, Nat.zero_le _, rfl, gal (gal (gre _) _) _, (GBox.new w g a cap _).grow (gal (gre _) _), ?_, fun i hi => absurd hi (Nat.not_lt_zero _), fun i j _ hj => absurd hj (Nat.not_lt_zero _)⟩
    exact ⟨_, blk_new_at _ _ _ (by simp), size_madeCells _ _, fun i hi => by simp [madeCells, hi, Nat.mod_one]⟩
  case round =>
    obtain ⟨k, tb, hk, rfl, hL⟩ := hrel
    have hbl := hL.box.lt
    have hrl := hL.row.lt
    by_cases hlt : k < g.nodes.length
    · obtain ⟨n, b, off, av, cv, hnx, hnm, rfl, hbs, hva⟩ := ha.get hlt
      have hva := hva.below hL.low hbs
      have c0 := hva.tag
      have c1 := hva.sl
      have hbb : b < wr.heap.size := Nat.lt_of_lt_of_le hbs hL.low.size
      have d0 := hL.row.cell hlt
      have df := hL.row.frozen k
      rw [if_neg (by omega)] at d0
      have hst := hL.step (.slice av n.vals.length cv) 84 142
      rw [← hnx.out] at hst
      have hst' : Hid _ := hst
      clear hst hva
      go_wp2
      go_roundw
      case rel => exact ⟨k + 1, _, by omega, by go_num, hst'.out⟩
      case measure => simp [intOf]; omega
    · have e : k = g.nodes.length := by omega
      subst e
      have hb4 := hL.box.sl
      have hS : L2 g a cap w wr.heap.size tb wr (fun _ => 0) (fun _ => none) (fun _ => 0) := {
        low := hL.low
        base := ⟨hrl, Nat.le_refl _⟩
        box := hL.box
        th := hL.row.congr fun i hi => by rw [if_pos hi]
        tbs := fun i hi => ⟨(hL.things i hi).2, (hL.things i hi).1.lt⟩
        inj := fun i j hi hj e => by
          rcases Nat.lt_trichotomy i j with h | h | h
          · have := hL.inj i j h hj; omega
          · exact h
          · have := hL.inj j i h hi; omega
        cell := fun i hi => (hL.things i hi).1
        vals := fun i hi => by simpa using World.ownsRow_nil wr wr.heap.size 80 1
        ap := fun i j _ _ _ b hb => by cases hb }
      obtain ⟨B, hB⟩ : ∃ B, B = wr.heap.size := ⟨_, rfl⟩
      rw [← hB] at hS
      clear hL hB
      go_wp2
      go_loopw [33] (fun i ws => ∃ (k : Nat) (xa : Nat → Option Addr) (xc : Nat → Nat), k ≤ g.nodes.length ∧ i = .int .i64 k ∧ L2 g a cap w B tb ws (fun i => if i < k then g.nodes[i]!.vals.length else 0) xa xc) (fun i _ => g.nodes.length - (intOf i).toNat)
      case atStart => exact ⟨0, _, _, Nat.zero_le _, rfl, by simpa using hS⟩
      case round =>
        clear hS
        rename World => wo
        obtain ⟨k, xa, xc, hk, rfl, hS⟩ := hrel
        by_cases hlt : k < g.nodes.length
        · obtain ⟨n, b, off, av, cv, hnx, hnm, rfl, hbs, hva⟩ := ha.get hlt
          have hva := hva.below hS.low hbs
          have c0 := hva.tag
          have c1 := hva.sl
          have hv1 : ValsAt w.heap.size wo av n.vals := hva.vals
          have hbb : b < wo.heap.size := Nat.lt_of_lt_of_le hbs hS.low.size
          have hvl := (okN_parts (hnodes n hnm)).1
          have hvok := (okN_parts (hnodes n hnm)).2
          go_wp2
          go_loopw [41] (fun i ws => ∃ (j : Nat) (xa : Nat → Option Addr) (xc : Nat → Nat), j ≤ n.vals.length ∧ i = .int .i64 j ∧ Below w.heap.size wo ws ∧ L2 g (some ⟨b, off, none⟩) cap w B tb ws (fun i => if i < k then g.nodes[i]!.vals.length else if i = k then j else 0) xa xc) (fun i _ => n.vals.length - (intOf i).toNat)
          case atStart => exact ⟨0, xa, xc, Nat.zero_le _, rfl, (Below.refl _ _).alloc hS.low.size _, by simpa using hS.grow (gal (gre _) _)⟩
          case round =>
            clear hS
            obtain ⟨j, xa, xc, hj, rfl, hbl2, hS⟩ := hrel
            by_cases hjl : j < n.vals.length
            · obtain ⟨v, bb, oo, hvj, hvm, rfl, hbs2, hva2⟩ := (hv1.below hbl2).get hjl
              have q0 := hva2.kind
              have q1 := hva2.num
              have q2 := hva2.text
              have q3 := hva2.node
              have hb3 : bb < wr.heap.size := by have h1 := hbl2.size; have h2 := hS.low.size; omega
              have hth := hS.th.cell hlt
              have hthl := hS.th.lt
              have htc := hS.cell k hlt
              rw [if_neg (by omega), if_pos rfl] at htc
              obtain ⟨tz, t0, t1, tf⟩ := htc
              have i0' : (0 : Int) ≤ (k : Int) := by omega
              have i1' : (k : Int) < (g.nodes.length : Int) := by omega
              go_wp2
              have hS1 := hS.grow (gdr (gal (gre wr) (.cells #[.int .i64 v.kind, .int .i64 v.num, .string v.text, .int .i64 v.node] 24)))
              have hvokv := hvok v hvm
              have htb := hS.tbs k hlt
              have hBw := hS.base.2
              have hrows := hS1.vals k hlt
              rw [if_neg (by omega), if_pos rfl] at hrows
              have hnb : ∀ b, (Value.slice (xa k) j (xc k)).ownBlock = some b → B ≤ b ∧ b < wr.heap.size := fun b hb => by
                have h1 := hS.vals k hlt
                rw [if_neg (by omega), if_pos rfl] at h1
                exact h1.lt b hb
              have hF := (Four.new wr v 24).same (w' := (wr.alloc (.cells #[.int .i64 v.kind, .int .i64 v.num, .string v.text, .int .i64 v.node] 24)).drew) rfl (by simp)
              have hT1 := hS1.cell k hlt
              rw [if_neg (by omega), if_pos rfl] at hT1
              have hd : Hid (_ ∧ _ ∧ _ ∧ _ ∧ _ ∧ _) := ⟨hS1.th.cell hlt, hT1.c1, hF.c0, hF.c1, hF.c2, hF.c3⟩
              have hTH : Hid _ := hT1
              clear hF hT1
              refine wp_regionU (fun u => u.cell? ⟨w.heap.size + 1, k, none⟩ = some (.pointer (some ⟨tb k, 0, none⟩)) ∧ u.cell? ⟨tb k, 1, none⟩ = some (.slice (xa k) j (xc k)) ∧ u.cell? ⟨wr.heap.size, 0, none⟩ = some (.int .i64 v.kind) ∧ u.cell? ⟨wr.heap.size, 1, none⟩ = some (.int .i64 v.num) ∧ u.cell? ⟨wr.heap.size, 2, none⟩ = some (.string v.text) ∧ u.cell? ⟨wr.heap.size, 3, none⟩ = some (.int .i64 v.node)) 18 (by kernel_rfl) hd.out (fun hS0 => ?_)
              refine anyU_take (i := 0) (v := ?_) rfl (by kernel_rfl) (by kernel_rfl) (by kernel_rfl) (by kernel_rfl) (fun _ _ _ h => h) (Or.inl ⟨by rfl, ?_⟩) hS0 ?_
              rotate_left
              · intro u hSu; obtain ⟨p0, p1, p2, p3, p4, p5⟩ := hSu; go_simp <;> with_reducible rfl
              simp only [Act.put, List.getElem_toArray, List.getElem_cons_zero, List.setIfInBounds_toArray, List.set_cons_zero, List.set_cons_succ]
              refine anyU_take (i := 1) (v := ?_) rfl (by kernel_rfl) (by kernel_rfl) (by kernel_rfl) (by kernel_rfl) (fun _ _ _ h => h) (Or.inl ⟨by rfl, ?_⟩) hS0 ?_
              rotate_left
              · intro u hSu; obtain ⟨p0, p1, p2, p3, p4, p5⟩ := hSu; go_simp <;> with_reducible rfl
              simp only [Act.put, List.getElem_toArray, List.getElem_cons_zero, List.getElem_cons_succ, List.setIfInBounds_toArray, List.set_cons_zero, List.set_cons_succ]
              refine anyU_take (i := 2) (v := ?_) rfl (by kernel_rfl) (by kernel_rfl) (by kernel_rfl) (by kernel_rfl) (fun _ _ _ h => h) (Or.inl ⟨by rfl, ?_⟩) hS0 ?_
              rotate_left
              · intro u hSu; obtain ⟨p0, p1, p2, p3, p4, p5⟩ := hSu; go_simp <;> with_reducible rfl
              simp only [Act.put, List.getElem_toArray, List.getElem_cons_zero, List.getElem_cons_succ, List.setIfInBounds_toArray, List.set_cons_zero, List.set_cons_succ]
              refine anyU_take (i := 3) (v := ?_) rfl (by kernel_rfl) (by kernel_rfl) (by kernel_rfl) (by kernel_rfl) (fun _ _ _ h => h) (Or.inl ⟨by rfl, ?_⟩) hS0 ?_
              rotate_left
              · intro u hSu; obtain ⟨p0, p1, p2, p3, p4, p5⟩ := hSu; go_simp <;> with_reducible rfl
              simp only [Act.put, List.getElem_toArray, List.getElem_cons_zero, List.getElem_cons_succ, List.setIfInBounds_toArray, List.set_cons_zero, List.set_cons_succ]
              refine anyU_take (i := 4) (v := ?_) rfl (by kernel_rfl) (by kernel_rfl) (by kernel_rfl) (by kernel_rfl) (fun _ _ _ h => h) (Or.inl ⟨by rfl, ?_⟩) hS0 ?_
              rotate_left
              · intro u hSu; obtain ⟨p0, p1, p2, p3, p4, p5⟩ := hSu; go_simp <;> with_reducible rfl
              simp only [Act.put, List.getElem_toArray, List.getElem_cons_zero, List.getElem_cons_succ, List.setIfInBounds_toArray, List.set_cons_zero, List.set_cons_succ]
              refine anyU_take (i := 5) (v := ?_) rfl (by kernel_rfl) (by kernel_rfl) (by kernel_rfl) (by kernel_rfl) (fun _ _ _ h => h) (Or.inl ⟨by rfl, ?_⟩) hS0 ?_
              rotate_left
              · intro u hSu; obtain ⟨p0, p1, p2, p3, p4, p5⟩ := hSu; go_simp <;> with_reducible rfl
              simp only [Act.put, List.getElem_toArray, List.getElem_cons_zero, List.getElem_cons_succ, List.setIfInBounds_toArray, List.set_cons_zero, List.set_cons_succ]
              refine anyU_take (i := 6) (v := ?_) rfl (by kernel_rfl) (by kernel_rfl) (by kernel_rfl) (by kernel_rfl) (fun _ _ _ h => h) (Or.inl ⟨by rfl, ?_⟩) hS0 ?_
              rotate_left
              · intro u hSu; obtain ⟨p0, p1, p2, p3, p4, p5⟩ := hSu; go_simp <;> with_reducible rfl
              simp only [Act.put, List.getElem_toArray, List.getElem_cons_zero, List.getElem_cons_succ, List.setIfInBounds_toArray, List.set_cons_zero, List.set_cons_succ]
              refine anyU_take (i := 7) (v := ?_) rfl (by kernel_rfl) (by kernel_rfl) (by kernel_rfl) (by kernel_rfl) (fun _ _ _ h => h) (Or.inl ⟨by rfl, ?_⟩) hS0 ?_
              rotate_left
              · intro u hSu; obtain ⟨p0, p1, p2, p3, p4, p5⟩ := hSu; go_simp <;> with_reducible rfl
              simp only [Act.put, List.getElem_toArray, List.getElem_cons_zero, List.getElem_cons_succ, List.setIfInBounds_toArray, List.set_cons_zero, List.set_cons_succ]
              refine anyU_take (i := 8) (v := ?_) rfl (by kernel_rfl) (by kernel_rfl) (by kernel_rfl) (by kernel_rfl) (fun _ _ _ h => h) (Or.inl ⟨by rfl, ?_⟩) hS0 ?_
              rotate_left
              · intro u hSu; obtain ⟨p0, p1, p2, p3, p4, p5⟩ := hSu; go_simp <;> with_reducible rfl
              simp only [Act.put, List.getElem_toArray, List.getElem_cons_zero, List.getElem_cons_succ, List.setIfInBounds_toArray, List.set_cons_zero, List.set_cons_succ]
              refine anyU_take (i := 9) (v := ?_) rfl (by kernel_rfl) (by kernel_rfl) (by kernel_rfl) (by kernel_rfl) (fun _ _ _ h => h) (Or.inl ⟨by rfl, ?_⟩) hS0 ?_
              rotate_left
              · intro u hSu; obtain ⟨p0, p1, p2, p3, p4, p5⟩ := hSu; go_simp <;> with_reducible rfl
              simp only [Act.put, List.getElem_toArray, List.getElem_cons_zero, List.getElem_cons_succ, List.setIfInBounds_toArray, List.set_cons_zero, List.set_cons_succ]
              refine anyU_take (i := 10) (v := ?_) rfl (by kernel_rfl) (by kernel_rfl) (by kernel_rfl) (by kernel_rfl) (fun _ _ _ h => h) (Or.inl ⟨by rfl, ?_⟩) hS0 ?_
              rotate_left
              · intro u hSu; obtain ⟨p0, p1, p2, p3, p4, p5⟩ := hSu; go_simp <;> with_reducible rfl
              simp only [Act.put, List.getElem_toArray, List.getElem_cons_zero, List.getElem_cons_succ, List.setIfInBounds_toArray, List.set_cons_zero, List.set_cons_succ]
              refine anyU_take (i := 11) (v := ?_) rfl (by kernel_rfl) (by kernel_rfl) (by kernel_rfl) (by kernel_rfl) (fun _ _ _ h => h) (Or.inl ⟨by rfl, ?_⟩) hS0 ?_
              rotate_left
              · intro u hSu; obtain ⟨p0, p1, p2, p3, p4, p5⟩ := hSu; go_simp <;> with_reducible rfl
              simp only [Act.put, List.getElem_toArray, List.getElem_cons_zero, List.getElem_cons_succ, List.setIfInBounds_toArray, List.set_cons_zero, List.set_cons_succ]
              refine anyU_take (i := 12) (v := ?_) rfl (by kernel_rfl) (by kernel_rfl) (by kernel_rfl) (by kernel_rfl) (fun _ _ _ h => h) (Or.inl ⟨by rfl, ?_⟩) hS0 ?_
              rotate_left
              · intro u hSu; obtain ⟨p0, p1, p2, p3, p4, p5⟩ := hSu; go_simp <;> with_reducible rfl
              simp only [Act.put, List.getElem_toArray, List.getElem_cons_zero, List.getElem_cons_succ, List.setIfInBounds_toArray, List.set_cons_zero, List.set_cons_succ]
              refine anyU_one (i := 13) (by kernel_rfl) rfl (fun K hK => ?_)
              go_simp
              refine (valueOf_any g.nodes.length (w.heap.size + 1) tb v _ hvokv hn hS1.th).mono ?_
              rintro e w1 ⟨rfl, hb1⟩
              have hs1 : wr.heap.size + 1 ≤ w1.heap.size := by have h8 := hb1.size; simpa using h8
              have hK1 : Kept (fun _ => False) _ w1 := Kept.of_below hb1 _
              refine hK.out _ _ ⟨hK1.cell hd.out.1 (fun e => e), hK1.cell hd.out.2.1 (fun e => e), hK1.cell hd.out.2.2.1 (fun e => e), hK1.cell hd.out.2.2.2.1 (fun e => e), hK1.cell hd.out.2.2.2.2.1 (fun e => e), hK1.cell hd.out.2.2.2.2.2 (fun e => e)⟩ ?_
              clear hK
              have hA1 : Kept (fun _ => False) w1 (w1.alloc (.cells #[encV tb v] 80)) := (Kept.refl _ w1).alloc _
              have hK2 := hK1.trans hA1 (fun _ _ e => e)
              have hs2 : _ ∧ _ ∧ _ ∧ _ ∧ _ ∧ _ := ⟨hK2.cell hd.out.1 (fun e => e), hK2.cell hd.out.2.1 (fun e => e), hK2.cell hd.out.2.2.1 (fun e => e), hK2.cell hd.out.2.2.2.1 (fun e => e), hK2.cell hd.out.2.2.2.2.1 (fun e => e), hK2.cell hd.out.2.2.2.2.2 (fun e => e)⟩
              have hs2' : Hid _ := hs2
              clear hs2
              refine anyU_one (i := 14) (by kernel_rfl) rfl (fun K hK => ?_)
              go_simp
              refine hK.out _ _ hs2'.out ?_
              clear hK
              refine anyU_one (i := 15) (by kernel_rfl) rfl (fun K hK => ?_)
              refine step_append_lies _ (by rfl) (.tmp 55) (.tmp 59) 140 rfl B 80 i0 .nilIface 1 16 Try.underlying140 hi hz0 hz1 hz2 rfl (by decide) (.slice (xa k) j (xc k)) j _ (by rfl) ((hK1.owns hrows (fun _ _ e => e)).alloc _) ⟨w1.heap.size, 0, none⟩ 1 1 [encV tb v] (by rfl) rfl (World.news_of_block (cs := #[encV tb v]) (t := 80) (fr := (0, 0)) (blk_new_at _ _ _ rfl)) (by simp [encV_one]) (by decide) (by unfold maxLen; omega) (by omega) (by simp; omega) (w1.heap.size + 1) (by simp) ?_
              intro gg cc w3 hown3 hgrow3 hat3 hlt3
              have hKK := (hK2.mono (q := fun b => (Value.slice (xa k) j (xc k)).ownBlock = some b) (fun _ _ e => e.elim)).trans (Kept.of_grown hgrow3) (fun _ _ e => e)
              have hs3 : Hid _ := (⟨hKK.cell hd.out.1 (fun hp => by have h9 := hnb _ hp; omega), hKK.cell hd.out.2.1 (fun hp => by have h9 := hnb _ hp; omega), hKK.cell hd.out.2.2.1 (fun hp => by have h9 := hnb _ hp; omega), hKK.cell hd.out.2.2.2.1 (fun hp => by have h9 := hnb _ hp; omega), hKK.cell hd.out.2.2.2.2.1 (fun hp => by have h9 := hnb _ hp; omega), hKK.cell hd.out.2.2.2.2.2 (fun hp => by have h9 := hnb _ hp; omega)⟩ : _ ∧ _ ∧ _ ∧ _ ∧ _ ∧ _)
              obtain ⟨hz3, hc30, hc31, hf3⟩ := hTH.out.kept hKK (fun hp => by have h9 := hnb _ hp; omega)
              refine hK.out _ _ hs3.out ?_
              clear hK
              simp only [Act.put, List.getElem_toArray, List.getElem_cons_zero, List.getElem_cons_succ, List.setIfInBounds_toArray, List.set_cons_zero, List.set_cons_succ]
              refine anyU_one (i := 16) (by kernel_rfl) rfl (fun K hK => ?_)
              go_simp
              refine hK.out _ _ hs3.out ?_
              clear hK
              refine anyU_one (i := 17) (by kernel_rfl) rfl (fun K hK => ?_)
              go_simp
              refine hK.out _ _ hs3.out ?_
              clear hK
              refine anyU_last (by kernel_rfl) rfl (by kernel_rfl) (fun K hK => ?_)
              go_simp
              refine hK.out _ _ ?_
              clear hK
              go_wp2
              have hG : Below wr.heap.size wr (w1.alloc (.cells #[encV tb v] 80)) := gal (gca (gdr (gal (gre wr) _)) hb1) _
              have hkk : (if k < k then g.nodes[k]!.vals.length else if k = k then j else 0) = j := by rw [if_neg (by omega), if_pos rfl]
              have hst := (hS.grow hG).step (k := k) hlt (v := v) (gg := gg) (cc := cc) (w3 := w3) (by rw [hkk, ← hnx.out]; exact hvj) (by rw [hkk, ← hnx.out]; exact hjl) (by rw [hkk]; exact hown3) (by rw [hkk]; exact hgrow3) (by rw [hkk]; exact hat3.imp id (fun e => by rw [e]; simp))
              have em : (fun i => if i = k then (if k < k then g.nodes[k]!.vals.length else if k = k then j else 0) + 1 else if i < k then g.nodes[i]!.vals.length else if i = k then j else 0) = (fun i => if i < k then g.nodes[i]!.vals.length else if i = k then j + 1 else 0) := by
                funext i
                by_cases e : i = k
                · subst e; simp
                · simp [e]
              rw [em, hkk] at hst
              have hbe : Below w.heap.size wo (w3.setCell ⟨tb k, 1, none⟩ (.slice (some ⟨gg, 0, none⟩) (j + 1) cc)) := by
                have hwl := hS.low.size
                have h1 : Below w.heap.size wr w3 := (((Kept.of_below (gdr (gal (gre wr) _)) _).trans hKK (fun _ _ e => e)).below hwl (fun b hb hp => by have h9 := hnb _ hp; have := hS.base.1; omega))
                exact (hbl2.trans h1).setCell (by show w.heap.size ≤ tb k; omega) _
              go_roundw
              case rel => exact ⟨j + 1, _, _, by omega, by go_num, hbe, hst⟩
              case measure => simp [intOf]; omega
            · have e : j = n.vals.length := by omega
              subst e
              go_wp2
              go_roundw
              case rel =>
                refine ⟨k + 1, xa, xc, by omega, by go_num, ?_⟩
                have em : (fun i => if i < k then g.nodes[i]!.vals.length else if i = k then n.vals.length else 0) = (fun i => if i < k + 1 then g.nodes[i]!.vals.length else 0) := by
                  funext i
                  by_cases e : i = k
                  · subst e; rw [if_neg (by omega), if_pos rfl, if_pos (by omega), ← hnx.out]
                  · by_cases e2 : i < k
                    · rw [if_pos e2, if_pos (by omega)]
                    · rw [if_neg e2, if_neg e, if_neg (by omega)]
                rw [← em]
                exact hS
              case measure => simp [intOf]; omega
        · have e : k = g.nodes.length := by omega
          subst e
          obtain ⟨bz, b0, b1, b2, b3, b4⟩ := hS.box
          have em : L2 g a cap w B tb wo (fun i => g.nodes[i]!.vals.length) xa xc := {
            low := hS.low, base := hS.base, box := hS.box, th := hS.th, tbs := hS.tbs, inj := hS.inj, ap := hS.ap
            cell := fun i hi => by have h1 := hS.cell i hi; rw [if_pos hi] at h1; exact h1
            vals := fun i hi => by have h1 := hS.vals i hi; rw [if_pos hi] at h1; exact h1 }
          go_wp2_with (go_at_call 113; refine (valueOf_any g.nodes.length (w.heap.size + 1) tb g.root _ hroot hn hS.th).mono ?_; rintro e w1 ⟨rfl, hb1⟩)
          go_ret
          exact ⟨B, tb, xa, xc, rfl, em.grow hb1⟩

end Go.Proofs.Ythjddpkegooobaa
