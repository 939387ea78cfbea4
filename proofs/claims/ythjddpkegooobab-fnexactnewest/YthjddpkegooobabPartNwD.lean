import Derived.Lib.Strings
import Derived.Lib.BufferWrite
import Derived.Lib.UnsafeStr
import Derived.Test.YthjddpkegooobabPartNwC

/-
  LINKED2: the things made, walked. Own work.
-/
namespace Go.Proofs.Ythjddpkegooobab
open Go.RowKit

set_option maxRecDepth 100000 in
theorem info_thing : (Try.prog.info? 206).map (fun i => (i.zero, i.size, i.bytes)) = some (some (.pointer none), 1, 8) := by kernel_rfl
theorem info_value : (Try.prog.info? 172).map (fun i => (i.zero, i.size, i.bytes)) = some (some .nilIface, 1, 16) := by kernel_rfl

/-- what making the things leaves -/
def LinkedPost (g : GG) (a : Option Addr) (cap : Nat) (w : World) (e : Ending) (w' : World) : Prop :=
  ∃ (B : Nat) (tb : Nat → Nat) (xa : Nat → Option Addr) (xc : Nat → Nat), e = .returned (encV tb g.root) ∧ L2 g a cap w B tb w' (fun i => g.nodes[i]!.vals.length) xa xc

set_option maxHeartbeats 1000000 in
set_option maxRecDepth 100000 in
theorem linked_any (a : Option Addr) (cap : Nat) (g : GG) (w : World) (hok : okG g = true) (ha : NodesAt w.heap.size w a g.nodes) :
    Calls Try.prog 138 #[g.val a cap] w (LinkedPost g a cap w) := by
  obtain ⟨hn, hroot, hnodes⟩ := okG_parts hok
  obtain ⟨i0, hi, hz0, hz1, hz2⟩ := info_parts info_value
  have hmk := fun u => run_make_row' (P := Try.prog) 201 206 (.pointer none) 8 Try.underlying201 info_thing rfl .i64 .i64 g.nodes.length (by omega) (by omega) u
  go_enter Try.func138, Try.ntmps138
  go_wp2
  go_loopw [17] (fun i wr => ∃ (k : Nat) (tb : Nat → Nat), k ≤ g.nodes.length ∧ i = .int .i64 k ∧ L1 g a cap w wr k tb) (fun i _ => g.nodes.length - (intOf i).toNat)
  case atStart =>
    refine ⟨0, fun _ => 0, Nat.zero_le _, rfl, gal (gal (gre _) _) _, (GBox.new w g a cap _).grow (gal (gre _) _), ?_, fun i hi => absurd hi (Nat.not_lt_zero _), fun i j _ hj => absurd hj (Nat.not_lt_zero _)⟩
    exact ⟨_, blk_new_at _ _ _ (by simp), size_madeCells _ _, fun i hi => by simp [madeCells, hi, Nat.mod_one]⟩
  case round =>
    obtain ⟨k, tb, hk, rfl, hL⟩ := hrel
    have hbl := hL.box.lt
    have hrl := hL.row.lt
    by_cases hlt : k < g.nodes.length
    · obtain ⟨n, b, off, av, cv, hnx, hnm, rfl, hbs, hva⟩ := ha.get hlt
      have hva := hva.below hL.low hbs
      have c0 := hva.tag
      have c1 := hva.sl
      have hbb : b < wr.heap.size := Nat.lt_of_lt_of_le hbs hL.low.size
      have d0 := hL.row.cell hlt
      have df := hL.row.frozen k
      rw [if_neg (by omega)] at d0
      have hst := hL.step (.slice av n.vals.length cv) 116 209
      rw [← hnx.out] at hst
      have hst' : Hid _ := hst
      clear hst hva
      go_wp2
      go_roundw
      case rel => exact ⟨k + 1, _, by omega, by go_num, hst'.out⟩
      case measure => simp [intOf]; omega
    · have e : k = g.nodes.length := by omega
      subst e
      have hb4 := hL.box.sl
      have hS : L2 g a cap w wr.heap.size tb wr (fun _ => 0) (fun _ => none) (fun _ => 0) := {
        low := hL.low
        base := ⟨hrl, Nat.le_refl _⟩
        box := hL.box
        th := hL.row.congr fun i hi => by rw [if_pos hi]
        tbs := fun i hi => ⟨(hL.things i hi).2, (hL.things i hi).1.lt⟩
        inj := fun i j hi hj e => by
          rcases Nat.lt_trichotomy i j with h | h | h
          · have := hL.inj i j h hj; omega
          · exact h
          · have := hL.inj j i h hi; omega
        cell := fun i hi => (hL.things i hi).1
        vals := fun i hi => by simpa using World.ownsRow_nil wr wr.heap.size 172 1
        ap := fun i j _ _ _ b hb => by cases hb }
      obtain ⟨B, hB⟩ : ∃ B, B = wr.heap.size := ⟨_, rfl⟩
      rw [← hB] at hS
      clear hL hB
      go_wp2
      go_loopw [33] (fun i ws => ∃ (k : Nat) (xa : Nat → Option Addr) (xc : Nat → Nat), k ≤ g.nodes.length ∧ i = .int .i64 k ∧ L2 g a cap w B tb ws (fun i => if i < k then g.nodes[i]!.vals.length else 0) xa xc) (fun i _ => g.nodes.length - (intOf i).toNat)
      case atStart => exact ⟨0, _, _, Nat.zero_le _, rfl, by simpa using hS⟩
      case round =>
        clear hS
        rename World => wo
        obtain ⟨k, xa, xc, hk, rfl, hS⟩ := hrel
        by_cases hlt : k < g.nodes.length
        · obtain ⟨n, b, off, av, cv, hnx, hnm, rfl, hbs, hva⟩ := ha.get hlt
          have hva := hva.below hS.low hbs
          have c0 := hva.tag
          have c1 := hva.sl
          have hv1 : ValsAt w.heap.size wo av n.vals := hva.vals
          have hbb : b < wo.heap.size := Nat.lt_of_lt_of_le hbs hS.low.size
          have hvl := (okN_parts (hnodes n hnm)).1
          have hvok := (okN_parts (hnodes n hnm)).2
          go_wp2
          go_loopw [41] (fun i ws => ∃ (j : Nat) (xa : Nat → Option Addr) (xc : Nat → Nat), j ≤ n.vals.length ∧ i = .int .i64 j ∧ Below w.heap.size wo ws ∧ L2 g (some ⟨b, off, none⟩) cap w B tb ws (fun i => if i < k then g.nodes[i]!.vals.length else if i = k then j else 0) xa xc) (fun i _ => n.vals.length - (intOf i).toNat)
          case atStart => exact ⟨0, xa, xc, Nat.zero_le _, rfl, (Below.refl _ _).alloc hS.low.size _, by simpa using hS.grow (gal (gre _) _)⟩
          case round =>
            clear hS
            obtain ⟨j, xa, xc, hj, rfl, hbl2, hS⟩ := hrel
            by_cases hjl : j < n.vals.length
            · obtain ⟨v, bb, oo, hvj, hvm, rfl, hbs2, hva2⟩ := (hv1.below hbl2).get hjl
              have q0 := hva2.kind
              have q1 := hva2.num
              have q2 := hva2.text
              have q3 := hva2.node
              have hb3 : bb < wr.heap.size := by have h1 := hbl2.size; have h2 := hS.low.size; omega
              have hth := hS.th.cell hlt
              have hthl := hS.th.lt
              have htc := hS.cell k hlt
              rw [if_neg (by omega), if_pos rfl] at htc
              obtain ⟨tz, t0, t1, tf⟩ := htc
              have i0' : (0 : Int) ≤ (k : Int) := by omega
              have i1' : (k : Int) < (g.nodes.length : Int) := by omega
              go_wp2
              have hS1 := hS.grow (gdr (gal (gre wr) (.cells #[.int .i64 v.kind, .int .i64 v.num, .string v.text, .int .i64 v.node] 30)))
              have hvokv := hvok v hvm
              have htb := hS.tbs k hlt
              have hBw := hS.base.2
              have hrows := hS1.vals k hlt
              rw [if_neg (by omega), if_pos rfl] at hrows
              have hnb : ∀ b, (Value.slice (xa k) j (xc k)).ownBlock = some b → B ≤ b ∧ b < wr.heap.size := fun b hb => by
                have h1 := hS.vals k hlt
                rw [if_neg (by omega), if_pos rfl] at h1
                exact h1.lt b hb
              have hF := (Four.new wr v 30).same (w' := (wr.alloc (.cells #[.int .i64 v.kind, .int .i64 v.num, .string v.text, .int .i64 v.node] 30)).drew) rfl (by simp)
              have hT1 := hS1.cell k hlt
              rw [if_neg (by omega), if_pos rfl] at hT1
              have hd : Hid (_ ∧ _ ∧ _ ∧ _ ∧ _ ∧ _) := ⟨hS1.th.cell hlt, hT1.c1, hF.c0, hF.c1, hF.c2, hF.c3⟩
              have hTH : Hid _ := hT1
              clear hF hT1
              refine wp_regionU (fun u => u.cell? ⟨w.heap.size + 1, k, none⟩ = some (.pointer (some ⟨tb k, 0, none⟩)) ∧ u.cell? ⟨tb k, 1, none⟩ = some (.slice (xa k) j (xc k)) ∧ u.cell? ⟨wr.heap.size, 0, none⟩ = some (.int .i64 v.kind) ∧ u.cell? ⟨wr.heap.size, 1, none⟩ = some (.int .i64 v.num) ∧ u.cell? ⟨wr.heap.size, 2, none⟩ = some (.string v.text) ∧ u.cell? ⟨wr.heap.size, 3, none⟩ = some (.int .i64 v.node)) 18 (by kernel_rfl) hd.out (fun hS0 => ?_)
              refine anyU_take (i := 0) (v := ?_) rfl (by kernel_rfl) (by kernel_rfl) (by kernel_rfl) (by kernel_rfl) (fun _ _ _ h => h) (Or.inl ⟨by rfl, ?_⟩) hS0 ?_
              rotate_left
              · intro u hSu; obtain ⟨p0, p1, p2, p3, p4, p5⟩ := hSu; go_simp <;> with_reducible rfl
              simp only [Act.put, List.getElem_toArray, List.getElem_cons_zero, List.setIfInBounds_toArray, List.set_cons_zero, List.set_cons_succ]
              refine anyU_take (i := 1) (v := ?_) rfl (by kernel_rfl) (by kernel_rfl) (by kernel_rfl) (by kernel_rfl) (fun _ _ _ h => h) (Or.inl ⟨by rfl, ?_⟩) hS0 ?_
              rotate_left
              · intro u hSu; obtain ⟨p0, p1, p2, p3, p4, p5⟩ := hSu; go_simp <;> with_reducible rfl
              simp only [Act.put, List.getElem_toArray, List.getElem_cons_zero, List.getElem_cons_succ, List.setIfInBounds_toArray, List.set_cons_zero, List.set_cons_succ]
              refine anyU_take (i := 2) (v := ?_) rfl (by kernel_rfl) (by kernel_rfl) (by kernel_rfl) (by kernel_rfl) (fun _ _ _ h => h) (Or.inl ⟨by rfl, ?_⟩) hS0 ?_
              rotate_left
              · intro u hSu; obtain ⟨p0, p1, p2, p3, p4, p5⟩ := hSu; go_simp <;> with_reducible rfl
              simp only [Act.put, List.getElem_toArray, List.getElem_cons_zero, List.getElem_cons_succ, List.setIfInBounds_toArray, List.set_cons_zero, List.set_cons_succ]
              refine anyU_take (i := 3) (v := ?_) rfl (by kernel_rfl) (by kernel_rfl) (by kernel_rfl) (by kernel_rfl) (fun _ _ _ h => h) (Or.inl ⟨by rfl, ?_⟩) hS0 ?_
              rotate_left
              · intro u hSu; obtain ⟨p0, p1, p2, p3, p4, p5⟩ := hSu; go_simp <;> with_reducible rfl
              simp only [Act.put, List.getElem_toArray, List.getElem_cons_zero, List.getElem_cons_succ, List.setIfInBounds_toArray, List.set_cons_zero, List.set_cons_succ]
              refine anyU_take (i := 4) (v := ?_) rfl (by kernel_rfl) (by kernel_rfl) (by kernel_rfl) (by kernel_rfl) (fun _ _ _ h => h) (Or.inl ⟨by rfl, ?_⟩) hS0 ?_
              rotate_left
              · intro u hSu; obtain ⟨p0, p1, p2, p3, p4, p5⟩ := hSu; go_simp <;> with_reducible rfl
              simp only [Act.put, List.getElem_toArray, List.getElem_cons_zero, List.getElem_cons_succ, List.setIfInBounds_toArray, List.set_cons_zero, List.set_cons_succ]
              refine anyU_take (i := 5) (v := ?_) rfl (by kernel_rfl) (by kernel_rfl) (by kernel_rfl) (by kernel_rfl) (fun _ _ _ h => h) (Or.inl ⟨by rfl, ?_⟩) hS0 ?_
              rotate_left
              · intro u hSu; obtain ⟨p0, p1, p2, p3, p4, p5⟩ := hSu; go_simp <;> with_reducible rfl
              simp only [Act.put, List.getElem_toArray, List.getElem_cons_zero, List.getElem_cons_succ, List.setIfInBounds_toArray, List.set_cons_zero, List.set_cons_succ]
              refine anyU_take (i := 6) (v := ?_) rfl (by kernel_rfl) (by kernel_rfl) (by kernel_rfl) (by kernel_rfl) (fun _ _ _ h => h) (Or.inl ⟨by rfl, ?_⟩) hS0 ?_
              rotate_left
              · intro u hSu; obtain ⟨p0, p1, p2, p3, p4, p5⟩ := hSu; go_simp <;> with_reducible rfl
              simp only [Act.put, List.getElem_toArray, List.getElem_cons_zero, List.getElem_cons_succ, List.setIfInBounds_toArray, List.set_cons_zero, List.set_cons_succ]
              refine anyU_take (i := 7) (v := ?_) rfl (by kernel_rfl) (by kernel_rfl) (by kernel_rfl) (by kernel_rfl) (fun _ _ _ h => h) (Or.inl ⟨by rfl, ?_⟩) hS0 ?_
              rotate_left
              · intro u hSu; obtain ⟨p0, p1, p2, p3, p4, p5⟩ := hSu; go_simp <;> with_reducible rfl
              simp only [Act.put, List.getElem_toArray, List.getElem_cons_zero, List.getElem_cons_succ, List.setIfInBounds_toArray, List.set_cons_zero, List.set_cons_succ]
              refine anyU_take (i := 8) (v := ?_) rfl (by kernel_rfl) (by kernel_rfl) (by kernel_rfl) (by kernel_rfl) (fun _ _ _ h => h) (Or.inl ⟨by rfl, ?_⟩) hS0 ?_
              rotate_left
              · intro u hSu; obtain ⟨p0, p1, p2, p3, p4, p5⟩ := hSu; go_simp <;> with_reducible rfl
              simp only [Act.put, List.getElem_toArray, List.getElem_cons_zero, List.getElem_cons_succ, List.setIfInBounds_toArray, List.set_cons_zero, List.set_cons_succ]
              refine anyU_take (i := 9) (v := ?_) rfl (by kernel_rfl) (by kernel_rfl) (by kernel_rfl) (by kernel_rfl) (fun _ _ _ h => h) (Or.inl ⟨by rfl, ?_⟩) hS0 ?_
              rotate_left
              · intro u hSu; obtain ⟨p0, p1, p2, p3, p4, p5⟩ := hSu; go_simp <;> with_reducible rfl
              simp only [Act.put, List.getElem_toArray, List.getElem_cons_zero, List.getElem_cons_succ, List.setIfInBounds_toArray, List.set_cons_zero, List.set_cons_succ]
              refine anyU_take (i := 10) (v := ?_) rfl (by kernel_rfl) (by kernel_rfl) (by kernel_rfl) (by kernel_rfl) (fun _ _ _ h => h) (Or.inl ⟨by rfl, ?_⟩) hS0 ?_
              rotate_left
              · intro u hSu; obtain ⟨p0, p1, p2, p3, p4, p5⟩ := hSu; go_simp <;> with_reducible rfl
              simp only [Act.put, List.getElem_toArray, List.getElem_cons_zero, List.getElem_cons_succ, List.setIfInBounds_toArray, List.set_cons_zero, List.set_cons_succ]
              refine anyU_take (i := 11) (v := ?_) rfl (by kernel_rfl) (by kernel_rfl) (by kernel_rfl) (by kernel_rfl) (fun _ _ _ h => h) (Or.inl ⟨by rfl, ?_⟩) hS0 ?_
              rotate_left
              · intro u hSu; obtain ⟨p0, p1, p2, p3, p4, p5⟩ := hSu; go_simp <;> with_reducible rfl
              simp only [Act.put, List.getElem_toArray, List.getElem_cons_zero, List.getElem_cons_succ, List.setIfInBounds_toArray, List.set_cons_zero, List.set_cons_succ]
              refine anyU_take (i := 12) (v := ?_) rfl (by kernel_rfl) (by kernel_rfl) (by kernel_rfl) (by kernel_rfl) (fun _ _ _ h => h) (Or.inl ⟨by rfl, ?_⟩) hS0 ?_
              rotate_left
              · intro u hSu; obtain ⟨p0, p1, p2, p3, p4, p5⟩ := hSu; go_simp <;> with_reducible rfl
              simp only [Act.put, List.getElem_toArray, List.getElem_cons_zero, List.getElem_cons_succ, List.setIfInBounds_toArray, List.set_cons_zero, List.set_cons_succ]
              refine anyU_one (i := 13) (by kernel_rfl) rfl (fun K hK => ?_)
              go_simp
              refine (valueOf_any g.nodes.length (w.heap.size + 1) tb v _ hvokv hn hS1.th).mono ?_
              rintro e w1 ⟨rfl, hb1⟩
              have hs1 : wr.heap.size + 1 ≤ w1.heap.size := by have h8 := hb1.size; simpa using h8
              have hK1 : Kept (fun _ => False) _ w1 := Kept.of_below hb1 _
              refine hK.out _ _ ⟨hK1.cell hd.out.1 (fun e => e), hK1.cell hd.out.2.1 (fun e => e), hK1.cell hd.out.2.2.1 (fun e => e), hK1.cell hd.out.2.2.2.1 (fun e => e), hK1.cell hd.out.2.2.2.2.1 (fun e => e), hK1.cell hd.out.2.2.2.2.2 (fun e => e)⟩ ?_
              clear hK
              have hA1 : Kept (fun _ => False) w1 (w1.alloc (.cells #[encV tb v] 172)) := (Kept.refl _ w1).alloc _
              have hK2 := hK1.trans hA1 (fun _ _ e => e)
              have hs2 : _ ∧ _ ∧ _ ∧ _ ∧ _ ∧ _ := ⟨hK2.cell hd.out.1 (fun e => e), hK2.cell hd.out.2.1 (fun e => e), hK2.cell hd.out.2.2.1 (fun e => e), hK2.cell hd.out.2.2.2.1 (fun e => e), hK2.cell hd.out.2.2.2.2.1 (fun e => e), hK2.cell hd.out.2.2.2.2.2 (fun e => e)⟩
              have hs2' : Hid _ := hs2
              clear hs2
              refine anyU_one (i := 14) (by kernel_rfl) rfl (fun K hK => ?_)
              go_simp
              refine hK.out _ _ hs2'.out ?_
              clear hK
              refine anyU_one (i := 15) (by kernel_rfl) rfl (fun K hK => ?_)
              refine step_append_lies _ (by rfl) (.tmp 55) (.tmp 59) 207 rfl B 172 i0 .nilIface 1 16 Try.underlying207 hi hz0 hz1 hz2 rfl (by decide) (.slice (xa k) j (xc k)) j _ (by rfl) ((hK1.owns hrows (fun _ _ e => e)).alloc _) ⟨w1.heap.size, 0, none⟩ 1 1 [encV tb v] (by rfl) rfl (World.news_of_block (cs := #[encV tb v]) (t := 172) (fr := (0, 0)) (blk_new_at _ _ _ rfl)) (by simp [encV_one]) (by decide) (by unfold maxLen; omega) (by omega) (by simp; omega) (w1.heap.size + 1) (by simp) ?_
              intro gg cc w3 hown3 hgrow3 hat3 hlt3
              have hKK := (hK2.mono (q := fun b => (Value.slice (xa k) j (xc k)).ownBlock = some b) (fun _ _ e => e.elim)).trans (Kept.of_grown hgrow3) (fun _ _ e => e)
              have hs3 : Hid _ := (⟨hKK.cell hd.out.1 (fun hp => by have h9 := hnb _ hp; omega), hKK.cell hd.out.2.1 (fun hp => by have h9 := hnb _ hp; omega), hKK.cell hd.out.2.2.1 (fun hp => by have h9 := hnb _ hp; omega), hKK.cell hd.out.2.2.2.1 (fun hp => by have h9 := hnb _ hp; omega), hKK.cell hd.out.2.2.2.2.1 (fun hp => by have h9 := hnb _ hp; omega), hKK.cell hd.out.2.2.2.2.2 (fun hp => by have h9 := hnb _ hp; omega)⟩ : _ ∧ _ ∧ _ ∧ _ ∧ _ ∧ _)
              obtain ⟨hz3, hc30, hc31, hf3⟩ := hTH.out.kept hKK (fun hp => by have h9 := hnb _ hp; omega)
              refine hK.out _ _ hs3.out ?_
              clear hK
              simp only [Act.put, List.getElem_toArray, List.getElem_cons_zero, List.getElem_cons_succ, List.setIfInBounds_toArray, List.set_cons_zero, List.set_cons_succ]
              refine anyU_one (i := 16) (by kernel_rfl) rfl (fun K hK => ?_)
              go_simp
              refine hK.out _ _ hs3.out ?_
              clear hK
              refine anyU_one (i := 17) (by kernel_rfl) rfl (fun K hK => ?_)
              go_simp
              refine hK.out _ _ hs3.out ?_
              clear hK
              refine anyU_last (by kernel_rfl) rfl (by kernel_rfl) (fun K hK => ?_)
              go_simp
              refine hK.out _ _ ?_
              clear hK
              go_wp2
              have hG : Below wr.heap.size wr (w1.alloc (.cells #[encV tb v] 172)) := gal (gca (gdr (gal (gre wr) _)) hb1) _
              have hkk : (if k < k then g.nodes[k]!.vals.length else if k = k then j else 0) = j := by rw [if_neg (by omega), if_pos rfl]
              have hst := (hS.grow hG).step (k := k) hlt (v := v) (gg := gg) (cc := cc) (w3 := w3) (by rw [hkk, ← hnx.out]; exact hvj) (by rw [hkk, ← hnx.out]; exact hjl) (by rw [hkk]; exact hown3) (by rw [hkk]; exact hgrow3) (by rw [hkk]; exact hat3.imp id (fun e => by rw [e]; simp))
              have em : (fun i => if i = k then (if k < k then g.nodes[k]!.vals.length else if k = k then j else 0) + 1 else if i < k then g.nodes[i]!.vals.length else if i = k then j else 0) = (fun i => if i < k then g.nodes[i]!.vals.length else if i = k then j + 1 else 0) := by
                funext i
                by_cases e : i = k
                · subst e; simp
                · simp [e]
              rw [em, hkk] at hst
              have hbe : Below w.heap.size wo (w3.setCell ⟨tb k, 1, none⟩ (.slice (some ⟨gg, 0, none⟩) (j + 1) cc)) := by
                have hwl := hS.low.size
                have h1 : Below w.heap.size wr w3 := (((Kept.of_below (gdr (gal (gre wr) _)) _).trans hKK (fun _ _ e => e)).below hwl (fun b hb hp => by have h9 := hnb _ hp; have := hS.base.1; omega))
                exact (hbl2.trans h1).setCell (by show w.heap.size ≤ tb k; omega) _
              go_roundw
              case rel => exact ⟨j + 1, _, _, by omega, by go_num, hbe, hst⟩
              case measure => simp [intOf]; omega
            · have e : j = n.vals.length := by omega
              subst e
              go_wp2
              go_roundw
              case rel =>
                refine ⟨k + 1, xa, xc, by omega, by go_num, ?_⟩
                have em : (fun i => if i < k then g.nodes[i]!.vals.length else if i = k then n.vals.length else 0) = (fun i => if i < k + 1 then g.nodes[i]!.vals.length else 0) := by
                  funext i
                  by_cases e : i = k
                  · subst e; rw [if_neg (by omega), if_pos rfl, if_pos (by omega), ← hnx.out]
                  · by_cases e2 : i < k
                    · rw [if_pos e2, if_pos (by omega)]
                    · rw [if_neg e2, if_neg e, if_neg (by omega)]
                rw [← em]
                exact hS
              case measure => simp [intOf]; omega
        · have e : k = g.nodes.length := by omega
          subst e
          obtain ⟨bz, b0, b1, b2, b3, b4⟩ := hS.box
          have em : L2 g a cap w B tb wo (fun i => g.nodes[i]!.vals.length) xa xc := {
            low := hS.low, base := hS.base, box := hS.box, th := hS.th, tbs := hS.tbs, inj := hS.inj, ap := hS.ap
            cell := fun i hi => by have h1 := hS.cell i hi; rw [if_pos hi] at h1; exact h1
            vals := fun i hi => by have h1 := hS.vals i hi; rw [if_pos hi] at h1; exact h1 }
          go_wp2_with (go_at_call 170; refine (valueOf_any g.nodes.length (w.heap.size + 1) tb g.root _ hroot hn hS.th).mono ?_; rintro e w1 ⟨rfl, hb1⟩)
          go_ret
          exact ⟨B, tb, xa, xc, rfl, em.grow hb1⟩

end Go.Proofs.Ythjddpkegooobab

/-
  PLACE: a thing's place among those met. Own work.
-/
namespace Go.Proofs.Ythjddpkegooobab
open Go.RowKit

set_option maxRecDepth 100000 in
theorem zero_int (w : World) : (zeroValue 3).run Try.prog w = .ok (.int .i64 0) w := by kernel_rfl
theorem info_struct_thing : (Try.prog.info? 209).map (fun i => i.size) = some 2 := by kernel_rfl

/-- the meeting: its map and its list -/
structure Meet (w : World) (tb : Nat → Nat) (M mb base : Nat) (ord : List Nat) (ma : Option Addr) (mc : Nat) : Prop where
  lt : M < w.heap.size
  c0 : w.cell? ⟨M, 0, none⟩ = some (.map (some mb))
  c1 : w.cell? ⟨M, 1, none⟩ = some (.slice ma ord.length mc)
  f : ∀ o, w.frozen? ⟨M, o, none⟩ = false
  map : PMap w mb (ord.map tb)
  met : w.ownsRow base 206 1 (.slice ma ord.length mc) ord.length (ord.map fun x => ptr (tb x))
  mlt : M < base ∧ mb < base ∧ M ≠ mb

set_option maxRecDepth 100000 in
theorem Meet.kept {p : Nat → Prop} {w w' : World} {tb : Nat → Nat} {M mb base : Nat} {ord : List Nat} {ma : Option Addr} {mc : Nat} (h : Meet w tb M mb base ord ma mc) (k : Kept p w w') (h1 : ¬ p M) (h2 : ¬ p mb) (h3 : ∀ b, ma = some ⟨b, 0, none⟩ → ¬ p b) : Meet w' tb M mb base ord ma mc :=
  ⟨Nat.lt_of_lt_of_le h.lt k.size, k.cell h.c0 h1, k.cell h.c1 h1, fun o => (World.frozen?_of_block (w := w) (k.block M h.lt h1)).trans (h.f o), h.map.kept k h2, k.owns h.met (fun b hb => h3 b (owns_addr h.met hb)), h.mlt⟩

def addOrd (ord : List Nat) (x : Nat) : List Nat := if x ∈ ord then ord else ord ++ [x]

/-- what asking for a place leaves -/
def PlacePost (w : World) (tb : Nat → Nat) (M mb base : Nat) (ord : List Nat) (x : Nat) (ma : Option Addr) (e : Ending) (w' : World) : Prop :=
  ∃ ma' mc', e = .returned (.int .i64 ((addOrd ord x).idxOf x : Nat)) ∧ Meet w' tb M mb base (addOrd ord x) ma' mc' ∧ (ma' = ma ∨ ∃ b, ma' = some ⟨b, 0, none⟩ ∧ w.heap.size ≤ b) ∧ Kept (fun k => k = M ∨ k = mb ∨ ma = some ⟨k, 0, none⟩) w w'

set_option maxRecDepth 100000 in
theorem idxOf_map {tb : Nat → Nat} {n : Nat} (hinj : ∀ i j, i < n → j < n → tb i = tb j → i = j) : ∀ (ord : List Nat) (x : Nat), (∀ y, y ∈ ord → y < n) → x < n → (ord.map tb).idxOf (tb x) = ord.idxOf x
  | [], _, _, _ => rfl
  | y :: r, x, h, hx => by
    have hy := h y (List.mem_cons_self ..)
    have ih := idxOf_map hinj r x (fun z hz => h z (List.mem_cons_of_mem _ hz)) hx
    rw [List.map_cons, List.idxOf_cons, List.idxOf_cons, ih]
    by_cases e : y = x
    · subst e; simp
    · have e2 : ¬ tb y = tb x := fun e2 => e (hinj y x hy hx e2)
      rw [beq_false_of_ne e, beq_false_of_ne e2]
set_option maxRecDepth 100000 in
theorem mem_map_tb {tb : Nat → Nat} {n : Nat} (hinj : ∀ i j, i < n → j < n → tb i = tb j → i = j) {ord : List Nat} {x : Nat} (h : ∀ y, y ∈ ord → y < n) (hx : x < n) : tb x ∈ ord.map tb ↔ x ∈ ord := by
  constructor
  · intro hm
    obtain ⟨y, hy, e⟩ := List.mem_map.1 hm
    exact hinj y x (h y hy) hx e ▸ hy
  · intro hm; exact List.mem_map.2 ⟨x, hm, rfl⟩
set_option maxRecDepth 100000 in
theorem nodup_map_tb {tb : Nat → Nat} {n : Nat} (hinj : ∀ i j, i < n → j < n → tb i = tb j → i = j) : ∀ {ord : List Nat}, ord.Nodup → (∀ y, y ∈ ord → y < n) → (ord.map tb).Nodup
  | [], _, _ => List.nodup_nil
  | y :: r, hd, h => by
    rw [List.map_cons, List.nodup_cons]
    rw [List.nodup_cons] at hd
    exact ⟨fun hm => hd.1 ((mem_map_tb hinj (fun z hz => h z (List.mem_cons_of_mem _ hz)) (h y (List.mem_cons_self ..))).1 hm), nodup_map_tb hinj hd.2 (fun z hz => h z (List.mem_cons_of_mem _ hz))⟩

set_option maxRecDepth 100000 in
theorem placeOf_old (n : Nat) (tb : Nat → Nat) (M mb base : Nat) (ord : List Nat) (x : Nat) (ma : Option Addr) (mc : Nat) (w : World) (hinv : InvO n ord) (hx : x < n) (_hn : n ≤ 300) (hinj : ∀ i j, i < n → j < n → tb i = tb j → i = j)
    (hcells : ∀ i, i < n → CellsAt w (tb i)) (hM : Meet w tb M mb base ord ma mc) (hm : x ∈ ord) :
    Calls Try.prog 178 #[ptr M, ptr (tb x)] w (PlacePost w tb M mb base ord x ma) := by
  obtain ⟨i0, hi0, hi1⟩ := Option.map_eq_some_iff.1 info_struct_thing
  have hlk := run_lookup_some (P := Try.prog) (tm := 200) (ti := 3) hM.map Try.underlying200 Try.underlying206 hi0 (by omega) (hcells x hx) (fun c hc => by obtain ⟨y, hy, rfl⟩ := List.mem_map.1 hc; exact hcells y (hinv.2 y hy)) (nodup_map_tb hinj hinv.1 hinv.2) ((mem_map_tb hinj hinv.2 hx).2 hm)
  rw [idxOf_map hinj ord x hinv.2 hx] at hlk
  have c0 := hM.c0
  have hml := hM.lt
  have e1 : Hid (addOrd ord x = ord) := if_pos hm
  go_enter Try.func178, Try.ntmps178
  go_wp2
  go_ret
  exact ⟨ma, mc, by rw [e1.out]; rfl, by rw [e1.out]; exact hM, Or.inl rfl, Kept.refl _ _⟩

set_option maxRecDepth 100000 in
theorem placeOf_new (n : Nat) (tb : Nat → Nat) (M mb base : Nat) (ord : List Nat) (x : Nat) (ma : Option Addr) (mc : Nat) (w : World) (hinv : InvO n ord) (hx : x < n) (hn : n ≤ 300) (hinj : ∀ i j, i < n → j < n → tb i = tb j → i = j)
    (hcells : ∀ i, i < n → CellsAt w (tb i)) (hM : Meet w tb M mb base ord ma mc) (hbase : base ≤ w.heap.size) (hm : x ∉ ord) :
    Calls Try.prog 178 #[ptr M, ptr (tb x)] w (PlacePost w tb M mb base ord x ma) := by
  obtain ⟨i0, hi0, hi1⟩ := Option.map_eq_some_iff.1 info_struct_thing
  obtain ⟨t0, ht, hz0, hz1, hz2⟩ := info_parts info_thing
  have hol := hinv.le
  have hks : ∀ c, c ∈ ord.map tb → CellsAt w c := fun c hc => by obtain ⟨y, hy, rfl⟩ := List.mem_map.1 hc; exact hcells y (hinv.2 y hy)
  have hnm : tb x ∉ ord.map tb := fun h => hm ((mem_map_tb hinj hinv.2 hx).1 h)
  have hlk := run_lookup_none (P := Try.prog) (tm := 200) (ti := 3) hM.map Try.underlying200 Try.underlying206 hi0 (by omega) (zero_int w) (hcells x hx) hks hnm
  obtain ⟨w1, hup, hP1, hK1, hsz1⟩ := run_update_new (P := Try.prog) (tm := 200) (ti := 3) hM.map Try.underlying200 Try.underlying206 hi0 (by omega) (hcells x hx) hks hnm
  rw [List.length_map] at hup
  have c0 := hM.c0
  have c1 := hM.c1
  have hml := hM.lt
  obtain ⟨m1, m2, m3⟩ := hM.mlt
  have hmb : ∀ b, ma = some ⟨b, 0, none⟩ → base ≤ b ∧ b < w.heap.size := fun b hb => hM.met.lt b (by rw [hb]; rfl)
  have d0 := hK1.cell c0 m3
  have d1 := hK1.cell c1 m3
  have hown : w1.ownsRow base 206 1 (.slice ma ord.length mc) ord.length (ord.map fun x => ptr (tb x)) := hK1.owns hM.met (fun b hb => by have := hmb b (owns_addr hM.met hb); omega)
  have hml1 : M < w1.heap.size := by omega
  have hbw1 : base ≤ w1.heap.size := by omega
  have hown' : Hid _ := hown
  have hsz' : Hid _ := hsz1
  have hf1 : ∀ o, w1.frozen? ⟨M, o, none⟩ = false := fun o => (World.frozen?_of_block (w := w) (hK1.block M hml m3)).trans (hM.f o)
  have e1 : Hid (addOrd ord x = ord ++ [x]) := if_neg hm
  have hP1' : Hid _ := hP1
  clear hown hsz1 hks hnm hP1
  go_enter Try.func178, Try.ntmps178
  go_wp2_with (at_builtin; go_must (refine wpList_append_lies _ rfl (.tmp 33) (.tmp 35) 201 rfl base 206 t0 (.pointer none) 1 8 Try.underlying201 ht hz0 hz1 hz2 rfl (by decide) (.slice ma ord.length mc) ord.length _ rfl (World.ownsRow.alloc hown'.out _) ⟨w1.heap.size, 0, none⟩ 1 1 [ptr (tb x)] rfl rfl (World.news_of_block (cs := #[ptr (tb x)]) (t := 206) (fr := (0, 0)) (blk_new_at _ _ _ rfl)) (by simp [Value.oneCell']) (by decide) (by unfold maxLen; omega) (by omega) (by simp; omega) (w1.heap.size + 1) (by simp) ?_); intro gg cc w3 hown3 hgrow3 hat3 hlt3; have hq := ((Kept.refl (fun b => (Value.slice ma ord.length mc).ownBlock = some b) w1).alloc (.cells #[ptr (tb x)] 206)).trans (Kept.of_grown hgrow3) (fun _ _ e => e); have g1 := hq.cell d1 (fun hp => by have := hmb M (owns_addr hM.met hp); omega); have gf := fun o => (World.frozen?_of_block (w := w1) (hq.block M hml1 (fun hp => by have := hmb M (owns_addr hM.met hp); omega))).trans (hf1 o))
  have hix : Hid ((ord ++ [x]).idxOf x = ord.length) := by show (ord ++ [x]).idxOf x = ord.length; rw [List.idxOf_append, if_neg hm]; simp
  have hC := (Kept.refl (fun b => b = M) w3).set (a := ⟨M, 1, none⟩) (fun _ => rfl) (.slice (some ⟨gg, 0, none⟩) (ord.length + 1) cc)
  have hgg : base ≤ gg := (hown3.lt gg rfl).1
  have hsz := hsz'.out
  have hgor : (some ⟨gg, 0, none⟩ : Option Addr) = ma ∨ w.heap.size ≤ gg := by
    rcases hat3 with e | e
    · exact Or.inl (owns_addr hM.met e).symm
    · exact Or.inr (by omega)
  go_ret
  refine ⟨some ⟨gg, 0, none⟩, cc, by rw [e1.out, hix.out]; rfl, ?_, hgor.imp id (fun h => ⟨gg, rfl, h⟩), ?_⟩
  · rw [e1.out]
    refine ⟨by have h1 := hq.size; have h2 := hC.size; omega, ?_, ?_, fun o => ?_, ?_, ?_, m1, m2, m3⟩
    · rw [World.cell?_setCell_other _ _ _ _ (by simp)]; exact hq.cell d0 (fun hp => by have := hmb M (owns_addr hM.met hp); omega)
    · rw [World.cell?_setCell_same _ _ _ g1]; simp
    · rw [World.frozen?_setCell]; exact gf o
    · have h1 := (PMap.kept hP1'.out hq (fun hp => by have := hmb mb (owns_addr hM.met hp); omega)).kept hC (fun e => m3 e.symm)
      simpa using h1
    · have h1 := hC.owns hown3 (fun b hb hp => by have := (hown3.lt b hb).1; omega)
      simpa using h1
  · refine ((hK1.mono (q := fun k => k = M ∨ k = mb ∨ ma = some ⟨k, 0, none⟩) (fun k _ e => Or.inr (Or.inl e))).trans hq (fun k hk hp => Or.inr (Or.inr (owns_addr hM.met hp)))).trans hC (fun k hk hp => Or.inl hp)

set_option maxRecDepth 100000 in
theorem placeOf_any (n : Nat) (tb : Nat → Nat) (M mb base : Nat) (ord : List Nat) (x : Nat) (ma : Option Addr) (mc : Nat) (w : World) (hinv : InvO n ord) (hx : x < n) (hn : n ≤ 300) (hinj : ∀ i j, i < n → j < n → tb i = tb j → i = j)
    (hcells : ∀ i, i < n → CellsAt w (tb i)) (hM : Meet w tb M mb base ord ma mc) (hbase : base ≤ w.heap.size) :
    Calls Try.prog 178 #[ptr M, ptr (tb x)] w (PlacePost w tb M mb base ord x ma) := by
  by_cases hm : x ∈ ord
  · exact placeOf_old n tb M mb base ord x ma mc w hinv hx hn hinj hcells hM hm
  · exact placeOf_new n tb M mb base ord x ma mc w hinv hx hn hinj hcells hM hbase hm

end Go.Proofs.Ythjddpkegooobab

/-
  CLONE: a text's own copy is the same text. Own work.
-/
namespace Go.Proofs.Ythjddpkegooobab
open Go.RowKit

set_option maxRecDepth 100000 in
theorem info_byte : (Try.prog.info? 5).map (fun i => (i.zero, i.size, i.bytes)) = some (some (.int .u8 0), 1, 1) := by kernel_rfl
theorem size_byte : (Try.prog.info? 5).map (·.size) = some 1 := by kernel_rfl
theorem cells_byte : Try.prog.cellsOf 5 = 1 := by kernel_rfl

set_option maxRecDepth 100000 in
set_option maxHeartbeats 1000000 in
theorem sliteClone_any (s : ByteArray) (w : World) (hs : s.size ≤ 1000) :
    Calls Try.prog 179 #[.string s] w fun e w' => e = .returned (.string s) ∧ Below w.heap.size w w' := by
  by_cases h0 : s.size = 0
  · obtain rfl : s = ⟨#[]⟩ := ByteArray.ext (Array.eq_empty_of_size_eq_zero h0)
    go_enter Try.func179, Try.ntmps179
    go_wp2
    go_ret
    exact ⟨rfl, gre _⟩
  · obtain ⟨i0, hi, hz0, hz1, hz2⟩ := info_parts info_byte
    obtain ⟨M, hM⟩ : ∃ M, Hid (M = madeCells #[Value.int .u8 0] s.size) := ⟨_, rfl⟩
    have hMs : M.size = s.size := by rw [hM.out, size_madeCells]
    have hmk : ∀ u : World, (Instr.makeSlice 28 (.int .i64 (s.size : Int)) (.int .i64 (s.size : Int))).run Try.prog u = .ok (.slice (some ⟨u.heap.size, 0, none⟩) s.size s.size) (u.alloc (.cells M 5)) := fun u => by
      have h := run_make (P := Try.prog) u 28 5 i0 _ Try.underlying28 hi hz0 .i64 .i64 (s.size : Int) (s.size : Int) (by omega) (Int.le_refl _) (by rw [hz2]; omega) (by omega)
      rw [hM.out]
      simpa [hz1, Value.cells] using h
    have hnew : (w.alloc (.cells M 5)).heap[w.heap.size]? = some (.cells M 5 (0, 0)) := heap_alloc_new w _
    have hcp := Lib.run_copy_row_string (P := Try.prog) (w.alloc (.cells M 5)) 28 9 3 5 w.heap.size 0 s.size s.size s M 5 Try.underlying28 size_byte hnew (Nat.le_refl _) (by omega)
    obtain ⟨Y, hY⟩ : ∃ Y, Y = (M.toList.take 0 ++ Lib.byteCells s.data.toList ++ M.toList.drop (0 + s.size)).toArray := ⟨_, rfl⟩
    rw [← hY] at hcp
    have hYl : Y.toList = Lib.byteCells s.data.toList := by
      rw [hY, List.toList_toArray, List.take_zero, List.nil_append, List.drop_of_length_le (by rw [Array.length_toList]; omega), List.append_nil]
    have hYs : Y.size = s.size := by rw [← Array.length_toList, hYl, Lib.byteCells_length, ← Lib.size_eq]
    have hrow : ((w.alloc (.cells M 5)).setRow w.heap.size Y).heap[w.heap.size]? = some (.cells Y 5 (0, 0)) := setRow_heap _ _ M _ 5 (0, 0) hnew
    have hne : s.data.toList ≠ [] := fun e => h0 (by rw [Lib.size_eq, e]; rfl)
    have hus := Lib.run_unsafeString_row (P := Try.prog) ((w.alloc (.cells M 5)).setRow w.heap.size Y) 221 3 9 5 Try.underlying221 cells_byte w.heap.size Y.size (by unfold World.shape?; rw [hrow]) s.data.toList hne (by rw [← Lib.size_eq]; omega) (by rw [← Lib.size_eq]; omega)
      (fun j x hx => Lib.cells_of_row hrow Y.size j _ (by rw [List.take_of_length_le (by rw [Array.length_toList]; exact Nat.le_refl _), hYl]; simp [Lib.byteCells, hx]))
    rw [← Lib.size_eq] at hus
    clear hY hnew hrow hM
    go_enter Try.func179, Try.ntmps179
    go_wp2
    go_ret
    have hb : Below w.heap.size w ((w.alloc (.cells M 5)).setRow w.heap.size Y) := (gal (gre w) _).trans ⟨rfl, rfl, rfl, by simp, fun k hk => setRow_other _ _ _ _ (by omega)⟩
    exact ⟨rfl, Lib.below_freeze hb (p := ⟨w.heap.size, 0, none⟩) (Nat.le_refl _) _⟩

set_option maxRecDepth 100000 in
theorem clone_any (s : ByteArray) (w : World) (hs : s.size ≤ 1000) :
    Calls Try.prog 177 #[.string s] w fun e w' => e = .returned (.string s) ∧ Below w.heap.size w w' := by
  go_enter Try.func177, Try.ntmps177
  go_wp2_with (go_at_call 179; refine (sliteClone_any s _ hs).mono ?_; rintro e w' ⟨rfl, hb⟩)
  go_ret
  exact ⟨rfl, hb⟩

end Go.Proofs.Ythjddpkegooobab

/-
  VALOF: a value taken back from behind its interface. Own work.
-/
namespace Go.Proofs.Ythjddpkegooobab
open Go.RowKit

set_option maxRecDepth 100000 in
theorem method_num (m : Int) (w : World) : (method 337 214 (.int .i64 m) "loop.example/chest/impl.kind").run Try.prog w = .ok (196, .int .i64 m) w := by kernel_rfl
theorem method_bits (m : Int) (w : World) : (method 337 215 (.int .i64 m) "loop.example/chest/impl.kind").run Try.prog w = .ok (197, .int .i64 m) w := by kernel_rfl
theorem method_text (s : ByteArray) (w : World) : (method 337 216 (.string s) "loop.example/chest/impl.kind").run Try.prog w = .ok (198, .string s) w := by kernel_rfl
set_option maxRecDepth 100000 in
theorem method_thing (b : Nat) (w : World) : (method 337 206 (ptr b) "loop.example/chest/impl.kind").run Try.prog w = .ok (195, ptr b) w := by kernel_rfl
theorem method_nothing (w : World) : (method 337 219 (.agg #[]) "loop.example/chest/impl.kind").run Try.prog w = .ok (199, .agg #[]) w := by kernel_rfl

set_option maxRecDepth 100000 in
theorem ta_num_num (x : Value) (w : World) : (Instr.typeAssert (.iface 214 x) 172 214 true).run Try.prog w = .ok (.tuple #[x, .bool true]) w := by kernel_rfl
theorem ta_bits_num (x : Value) (w : World) : (Instr.typeAssert (.iface 215 x) 172 214 true).run Try.prog w = .ok (.tuple #[.int .i64 0, .bool false]) w := by kernel_rfl
theorem ta_bits_bits (x : Value) (w : World) : (Instr.typeAssert (.iface 215 x) 172 215 true).run Try.prog w = .ok (.tuple #[x, .bool true]) w := by kernel_rfl
set_option maxRecDepth 100000 in
theorem ta_text_num (x : Value) (w : World) : (Instr.typeAssert (.iface 216 x) 172 214 true).run Try.prog w = .ok (.tuple #[.int .i64 0, .bool false]) w := by kernel_rfl
theorem ta_text_bits (x : Value) (w : World) : (Instr.typeAssert (.iface 216 x) 172 215 true).run Try.prog w = .ok (.tuple #[.int .i64 0, .bool false]) w := by kernel_rfl
theorem ta_text_text (x : Value) (w : World) : (Instr.typeAssert (.iface 216 x) 172 216 true).run Try.prog w = .ok (.tuple #[x, .bool true]) w := by kernel_rfl
set_option maxRecDepth 100000 in
theorem ta_thing_num (x : Value) (w : World) : (Instr.typeAssert (.iface 206 x) 172 214 true).run Try.prog w = .ok (.tuple #[.int .i64 0, .bool false]) w := by kernel_rfl
theorem ta_thing_bits (x : Value) (w : World) : (Instr.typeAssert (.iface 206 x) 172 215 true).run Try.prog w = .ok (.tuple #[.int .i64 0, .bool false]) w := by kernel_rfl
theorem ta_thing_text (x : Value) (w : World) : (Instr.typeAssert (.iface 206 x) 172 216 true).run Try.prog w = .ok (.tuple #[.string .empty, .bool false]) w := by kernel_rfl
set_option maxRecDepth 100000 in
theorem ta_thing_thing (x : Value) (w : World) : (Instr.typeAssert (.iface 206 x) 172 206 true).run Try.prog w = .ok (.tuple #[x, .bool true]) w := by kernel_rfl
theorem ta_nothing_num (x : Value) (w : World) : (Instr.typeAssert (.iface 219 x) 172 214 true).run Try.prog w = .ok (.tuple #[.int .i64 0, .bool false]) w := by kernel_rfl
theorem ta_nothing_bits (x : Value) (w : World) : (Instr.typeAssert (.iface 219 x) 172 215 true).run Try.prog w = .ok (.tuple #[.int .i64 0, .bool false]) w := by kernel_rfl
set_option maxRecDepth 100000 in
theorem ta_nothing_text (x : Value) (w : World) : (Instr.typeAssert (.iface 219 x) 172 216 true).run Try.prog w = .ok (.tuple #[.string .empty, .bool false]) w := by kernel_rfl
theorem ta_nothing_thing (x : Value) (w : World) : (Instr.typeAssert (.iface 219 x) 172 206 true).run Try.prog w = .ok (.tuple #[.pointer none, .bool false]) w := by kernel_rfl

set_option maxRecDepth 100000 in
theorem valOf_num (M : Nat) (m : Int) (w : World) :
    Calls Try.prog 168 #[ptr M, .iface 214 (.int .i64 m)] w fun e w' => e = .returned (GV.mk 1 m ⟨#[]⟩ 0).val ∧ Below w.heap.size w w' := by
  have hme := method_num m
  have h1 := ta_num_num (.int .i64 m)
  go_enter Try.func168, Try.ntmps168
  go_wp2
  exact bodyPost_ret (v := (GV.mk 1 m ⟨#[]⟩ 0).val) (by simp [results, Try.results168, go_sem]) rfl ⟨rfl, gal (gal (gre _) _) _⟩

set_option maxRecDepth 100000 in
theorem valOf_bits (M : Nat) (m : Int) (w : World) :
    Calls Try.prog 168 #[ptr M, .iface 215 (.int .i64 m)] w fun e w' => e = .returned (GV.mk 2 m ⟨#[]⟩ 0).val ∧ Below w.heap.size w w' := by
  have hme := method_bits m
  have h1 := ta_bits_num (.int .i64 m)
  have h2 := ta_bits_bits (.int .i64 m)
  go_enter Try.func168, Try.ntmps168
  go_wp2
  exact bodyPost_ret (v := (GV.mk 2 m ⟨#[]⟩ 0).val) (by simp [results, Try.results168, go_sem]) rfl ⟨rfl, gal (gal (gre _) _) _⟩

set_option maxRecDepth 100000 in
theorem valOf_nothing (M : Nat) (w : World) :
    Calls Try.prog 168 #[ptr M, .iface 219 (.agg #[])] w fun e w' => e = .returned (GV.mk 0 0 ⟨#[]⟩ 0).val ∧ Below w.heap.size w w' := by
  have hme := method_nothing
  have h1 := ta_nothing_num (.agg #[])
  have h2 := ta_nothing_bits (.agg #[])
  have h3 := ta_nothing_text (.agg #[])
  have h4 := ta_nothing_thing (.agg #[])
  go_enter Try.func168, Try.ntmps168
  go_wp2
  exact bodyPost_ret (v := (GV.mk 0 0 ⟨#[]⟩ 0).val) (by simp [results, Try.results168, go_sem]) rfl ⟨rfl, gal (gal (gal (gre _) _) _) _⟩

set_option maxRecDepth 100000 in
theorem valOf_text (M : Nat) (s : ByteArray) (w : World) (hs : s.size ≤ 1000) :
    Calls Try.prog 168 #[ptr M, .iface 216 (.string s)] w fun e w' => e = .returned (GV.mk 3 0 s 0).val ∧ Below w.heap.size w w' := by
  have hme := method_text s
  have h1 := ta_text_num (.string s)
  have h2 := ta_text_bits (.string s)
  have h3 := ta_text_text (.string s)
  go_enter Try.func168, Try.ntmps168
  go_wp2_with (first | (go_at_call 177; refine (clone_any s _ hs).mono ?_; rintro e w' ⟨rfl, hb⟩; obtain ⟨z0, a0, a1, a2, a3, af⟩ := ((Four.new_at w ⟨0, 0, ⟨#[]⟩, 0⟩ 30 w.heap.size rfl).alloc _).kept (Kept.of_below hb (fun _ => False)) (fun e => e); obtain ⟨z1, b0, b1, b2, b3, bf⟩ := (Four.new_at _ ⟨3, 0, ⟨#[]⟩, 0⟩ 30 (w.heap.size + 1) (by simp)).kept (Kept.of_below hb (fun _ => False)) (fun e => e)) | go_in)
  refine bodyPost_ret (v := (GV.mk 3 0 s 0).val) (by simp [results, Try.results168, go_sem, a0, a1, a2, a3]) rfl ⟨rfl, ?_⟩
  exact gse (gse (gse (gse (gse (gca (gal (gal (gre _) _) _) hb) (by simp) _) (by simp) _) (by simp) _) (by simp) _) (by simp) _

/-- what taking a value back leaves -/
def ValPost (w : World) (tb : Nat → Nat) (M mb base : Nat) (ord : List Nat) (v : GV) (ma : Option Addr) (e : Ending) (w' : World) : Prop :=
  ∃ ma' mc', e = .returned (renVal ord v).val ∧ Meet w' tb M mb base (renOrd ord v) ma' mc' ∧ (ma' = ma ∨ ∃ b, ma' = some ⟨b, 0, none⟩ ∧ w.heap.size ≤ b) ∧ Kept (fun k => k = M ∨ k = mb ∨ ma = some ⟨k, 0, none⟩) w w'

set_option maxRecDepth 100000 in
theorem renOrd_add {ord : List Nat} {v : GV} (hk : v.kind = 4) : renOrd ord v = addOrd ord v.node.toNat := by
  unfold renOrd addOrd
  by_cases h : v.node.toNat ∈ ord
  · rw [if_neg (fun c => c.2 h), if_pos h]
  · rw [if_pos ⟨hk, h⟩, if_neg h]

set_option maxRecDepth 100000 in
theorem valOf_thing (n : Nat) (tb : Nat → Nat) (M mb base : Nat) (ord : List Nat) (x : Nat) (ma : Option Addr) (mc : Nat) (w : World) (hinv : InvO n ord) (hx : x < n) (hn : n ≤ 300) (hinj : ∀ i j, i < n → j < n → tb i = tb j → i = j)
    (hcells : ∀ i, i < n → CellsAt w (tb i)) (hM : Meet w tb M mb base ord ma mc) (hbase : base ≤ w.heap.size) :
    Calls Try.prog 168 #[ptr M, .iface 206 (ptr (tb x))] w (ValPost w tb M mb base ord ⟨4, 0, ⟨#[]⟩, x⟩ ma) := by
  have hme := method_thing (tb x)
  have h1 := ta_thing_num (ptr (tb x))
  have h2 := ta_thing_bits (ptr (tb x))
  have h3 := ta_thing_text (ptr (tb x))
  have h4 := ta_thing_thing (ptr (tb x))
  have hA : Kept (fun _ => False) w ((w.alloc (.cells #[.int .i64 0, .int .i64 0, .string ⟨#[]⟩, .int .i64 0] 30)).alloc (.cells #[.int .i64 4, .int .i64 0, .string ⟨#[]⟩, .int .i64 0] 30)) := ((Kept.refl _ w).alloc _).alloc _
  have hM1 := hM.kept hA (fun e => e) (fun e => e) (fun _ _ e => e)
  have hcells1 : ∀ i, i < n → CellsAt ((w.alloc (.cells #[.int .i64 0, .int .i64 0, .string ⟨#[]⟩, .int .i64 0] 30)).alloc (.cells #[.int .i64 4, .int .i64 0, .string ⟨#[]⟩, .int .i64 0] 30)) (tb i) := fun i hi => by
    obtain ⟨c, t, hc⟩ := hcells i hi
    exact ⟨c, t, (hA.block _ (Array.getElem?_eq_some_iff.1 hc).1 (fun e => e)).trans hc⟩
  have hnew0 : ¬ (w.heap.size = M ∨ w.heap.size = mb ∨ ma = some ⟨w.heap.size, 0, none⟩) := fun hp => by
    have hm := hM.mlt
    rcases hp with hp | hp | hp
    · omega
    · omega
    · have := (hM.met.lt w.heap.size (by rw [hp]; rfl)).2; omega
  have hnew1 : ¬ (w.heap.size + 1 = M ∨ w.heap.size + 1 = mb ∨ ma = some ⟨w.heap.size + 1, 0, none⟩) := fun hp => by
    have hm := hM.mlt
    rcases hp with hp | hp | hp
    · omega
    · omega
    · have := (hM.met.lt (w.heap.size + 1) (by rw [hp]; rfl)).2; omega
  go_enter Try.func168, Try.ntmps168
  go_wp2_with (first | (go_at_call 178; refine (placeOf_any n tb M mb base ord x ma mc _ hinv hx hn hinj hcells1 hM1 (by simp; omega)).mono ?_; rintro e w' ⟨ma', mc', rfl, hM', hor, hK'⟩; obtain ⟨z0, a0, a1, a2, a3, af⟩ := ((Four.new_at w ⟨0, 0, ⟨#[]⟩, 0⟩ 30 w.heap.size rfl).alloc _).kept hK' hnew0; obtain ⟨z1, b0, b1, b2, b3, bf⟩ := (Four.new_at _ ⟨4, 0, ⟨#[]⟩, 0⟩ 30 (w.heap.size + 1) (by simp)).kept hK' hnew1) | go_in)
  have hx4 : Hid (renVal ord ⟨4, 0, ⟨#[]⟩, x⟩ = ⟨4, 0, ⟨#[]⟩, ((addOrd ord x).idxOf x : Nat)⟩) := by
    show renVal ord ⟨4, 0, ⟨#[]⟩, x⟩ = _
    unfold renVal
    rw [if_pos rfl, renOrd_add rfl]
    rfl
  have hx5 : Hid (renOrd ord ⟨4, 0, ⟨#[]⟩, x⟩ = addOrd ord x) := renOrd_add rfl
  have hC : Kept (fun k => k = w.heap.size ∨ k = w.heap.size + 1) w' (((((w'.setCell ⟨w.heap.size + 1, 3, none⟩ (.int .i64 ((addOrd ord x).idxOf x : Nat))).setCell ⟨w.heap.size, 0, none⟩ (.int .i64 4)).setCell ⟨w.heap.size, 1, none⟩ (.int .i64 0)).setCell ⟨w.heap.size, 2, none⟩ (.string ⟨#[]⟩)).setCell ⟨w.heap.size, 3, none⟩ (.int .i64 ((addOrd ord x).idxOf x : Nat))) :=
    (((((Kept.refl (fun k => k = w.heap.size ∨ k = w.heap.size + 1) w').set (fun _ => Or.inr rfl) _).set (fun _ => Or.inl rfl) _).set (fun _ => Or.inl rfl) _).set (fun _ => Or.inl rfl) _).set (fun _ => Or.inl rfl) _
  obtain ⟨m1, m2, m3⟩ := hM.mlt
  refine bodyPost_ret (v := (GV.mk 4 0 ⟨#[]⟩ ((addOrd ord x).idxOf x : Nat)).val) (by simp [results, Try.results168, go_sem, a0, a1, a2, a3]) rfl ⟨ma', mc', by rw [hx4.out], ?_, ?_, ?_⟩
  · rw [hx5.out]
    refine hM'.kept hC (by omega) (by omega) (fun b hb => ?_)
    rcases hor with e | ⟨c, e, hc⟩
    · have := hM.met.lt b (by rw [← e, hb]; rfl); omega
    · rw [hb] at e
      have e2 := some_addr e
      have h7 := hM'.met.lt b (by rw [hb]; rfl)
      simp at hc
      omega
  · rcases hor with e | ⟨c, e, hc⟩
    · exact Or.inl e
    · simp at hc; exact Or.inr ⟨c, e, by omega⟩
  · exact ((hA.mono (q := fun k => k = M ∨ k = mb ∨ ma = some ⟨k, 0, none⟩) (fun _ _ e => e.elim)).trans hK' (fun _ _ e => e)).trans hC (fun k hk hp => by omega)

set_option maxRecDepth 100000 in
theorem text_empty {s : ByteArray} (h : s.toList = []) : s = ⟨#[]⟩ := by
  apply ByteArray.ext
  have h2 : s.data.toList = [] := by rw [← ByteArray.toList_eq]; exact h
  simpa using h2

set_option maxRecDepth 100000 in
theorem ValPost.of_below {w : World} {tb : Nat → Nat} {M mb base : Nat} {ord : List Nat} {v : GV} {ma : Option Addr} {mc : Nat} (hM : Meet w tb M mb base ord ma mc) (hk : v.kind ≠ 4) {e : Ending} {w' : World} (he : e = .returned v.val) (hb : Below w.heap.size w w') : ValPost w tb M mb base ord v ma e w' := by
  obtain ⟨e1, e2⟩ := ren_not (ord := ord) hk
  have hK : Kept (fun _ => False) w w' := Kept.of_below hb _
  exact ⟨ma, mc, by rw [e2]; exact he, by rw [e1]; exact hM.kept hK (fun e => e) (fun e => e) (fun _ _ e => e), Or.inl rfl, hK.mono (fun _ _ e => e.elim)⟩

set_option maxRecDepth 100000 in
theorem valOf_any (n : Nat) (tb : Nat → Nat) (M mb base : Nat) (ord : List Nat) (v : GV) (ma : Option Addr) (mc : Nat) (w : World) (hv : okV n v = true) (hinv : InvO n ord) (hn : n ≤ 300) (hinj : ∀ i j, i < n → j < n → tb i = tb j → i = j)
    (hcells : ∀ i, i < n → CellsAt w (tb i)) (hM : Meet w tb M mb base ord ma mc) (hbase : base ≤ w.heap.size) :
    Calls Try.prog 168 #[ptr M, encV tb v] w (ValPost w tb M mb base ord v ma) := by
  obtain ⟨k, m, t, x⟩ := v
  have hv' := hv
  unfold okV at hv'
  dsimp only at hv'
  by_cases h1 : k = 1
  · subst h1
    rw [if_neg (by decide), if_pos (Or.inl rfl)] at hv'
    obtain ⟨ht, hx⟩ := of_decide_eq_true hv'
    obtain rfl := text_empty ht
    subst hx
    rw [enc1 rfl]
    exact (valOf_num M m w).mono fun e w' h => ValPost.of_below hM (by simp) h.1 h.2
  by_cases h2 : k = 2
  · subst h2
    rw [if_neg (by decide), if_pos (Or.inr rfl)] at hv'
    obtain ⟨ht, hx⟩ := of_decide_eq_true hv'
    obtain rfl := text_empty ht
    subst hx
    rw [enc2 rfl]
    exact (valOf_bits M m w).mono fun e w' h => ValPost.of_below hM (by simp) h.1 h.2
  by_cases h3 : k = 3
  · subst h3
    rw [if_neg (by decide), if_neg (by decide), if_pos rfl] at hv'
    obtain ⟨hm, hx, ht⟩ := of_decide_eq_true hv'
    subst hm hx
    rw [enc3 rfl]
    exact (valOf_text M t w ht).mono fun e w' h => ValPost.of_below hM (by simp) h.1 h.2
  by_cases h4 : k = 4
  · subst h4
    rw [if_neg (by decide), if_neg (by decide), if_neg (by decide), if_pos rfl] at hv'
    obtain ⟨hm, ht, hx0, hxn⟩ := of_decide_eq_true hv'
    obtain rfl := text_empty ht
    subst hm
    obtain ⟨y, rfl⟩ := Int.eq_ofNat_of_zero_le hx0
    rw [enc4 rfl]
    exact valOf_thing n tb M mb base ord y ma mc w hinv (by omega) hn hinj hcells hM hbase
  · by_cases h0 : k = 0
    · subst h0
      rw [if_pos rfl] at hv'
      obtain ⟨hm, ht, hx⟩ := of_decide_eq_true hv'
      obtain rfl := text_empty ht
      subst hm hx
      rw [enc0 (by decide) (by decide) (by decide) (by decide)]
      exact (valOf_nothing M w).mono fun e w' h => ValPost.of_below hM (by simp) h.1 h.2
    · rw [if_neg h0, if_neg (fun h => h.elim h1 h2), if_neg h3, if_neg h4] at hv'
      cases hv'

end Go.Proofs.Ythjddpkegooobab
