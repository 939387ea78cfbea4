import Derived.Recover
import Derived.Laws.Pointers
import Derived.Test.YthjddpkegooobaaPartRoI
import Derived.Test.YthjddpkegooobaaPartRoN

/-
  RDV4: the program's reader: values. Own work.
-/
namespace Go.Proofs.Ythjddpkegooobaa
open Go.RowKit

set_option maxHeartbeats 1000000 in
set_option maxRecDepth 100000 in
theorem readVal_text_no2 (b : Nat) (sa : Option Addr) (cap : Nat) (bs t : List Nat) (n : Nat) (q : List Nat) (w : World) (hR : Rd w b sa cap bs (3 :: t)) (hq : Hid (rdCount 1000 t = some (n, q))) (hn : n ≤ 1048576) (hq2 : Hid (rdText n q = none)) :
    Calls Try.prog 121 #[.pointer (some ⟨b, 0, none⟩)] w (RVPost b sa cap bs (3 :: t) w) := by
  have hlt := hR.lt
  have hF0 := Four.new w ⟨0, 0, ⟨#[]⟩, 0⟩ 24
  go_enter Try.func121, Try.ntmps121
  go_wp2_with (first
    | (go_at_call 149; refine (readByte_any b sa cap bs (3 :: t) _ (hR.grow (gal (gre _) _))).mono ?_; rintro e w1 h1; obtain ⟨rfl, hR1, hK1⟩ := RPost.ok h1; have hF1 := hF0.kept hK1 (by omega); obtain ⟨az, a0, a1, a2, a3, af⟩ := id hF1; have hG := Four.new w1 ⟨3, 0, ⟨#[]⟩, 0⟩ 24; have hs1 := hK1.size; simp only [World.size_alloc] at hs1)
    | (go_at_call 120; refine (readCount_any b sa cap bs t 1000 _ _ (hR1.grow (gal (gre _) _)) rfl (by omega)).mono ?_; rintro e w2 h2; rw [hq.out] at h2; obtain ⟨rfl, hR2, hK2⟩ := RPost.ok h2; have hF2 := (hF1.alloc (.cells #[.int .i64 3, .int .i64 0, .string ⟨#[]⟩, .int .i64 0] 24)).kept hK2 (by omega); obtain ⟨bz, b0, b1, b2, b3, bf⟩ := id hF2; have hG2 := hG.kept hK2 (by omega); obtain ⟨gz, g0, g1, g2, g3, gf⟩ := id hG2; have hs2 := hK2.size; simp only [World.size_alloc] at hs2)
    | (go_at_call 119; refine (readText_any b sa cap bs q n _ _ hR2 rfl hn).mono ?_; rintro e w3 h3; rw [hq2.out] at h3; obtain ⟨rfl, hK3⟩ := RPost.no h3))
  exact ⟨rfl, kk (kk ((kk ((Kept.refl _ w).alloc _) hK1).alloc (.cells #[.int .i64 3, .int .i64 0, .string ⟨#[]⟩, .int .i64 0] 24)) hK2) hK3, Or.inr ⟨by show rdVal (3 :: t) = _; simp [rdVal, hq.out, hq2.out], rfl⟩⟩

set_option maxHeartbeats 1000000 in
set_option maxRecDepth 100000 in
theorem readVal_other (b : Nat) (sa : Option Addr) (cap : Nat) (bs t : List Nat) (x : Nat) (w : World) (hR : Rd w b sa cap bs (x :: t)) (hx : 4 < x) :
    Calls Try.prog 121 #[.pointer (some ⟨b, 0, none⟩)] w (RVPost b sa cap bs (x :: t) w) := by
  have hlt := hR.lt
  have hx256 : x < 256 := (hR.head (x := x) (r' := t) rfl).1
  have hF0 := Four.new w ⟨0, 0, ⟨#[]⟩, 0⟩ 24
  have n0 : ((x : Int) == 0) = false := by simp; omega
  have n1 : ((x : Int) == 1) = false := by simp; omega
  have n2 : ((x : Int) == 2) = false := by simp; omega
  have n3 : ((x : Int) == 3) = false := by simp; omega
  have n4 : ((x : Int) == 4) = false := by simp; omega
  go_enter Try.func121, Try.ntmps121
  go_wp2_with (go_at_call 149; refine (readByte_any b sa cap bs (x :: t) _ (hR.grow (gal (gre _) _))).mono ?_; rintro e w1 h1; obtain ⟨rfl, hR1, hK1⟩ := RPost.ok h1)
  exact ⟨rfl, (kk ((Kept.refl _ w).alloc _) hK1).alloc _, Or.inr ⟨by show rdVal (x :: t) = _; unfold rdVal; dsimp only; rw [if_neg (by omega), if_neg (by omega), if_neg (by omega), if_neg (by omega), if_neg (by omega)], rfl⟩⟩

set_option maxRecDepth 100000 in
theorem readVal_none (b : Nat) (sa : Option Addr) (cap : Nat) (bs : List Nat) (w : World) (hR : Rd w b sa cap bs []) :
    Calls Try.prog 121 #[.pointer (some ⟨b, 0, none⟩)] w (RVPost b sa cap bs [] w) := by
  go_enter Try.func121, Try.ntmps121
  go_wp2_with (go_at_call 149; refine (readByte_any b sa cap bs [] _ (hR.grow (gal (gre _) _))).mono ?_; rintro e w1 h1; obtain ⟨rfl, hK1⟩ := RPost.no h1)
  exact ⟨rfl, kk ((Kept.refl _ w).alloc _) hK1, Or.inr ⟨rfl, rfl⟩⟩

end Go.Proofs.Ythjddpkegooobaa

/-
  RDV: the program's reader: any value. Own work.
-/
namespace Go.Proofs.Ythjddpkegooobaa
open Go.RowKit

theorem readVal_any (b : Nat) (sa : Option Addr) (cap : Nat) (bs r : List Nat) (w : World) (hR : Rd w b sa cap bs r) :
    Calls Try.prog 121 #[.pointer (some ⟨b, 0, none⟩)] w (RVPost b sa cap bs r w) := by
  cases r with
  | nil => exact readVal_none b sa cap bs w hR
  | cons x t =>
    by_cases h0 : x = 0
    · subst h0; exact readVal_nil b sa cap bs t w hR
    by_cases h1 : x = 1
    · subst h1
      cases hq : rdNum 0 0 t with
      | none => exact readVal_num_no b sa cap bs t w hR hq
      | some y => exact readVal_num b sa cap bs t y.1 y.2 w hR hq
    by_cases h2 : x = 2
    · subst h2
      cases hq : rdLow 8 0 0 t with
      | none => exact readVal_bits_no b sa cap bs t w hR hq
      | some y => exact readVal_bits b sa cap bs t y.1 y.2 w hR hq
    by_cases h3 : x = 3
    · subst h3
      cases hq : rdCount 1000 t with
      | none => exact readVal_text_no b sa cap bs t w hR hq
      | some y =>
        have hn : y.1 ≤ 1048576 := by have := rdCount_le (n := y.1) (q := y.2) hq; omega
        cases hq2 : rdText y.1 y.2 with
        | none => exact readVal_text_no2 b sa cap bs t y.1 y.2 w hR hq hn hq2
        | some z => exact readVal_text b sa cap bs t y.1 y.2 z.1 z.2 w hR hq hn hq2
    by_cases h4 : x = 4
    · subst h4
      cases hq : rdCount 300 t with
      | none => exact readVal_node_no b sa cap bs t w hR hq
      | some y => exact readVal_node b sa cap bs t y.1 y.2 w hR hq
    exact readVal_other b sa cap bs t x w hR (by omega)

end Go.Proofs.Ythjddpkegooobaa

/-
  RDN: the program's reader: nodes. Own work.
-/
namespace Go.Proofs.Ythjddpkegooobaa
open Go.RowKit

/-- what stands at the head of the round -/
structure NState (w : World) (b : Nat) (sa : Option Addr) (cap : Nat) (bs : List Nat) (tag : Int) (X : Nat) (ws : World) (q : List Nat) (va : Option Addr) (vc : Nat) (vs : List GV) : Prop where
  kept : Kept (fun k => k = b) w ws
  blk : b < w.heap.size ∧ w.heap.size < X ∧ X < ws.heap.size
  res : Two ws w.heap.size 0 (.slice none 0 0)
  x : Two ws X tag (.slice va vs.length vc)
  rd : Rd ws b sa cap bs q
  vals : ws.ownsRow (X + 1) 24 4 (.slice va vs.length vc) vs.length (valCells vs)

theorem NState.step {w : World} {b : Nat} {sa : Option Addr} {cap : Nat} {bs : List Nat} {tag : Int} {X : Nat} {ws : World} {q : List Nat} {va : Option Addr} {vc : Nat} {vs : List GV} (h : NState w b sa cap bs tag X ws q va vc vs) {v : GV} {w1 w3 : World} {q1 : List Nat} {gg cc : Nat} {o : Obj}
    (hR1 : Rd w1 b sa cap bs q1) (hK1 : Kept (fun k => k = b) ws w1)
    (hown : w3.ownsRow (X + 1) 24 4 (.slice (some ⟨gg, 0, none⟩) (vs.length + 1) cc) (vs.length + 1) (valCells vs ++ v.four))
    (hgrow : (w1.alloc o).grownBy w3 (Value.slice va vs.length vc).ownBlock) :
    NState w b sa cap bs tag X (w3.setCell ⟨X, 1, none⟩ (.slice (some ⟨gg, 0, none⟩) (vs.length + 1) cc)) q1 (some ⟨gg, 0, none⟩) cc (vs ++ [v]) := by
  obtain ⟨b1, b2, b3⟩ := h.blk
  have hs1 := hK1.size
  have hA : Kept (fun _ => False) w1 (w1.alloc o) := (Kept.refl _ w1).alloc _
  have hG := Kept.of_grown hgrow
  have hs3 : w1.heap.size + 1 ≤ w3.heap.size := by have := hgrow.size; simpa using this
  have hC := (Kept.refl (fun k => k = X) w3).set (a := ⟨X, 1, none⟩) (fun _ => rfl) (.slice (some ⟨gg, 0, none⟩) (vs.length + 1) cc)
  have hvb : ∀ k, (Value.slice va vs.length vc).ownBlock = some k → X + 1 ≤ k ∧ k < ws.heap.size := fun k hk => h.vals.lt k hk
  have hsz := h.kept.size
  exact {
    kept := (((h.kept.trans hK1 (fun _ _ e => e)).trans hA (fun _ _ e => e.elim)).trans hG (fun k hk hp => by have := hvb k hp; omega)).trans hC (fun k hk hp => by omega)
    blk := ⟨b1, b2, by have := hC.size; omega⟩
    res := (((h.res.kept hK1 (by omega)).kept hA (fun e => e)).kept hG (fun hp => by have := hvb _ hp; omega)).kept hC (by omega)
    x := by
      have h1 := ((h.x.kept hK1 (by omega)).kept hA (fun e => e)).kept hG (fun hp => by have := hvb _ hp; omega)
      simpa using h1.set (s' := .slice (some ⟨gg, 0, none⟩) (vs.length + 1) cc)
    rd := ((hR1.kept hA (fun _ _ e => e)).kept hG (fun k hk hp => by have := hvb k hp; omega)).kept hC (fun k hk hp => by omega)
    vals := by
      have h1 := hC.owns hown (fun k hk hp => by have := (hown.lt k hk).1; omega)
      simpa [valCells_snoc, GV.four] using h1 }

/-- so many values of m have been read -/
def RvInv (m : Nat) (r : List Nat) (j : Nat) (vs : List GV) (q : List Nat) : Prop := rdVals m r = (rdVals (m - j) q).map fun y => (vs ++ y.1, y.2)
theorem RvInv.start (m : Nat) (r : List Nat) : RvInv m r 0 [] r := by
  unfold RvInv
  rw [Nat.sub_zero]
  cases rdVals m r <;> simp
theorem RvInv.next {m j : Nat} {r q q1 : List Nat} {vs : List GV} {v : GV} (h : RvInv m r j vs q) (hj : j < m) (hv : rdVal q = some (v, q1)) : RvInv m r (j + 1) (vs ++ [v]) q1 := by
  unfold RvInv at h ⊢
  rw [h, show m - j = (m - (j + 1)) + 1 by omega, rdVals, hv]
  simp only [Option.bind_some, Option.map_map]
  congr 1
  funext y
  simp
theorem RvInv.none' {m j : Nat} {r q : List Nat} {vs : List GV} (h : RvInv m r j vs q) (hj : j < m) (hv : rdVal q = none) : rdVals m r = none := by
  unfold RvInv at h
  rw [h, show m - j = (m - (j + 1)) + 1 by omega, rdVals, hv]
  rfl
theorem RvInv.done {m : Nat} {r q : List Nat} {vs : List GV} (h : RvInv m r m vs q) : rdVals m r = some (vs, q) := by
  unfold RvInv at h
  rw [h, Nat.sub_self]
  simp [rdVals]

/-- what reading a node leaves -/
def NRPost (b : Nat) (sa : Option Addr) (cap : Nat) (bs r : List Nat) (w : World) (e : Ending) (w' : World) : Prop :=
  Kept (fun k => k = b) w w' ∧ ((∃ n q va vc, Hid (rdNode r = some (n, q)) ∧ e = .returned (nodeVal n va vc) ∧ w'.ownsRow w.heap.size 24 4 (.slice va n.vals.length vc) n.vals.length (valCells n.vals) ∧ Rd w' b sa cap bs q) ∨ (Hid (rdNode r = none) ∧ e = .panicked [haltP]))

set_option maxHeartbeats 1000000 in
set_option maxRecDepth 100000 in
theorem readNode_any (b : Nat) (sa : Option Addr) (cap : Nat) (bs r : List Nat) (w : World) (hR : Rd w b sa cap bs r) :
    Calls Try.prog 122 #[.pointer (some ⟨b, 0, none⟩)] w (NRPost b sa cap bs r w) := by
  obtain ⟨j0, hj, hy0, hy1, hy2⟩ := info_parts info_implVal
  have hlt := hR.lt
  have hT0 := Two.new_at w 0 (.slice none 0 0) 84 w.heap.size rfl
  cases ht : rdCount 1000 r with
  | none =>
    have ht' : Hid _ := ht
    go_enter Try.func122, Try.ntmps122
    go_wp2_with (go_at_call 120; refine (readCount_any b sa cap bs r 1000 _ _ (hR.grow (gal (gre _) _)) rfl (by omega)).mono ?_; rintro e w1 h1; rw [ht'.out] at h1; obtain ⟨rfl, hK1⟩ := RPost.no h1)
    exact ⟨rfl, kk ((Kept.refl _ w).alloc _) hK1, Or.inr ⟨by show rdNode r = none; unfold rdNode; rw [ht]; rfl, rfl⟩⟩
  | some y =>
    obtain ⟨tg, r1⟩ := y
    have ht' : Hid _ := ht
    cases hm : rdCount 100 r1 with
    | none =>
      have hm' : Hid _ := hm
      go_enter Try.func122, Try.ntmps122
      go_wp2_with (first
        | (go_at_call 120; refine (readCount_any b sa cap bs r1 100 _ _ (hR1.grow (gal (gre _) _)) rfl (by omega)).mono ?_; rintro e w2 h2; rw [hm'.out] at h2; obtain ⟨rfl, hK2⟩ := RPost.no h2)
        | (go_at_call 120; refine (readCount_any b sa cap bs r 1000 _ _ (hR.grow (gal (gre _) _)) rfl (by omega)).mono ?_; rintro e w1 h1; rw [ht'.out] at h1; obtain ⟨rfl, hR1, hK1⟩ := RPost.ok h1))
      exact ⟨rfl, kk ((kk ((Kept.refl _ w).alloc _) hK1).alloc _) hK2, Or.inr ⟨by show rdNode r = none; unfold rdNode; rw [ht]; simp [hm], rfl⟩⟩
    | some y =>
      obtain ⟨m, r2⟩ := y
      have hm' : Hid _ := hm
      have hml := rdCount_le hm
      have hnode : Hid (rdNode r = (rdVals m r2).map fun y => (⟨(tg : Int), y.1⟩, y.2)) := by show rdNode r = _; unfold rdNode; rw [ht]; simp [hm]
      go_enter Try.func122, Try.ntmps122
      go_wp2_with (first
        | (go_at_call 120; refine (readCount_any b sa cap bs r1 100 _ _ (hR1.grow (gal (gre _) _)) rfl (by omega)).mono ?_; rintro e w2 h2; rw [hm'.out] at h2; obtain ⟨rfl, hR2, hK2⟩ := RPost.ok h2)
        | (go_at_call 120; refine (readCount_any b sa cap bs r 1000 _ _ (hR.grow (gal (gre _) _)) rfl (by omega)).mono ?_; rintro e w1 h1; rw [ht'.out] at h1; obtain ⟨rfl, hR1, hK1⟩ := RPost.ok h1))
      have hs1 : w.heap.size + 1 ≤ w1.heap.size := by have := hK1.size; simpa using this
      have hs2 : w1.heap.size + 1 ≤ w2.heap.size := by have := hK2.size; simpa using this
      have hD0 : NState w b sa cap bs (tg : Int) w1.heap.size w2 r2 none 0 [] :=
        ⟨kk ((kk ((Kept.refl _ w).alloc _) hK1).alloc _) hK2, ⟨hlt, by omega, by omega⟩, ((hT0.kept hK1 (by omega)).kept ((Kept.refl (fun _ => False) w1).alloc _) (fun e => e)).kept hK2 (by omega), (Two.new_at w1 tg (.slice none 0 0) 84 w1.heap.size rfl).kept hK2 (by omega), hR2, World.ownsRow_nil _ _ _ _⟩
      generalize w1.heap.size = X at hD0 ⊢
      clear hK1 hK2 hs1 hs2 hR1 hR2 hT0
      go_loopw [9] (fun i ws => ∃ (j : Nat) (q : List Nat) (va : Option Addr) (vc : Nat) (vs : List GV), i = .int .i64 j ∧ j ≤ m ∧ Hid (vs.length = j) ∧ Hid (RvInv m r2 j vs q) ∧ NState w b sa cap bs (tg : Int) X ws q va vc vs) (fun i _ => m - (intOf i).toNat)
      case atStart => exact ⟨0, r2, none, 0, [], rfl, Nat.zero_le _, rfl, RvInv.start m r2, hD0⟩
      case round =>
        obtain ⟨j, q, va, vc, vs, rfl, hjm, hvl, hinv, hD⟩ := hrel
        obtain ⟨k1, k2, k3⟩ := hD.blk
        by_cases hjl : j < m
        · have hd : (j : Int) < (m : Int) := by omega
          obtain ⟨xz, x0, x1, xf, _⟩ := hD.x
          go_wp2
          refine wp_regionU (fun u => u.cell? ⟨X, 1, none⟩ = some (.slice va vs.length vc)) 7 (by kernel_rfl) x1 (fun hS0 => ?_)
          refine anyU_take (i := 0) (v := ?_) rfl (by kernel_rfl) (by kernel_rfl) (by kernel_rfl) (by kernel_rfl) (fun _ _ _ h => h) (Or.inl ⟨by rfl, ?_⟩) hS0 ?_
          rotate_left
          · intro u hSu; (try dsimp only at hSu); go_simp <;> with_reducible rfl
          simp only [Act.put, List.getElem_toArray, List.getElem_cons_zero, List.setIfInBounds_toArray, List.set_cons_zero, List.set_cons_succ]
          refine anyU_take (i := 1) (v := ?_) rfl (by kernel_rfl) (by kernel_rfl) (by kernel_rfl) (by kernel_rfl) (fun _ _ _ h => h) (Or.inl ⟨by rfl, ?_⟩) hS0 ?_
          rotate_left
          · intro u hSu; (try dsimp only at hSu); go_simp <;> with_reducible rfl
          simp only [Act.put, List.getElem_toArray, List.getElem_cons_zero, List.getElem_cons_succ, List.setIfInBounds_toArray, List.set_cons_zero, List.set_cons_succ]
          refine anyU_take (i := 2) (v := ?_) rfl (by kernel_rfl) (by kernel_rfl) (by kernel_rfl) (by kernel_rfl) (fun _ _ _ h => h) (Or.inl ⟨by rfl, ?_⟩) hS0 ?_
          rotate_left
          · intro u hSu; (try dsimp only at hSu); go_simp <;> with_reducible rfl
          simp only [Act.put, List.getElem_toArray, List.getElem_cons_zero, List.getElem_cons_succ, List.setIfInBounds_toArray, List.set_cons_zero, List.set_cons_succ]
          refine anyU_one (i := 3) (by kernel_rfl) rfl (fun K hK => ?_)
          go_simp
          refine (readVal_any b sa cap bs q _ (hD.rd.grow (gdr (gre _)))).mono ?_
          rintro e w1 ⟨hK1, ⟨v, q1, hv, rfl, hR1⟩ | ⟨hno, rfl⟩⟩
          · have hKw : Kept (fun k => k = b) wr w1 := kk ((Kept.refl (fun k => k = b) wr).drew) hK1
            have hS1 := hKw.cell x1 (by omega)
            have hX1 : Two w1 X tg (.slice va vs.length vc) := hD.x.kept hKw (by omega)
            have hv1 : Hid _ := hKw.owns hD.vals (fun k hk hp => by have := (hD.vals.lt k hk).1; omega)
            have hsw := hKw.size
            refine hK.out _ _ hS1 ?_
            clear hK
            have hS2' : Hid ((w1.alloc (.cells #[.int .i64 v.kind, .int .i64 v.num, .string v.text, .int .i64 v.node] 24)).cell? ⟨X, 1, none⟩ = some (.slice va vs.length vc)) := ((Kept.refl (fun _ => False) w1).alloc _).cell hS1 (fun e => e)
            refine anyU_one (i := 4) (by kernel_rfl) rfl (fun K hK => ?_)
            go_simp
            refine hK.out _ _ hS2'.out ?_
            clear hK
            refine anyU_one (i := 5) (by kernel_rfl) rfl (fun K hK => ?_)
            refine step_append_lies _ (by rfl) (.tmp 12) (.tmp 15) 82 rfl (X + 1) 24 j0 _ 4 40 Try.underlying82 hj hy0 hy1 hy2 rfl (by decide) (.slice va vs.length vc) vs.length (valCells vs) (by rfl) (World.ownsRow.alloc hv1.out _) ⟨w1.heap.size, 0, none⟩ 1 1 v.four (by rfl) rfl (World.news_of_block (cs := #[.int .i64 v.kind, .int .i64 v.num, .string v.text, .int .i64 v.node]) (t := 24) (fr := (0, 0)) (blk_new_at _ _ _ rfl)) (by simp [GV.four, Value.oneCell']) (by decide) (by have h7 := hvl.out; unfold maxLen; omega) (by have h7 := hvl.out; omega) (by simp; omega) (w1.heap.size + 1) (by simp) ?_
            intro gg cc w3 hown3 hgrow3 hat3 hlt3
            have hX3 := (hX1.kept ((Kept.refl (fun _ => False) w1).alloc _) (fun e => e)).kept (Kept.of_grown hgrow3) (fun hp => by have := (hD.vals.lt _ hp).1; omega)
            obtain ⟨yz, y0, y1, yf, _⟩ := id hX3
            refine hK.out _ _ y1 ?_
            clear hK
            simp only [Act.put, List.getElem_toArray, List.getElem_cons_zero, List.getElem_cons_succ, List.setIfInBounds_toArray, List.set_cons_zero, List.set_cons_succ]
            refine anyU_one (i := 6) (by kernel_rfl) rfl (fun K hK => ?_)
            go_simp
            refine hK.out _ _ y1 ?_
            clear hK
            refine anyU_last (by kernel_rfl) rfl (by kernel_rfl) (fun K hK => ?_)
            go_simp
            refine hK.out _ _ ?_
            clear hK
            have hfin := hD.step hR1 hKw hown3 hgrow3
            have hinv2 : Hid (RvInv m r2 (j + 1) (vs ++ [v]) q1) := hinv.out.next hjl hv.out
            go_wp2
            go_roundw
            case rel => exact ⟨j + 1, q1, some ⟨gg, 0, none⟩, cc, vs ++ [v], by go_num, by omega, by have := hvl.out; show (vs ++ [v]).length = j + 1; simp [this], hinv2, hfin⟩
            case measure => simp [intOf]; omega
          · refine ⟨rfl, kk hD.kept (kk ((Kept.refl (fun k => k = b) wr).drew) hK1), Or.inr ⟨?_, rfl⟩⟩
            show rdNode r = none
            rw [hnode.out, hinv.out.none' hjl hno.out]; rfl
        · obtain rfl : j = m := by omega
          have hd : ¬ ((j : Int) < (j : Int)) := by omega
          have hdone : Hid (rdNode r = some (⟨(tg : Int), vs⟩, q)) := by show rdNode r = _; rw [hnode.out, hinv.out.done]; rfl
          obtain ⟨xz, x0, x1, xf, _⟩ := hD.x
          obtain ⟨rz, r0, r1', rf, _⟩ := hD.res
          have hC : Kept (fun k => k = w.heap.size) wr ((wr.setCell ⟨w.heap.size, 0, none⟩ (.int .i64 (tg : Int))).setCell ⟨w.heap.size, 1, none⟩ (.slice va vs.length vc)) := ((Kept.refl (fun k => k = w.heap.size) wr).set (fun _ => rfl) _).set (fun _ => rfl) _
          have hkept := hD.kept.trans hC (fun k hk hp => by omega)
          have hvals := hC.owns (owns_le hD.vals (show w.heap.size ≤ X + 1 by omega)) (fun k hk hp => by have := (hD.vals.lt k hk).1; omega)
          have hrd := hD.rd.kept hC (fun k hk hp => by omega)
          go_wp2
          refine bodyPost_ret (v := .agg #[.int .i64 (tg : Int), .slice va vs.length vc]) (by simp [results, Try.results122, go_sem, r0, r1']) rfl ⟨hkept, Or.inl ⟨⟨(tg : Int), vs⟩, q, va, vc, hdone, rfl, hvals, hrd⟩⟩

end Go.Proofs.Ythjddpkegooobaa

/-
  RDG: the program's reader: graphs. Own work.
-/
namespace Go.Proofs.Ythjddpkegooobaa
open Go.RowKit

/-- what stands at the head of the round -/
structure GState (w : World) (b : Nat) (sa : Option Addr) (cap : Nat) (bs : List Nat) (rv : GV) (G : Nat) (ws : World) (q : List Nat) (na : Option Addr) (nc : Nat) (nl : List NL) : Prop where
  kept : Kept (fun k => k = b) w ws
  blk : b < w.heap.size ∧ w.heap.size < G ∧ G < ws.heap.size
  res : Five ws w.heap.size ⟨0, 0, ⟨#[]⟩, 0⟩ (.slice none 0 0)
  out : Five ws G rv (.slice na nl.length nc)
  rd : Rd ws b sa cap bs q
  own : OwnG ws (G + 1) na nc nl

theorem GState.step {w : World} {b : Nat} {sa : Option Addr} {cap : Nat} {bs : List Nat} {rv : GV} {G : Nat} {ws : World} {q : List Nat} {na : Option Addr} {nc : Nat} {nl : List NL} (h : GState w b sa cap bs rv G ws q na nc nl) {n : GN} {w1 w3 : World} {q1 : List Nat} {va : Option Addr} {vc : Nat} {gg cc : Nat} {o : Obj}
    (hR1 : Rd w1 b sa cap bs q1) (hK1 : Kept (fun k => k = b) ws w1) (hv1 : w1.ownsRow ws.heap.size 24 4 (.slice va n.vals.length vc) n.vals.length (valCells n.vals))
    (hown : w3.ownsRow (G + 1) 84 2 (.slice (some ⟨gg, 0, none⟩) (nl.length + 1) cc) (nl.length + 1) (nodeCells nl ++ [.int .i64 n.tag, .slice va n.vals.length vc]))
    (hgrow : (w1.alloc o).grownBy w3 (Value.slice na nl.length nc).ownBlock) (hat : (Value.slice na nl.length nc).ownBlock = some gg ∨ gg = w1.heap.size + 1) :
    GState w b sa cap bs rv G (w3.setCell ⟨G, 4, none⟩ (.slice (some ⟨gg, 0, none⟩) (nl.length + 1) cc)) q1 (some ⟨gg, 0, none⟩) cc (nl ++ [⟨n, va, vc⟩]) := by
  obtain ⟨b1, b2, b3⟩ := h.blk
  have hs1 := hK1.size
  have hA : Kept (fun _ => False) w1 (w1.alloc o) := (Kept.refl _ w1).alloc _
  have hG := Kept.of_grown hgrow
  have hs3 : w1.heap.size + 1 ≤ w3.heap.size := by have := hgrow.size; simpa using this
  have hC := (Kept.refl (fun k => k = G) w3).set (a := ⟨G, 4, none⟩) (fun _ => rfl) (.slice (some ⟨gg, 0, none⟩) (nl.length + 1) cc)
  have hnb : ∀ k, (Value.slice na nl.length nc).ownBlock = some k → G + 1 ≤ k ∧ k < ws.heap.size ∧ na = some ⟨k, 0, none⟩ := fun k hk => ⟨(h.own.nodes.lt k hk).1, (h.own.nodes.lt k hk).2, owns_addr h.own.nodes hk⟩
  have hvab : ∀ k, va = some ⟨k, 0, none⟩ → ws.heap.size ≤ k ∧ k < w1.heap.size := fun k hk => hv1.lt k (by rw [hk]; rfl)
  have hxb : ∀ x, x ∈ nl → ∀ k, x.a = some ⟨k, 0, none⟩ → G + 1 ≤ k ∧ k < ws.heap.size := fun x hx k hk => (h.own.vals x hx).lt k (by rw [hk]; rfl)
  have hggb : G + 1 ≤ gg ∧ (na = some ⟨gg, 0, none⟩ ∨ w1.heap.size < gg) := ⟨(hown.lt gg rfl).1, hat.imp (fun e => (hnb gg e).2.2) (fun e => by omega)⟩
  have hsz := h.kept.size
  exact {
    kept := (((h.kept.trans hK1 (fun _ _ e => e)).trans hA (fun _ _ e => e.elim)).trans hG (fun k hk hp => by have := hnb k hp; omega)).trans hC (fun k hk hp => by omega)
    blk := ⟨b1, b2, by have := hC.size; omega⟩
    res := (((h.res.kept hK1 (by omega)).kept hA (fun e => e)).kept hG (fun hp => by have := hnb _ hp; omega)).kept hC (by omega)
    out := by
      have h1 := ((h.out.kept hK1 (by omega)).kept hA (fun e => e)).kept hG (fun hp => by have := hnb _ hp; omega)
      simpa using h1.set (s' := .slice (some ⟨gg, 0, none⟩) (nl.length + 1) cc)
    rd := ((hR1.kept hA (fun _ _ e => e)).kept hG (fun k hk hp => by have := hnb k hp; omega)).kept hC (fun k hk hp => by omega)
    own := by
      refine ⟨?_, fun x hx => ?_, fun x hx => ?_, fun i j hij hj => ?_⟩
      · have h1 := hC.owns hown (fun k hk hp => by have := (hown.lt k hk).1; omega)
        simpa [nodeCells_snoc] using h1
      · rcases List.mem_append.1 hx with hx | hx
        · have h1 := h.own.vals x hx
          refine hC.owns (hG.owns (hA.owns (hK1.owns h1 (fun k hk hp => ?_)) (fun _ _ e => e)) (fun k hk hp => h.own.apn x hx k (owns_addr h1 hk) (hnb k hp).2.2)) (fun k hk hp => ?_)
          · have := (h1.lt k hk).1; omega
          · have := (h1.lt k hk).1; omega
        · simp at hx
          subst hx
          refine hC.owns (hG.owns (hA.owns (owns_le hv1 (by omega)) (fun _ _ e => e)) (fun k hk hp => ?_)) (fun k hk hp => ?_)
          · have h2 := hvab k (owns_addr hv1 hk); have h3 := hnb k hp; omega
          · have h2 := hvab k (owns_addr hv1 hk); omega
      · intro k hk hx2
        have e := some_addr hx2
        subst e
        rcases List.mem_append.1 hx with hx | hx
        · rcases hggb.2 with e3 | e3
          · exact h.own.apn x hx gg hk e3
          · have := hxb x hx gg hk; omega
        · simp at hx
          subst hx
          have h2 := hvab gg hk
          rcases hggb.2 with e3 | e3
          · have h4 := h.own.nodes.lt gg (by rw [e3]; rfl); omega
          · omega
      · have hj' : j < nl.length + 1 := by simpa using hj
        have hi' : i < nl.length := by omega
        have ei : (nl ++ [(⟨n, va, vc⟩ : NL)])[i]! = nl[i]! := by rw [getElem!_pos _ i (by simp; omega), getElem!_pos nl i hi', List.getElem_append_left hi']
        rw [ei]
        by_cases ej : j < nl.length
        · have ej2 : (nl ++ [(⟨n, va, vc⟩ : NL)])[j]! = nl[j]! := by rw [getElem!_pos _ j hj, getElem!_pos nl j ej, List.getElem_append_left ej]
          rw [ej2]
          exact h.own.apv i j hij ej
        · have ej2 : (nl ++ [(⟨n, va, vc⟩ : NL)])[j]! = ⟨n, va, vc⟩ := by
            have e : j = nl.length := by omega
            subst e
            rw [getElem!_pos (nl ++ [(⟨n, va, vc⟩ : NL)]) nl.length hj]; simp
          rw [ej2]
          intro k hk hx2
          have h2 := hvab k hx2
          have h3 := hxb _ (mem_at hi') k hk
          omega }

/-- so many nodes of m have been read -/
def RnInv (m : Nat) (r : List Nat) (j : Nat) (ns : List GN) (q : List Nat) : Prop := rdNodes m r = (rdNodes (m - j) q).map fun y => (ns ++ y.1, y.2)
theorem RnInv.start (m : Nat) (r : List Nat) : RnInv m r 0 [] r := by
  unfold RnInv
  rw [Nat.sub_zero]
  cases rdNodes m r <;> simp
theorem RnInv.next {m j : Nat} {r q q1 : List Nat} {ns : List GN} {n : GN} (h : RnInv m r j ns q) (hj : j < m) (hv : rdNode q = some (n, q1)) : RnInv m r (j + 1) (ns ++ [n]) q1 := by
  unfold RnInv at h ⊢
  rw [h, show m - j = (m - (j + 1)) + 1 by omega, rdNodes, hv]
  simp only [Option.bind_some, Option.map_map]
  congr 1
  funext y
  simp
theorem RnInv.none' {m j : Nat} {r q : List Nat} {ns : List GN} (h : RnInv m r j ns q) (hj : j < m) (hv : rdNode q = none) : rdNodes m r = none := by
  unfold RnInv at h
  rw [h, show m - j = (m - (j + 1)) + 1 by omega, rdNodes, hv]
  rfl
theorem RnInv.done {m : Nat} {r q : List Nat} {ns : List GN} (h : RnInv m r m ns q) : rdNodes m r = some (ns, q) := by
  unfold RnInv at h
  rw [h, Nat.sub_self]
  simp [rdNodes]

/-- what reading a graph leaves -/
def GRPost (b : Nat) (sa : Option Addr) (cap : Nat) (bs r : List Nat) (w : World) (e : Ending) (w' : World) : Prop :=
  Kept (fun k => k = b) w w' ∧ ((∃ g q na nc nl, Hid (rdGraph r = some (g, q)) ∧ e = .returned (g.val na nc) ∧ nl.map (·.n) = g.nodes ∧ OwnG w' w.heap.size na nc nl ∧ Rd w' b sa cap bs q) ∨ (Hid (rdGraph r = none) ∧ e = .panicked [haltP]))

set_option maxHeartbeats 1000000 in
set_option maxRecDepth 100000 in
theorem readGraph_any (b : Nat) (sa : Option Addr) (cap : Nat) (bs r : List Nat) (w : World) (hR : Rd w b sa cap bs r) :
    Calls Try.prog 66 #[.pointer (some ⟨b, 0, none⟩)] w (GRPost b sa cap bs r w) := by
  have hlt := hR.lt
  cases ht : rdText 2 r with
  | none =>
    have ht' : Hid _ := ht
    go_enter Try.func66, Try.ntmps66
    go_wp2_with (go_at_call 119; refine (readText_any b sa cap bs r 2 _ _ (hR.grow (gal (gre _) _)) rfl (by omega)).mono ?_; rintro e w1 h1; rw [ht'.out] at h1; obtain ⟨rfl, hK1⟩ := RPost.no h1)
    exact ⟨rfl, kk ((Kept.refl _ w).alloc _) hK1, Or.inr ⟨by show rdGraph r = none; unfold rdGraph; rw [ht]; rfl, rfl⟩⟩
  | some y =>
    obtain ⟨tx, r1⟩ := y
    have ht' : Hid _ := ht
    by_cases htx : tx = ⟨#[72, 49]⟩
    · subst htx
      have hF0 := Five.new_at w ⟨0, 0, ⟨#[]⟩, 0⟩ (.slice none 0 0) 27 w.heap.size rfl
      have heq : ((⟨#[72, 49]⟩ : ByteArray).toList == [72, 49]) = true := by rw [ByteArray.toList_eq]; rfl
      have hg1 : Hid (rdGraph r = (rdCount 300 r1).bind fun m => (rdVal m.2).bind fun x => (rdNodes m.1 x.2).map fun y => (⟨x.1, y.1⟩, y.2)) := by show rdGraph r = _; unfold rdGraph; rw [ht, Option.bind_some]; exact if_pos rfl
      cases hm : rdCount 300 r1 with
      | none =>
        have hm' : Hid _ := hm
        go_enter Try.func66, Try.ntmps66
        go_wp2_with (first
          | (go_at_call 119; refine (readText_any b sa cap bs r 2 _ _ (hR.grow (gal (gre _) _)) rfl (by omega)).mono ?_; rintro e w1 h1; rw [ht'.out] at h1; obtain ⟨rfl, hR1, hK1⟩ := RPost.ok h1; clear h1; have hF1 := hF0.kept hK1 (by omega))
          | (go_at_call 120; refine (readCount_any b sa cap bs r1 300 _ _ hR1 rfl (by omega)).mono ?_; rintro e w2 h2; rw [hm'.out] at h2; obtain ⟨rfl, hK2⟩ := RPost.no h2))
        exact ⟨rfl, kk (kk ((Kept.refl _ w).alloc _) hK1) hK2, Or.inr ⟨by show rdGraph r = none; rw [hg1.out, hm]; rfl, rfl⟩⟩
      | some y =>
        obtain ⟨m, r2⟩ := y
        have hm' : Hid _ := hm
        have hml := rdCount_le hm
        cases hv : rdVal r2 with
        | none =>
          have hv' : Hid _ := hv
          go_enter Try.func66, Try.ntmps66
          go_wp2_with (first
            | (go_at_call 119; refine (readText_any b sa cap bs r 2 _ _ (hR.grow (gal (gre _) _)) rfl (by omega)).mono ?_; rintro e w1 h1; rw [ht'.out] at h1; obtain ⟨rfl, hR1, hK1⟩ := RPost.ok h1; clear h1; have hF1 := hF0.kept hK1 (by omega))
            | (go_at_call 120; refine (readCount_any b sa cap bs r1 300 _ _ hR1 rfl (by omega)).mono ?_; rintro e w2 h2; rw [hm'.out] at h2; obtain ⟨rfl, hR2, hK2⟩ := RPost.ok h2; clear h2)
            | (go_at_call 121; refine (readVal_any b sa cap bs r2 _ hR2).mono ?_; intro e w3 h3; unfold RVPost at h3; rw [hv'.out] at h3; obtain ⟨rfl, hK3⟩ := RPost.no h3))
          exact ⟨rfl, kk (kk (kk ((Kept.refl _ w).alloc _) hK1) hK2) hK3, Or.inr ⟨by show rdGraph r = none; rw [hg1.out, hm]; simp [hv], rfl⟩⟩
        | some y =>
          obtain ⟨rv, r3⟩ := y
          have hv' : Hid _ := hv
          obtain ⟨j0, hj, hy0, hy1, hy2⟩ := info_parts info_implNode
          have hgr : Hid (rdGraph r = (rdNodes m r3).map fun y => (⟨rv, y.1⟩, y.2)) := by show rdGraph r = _; rw [hg1.out, hm]; simp [hv]
          go_enter Try.func66, Try.ntmps66
          go_wp2_with (first
            | (go_at_call 119; refine (readText_any b sa cap bs r 2 _ _ (hR.grow (gal (gre _) _)) rfl (by omega)).mono ?_; rintro e w1 h1; rw [ht'.out] at h1; obtain ⟨rfl, hR1, hK1⟩ := RPost.ok h1; clear h1; have hF1 := hF0.kept hK1 (by omega))
            | (go_at_call 120; refine (readCount_any b sa cap bs r1 300 _ _ hR1 rfl (by omega)).mono ?_; rintro e w2 h2; rw [hm'.out] at h2; obtain ⟨rfl, hR2, hK2⟩ := RPost.ok h2; clear h2)
            | (go_at_call 121; refine (readVal_any b sa cap bs r2 _ hR2).mono ?_; intro e w3 h3; unfold RVPost at h3; rw [hv'.out] at h3; obtain ⟨rfl, hR3, hK3⟩ := RPost.ok h3; clear h3))
          have hs1 : w.heap.size + 1 ≤ w1.heap.size := by have := hK1.size; simpa using this
          have hs3 : w1.heap.size ≤ w3.heap.size := Nat.le_trans hK2.size hK3.size
          have hK30 := kk (kk (kk ((Kept.refl (fun k => k = b) w).alloc _) hK1) hK2) hK3
          have hD0 : GState w b sa cap bs rv w3.heap.size (w3.alloc (.cells #[.int .i64 rv.kind, .int .i64 rv.num, .string rv.text, .int .i64 rv.node, .slice none 0 0] 27)) r3 none 0 [] :=
            ⟨hK30.alloc _, ⟨hlt, by omega, by simp⟩, ((hF1.kept hK2 (by omega)).kept hK3 (by omega)).kept ((Kept.refl (fun _ => False) w3).alloc _) (fun e => e), Five.new_at w3 rv (.slice none 0 0) 27 w3.heap.size rfl, hR3.grow (gal (gre _) _),
              ⟨World.ownsRow_nil _ _ _ _, fun x hx => (by cases hx), fun x hx => (by cases hx), fun i j _ hj => absurd hj (Nat.not_lt_zero _)⟩⟩
          generalize w3.alloc (.cells #[.int .i64 rv.kind, .int .i64 rv.num, .string rv.text, .int .i64 rv.node, .slice none 0 0] 27) = w4 at hD0 ⊢
          generalize w3.heap.size = G at hD0 ⊢
          clear hK1 hK2 hK3 hs1 hs3 hR1 hR2 hR3 hF0 hF1 hK30
          go_loopw [16] (fun i ws => ∃ (j : Nat) (q : List Nat) (na : Option Addr) (nc : Nat) (nl : List NL), i = .int .i64 j ∧ j ≤ m ∧ Hid (nl.length = j) ∧ Hid (RnInv m r3 j (nl.map (·.n)) q) ∧ GState w b sa cap bs rv G ws q na nc nl) (fun i _ => m - (intOf i).toNat)
          case atStart => exact ⟨0, r3, none, 0, [], rfl, Nat.zero_le _, rfl, RnInv.start m r3, hD0⟩
          case round =>
            obtain ⟨j, q, na, nc, nl, rfl, hjm, hvl, hinv, hD⟩ := hrel
            obtain ⟨k1, k2, k3⟩ := hD.blk
            by_cases hjl : j < m
            · have hd : (j : Int) < (m : Int) := by omega
              obtain ⟨xz, x0, x1, x2, x3, x4, xf⟩ := hD.out
              go_wp2
              refine wp_regionU (fun u => u.cell? ⟨G, 4, none⟩ = some (.slice na nl.length nc)) 7 (by kernel_rfl) x4 (fun hS0 => ?_)
              refine anyU_take (i := 0) (v := ?_) rfl (by kernel_rfl) (by kernel_rfl) (by kernel_rfl) (by kernel_rfl) (fun _ _ _ h => h) (Or.inl ⟨by rfl, ?_⟩) hS0 ?_
              rotate_left
              · intro u hSu; (try dsimp only at hSu); go_simp <;> with_reducible rfl
              simp only [Act.put, List.getElem_toArray, List.getElem_cons_zero, List.setIfInBounds_toArray, List.set_cons_zero, List.set_cons_succ]
              refine anyU_take (i := 1) (v := ?_) rfl (by kernel_rfl) (by kernel_rfl) (by kernel_rfl) (by kernel_rfl) (fun _ _ _ h => h) (Or.inl ⟨by rfl, ?_⟩) hS0 ?_
              rotate_left
              · intro u hSu; (try dsimp only at hSu); go_simp <;> with_reducible rfl
              simp only [Act.put, List.getElem_toArray, List.getElem_cons_zero, List.getElem_cons_succ, List.setIfInBounds_toArray, List.set_cons_zero, List.set_cons_succ]
              refine anyU_take (i := 2) (v := ?_) rfl (by kernel_rfl) (by kernel_rfl) (by kernel_rfl) (by kernel_rfl) (fun _ _ _ h => h) (Or.inl ⟨by rfl, ?_⟩) hS0 ?_
              rotate_left
              · intro u hSu; (try dsimp only at hSu); go_simp <;> with_reducible rfl
              simp only [Act.put, List.getElem_toArray, List.getElem_cons_zero, List.getElem_cons_succ, List.setIfInBounds_toArray, List.set_cons_zero, List.set_cons_succ]
              refine anyU_one (i := 3) (by kernel_rfl) rfl (fun K hK => ?_)
              go_simp
              refine (readNode_any b sa cap bs q _ (hD.rd.grow (gdr (gre _)))).mono ?_
              rintro e w1 ⟨hK1, ⟨n, q1, va, vc, hn, rfl, hv1, hR1⟩ | ⟨hno, rfl⟩⟩
              · have hKw : Kept (fun k => k = b) wr w1 := kk ((Kept.refl (fun k => k = b) wr).drew) hK1
                have hS1 := hKw.cell x4 (by omega)
                have hX1 : Five w1 G rv (.slice na nl.length nc) := hD.out.kept hKw (by omega)
                have hn1 : Hid _ := hKw.owns hD.own.nodes (fun k hk hp => by have := (hD.own.nodes.lt k hk).1; omega)
                have hsw := hKw.size
                refine hK.out _ _ hS1 ?_
                clear hK
                have hS2' : Hid ((w1.alloc (.cells #[.int .i64 n.tag, .slice va n.vals.length vc] 84)).cell? ⟨G, 4, none⟩ = some (.slice na nl.length nc)) := ((Kept.refl (fun _ => False) w1).alloc _).cell hS1 (fun e => e)
                refine anyU_one (i := 4) (by kernel_rfl) rfl (fun K hK => ?_)
                go_simp
                refine hK.out _ _ hS2'.out ?_
                clear hK
                refine anyU_one (i := 5) (by kernel_rfl) rfl (fun K hK => ?_)
                refine step_append_lies _ (by rfl) (.tmp 19) (.tmp 22) 25 rfl (G + 1) 84 j0 _ 2 32 Try.underlying25 hj hy0 hy1 hy2 rfl (by decide) (.slice na nl.length nc) nl.length (nodeCells nl) (by rfl) (World.ownsRow.alloc hn1.out _) ⟨w1.heap.size, 0, none⟩ 1 1 [.int .i64 n.tag, .slice va n.vals.length vc] (by rfl) rfl (World.news_of_block (cs := #[.int .i64 n.tag, .slice va n.vals.length vc]) (t := 84) (fr := (0, 0)) (blk_new_at _ _ _ rfl)) (by simp [Value.oneCell']) (by decide) (by have h7 := hvl.out; unfold maxLen; omega) (by have h7 := hvl.out; omega) (by simp; omega) (w1.heap.size + 1) (by simp) ?_
                intro gg cc w3 hown3 hgrow3 hat3 hlt3
                have hX3 := (hX1.kept ((Kept.refl (fun _ => False) w1).alloc _) (fun e => e)).kept (Kept.of_grown hgrow3) (fun hp => by have := (hD.own.nodes.lt _ hp).1; omega)
                obtain ⟨yz, y0, y1, y2, y3, y4, yf⟩ := id hX3
                refine hK.out _ _ y4 ?_
                clear hK
                simp only [Act.put, List.getElem_toArray, List.getElem_cons_zero, List.getElem_cons_succ, List.setIfInBounds_toArray, List.set_cons_zero, List.set_cons_succ]
                refine anyU_one (i := 6) (by kernel_rfl) rfl (fun K hK => ?_)
                go_simp
                refine hK.out _ _ y4 ?_
                clear hK
                refine anyU_last (by kernel_rfl) rfl (by kernel_rfl) (fun K hK => ?_)
                go_simp
                refine hK.out _ _ ?_
                clear hK
                have hfin := hD.step hR1 hKw hv1 hown3 hgrow3 hat3
                have hinv2 : Hid (RnInv m r3 (j + 1) ((nl ++ [(⟨n, va, vc⟩ : NL)]).map (·.n)) q1) := by show RnInv _ _ _ _ _; rw [List.map_append]; exact hinv.out.next hjl hn.out
                go_wp2
                go_roundw
                case rel => exact ⟨j + 1, q1, some ⟨gg, 0, none⟩, cc, nl ++ [⟨n, va, vc⟩], by go_num, by omega, by have := hvl.out; show (nl ++ [(⟨n, va, vc⟩ : NL)]).length = j + 1; simp [this], hinv2, hfin⟩
                case measure => simp [intOf]; omega
              · refine ⟨rfl, kk hD.kept (kk ((Kept.refl (fun k => k = b) wr).drew) hK1), Or.inr ⟨?_, rfl⟩⟩
                show rdGraph r = none
                rw [hgr.out, hinv.out.none' hjl hno.out]; rfl
            · obtain rfl : j = m := by omega
              have hd : ¬ ((j : Int) < (j : Int)) := by omega
              have hdone : Hid (rdGraph r = some (⟨rv, nl.map (·.n)⟩, q)) := by show rdGraph r = _; rw [hgr.out, hinv.out.done]; rfl
              obtain ⟨xz, x0, x1, x2, x3, x4, xf⟩ := hD.out
              obtain ⟨rz, q0, q1, q2, q3, q4, rf⟩ := hD.res
              have hC : Kept (fun k => k = w.heap.size) wr (((((wr.setCell ⟨w.heap.size, 0, none⟩ (.int .i64 rv.kind)).setCell ⟨w.heap.size, 1, none⟩ (.int .i64 rv.num)).setCell ⟨w.heap.size, 2, none⟩ (.string rv.text)).setCell ⟨w.heap.size, 3, none⟩ (.int .i64 rv.node)).setCell ⟨w.heap.size, 4, none⟩ (.slice na nl.length nc)) := (((((Kept.refl (fun k => k = w.heap.size) wr).set (fun _ => rfl) _).set (fun _ => rfl) _).set (fun _ => rfl) _).set (fun _ => rfl) _).set (fun _ => rfl) _
              have hkept := hD.kept.trans hC (fun k hk hp => by omega)
              have hown := (hD.own.kept hC (fun k hk hp => by have := hD.own.nodes.lt k (by rw [hk]; rfl); omega) (fun x hx k hk hp => by have := (hD.own.vals x hx).lt k (by rw [hk]; rfl); omega)).le (show w.heap.size ≤ G + 1 by omega)
              have hrd := hD.rd.kept hC (fun k hk hp => by omega)
              go_wp2
              refine bodyPost_ret (v := .agg #[.int .i64 rv.kind, .int .i64 rv.num, .string rv.text, .int .i64 rv.node, .slice na nl.length nc]) (by simp [results, Try.results66, go_sem, q0, q1, q2, q3, q4]) rfl ⟨hkept, Or.inl ⟨⟨rv, nl.map (·.n)⟩, q, na, nc, nl, hdone, ?_, rfl, hown, hrd⟩⟩
              show Ending.returned _ = Ending.returned (.agg #[_, _, _, _, .slice na (nl.map (·.n)).length nc])
              rw [List.length_map]
    · have hne : (tx.toList == [72, 49]) = false := by
        rw [beq_eq_false_iff_ne]
        intro e
        apply htx
        apply ByteArray.ext
        apply Array.ext'
        rw [← ByteArray.toList_eq]; exact e
      go_enter Try.func66, Try.ntmps66
      go_wp2_with (go_at_call 119; refine (readText_any b sa cap bs r 2 _ _ (hR.grow (gal (gre _) _)) rfl (by omega)).mono ?_; rintro e w1 h1; rw [ht'.out] at h1; obtain ⟨rfl, hR1, hK1⟩ := RPost.ok h1)
      exact ⟨rfl, kk ((Kept.refl _ w).alloc _) hK1, Or.inr ⟨by show rdGraph r = none; unfold rdGraph; rw [ht]; exact if_neg htx, rfl⟩⟩

end Go.Proofs.Ythjddpkegooobaa

/-
  PACKI: the program's Pack. Own work.
-/
namespace Go.Proofs.Ythjddpkegooobaa
open Go.RowKit

set_option maxRecDepth 100000 in
theorem assert_nil (w : World) : (Instr.typeAssert .nilIface 20 149 true).run Try.prog w = .ok (.tuple #[.agg #[], .bool false]) w := by kernel_rfl
theorem assert_halt (w : World) : (Instr.typeAssert (.iface 149 (.agg #[])) 20 149 true).run Try.prog w = .ok (.tuple #[.agg #[], .bool true]) w := by kernel_rfl

set_option maxRecDepth 100000 in
theorem passOn_nil (w : World) : Calls Try.prog 61 #[.nilIface] w fun e w' => e = .returned (.tuple #[]) ∧ w' = w := by
  have ht := assert_nil
  go_enter Try.func61, Try.ntmps61
  go_wp2
  first | go_end0 | refine bodyPost_ret (results_none rfl _ _ _) rfl ?_
  exact ⟨rfl, rfl⟩

set_option maxRecDepth 100000 in
theorem passOn_halt (w : World) : Calls Try.prog 61 #[.iface 149 (.agg #[])] w fun e w' => e = .returned (.tuple #[]) ∧ w' = w := by
  have ht := assert_halt
  go_enter Try.func61, Try.ntmps61
  go_wp2
  first | go_end0 | refine bodyPost_ret (results_none rfl _ _ _) rfl ?_
  exact ⟨rfl, rfl⟩

set_option maxRecDepth 100000 in
theorem packCatch_panicking (older : List PanicEntry) (w : World) :
    CallsD Try.prog 60 #[] (.panicking (haltP :: older)) w fun e u' w' =>
      e = .returned (.tuple #[]) ∧ u' = .panicking ({ v := .iface 149 (.agg #[]), recovered := true } :: older) ∧ w' = w := by
  refine callsD_of_wpS Try.func60 rfl fun c₀ cs hu => ?_
  apply wpS_region
  simp [wpOpsS, go_sem, recoverD, hu, Try.ntmps60]
  refine (passOn_halt w).mono ?_
  rintro e w' ⟨rfl, rfl⟩
  simp [bodyPostS, results, Try.results60]

set_option maxRecDepth 100000 in
theorem packCatch_idle (w : World) :
    CallsD Try.prog 60 #[] .returning w fun e u' w' => e = .returned (.tuple #[]) ∧ u' = .returning ∧ w' = w := by
  refine callsD_of_wpS Try.func60 rfl fun c₀ cs hu => ?_
  apply wpS_region
  simp [wpOpsS, go_sem, recoverD, hu, Try.ntmps60]
  refine (passOn_nil w).mono ?_
  rintro e w' ⟨rfl, rfl⟩
  cases c₀
  simp_all [bodyPostS, results, Try.results60]

/-- what Pack leaves -/
def PackIPost (ys : List Nat) (w : World) (e : Ending) (w' : World) : Prop :=
  ∃ oa cap, e = .returned (.slice oa ys.length cap) ∧ MB w' w.heap.size oa ys ∧ Below w.heap.size w w'
/-- the same, and its room -/
def PackICap (ys : List Nat) (w : World) (e : Ending) (w' : World) : Prop :=
  ∃ oa cap, e = .returned (.slice oa ys.length cap) ∧ MB w' w.heap.size oa ys ∧ Below w.heap.size w w' ∧ ys.length ≤ cap
theorem PackICap.post {ys : List Nat} {w : World} {e : Ending} {w' : World} (h : PackICap ys w e w') : PackIPost ys w e w' := let ⟨oa, cap, h1, h2, h3, _⟩ := h; ⟨oa, cap, h1, h2, h3⟩

set_option maxRecDepth 100000 in
theorem u64n_wrap {n : Nat} (h : n < 18446744073709551616) : u64n (wrap64 (n : Int)) = n := by unfold u64n wrap64; omega
theorem i64_wrap (n : Int) : I64 (wrap64 n) := by unfold I64 wrap64; omega

set_option maxRecDepth 100000 in
theorem wr_new (w : World) (M : Array Value) (hM : M.size = 4096) : Wr ((w.alloc (.cells M 5)).alloc (.cells #[.slice (some ⟨w.heap.size, 0, none⟩) 4096 4096, .int .i64 0] 91)) (w.heap.size + 1) w.heap.size [] := by
  refine ⟨⟨by simp, by simp, by simp, fun o => by simp⟩, by omega, ⟨M, ?_, hM, by simp, fun i hi => absurd hi (Nat.not_lt_zero _)⟩⟩
  rw [Below.heap_alloc _ _ _ (by simp)]
  exact blk_new_at _ _ _ rfl

set_option maxRecDepth 100000 in
theorem implPack_cap (a : Option Addr) (cap : Nat) (g : GG) (w : World) (hg : g.Ok) (ha : NodesAt w.heap.size w a g.nodes) :
    Calls Try.prog 16 #[g.val a cap] w (PackICap (packB g) w) := by
  have hX0 := GBox.new w g a cap 27
  cases hok : okG g with
  | false =>
    have hz : Hid (packB g = []) := if_neg (by rw [hok]; simp)
    have hok' : Hid _ := hok
    go_enter_defers Try.func16, Try.ntmps16
    go_wp2_with (go_at_call 44; refine (implGraphOk_any a cap g _ hg (ha.grow (gal (gre _) _))).mono ?_; rintro e w1 ⟨rfl, hb1⟩; rw [hok'.out])
    refine leaves_cons (f := 60) (args := #[]) (by simp) (by simp [go_sem]) ?_
    refine (packCatch_idle _).mono ?_
    rintro e u' w'' ⟨rfl, rfl, rfl⟩
    refine ⟨_, results_tmp rfl _ _ _, ?_⟩
    exact ⟨none, 0, by rw [hz.out]; rfl, Or.inl hz.out, gca (gal (gre _) _) hb1, by rw [hz.out]; exact Nat.le_refl _⟩
  | true =>
    have hok' : Hid _ := hok
    obtain ⟨i0, hi, hz0, hz1, hz2⟩ := info_parts info_u8
    obtain ⟨M, hM⟩ := hid_ex (madeCells #[Value.int .u8 0] 4096)
    have hMs : M.size = 4096 := by rw [hM.out, size_madeCells]
    have hmk : ∀ u : World, (Instr.makeSlice 22 (.int .i64 4096) (.int .i64 4096)).run Try.prog u = .ok (.slice (some ⟨u.heap.size, 0, none⟩) 4096 4096) (u.alloc (.cells M 5)) := fun u => by
      have h := run_make (P := Try.prog) u 22 5 i0 _ Try.underlying22 hi hz0 .i64 .i64 4096 4096 (by omega) (Int.le_refl _) (by rw [hz2]; omega) (by omega)
      rw [hM.out]
      simpa [hz1, Value.cells] using h
    obtain ⟨c, hc⟩ := hid_ex (canon g)
    have hcz : Hid (canonZ g = c) := by show _ = _; rw [hc.out]; exact if_pos hok
    have hcok : okG c = true := by rw [hc.out]; exact canon_okG hok
    have hcO : c.Ok := by rw [hc.out]; exact canon_ok hg hok
    have hcb := graphB_bytes hcok
    have him : Hid (imageB g = graphB c ++ lowB 8 (sumN (graphB c))) := by show _ = _; unfold imageB formB; rw [← hc.out]
    have hsl := u64n_wrap (sumN_lt (graphB c))
    have hlow := lowB_length 8 (sumN (graphB c))
    clear hM
    go_enter_defers Try.func16, Try.ntmps16
    go_wp2_with (first
      | (go_at_call 64; refine (passed_any _ _ 4096 4096 _ _ hW6.cur (by omega) (by decide) hW6.le).mono ?_; rintro e w7 ⟨rfl, hb7⟩; have hW7 := hW6.grow hb7)
      | (go_at_call 44; refine (implGraphOk_any a cap g _ hg (ha.grow (gal (gre _) _))).mono ?_; rintro e w1 ⟨rfl, hb1⟩; have hX1 := hX0.grow hb1; obtain ⟨xz, x0, x1, x2, x3, x4⟩ := id hX1; rw [hok'.out]; have hWn := wr_new w1 M hMs)
      | (go_at_call 12; refine (implCanon_any a cap g _ hg (ha.grow (gal (gal (gca (gal (gre _) _) hb1) _) _))).mono ?_; rintro e w3 ⟨na, nc, nl, rfl, hnl, hown, hb3⟩; rw [hcz.out] at hnl ⊢; have hW3 := hWn.grow hb3; simp only [World.size_alloc] at hown)
      | (go_at_call 62; refine (writeGraph_any (w1.heap.size + 1) w1.heap.size [] c na nc (w1.heap.size + 1 + 1) nl _ hW3 hcO hcok hnl (fun w' hK => hown.kept hK (fun b hb hp => by have := (hown.nodes.lt b (by rw [hb]; rfl)).1; omega) (fun x hx b hb hp => by have := ((hown.vals x hx).lt b (by rw [hb]; rfl)).1; omega))).mono ?_; rintro e w4 ⟨hK4, h4⟩; rw [List.nil_append] at h4; obtain ⟨hf4, rfl, hW4⟩ | ⟨hno4, rfl⟩ := h4)
      | (go_at_call 50; refine (implSumOf_any _ (graphB c) 4096 _ (brow_bytes hW5.row) (by have := hW5.le; unfold maxLen; omega) hcb).mono ?_; rintro e w55 ⟨rfl, hb55⟩; have hW55 := hW5.grow hb55)
      | (go_at_call 63; refine (writeWord_any _ _ (graphB c) _ _ hW55 (i64_wrap _)).mono ?_; rintro e w6 ⟨hK6, h6⟩; rw [hsl] at h6; obtain ⟨hf6, rfl, hW6⟩ | ⟨hno6, rfl⟩ := h6)
      | (go_at_call 64; refine (passed_any _ _ 4096 4096 _ _ hW4.cur (by omega) (by decide) hW4.le).mono ?_; rintro e w5 ⟨rfl, hb5⟩; have hW5 := hW4.grow hb5))
    · have hB3 : Below w.heap.size w w3 := gca (gal (gal (gca (gal (gre _) _) hb1) _) _) hb3
      have hB4 := hB3.trans (hK4.below hB3.size (fun k hk hp => by omega))
      have hB6 := (gca (gca hB4 hb5) hb55).trans (hK6.below (gca (gca hB4 hb5) hb55).size (fun k hk hp => by omega))
      have hz : packB g = graphB c ++ lowB 8 (sumN (graphB c)) := by
        rw [← him.out]
        exact if_pos ⟨hok, by rw [him.out, List.length_append]; exact hf6⟩
      refine leaves_cons (f := 60) (args := #[]) (by simp) (by simp [go_sem]) ?_
      refine (packCatch_idle _).mono ?_
      rintro e u' w'' ⟨rfl, rfl, rfl⟩
      refine ⟨_, results_tmp rfl _ _ _, ?_⟩
      exact ⟨some ⟨w1.heap.size, 0, none⟩, 4096, by rw [hz, List.length_append, hlow]; rfl, Or.inr ⟨w1.heap.size, 4096, rfl, by omega, by rw [hz]; exact hW7.row⟩, gca hB6 hb7, by rw [hz, List.length_append]; exact hf6⟩
    · have hB3 : Below w.heap.size w w3 := gca (gal (gal (gca (gal (gre _) _) hb1) _) _) hb3
      have hB4 := hB3.trans (hK4.below hB3.size (fun k hk hp => by omega))
      have hB6 := (gca (gca hB4 hb5) hb55).trans (hK6.below (gca (gca hB4 hb5) hb55).size (fun k hk hp => by omega))
      have hz : packB g = [] := if_neg (fun h => by have h2 := h.2; rw [him.out, List.length_append] at h2; omega)
      refine leaves_cons (f := 60) (args := #[]) (by simp) (by simp [go_sem]) ?_
      refine (packCatch_panicking [] _).mono ?_
      rintro e u' w'' ⟨rfl, rfl, rfl⟩
      refine ⟨_, results_tmp rfl _ _ _, ?_⟩
      exact ⟨none, 0, by rw [hz]; rfl, Or.inl hz, hB6, by rw [hz]; exact Nat.le_refl _⟩
    · have hB3 : Below w.heap.size w w3 := gca (gal (gal (gca (gal (gre _) _) hb1) _) _) hb3
      have hB4 := hB3.trans (hK4.below hB3.size (fun k hk hp => by omega))
      have hz : packB g = [] := if_neg (fun h => by have h2 := h.2; rw [him.out, List.length_append] at h2; simp at hno4; omega)
      refine leaves_cons (f := 60) (args := #[]) (by simp) (by simp [go_sem]) ?_
      refine (packCatch_panicking [] _).mono ?_
      rintro e u' w'' ⟨rfl, rfl, rfl⟩
      refine ⟨_, results_tmp rfl _ _ _, ?_⟩
      exact ⟨none, 0, by rw [hz]; rfl, Or.inl hz, hB4, by rw [hz]; exact Nat.le_refl _⟩

theorem implPack_any (a : Option Addr) (cap : Nat) (g : GG) (w : World) (hg : g.Ok) (ha : NodesAt w.heap.size w a g.nodes) :
    Calls Try.prog 16 #[g.val a cap] w (PackIPost (packB g) w) := (implPack_cap a cap g w hg ha).mono fun _ _ h => h.post

end Go.Proofs.Ythjddpkegooobaa
