import Derived.Test.YtmdpmdmilgbfiaaGreatDoorPartN
import Derived.Test.YtmdpmdmilgbfiaaGreatDoorPartR
import Derived.Test.YtmdpmdmilgbfiaaGreatDoorPartZA

namespace Go.Proofs.YtmdpmdmilgbfiaaGreatDoor
open Go.RowKit

structure NState (w : World) (b : Nat) (sa : Option Addr) (cap : Nat) (bs : List Nat) (tag : Int) (X : Nat) (ws : World) (q : List Nat) (va : Option Addr) (vc : Nat) (vs : List GV) : Prop where
  kept : Kept (fun k => k = b) w ws
  blk : b < w.heap.size ∧ w.heap.size < X ∧ X < ws.heap.size
  res : Two ws w.heap.size 0 (.slice none 0 0)
  x : Two ws X tag (.slice va vs.length vc)
  rd : Rd ws b sa cap bs q
  vals : ws.ownsRow (X + 1) 29 4 (.slice va vs.length vc) vs.length (valCells vs)

theorem NState.step {w : World} {b : Nat} {sa : Option Addr} {cap : Nat} {bs : List Nat} {tag : Int} {X : Nat} {ws : World} {q : List Nat} {va : Option Addr} {vc : Nat} {vs : List GV} (h : NState w b sa cap bs tag X ws q va vc vs) {v : GV} {w1 w3 : World} {q1 : List Nat} {gg cc : Nat} {o : Obj}
    (hR1 : Rd w1 b sa cap bs q1) (hK1 : Kept (fun k => k = b) ws w1)
    (hown : w3.ownsRow (X + 1) 29 4 (.slice (some ⟨gg, 0, none⟩) (vs.length + 1) cc) (vs.length + 1) (valCells vs ++ v.four))
    (hgrow : (w1.alloc o).grownBy w3 (Value.slice va vs.length vc).ownBlock) :
    NState w b sa cap bs tag X (w3.setCell ⟨X, 1, none⟩ (.slice (some ⟨gg, 0, none⟩) (vs.length + 1) cc)) q1 (some ⟨gg, 0, none⟩) cc (vs ++ [v]) := by
  obtain ⟨b1, b2, b3⟩ := h.blk
  have hs1 := hK1.size
  have hA : Kept (fun _ => False) w1 (w1.alloc o) := (Kept.refl _ w1).alloc _
  have hG := Kept.of_grown hgrow
  have hs3 : w1.heap.size + 1 ≤ w3.heap.size := by have := hgrow.size; simpa using this
  have hC := (Kept.refl (fun k => k = X) w3).set (a := ⟨X, 1, none⟩) (fun _ => rfl) (.slice (some ⟨gg, 0, none⟩) (vs.length + 1) cc)
  have hvb : ∀ k, (Value.slice va vs.length vc).ownBlock = some k → X + 1 ≤ k ∧ k < ws.heap.size := fun k hk => h.vals.lt k hk
  have hsz := h.kept.size
  exact {
    kept := (((h.kept.trans hK1 (fun _ _ e => e)).trans hA (fun _ _ e => e.elim)).trans hG (fun k hk hp => by have := hvb k hp; omega)).trans hC (fun k hk hp => by omega)
    blk := ⟨b1, b2, by have := hC.size; omega⟩
    res := (((h.res.kept hK1 (by omega)).kept hA (fun e => e)).kept hG (fun hp => by have := hvb _ hp; omega)).kept hC (by omega)
    x := by
      have h1 := ((h.x.kept hK1 (by omega)).kept hA (fun e => e)).kept hG (fun hp => by have := hvb _ hp; omega)
      simpa using h1.set (s' := .slice (some ⟨gg, 0, none⟩) (vs.length + 1) cc)
    rd := ((hR1.kept hA (fun _ _ e => e)).kept hG (fun k hk hp => by have := hvb k hp; omega)).kept hC (fun k hk hp => by omega)
    vals := by
      have h1 := hC.owns hown (fun k hk hp => by have := (hown.lt k hk).1; omega)
      simpa [valCells_snoc, GV.four] using h1 }

def RvInv (m : Nat) (r : List Nat) (j : Nat) (vs : List GV) (q : List Nat) : Prop := rdVals m r = (rdVals (m - j) q).map fun y => (vs ++ y.1, y.2)
theorem RvInv.start (m : Nat) (r : List Nat) : RvInv m r 0 [] r := by
  unfold RvInv
  rw [Nat.sub_zero]
  cases rdVals m r <;> simp
theorem RvInv.next {m j : Nat} {r q q1 : List Nat} {vs : List GV} {v : GV} (h : RvInv m r j vs q) (hj : j < m) (hv : rdVal q = some (v, q1)) : RvInv m r (j + 1) (vs ++ [v]) q1 := by
  unfold RvInv at h ⊢
  rw [h, show m - j = (m - (j + 1)) + 1 by omega, rdVals, hv]
  simp only [Option.bind_some, Option.map_map]
  congr 1
  funext y
  simp
theorem RvInv.none' {m j : Nat} {r q : List Nat} {vs : List GV} (h : RvInv m r j vs q) (hj : j < m) (hv : rdVal q = none) : rdVals m r = none := by
  unfold RvInv at h
  rw [h, show m - j = (m - (j + 1)) + 1 by omega, rdVals, hv]
  rfl
theorem RvInv.done {m : Nat} {r q : List Nat} {vs : List GV} (h : RvInv m r m vs q) : rdVals m r = some (vs, q) := by
  unfold RvInv at h
  rw [h, Nat.sub_self]
  simp [rdVals]

def NRPost (b : Nat) (sa : Option Addr) (cap : Nat) (bs r : List Nat) (w : World) (e : Ending) (w' : World) : Prop :=
  Kept (fun k => k = b) w w' ∧ ((∃ n q va vc, Hid (rdNode r = some (n, q)) ∧ e = .returned (nodeVal n va vc) ∧ w'.ownsRow w.heap.size 29 4 (.slice va n.vals.length vc) n.vals.length (valCells n.vals) ∧ Rd w' b sa cap bs q) ∨ (Hid (rdNode r = none) ∧ e = .panicked [haltP]))

set_option maxHeartbeats 1000000 in
set_option maxRecDepth 100000 in
theorem readNode_any (b : Nat) (sa : Option Addr) (cap : Nat) (bs r : List Nat) (w : World) (hR : Rd w b sa cap bs r) :
    Calls Tryz.prog 148 #[.pointer (some ⟨b, 0, none⟩)] w (NRPost b sa cap bs r w) := by
  obtain ⟨j0, hj, hy0, hy1, hy2⟩ := info_parts info_implVal
  have hlt := hR.lt
  have hT0 := Two.new_at w 0 (.slice none 0 0) 37 w.heap.size rfl
  cases ht : rdCount 1000 r with
  | none =>
    have ht' : Hid _ := ht
    go_enter Tryz.func148, Tryz.ntmps148
    go_wp2_with (go_at_call 146; refine (readCount_any b sa cap bs r 1000 _ _ (hR.grow (gal (gre _) _)) rfl (by omega)).mono ?_; rintro e w1 h1; rw [ht'.out] at h1; obtain ⟨rfl, hK1⟩ := RPost.no h1)
    exact ⟨rfl, kk ((Kept.refl _ w).alloc _) hK1, Or.inr ⟨by show rdNode r = none; unfold rdNode; rw [ht]; rfl, rfl⟩⟩
  | some y =>
    obtain ⟨tg, r1⟩ := y
    have ht' : Hid _ := ht
    cases hm : rdCount 100 r1 with
    | none =>
      have hm' : Hid _ := hm
      go_enter Tryz.func148, Tryz.ntmps148
      go_wp2_with (first
        | (go_at_call 146; refine (readCount_any b sa cap bs r1 100 _ _ (hR1.grow (gal (gre _) _)) rfl (by omega)).mono ?_; rintro e w2 h2; rw [hm'.out] at h2; obtain ⟨rfl, hK2⟩ := RPost.no h2)
        | (go_at_call 146; refine (readCount_any b sa cap bs r 1000 _ _ (hR.grow (gal (gre _) _)) rfl (by omega)).mono ?_; rintro e w1 h1; rw [ht'.out] at h1; obtain ⟨rfl, hR1, hK1⟩ := RPost.ok h1))
      exact ⟨rfl, kk ((kk ((Kept.refl _ w).alloc _) hK1).alloc _) hK2, Or.inr ⟨by show rdNode r = none; unfold rdNode; rw [ht]; simp [hm], rfl⟩⟩
    | some y =>
      obtain ⟨m, r2⟩ := y
      have hm' : Hid _ := hm
      have hml := rdCount_le hm
      have hnode : Hid (rdNode r = (rdVals m r2).map fun y => (⟨(tg : Int), y.1⟩, y.2)) := by show rdNode r = _; unfold rdNode; rw [ht]; simp [hm]
      go_enter Tryz.func148, Tryz.ntmps148
      go_wp2_with (first
        | (go_at_call 146; refine (readCount_any b sa cap bs r1 100 _ _ (hR1.grow (gal (gre _) _)) rfl (by omega)).mono ?_; rintro e w2 h2; rw [hm'.out] at h2; obtain ⟨rfl, hR2, hK2⟩ := RPost.ok h2)
        | (go_at_call 146; refine (readCount_any b sa cap bs r 1000 _ _ (hR.grow (gal (gre _) _)) rfl (by omega)).mono ?_; rintro e w1 h1; rw [ht'.out] at h1; obtain ⟨rfl, hR1, hK1⟩ := RPost.ok h1))
      have hs1 : w.heap.size + 1 ≤ w1.heap.size := by have := hK1.size; simpa using this
      have hs2 : w1.heap.size + 1 ≤ w2.heap.size := by have := hK2.size; simpa using this
      have hD0 : NState w b sa cap bs (tg : Int) w1.heap.size w2 r2 none 0 [] :=
        ⟨kk ((kk ((Kept.refl _ w).alloc _) hK1).alloc _) hK2, ⟨hlt, by omega, by omega⟩, ((hT0.kept hK1 (by omega)).kept ((Kept.refl (fun _ => False) w1).alloc _) (fun e => e)).kept hK2 (by omega), (Two.new_at w1 tg (.slice none 0 0) 37 w1.heap.size rfl).kept hK2 (by omega), hR2, World.ownsRow_nil _ _ _ _⟩
      generalize w1.heap.size = X at hD0 ⊢
      clear hK1 hK2 hs1 hs2 hR1 hR2 hT0
      go_loopw [9] (fun i ws => ∃ (j : Nat) (q : List Nat) (va : Option Addr) (vc : Nat) (vs : List GV), i = .int .i64 j ∧ j ≤ m ∧ Hid (vs.length = j) ∧ Hid (RvInv m r2 j vs q) ∧ NState w b sa cap bs (tg : Int) X ws q va vc vs) (fun i _ => m - (intOf i).toNat)
      case atStart => exact ⟨0, r2, none, 0, [], rfl, Nat.zero_le _, rfl, RvInv.start m r2, hD0⟩
      case round =>
        obtain ⟨j, q, va, vc, vs, rfl, hjm, hvl, hinv, hD⟩ := hrel
        obtain ⟨k1, k2, k3⟩ := hD.blk
        by_cases hjl : j < m
        · have hd : (j : Int) < (m : Int) := by omega
          obtain ⟨xz, x0, x1, xf, _⟩ := hD.x
          go_wp2
          refine wp_regionU (fun u => u.cell? ⟨X, 1, none⟩ = some (.slice va vs.length vc)) 7 (by kernel_rfl) x1 (fun hS0 => ?_)
          refine anyU_take (i := 0) (v := ?_) rfl (by kernel_rfl) (by kernel_rfl) (by kernel_rfl) (by kernel_rfl) (fun _ _ _ h => h) (Or.inl ⟨by rfl, ?_⟩) hS0 ?_
          rotate_left
          · intro u hSu; (try dsimp only at hSu); go_simp <;> with_reducible rfl
          simp only [Act.put, List.getElem_toArray, List.getElem_cons_zero, List.setIfInBounds_toArray, List.set_cons_zero, List.set_cons_succ]
          refine anyU_take (i := 1) (v := ?_) rfl (by kernel_rfl) (by kernel_rfl) (by kernel_rfl) (by kernel_rfl) (fun _ _ _ h => h) (Or.inl ⟨by rfl, ?_⟩) hS0 ?_
          rotate_left
          · intro u hSu; (try dsimp only at hSu); go_simp <;> with_reducible rfl
          simp only [Act.put, List.getElem_toArray, List.getElem_cons_zero, List.getElem_cons_succ, List.setIfInBounds_toArray, List.set_cons_zero, List.set_cons_succ]
          refine anyU_take (i := 2) (v := ?_) rfl (by kernel_rfl) (by kernel_rfl) (by kernel_rfl) (by kernel_rfl) (fun _ _ _ h => h) (Or.inl ⟨by rfl, ?_⟩) hS0 ?_
          rotate_left
          · intro u hSu; (try dsimp only at hSu); go_simp <;> with_reducible rfl
          simp only [Act.put, List.getElem_toArray, List.getElem_cons_zero, List.getElem_cons_succ, List.setIfInBounds_toArray, List.set_cons_zero, List.set_cons_succ]
          refine anyU_one (i := 3) (by kernel_rfl) rfl (fun K hK => ?_)
          go_simp
          refine (readVal_any b sa cap bs q _ (hD.rd.grow (gdr (gre _)))).mono ?_
          rintro e w1 ⟨hK1, ⟨v, q1, hv, rfl, hR1⟩ | ⟨hno, rfl⟩⟩
          · have hKw : Kept (fun k => k = b) wr w1 := kk ((Kept.refl (fun k => k = b) wr).drew) hK1
            have hS1 := hKw.cell x1 (by omega)
            have hX1 : Two w1 X tg (.slice va vs.length vc) := hD.x.kept hKw (by omega)
            have hv1 : Hid _ := hKw.owns hD.vals (fun k hk hp => by have := (hD.vals.lt k hk).1; omega)
            have hsw := hKw.size
            refine hK.out _ _ hS1 ?_
            clear hK
            have hS2' : Hid ((w1.alloc (.cells #[.int .i64 v.kind, .int .i64 v.num, .string v.text, .int .i64 v.node] 29)).cell? ⟨X, 1, none⟩ = some (.slice va vs.length vc)) := ((Kept.refl (fun _ => False) w1).alloc _).cell hS1 (fun e => e)
            refine anyU_one (i := 4) (by kernel_rfl) rfl (fun K hK => ?_)
            go_simp
            refine hK.out _ _ hS2'.out ?_
            clear hK
            refine anyU_one (i := 5) (by kernel_rfl) rfl (fun K hK => ?_)
            refine step_append_lies _ (by rfl) (.tmp 12) (.tmp 15) 35 rfl (X + 1) 29 j0 _ 4 40 Tryz.underlying35 hj hy0 hy1 hy2 rfl (by decide) (.slice va vs.length vc) vs.length (valCells vs) (by rfl) (World.ownsRow.alloc hv1.out _) ⟨w1.heap.size, 0, none⟩ 1 1 v.four (by rfl) rfl (World.news_of_block (cs := #[.int .i64 v.kind, .int .i64 v.num, .string v.text, .int .i64 v.node]) (t := 29) (fr := (0, 0)) (blk_new_at _ _ _ rfl)) (by simp [GV.four, Value.oneCell']) (by decide) (by have h7 := hvl.out; unfold maxLen; omega) (by have h7 := hvl.out; omega) (by simp; omega) (w1.heap.size + 1) (by simp) ?_
            intro gg cc w3 hown3 hgrow3 hat3 hlt3
            have hX3 := (hX1.kept ((Kept.refl (fun _ => False) w1).alloc _) (fun e => e)).kept (Kept.of_grown hgrow3) (fun hp => by have := (hD.vals.lt _ hp).1; omega)
            obtain ⟨yz, y0, y1, yf, _⟩ := id hX3
            refine hK.out _ _ y1 ?_
            clear hK
            simp only [Act.put, List.getElem_toArray, List.getElem_cons_zero, List.getElem_cons_succ, List.setIfInBounds_toArray, List.set_cons_zero, List.set_cons_succ]
            refine anyU_one (i := 6) (by kernel_rfl) rfl (fun K hK => ?_)
            go_simp
            refine hK.out _ _ y1 ?_
            clear hK
            refine anyU_last (by kernel_rfl) rfl (by kernel_rfl) (fun K hK => ?_)
            go_simp
            refine hK.out _ _ ?_
            clear hK
            have hfin := hD.step hR1 hKw hown3 hgrow3
            have hinv2 : Hid (RvInv m r2 (j + 1) (vs ++ [v]) q1) := hinv.out.next hjl hv.out
            go_wp2
            go_roundw
            case rel => exact ⟨j + 1, q1, some ⟨gg, 0, none⟩, cc, vs ++ [v], by go_num, by omega, by have := hvl.out; show (vs ++ [v]).length = j + 1; simp [this], hinv2, hfin⟩
            case measure => simp [intOf]; omega
          · refine ⟨rfl, kk hD.kept (kk ((Kept.refl (fun k => k = b) wr).drew) hK1), Or.inr ⟨?_, rfl⟩⟩
            show rdNode r = none
            rw [hnode.out, hinv.out.none' hjl hno.out]; rfl
        · obtain rfl : j = m := by omega
          have hd : ¬ ((j : Int) < (j : Int)) := by omega
          have hdone : Hid (rdNode r = some (⟨(tg : Int), vs⟩, q)) := by show rdNode r = _; rw [hnode.out, hinv.out.done]; rfl
          obtain ⟨xz, x0, x1, xf, _⟩ := hD.x
          obtain ⟨rz, r0, r1', rf, _⟩ := hD.res
          have hC : Kept (fun k => k = w.heap.size) wr ((wr.setCell ⟨w.heap.size, 0, none⟩ (.int .i64 (tg : Int))).setCell ⟨w.heap.size, 1, none⟩ (.slice va vs.length vc)) := ((Kept.refl (fun k => k = w.heap.size) wr).set (fun _ => rfl) _).set (fun _ => rfl) _
          have hkept := hD.kept.trans hC (fun k hk hp => by omega)
          have hvals := hC.owns (owns_le hD.vals (show w.heap.size ≤ X + 1 by omega)) (fun k hk hp => by have := (hD.vals.lt k hk).1; omega)
          have hrd := hD.rd.kept hC (fun k hk hp => by omega)
          go_wp2
          refine bodyPost_ret (v := .agg #[.int .i64 (tg : Int), .slice va vs.length vc]) (by simp [results, Tryz.results148, go_sem, r0, r1']) rfl ⟨hkept, Or.inl ⟨⟨(tg : Int), vs⟩, q, va, vc, hdone, rfl, hvals, hrd⟩⟩

end Go.Proofs.YtmdpmdmilgbfiaaGreatDoor

namespace Go.Proofs.YtmdpmdmilgbfiaaGreatDoor
open Go.RowKit

structure GState (w : World) (b : Nat) (sa : Option Addr) (cap : Nat) (bs : List Nat) (rv : GV) (G : Nat) (ws : World) (q : List Nat) (na : Option Addr) (nc : Nat) (nl : List NL) : Prop where
  kept : Kept (fun k => k = b) w ws
  blk : b < w.heap.size ∧ w.heap.size < G ∧ G < ws.heap.size
  res : Five ws w.heap.size ⟨0, 0, ⟨#[]⟩, 0⟩ (.slice none 0 0)
  out : Five ws G rv (.slice na nl.length nc)
  rd : Rd ws b sa cap bs q
  own : OwnG ws (G + 1) na nc nl

theorem GState.step {w : World} {b : Nat} {sa : Option Addr} {cap : Nat} {bs : List Nat} {rv : GV} {G : Nat} {ws : World} {q : List Nat} {na : Option Addr} {nc : Nat} {nl : List NL} (h : GState w b sa cap bs rv G ws q na nc nl) {n : GN} {w1 w3 : World} {q1 : List Nat} {va : Option Addr} {vc : Nat} {gg cc : Nat} {o : Obj}
    (hR1 : Rd w1 b sa cap bs q1) (hK1 : Kept (fun k => k = b) ws w1) (hv1 : w1.ownsRow ws.heap.size 29 4 (.slice va n.vals.length vc) n.vals.length (valCells n.vals))
    (hown : w3.ownsRow (G + 1) 37 2 (.slice (some ⟨gg, 0, none⟩) (nl.length + 1) cc) (nl.length + 1) (nodeCells nl ++ [.int .i64 n.tag, .slice va n.vals.length vc]))
    (hgrow : (w1.alloc o).grownBy w3 (Value.slice na nl.length nc).ownBlock) (hat : (Value.slice na nl.length nc).ownBlock = some gg ∨ gg = w1.heap.size + 1) :
    GState w b sa cap bs rv G (w3.setCell ⟨G, 4, none⟩ (.slice (some ⟨gg, 0, none⟩) (nl.length + 1) cc)) q1 (some ⟨gg, 0, none⟩) cc (nl ++ [⟨n, va, vc⟩]) := by
  obtain ⟨b1, b2, b3⟩ := h.blk
  have hs1 := hK1.size
  have hA : Kept (fun _ => False) w1 (w1.alloc o) := (Kept.refl _ w1).alloc _
  have hG := Kept.of_grown hgrow
  have hs3 : w1.heap.size + 1 ≤ w3.heap.size := by have := hgrow.size; simpa using this
  have hC := (Kept.refl (fun k => k = G) w3).set (a := ⟨G, 4, none⟩) (fun _ => rfl) (.slice (some ⟨gg, 0, none⟩) (nl.length + 1) cc)
  have hnb : ∀ k, (Value.slice na nl.length nc).ownBlock = some k → G + 1 ≤ k ∧ k < ws.heap.size ∧ na = some ⟨k, 0, none⟩ := fun k hk => ⟨(h.own.nodes.lt k hk).1, (h.own.nodes.lt k hk).2, owns_addr h.own.nodes hk⟩
  have hvab : ∀ k, va = some ⟨k, 0, none⟩ → ws.heap.size ≤ k ∧ k < w1.heap.size := fun k hk => hv1.lt k (by rw [hk]; rfl)
  have hxb : ∀ x, x ∈ nl → ∀ k, x.a = some ⟨k, 0, none⟩ → G + 1 ≤ k ∧ k < ws.heap.size := fun x hx k hk => (h.own.vals x hx).lt k (by rw [hk]; rfl)
  have hggb : G + 1 ≤ gg ∧ (na = some ⟨gg, 0, none⟩ ∨ w1.heap.size < gg) := ⟨(hown.lt gg rfl).1, hat.imp (fun e => (hnb gg e).2.2) (fun e => by omega)⟩
  have hsz := h.kept.size
  exact {
    kept := (((h.kept.trans hK1 (fun _ _ e => e)).trans hA (fun _ _ e => e.elim)).trans hG (fun k hk hp => by have := hnb k hp; omega)).trans hC (fun k hk hp => by omega)
    blk := ⟨b1, b2, by have := hC.size; omega⟩
    res := (((h.res.kept hK1 (by omega)).kept hA (fun e => e)).kept hG (fun hp => by have := hnb _ hp; omega)).kept hC (by omega)
    out := by
      have h1 := ((h.out.kept hK1 (by omega)).kept hA (fun e => e)).kept hG (fun hp => by have := hnb _ hp; omega)
      simpa using h1.set (s' := .slice (some ⟨gg, 0, none⟩) (nl.length + 1) cc)
    rd := ((hR1.kept hA (fun _ _ e => e)).kept hG (fun k hk hp => by have := hnb k hp; omega)).kept hC (fun k hk hp => by omega)
    own := by
      refine ⟨?_, fun x hx => ?_, fun x hx => ?_, fun i j hij hj => ?_⟩
      · have h1 := hC.owns hown (fun k hk hp => by have := (hown.lt k hk).1; omega)
        simpa [nodeCells_snoc] using h1
      · rcases List.mem_append.1 hx with hx | hx
        · have h1 := h.own.vals x hx
          refine hC.owns (hG.owns (hA.owns (hK1.owns h1 (fun k hk hp => ?_)) (fun _ _ e => e)) (fun k hk hp => h.own.apn x hx k (owns_addr h1 hk) (hnb k hp).2.2)) (fun k hk hp => ?_)
          · have := (h1.lt k hk).1; omega
          · have := (h1.lt k hk).1; omega
        · simp at hx
          subst hx
          refine hC.owns (hG.owns (hA.owns (owns_le hv1 (by omega)) (fun _ _ e => e)) (fun k hk hp => ?_)) (fun k hk hp => ?_)
          · have h2 := hvab k (owns_addr hv1 hk); have h3 := hnb k hp; omega
          · have h2 := hvab k (owns_addr hv1 hk); omega
      · intro k hk hx2
        have e := some_addr hx2
        subst e
        rcases List.mem_append.1 hx with hx | hx
        · rcases hggb.2 with e3 | e3
          · exact h.own.apn x hx gg hk e3
          · have := hxb x hx gg hk; omega
        · simp at hx
          subst hx
          have h2 := hvab gg hk
          rcases hggb.2 with e3 | e3
          · have h4 := h.own.nodes.lt gg (by rw [e3]; rfl); omega
          · omega
      · have hj' : j < nl.length + 1 := by simpa using hj
        have hi' : i < nl.length := by omega
        have ei : (nl ++ [(⟨n, va, vc⟩ : NL)])[i]! = nl[i]! := by rw [getElem!_pos _ i (by simp; omega), getElem!_pos nl i hi', List.getElem_append_left hi']
        rw [ei]
        by_cases ej : j < nl.length
        · have ej2 : (nl ++ [(⟨n, va, vc⟩ : NL)])[j]! = nl[j]! := by rw [getElem!_pos _ j hj, getElem!_pos nl j ej, List.getElem_append_left ej]
          rw [ej2]
          exact h.own.apv i j hij ej
        · have ej2 : (nl ++ [(⟨n, va, vc⟩ : NL)])[j]! = ⟨n, va, vc⟩ := by
            have e : j = nl.length := by omega
            subst e
            rw [getElem!_pos (nl ++ [(⟨n, va, vc⟩ : NL)]) nl.length hj]; simp
          rw [ej2]
          intro k hk hx2
          have h2 := hvab k hx2
          have h3 := hxb _ (mem_at hi') k hk
          omega }

def RnInv (m : Nat) (r : List Nat) (j : Nat) (ns : List GN) (q : List Nat) : Prop := rdNodes m r = (rdNodes (m - j) q).map fun y => (ns ++ y.1, y.2)
theorem RnInv.start (m : Nat) (r : List Nat) : RnInv m r 0 [] r := by
  unfold RnInv
  rw [Nat.sub_zero]
  cases rdNodes m r <;> simp
theorem RnInv.next {m j : Nat} {r q q1 : List Nat} {ns : List GN} {n : GN} (h : RnInv m r j ns q) (hj : j < m) (hv : rdNode q = some (n, q1)) : RnInv m r (j + 1) (ns ++ [n]) q1 := by
  unfold RnInv at h ⊢
  rw [h, show m - j = (m - (j + 1)) + 1 by omega, rdNodes, hv]
  simp only [Option.bind_some, Option.map_map]
  congr 1
  funext y
  simp
theorem RnInv.none' {m j : Nat} {r q : List Nat} {ns : List GN} (h : RnInv m r j ns q) (hj : j < m) (hv : rdNode q = none) : rdNodes m r = none := by
  unfold RnInv at h
  rw [h, show m - j = (m - (j + 1)) + 1 by omega, rdNodes, hv]
  rfl
theorem RnInv.done {m : Nat} {r q : List Nat} {ns : List GN} (h : RnInv m r m ns q) : rdNodes m r = some (ns, q) := by
  unfold RnInv at h
  rw [h, Nat.sub_self]
  simp [rdNodes]

def GRPost (b : Nat) (sa : Option Addr) (cap : Nat) (bs r : List Nat) (w : World) (e : Ending) (w' : World) : Prop :=
  Kept (fun k => k = b) w w' ∧ ((∃ g q na nc nl, Hid (rdGraph r = some (g, q)) ∧ e = .returned (g.val na nc) ∧ nl.map (·.n) = g.nodes ∧ OwnG w' w.heap.size na nc nl ∧ Rd w' b sa cap bs q) ∨ (Hid (rdGraph r = none) ∧ e = .panicked [haltP]))

set_option maxHeartbeats 1000000 in
set_option maxRecDepth 100000 in
theorem readGraph_any (b : Nat) (sa : Option Addr) (cap : Nat) (bs r : List Nat) (w : World) (hR : Rd w b sa cap bs r) :
    Calls Tryz.prog 131 #[.pointer (some ⟨b, 0, none⟩)] w (GRPost b sa cap bs r w) := by
  have hlt := hR.lt
  cases ht : rdText 2 r with
  | none =>
    have ht' : Hid _ := ht
    go_enter Tryz.func131, Tryz.ntmps131
    go_wp2_with (go_at_call 145; refine (readText_any b sa cap bs r 2 _ _ (hR.grow (gal (gre _) _)) rfl (by omega)).mono ?_; rintro e w1 h1; rw [ht'.out] at h1; obtain ⟨rfl, hK1⟩ := RPost.no h1)
    exact ⟨rfl, kk ((Kept.refl _ w).alloc _) hK1, Or.inr ⟨by show rdGraph r = none; unfold rdGraph; rw [ht]; rfl, rfl⟩⟩
  | some y =>
    obtain ⟨tx, r1⟩ := y
    have ht' : Hid _ := ht
    by_cases htx : tx = ⟨#[72, 49]⟩
    · subst htx
      have hF0 := Five.new_at w ⟨0, 0, ⟨#[]⟩, 0⟩ (.slice none 0 0) 32 w.heap.size rfl
      have heq : ((⟨#[72, 49]⟩ : ByteArray).toList == [72, 49]) = true := by rw [ByteArray.toList_eq]; rfl
      have hg1 : Hid (rdGraph r = (rdCount 300 r1).bind fun m => (rdVal m.2).bind fun x => (rdNodes m.1 x.2).map fun y => (⟨x.1, y.1⟩, y.2)) := by show rdGraph r = _; unfold rdGraph; rw [ht, Option.bind_some]; exact if_pos rfl
      cases hm : rdCount 300 r1 with
      | none =>
        have hm' : Hid _ := hm
        go_enter Tryz.func131, Tryz.ntmps131
        go_wp2_with (first
          | (go_at_call 145; refine (readText_any b sa cap bs r 2 _ _ (hR.grow (gal (gre _) _)) rfl (by omega)).mono ?_; rintro e w1 h1; rw [ht'.out] at h1; obtain ⟨rfl, hR1, hK1⟩ := RPost.ok h1; clear h1; have hF1 := hF0.kept hK1 (by omega))
          | (go_at_call 146; refine (readCount_any b sa cap bs r1 300 _ _ hR1 rfl (by omega)).mono ?_; rintro e w2 h2; rw [hm'.out] at h2; obtain ⟨rfl, hK2⟩ := RPost.no h2))
        exact ⟨rfl, kk (kk ((Kept.refl _ w).alloc _) hK1) hK2, Or.inr ⟨by show rdGraph r = none; rw [hg1.out, hm]; rfl, rfl⟩⟩
      | some y =>
        obtain ⟨m, r2⟩ := y
        have hm' : Hid _ := hm
        have hml := rdCount_le hm
        cases hv : rdVal r2 with
        | none =>
          have hv' : Hid _ := hv
          go_enter Tryz.func131, Tryz.ntmps131
          go_wp2_with (first
            | (go_at_call 145; refine (readText_any b sa cap bs r 2 _ _ (hR.grow (gal (gre _) _)) rfl (by omega)).mono ?_; rintro e w1 h1; rw [ht'.out] at h1; obtain ⟨rfl, hR1, hK1⟩ := RPost.ok h1; clear h1; have hF1 := hF0.kept hK1 (by omega))
            | (go_at_call 146; refine (readCount_any b sa cap bs r1 300 _ _ hR1 rfl (by omega)).mono ?_; rintro e w2 h2; rw [hm'.out] at h2; obtain ⟨rfl, hR2, hK2⟩ := RPost.ok h2; clear h2)
            | (go_at_call 147; refine (readVal_any b sa cap bs r2 _ hR2).mono ?_; intro e w3 h3; unfold RVPost at h3; rw [hv'.out] at h3; obtain ⟨rfl, hK3⟩ := RPost.no h3))
          exact ⟨rfl, kk (kk (kk ((Kept.refl _ w).alloc _) hK1) hK2) hK3, Or.inr ⟨by show rdGraph r = none; rw [hg1.out, hm]; simp [hv], rfl⟩⟩
        | some y =>
          obtain ⟨rv, r3⟩ := y
          have hv' : Hid _ := hv
          obtain ⟨j0, hj, hy0, hy1, hy2⟩ := info_parts info_implNode
          have hgr : Hid (rdGraph r = (rdNodes m r3).map fun y => (⟨rv, y.1⟩, y.2)) := by show rdGraph r = _; rw [hg1.out, hm]; simp [hv]
          go_enter Tryz.func131, Tryz.ntmps131
          go_wp2_with (first
            | (go_at_call 145; refine (readText_any b sa cap bs r 2 _ _ (hR.grow (gal (gre _) _)) rfl (by omega)).mono ?_; rintro e w1 h1; rw [ht'.out] at h1; obtain ⟨rfl, hR1, hK1⟩ := RPost.ok h1; clear h1; have hF1 := hF0.kept hK1 (by omega))
            | (go_at_call 146; refine (readCount_any b sa cap bs r1 300 _ _ hR1 rfl (by omega)).mono ?_; rintro e w2 h2; rw [hm'.out] at h2; obtain ⟨rfl, hR2, hK2⟩ := RPost.ok h2; clear h2)
            | (go_at_call 147; refine (readVal_any b sa cap bs r2 _ hR2).mono ?_; intro e w3 h3; unfold RVPost at h3; rw [hv'.out] at h3; obtain ⟨rfl, hR3, hK3⟩ := RPost.ok h3; clear h3))
          have hs1 : w.heap.size + 1 ≤ w1.heap.size := by have := hK1.size; simpa using this
          have hs3 : w1.heap.size ≤ w3.heap.size := Nat.le_trans hK2.size hK3.size
          have hK30 := kk (kk (kk ((Kept.refl (fun k => k = b) w).alloc _) hK1) hK2) hK3
          have hD0 : GState w b sa cap bs rv w3.heap.size (w3.alloc (.cells #[.int .i64 rv.kind, .int .i64 rv.num, .string rv.text, .int .i64 rv.node, .slice none 0 0] 32)) r3 none 0 [] :=
            ⟨hK30.alloc _, ⟨hlt, by omega, by simp⟩, ((hF1.kept hK2 (by omega)).kept hK3 (by omega)).kept ((Kept.refl (fun _ => False) w3).alloc _) (fun e => e), Five.new_at w3 rv (.slice none 0 0) 32 w3.heap.size rfl, hR3.grow (gal (gre _) _),
              ⟨World.ownsRow_nil _ _ _ _, fun x hx => (by cases hx), fun x hx => (by cases hx), fun i j _ hj => absurd hj (Nat.not_lt_zero _)⟩⟩
          generalize w3.alloc (.cells #[.int .i64 rv.kind, .int .i64 rv.num, .string rv.text, .int .i64 rv.node, .slice none 0 0] 32) = w4 at hD0 ⊢
          generalize w3.heap.size = G at hD0 ⊢
          clear hK1 hK2 hK3 hs1 hs3 hR1 hR2 hR3 hF0 hF1 hK30
          go_loopw [16] (fun i ws => ∃ (j : Nat) (q : List Nat) (na : Option Addr) (nc : Nat) (nl : List NL), i = .int .i64 j ∧ j ≤ m ∧ Hid (nl.length = j) ∧ Hid (RnInv m r3 j (nl.map (·.n)) q) ∧ GState w b sa cap bs rv G ws q na nc nl) (fun i _ => m - (intOf i).toNat)
          case atStart => exact ⟨0, r3, none, 0, [], rfl, Nat.zero_le _, rfl, RnInv.start m r3, hD0⟩
          case round =>
            obtain ⟨j, q, na, nc, nl, rfl, hjm, hvl, hinv, hD⟩ := hrel
            obtain ⟨k1, k2, k3⟩ := hD.blk
            by_cases hjl : j < m
            · have hd : (j : Int) < (m : Int) := by omega
              obtain ⟨xz, x0, x1, x2, x3, x4, xf⟩ := hD.out
              go_wp2
              refine wp_regionU (fun u => u.cell? ⟨G, 4, none⟩ = some (.slice na nl.length nc)) 7 (by kernel_rfl) x4 (fun hS0 => ?_)
              refine anyU_take (i := 0) (v := ?_) rfl (by kernel_rfl) (by kernel_rfl) (by kernel_rfl) (by kernel_rfl) (fun _ _ _ h => h) (Or.inl ⟨by rfl, ?_⟩) hS0 ?_
              rotate_left
              · intro u hSu; (try dsimp only at hSu); go_simp <;> with_reducible rfl
              simp only [Act.put, List.getElem_toArray, List.getElem_cons_zero, List.setIfInBounds_toArray, List.set_cons_zero, List.set_cons_succ]
              refine anyU_take (i := 1) (v := ?_) rfl (by kernel_rfl) (by kernel_rfl) (by kernel_rfl) (by kernel_rfl) (fun _ _ _ h => h) (Or.inl ⟨by rfl, ?_⟩) hS0 ?_
              rotate_left
              · intro u hSu; (try dsimp only at hSu); go_simp <;> with_reducible rfl
              simp only [Act.put, List.getElem_toArray, List.getElem_cons_zero, List.getElem_cons_succ, List.setIfInBounds_toArray, List.set_cons_zero, List.set_cons_succ]
              refine anyU_take (i := 2) (v := ?_) rfl (by kernel_rfl) (by kernel_rfl) (by kernel_rfl) (by kernel_rfl) (fun _ _ _ h => h) (Or.inl ⟨by rfl, ?_⟩) hS0 ?_
              rotate_left
              · intro u hSu; (try dsimp only at hSu); go_simp <;> with_reducible rfl
              simp only [Act.put, List.getElem_toArray, List.getElem_cons_zero, List.getElem_cons_succ, List.setIfInBounds_toArray, List.set_cons_zero, List.set_cons_succ]
              refine anyU_one (i := 3) (by kernel_rfl) rfl (fun K hK => ?_)
              go_simp
              refine (readNode_any b sa cap bs q _ (hD.rd.grow (gdr (gre _)))).mono ?_
              rintro e w1 ⟨hK1, ⟨n, q1, va, vc, hn, rfl, hv1, hR1⟩ | ⟨hno, rfl⟩⟩
              · have hKw : Kept (fun k => k = b) wr w1 := kk ((Kept.refl (fun k => k = b) wr).drew) hK1
                have hS1 := hKw.cell x4 (by omega)
                have hX1 : Five w1 G rv (.slice na nl.length nc) := hD.out.kept hKw (by omega)
                have hn1 : Hid _ := hKw.owns hD.own.nodes (fun k hk hp => by have := (hD.own.nodes.lt k hk).1; omega)
                have hsw := hKw.size
                refine hK.out _ _ hS1 ?_
                clear hK
                have hS2' : Hid ((w1.alloc (.cells #[.int .i64 n.tag, .slice va n.vals.length vc] 37)).cell? ⟨G, 4, none⟩ = some (.slice na nl.length nc)) := ((Kept.refl (fun _ => False) w1).alloc _).cell hS1 (fun e => e)
                refine anyU_one (i := 4) (by kernel_rfl) rfl (fun K hK => ?_)
                go_simp
                refine hK.out _ _ hS2'.out ?_
                clear hK
                refine anyU_one (i := 5) (by kernel_rfl) rfl (fun K hK => ?_)
                refine step_append_lies _ (by rfl) (.tmp 19) (.tmp 22) 30 rfl (G + 1) 37 j0 _ 2 32 Tryz.underlying30 hj hy0 hy1 hy2 rfl (by decide) (.slice na nl.length nc) nl.length (nodeCells nl) (by rfl) (World.ownsRow.alloc hn1.out _) ⟨w1.heap.size, 0, none⟩ 1 1 [.int .i64 n.tag, .slice va n.vals.length vc] (by rfl) rfl (World.news_of_block (cs := #[.int .i64 n.tag, .slice va n.vals.length vc]) (t := 37) (fr := (0, 0)) (blk_new_at _ _ _ rfl)) (by simp [Value.oneCell']) (by decide) (by have h7 := hvl.out; unfold maxLen; omega) (by have h7 := hvl.out; omega) (by simp; omega) (w1.heap.size + 1) (by simp) ?_
                intro gg cc w3 hown3 hgrow3 hat3 hlt3
                have hX3 := (hX1.kept ((Kept.refl (fun _ => False) w1).alloc _) (fun e => e)).kept (Kept.of_grown hgrow3) (fun hp => by have := (hD.own.nodes.lt _ hp).1; omega)
                obtain ⟨yz, y0, y1, y2, y3, y4, yf⟩ := id hX3
                refine hK.out _ _ y4 ?_
                clear hK
                simp only [Act.put, List.getElem_toArray, List.getElem_cons_zero, List.getElem_cons_succ, List.setIfInBounds_toArray, List.set_cons_zero, List.set_cons_succ]
                refine anyU_one (i := 6) (by kernel_rfl) rfl (fun K hK => ?_)
                go_simp
                refine hK.out _ _ y4 ?_
                clear hK
                refine anyU_last (by kernel_rfl) rfl (by kernel_rfl) (fun K hK => ?_)
                go_simp
                refine hK.out _ _ ?_
                clear hK
                have hfin := hD.step hR1 hKw hv1 hown3 hgrow3 hat3
                have hinv2 : Hid (RnInv m r3 (j + 1) ((nl ++ [(⟨n, va, vc⟩ : NL)]).map (·.n)) q1) := by show RnInv _ _ _ _ _; rw [List.map_append]; exact hinv.out.next hjl hn.out
                go_wp2
                go_roundw
                case rel => exact ⟨j + 1, q1, some ⟨gg, 0, none⟩, cc, nl ++ [⟨n, va, vc⟩], by go_num, by omega, by have := hvl.out; show (nl ++ [(⟨n, va, vc⟩ : NL)]).length = j + 1; simp [this], hinv2, hfin⟩
                case measure => simp [intOf]; omega
              · refine ⟨rfl, kk hD.kept (kk ((Kept.refl (fun k => k = b) wr).drew) hK1), Or.inr ⟨?_, rfl⟩⟩
                show rdGraph r = none
                rw [hgr.out, hinv.out.none' hjl hno.out]; rfl
            · obtain rfl : j = m := by omega
              have hd : ¬ ((j : Int) < (j : Int)) := by omega
              have hdone : Hid (rdGraph r = some (⟨rv, nl.map (·.n)⟩, q)) := by show rdGraph r = _; rw [hgr.out, hinv.out.done]; rfl
              obtain ⟨xz, x0, x1, x2, x3, x4, xf⟩ := hD.out
              obtain ⟨rz, q0, q1, q2, q3, q4, rf⟩ := hD.res
              have hC : Kept (fun k => k = w.heap.size) wr (((((wr.setCell ⟨w.heap.size, 0, none⟩ (.int .i64 rv.kind)).setCell ⟨w.heap.size, 1, none⟩ (.int .i64 rv.num)).setCell ⟨w.heap.size, 2, none⟩ (.string rv.text)).setCell ⟨w.heap.size, 3, none⟩ (.int .i64 rv.node)).setCell ⟨w.heap.size, 4, none⟩ (.slice na nl.length nc)) := (((((Kept.refl (fun k => k = w.heap.size) wr).set (fun _ => rfl) _).set (fun _ => rfl) _).set (fun _ => rfl) _).set (fun _ => rfl) _).set (fun _ => rfl) _
              have hkept := hD.kept.trans hC (fun k hk hp => by omega)
              have hown := (hD.own.kept hC (fun k hk hp => by have := hD.own.nodes.lt k (by rw [hk]; rfl); omega) (fun x hx k hk hp => by have := (hD.own.vals x hx).lt k (by rw [hk]; rfl); omega)).le (show w.heap.size ≤ G + 1 by omega)
              have hrd := hD.rd.kept hC (fun k hk hp => by omega)
              go_wp2
              refine bodyPost_ret (v := .agg #[.int .i64 rv.kind, .int .i64 rv.num, .string rv.text, .int .i64 rv.node, .slice na nl.length nc]) (by simp [results, Tryz.results131, go_sem, q0, q1, q2, q3, q4]) rfl ⟨hkept, Or.inl ⟨⟨rv, nl.map (·.n)⟩, q, na, nc, nl, hdone, ?_, rfl, hown, hrd⟩⟩
              show Ending.returned _ = Ending.returned (.agg #[_, _, _, _, .slice na (nl.map (·.n)).length nc])
              rw [List.length_map]
    · have hne : (tx.toList == [72, 49]) = false := by
        rw [beq_eq_false_iff_ne]
        intro e
        apply htx
        apply ByteArray.ext
        apply Array.ext'
        rw [← ByteArray.toList_eq]; exact e
      go_enter Tryz.func131, Tryz.ntmps131
      go_wp2_with (go_at_call 145; refine (readText_any b sa cap bs r 2 _ _ (hR.grow (gal (gre _) _)) rfl (by omega)).mono ?_; rintro e w1 h1; rw [ht'.out] at h1; obtain ⟨rfl, hR1, hK1⟩ := RPost.ok h1)
      exact ⟨rfl, kk ((Kept.refl _ w).alloc _) hK1, Or.inr ⟨by show rdGraph r = none; unfold rdGraph; rw [ht]; exact if_neg htx, rfl⟩⟩

end Go.Proofs.YtmdpmdmilgbfiaaGreatDoor
