import Derived.Test.YtmdpmdmilgbfiaaGreatDoorPartR
namespace Go.Proofs.YtmdpmdmilgbfiaaGreatDoor
open Go.RowKit
set_option maxRecDepth 100000
set_option maxHeartbeats 8000000
structure GState (w : World) (b : Nat) (sa : Option Addr) (cap : Nat) (bs : List Nat) (rv : GV) (G : Nat) (ws : World) (q : List Nat) (na : Option Addr) (nc : Nat) (nl : List NL) : Prop where
 kept : Kept (fun k => k = b) w ws
 blk : b < w.heap.size ∧ w.heap.size < G ∧ G < ws.heap.size
 res : Five ws w.heap.size ⟨0, 0, ⟨#[]⟩, 0⟩ (.slice none 0 0)
 out : Five ws G rv (.slice na nl.length nc)
 rd : Rd ws b sa cap bs q
 own : OwnG ws (G + 1) na nc nl
theorem GState.step {w : World} {b : Nat} {sa : Option Addr} {cap : Nat} {bs : List Nat} {rv : GV} {G : Nat} {ws : World} {q : List Nat} {na : Option Addr} {nc : Nat} {nl : List NL} (h : GState w b sa cap bs rv G ws q na nc nl) {n : GN} {w1 w3 : World} {q1 : List Nat} {va : Option Addr} {vc : Nat} {gg cc : Nat} {o : Obj}
  (hR1 : Rd w1 b sa cap bs q1) (hK1 : Kept (fun k => k = b) ws w1) (hv1 : w1.ownsRow ws.heap.size 29 4 (.slice va n.vals.length vc) n.vals.length (valCells n.vals))
  (hown : w3.ownsRow (G + 1) 37 2 (.slice (some ⟨gg, 0, none⟩) (nl.length + 1) cc) (nl.length + 1) (nodeCells nl ++ [.int .i64 n.tag, .slice va n.vals.length vc]))
  (hgrow : (w1.alloc o).grownBy w3 (Value.slice na nl.length nc).ownBlock) (hat : (Value.slice na nl.length nc).ownBlock = some gg ∨ gg = w1.heap.size + 1) :
  GState w b sa cap bs rv G (w3.setCell ⟨G, 4, none⟩ (.slice (some ⟨gg, 0, none⟩) (nl.length + 1) cc)) q1 (some ⟨gg, 0, none⟩) cc (nl ++ [⟨n, va, vc⟩]) := by
 obtain ⟨b1, b2, b3⟩ := h.blk
 have hs1 := hK1.size
 have hA : Kept (fun _ => False) w1 (w1.alloc o) := (Kept.refl _ w1).alloc _
 have hG := Kept.of_grown hgrow
 have hs3 : w1.heap.size + 1 ≤ w3.heap.size := by have := hgrow.size; simpa using this
 have hC := (Kept.refl (fun k => k = G) w3).set (a := ⟨G, 4, none⟩) (fun _ => rfl) (.slice (some ⟨gg, 0, none⟩) (nl.length + 1) cc)
 have hnb : ∀ k, (Value.slice na nl.length nc).ownBlock = some k → G + 1 ≤ k ∧ k < ws.heap.size ∧ na = some ⟨k, 0, none⟩ := fun k hk => ⟨(h.own.nodes.lt k hk).1, (h.own.nodes.lt k hk).2, owns_addr h.own.nodes hk⟩
 have hvab : ∀ k, va = some ⟨k, 0, none⟩ → ws.heap.size ≤ k ∧ k < w1.heap.size := fun k hk => hv1.lt k (by rw [hk]; rfl)
 have hxb : ∀ x, x ∈ nl → ∀ k, x.a = some ⟨k, 0, none⟩ → G + 1 ≤ k ∧ k < ws.heap.size := fun x hx k hk => (h.own.vals x hx).lt k (by rw [hk]; rfl)
 have hggb : G + 1 ≤ gg ∧ (na = some ⟨gg, 0, none⟩ ∨ w1.heap.size < gg) := ⟨(hown.lt gg rfl).1, hat.imp (fun e => (hnb gg e).2.2) (fun e => by omega)⟩
 have hsz := h.kept.size
 exact {
  kept := (((h.kept.trans hK1 (fun _ _ e => e)).trans hA (fun _ _ e => e.elim)).trans hG (fun k hk hp => by have := hnb k hp; omega)).trans hC (fun k hk hp => by omega)
  blk := ⟨b1, b2, by have := hC.size; omega⟩
  res := (((h.res.kept hK1 (by omega)).kept hA (fun e => e)).kept hG (fun hp => by have := hnb _ hp; omega)).kept hC (by omega)
  out := by
   have h1 := ((h.out.kept hK1 (by omega)).kept hA (fun e => e)).kept hG (fun hp => by have := hnb _ hp; omega)
   simpa using h1.set (s' := .slice (some ⟨gg, 0, none⟩) (nl.length + 1) cc)
  rd := ((hR1.kept hA (fun _ _ e => e)).kept hG (fun k hk hp => by have := hnb k hp; omega)).kept hC (fun k hk hp => by omega)
  own := by
   refine ⟨?_, fun x hx => ?_, fun x hx => ?_, fun i j hij hj => ?_⟩
   ·
    have h1 := hC.owns hown (fun k hk hp => by have := (hown.lt k hk).1; omega)
    simpa [nodeCells_snoc] using h1
   ·
    rcases List.mem_append.1 hx with hx | hx
    ·
     have h1 := h.own.vals x hx
     refine hC.owns (hG.owns (hA.owns (hK1.owns h1 (fun k hk hp => ?_)) (fun _ _ e => e)) (fun k hk hp => h.own.apn x hx k (owns_addr h1 hk) (hnb k hp).2.2)) (fun k hk hp => ?_)
     · have := (h1.lt k hk).1; omega
     · have := (h1.lt k hk).1; omega
    ·
     simp at hx
     subst hx
     refine hC.owns (hG.owns (hA.owns (owns_le hv1 (by omega)) (fun _ _ e => e)) (fun k hk hp => ?_)) (fun k hk hp => ?_)
     · have h2 := hvab k (owns_addr hv1 hk); have h3 := hnb k hp; omega
     · have h2 := hvab k (owns_addr hv1 hk); omega
   ·
    intro k hk hx2
    have e := some_addr hx2
    subst e
    rcases List.mem_append.1 hx with hx | hx
    ·
     rcases hggb.2 with e3 | e3
     · exact h.own.apn x hx gg hk e3
     · have := hxb x hx gg hk; omega
    ·
     simp at hx
     subst hx
     have h2 := hvab gg hk
     rcases hggb.2 with e3 | e3
     · have h4 := h.own.nodes.lt gg (by rw [e3]; rfl); omega
     · omega
   ·
    have hj' : j < nl.length + 1 := by simpa using hj
    have hi' : i < nl.length := by omega
    have ei : (nl ++ [(⟨n, va, vc⟩ : NL)])[i]! = nl[i]! := by rw [getElem!_pos _ i (by simp; omega), getElem!_pos nl i hi', List.getElem_append_left hi']
    rw [ei]
    by_cases ej : j < nl.length
    ·
     have ej2 : (nl ++ [(⟨n, va, vc⟩ : NL)])[j]! = nl[j]! := by rw [getElem!_pos _ j hj, getElem!_pos nl j ej, List.getElem_append_left ej]
     rw [ej2]
     exact h.own.apv i j hij ej
    ·
     have ej2 : (nl ++ [(⟨n, va, vc⟩ : NL)])[j]! = ⟨n, va, vc⟩ := by
      have e : j = nl.length := by omega
      subst e
      rw [getElem!_pos (nl ++ [(⟨n, va, vc⟩ : NL)]) nl.length hj]; simp
     rw [ej2]
     intro k hk hx2
     have h2 := hvab k hx2
     have h3 := hxb _ (mem_at hi') k hk
     omega }
def RnInv (m : Nat) (r : List Nat) (j : Nat) (ns : List GN) (q : List Nat) : Prop := rdNodes m r = (rdNodes (m - j) q).map fun y => (ns ++ y.1, y.2)
theorem RnInv.start (m : Nat) (r : List Nat) : RnInv m r 0 [] r := by
 unfold RnInv
 rw [Nat.sub_zero]
 cases rdNodes m r <;> simp
theorem RnInv.next {m j : Nat} {r q q1 : List Nat} {ns : List GN} {n : GN} (h : RnInv m r j ns q) (hj : j < m) (hv : rdNode q = some (n, q1)) : RnInv m r (j + 1) (ns ++ [n]) q1 := by
 unfold RnInv at h ⊢
 rw [h, show m - j = (m - (j + 1)) + 1 by omega, rdNodes, hv]
 simp only [Option.bind_some, Option.map_map]
 congr 1
 funext y
 simp
theorem RnInv.none' {m j : Nat} {r q : List Nat} {ns : List GN} (h : RnInv m r j ns q) (hj : j < m) (hv : rdNode q = none) : rdNodes m r = none := by
 unfold RnInv at h
 rw [h, show m - j = (m - (j + 1)) + 1 by omega, rdNodes, hv]
 rfl
theorem RnInv.done {m : Nat} {r q : List Nat} {ns : List GN} (h : RnInv m r m ns q) : rdNodes m r = some (ns, q) := by
 unfold RnInv at h
 rw [h, Nat.sub_self]
 simp [rdNodes]
def GRPost (b : Nat) (sa : Option Addr) (cap : Nat) (bs r : List Nat) (w : World) (e : Ending) (w' : World) : Prop :=
 Kept (fun k => k = b) w w' ∧ ((∃ g q na nc nl, Hid (rdGraph r = some (g, q)) ∧ e = .returned (g.val na nc) ∧ nl.map (·.n) = g.nodes ∧ OwnG w' w.heap.size na nc nl ∧ Rd w' b sa cap bs q) ∨ (Hid (rdGraph r = none) ∧ e = .panicked [haltP]))
theorem readGraph_any (b : Nat) (sa : Option Addr) (cap : Nat) (bs r : List Nat) (w : World) (hR : Rd w b sa cap bs r) :
  Calls Tryz.prog 131 #[.pointer (some ⟨b, 0, none⟩)] w (GRPost b sa cap bs r w) := by
 have hlt := hR.lt
 cases ht : rdText 2 r with
 | none =>
  have ht' : Hid _ := ht
  go_enter Tryz.func131, Tryz.ntmps131
  go_wp2_with (go_at_call 145; refine (readText_any b sa cap bs r 2 _ _ (hR.grow (gal (gre _) _)) rfl (by omega)).mono ?_; rintro e w1 h1; rw [ht'.out] at h1; obtain ⟨rfl, hK1⟩ := RPost.no h1)
  exact ⟨rfl, kk ((Kept.refl _ w).alloc _) hK1, Or.inr ⟨by show rdGraph r = none; unfold rdGraph; rw [ht]; rfl, rfl⟩⟩
 | some y =>
  obtain ⟨tx, r1⟩ := y
  have ht' : Hid _ := ht
  by_cases htx : tx = ⟨#[72, 49]⟩
  ·
   subst htx
   have hF0 := Five.new_at w ⟨0, 0, ⟨#[]⟩, 0⟩ (.slice none 0 0) 32 w.heap.size rfl
   have heq : ((⟨#[72, 49]⟩ : ByteArray).toList == [72, 49]) = true := by rw [ByteArray.toList_eq]; rfl
   have hg1 : Hid (rdGraph r = (rdCount 300 r1).bind fun m => (rdVal m.2).bind fun x => (rdNodes m.1 x.2).map fun y => (⟨x.1, y.1⟩, y.2)) := by show rdGraph r = _; unfold rdGraph; rw [ht, Option.bind_some]; exact if_pos rfl
   cases hm : rdCount 300 r1 with
   | none =>
    have hm' : Hid _ := hm
    go_enter Tryz.func131, Tryz.ntmps131
    go_wp2_with (first
     | (go_at_call 145; refine (readText_any b sa cap bs r 2 _ _ (hR.grow (gal (gre _) _)) rfl (by omega)).mono ?_; rintro e w1 h1; rw [ht'.out] at h1; obtain ⟨rfl, hR1, hK1⟩ := RPost.ok h1; clear h1; have hF1 := hF0.kept hK1 (by omega))
     | (go_at_call 146; refine (readCount_any b sa cap bs r1 300 _ _ hR1 rfl (by omega)).mono ?_; rintro e w2 h2; rw [hm'.out] at h2; obtain ⟨rfl, hK2⟩ := RPost.no h2))
    exact ⟨rfl, kk (kk ((Kept.refl _ w).alloc _) hK1) hK2, Or.inr ⟨by show rdGraph r = none; rw [hg1.out, hm]; rfl, rfl⟩⟩
   | some y =>
    obtain ⟨m, r2⟩ := y
    have hm' : Hid _ := hm
    have hml := rdCount_le hm
    cases hv : rdVal r2 with
    | none =>
     have hv' : Hid _ := hv
     go_enter Tryz.func131, Tryz.ntmps131
     go_wp2_with (first
      | (go_at_call 145; refine (readText_any b sa cap bs r 2 _ _ (hR.grow (gal (gre _) _)) rfl (by omega)).mono ?_; rintro e w1 h1; rw [ht'.out] at h1; obtain ⟨rfl, hR1, hK1⟩ := RPost.ok h1; clear h1; have hF1 := hF0.kept hK1 (by omega))
      | (go_at_call 146; refine (readCount_any b sa cap bs r1 300 _ _ hR1 rfl (by omega)).mono ?_; rintro e w2 h2; rw [hm'.out] at h2; obtain ⟨rfl, hR2, hK2⟩ := RPost.ok h2; clear h2)
      | (go_at_call 147; refine (readVal_any b sa cap bs r2 _ hR2).mono ?_; intro e w3 h3; unfold RVPost at h3; rw [hv'.out] at h3; obtain ⟨rfl, hK3⟩ := RPost.no h3))
     exact ⟨rfl, kk (kk (kk ((Kept.refl _ w).alloc _) hK1) hK2) hK3, Or.inr ⟨by show rdGraph r = none; rw [hg1.out, hm]; simp [hv], rfl⟩⟩
    | some y =>
     obtain ⟨rv, r3⟩ := y
     have hv' : Hid _ := hv
     obtain ⟨j0, hj, hy0, hy1, hy2⟩ := info_parts info_implNode
     have hgr : Hid (rdGraph r = (rdNodes m r3).map fun y => (⟨rv, y.1⟩, y.2)) := by show rdGraph r = _; rw [hg1.out, hm]; simp [hv]
     go_enter Tryz.func131, Tryz.ntmps131
     go_wp2_with (first
      | (go_at_call 145; refine (readText_any b sa cap bs r 2 _ _ (hR.grow (gal (gre _) _)) rfl (by omega)).mono ?_; rintro e w1 h1; rw [ht'.out] at h1; obtain ⟨rfl, hR1, hK1⟩ := RPost.ok h1; clear h1; have hF1 := hF0.kept hK1 (by omega))
      | (go_at_call 146; refine (readCount_any b sa cap bs r1 300 _ _ hR1 rfl (by omega)).mono ?_; rintro e w2 h2; rw [hm'.out] at h2; obtain ⟨rfl, hR2, hK2⟩ := RPost.ok h2; clear h2)
      | (go_at_call 147; refine (readVal_any b sa cap bs r2 _ hR2).mono ?_; intro e w3 h3; unfold RVPost at h3; rw [hv'.out] at h3; obtain ⟨rfl, hR3, hK3⟩ := RPost.ok h3; clear h3))
     have hs1 : w.heap.size + 1 ≤ w1.heap.size := by have := hK1.size; simpa using this
     have hs3 : w1.heap.size ≤ w3.heap.size := Nat.le_trans hK2.size hK3.size
     have hK30 := kk (kk (kk ((Kept.refl (fun k => k = b) w).alloc _) hK1) hK2) hK3
     have hD0 : GState w b sa cap bs rv w3.heap.size (w3.alloc (.cells #[.int .i64 rv.kind, .int .i64 rv.num, .string rv.text, .int .i64 rv.node, .slice none 0 0] 32)) r3 none 0 [] :=
      ⟨hK30.alloc _, ⟨hlt, by omega, by simp⟩, ((hF1.kept hK2 (by omega)).kept hK3 (by omega)).kept ((Kept.refl (fun _ => False) w3).alloc _) (fun e => e), Five.new_at w3 rv (.slice none 0 0) 32 w3.heap.size rfl, hR3.grow (gal (gre _) _),
       ⟨World.ownsRow_nil _ _ _ _, fun x hx => (by cases hx), fun x hx => (by cases hx), fun i j _ hj => absurd hj (Nat.not_lt_zero _)⟩⟩
     generalize w3.alloc (.cells #[.int .i64 rv.kind, .int .i64 rv.num, .string rv.text, .int .i64 rv.node, .slice none 0 0] 32) = w4 at hD0 ⊢
     generalize w3.heap.size = G at hD0 ⊢
     clear hK1 hK2 hK3 hs1 hs3 hR1 hR2 hR3 hF0 hF1 hK30
     go_loopw [16] (fun i ws => ∃ (j : Nat) (q : List Nat) (na : Option Addr) (nc : Nat) (nl : List NL), i = .int .i64 j ∧ j ≤ m ∧ Hid (nl.length = j) ∧ Hid (RnInv m r3 j (nl.map (·.n)) q) ∧ GState w b sa cap bs rv G ws q na nc nl) (fun i _ => m - (intOf i).toNat)
     case atStart => exact ⟨0, r3, none, 0, [], rfl, Nat.zero_le _, rfl, RnInv.start m r3, hD0⟩
     case round =>
      obtain ⟨j, q, na, nc, nl, rfl, hjm, hvl, hinv, hD⟩ := hrel
      obtain ⟨k1, k2, k3⟩ := hD.blk
      by_cases hjl : j < m
      ·
       have hd : (j : Int) < (m : Int) := by omega
       obtain ⟨xz, x0, x1, x2, x3, x4, xf⟩ := hD.out
       go_wp2
       refine wp_regionU (fun u => u.cell? ⟨G, 4, none⟩ = some (.slice na nl.length nc)) 7 (by kernel_rfl) x4 (fun hS0 => ?_)
       refine anyU_tk (i := 0) rfl hS0 (fun u hSu => by (try dsimp only at hSu); go_simp <;> with_reducible rfl) ?_
       refine anyU_tk (i := 1) rfl hS0 (fun u hSu => by (try dsimp only at hSu); go_simp <;> with_reducible rfl) ?_
       refine anyU_tk (i := 2) rfl hS0 (fun u hSu => by (try dsimp only at hSu); go_simp <;> with_reducible rfl) ?_
       simp only [Act.put, List.getElem_toArray, List.getElem_cons_zero, List.getElem_cons_succ, List.setIfInBounds_toArray, List.set_cons_zero, List.set_cons_succ]
       refine anyU_one (i := 3) (by kernel_rfl) rfl (fun K hK => ?_)
       go_simp
       refine (readNode_any b sa cap bs q _ (hD.rd.grow (gdr (gre _)))).mono ?_
       rintro e w1 ⟨hK1, ⟨n, q1, va, vc, hn, rfl, hv1, hR1⟩ | ⟨hno, rfl⟩⟩
       ·
        have hKw : Kept (fun k => k = b) wr w1 := kk ((Kept.refl (fun k => k = b) wr).drew) hK1
        have hS1 := hKw.cell x4 (by omega)
        have hX1 : Five w1 G rv (.slice na nl.length nc) := hD.out.kept hKw (by omega)
        have hn1 : Hid _ := hKw.owns hD.own.nodes (fun k hk hp => by have := (hD.own.nodes.lt k hk).1; omega)
        have hsw := hKw.size
        refine hK.out _ _ hS1 ?_
        clear hK
        have hS2' : Hid ((w1.alloc (.cells #[.int .i64 n.tag, .slice va n.vals.length vc] 37)).cell? ⟨G, 4, none⟩ = some (.slice na nl.length nc)) := ((Kept.refl (fun _ => False) w1).alloc _).cell hS1 (fun e => e)
        refine anyU_one (i := 4) (by kernel_rfl) rfl (fun K hK => ?_)
        go_simp
        refine hK.out _ _ hS2'.out ?_
        clear hK
        refine anyU_one (i := 5) (by kernel_rfl) rfl (fun K hK => ?_)
        refine step_append_lies _ (by rfl) (.tmp 19) (.tmp 22) 30 rfl (G + 1) 37 j0 _ 2 32 Tryz.underlying30 hj hy0 hy1 hy2 rfl (by decide) (.slice na nl.length nc) nl.length (nodeCells nl) (by rfl) (World.ownsRow.alloc hn1.out _) ⟨w1.heap.size, 0, none⟩ 1 1 [.int .i64 n.tag, .slice va n.vals.length vc] (by rfl) rfl (World.news_of_block (cs := #[.int .i64 n.tag, .slice va n.vals.length vc]) (t := 37) (fr := (0, 0)) (blk_new_at _ _ _ rfl)) (by simp [Value.oneCell']) (by decide) (by have h7 := hvl.out; unfold maxLen; omega) (by have h7 := hvl.out; omega) (by simp; omega) (w1.heap.size + 1) (by simp) ?_
        intro gg cc w3 hown3 hgrow3 hat3 hlt3
        have hX3 := (hX1.kept ((Kept.refl (fun _ => False) w1).alloc _) (fun e => e)).kept (Kept.of_grown hgrow3) (fun hp => by have := (hD.own.nodes.lt _ hp).1; omega)
        obtain ⟨yz, y0, y1, y2, y3, y4, yf⟩ := id hX3
        refine hK.out _ _ y4 ?_
        clear hK
        simp only [Act.put, List.getElem_toArray, List.getElem_cons_zero, List.getElem_cons_succ, List.setIfInBounds_toArray, List.set_cons_zero, List.set_cons_succ]
        refine anyU_one (i := 6) (by kernel_rfl) rfl (fun K hK => ?_)
        go_simp
        refine hK.out _ _ y4 ?_
        clear hK
        refine anyU_last (by kernel_rfl) rfl (by kernel_rfl) (fun K hK => ?_)
        go_simp
        refine hK.out _ _ ?_
        clear hK
        have hfin := hD.step hR1 hKw hv1 hown3 hgrow3 hat3
        have hinv2 : Hid (RnInv m r3 (j + 1) ((nl ++ [(⟨n, va, vc⟩ : NL)]).map (·.n)) q1) := by show RnInv _ _ _ _ _; rw [List.map_append]; exact hinv.out.next hjl hn.out
        go_wp2
        go_roundw
        case rel => exact ⟨j + 1, q1, some ⟨gg, 0, none⟩, cc, nl ++ [⟨n, va, vc⟩], by go_num, by omega, by have := hvl.out; show (nl ++ [(⟨n, va, vc⟩ : NL)]).length = j + 1; simp [this], hinv2, hfin⟩
        case measure => simp [intOf]; omega
       ·
        refine ⟨rfl, kk hD.kept (kk ((Kept.refl (fun k => k = b) wr).drew) hK1), Or.inr ⟨?_, rfl⟩⟩
        show rdGraph r = none
        rw [hgr.out, hinv.out.none' hjl hno.out]; rfl
      ·
       obtain rfl : j = m := by omega
       have hd : ¬ ((j : Int) < (j : Int)) := by omega
       have hdone : Hid (rdGraph r = some (⟨rv, nl.map (·.n)⟩, q)) := by show rdGraph r = _; rw [hgr.out, hinv.out.done]; rfl
       obtain ⟨xz, x0, x1, x2, x3, x4, xf⟩ := hD.out
       obtain ⟨rz, q0, q1, q2, q3, q4, rf⟩ := hD.res
       have hC : Kept (fun k => k = w.heap.size) wr (((((wr.setCell ⟨w.heap.size, 0, none⟩ (.int .i64 rv.kind)).setCell ⟨w.heap.size, 1, none⟩ (.int .i64 rv.num)).setCell ⟨w.heap.size, 2, none⟩ (.string rv.text)).setCell ⟨w.heap.size, 3, none⟩ (.int .i64 rv.node)).setCell ⟨w.heap.size, 4, none⟩ (.slice na nl.length nc)) := (((((Kept.refl (fun k => k = w.heap.size) wr).set (fun _ => rfl) _).set (fun _ => rfl) _).set (fun _ => rfl) _).set (fun _ => rfl) _).set (fun _ => rfl) _
       have hkept := hD.kept.trans hC (fun k hk hp => by omega)
       have hown := (hD.own.kept hC (fun k hk hp => by have := hD.own.nodes.lt k (by rw [hk]; rfl); omega) (fun x hx k hk hp => by have := (hD.own.vals x hx).lt k (by rw [hk]; rfl); omega)).le (show w.heap.size ≤ G + 1 by omega)
       have hrd := hD.rd.kept hC (fun k hk hp => by omega)
       go_wp2
       refine bodyPost_ret (v := .agg #[.int .i64 rv.kind, .int .i64 rv.num, .string rv.text, .int .i64 rv.node, .slice na nl.length nc]) (by simp [results, Tryz.results131, go_sem, q0, q1, q2, q3, q4]) rfl ⟨hkept, Or.inl ⟨⟨rv, nl.map (·.n)⟩, q, na, nc, nl, hdone, ?_, rfl, hown, hrd⟩⟩
       show Ending.returned _ = Ending.returned (.agg #[_, _, _, _, .slice na (nl.map (·.n)).length nc])
       rw [List.length_map]
  ·
   have hne : (tx.toList == [72, 49]) = false := by
    rw [beq_eq_false_iff_ne]
    intro e
    apply htx
    apply ByteArray.ext
    apply Array.ext'
    rw [← ByteArray.toList_eq]; exact e
   go_enter Tryz.func131, Tryz.ntmps131
   go_wp2_with (go_at_call 145; refine (readText_any b sa cap bs r 2 _ _ (hR.grow (gal (gre _) _)) rfl (by omega)).mono ?_; rintro e w1 h1; rw [ht'.out] at h1; obtain ⟨rfl, hR1, hK1⟩ := RPost.ok h1)
   exact ⟨rfl, kk ((Kept.refl _ w).alloc _) hK1, Or.inr ⟨by show rdGraph r = none; unfold rdGraph; rw [ht]; exact if_neg htx, rfl⟩⟩
theorem unCatch_panicking (older : List PanicEntry) (w : World) :
  CallsD Tryz.prog 130 #[] (.panicking (haltP :: older)) w fun e u' w' =>
   e = .returned (.tuple #[]) ∧ u' = .panicking ({ v := .iface 141 (.agg #[]), recovered := true } :: older) ∧ w' = w := by
 refine callsD_of_wpS Tryz.func130 rfl fun c₀ cs hu => ?_
 apply wpS_region
 simp [wpOpsS, go_sem, recoverD, hu, Tryz.ntmps130]
 refine (passOn_halt w).mono ?_
 rintro e w' ⟨rfl, rfl⟩
 simp [bodyPostS, results, Tryz.results130]
theorem unCatch_idle (w : World) :
  CallsD Tryz.prog 130 #[] .returning w fun e u' w' => e = .returned (.tuple #[]) ∧ u' = .returning ∧ w' = w := by
 refine callsD_of_wpS Tryz.func130 rfl fun c₀ cs hu => ?_
 apply wpS_region
 simp [wpOpsS, go_sem, recoverD, hu, Tryz.ntmps130]
 refine (passOn_nil w).mono ?_
 rintro e w' ⟨rfl, rfl⟩
 cases c₀
 simp_all [bodyPostS, results, Tryz.results130]
abbrev unVal (ok : Bool) (g : GG) (na : Option Addr) (nc : Nat) : Value :=
 .agg #[.bool ok, .int .i64 g.root.kind, .int .i64 g.root.num, .string g.root.text, .int .i64 g.root.node, .slice na g.nodes.length nc]
def UIPost (bs : List Nat) (w : World) (e : Ending) (w' : World) : Prop :=
 ∃ na nc nl, e = .returned (unVal (unB bs).1 (unB bs).2 na nc) ∧ nl.map (·.n) = (unB bs).2.nodes ∧ OwnG w' w.heap.size na nc nl ∧ Below w.heap.size w w'
theorem own_nil (w : World) (base : Nat) : OwnG w base none 0 [] :=
 ⟨World.ownsRow_nil _ _ _ _, fun x hx => (by cases hx), fun x hx => (by cases hx), fun i j _ hj => absurd hj (Nat.not_lt_zero _)⟩
theorem packB_bytes (g : GG) : ∀ x, x ∈ packB g → x < 256 := by
 unfold packB
 split
 · rename_i h; exact formB_bytes (canon_okG h.1)
 · intro x hx; cases hx
theorem rd_new (w : World) (sa : Option Addr) (bs : List Nat) (cap : Nat) (ha : BytesAt w sa bs) (hc : bs.length ≤ cap) (hl : bs.length ≤ 1099511627776) (hb : ∀ x, x ∈ bs → x < 256) : Rd (w.alloc (.cells #[.slice sa bs.length cap, .int .i64 0] 175)) w.heap.size sa cap bs bs :=
 ⟨⟨0, ⟨by simp, by simp, by simp, fun o => by simp⟩, Nat.zero_le _, rfl⟩, (ha.low).below (gal (gre _) _), hc, hl, hb⟩
theorem MB.bytes {w : World} {lo : Nat} {oa : Option Addr} {ys : List Nat} (h : MB w lo oa ys) : BytesAt w oa ys := by
 rcases h with rfl | ⟨G, n, rfl, _, hB⟩
 · exact fun i hi => absurd hi (Nat.not_lt_zero _)
 · exact brow_bytes hB
structure Six (w : World) (b : Nat) (ok : Bool) (v : GV) (s : Value) : Prop where
 lt : b < w.heap.size
 c0 : w.cell? ⟨b, 0, none⟩ = some (.bool ok)
 c1 : w.cell? ⟨b, 1, none⟩ = some (.int .i64 v.kind)
 c2 : w.cell? ⟨b, 2, none⟩ = some (.int .i64 v.num)
 c3 : w.cell? ⟨b, 3, none⟩ = some (.string v.text)
 c4 : w.cell? ⟨b, 4, none⟩ = some (.int .i64 v.node)
 c5 : w.cell? ⟨b, 5, none⟩ = some s
 f : ∀ o, w.frozen? ⟨b, o, none⟩ = false
theorem Six.same {w w' : World} {b : Nat} {ok : Bool} {v : GV} {s : Value} (h : Six w b ok v s) (e : w'.heap[b]? = w.heap[b]?) (hlt : b < w'.heap.size) : Six w' b ok v s :=
 ⟨hlt, (World.cell?_of_block (w := w) e).trans h.c0, (World.cell?_of_block (w := w) e).trans h.c1, (World.cell?_of_block (w := w) e).trans h.c2, (World.cell?_of_block (w := w) e).trans h.c3, (World.cell?_of_block (w := w) e).trans h.c4, (World.cell?_of_block (w := w) e).trans h.c5, fun o => (World.frozen?_of_block (w := w) e).trans (h.f o)⟩
theorem Six.kept {p : Nat → Prop} {w w' : World} {b : Nat} {ok : Bool} {v : GV} {s : Value} (h : Six w b ok v s) (k : Kept p w w') (hn : ¬ p b) : Six w' b ok v s := h.same (k.block b h.lt hn) (Nat.lt_of_lt_of_le h.lt k.size)
theorem Six.new (w : World) (ok : Bool) (v : GV) (s : Value) (t : TypeId) : Six (w.alloc (.cells #[.bool ok, .int .i64 v.kind, .int .i64 v.num, .string v.text, .int .i64 v.node, s] t)) w.heap.size ok v s :=
 ⟨by simp, by simp, by simp, by simp, by simp, by simp, by simp, fun o => by simp⟩
theorem GRPost.no {b : Nat} {sa : Option Addr} {cap : Nat} {bs r : List Nat} {w w' : World} {e : Ending} (h : GRPost b sa cap bs r w e w') (hn : rdGraph r = none) : e = .panicked [haltP] ∧ Kept (fun k => k = b) w w' := by
 obtain ⟨hK, ⟨g, q, na, nc, nl, hx, _⟩ | ⟨_, e1⟩⟩ := h
 · have := hx.out; rw [hn] at this; cases this
 · exact ⟨e1, hK⟩
theorem GRPost.ok {b : Nat} {sa : Option Addr} {cap : Nat} {bs r : List Nat} {w w' : World} {e : Ending} {g : GG} {q : List Nat} (h : GRPost b sa cap bs r w e w') (hn : rdGraph r = some (g, q)) : ∃ na nc nl, e = .returned (g.val na nc) ∧ nl.map (·.n) = g.nodes ∧ OwnG w' w.heap.size na nc nl ∧ Kept (fun k => k = b) w w' := by
 obtain ⟨hK, ⟨g', q', na, nc, nl, hx, e1, h1, h2, _⟩ | ⟨hx, _⟩⟩ := h
 ·
  have e2 := hx.out
  rw [hn] at e2
  have e3 : g = g' := by cases e2; rfl
  subst e3
  exact ⟨na, nc, nl, e1, h1, h2, hK⟩
 · have := hx.out; rw [hn] at this; cases this
theorem implUnpack_any (sa : Option Addr) (cap : Nat) (bs : List Nat) (w : World) (ha : BytesAt w sa bs) (hc : bs.length ≤ cap) (hl : bs.length ≤ 1099511627776) (hbyte : ∀ x, x ∈ bs → x < 256) :
  Calls Tryz.prog 92 #[.slice sa bs.length cap] w (UIPost bs w) := by
 have hS0 := Six.new w false ⟨0, 0, ⟨#[]⟩, 0⟩ (.slice none 0 0) 118
 have hR0 := rd_new (w.alloc (.cells #[.bool false, .int .i64 0, .int .i64 0, .string ⟨#[]⟩, .int .i64 0, .slice none 0 0] 118)) sa bs cap (ha.grow (gal (gre _) _)) hc hl hbyte
 simp only [World.size_alloc] at hR0
 cases hg : rdGraph bs with
 | none =>
  have hg' : Hid _ := hg
  have hun : unB bs = (false, zeroG) := by unfold unB; rw [hg]
  go_enter_defers Tryz.func92, Tryz.ntmps92
  go_wp2_with (go_at_call 131; refine (readGraph_any (w.heap.size + 1) sa cap bs bs _ hR0).mono ?_; intro e w1 h1; obtain ⟨rfl, hK1⟩ := h1.no hg'.out)
  obtain ⟨sz, s0, s1, s2, s3, s4, s5, sf⟩ := (hS0.kept ((Kept.refl (fun _ => False) _).alloc (.cells #[.slice sa bs.length cap, .int .i64 0] 175)) (fun e => e)).kept hK1 (by omega)
  refine leaves_cons (f := 130) (args := #[]) (by simp) (by simp [go_sem]) ?_
  refine (unCatch_panicking [] _).mono ?_
  rintro e u' w'' ⟨rfl, rfl, rfl⟩
  refine ⟨unVal false zeroG none 0, by simp [results, Tryz.results92, go_sem, s0, s1, s2, s3, s4, s5, zeroG], ?_⟩
  exact ⟨none, 0, [], by rw [hun], by rw [hun]; rfl, own_nil _ _, (gal (gal (gre w) _) _).trans (hK1.below (by simp; omega) (fun k hk e => by omega))⟩
 | some y =>
  obtain ⟨g, q⟩ := y
  have hg' : Hid _ := hg
  have hgok := rdGraph_ok hg
  obtain ⟨p, hp⟩ := hid_ex (packB g)
  have hpb : ∀ x, x ∈ p → x < 256 := by rw [hp.out]; exact packB_bytes g
  by_cases heq : p = bs
  ·
   have hun : unB bs = (true, g) := by unfold unB; rw [hg]; exact if_pos (by rw [← hp.out]; exact heq)
   have heq' : Hid (decide (p = bs) = true) := decide_eq_true heq
   clear heq
   go_enter_defers Tryz.func92, Tryz.ntmps92
   go_wp2_with (first
    | (go_at_call 131; refine (readGraph_any (w.heap.size + 1) sa cap bs bs _ hR0).mono ?_; intro e w1 h1; obtain ⟨na, nc, nl, rfl, hnl, hO1, hK1⟩ := h1.ok hg'.out; clear h1; simp only [World.size_alloc] at hO1; have hS1 := (hS0.kept ((Kept.refl (fun _ => False) _).alloc (.cells #[.slice sa bs.length cap, .int .i64 0] 175)) (fun e => e)).kept hK1 (by omega); have hB1 : Below w.heap.size w w1 := (gal (gal (gre w) _) _).trans (hK1.below (by simp; omega) (fun k hk e => by omega)); have hX1 := GBox.new w1 g na nc 32; have hN1 := hO1.at_; rw [hnl] at hN1)
    | (go_at_call 14; refine (implPack_any na nc g _ hgok (hN1.grow (gal (gre _) _))).mono ?_; rintro e w2 ⟨oa2, cap2, rfl, hM2, hb2⟩; rw [← hp.out] at hM2 ⊢; have hX2 := hX1.grow hb2; have hS2 := (hS1.kept ((Kept.refl (fun _ => False) _).alloc (.cells #[.int .i64 g.root.kind, .int .i64 g.root.num, .string g.root.text, .int .i64 g.root.node, .slice na g.nodes.length nc] 32)) (fun e => e)).kept (Kept.of_below hb2 (fun _ => False)) (fun e => e); have hB2 := gca (gal hB1 _) hb2; have hM2' := hM2.bytes)
    | (go_at_call 107; refine (bytesEqual_any oa2 sa p bs cap2 cap _ hpb hbyte hM2' (ha.grow hB2)).mono ?_; rintro e w3 ⟨rfl, hb3⟩; rw [heq'.out]; obtain ⟨xz, x0, x1, x2, x3, x4⟩ := hX2.grow hb3; have hS3 := hS2.kept (Kept.of_below hb3 (fun _ => False)) (fun e => e); obtain ⟨sz, s0, s1, s2, s3, s4, s5, sf⟩ := id hS3))
   have hC : Kept (fun k => k = w.heap.size) w3 ((((((w3.setCell ⟨w.heap.size, 0, none⟩ (.bool true)).setCell ⟨w.heap.size, 1, none⟩ (.int .i64 g.root.kind)).setCell ⟨w.heap.size, 2, none⟩ (.int .i64 g.root.num)).setCell ⟨w.heap.size, 3, none⟩ (.string g.root.text)).setCell ⟨w.heap.size, 4, none⟩ (.int .i64 g.root.node)).setCell ⟨w.heap.size, 5, none⟩ (.slice na g.nodes.length nc)) := ((((((Kept.refl (fun k => k = w.heap.size) w3).set (fun _ => rfl) _).set (fun _ => rfl) _).set (fun _ => rfl) _).set (fun _ => rfl) _).set (fun _ => rfl) _).set (fun _ => rfl) _
   have hB3 := gca hB2 hb3
   have hO3 := ((hO1.kept (Kept.of_below (gca (gal (gre w1) (.cells #[.int .i64 g.root.kind, .int .i64 g.root.num, .string g.root.text, .int .i64 g.root.node, .slice na g.nodes.length nc] 32)) (gca hb2 hb3)) (fun _ => False)) (fun _ _ e => e) (fun _ _ _ _ e => e)).kept hC (fun k hk hp => by have := hO1.nodes.lt k (by rw [hk]; rfl); omega) (fun x hx k hk hp => by have := (hO1.vals x hx).lt k (by rw [hk]; rfl); omega)).le (show w.heap.size ≤ w.heap.size + 1 + 1 by omega)
   refine leaves_cons (f := 130) (args := #[]) (by simp) (by simp [go_sem]) ?_
   refine (unCatch_idle _).mono ?_
   rintro e u' w'' ⟨rfl, rfl, rfl⟩
   refine ⟨unVal true g na nc, by simp [results, Tryz.results92, go_sem, s0, s1, s2, s3, s4, s5], ?_⟩
   exact ⟨na, nc, nl, by rw [hun], by rw [hun]; exact hnl, hO3, hB3.trans (hC.below hB3.size (fun k hk e => by omega))⟩
  ·
   have hun : unB bs = (false, zeroG) := by unfold unB; rw [hg]; exact if_neg (by rw [← hp.out]; exact heq)
   have heq' : Hid (decide (p = bs) = false) := decide_eq_false heq
   clear heq
   go_enter_defers Tryz.func92, Tryz.ntmps92
   go_wp2_with (first
    | (go_at_call 131; refine (readGraph_any (w.heap.size + 1) sa cap bs bs _ hR0).mono ?_; intro e w1 h1; obtain ⟨na, nc, nl, rfl, hnl, hO1, hK1⟩ := h1.ok hg'.out; clear h1; simp only [World.size_alloc] at hO1; have hS1 := (hS0.kept ((Kept.refl (fun _ => False) _).alloc (.cells #[.slice sa bs.length cap, .int .i64 0] 175)) (fun e => e)).kept hK1 (by omega); have hB1 : Below w.heap.size w w1 := (gal (gal (gre w) _) _).trans (hK1.below (by simp; omega) (fun k hk e => by omega)); have hX1 := GBox.new w1 g na nc 32; have hN1 := hO1.at_; rw [hnl] at hN1)
    | (go_at_call 14; refine (implPack_any na nc g _ hgok (hN1.grow (gal (gre _) _))).mono ?_; rintro e w2 ⟨oa2, cap2, rfl, hM2, hb2⟩; rw [← hp.out] at hM2 ⊢; have hX2 := hX1.grow hb2; have hS2 := (hS1.kept ((Kept.refl (fun _ => False) _).alloc (.cells #[.int .i64 g.root.kind, .int .i64 g.root.num, .string g.root.text, .int .i64 g.root.node, .slice na g.nodes.length nc] 32)) (fun e => e)).kept (Kept.of_below hb2 (fun _ => False)) (fun e => e); have hB2 := gca (gal hB1 _) hb2; have hM2' := hM2.bytes)
    | (go_at_call 107; refine (bytesEqual_any oa2 sa p bs cap2 cap _ hpb hbyte hM2' (ha.grow hB2)).mono ?_; rintro e w3 ⟨rfl, hb3⟩; rw [heq'.out]; obtain ⟨xz, x0, x1, x2, x3, x4⟩ := hX2.grow hb3; have hS3 := hS2.kept (Kept.of_below hb3 (fun _ => False)) (fun e => e); obtain ⟨sz, s0, s1, s2, s3, s4, s5, sf⟩ := id hS3))
   have hC : Kept (fun k => k = w.heap.size) w3 ((((((w3.setCell ⟨w.heap.size, 0, none⟩ (.bool false)).setCell ⟨w.heap.size, 1, none⟩ (.int .i64 0)).setCell ⟨w.heap.size, 2, none⟩ (.int .i64 0)).setCell ⟨w.heap.size, 3, none⟩ (.string ⟨#[]⟩)).setCell ⟨w.heap.size, 4, none⟩ (.int .i64 0)).setCell ⟨w.heap.size, 5, none⟩ (.slice none 0 0)) := ((((((Kept.refl (fun k => k = w.heap.size) w3).set (fun _ => rfl) _).set (fun _ => rfl) _).set (fun _ => rfl) _).set (fun _ => rfl) _).set (fun _ => rfl) _).set (fun _ => rfl) _
   have hB3 := gca hB2 hb3
   refine leaves_cons (f := 130) (args := #[]) (by simp) (by simp [go_sem]) ?_
   refine (unCatch_idle _).mono ?_
   rintro e u' w'' ⟨rfl, rfl, rfl⟩
   refine ⟨unVal false zeroG none 0, by simp [results, Tryz.results92, go_sem, s0, s1, s2, s3, s4, s5, zeroG], ?_⟩
   exact ⟨none, 0, [], by rw [hun], by rw [hun]; rfl, own_nil _ _, hB3.trans (hC.below hB3.size (fun k hk e => by omega))⟩
theorem sNum_any (b : Nat) (sa : Option Addr) (cap : Nat) (bs : List Nat) (at_ : Nat) (bad : Bool) (w : World) (hR : SR w b sa cap bs at_ bad) :
  Calls Tryz.prog 135 #[.pointer (some ⟨b, 0, none⟩)] w (SPost (sNum 10 0 0 (bs.drop at_)) (fun x => .int .u64 (x : Int)) (fun x => x < 18446744073709551616) b sa cap bs at_ bad w) := by
 go_enter Tryz.func135, Tryz.ntmps135
 go_wp2
 go_loopw [3, 4] (fun a c ws => ∃ (n i at1 : Nat) (bad1 : Bool), a = .int .u64 n ∧ c = .int .i64 i ∧ n < 18446744073709551616 ∧ i ≤ 10 ∧ Hid (SInv (sNum 10 0 0 (bs.drop at_)) (sNum (10 - i) n i (bs.drop at1)) bad bad1) ∧ SR ws b sa cap bs at1 bad1 ∧ (at1 ≤ bs.length ∨ at1 = at_) ∧ Kept (fun k => k = b) w ws) (fun _ c _ => 10 - (intOf c).toNat)
 case atStart => exact ⟨0, 0, at_, bad, rfl, rfl, by omega, by omega, ⟨fun h => h, fun _ _ => rfl, fun h h' => by rw [h] at h'; cases h'⟩, hR, Or.inr rfl, Kept.refl _ _⟩
 case round =>
  obtain ⟨n, i, at1, bad1, rfl, rfl, hn, hi, hinv, hR1, hat1, hK⟩ := hrel
  by_cases hlt : i < 10
  ·
   have hd : (i : Int) < 10 := by omega
   go_wp2_with (go_at_call 136; refine (sByte_any b sa cap bs at1 bad1 _ hR1).mono ?_; rintro e w1 ⟨hK1, x, at2, bad2, rfl, hx, hR2, hat2, hrel⟩)
   ·
    rename_i hl
    go_ret
    refine ⟨kk hK hK1, orU n (x % 128) (7 * i), at2, bad2, ret_int (by rw [and127 hx]; exact sOr_form hn (by omega) (by omega)), orU_lt hn, hR2, by omega, ?_⟩
    refine (hinv.out.comp (G' := some (orU n (x % 128) (7 * i), bs.drop at2)) hrel.out (fun h => ?_) (fun h => ?_)).rel rfl
    · rw [byte_cons h, show 10 - i = (9 - i) + 1 by omega, sNum, if_pos (by omega)]
    · rw [byte_nil h, show 10 - i = (9 - i) + 1 by omega, sNum]
   ·
    rename_i hl
    refine ⟨⟨orU n (x % 128) (7 * i), i + 1, at2, bad2, congrArg (Value.int .u64) (by rw [and127 hx]; exact sOr_form hn (by omega) (by omega)), by go_num, orU_lt hn, by omega, ?_, hR2, by omega, kk hK hK1⟩, by simp [intOf]; omega⟩
    refine hinv.out.comp hrel.out (fun h => ?_) (fun h => ?_)
    · rw [byte_cons h, show 10 - i = (10 - (i + 1)) + 1 by omega, sNum, if_neg (by omega)]
    · rw [byte_nil h, show 10 - i = (9 - i) + 1 by omega, sNum]
  ·
   obtain rfl : i = 10 := by omega
   obtain ⟨z1, z2, z3, z4, z5, _⟩ := id hR1
   go_wp2
   go_ret
   exact ⟨hK.set (fun _ => rfl) _, 0, at1, true, rfl, by omega, hR1.setBad, hat1, hinv.out.bad rfl⟩
theorem sSmall_any (b : Nat) (sa : Option Addr) (cap : Nat) (bs : List Nat) (at_ : Nat) (bad : Bool) (w : World) (hR : SR w b sa cap bs at_ bad) :
  Calls Tryz.prog 102 #[.pointer (some ⟨b, 0, none⟩)] w (SPost (sSmall (bs.drop at_)) (fun x => .int .i64 (x : Int)) (fun x => x ≤ 5000) b sa cap bs at_ bad w) := by
 go_enter Tryz.func102, Tryz.ntmps102
 go_wp2_with (go_at_call 135; refine (sNum_any b sa cap bs at_ bad _ hR).mono ?_; rintro e w1 ⟨hK1, x, at2, bad2, rfl, hx, hR2, hat2, hrel⟩; obtain ⟨z1, z2, z3, z4, z5, _⟩ := id hR2)
 ·
  rename_i hl
  go_ret
  refine ⟨hK1.set (fun _ => rfl) _, 0, at2, true, rfl, by omega, hR2.setBad, hat2, ?_⟩
  refine ((SInv.start (sSmall (bs.drop at_)) bad).comp (G' := none) hrel.out (fun h => ?_) (fun h => ?_)).bad rfl
  · unfold sSmall; rw [h]; exact if_neg (by omega)
  · unfold sSmall; rw [h]
 ·
  rename_i hl
  go_ret
  refine ⟨hK1, x, at2, bad2, by first | rfl | exact ret_int (by omega), by omega, hR2, hat2, ?_⟩
  refine ((SInv.start (sSmall (bs.drop at_)) bad).comp (G' := some (x, bs.drop at2)) hrel.out (fun h => ?_) (fun h => ?_)).rel rfl
  · unfold sSmall; rw [h]; exact if_pos (by omega)
  · unfold sSmall; rw [h]
def sVal : List Nat → Option (GV × List Nat)
 | [] => none
 | k :: r =>
  if k = 1 then (sNum 10 0 0 r).map fun x => (⟨1, zag x.1, ⟨#[]⟩, 0⟩, x.2)
  else if k = 2 then (sLow 8 0 0 r).map fun x => (⟨2, wrap64 (x.1 : Int), ⟨#[]⟩, 0⟩, x.2)
  else if k = 3 then (sSmall r).bind fun x => if x.1 ≤ x.2.length then some (⟨3, 0, strB (x.2.take x.1), 0⟩, x.2.drop x.1) else none
  else if k = 4 then (sSmall r).map fun x => (⟨4, 0, ⟨#[]⟩, (x.1 : Int)⟩, x.2)
  else some (⟨(k : Int), 0, ⟨#[]⟩, 0⟩, r)
theorem kcases (k : Nat) : k = 1 ∨ k = 2 ∨ k = 3 ∨ k = 4 ∨ (((k : Int) == 1) = false ∧ ((k : Int) == 2) = false ∧ ((k : Int) == 3) = false ∧ ((k : Int) == 4) = false) := by
 by_cases h1 : k = 1
 · exact Or.inl h1
 by_cases h2 : k = 2
 · exact Or.inr (Or.inl h2)
 by_cases h3 : k = 3
 · exact Or.inr (Or.inr (Or.inl h3))
 by_cases h4 : k = 4
 · exact Or.inr (Or.inr (Or.inr (Or.inl h4)))
 · exact Or.inr (Or.inr (Or.inr (Or.inr ⟨by simp; omega, by simp; omega, by simp; omega, by simp; omega⟩)))
theorem sfin4 {w wX : World} {b : Nat} {sa : Option Addr} {cap : Nat} {bs : List Nat} {at_ : Nat} {bad : Bool} (hb : b < w.heap.size) (hK : Kept (fun k => k = b) w wX) (hR : SR wX b sa cap bs at_ bad) (u0 u1 u2 u3 : Value) :
  Kept (fun k => k = b) w ((((wX.setCell ⟨w.heap.size, 0, none⟩ u0).setCell ⟨w.heap.size, 1, none⟩ u1).setCell ⟨w.heap.size, 2, none⟩ u2).setCell ⟨w.heap.size, 3, none⟩ u3) ∧ SR ((((wX.setCell ⟨w.heap.size, 0, none⟩ u0).setCell ⟨w.heap.size, 1, none⟩ u1).setCell ⟨w.heap.size, 2, none⟩ u2).setCell ⟨w.heap.size, 3, none⟩ u3) b sa cap bs at_ bad :=
 ⟨(((hK.set (fun h => absurd h (Nat.lt_irrefl _)) _).set (fun h => absurd h (Nat.lt_irrefl _)) _).set (fun h => absurd h (Nat.lt_irrefl _)) _).set (fun h => absurd h (Nat.lt_irrefl _)) _,
  hR.kept (((((Kept.refl (fun k => k = w.heap.size) wX).set (fun _ => rfl) _).set (fun _ => rfl) _).set (fun _ => rfl) _).set (fun _ => rfl) _) (fun k hk e => by omega)⟩
theorem kset {w wX : World} {b : Nat} {sa : Option Addr} {cap : Nat} {bs : List Nat} {at_ : Nat} {bad : Bool} (hb : b < w.heap.size) {X : Nat} (hX : w.heap.size ≤ X) (o : Nat) (u : Value) (h : Kept (fun k => k = b) w wX ∧ SR wX b sa cap bs at_ bad) : Kept (fun k => k = b) w (wX.setCell ⟨X, o, none⟩ u) ∧ SR (wX.setCell ⟨X, o, none⟩ u) b sa cap bs at_ bad :=
 ⟨h.1.set (fun h => absurd h (by show ¬ X < _; omega)) _, h.2.kept ((Kept.refl (fun k => k = X) wX).set (fun _ => rfl) _) (fun k hk e => by omega)⟩
theorem i64_wrap2 (n : Int) : I64 (wrap64 n) := by rw [wrap64_eq]; exact wrap_i64_ok n
theorem kind_ok {k : Nat} (h : k < 256) : (GV.mk (k : Int) 0 ⟨#[]⟩ 0).Ok := ⟨small_i64 (by show 0 ≤ (k : Int) ∧ (k : Int) ≤ 1000000; omega), small_i64 (by show (0 : Int) ≤ 0 ∧ (0 : Int) ≤ 1000000; omega), Nat.zero_le _, small_i64 (by show (0 : Int) ≤ 0 ∧ (0 : Int) ≤ 1000000; omega)⟩
theorem text_ok {t : ByteArray} (h : t.size ≤ 5000) : (GV.mk 3 0 t 0).Ok := ⟨small_i64 (by show (0 : Int) ≤ 3 ∧ (3 : Int) ≤ 1000000; omega), small_i64 (by show (0 : Int) ≤ 0 ∧ (0 : Int) ≤ 1000000; omega), by show t.size ≤ maxLen; unfold maxLen; omega, small_i64 (by show (0 : Int) ≤ 0 ∧ (0 : Int) ≤ 1000000; omega)⟩
theorem ssmall_nil : sSmall [] = none := rfl
theorem sval1 {r : List Nat} {r1 : List Nat} {k : Nat} (h : rdByte r = some (k, r1)) : sVal r = sVal (k :: r1) := by rw [byte_cons h]
theorem sval0 {r : List Nat} (h : rdByte r = none) : sVal r = none := by rw [byte_nil h]; rfl
theorem sVal_any (b : Nat) (sa : Option Addr) (cap : Nat) (bs : List Nat) (at_ : Nat) (bad : Bool) (w : World) (hR : SR w b sa cap bs at_ bad) :
  Calls Tryz.prog 103 #[.pointer (some ⟨b, 0, none⟩)] w (SPost (sVal (bs.drop at_)) GV.val (fun v => v.Ok) b sa cap bs at_ bad w) := by
 have hlt := hR.lt
 have hF0 := Four.new w ⟨0, 0, ⟨#[]⟩, 0⟩ 29
 go_enter Tryz.func103, Tryz.ntmps103
 go_wp2_with (first
  | (go_at_call 136; refine (sByte_any b sa cap bs at_ bad _ (hR.grow (gal (gre _) _))).mono ?_; rintro e w1 ⟨hK1, k, at1, bad1, rfl, hk, hR1, hat1, hrel⟩; have hF1 := hF0.kept hK1 (by omega); obtain ⟨az, a0, a1, a2, a3, af⟩ := id hF1; have hs1 := hK1.size; simp only [World.size_alloc] at hs1; have hG := Four.new w1 ⟨(k : Int), 0, ⟨#[]⟩, 0⟩ 29; have hF1a := hF1.alloc (.cells #[.int .i64 (k : Int), .int .i64 0, .string ⟨#[]⟩, .int .i64 0] 29); rcases kcases k with rfl | rfl | rfl | rfl | ⟨n1, n2, n3, n4⟩)
  | (go_at_call 135; refine (sNum_any b sa cap bs at1 bad1 _ (hR1.grow (gal (gre _) _))).mono ?_; rintro e w2 ⟨hK2, n, at2, bad2, rfl, hn, hR2, hat2, hrel2⟩; have hG2 := hG.kept hK2 (by omega); have hF2 := hF1a.kept hK2 (by omega); obtain ⟨gz, g0, g1, g2, g3, gf⟩ := id hG2; obtain ⟨bz, b0, b1, b2, b3, bf⟩ := id hF2; have hs2 := hK2.size; simp only [World.size_alloc] at hs2)
  | (go_at_call 137; refine (sEight_any b sa cap bs at1 bad1 _ (hR1.grow (gal (gre _) _))).mono ?_; rintro e w2 ⟨hK2, n, at2, bad2, rfl, hn, hR2, hat2, hrel2⟩; have hG2 := hG.kept hK2 (by omega); have hF2 := hF1a.kept hK2 (by omega); obtain ⟨gz, g0, g1, g2, g3, gf⟩ := id hG2; obtain ⟨bz, b0, b1, b2, b3, bf⟩ := id hF2; have hs2 := hK2.size; simp only [World.size_alloc] at hs2)
  | (go_at_call 102; refine (sSmall_any b sa cap bs at1 bad1 _ (hR1.grow (gal (gre _) _))).mono ?_; rintro e w2 ⟨hK2, n, at2, bad2, rfl, hn, hR2, hat2, hrel2⟩; obtain ⟨z1, z2, z3, z4, z5, z6, z7, z8, z9, z10⟩ := id hR2; have hG2 := hG.kept hK2 (by omega); have hF2 := hF1a.kept hK2 (by omega); obtain ⟨gz, g0, g1, g2, g3, gf⟩ := id hG2; obtain ⟨bz, b0, b1, b2, b3, bf⟩ := id hF2; have hs2 := hK2.size; simp only [World.size_alloc] at hs2)
  | go_quiet (fail))
 ·
  rename_i hodd
  have hodd' : n % 2 = 1 := by first | omega | (simp at hodd; omega)
  have ez : -((n : Int) / 2) - 1 = zag n := by unfold zag; rw [if_pos hodd']; omega
  obtain ⟨hKX, hRX⟩ := kset hlt (show w.heap.size ≤ w1.heap.size by omega) 1 (.int .i64 (-((n : Int) / 2) - 1)) (kset hlt (show w.heap.size ≤ w1.heap.size by omega) 1 (.int .i64 ((n : Int) / 2)) ⟨kk ((kk ((Kept.refl _ w).alloc _) hK1).alloc _) hK2, hR2⟩)
  obtain ⟨hKF, hRF⟩ := sfin4 hlt hKX hRX (.int .i64 1) (.int .i64 (-((n : Int) / 2) - 1)) (.string ⟨#[]⟩) (.int .i64 0)
  have hrl : Hid (SRel (sVal (bs.drop at_)) bad (⟨1, zag n, ⟨#[]⟩, 0⟩ : GV) (bs.drop at2) bad2) := (((SInv.start (sVal (bs.drop at_)) bad).comp (G' := (sNum 10 0 0 (bs.drop at1)).map fun x => (⟨1, zag x.1, ⟨#[]⟩, 0⟩, x.2)) hrel.out (fun h => by rw [sval1 h]; rfl) (fun h => sval0 h)).comp (G' := some (⟨1, zag n, ⟨#[]⟩, 0⟩, bs.drop at2)) hrel2.out (fun h => by rw [h]; rfl) (fun h => by rw [h]; rfl)).rel rfl
  refine bodyPost_ret (v := (GV.mk 1 (-((n : Int) / 2) - 1) ⟨#[]⟩ 0).val) (by simp [results, Tryz.results103, go_sem, b0, b1, b2, b3]) rfl ?_
  exact ⟨hKF, ⟨1, zag n, ⟨#[]⟩, 0⟩, at2, bad2, by rw [← ez], zero_ok (n := 1) (by omega) _ (zag_i64 hn) _ (Nat.zero_le _) 0 (small_i64 (by omega)), hRF, by omega, hrl⟩
 ·
  rename_i hodd
  have hodd' : ¬ n % 2 = 1 := by first | omega | (simp at hodd; omega)
  have ez : (n : Int) / 2 = zag n := by unfold zag; rw [if_neg hodd']; omega
  obtain ⟨hKX, hRX⟩ := kset hlt (show w.heap.size ≤ w1.heap.size by omega) 1 (.int .i64 ((n : Int) / 2)) ⟨kk ((kk ((Kept.refl _ w).alloc _) hK1).alloc _) hK2, hR2⟩
  obtain ⟨hKF, hRF⟩ := sfin4 hlt hKX hRX (.int .i64 1) (.int .i64 ((n : Int) / 2)) (.string ⟨#[]⟩) (.int .i64 0)
  have hrl : Hid (SRel (sVal (bs.drop at_)) bad (⟨1, zag n, ⟨#[]⟩, 0⟩ : GV) (bs.drop at2) bad2) := (((SInv.start (sVal (bs.drop at_)) bad).comp (G' := (sNum 10 0 0 (bs.drop at1)).map fun x => (⟨1, zag x.1, ⟨#[]⟩, 0⟩, x.2)) hrel.out (fun h => by rw [sval1 h]; rfl) (fun h => sval0 h)).comp (G' := some (⟨1, zag n, ⟨#[]⟩, 0⟩, bs.drop at2)) hrel2.out (fun h => by rw [h]; rfl) (fun h => by rw [h]; rfl)).rel rfl
  refine bodyPost_ret (v := (GV.mk 1 ((n : Int) / 2) ⟨#[]⟩ 0).val) (by simp [results, Tryz.results103, go_sem, b0, b1, b2, b3]) rfl ?_
  exact ⟨hKF, ⟨1, zag n, ⟨#[]⟩, 0⟩, at2, bad2, by rw [← ez], zero_ok (n := 1) (by omega) _ (zag_i64 hn) _ (Nat.zero_le _) 0 (small_i64 (by omega)), hRF, by omega, hrl⟩
 ·
  obtain ⟨hKX, hRX⟩ := kset hlt (show w.heap.size ≤ w1.heap.size by omega) 1 (.int .i64 (wrap64 (n : Int))) ⟨kk ((kk ((Kept.refl _ w).alloc _) hK1).alloc _) hK2, hR2⟩
  obtain ⟨hKF, hRF⟩ := sfin4 hlt hKX hRX (.int .i64 2) (.int .i64 (wrap64 (n : Int))) (.string ⟨#[]⟩) (.int .i64 0)
  have hrl : Hid (SRel (sVal (bs.drop at_)) bad (⟨2, wrap64 (n : Int), ⟨#[]⟩, 0⟩ : GV) (bs.drop at2) bad2) := (((SInv.start (sVal (bs.drop at_)) bad).comp (G' := (sLow 8 0 0 (bs.drop at1)).map fun x => (⟨2, wrap64 (x.1 : Int), ⟨#[]⟩, 0⟩, x.2)) hrel.out (fun h => by rw [sval1 h]; rfl) (fun h => sval0 h)).comp (G' := some (⟨2, wrap64 (n : Int), ⟨#[]⟩, 0⟩, bs.drop at2)) hrel2.out (fun h => by rw [h]; rfl) (fun h => by rw [h]; rfl)).rel rfl
  refine bodyPost_ret (v := (GV.mk 2 (wrap64 (n : Int)) ⟨#[]⟩ 0).val) (by simp [results, Tryz.results103, go_sem, b0, b1, b2, b3]) rfl ?_
  exact ⟨hKF, ⟨2, wrap64 (n : Int), ⟨#[]⟩, 0⟩, at2, bad2, rfl, zero_ok (n := 2) (by omega) _ (i64_wrap2 _) _ (Nat.zero_le _) 0 (small_i64 (by omega)), hRF, by omega, hrl⟩
 ·
  rename_i htn
  obtain ⟨hKF, hRF⟩ := sfin4 hlt (((kk ((kk ((Kept.refl _ w).alloc _) hK1).alloc _) hK2).drewN nq).set (a := ⟨b, 2, none⟩) (fun _ => rfl) (.bool true)) (hR2.drewN nq).setBad (.int .i64 3) (.int .i64 0) (.string ⟨#[]⟩) (.int .i64 0)
  have hrl : Hid (SRel (sVal (bs.drop at_)) bad (⟨3, 0, ⟨#[]⟩, 0⟩ : GV) (bs.drop at2) true) := (((SInv.start (sVal (bs.drop at_)) bad).comp (G' := (sSmall (bs.drop at1)).bind fun x => if x.1 ≤ x.2.length then some (⟨3, 0, strB (x.2.take x.1), 0⟩, x.2.drop x.1) else none) hrel.out (fun h => by rw [sval1 h]; rfl) (fun h => sval0 h)).comp (G' := none) hrel2.out (fun h => by
   rw [h, Option.bind_some]
   refine if_neg ?_
   rw [List.length_drop]
   rcases hat2 with h2 | h2
   · omega
   ·
    intro hc
    by_cases h3 : at1 ≤ bs.length
    · omega
    ·
     rw [drop_zero_of (show bs.length ≤ at1 by omega), ssmall_nil] at h
     cases h) (fun h => by rw [h]; rfl)).bad rfl
  refine bodyPost_ret (v := (GV.mk 3 0 ⟨#[]⟩ 0).val) (by simp [results, Tryz.results103, go_sem, b0, b1, b2, b3]) rfl ?_
  exact ⟨hKF, ⟨3, 0, ⟨#[]⟩, 0⟩, at2, true, rfl, zero_ok (n := 3) (by omega) 0 (small_i64 (by omega)) _ (Nat.zero_le _) 0 (small_i64 (by omega)), hRF, by omega, hrl⟩
 ·
  have htn : at2 + n ≤ bs.length := by
   rename_i h1 _ _
   omega
  by_cases hca : cap = at2
  ·
   obtain rfl : n = 0 := by omega
   have hbt := take_bytes (p := sa) (n := 0) hR2.low htn (fun h => absurd h (by omega))
   have hcv := conv_text (w := (w2.drewN nq).drew) (n := 0) (c := 0) hbt (by rw [List.length_take, List.length_drop]; omega)
   have hw0 : IntKind.i64.wrap (at2 : Int) = (at2 : Int) := by rw [IntKind.wrap_i64]; omega
   have hw1 : (0 : Int) ≤ (at2 : Int) := by omega
   have hw2 : (at2 : Int) ≤ (cap : Int) := by omega
   refine wp_regionU (fun u => u.cell? ⟨b, 0, none⟩ = some (.slice sa bs.length cap) ∧ u.cell? ⟨b, 1, none⟩ = some (.int .i64 (at2 : Int)) ∧ (convert 22 9 (.slice sa 0 0)).run Tryz.prog u = .ok (.string (strB ((bs.drop at2).take 0))) u ∧ (u.cell? ⟨w1.heap.size, 2, none⟩ = some (.string ⟨#[]⟩) ∧ u.frozen? ⟨w1.heap.size, 2, none⟩ = false)) 17 (by kernel_rfl) ⟨z2, z3, hcv, g2, gf 2⟩ (fun hS0 => ?_)
   refine anyU_tk (i := 0) rfl hS0 (fun u hSu => by obtain ⟨q0, q1, q2, q3⟩ := hSu; go_simp <;> with_reducible rfl) ?_
   refine anyU_tk (i := 1) rfl hS0 (fun u hSu => by obtain ⟨q0, q1, q2, q3⟩ := hSu; go_simp <;> with_reducible rfl) ?_
   refine anyU_tk (i := 2) rfl hS0 (fun u hSu => by obtain ⟨q0, q1, q2, q3⟩ := hSu; go_simp <;> with_reducible rfl) ?_
   refine anyU_tk (i := 3) rfl hS0 (fun u hSu => by obtain ⟨q0, q1, q2, q3⟩ := hSu; go_simp <;> with_reducible rfl) ?_
   refine anyU_tk (i := 4) rfl hS0 (fun u hSu => by obtain ⟨q0, q1, q2, q3⟩ := hSu; go_simp <;> with_reducible rfl) ?_
   refine anyU_tk (i := 5) rfl hS0 (fun u hSu => by obtain ⟨q0, q1, q2, q3⟩ := hSu; go_simp <;> with_reducible rfl) ?_
   refine anyU_tk (i := 6) rfl hS0 (fun u hSu => by obtain ⟨q0, q1, q2, q3⟩ := hSu; go_simp <;> with_reducible rfl) ?_
   refine anyU_tk (i := 7) rfl hS0 (fun u hSu => by obtain ⟨q0, q1, q2, q3⟩ := hSu; go_simp <;> with_reducible rfl) ?_
   refine anyU_tk (i := 8) rfl hS0 (fun u hSu => by obtain ⟨q0, q1, q2, q3⟩ := hSu; go_simp <;> with_reducible rfl) ?_
   refine anyU_tk (i := 9) rfl hS0 (fun u hSu => by obtain ⟨q0, q1, q2, q3⟩ := hSu; go_simp <;> with_reducible rfl) ?_
   refine anyU_tk (i := 10) rfl hS0 (fun u hSu => by obtain ⟨q0, q1, q2, q3⟩ := hSu; go_simp <;> with_reducible rfl) ?_
   refine anyU_tk (i := 11) rfl hS0 (fun u hSu => by obtain ⟨q0, q1, q2, q3⟩ := hSu; go_simp <;> with_reducible rfl) ?_
   refine anyU_tk (i := 12) rfl hS0 (fun u hSu => by obtain ⟨q0, q1, q2, q3⟩ := hSu; go_simp <;> with_reducible rfl) ?_
   refine anyU_tk (i := 13) rfl hS0 (fun u hSu => by obtain ⟨q0, q1, q2, q3⟩ := hSu; go_simp <;> with_reducible rfl) ?_
   refine anyU_tk (i := 14) rfl hS0 (fun u hSu => by obtain ⟨q0, q1, q2, q3⟩ := hSu; go_simp <;> with_reducible rfl) ?_
   refine anyU_tk (i := 15) rfl hS0 (fun u hSu => by obtain ⟨q0, q1, q2, q3⟩ := hSu; go_simp <;> with_reducible rfl) ?_
   refine anyU_tk (i := 16) rfl hS0 (fun u hSu => by obtain ⟨q0, q1, q2, q3⟩ := hSu; go_simp <;> with_reducible rfl) ?_
   simp only [Act.put, List.getElem_toArray, List.getElem_cons_zero, List.getElem_cons_succ, List.setIfInBounds_toArray, List.set_cons_zero, List.set_cons_succ]
   refine anyU_last (by kernel_rfl) rfl (by kernel_rfl) (fun K hK => ?_)
   obtain ⟨q0, q1, q2, q3, q4⟩ := hS0
   go_simp
   refine hK.out _ _ ?_
   clear hK
   go_wp2
   obtain ⟨hKX, hRX⟩ := kset hlt (show w.heap.size ≤ w1.heap.size by omega) 2 (.string (strB [])) ⟨(kk ((kk ((Kept.refl _ w).alloc _) hK1).alloc _) hK2).drewN (nq + 1), hR2.drewN (nq + 1)⟩
   obtain ⟨hKF, hRF⟩ := sfin4 hlt (hKX.set (a := ⟨b, 1, none⟩) (fun _ => rfl) (.int .i64 (at2 : Int))) (hRX.setAt (z := (at2 : Int)) (n := at2 + 0) (by omega) (by omega)) (.int .i64 3) (.int .i64 0) (.string (strB [])) (.int .i64 0)
   have hrl : Hid (SRel (sVal (bs.drop at_)) bad (⟨3, 0, (strB []), 0⟩ : GV) (bs.drop (at2 + 0)) bad2) := (((SInv.start (sVal (bs.drop at_)) bad).comp (G' := (sSmall (bs.drop at1)).bind fun x => if x.1 ≤ x.2.length then some (⟨3, 0, strB (x.2.take x.1), 0⟩, x.2.drop x.1) else none) hrel.out (fun h => by rw [sval1 h]; rfl) (fun h => sval0 h)).comp (G' := some (⟨3, 0, (strB []), 0⟩, bs.drop (at2 + 0))) hrel2.out (fun h => by
    rw [h, Option.bind_some]
    refine (if_pos ?_).trans ?_
    · rw [List.length_drop]; omega
    · (try rw [List.drop_drop]); (try rfl)) (fun h => by rw [h]; rfl)).rel rfl
   refine bodyPost_ret (v := (GV.mk 3 0 (strB []) 0).val) (by simp [results, Tryz.results103, go_sem, b0, b1, b2, b3]) rfl ?_
   exact ⟨hKF, ⟨3, 0, (strB []), 0⟩, at2 + 0, bad2, rfl, zero_ok (n := 3) (by omega) 0 (small_i64 (by omega)) _ (by rw [strB_sizeR]; exact Nat.zero_le _) 0 (small_i64 (by omega)), hRF, by omega, hrl⟩
  ·
   have hbt := take_bytes (p := Option.map (fun x => x.add at2) sa) (n := n) hR2.low htn (fun _ g off e => by rw [e]; simp [Addr.add])
   have hcv := conv_text (w := (w2.drewN nq).drew) (n := n) (c := cap - at2) hbt (by rw [List.length_take, List.length_drop]; omega)
   have hw0 : IntKind.i64.wrap ((at2 : Int) + (n : Int)) = (at2 : Int) + (n : Int) := by rw [IntKind.wrap_i64]; omega
   have hw1 : (0 : Int) ≤ (at2 : Int) + (n : Int) := by omega
   have hw2 : (at2 : Int) + (n : Int) ≤ (cap : Int) := by omega
   have hw3 : ((at2 : Int) + (n : Int)).toNat = at2 + n := by omega
   have hw4 : at2 ≤ at2 + n := by omega
   refine wp_regionU (fun u => u.cell? ⟨b, 0, none⟩ = some (.slice sa bs.length cap) ∧ u.cell? ⟨b, 1, none⟩ = some (.int .i64 (at2 : Int)) ∧ (convert 22 9 (.slice (Option.map (fun x => x.add at2) sa) n (cap - at2))).run Tryz.prog u = .ok (.string (strB ((bs.drop at2).take n))) u ∧ (u.cell? ⟨w1.heap.size, 2, none⟩ = some (.string ⟨#[]⟩) ∧ u.frozen? ⟨w1.heap.size, 2, none⟩ = false)) 17 (by kernel_rfl) ⟨z2, z3, hcv, g2, gf 2⟩ (fun hS0 => ?_)
   refine anyU_tk (i := 0) rfl hS0 (fun u hSu => by obtain ⟨q0, q1, q2, q3⟩ := hSu; go_simp <;> with_reducible rfl) ?_
   refine anyU_tk (i := 1) rfl hS0 (fun u hSu => by obtain ⟨q0, q1, q2, q3⟩ := hSu; go_simp <;> with_reducible rfl) ?_
   refine anyU_tk (i := 2) rfl hS0 (fun u hSu => by obtain ⟨q0, q1, q2, q3⟩ := hSu; go_simp <;> with_reducible rfl) ?_
   refine anyU_tk (i := 3) rfl hS0 (fun u hSu => by obtain ⟨q0, q1, q2, q3⟩ := hSu; go_simp <;> with_reducible rfl) ?_
   refine anyU_tk (i := 4) rfl hS0 (fun u hSu => by obtain ⟨q0, q1, q2, q3⟩ := hSu; go_simp <;> with_reducible rfl) ?_
   refine anyU_tk (i := 5) rfl hS0 (fun u hSu => by obtain ⟨q0, q1, q2, q3⟩ := hSu; go_simp <;> with_reducible rfl) ?_
   refine anyU_tk (i := 6) rfl hS0 (fun u hSu => by obtain ⟨q0, q1, q2, q3⟩ := hSu; go_simp <;> with_reducible rfl) ?_
   refine anyU_tk (i := 7) rfl hS0 (fun u hSu => by obtain ⟨q0, q1, q2, q3⟩ := hSu; go_simp <;> with_reducible rfl) ?_
   refine anyU_tk (i := 8) rfl hS0 (fun u hSu => by obtain ⟨q0, q1, q2, q3⟩ := hSu; go_simp <;> with_reducible rfl) ?_
   refine anyU_tk (i := 9) rfl hS0 (fun u hSu => by obtain ⟨q0, q1, q2, q3⟩ := hSu; go_simp <;> with_reducible rfl) ?_
   refine anyU_tk (i := 10) rfl hS0 (fun u hSu => by obtain ⟨q0, q1, q2, q3⟩ := hSu; go_simp <;> with_reducible rfl) ?_
   refine anyU_tk (i := 11) rfl hS0 (fun u hSu => by obtain ⟨q0, q1, q2, q3⟩ := hSu; go_simp <;> with_reducible rfl) ?_
   refine anyU_tk (i := 12) rfl hS0 (fun u hSu => by obtain ⟨q0, q1, q2, q3⟩ := hSu; go_simp <;> with_reducible rfl) ?_
   refine anyU_tk (i := 13) rfl hS0 (fun u hSu => by obtain ⟨q0, q1, q2, q3⟩ := hSu; go_simp <;> with_reducible rfl) ?_
   refine anyU_tk (i := 14) rfl hS0 (fun u hSu => by obtain ⟨q0, q1, q2, q3⟩ := hSu; go_simp <;> with_reducible rfl) ?_
   refine anyU_tk (i := 15) rfl hS0 (fun u hSu => by obtain ⟨q0, q1, q2, q3⟩ := hSu; go_simp <;> with_reducible rfl) ?_
   refine anyU_tk (i := 16) rfl hS0 (fun u hSu => by obtain ⟨q0, q1, q2, q3⟩ := hSu; go_simp <;> with_reducible rfl) ?_
   simp only [Act.put, List.getElem_toArray, List.getElem_cons_zero, List.getElem_cons_succ, List.setIfInBounds_toArray, List.set_cons_zero, List.set_cons_succ]
   refine anyU_last (by kernel_rfl) rfl (by kernel_rfl) (fun K hK => ?_)
   obtain ⟨q0, q1, q2, q3, q4⟩ := hS0
   go_simp
   refine hK.out _ _ ?_
   clear hK
   go_wp2
   obtain ⟨hKX, hRX⟩ := kset hlt (show w.heap.size ≤ w1.heap.size by omega) 2 (.string (strB ((bs.drop at2).take n))) ⟨(kk ((kk ((Kept.refl _ w).alloc _) hK1).alloc _) hK2).drewN (nq + 1), hR2.drewN (nq + 1)⟩
   obtain ⟨hKF, hRF⟩ := sfin4 hlt (hKX.set (a := ⟨b, 1, none⟩) (fun _ => rfl) (.int .i64 ((at2 : Int) + (n : Int)))) (hRX.setAt (z := ((at2 : Int) + (n : Int))) (n := at2 + n) (by omega) (by omega)) (.int .i64 3) (.int .i64 0) (.string (strB ((bs.drop at2).take n))) (.int .i64 0)
   have hrl : Hid (SRel (sVal (bs.drop at_)) bad (⟨3, 0, (strB ((bs.drop at2).take n)), 0⟩ : GV) (bs.drop (at2 + n)) bad2) := (((SInv.start (sVal (bs.drop at_)) bad).comp (G' := (sSmall (bs.drop at1)).bind fun x => if x.1 ≤ x.2.length then some (⟨3, 0, strB (x.2.take x.1), 0⟩, x.2.drop x.1) else none) hrel.out (fun h => by rw [sval1 h]; rfl) (fun h => sval0 h)).comp (G' := some (⟨3, 0, (strB ((bs.drop at2).take n)), 0⟩, bs.drop (at2 + n))) hrel2.out (fun h => by
    rw [h, Option.bind_some]
    refine (if_pos ?_).trans ?_
    · rw [List.length_drop]; omega
    · (try rw [List.drop_drop]); (try rfl)) (fun h => by rw [h]; rfl)).rel rfl
   refine bodyPost_ret (v := (GV.mk 3 0 (strB ((bs.drop at2).take n)) 0).val) (by simp [results, Tryz.results103, go_sem, b0, b1, b2, b3]) rfl ?_
   exact ⟨hKF, ⟨3, 0, (strB ((bs.drop at2).take n)), 0⟩, at2 + n, bad2, rfl, text_ok (by rw [strB_sizeR, List.length_take]; omega), hRF, by omega, hrl⟩
 ·
  obtain ⟨hKX, hRX⟩ := kset hlt (show w.heap.size ≤ w1.heap.size by omega) 3 (.int .i64 (n : Int)) ⟨kk ((kk ((Kept.refl _ w).alloc _) hK1).alloc _) hK2, hR2⟩
  obtain ⟨hKF, hRF⟩ := sfin4 hlt hKX hRX (.int .i64 4) (.int .i64 0) (.string ⟨#[]⟩) (.int .i64 (n : Int))
  have hrl : Hid (SRel (sVal (bs.drop at_)) bad (⟨4, 0, ⟨#[]⟩, (n : Int)⟩ : GV) (bs.drop at2) bad2) := (((SInv.start (sVal (bs.drop at_)) bad).comp (G' := (sSmall (bs.drop at1)).map fun x => (⟨4, 0, ⟨#[]⟩, (x.1 : Int)⟩, x.2)) hrel.out (fun h => by rw [sval1 h]; rfl) (fun h => sval0 h)).comp (G' := some (⟨4, 0, ⟨#[]⟩, (n : Int)⟩, bs.drop at2)) hrel2.out (fun h => by rw [h]; rfl) (fun h => by rw [h]; rfl)).rel rfl
  refine bodyPost_ret (v := (GV.mk 4 0 ⟨#[]⟩ (n : Int)).val) (by simp [results, Tryz.results103, go_sem, b0, b1, b2, b3]) rfl ?_
  exact ⟨hKF, ⟨4, 0, ⟨#[]⟩, (n : Int)⟩, at2, bad2, rfl, zero_ok (n := 4) (by omega) 0 (small_i64 (by omega)) _ (Nat.zero_le _) _ (small_i64 (by omega)), hRF, by omega, hrl⟩
 ·
  have hk1 : k ≠ 1 ∧ k ≠ 2 ∧ k ≠ 3 ∧ k ≠ 4 := by
   refine ⟨?_, ?_, ?_, ?_⟩ <;> (intro e; subst e; simp at n1 n2 n3 n4)
  obtain ⟨_, f0, f1, f2, f3, _⟩ := (hF1.set4 ⟨(k : Int), 0, ⟨#[]⟩, 0⟩).alloc (.cells #[.int .i64 (k : Int), .int .i64 0, .string ⟨#[]⟩, .int .i64 0] 29)
  obtain ⟨hKF, hRF⟩ := sfin4 hlt (kk ((Kept.refl _ w).alloc _) hK1) hR1 (.int .i64 (k : Int)) (.int .i64 0) (.string ⟨#[]⟩) (.int .i64 0)
  have hrl : Hid (SRel (sVal (bs.drop at_)) bad (⟨(k : Int), 0, ⟨#[]⟩, 0⟩ : GV) (bs.drop at1) bad1) := ((SInv.start (sVal (bs.drop at_)) bad).comp (G' := some (⟨(k : Int), 0, ⟨#[]⟩, 0⟩, bs.drop at1)) hrel.out (fun h => by rw [sval1 h, sVal, if_neg hk1.1, if_neg hk1.2.1, if_neg hk1.2.2.1, if_neg hk1.2.2.2]) (fun h => sval0 h)).rel rfl
  refine bodyPost_ret (v := (GV.mk (k : Int) 0 ⟨#[]⟩ 0).val) (by simp [results, Tryz.results103, go_sem, f0, f1, f2, f3]) rfl ?_
  exact ⟨hKF.alloc _, ⟨(k : Int), 0, ⟨#[]⟩, 0⟩, at1, bad1, rfl, kind_ok hk, hRF.grow (gal (gre _) _), hat1, hrl⟩
end Go.Proofs.YtmdpmdmilgbfiaaGreatDoor
