import Derived.Test.YthjddpkegooobabPartUnG

/-
  FORMOFA: what stands in the program's one form. Own work.
-/
namespace Go.Proofs.Ythjddpkegooobab
open Go.RowKit

/-- the two lie in different blocks -/
def Far (a a' : Option Addr) : Prop := ∀ b, a = some ⟨b, 0, none⟩ → a' ≠ some ⟨b, 0, none⟩
theorem Far.symm {a a' : Option Addr} (h : Far a a') : Far a' a := fun b hb hx => h b hx hb

/-- a graph that owns its memory, from block 'base' on, each list in a row of its own -/
structure OwnG (w : World) (base : Nat) (na : Option Addr) (nc : Nat) (nl : List NL) : Prop where
  nodes : w.ownsRow base 116 2 (.slice na nl.length nc) nl.length (nodeCells nl)
  vals : ∀ x, x ∈ nl → w.ownsRow base 30 4 (.slice x.a x.n.vals.length x.cap) x.n.vals.length (valCells x.n.vals)
  apn : ∀ x, x ∈ nl → Far x.a na
  apv : ∀ i j, i < j → j < nl.length → Far nl[i]!.a nl[j]!.a

theorem OwnG.kept {p : Nat → Prop} {w w' : World} {base : Nat} {na : Option Addr} {nc : Nat} {nl : List NL} (h : OwnG w base na nc nl) (k : Kept p w w') (hn : ∀ b, na = some ⟨b, 0, none⟩ → ¬ p b) (hv : ∀ x, x ∈ nl → ∀ b, x.a = some ⟨b, 0, none⟩ → ¬ p b) : OwnG w' base na nc nl :=
  ⟨k.owns h.nodes (fun b hb => hn b (owns_addr h.nodes hb)), fun x hx => k.owns (h.vals x hx) (fun b hb => hv x hx b (owns_addr (h.vals x hx) hb)), h.apn, h.apv⟩
theorem OwnG.at_ {w : World} {base : Nat} {na : Option Addr} {nc : Nat} {nl : List NL} (h : OwnG w base na nc nl) : NodesAt w.heap.size w na (nl.map (·.n)) :=
  owns_nodes h.nodes (fun x hx => owns_vals (h.vals x hx) (Nat.le_refl _))
theorem OwnG.le {w : World} {base base' : Nat} {na : Option Addr} {nc : Nat} {nl : List NL} (h : OwnG w base na nc nl) (hb : base' ≤ base) : OwnG w base' na nc nl :=
  ⟨owns_le h.nodes hb, fun x hx => owns_le (h.vals x hx) hb, h.apn, h.apv⟩

/-- what stands at the head of the round -/
structure FState (w : World) (tb : Nat → Nat) (M mb base G : Nat) (rv : GV) (ws : World) (ord : List Nat) (ma : Option Addr) (mc : Nat) (na : Option Addr) (nc : Nat) (nl : List NL) : Prop where
  low : Below w.heap.size w ws
  blk : w.heap.size < base ∧ base ≤ G ∧ G < ws.heap.size ∧ M < base ∧ mb < base ∧ w.heap.size < M ∧ w.heap.size < mb
  res : Five ws w.heap.size ⟨0, 0, ⟨#[]⟩, 0⟩ (.slice none 0 0)
  out : Five ws G rv (.slice na nl.length nc)
  meet : Meet ws tb M mb base ord ma mc
  own : OwnG ws base na nc nl
  apm : Far na ma
  apvm : ∀ x, x ∈ nl → Far x.a ma
  notG : Far na (some ⟨G, 0, none⟩) ∧ Far ma (some ⟨G, 0, none⟩) ∧ ∀ x, x ∈ nl → Far x.a (some ⟨G, 0, none⟩)

theorem far_of_lt {a : Option Addr} {G : Nat} (h : ∀ b, a = some ⟨b, 0, none⟩ → b ≠ G) : Far a (some ⟨G, 0, none⟩) := fun b hb hx => h b hb (some_addr hx).symm
theorem Far.ne {a : Option Addr} {G b : Nat} (h : Far a (some ⟨G, 0, none⟩)) (hb : a = some ⟨b, 0, none⟩) : b ≠ G := fun e => h b hb (by rw [e])

section
variable {w : World} {tb : Nat → Nat} {M mb base G : Nat} {rv : GV} {ws : World} {ord : List Nat} {ma : Option Addr} {mc : Nat} {na : Option Addr} {nc : Nat} {nl : List NL}

theorem FState.next (h : FState w tb M mb base G rv ws ord ma mc na nc nl) {n : GN} {w1 w3 : World} {ord1 : List Nat} {ma1 : Option Addr} {mc1 : Nat} {va : Option Addr} {vc : Nat} {o : Obj} {gg cc : Nat}
    (hM1 : Meet w1 tb M mb base ord1 ma1 mc1) (hor1 : ma1 = ma ∨ ∃ b, ma1 = some ⟨b, 0, none⟩ ∧ ws.heap.size ≤ b) (hv1 : w1.ownsRow ws.heap.size 30 4 (.slice va n.vals.length vc) n.vals.length (valCells n.vals)) (hap1 : Far va ma1) (hK1 : Kept (fun k => k = M ∨ k = mb ∨ ma = some ⟨k, 0, none⟩) ws w1)
    (hown : w3.ownsRow base 116 2 (.slice (some ⟨gg, 0, none⟩) (nl.length + 1) cc) (nl.length + 1) (nodeCells nl ++ [.int .i64 n.tag, .slice va n.vals.length vc]))
    (hgrow : (w1.alloc o).grownBy w3 (Value.slice na nl.length nc).ownBlock) (hat : (Value.slice na nl.length nc).ownBlock = some gg ∨ gg = w1.heap.size + 1) :
    FState w tb M mb base G rv (w3.setCell ⟨G, 4, none⟩ (.slice (some ⟨gg, 0, none⟩) (nl.length + 1) cc)) ord1 ma1 mc1 (some ⟨gg, 0, none⟩) cc (nl ++ [⟨n, va, vc⟩]) := by
  obtain ⟨b1, b2, b3, b4, b5, b6, b7⟩ := h.blk
  have hs1 := hK1.size
  have hA : Kept (fun _ => False) w1 (w1.alloc o) := (Kept.refl _ w1).alloc _
  have hG := Kept.of_grown hgrow
  have hs3 : w1.heap.size + 1 ≤ w3.heap.size := by have := hgrow.size; simpa using this
  have hC := (Kept.refl (fun b => b = G) w3).set (a := ⟨G, 4, none⟩) (fun _ => rfl) (.slice (some ⟨gg, 0, none⟩) (nl.length + 1) cc)
  have hnb : ∀ b, (Value.slice na nl.length nc).ownBlock = some b → base ≤ b ∧ b < ws.heap.size ∧ na = some ⟨b, 0, none⟩ := fun b hb => ⟨(h.own.nodes.lt b hb).1, (h.own.nodes.lt b hb).2, owns_addr h.own.nodes hb⟩
  have hmab : ∀ b, ma = some ⟨b, 0, none⟩ → base ≤ b ∧ b < ws.heap.size := fun b hb => h.meet.met.lt b (by rw [hb]; rfl)
  have hma1b : ∀ b, ma1 = some ⟨b, 0, none⟩ → base ≤ b ∧ b < w1.heap.size ∧ (ma = some ⟨b, 0, none⟩ ∨ ws.heap.size ≤ b) := fun b hb => by
    have h1 := hM1.met.lt b (by rw [hb]; rfl)
    refine ⟨h1.1, h1.2, ?_⟩
    rcases hor1 with e | ⟨c, e, hc⟩
    · exact Or.inl (by rw [← e, hb])
    · rw [hb] at e; have := some_addr e; exact Or.inr (by omega)
  have hvab : ∀ b, va = some ⟨b, 0, none⟩ → ws.heap.size ≤ b ∧ b < w1.heap.size := fun b hb => hv1.lt b (by rw [hb]; rfl)
  have hxb : ∀ x, x ∈ nl → ∀ b, x.a = some ⟨b, 0, none⟩ → base ≤ b ∧ b < ws.heap.size := fun x hx b hb => (h.own.vals x hx).lt b (by rw [hb]; rfl)
  have hggb : base ≤ gg ∧ (na = some ⟨gg, 0, none⟩ ∨ w1.heap.size < gg) := ⟨(hown.lt gg rfl).1, hat.imp (fun e => (hnb gg e).2.2) (fun e => by omega)⟩
  have hnG := h.notG
  have hp1 : ∀ b, base ≤ b ∧ ma ≠ some ⟨b, 0, none⟩ → ¬ (b = M ∨ b = mb ∨ ma = some ⟨b, 0, none⟩) := fun b hb hp => by
    rcases hp with hp | hp | hp
    · omega
    · omega
    · exact hb.2 hp
  exact {
    low := by
      have h1 : Below w.heap.size ws w1 := hK1.below h.low.size (fun k hk hp => by
        rcases hp with hp | hp | hp
        · omega
        · omega
        · have := hmab k hp; omega)
      have h2 : Below w.heap.size w1 w3 := ((hA.mono (q := fun k => (Value.slice na nl.length nc).ownBlock = some k) (fun _ _ e => e.elim)).trans hG (fun _ _ e => e)).below (by have := h.low.size; omega) (fun k hk hp => by have := hnb k hp; omega)
      exact ((h.low.trans h1).trans h2).trans (hC.below (by have := h.low.size; omega) (fun k hk hp => by omega))
    blk := ⟨b1, b2, by have := hC.size; omega, b4, b5, b6, b7⟩
    res := by
      refine (((h.res.kept hK1 (fun hp => ?_)).kept hA (fun e => e)).kept hG (fun hp => by have := hnb _ hp; omega)).kept hC (by omega)
      rcases hp with hp | hp | hp
      · omega
      · omega
      · have := hmab _ hp; omega
    out := by
      have h1 := ((h.out.kept hK1 (hp1 G ⟨b2, fun e => hnG.2.1.ne e rfl⟩)).kept hA (fun e => e)).kept hG (fun hp => hnG.1.ne (hnb _ hp).2.2 rfl)
      simpa using h1.set (s' := .slice (some ⟨gg, 0, none⟩) (nl.length + 1) cc)
    meet := ((hM1.kept hA (fun e => e) (fun e => e) (fun _ _ e => e)).kept hG (fun hp => by have := hnb _ hp; omega) (fun hp => by have := hnb _ hp; omega) (fun b hb hp => by
        have h2 := hnb b hp
        rcases (hma1b b hb).2.2 with e | e
        · exact h.apm b h2.2.2 e
        · omega)).kept hC (by omega) (by omega) (fun b hb hp => by
        rcases (hma1b b hb).2.2 with e | e
        · exact hnG.2.1.ne e hp
        · omega)
    own := by
      refine ⟨?_, fun x hx => ?_, fun x hx => ?_, fun i j hij hj => ?_⟩
      · have h1 := hC.owns hown (fun b hb hp => by
          have e := owns_addr hown hb
          have e2 := some_addr e
          rcases hggb.2 with e3 | e3
          · exact hnG.1.ne e3 (by omega)
          · omega)
        simpa [nodeCells_snoc] using h1
      · rcases List.mem_append.1 hx with hx | hx
        · have h1 := h.own.vals x hx
          refine hC.owns (hG.owns (hA.owns (hK1.owns h1 (fun b hb => ?_)) (fun _ _ e => e)) (fun b hb hp => h.own.apn x hx b (owns_addr h1 hb) (hnb b hp).2.2)) (fun b hb hp => (hnG.2.2 x hx).ne (owns_addr h1 hb) hp)
          exact hp1 b ⟨(h1.lt b hb).1, h.apvm x hx b (owns_addr h1 hb)⟩
        · simp at hx
          subst hx
          refine hC.owns (hG.owns (hA.owns (owns_le hv1 (by omega)) (fun _ _ e => e)) (fun b hb hp => ?_)) (fun b hb hp => ?_)
          · have h2 := hvab b (owns_addr hv1 hb); have h3 := hnb b hp; omega
          · have h2 := hvab b (owns_addr hv1 hb); omega
      · intro b hb hx2
        have e := some_addr hx2
        subst e
        rcases List.mem_append.1 hx with hx | hx
        · rcases hggb.2 with e3 | e3
          · exact h.own.apn x hx gg hb e3
          · have := hxb x hx gg hb; omega
        · simp at hx
          subst hx
          have h2 := hvab gg hb
          rcases hggb.2 with e3 | e3
          · have h4 := h.own.nodes.lt gg (by rw [e3]; rfl); omega
          · omega
      · have hj' : j < nl.length + 1 := by simpa using hj
        have hi' : i < nl.length := by omega
        have ei : (nl ++ [(⟨n, va, vc⟩ : NL)])[i]! = nl[i]! := by rw [getElem!_pos _ i (by simp; omega), getElem!_pos nl i hi', List.getElem_append_left hi']
        rw [ei]
        by_cases ej : j < nl.length
        · have ej2 : (nl ++ [(⟨n, va, vc⟩ : NL)])[j]! = nl[j]! := by rw [getElem!_pos _ j hj, getElem!_pos nl j ej, List.getElem_append_left ej]
          rw [ej2]
          exact h.own.apv i j hij ej
        · have ej2 : (nl ++ [(⟨n, va, vc⟩ : NL)])[j]! = ⟨n, va, vc⟩ := by
            have e : j = nl.length := by omega
            subst e
            rw [getElem!_pos (nl ++ [(⟨n, va, vc⟩ : NL)]) nl.length (by simp)]; simp
          rw [ej2]
          intro b hb hx2
          have hm : (nl[i]!) ∈ nl := by rw [getElem!_pos nl i hi']; exact List.getElem_mem _
          have h2 := hxb (nl[i]!) hm b hb
          have h3 := hvab b hx2
          omega
    apm := fun b hb hx => by
      have e := some_addr hb
      subst e
      rcases hggb.2 with e3 | e3
      · rcases (hma1b gg hx).2.2 with e | e
        · exact h.apm gg e3 e
        · have h4 := h.own.nodes.lt gg (by rw [e3]; rfl); omega
      · have := hma1b gg hx; omega
    apvm := fun x hx => by
      rcases List.mem_append.1 hx with hx | hx
      · intro b hb hx2
        rcases (hma1b b hx2).2.2 with e | e
        · exact h.apvm x hx b hb e
        · have := hxb x hx b hb; omega
      · simp at hx
        subst hx
        exact hap1
    notG := by
      refine ⟨far_of_lt fun b hb => ?_, far_of_lt fun b hb => ?_, fun x hx => ?_⟩
      · have e := some_addr hb
        subst e
        rcases hggb.2 with e3 | e3
        · exact hnG.1.ne e3
        · omega
      · rcases (hma1b b hb).2.2 with e | e
        · exact hnG.2.1.ne e
        · omega
      · rcases List.mem_append.1 hx with hx | hx
        · exact hnG.2.2 x hx
        · simp at hx
          subst hx
          exact far_of_lt fun b hb => by have := hvab b hb; omega }
end

end Go.Proofs.Ythjddpkegooobab

/-
  RDG: the program's reader: graphs. Own work.
-/
namespace Go.Proofs.Ythjddpkegooobab
open Go.RowKit

/-- what stands at the head of the round -/
structure GState (w : World) (b : Nat) (sa : Option Addr) (cap : Nat) (bs : List Nat) (rv : GV) (G : Nat) (ws : World) (q : List Nat) (na : Option Addr) (nc : Nat) (nl : List NL) : Prop where
  kept : Kept (fun k => k = b) w ws
  blk : b < w.heap.size ∧ w.heap.size < G ∧ G < ws.heap.size
  res : Five ws w.heap.size ⟨0, 0, ⟨#[]⟩, 0⟩ (.slice none 0 0)
  out : Five ws G rv (.slice na nl.length nc)
  rd : Rd ws b sa cap bs q
  own : OwnG ws (G + 1) na nc nl

theorem GState.step {w : World} {b : Nat} {sa : Option Addr} {cap : Nat} {bs : List Nat} {rv : GV} {G : Nat} {ws : World} {q : List Nat} {na : Option Addr} {nc : Nat} {nl : List NL} (h : GState w b sa cap bs rv G ws q na nc nl) {n : GN} {w1 w3 : World} {q1 : List Nat} {va : Option Addr} {vc : Nat} {gg cc : Nat} {o : Obj}
    (hR1 : Rd w1 b sa cap bs q1) (hK1 : Kept (fun k => k = b) ws w1) (hv1 : w1.ownsRow ws.heap.size 30 4 (.slice va n.vals.length vc) n.vals.length (valCells n.vals))
    (hown : w3.ownsRow (G + 1) 116 2 (.slice (some ⟨gg, 0, none⟩) (nl.length + 1) cc) (nl.length + 1) (nodeCells nl ++ [.int .i64 n.tag, .slice va n.vals.length vc]))
    (hgrow : (w1.alloc o).grownBy w3 (Value.slice na nl.length nc).ownBlock) (hat : (Value.slice na nl.length nc).ownBlock = some gg ∨ gg = w1.heap.size + 1) :
    GState w b sa cap bs rv G (w3.setCell ⟨G, 4, none⟩ (.slice (some ⟨gg, 0, none⟩) (nl.length + 1) cc)) q1 (some ⟨gg, 0, none⟩) cc (nl ++ [⟨n, va, vc⟩]) := by
  obtain ⟨b1, b2, b3⟩ := h.blk
  have hs1 := hK1.size
  have hA : Kept (fun _ => False) w1 (w1.alloc o) := (Kept.refl _ w1).alloc _
  have hG := Kept.of_grown hgrow
  have hs3 : w1.heap.size + 1 ≤ w3.heap.size := by have := hgrow.size; simpa using this
  have hC := (Kept.refl (fun k => k = G) w3).set (a := ⟨G, 4, none⟩) (fun _ => rfl) (.slice (some ⟨gg, 0, none⟩) (nl.length + 1) cc)
  have hnb : ∀ k, (Value.slice na nl.length nc).ownBlock = some k → G + 1 ≤ k ∧ k < ws.heap.size ∧ na = some ⟨k, 0, none⟩ := fun k hk => ⟨(h.own.nodes.lt k hk).1, (h.own.nodes.lt k hk).2, owns_addr h.own.nodes hk⟩
  have hvab : ∀ k, va = some ⟨k, 0, none⟩ → ws.heap.size ≤ k ∧ k < w1.heap.size := fun k hk => hv1.lt k (by rw [hk]; rfl)
  have hxb : ∀ x, x ∈ nl → ∀ k, x.a = some ⟨k, 0, none⟩ → G + 1 ≤ k ∧ k < ws.heap.size := fun x hx k hk => (h.own.vals x hx).lt k (by rw [hk]; rfl)
  have hggb : G + 1 ≤ gg ∧ (na = some ⟨gg, 0, none⟩ ∨ w1.heap.size < gg) := ⟨(hown.lt gg rfl).1, hat.imp (fun e => (hnb gg e).2.2) (fun e => by omega)⟩
  have hsz := h.kept.size
  exact {
    kept := (((h.kept.trans hK1 (fun _ _ e => e)).trans hA (fun _ _ e => e.elim)).trans hG (fun k hk hp => by have := hnb k hp; omega)).trans hC (fun k hk hp => by omega)
    blk := ⟨b1, b2, by have := hC.size; omega⟩
    res := (((h.res.kept hK1 (by omega)).kept hA (fun e => e)).kept hG (fun hp => by have := hnb _ hp; omega)).kept hC (by omega)
    out := by
      have h1 := ((h.out.kept hK1 (by omega)).kept hA (fun e => e)).kept hG (fun hp => by have := hnb _ hp; omega)
      simpa using h1.set (s' := .slice (some ⟨gg, 0, none⟩) (nl.length + 1) cc)
    rd := ((hR1.kept hA (fun _ _ e => e)).kept hG (fun k hk hp => by have := hnb k hp; omega)).kept hC (fun k hk hp => by omega)
    own := by
      refine ⟨?_, fun x hx => ?_, fun x hx => ?_, fun i j hij hj => ?_⟩
      · have h1 := hC.owns hown (fun k hk hp => by have := (hown.lt k hk).1; omega)
        simpa [nodeCells_snoc] using h1
      · rcases List.mem_append.1 hx with hx | hx
        · have h1 := h.own.vals x hx
          refine hC.owns (hG.owns (hA.owns (hK1.owns h1 (fun k hk hp => ?_)) (fun _ _ e => e)) (fun k hk hp => h.own.apn x hx k (owns_addr h1 hk) (hnb k hp).2.2)) (fun k hk hp => ?_)
          · have := (h1.lt k hk).1; omega
          · have := (h1.lt k hk).1; omega
        · simp at hx
          subst hx
          refine hC.owns (hG.owns (hA.owns (owns_le hv1 (by omega)) (fun _ _ e => e)) (fun k hk hp => ?_)) (fun k hk hp => ?_)
          · have h2 := hvab k (owns_addr hv1 hk); have h3 := hnb k hp; omega
          · have h2 := hvab k (owns_addr hv1 hk); omega
      · intro k hk hx2
        have e := some_addr hx2
        subst e
        rcases List.mem_append.1 hx with hx | hx
        · rcases hggb.2 with e3 | e3
          · exact h.own.apn x hx gg hk e3
          · have := hxb x hx gg hk; omega
        · simp at hx
          subst hx
          have h2 := hvab gg hk
          rcases hggb.2 with e3 | e3
          · have h4 := h.own.nodes.lt gg (by rw [e3]; rfl); omega
          · omega
      · have hj' : j < nl.length + 1 := by simpa using hj
        have hi' : i < nl.length := by omega
        have ei : (nl ++ [(⟨n, va, vc⟩ : NL)])[i]! = nl[i]! := by rw [getElem!_pos _ i (by simp; omega), getElem!_pos nl i hi', List.getElem_append_left hi']
        rw [ei]
        by_cases ej : j < nl.length
        · have ej2 : (nl ++ [(⟨n, va, vc⟩ : NL)])[j]! = nl[j]! := by rw [getElem!_pos _ j hj, getElem!_pos nl j ej, List.getElem_append_left ej]
          rw [ej2]
          exact h.own.apv i j hij ej
        · have ej2 : (nl ++ [(⟨n, va, vc⟩ : NL)])[j]! = ⟨n, va, vc⟩ := by
            have e : j = nl.length := by omega
            subst e
            rw [getElem!_pos (nl ++ [(⟨n, va, vc⟩ : NL)]) nl.length hj]; simp
          rw [ej2]
          intro k hk hx2
          have h2 := hvab k hx2
          have h3 := hxb _ (mem_at hi') k hk
          omega }

/-- so many nodes of m have been read -/
def RnInv (m : Nat) (r : List Nat) (j : Nat) (ns : List GN) (q : List Nat) : Prop := rdNodes m r = (rdNodes (m - j) q).map fun y => (ns ++ y.1, y.2)
theorem RnInv.start (m : Nat) (r : List Nat) : RnInv m r 0 [] r := by
  unfold RnInv
  rw [Nat.sub_zero]
  cases rdNodes m r <;> simp
theorem RnInv.next {m j : Nat} {r q q1 : List Nat} {ns : List GN} {n : GN} (h : RnInv m r j ns q) (hj : j < m) (hv : rdNode q = some (n, q1)) : RnInv m r (j + 1) (ns ++ [n]) q1 := by
  unfold RnInv at h ⊢
  rw [h, show m - j = (m - (j + 1)) + 1 by omega, rdNodes, hv]
  simp only [Option.bind_some, Option.map_map]
  congr 1
  funext y
  simp
theorem RnInv.none' {m j : Nat} {r q : List Nat} {ns : List GN} (h : RnInv m r j ns q) (hj : j < m) (hv : rdNode q = none) : rdNodes m r = none := by
  unfold RnInv at h
  rw [h, show m - j = (m - (j + 1)) + 1 by omega, rdNodes, hv]
  rfl
theorem RnInv.done {m : Nat} {r q : List Nat} {ns : List GN} (h : RnInv m r m ns q) : rdNodes m r = some (ns, q) := by
  unfold RnInv at h
  rw [h, Nat.sub_self]
  simp [rdNodes]

/-- what reading a graph leaves -/
def GRPost (b : Nat) (sa : Option Addr) (cap : Nat) (bs r : List Nat) (w : World) (e : Ending) (w' : World) : Prop :=
  Kept (fun k => k = b) w w' ∧ ((∃ g q na nc nl, Hid (rdGraph r = some (g, q)) ∧ e = .returned (g.val na nc) ∧ nl.map (·.n) = g.nodes ∧ OwnG w' w.heap.size na nc nl ∧ Rd w' b sa cap bs q) ∨ (Hid (rdGraph r = none) ∧ e = .panicked [haltP]))

set_option maxHeartbeats 1000000 in
set_option maxRecDepth 100000 in
theorem readGraph_any (b : Nat) (sa : Option Addr) (cap : Nat) (bs r : List Nat) (w : World) (hR : Rd w b sa cap bs r) :
    Calls Try.prog 87 #[.pointer (some ⟨b, 0, none⟩)] w (GRPost b sa cap bs r w) := by
  have hlt := hR.lt
  cases ht : rdText 2 r with
  | none =>
    have ht' : Hid _ := ht
    go_enter Try.func87, Try.ntmps87
    go_wp2_with (go_at_call 145; refine (readText_any b sa cap bs r 2 _ _ (hR.grow (gal (gre _) _)) rfl (by omega)).mono ?_; rintro e w1 h1; rw [ht'.out] at h1; obtain ⟨rfl, hK1⟩ := RPost.no h1)
    exact ⟨rfl, kk ((Kept.refl _ w).alloc _) hK1, Or.inr ⟨by show rdGraph r = none; unfold rdGraph; rw [ht]; rfl, rfl⟩⟩
  | some y =>
    obtain ⟨tx, r1⟩ := y
    have ht' : Hid _ := ht
    by_cases htx : tx = ⟨#[72, 49]⟩
    · subst htx
      have hF0 := Five.new_at w ⟨0, 0, ⟨#[]⟩, 0⟩ (.slice none 0 0) 33 w.heap.size rfl
      have heq : ((⟨#[72, 49]⟩ : ByteArray).toList == [72, 49]) = true := by rw [ByteArray.toList_eq]; rfl
      have hg1 : Hid (rdGraph r = (rdCount 300 r1).bind fun m => (rdVal m.2).bind fun x => (rdNodes m.1 x.2).map fun y => (⟨x.1, y.1⟩, y.2)) := by show rdGraph r = _; unfold rdGraph; rw [ht, Option.bind_some]; exact if_pos rfl
      cases hm : rdCount 300 r1 with
      | none =>
        have hm' : Hid _ := hm
        go_enter Try.func87, Try.ntmps87
        go_wp2_with (first
          | (go_at_call 145; refine (readText_any b sa cap bs r 2 _ _ (hR.grow (gal (gre _) _)) rfl (by omega)).mono ?_; rintro e w1 h1; rw [ht'.out] at h1; obtain ⟨rfl, hR1, hK1⟩ := RPost.ok h1; clear h1; have hF1 := hF0.kept hK1 (by omega))
          | (go_at_call 146; refine (readCount_any b sa cap bs r1 300 _ _ hR1 rfl (by omega)).mono ?_; rintro e w2 h2; rw [hm'.out] at h2; obtain ⟨rfl, hK2⟩ := RPost.no h2))
        exact ⟨rfl, kk (kk ((Kept.refl _ w).alloc _) hK1) hK2, Or.inr ⟨by show rdGraph r = none; rw [hg1.out, hm]; rfl, rfl⟩⟩
      | some y =>
        obtain ⟨m, r2⟩ := y
        have hm' : Hid _ := hm
        have hml := rdCount_le hm
        cases hv : rdVal r2 with
        | none =>
          have hv' : Hid _ := hv
          go_enter Try.func87, Try.ntmps87
          go_wp2_with (first
            | (go_at_call 145; refine (readText_any b sa cap bs r 2 _ _ (hR.grow (gal (gre _) _)) rfl (by omega)).mono ?_; rintro e w1 h1; rw [ht'.out] at h1; obtain ⟨rfl, hR1, hK1⟩ := RPost.ok h1; clear h1; have hF1 := hF0.kept hK1 (by omega))
            | (go_at_call 146; refine (readCount_any b sa cap bs r1 300 _ _ hR1 rfl (by omega)).mono ?_; rintro e w2 h2; rw [hm'.out] at h2; obtain ⟨rfl, hR2, hK2⟩ := RPost.ok h2; clear h2)
            | (go_at_call 147; refine (readVal_any b sa cap bs r2 _ hR2).mono ?_; intro e w3 h3; unfold RVPost at h3; rw [hv'.out] at h3; obtain ⟨rfl, hK3⟩ := RPost.no h3))
          exact ⟨rfl, kk (kk (kk ((Kept.refl _ w).alloc _) hK1) hK2) hK3, Or.inr ⟨by show rdGraph r = none; rw [hg1.out, hm]; simp [hv], rfl⟩⟩
        | some y =>
          obtain ⟨rv, r3⟩ := y
          have hv' : Hid _ := hv
          obtain ⟨j0, hj, hy0, hy1, hy2⟩ := info_parts info_implNode
          have hgr : Hid (rdGraph r = (rdNodes m r3).map fun y => (⟨rv, y.1⟩, y.2)) := by show rdGraph r = _; rw [hg1.out, hm]; simp [hv]
          go_enter Try.func87, Try.ntmps87
          go_wp2_with (first
            | (go_at_call 145; refine (readText_any b sa cap bs r 2 _ _ (hR.grow (gal (gre _) _)) rfl (by omega)).mono ?_; rintro e w1 h1; rw [ht'.out] at h1; obtain ⟨rfl, hR1, hK1⟩ := RPost.ok h1; clear h1; have hF1 := hF0.kept hK1 (by omega))
            | (go_at_call 146; refine (readCount_any b sa cap bs r1 300 _ _ hR1 rfl (by omega)).mono ?_; rintro e w2 h2; rw [hm'.out] at h2; obtain ⟨rfl, hR2, hK2⟩ := RPost.ok h2; clear h2)
            | (go_at_call 147; refine (readVal_any b sa cap bs r2 _ hR2).mono ?_; intro e w3 h3; unfold RVPost at h3; rw [hv'.out] at h3; obtain ⟨rfl, hR3, hK3⟩ := RPost.ok h3; clear h3))
          have hs1 : w.heap.size + 1 ≤ w1.heap.size := by have := hK1.size; simpa using this
          have hs3 : w1.heap.size ≤ w3.heap.size := Nat.le_trans hK2.size hK3.size
          have hK30 := kk (kk (kk ((Kept.refl (fun k => k = b) w).alloc _) hK1) hK2) hK3
          have hD0 : GState w b sa cap bs rv w3.heap.size (w3.alloc (.cells #[.int .i64 rv.kind, .int .i64 rv.num, .string rv.text, .int .i64 rv.node, .slice none 0 0] 33)) r3 none 0 [] :=
            ⟨hK30.alloc _, ⟨hlt, by omega, by simp⟩, ((hF1.kept hK2 (by omega)).kept hK3 (by omega)).kept ((Kept.refl (fun _ => False) w3).alloc _) (fun e => e), Five.new_at w3 rv (.slice none 0 0) 33 w3.heap.size rfl, hR3.grow (gal (gre _) _),
              ⟨World.ownsRow_nil _ _ _ _, fun x hx => (by cases hx), fun x hx => (by cases hx), fun i j _ hj => absurd hj (Nat.not_lt_zero _)⟩⟩
          generalize w3.alloc (.cells #[.int .i64 rv.kind, .int .i64 rv.num, .string rv.text, .int .i64 rv.node, .slice none 0 0] 33) = w4 at hD0 ⊢
          generalize w3.heap.size = G at hD0 ⊢
          clear hK1 hK2 hK3 hs1 hs3 hR1 hR2 hR3 hF0 hF1 hK30
          go_loopw [16] (fun i ws => ∃ (j : Nat) (q : List Nat) (na : Option Addr) (nc : Nat) (nl : List NL), i = .int .i64 j ∧ j ≤ m ∧ Hid (nl.length = j) ∧ Hid (RnInv m r3 j (nl.map (·.n)) q) ∧ GState w b sa cap bs rv G ws q na nc nl) (fun i _ => m - (intOf i).toNat)
          case atStart => exact ⟨0, r3, none, 0, [], rfl, Nat.zero_le _, rfl, RnInv.start m r3, hD0⟩
          case round =>
            obtain ⟨j, q, na, nc, nl, rfl, hjm, hvl, hinv, hD⟩ := hrel
            obtain ⟨k1, k2, k3⟩ := hD.blk
            by_cases hjl : j < m
            · have hd : (j : Int) < (m : Int) := by omega
              obtain ⟨xz, x0, x1, x2, x3, x4, xf⟩ := hD.out
              go_wp2
              refine wp_regionU (fun u => u.cell? ⟨G, 4, none⟩ = some (.slice na nl.length nc)) 7 (by kernel_rfl) x4 (fun hS0 => ?_)
              refine anyU_take (i := 0) (v := ?_) rfl (by kernel_rfl) (by kernel_rfl) (by kernel_rfl) (by kernel_rfl) (fun _ _ _ h => h) (Or.inl ⟨by rfl, ?_⟩) hS0 ?_
              rotate_left
              · intro u hSu; (try dsimp only at hSu); go_simp <;> with_reducible rfl
              simp only [Act.put, List.getElem_toArray, List.getElem_cons_zero, List.setIfInBounds_toArray, List.set_cons_zero, List.set_cons_succ]
              refine anyU_take (i := 1) (v := ?_) rfl (by kernel_rfl) (by kernel_rfl) (by kernel_rfl) (by kernel_rfl) (fun _ _ _ h => h) (Or.inl ⟨by rfl, ?_⟩) hS0 ?_
              rotate_left
              · intro u hSu; (try dsimp only at hSu); go_simp <;> with_reducible rfl
              simp only [Act.put, List.getElem_toArray, List.getElem_cons_zero, List.getElem_cons_succ, List.setIfInBounds_toArray, List.set_cons_zero, List.set_cons_succ]
              refine anyU_take (i := 2) (v := ?_) rfl (by kernel_rfl) (by kernel_rfl) (by kernel_rfl) (by kernel_rfl) (fun _ _ _ h => h) (Or.inl ⟨by rfl, ?_⟩) hS0 ?_
              rotate_left
              · intro u hSu; (try dsimp only at hSu); go_simp <;> with_reducible rfl
              simp only [Act.put, List.getElem_toArray, List.getElem_cons_zero, List.getElem_cons_succ, List.setIfInBounds_toArray, List.set_cons_zero, List.set_cons_succ]
              refine anyU_one (i := 3) (by kernel_rfl) rfl (fun K hK => ?_)
              go_simp
              refine (readNode_any b sa cap bs q _ (hD.rd.grow (gdr (gre _)))).mono ?_
              rintro e w1 ⟨hK1, ⟨n, q1, va, vc, hn, rfl, hv1, hR1⟩ | ⟨hno, rfl⟩⟩
              · have hKw : Kept (fun k => k = b) wr w1 := kk ((Kept.refl (fun k => k = b) wr).drew) hK1
                have hS1 := hKw.cell x4 (by omega)
                have hX1 : Five w1 G rv (.slice na nl.length nc) := hD.out.kept hKw (by omega)
                have hn1 : Hid _ := hKw.owns hD.own.nodes (fun k hk hp => by have := (hD.own.nodes.lt k hk).1; omega)
                have hsw := hKw.size
                refine hK.out _ _ hS1 ?_
                clear hK
                have hS2' : Hid ((w1.alloc (.cells #[.int .i64 n.tag, .slice va n.vals.length vc] 116)).cell? ⟨G, 4, none⟩ = some (.slice na nl.length nc)) := ((Kept.refl (fun _ => False) w1).alloc _).cell hS1 (fun e => e)
                refine anyU_one (i := 4) (by kernel_rfl) rfl (fun K hK => ?_)
                go_simp
                refine hK.out _ _ hS2'.out ?_
                clear hK
                refine anyU_one (i := 5) (by kernel_rfl) rfl (fun K hK => ?_)
                refine step_append_lies _ (by rfl) (.tmp 19) (.tmp 22) 31 rfl (G + 1) 116 j0 _ 2 32 Try.underlying31 hj hy0 hy1 hy2 rfl (by decide) (.slice na nl.length nc) nl.length (nodeCells nl) (by rfl) (World.ownsRow.alloc hn1.out _) ⟨w1.heap.size, 0, none⟩ 1 1 [.int .i64 n.tag, .slice va n.vals.length vc] (by rfl) rfl (World.news_of_block (cs := #[.int .i64 n.tag, .slice va n.vals.length vc]) (t := 116) (fr := (0, 0)) (blk_new_at _ _ _ rfl)) (by simp [Value.oneCell']) (by decide) (by have h7 := hvl.out; unfold maxLen; omega) (by have h7 := hvl.out; omega) (by simp; omega) (w1.heap.size + 1) (by simp) ?_
                intro gg cc w3 hown3 hgrow3 hat3 hlt3
                have hX3 := (hX1.kept ((Kept.refl (fun _ => False) w1).alloc _) (fun e => e)).kept (Kept.of_grown hgrow3) (fun hp => by have := (hD.own.nodes.lt _ hp).1; omega)
                obtain ⟨yz, y0, y1, y2, y3, y4, yf⟩ := id hX3
                refine hK.out _ _ y4 ?_
                clear hK
                simp only [Act.put, List.getElem_toArray, List.getElem_cons_zero, List.getElem_cons_succ, List.setIfInBounds_toArray, List.set_cons_zero, List.set_cons_succ]
                refine anyU_one (i := 6) (by kernel_rfl) rfl (fun K hK => ?_)
                go_simp
                refine hK.out _ _ y4 ?_
                clear hK
                refine anyU_last (by kernel_rfl) rfl (by kernel_rfl) (fun K hK => ?_)
                go_simp
                refine hK.out _ _ ?_
                clear hK
                have hfin := hD.step hR1 hKw hv1 hown3 hgrow3 hat3
                have hinv2 : Hid (RnInv m r3 (j + 1) ((nl ++ [(⟨n, va, vc⟩ : NL)]).map (·.n)) q1) := by show RnInv _ _ _ _ _; rw [List.map_append]; exact hinv.out.next hjl hn.out
                go_wp2
                go_roundw
                case rel => exact ⟨j + 1, q1, some ⟨gg, 0, none⟩, cc, nl ++ [⟨n, va, vc⟩], by go_num, by omega, by have := hvl.out; show (nl ++ [(⟨n, va, vc⟩ : NL)]).length = j + 1; simp [this], hinv2, hfin⟩
                case measure => simp [intOf]; omega
              · refine ⟨rfl, kk hD.kept (kk ((Kept.refl (fun k => k = b) wr).drew) hK1), Or.inr ⟨?_, rfl⟩⟩
                show rdGraph r = none
                rw [hgr.out, hinv.out.none' hjl hno.out]; rfl
            · obtain rfl : j = m := by omega
              have hd : ¬ ((j : Int) < (j : Int)) := by omega
              have hdone : Hid (rdGraph r = some (⟨rv, nl.map (·.n)⟩, q)) := by show rdGraph r = _; rw [hgr.out, hinv.out.done]; rfl
              obtain ⟨xz, x0, x1, x2, x3, x4, xf⟩ := hD.out
              obtain ⟨rz, q0, q1, q2, q3, q4, rf⟩ := hD.res
              have hC : Kept (fun k => k = w.heap.size) wr (((((wr.setCell ⟨w.heap.size, 0, none⟩ (.int .i64 rv.kind)).setCell ⟨w.heap.size, 1, none⟩ (.int .i64 rv.num)).setCell ⟨w.heap.size, 2, none⟩ (.string rv.text)).setCell ⟨w.heap.size, 3, none⟩ (.int .i64 rv.node)).setCell ⟨w.heap.size, 4, none⟩ (.slice na nl.length nc)) := (((((Kept.refl (fun k => k = w.heap.size) wr).set (fun _ => rfl) _).set (fun _ => rfl) _).set (fun _ => rfl) _).set (fun _ => rfl) _).set (fun _ => rfl) _
              have hkept := hD.kept.trans hC (fun k hk hp => by omega)
              have hown := (hD.own.kept hC (fun k hk hp => by have := hD.own.nodes.lt k (by rw [hk]; rfl); omega) (fun x hx k hk hp => by have := (hD.own.vals x hx).lt k (by rw [hk]; rfl); omega)).le (show w.heap.size ≤ G + 1 by omega)
              have hrd := hD.rd.kept hC (fun k hk hp => by omega)
              go_wp2
              refine bodyPost_ret (v := .agg #[.int .i64 rv.kind, .int .i64 rv.num, .string rv.text, .int .i64 rv.node, .slice na nl.length nc]) (by simp [results, Try.results87, go_sem, q0, q1, q2, q3, q4]) rfl ⟨hkept, Or.inl ⟨⟨rv, nl.map (·.n)⟩, q, na, nc, nl, hdone, ?_, rfl, hown, hrd⟩⟩
              show Ending.returned _ = Ending.returned (.agg #[_, _, _, _, .slice na (nl.map (·.n)).length nc])
              rw [List.length_map]
    · have hne : (tx.toList == [72, 49]) = false := by
        rw [beq_eq_false_iff_ne]
        intro e
        apply htx
        apply ByteArray.ext
        apply Array.ext'
        rw [← ByteArray.toList_eq]; exact e
      go_enter Try.func87, Try.ntmps87
      go_wp2_with (go_at_call 145; refine (readText_any b sa cap bs r 2 _ _ (hR.grow (gal (gre _) _)) rfl (by omega)).mono ?_; rintro e w1 h1; rw [ht'.out] at h1; obtain ⟨rfl, hR1, hK1⟩ := RPost.ok h1)
      exact ⟨rfl, kk ((Kept.refl _ w).alloc _) hK1, Or.inr ⟨by show rdGraph r = none; unfold rdGraph; rw [ht]; exact if_neg htx, rfl⟩⟩

end Go.Proofs.Ythjddpkegooobab

/-
  FORMOF: the program's one form, from a root on. Own work.
-/
namespace Go.Proofs.Ythjddpkegooobab
open Go.RowKit

/-- what the one form leaves -/
def FormPost (g : GG) (w : World) (e : Ending) (w' : World) : Prop :=
  ∃ (na : Option Addr) (nc : Nat) (nl : List NL), e = .returned ((canon g).val na nc) ∧ nl.map (·.n) = (canon g).nodes ∧ OwnG w' w.heap.size na nc nl ∧ Below w.heap.size w w'

set_option maxRecDepth 100000 in
/-- the empty meeting -/
theorem Meet.new (w0 : World) (tb : Nat → Nat) (t' : TypeId) (M mb base : Nat) (hM : M = w0.heap.size) (hm : PMap w0 mb []) (hb : M < base ∧ mb < base ∧ M ≠ mb) :
    Meet (w0.alloc (.cells #[.map (some mb), .slice none 0 0] t')) tb M mb base [] none 0 := by
  subst hM
  exact ⟨by simp, by simp, by simp, fun o => by simp, hm.kept ((Kept.refl (fun _ => False) w0).alloc _) (fun e => e), World.ownsRow_nil _ _ _ _, hb⟩
set_option maxRecDepth 100000 in
theorem PMap.new (w : World) (mb : Nat) (hb : mb = w.heap.size) : PMap (w.alloc (.map #[] 0)) mb [] :=
  ⟨#[], 0, blk_new_at _ _ _ hb, rfl, fun _i hi => absurd hi (Nat.not_lt_zero _)⟩

set_option maxHeartbeats 1000000 in
set_option maxRecDepth 100000 in
theorem formOf_any (g : GG) (tb : Nat → Nat) (B : Nat) (xa : Nat → Option Addr) (xc : Nat → Nat) (w : World) (hok : okG g = true)
    (hinj : ∀ i j, i < g.nodes.length → j < g.nodes.length → tb i = tb j → i = j)
    (hcells : ∀ i, i < g.nodes.length → CellsAt w (tb i) ∧ tb i < w.heap.size)
    (hcell : ∀ i, i < g.nodes.length → Two w (tb i) g.nodes[i]!.tag (.slice (xa i) g.nodes[i]!.vals.length (xc i)))
    (hvals : ∀ i, i < g.nodes.length → w.ownsRow B 172 1 (.slice (xa i) g.nodes[i]!.vals.length (xc i)) g.nodes[i]!.vals.length (g.nodes[i]!.vals.map (encV tb))) :
    Calls Try.prog 137 #[encV tb g.root] w (FormPost g w) := by
  obtain ⟨hn, hr, hns⟩ := okG_parts hok
  obtain ⟨j0, hj, hy0, hy1, hy2⟩ := info_parts info_implNode
  have hmm := @run_makeMap Try.prog
  have hM0 := Meet.new ((w.alloc (.cells #[.int .i64 0, .int .i64 0, .string ⟨#[]⟩, .int .i64 0, .slice none 0 0] 33)).alloc (.map #[] 0)) tb 203 (w.heap.size + 1 + 1) (w.heap.size + 1) (w.heap.size + 1 + 1 + 1) (by simp) (PMap.new _ _ (by simp)) ⟨by omega, by omega, by omega⟩
  have hA : Kept (fun _ => False) w (((w.alloc (.cells #[.int .i64 0, .int .i64 0, .string ⟨#[]⟩, .int .i64 0, .slice none 0 0] 33)).alloc (.map #[] 0)).alloc (.cells #[.map (some (w.heap.size + 1)), .slice none 0 0] 203)) := (((Kept.refl _ w).alloc _).alloc _).alloc _
  have hR0 : Five (((w.alloc (.cells #[.int .i64 0, .int .i64 0, .string ⟨#[]⟩, .int .i64 0, .slice none 0 0] 33)).alloc (.map #[] 0)).alloc (.cells #[.map (some (w.heap.size + 1)), .slice none 0 0] 203)) w.heap.size ⟨0, 0, ⟨#[]⟩, 0⟩ (.slice none 0 0) := (Five.new_at w ⟨0, 0, ⟨#[]⟩, 0⟩ _ _ _ rfl).kept (((Kept.refl (fun _ => False) _).alloc _).alloc _) (fun e => e)
  have hcells0 : ∀ i, i < g.nodes.length → CellsAt (((w.alloc (.cells #[.int .i64 0, .int .i64 0, .string ⟨#[]⟩, .int .i64 0, .slice none 0 0] 33)).alloc (.map #[] 0)).alloc (.cells #[.map (some (w.heap.size + 1)), .slice none 0 0] 203)) (tb i) := fun i hi => by
    obtain ⟨⟨c, t, hc⟩, hl⟩ := hcells i hi
    exact ⟨c, t, (hA.block _ hl (fun e => e)).trans hc⟩
  go_enter Try.func137, Try.ntmps137
  go_wp2_with (go_at_call 168; refine (valOf_any g.nodes.length tb (w.heap.size + 1 + 1) (w.heap.size + 1) (w.heap.size + 1 + 1 + 1) [] g.root none 0 _ hr (InvO.nil _) hn hinj hcells0 hM0 (by simp)).mono ?_; rintro e w1 ⟨ma1, mc1, rfl, hM1, hor1, hK1⟩; have hR1 := hR0.kept hK1 (fun hp => by rcases hp with hp | hp | hp <;> first | omega | cases hp); have hA1 := hA.trans hK1 (fun k hk hp => by rcases hp with hp | hp | hp <;> first | omega | cases hp))
  have hbw : w.heap.size + 1 + 1 + 1 ≤ w1.heap.size := by have := hK1.size; simpa using this
  have hst : FState w tb (w.heap.size + 1 + 1) (w.heap.size + 1) (w.heap.size + 1 + 1 + 1) w1.heap.size (renVal [] g.root) (w1.alloc (.cells #[.int .i64 (renVal [] g.root).kind, .int .i64 (renVal [] g.root).num, .string (renVal [] g.root).text, .int .i64 (renVal [] g.root).node, .slice none 0 0] 33)) (renOrd [] g.root) ma1 mc1 none 0 [] := {
    low := (hA1.below (Nat.le_refl _) (fun _ _ e => e)).alloc (by omega) _
    blk := ⟨by omega, hbw, by simp, by omega, by omega, by omega, by omega⟩
    res := hR1.kept ((Kept.refl (fun _ => False) _).alloc _) (fun e => e)
    out := Five.new_at _ _ _ _ _ rfl
    meet := hM1.kept ((Kept.refl (fun _ => False) _).alloc _) (fun e => e) (fun e => e) (fun _ _ e => e)
    own := ⟨World.ownsRow_nil _ _ _ _, fun x hx => (by cases hx), fun x hx => (by cases hx), fun i j _ hj => absurd hj (Nat.not_lt_zero _)⟩
    apm := fun b hb => by cases hb
    apvm := fun x hx => by cases hx
    notG := ⟨fun b hb => (by cases hb), far_of_lt fun b hb => (by have := (hM1.met.lt b (by rw [hb]; rfl)).2; omega), fun x hx => by cases hx⟩ }
  go_loopw [5] (fun i ws => ∃ (k : Nat) (ord : List Nat) (ma : Option Addr) (mc : Nat) (na : Option Addr) (nc : Nat) (nl : List NL), Hid (ord = canonO g.nodes (renOrd [] g.root) k) ∧ Hid (nl.map (·.n) = canonN g.nodes (renOrd [] g.root) k) ∧ Hid (nl.length = k) ∧ k ≤ ord.length ∧ i = .int .i64 k ∧ FState w tb (w.heap.size + 1 + 1) (w.heap.size + 1) (w.heap.size + 1 + 1 + 1) w1.heap.size (renVal [] g.root) ws ord ma mc na nc nl) (fun i _ => g.nodes.length - (intOf i).toNat)
  case atStart =>
    exact ⟨0, renOrd [] g.root, ma1, mc1, none, 0, [], by unfold canonO; rfl, by unfold canonN; rfl, rfl, Nat.zero_le _, rfl, hst⟩
  case round =>
    obtain ⟨k, ord, ma, mc, na, nc, nl, hord, hnl, hnll, hkle, rfl, hD⟩ := hrel
    have hinv : InvO g.nodes.length ord := by rw [hord.out]; exact canonO_inv ((InvO.nil _).ren hr) hns k
    have hole := hinv.le
    obtain ⟨mz, m0, m1, mf, mmap, mmet, mmlt⟩ := hD.meet
    obtain ⟨b1, b2, b3, b4, b5, b6, b7⟩ := hD.blk
    by_cases hkl : k < ord.length
    · obtain ⟨x, hx⟩ : ∃ x, Hid (x = ord[k]!) := ⟨_, rfl⟩
      have hxn : x < g.nodes.length := by rw [hx.out]; exact hinv.2 _ (mem_at hkl)
      obtain ⟨n, hnx⟩ : ∃ n, Hid (n = g.nodes[x]!) := ⟨_, rfl⟩
      have hnok : okN g.nodes.length n = true := by rw [hnx.out]; exact hns _ (mem_at hxn)
      have hck : (ord.map fun x => ptr (tb x))[k]? = some (ptr (tb x)) := by
        rw [List.getElem?_map, List.getElem?_eq_getElem hkl, hx.out, getElem!_pos ord k hkl]; rfl
      obtain ⟨gm, rfl, hgm1, hgm2, hgc⟩ := owns_cell mmet hck
      have hKd : Kept (fun _ => False) w wr.drew := (Kept.of_below hD.low (fun _ => False)).drew
      have hMd : Meet wr.drew tb (w.heap.size + 1 + 1) (w.heap.size + 1) (w.heap.size + 1 + 1 + 1) ord (some ⟨gm, 0, none⟩) mc := hD.meet.kept ((Kept.refl (fun _ => False) wr).drew) (fun e => e) (fun e => e) (fun _ _ e => e)
      have hcells' : ∀ i, i < g.nodes.length → CellsAt wr.drew (tb i) ∧ tb i < w.heap.size := fun i hi => by
        obtain ⟨⟨c, t, hc⟩, hl⟩ := hcells i hi
        exact ⟨⟨c, t, (hKd.block _ hl (fun e => e)).trans hc⟩, hl⟩
      have ht : Two wr.drew (tb x) n.tag (.slice (xa x) n.vals.length (xc x)) := by rw [hnx.out]; exact (hcell x hxn).kept hKd (fun e => e)
      have hv : wr.drew.ownsRow B 172 1 (.slice (xa x) n.vals.length (xc x)) n.vals.length (n.vals.map (encV tb)) := by rw [hnx.out]; exact hKd.owns (hvals x hxn) (fun _ _ e => e)
      have hxal : ∀ b, xa x = some ⟨b, 0, none⟩ → b < w.heap.size := fun b hb => ((hvals x hxn).lt b (by rw [hb]; rfl)).2
      have hbd : w.heap.size + 1 + 1 + 1 ≤ wr.drew.heap.size := by show _ ≤ wr.heap.size; omega
      have hcall := nodeOf_any g.nodes.length w.heap.size tb (w.heap.size + 1 + 1) (w.heap.size + 1) (w.heap.size + 1 + 1 + 1) n x B (xa x) (xc x) ord (some ⟨gm, 0, none⟩) mc wr.drew hnok hinv hn hxn hinj hcells' hMd hbd ⟨by omega, by omega⟩ ht hv hxal
      obtain ⟨oz, o0, o1, o2, o3, o4, of⟩ := hD.out
      have hi0 : (0 : Int) ≤ (k : Int) := by omega
      have hi1 : (k : Int) < (ord.length : Int) := by omega
      have hcall' : Hid _ := hcall
      have hgc' : wr.drew.cell? ⟨gm, k, none⟩ = some (ptr (tb x)) := hgc
      clear hcall
      go_wp2
      refine wp_regionU (fun u => u.cell? ⟨w1.heap.size, 4, none⟩ = some (.slice na nl.length nc)) 11 (by kernel_rfl) o4 (fun hS0 => ?_)
      refine anyU_take (i := 0) (v := ?_) rfl (by kernel_rfl) (by kernel_rfl) (by kernel_rfl) (by kernel_rfl) (fun _ _ _ h => h) (Or.inl ⟨by rfl, ?_⟩) hS0 ?_
      rotate_left
      · intro u hSu; (try dsimp only at hSu); go_simp <;> with_reducible rfl
      simp only [Act.put, List.getElem_toArray, List.getElem_cons_zero, List.setIfInBounds_toArray, List.set_cons_zero, List.set_cons_succ]
      refine anyU_take (i := 2) (v := ?_) rfl (by kernel_rfl) (by kernel_rfl) (by kernel_rfl) (by kernel_rfl) (fun _ _ _ h => h) (Or.inl ⟨by rfl, ?_⟩) hS0 ?_
      rotate_left
      · intro u hSu; (try dsimp only at hSu); go_simp <;> with_reducible rfl
      simp only [Act.put, List.getElem_toArray, List.getElem_cons_zero, List.getElem_cons_succ, List.setIfInBounds_toArray, List.set_cons_zero, List.set_cons_succ]
      refine anyU_take (i := 4) (v := ?_) rfl (by kernel_rfl) (by kernel_rfl) (by kernel_rfl) (by kernel_rfl) (fun _ _ _ h => h) (Or.inl ⟨by rfl, ?_⟩) hS0 ?_
      rotate_left
      · intro u hSu; (try dsimp only at hSu); go_simp <;> with_reducible rfl
      simp only [Act.put, List.getElem_toArray, List.getElem_cons_zero, List.getElem_cons_succ, List.setIfInBounds_toArray, List.set_cons_zero, List.set_cons_succ]
      refine anyU_take (i := 1) (v := ?_) rfl (by kernel_rfl) (by kernel_rfl) (by kernel_rfl) (by kernel_rfl) (fun _ _ _ h => h) (Or.inl ⟨by rfl, ?_⟩) hS0 ?_
      rotate_left
      · intro u hSu; (try dsimp only at hSu); go_simp <;> with_reducible rfl
      simp only [Act.put, List.getElem_toArray, List.getElem_cons_zero, List.getElem_cons_succ, List.setIfInBounds_toArray, List.set_cons_zero, List.set_cons_succ]
      refine anyU_one (i := 3) (by kernel_rfl) rfl (fun K hK => ?_)
      go_simp
      refine hK.out _ _ hS0 ?_
      clear hK
      refine anyU_one (i := 5) (by kernel_rfl) rfl (fun K hK => ?_)
      go_simp
      refine hK.out _ _ hS0 ?_
      clear hK
      refine anyU_one (i := 6) (by kernel_rfl) rfl (fun K hK => ?_)
      go_simp
      refine hK.out _ _ hS0 ?_
      clear hK
      refine anyU_one (i := 7) (by kernel_rfl) rfl (fun K hK => ?_)
      go_simp
      refine Calls.mono hcall'.out ?_
      rintro e w2 ⟨ma2, mc2, va, vc, rfl, hM2, hor2, hv2, hap2, hK2⟩
      have hvl2 := renVals_length ord n.vals
      obtain ⟨vs, hvs⟩ : ∃ vs, Hid (vs = renVals ord n.vals) := ⟨_, rfl⟩
      rw [← hvs.out] at hv2
      simp only [nodeVal]
      rw [← hvs.out]
      have hKw : Kept (fun k => k = w.heap.size + 1 + 1 ∨ k = w.heap.size + 1 ∨ some ⟨gm, 0, none⟩ = some (⟨k, 0, none⟩ : Addr)) wr w2 := ((Kept.refl (fun k => k = w.heap.size + 1 + 1 ∨ k = w.heap.size + 1 ∨ some ⟨gm, 0, none⟩ = some (⟨k, 0, none⟩ : Addr)) wr).drew).trans hK2 (fun _ _ e => e)
      have hng := hD.notG
      have hnG : ¬ (w1.heap.size = w.heap.size + 1 + 1 ∨ w1.heap.size = w.heap.size + 1 ∨ some ⟨gm, 0, none⟩ = some (⟨w1.heap.size, 0, none⟩ : Addr)) := fun hp => by
        rcases hp with hp | hp | hp
        · omega
        · omega
        · exact hng.2.1.ne hp rfl
      have hO2 : Five w2 w1.heap.size (renVal [] g.root) (.slice na nl.length nc) := hD.out.kept hKw hnG
      have hS1 := hO2.c4
      have hn2 : Hid _ := hKw.owns hD.own.nodes (fun b hb hp => by
        have h8 := hD.own.nodes.lt b hb
        rcases hp with hp | hp | hp
        · omega
        · omega
        · exact hD.apm b (owns_addr hD.own.nodes hb) hp)
      have hb2 : w.heap.size + 1 + 1 + 1 ≤ w2.heap.size := by have := hKw.size; omega
      have hS2 : (w2.alloc (.cells #[.int .i64 n.tag, .slice va vs.length vc] 116)).cell? ⟨w1.heap.size, 4, none⟩ = some (.slice na nl.length nc) := ((Kept.refl (fun _ => False) w2).alloc _).cell hS1 (fun e => e)
      have hS2' : Hid _ := hS2
      clear hS2
      refine hK.out _ _ hS1 ?_
      clear hK
      refine anyU_one (i := 8) (by kernel_rfl) rfl (fun K hK => ?_)
      go_simp
      refine hK.out _ _ hS2'.out ?_
      clear hK
      refine anyU_one (i := 9) (by kernel_rfl) rfl (fun K hK => ?_)
      refine step_append_lies _ (by rfl) (.tmp 19) (.tmp 26) 31 rfl (w.heap.size + 1 + 1 + 1) 116 j0 _ 2 32 Try.underlying31 hj hy0 hy1 hy2 rfl (by decide) (.slice na nl.length nc) nl.length (nodeCells nl) (by rfl) (World.ownsRow.alloc hn2.out _) ⟨w2.heap.size, 0, none⟩ 1 1 [.int .i64 n.tag, .slice va vs.length vc] (by rfl) rfl (World.news_of_block (cs := #[.int .i64 n.tag, .slice va vs.length vc]) (t := 116) (fr := (0, 0)) (blk_new_at _ _ _ rfl)) (by simp [Value.oneCell']) (by decide) (by have h7 := hnll.out; unfold maxLen; omega) (by have h7 := hnll.out; omega) (by simp; omega) (w2.heap.size + 1) (by simp) ?_
      intro gg cc w3 hown3 hgrow3 hat3 hlt3
      have hX3 := (hO2.kept ((Kept.refl (fun _ => False) w2).alloc _) (fun e => e)).kept (Kept.of_grown hgrow3) (fun hp => hng.1.ne (owns_addr hD.own.nodes hp) rfl)
      obtain ⟨yz, y0, y1, y2, y3, y4, yf⟩ := id hX3
      refine hK.out _ _ y4 ?_
      clear hK
      simp only [Act.put, List.getElem_toArray, List.getElem_cons_zero, List.getElem_cons_succ, List.setIfInBounds_toArray, List.set_cons_zero, List.set_cons_succ]
      refine anyU_one (i := 10) (by kernel_rfl) rfl (fun K hK => ?_)
      go_simp
      refine hK.out _ _ y4 ?_
      clear hK
      refine anyU_last (by kernel_rfl) rfl (by kernel_rfl) (fun K hK => ?_)
      go_simp
      refine hK.out _ _ ?_
      clear hK
      have hfin := hD.next (n := ⟨n.tag, vs⟩) hM2 hor2 hv2 hap2 hKw hown3 hgrow3 hat3
      have hs1 : Hid (canonO g.nodes (renOrd [] g.root) (k + 1) = renOrds ord n.vals) := by show canonO _ _ _ = _; rw [canonO_succ, ← hord.out, if_pos hkl, ← hx.out, ← hnx.out]
      have hs2 : Hid (canonN g.nodes (renOrd [] g.root) (k + 1) = (nl ++ [(⟨⟨n.tag, vs⟩, va, vc⟩ : NL)]).map (·.n)) := by show canonN _ _ _ = _; rw [canonN_succ, ← hord.out, if_pos hkl, ← hx.out, ← hnx.out, ← hnl.out, hvs.out]; simp
      have hle := renOrds_le ord n.vals
      go_wp2
      go_roundw
      case rel => exact ⟨k + 1, renOrds ord n.vals, ma2, mc2, some ⟨gg, 0, none⟩, cc, nl ++ [(⟨⟨n.tag, vs⟩, va, vc⟩ : NL)], hs1.out.symm, hs2.out.symm, by have := hnll.out; show (nl ++ [(⟨⟨n.tag, vs⟩, va, vc⟩ : NL)]).length = k + 1; simp [this], by omega, by go_num, hfin⟩
      case measure => simp [intOf]; omega
    · have hce : Hid (canon g = ⟨renVal [] g.root, nl.map (·.n)⟩) := by show canon g = _; rw [canon_at (k := k) (by omega) (by rw [← hord.out]; omega), hnl.out]
      obtain ⟨oz, o0, o1, o2, o3, o4, of⟩ := hD.out
      obtain ⟨rz, r0, r1, r2, r3, r4, rf⟩ := hD.res
      have hC : Kept (fun b => b = w.heap.size) wr (((((wr.setCell ⟨w.heap.size, 0, none⟩ (.int .i64 (renVal [] g.root).kind)).setCell ⟨w.heap.size, 1, none⟩ (.int .i64 (renVal [] g.root).num)).setCell ⟨w.heap.size, 2, none⟩ (.string (renVal [] g.root).text)).setCell ⟨w.heap.size, 3, none⟩ (.int .i64 (renVal [] g.root).node)).setCell ⟨w.heap.size, 4, none⟩ (.slice na nl.length nc)) := (((((Kept.refl (fun b => b = w.heap.size) wr).set (fun _ => rfl) _).set (fun _ => rfl) _).set (fun _ => rfl) _).set (fun _ => rfl) _).set (fun _ => rfl) _
      have hown := (hD.own.kept hC (fun b hb hp => by have := hD.own.nodes.lt b (by rw [hb]; rfl); omega) (fun x hx b hb hp => by have := (hD.own.vals x hx).lt b (by rw [hb]; rfl); omega)).le (show w.heap.size ≤ w.heap.size + 1 + 1 + 1 by omega)
      have hlow := hD.low.trans (hC.below hD.low.size (fun k hk hp => by omega))
      clear hM0 hA hR0 hcells0 hK1 hA1 hR1
      go_wp2
      refine bodyPost_ret (v := .agg #[.int .i64 (renVal [] g.root).kind, .int .i64 (renVal [] g.root).num, .string (renVal [] g.root).text, .int .i64 (renVal [] g.root).node, .slice na nl.length nc]) (by simp [results, Try.results137, go_sem, r0, r1, r2, r3, r4]) rfl ⟨na, nc, nl, by rw [hce.out]; simp [GG.val], by rw [hce.out], hown, hlow⟩

end Go.Proofs.Ythjddpkegooobab

/-
  CANONI: the program's Canon. Own work.
-/
namespace Go.Proofs.Ythjddpkegooobab
open Go.RowKit

/-- Canon of any graph -/
def canonZ (g : GG) : GG := if okG g = true then canon g else ⟨⟨0, 0, ⟨#[]⟩, 0⟩, []⟩

/-- what Canon leaves -/
def CanonIPost (g : GG) (w : World) (e : Ending) (w' : World) : Prop :=
  ∃ (na : Option Addr) (nc : Nat) (nl : List NL), e = .returned ((canonZ g).val na nc) ∧ nl.map (·.n) = (canonZ g).nodes ∧ OwnG w' w.heap.size na nc nl ∧ Below w.heap.size w w'

set_option maxRecDepth 100000 in
theorem L2.cells {g : GG} {a : Option Addr} {cap : Nat} {w : World} {B : Nat} {tb : Nat → Nat} {ws : World} {m : Nat → Nat} {xa : Nat → Option Addr} {xc : Nat → Nat} (h : L2 g a cap w B tb ws m xa xc) {i : Nat} (hi : i < g.nodes.length) : CellsAt ws (tb i) ∧ tb i < ws.heap.size := ⟨(h.cell i hi).z, (h.cell i hi).lt⟩
theorem L2.all {g : GG} {a : Option Addr} {cap : Nat} {w : World} {B : Nat} {tb : Nat → Nat} {ws : World} {xa : Nat → Option Addr} {xc : Nat → Nat} (h : L2 g a cap w B tb ws (fun i => g.nodes[i]!.vals.length) xa xc) {i : Nat} (hi : i < g.nodes.length) : ws.ownsRow B 172 1 (.slice (xa i) g.nodes[i]!.vals.length (xc i)) g.nodes[i]!.vals.length (g.nodes[i]!.vals.map (encV tb)) := by
  have h1 := h.vals i hi
  rwa [List.take_length] at h1

set_option maxRecDepth 100000 in
theorem implCanon_any (a : Option Addr) (cap : Nat) (g : GG) (w : World) (hg : g.Ok) (ha : NodesAt w.heap.size w a g.nodes) :
    Calls Try.prog 76 #[g.val a cap] w (CanonIPost g w) := by
  have hR0 := Five.new_at (w.alloc (.cells #[.int .i64 g.root.kind, .int .i64 g.root.num, .string g.root.text, .int .i64 g.root.node, .slice a g.nodes.length cap] 33)) ⟨0, 0, ⟨#[]⟩, 0⟩ (.slice none 0 0) 33 (w.heap.size + 1) (by simp)
  have hX0 := (GBox.new w g a cap 33).grow (gal (gre _) (.cells #[.int .i64 0, .int .i64 0, .string ⟨#[]⟩, .int .i64 0, .slice none 0 0] 33))
  cases hok : okG g with
  | false =>
    have hz : Hid (canonZ g = ⟨⟨0, 0, ⟨#[]⟩, 0⟩, []⟩) := if_neg (by rw [hok]; exact Bool.false_ne_true)
    have hok' : Hid _ := hok
    go_enter Try.func76, Try.ntmps76
    go_wp2_with (go_at_call 74; refine (implGraphOk_any a cap g _ hg (ha.grow (gal (gal (gre _) _) _))).mono ?_; rintro e w1 ⟨rfl, hb1⟩; obtain ⟨rz, r0, r1, r2, r3, r4, rf⟩ := hR0.kept (Kept.of_below hb1 (fun _ => False)) (fun e => e); rw [hok'.out])
    refine bodyPost_ret (v := .agg #[.int .i64 0, .int .i64 0, .string ⟨#[]⟩, .int .i64 0, .slice none 0 0]) (by simp [results, Try.results76, go_sem, r0, r1, r2, r3, r4]) rfl ⟨none, 0, [], by rw [hz.out]; rfl, by rw [hz.out]; rfl, ⟨World.ownsRow_nil _ _ _ _, fun x hx => (by cases hx), fun x hx => (by cases hx), fun i j _ hj => absurd hj (Nat.not_lt_zero _)⟩, ?_⟩
    have hb2 := gca (gal (gal (gre w) _) _) hb1
    exact ((((hb2.setCell (by simp) _).setCell (by simp) _).setCell (by simp) _).setCell (by simp) _).setCell (by simp) _
  | true =>
    have hz : Hid (canonZ g = canon g) := if_pos hok
    have hok' : Hid _ := hok
    go_enter Try.func76, Try.ntmps76
    go_wp2_with (first
      | (go_at_call 74; refine (implGraphOk_any a cap g _ hg (ha.grow (gal (gal (gre _) _) _))).mono ?_; rintro e w1 ⟨rfl, hb1⟩; obtain ⟨xz, x0, x1, x2, x3, x4⟩ := hX0.grow hb1; rw [hok'.out])
      | (go_at_call 138; refine (linked_any a cap g _ hok'.out (ha.grow (gca (gal (gal (gre _) _) _) hb1))).mono ?_; rintro e w2 ⟨B, tb, xa, xc, rfl, hL⟩)
      | (go_at_call 137; refine (formOf_any g tb B xa xc _ hok'.out hL.inj (fun i hi => L2.cells hL hi) hL.cell (fun i hi => L2.all hL hi)).mono ?_; rintro e w3 ⟨na, nc, nl, rfl, hnl, hown, hb3⟩; have hR3 := hR0.kept (Kept.of_below (gca (gca hb1 hL.low) hb3) (fun _ => False)) (fun e => e); obtain ⟨rz, r0, r1, r2, r3, r4, rf⟩ := id hR3))
    have hw2 : w.heap.size + 1 + 1 ≤ w2.heap.size := by have h1 := hb1.size; have h2 := hL.low.size; simp at h1; omega
    have hC : Kept (fun b => b = w.heap.size + 1) w3 (((((w3.setCell ⟨w.heap.size + 1, 0, none⟩ (.int .i64 (canon g).root.kind)).setCell ⟨w.heap.size + 1, 1, none⟩ (.int .i64 (canon g).root.num)).setCell ⟨w.heap.size + 1, 2, none⟩ (.string (canon g).root.text)).setCell ⟨w.heap.size + 1, 3, none⟩ (.int .i64 (canon g).root.node)).setCell ⟨w.heap.size + 1, 4, none⟩ (.slice na (canon g).nodes.length nc)) := (((((Kept.refl (fun b => b = w.heap.size + 1) w3).set (fun _ => rfl) _).set (fun _ => rfl) _).set (fun _ => rfl) _).set (fun _ => rfl) _).set (fun _ => rfl) _
    have hown' := (hown.kept hC (fun b hb hp => by have := hown.nodes.lt b (by rw [hb]; rfl); omega) (fun x hx b hb hp => by have := (hown.vals x hx).lt b (by rw [hb]; rfl); omega)).le (show w.heap.size ≤ w2.heap.size by omega)
    have hb4 := gca (gca (gca (gal (gal (gre w) _) _) hb1) hL.low) hb3
    refine bodyPost_ret (v := (canon g).val na nc) (by simp [results, Try.results76, go_sem, r0, r1, r2, r3, r4]) rfl ⟨na, nc, nl, by rw [hz.out], by rw [hz.out]; exact hnl, hown', hb4.trans (hC.below hb4.size (fun k hk hp => by omega))⟩

end Go.Proofs.Ythjddpkegooobab
