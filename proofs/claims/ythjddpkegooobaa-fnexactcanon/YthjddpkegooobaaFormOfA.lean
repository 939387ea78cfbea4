/-
  FORMOFA: what stands in the program's one form. Own work.
-/
import Derived.Test.YthjddpkegooobaaNodeOf
namespace Go.Proofs.Ythjddpkegooobaa
open Go.RowKit

/-- the two lie in different blocks -/
def Far (a a' : Option Addr) : Prop := ∀ b, a = some ⟨b, 0, none⟩ → a' ≠ some ⟨b, 0, none⟩
theorem Far.symm {a a' : Option Addr} (h : Far a a') : Far a' a := fun b hb hx => h b hx hb

/-- a graph that owns its memory, from block 'base' on, each list in a row of its own -/
structure OwnG (w : World) (base : Nat) (na : Option Addr) (nc : Nat) (nl : List NL) : Prop where
  nodes : w.ownsRow base 84 2 (.slice na nl.length nc) nl.length (nodeCells nl)
  vals : ∀ x, x ∈ nl → w.ownsRow base 24 4 (.slice x.a x.n.vals.length x.cap) x.n.vals.length (valCells x.n.vals)
  apn : ∀ x, x ∈ nl → Far x.a na
  apv : ∀ i j, i < j → j < nl.length → Far nl[i]!.a nl[j]!.a

theorem OwnG.kept {p : Nat → Prop} {w w' : World} {base : Nat} {na : Option Addr} {nc : Nat} {nl : List NL} (h : OwnG w base na nc nl) (k : Kept p w w') (hn : ∀ b, na = some ⟨b, 0, none⟩ → ¬ p b) (hv : ∀ x, x ∈ nl → ∀ b, x.a = some ⟨b, 0, none⟩ → ¬ p b) : OwnG w' base na nc nl :=
  ⟨k.owns h.nodes (fun b hb => hn b (owns_addr h.nodes hb)), fun x hx => k.owns (h.vals x hx) (fun b hb => hv x hx b (owns_addr (h.vals x hx) hb)), h.apn, h.apv⟩
theorem OwnG.at_ {w : World} {base : Nat} {na : Option Addr} {nc : Nat} {nl : List NL} (h : OwnG w base na nc nl) : NodesAt w.heap.size w na (nl.map (·.n)) :=
  owns_nodes h.nodes (fun x hx => owns_vals (h.vals x hx) (Nat.le_refl _))
theorem OwnG.le {w : World} {base base' : Nat} {na : Option Addr} {nc : Nat} {nl : List NL} (h : OwnG w base na nc nl) (hb : base' ≤ base) : OwnG w base' na nc nl :=
  ⟨owns_le h.nodes hb, fun x hx => owns_le (h.vals x hx) hb, h.apn, h.apv⟩

/-- what stands at the head of the round -/
structure FState (w : World) (tb : Nat → Nat) (M mb base G : Nat) (rv : GV) (ws : World) (ord : List Nat) (ma : Option Addr) (mc : Nat) (na : Option Addr) (nc : Nat) (nl : List NL) : Prop where
  low : Below w.heap.size w ws
  blk : w.heap.size < base ∧ base ≤ G ∧ G < ws.heap.size ∧ M < base ∧ mb < base ∧ w.heap.size < M ∧ w.heap.size < mb
  res : Five ws w.heap.size ⟨0, 0, ⟨#[]⟩, 0⟩ (.slice none 0 0)
  out : Five ws G rv (.slice na nl.length nc)
  meet : Meet ws tb M mb base ord ma mc
  own : OwnG ws base na nc nl
  apm : Far na ma
  apvm : ∀ x, x ∈ nl → Far x.a ma
  notG : Far na (some ⟨G, 0, none⟩) ∧ Far ma (some ⟨G, 0, none⟩) ∧ ∀ x, x ∈ nl → Far x.a (some ⟨G, 0, none⟩)

theorem far_of_lt {a : Option Addr} {G : Nat} (h : ∀ b, a = some ⟨b, 0, none⟩ → b ≠ G) : Far a (some ⟨G, 0, none⟩) := fun b hb hx => h b hb (some_addr hx).symm
theorem Far.ne {a : Option Addr} {G b : Nat} (h : Far a (some ⟨G, 0, none⟩)) (hb : a = some ⟨b, 0, none⟩) : b ≠ G := fun e => h b hb (by rw [e])

section
variable {w : World} {tb : Nat → Nat} {M mb base G : Nat} {rv : GV} {ws : World} {ord : List Nat} {ma : Option Addr} {mc : Nat} {na : Option Addr} {nc : Nat} {nl : List NL}

theorem FState.next (h : FState w tb M mb base G rv ws ord ma mc na nc nl) {n : GN} {w1 w3 : World} {ord1 : List Nat} {ma1 : Option Addr} {mc1 : Nat} {va : Option Addr} {vc : Nat} {o : Obj} {gg cc : Nat}
    (hM1 : Meet w1 tb M mb base ord1 ma1 mc1) (hor1 : ma1 = ma ∨ ∃ b, ma1 = some ⟨b, 0, none⟩ ∧ ws.heap.size ≤ b) (hv1 : w1.ownsRow ws.heap.size 24 4 (.slice va n.vals.length vc) n.vals.length (valCells n.vals)) (hap1 : Far va ma1) (hK1 : Kept (fun k => k = M ∨ k = mb ∨ ma = some ⟨k, 0, none⟩) ws w1)
    (hown : w3.ownsRow base 84 2 (.slice (some ⟨gg, 0, none⟩) (nl.length + 1) cc) (nl.length + 1) (nodeCells nl ++ [.int .i64 n.tag, .slice va n.vals.length vc]))
    (hgrow : (w1.alloc o).grownBy w3 (Value.slice na nl.length nc).ownBlock) (hat : (Value.slice na nl.length nc).ownBlock = some gg ∨ gg = w1.heap.size + 1) :
    FState w tb M mb base G rv (w3.setCell ⟨G, 4, none⟩ (.slice (some ⟨gg, 0, none⟩) (nl.length + 1) cc)) ord1 ma1 mc1 (some ⟨gg, 0, none⟩) cc (nl ++ [⟨n, va, vc⟩]) := by
  obtain ⟨b1, b2, b3, b4, b5, b6, b7⟩ := h.blk
  have hs1 := hK1.size
  have hA : Kept (fun _ => False) w1 (w1.alloc o) := (Kept.refl _ w1).alloc _
  have hG := Kept.of_grown hgrow
  have hs3 : w1.heap.size + 1 ≤ w3.heap.size := by have := hgrow.size; simpa using this
  have hC := (Kept.refl (fun b => b = G) w3).set (a := ⟨G, 4, none⟩) (fun _ => rfl) (.slice (some ⟨gg, 0, none⟩) (nl.length + 1) cc)
  have hnb : ∀ b, (Value.slice na nl.length nc).ownBlock = some b → base ≤ b ∧ b < ws.heap.size ∧ na = some ⟨b, 0, none⟩ := fun b hb => ⟨(h.own.nodes.lt b hb).1, (h.own.nodes.lt b hb).2, owns_addr h.own.nodes hb⟩
  have hmab : ∀ b, ma = some ⟨b, 0, none⟩ → base ≤ b ∧ b < ws.heap.size := fun b hb => h.meet.met.lt b (by rw [hb]; rfl)
  have hma1b : ∀ b, ma1 = some ⟨b, 0, none⟩ → base ≤ b ∧ b < w1.heap.size ∧ (ma = some ⟨b, 0, none⟩ ∨ ws.heap.size ≤ b) := fun b hb => by
    have h1 := hM1.met.lt b (by rw [hb]; rfl)
    refine ⟨h1.1, h1.2, ?_⟩
    rcases hor1 with e | ⟨c, e, hc⟩
    · exact Or.inl (by rw [← e, hb])
    · rw [hb] at e; have := some_addr e; exact Or.inr (by omega)
  have hvab : ∀ b, va = some ⟨b, 0, none⟩ → ws.heap.size ≤ b ∧ b < w1.heap.size := fun b hb => hv1.lt b (by rw [hb]; rfl)
  have hxb : ∀ x, x ∈ nl → ∀ b, x.a = some ⟨b, 0, none⟩ → base ≤ b ∧ b < ws.heap.size := fun x hx b hb => (h.own.vals x hx).lt b (by rw [hb]; rfl)
  have hggb : base ≤ gg ∧ (na = some ⟨gg, 0, none⟩ ∨ w1.heap.size < gg) := ⟨(hown.lt gg rfl).1, hat.imp (fun e => (hnb gg e).2.2) (fun e => by omega)⟩
  have hnG := h.notG
  have hp1 : ∀ b, base ≤ b ∧ ma ≠ some ⟨b, 0, none⟩ → ¬ (b = M ∨ b = mb ∨ ma = some ⟨b, 0, none⟩) := fun b hb hp => by
    rcases hp with hp | hp | hp
    · omega
    · omega
    · exact hb.2 hp
  exact {
    low := by
      have h1 : Below w.heap.size ws w1 := hK1.below h.low.size (fun k hk hp => by
        rcases hp with hp | hp | hp
        · omega
        · omega
        · have := hmab k hp; omega)
      have h2 : Below w.heap.size w1 w3 := ((hA.mono (q := fun k => (Value.slice na nl.length nc).ownBlock = some k) (fun _ _ e => e.elim)).trans hG (fun _ _ e => e)).below (by have := h.low.size; omega) (fun k hk hp => by have := hnb k hp; omega)
      exact ((h.low.trans h1).trans h2).trans (hC.below (by have := h.low.size; omega) (fun k hk hp => by omega))
    blk := ⟨b1, b2, by have := hC.size; omega, b4, b5, b6, b7⟩
    res := by
      refine (((h.res.kept hK1 (fun hp => ?_)).kept hA (fun e => e)).kept hG (fun hp => by have := hnb _ hp; omega)).kept hC (by omega)
      rcases hp with hp | hp | hp
      · omega
      · omega
      · have := hmab _ hp; omega
    out := by
      have h1 := ((h.out.kept hK1 (hp1 G ⟨b2, fun e => hnG.2.1.ne e rfl⟩)).kept hA (fun e => e)).kept hG (fun hp => hnG.1.ne (hnb _ hp).2.2 rfl)
      simpa using h1.set (s' := .slice (some ⟨gg, 0, none⟩) (nl.length + 1) cc)
    meet := ((hM1.kept hA (fun e => e) (fun e => e) (fun _ _ e => e)).kept hG (fun hp => by have := hnb _ hp; omega) (fun hp => by have := hnb _ hp; omega) (fun b hb hp => by
        have h2 := hnb b hp
        rcases (hma1b b hb).2.2 with e | e
        · exact h.apm b h2.2.2 e
        · omega)).kept hC (by omega) (by omega) (fun b hb hp => by
        rcases (hma1b b hb).2.2 with e | e
        · exact hnG.2.1.ne e hp
        · omega)
    own := by
      refine ⟨?_, fun x hx => ?_, fun x hx => ?_, fun i j hij hj => ?_⟩
      · have h1 := hC.owns hown (fun b hb hp => by
          have e := owns_addr hown hb
          have e2 := some_addr e
          rcases hggb.2 with e3 | e3
          · exact hnG.1.ne e3 (by omega)
          · omega)
        simpa [nodeCells_snoc] using h1
      · rcases List.mem_append.1 hx with hx | hx
        · have h1 := h.own.vals x hx
          refine hC.owns (hG.owns (hA.owns (hK1.owns h1 (fun b hb => ?_)) (fun _ _ e => e)) (fun b hb hp => h.own.apn x hx b (owns_addr h1 hb) (hnb b hp).2.2)) (fun b hb hp => (hnG.2.2 x hx).ne (owns_addr h1 hb) hp)
          exact hp1 b ⟨(h1.lt b hb).1, h.apvm x hx b (owns_addr h1 hb)⟩
        · simp at hx
          subst hx
          refine hC.owns (hG.owns (hA.owns (owns_le hv1 (by omega)) (fun _ _ e => e)) (fun b hb hp => ?_)) (fun b hb hp => ?_)
          · have h2 := hvab b (owns_addr hv1 hb); have h3 := hnb b hp; omega
          · have h2 := hvab b (owns_addr hv1 hb); omega
      · intro b hb hx2
        have e := some_addr hx2
        subst e
        rcases List.mem_append.1 hx with hx | hx
        · rcases hggb.2 with e3 | e3
          · exact h.own.apn x hx gg hb e3
          · have := hxb x hx gg hb; omega
        · simp at hx
          subst hx
          have h2 := hvab gg hb
          rcases hggb.2 with e3 | e3
          · have h4 := h.own.nodes.lt gg (by rw [e3]; rfl); omega
          · omega
      · have hj' : j < nl.length + 1 := by simpa using hj
        have hi' : i < nl.length := by omega
        have ei : (nl ++ [(⟨n, va, vc⟩ : NL)])[i]! = nl[i]! := by rw [getElem!_pos _ i (by simp; omega), getElem!_pos nl i hi', List.getElem_append_left hi']
        rw [ei]
        by_cases ej : j < nl.length
        · have ej2 : (nl ++ [(⟨n, va, vc⟩ : NL)])[j]! = nl[j]! := by rw [getElem!_pos _ j hj, getElem!_pos nl j ej, List.getElem_append_left ej]
          rw [ej2]
          exact h.own.apv i j hij ej
        · have ej2 : (nl ++ [(⟨n, va, vc⟩ : NL)])[j]! = ⟨n, va, vc⟩ := by
            have e : j = nl.length := by omega
            subst e
            rw [getElem!_pos (nl ++ [(⟨n, va, vc⟩ : NL)]) nl.length (by simp)]; simp
          rw [ej2]
          intro b hb hx2
          have hm : (nl[i]!) ∈ nl := by rw [getElem!_pos nl i hi']; exact List.getElem_mem _
          have h2 := hxb (nl[i]!) hm b hb
          have h3 := hvab b hx2
          omega
    apm := fun b hb hx => by
      have e := some_addr hb
      subst e
      rcases hggb.2 with e3 | e3
      · rcases (hma1b gg hx).2.2 with e | e
        · exact h.apm gg e3 e
        · have h4 := h.own.nodes.lt gg (by rw [e3]; rfl); omega
      · have := hma1b gg hx; omega
    apvm := fun x hx => by
      rcases List.mem_append.1 hx with hx | hx
      · intro b hb hx2
        rcases (hma1b b hx2).2.2 with e | e
        · exact h.apvm x hx b hb e
        · have := hxb x hx b hb; omega
      · simp at hx
        subst hx
        exact hap1
    notG := by
      refine ⟨far_of_lt fun b hb => ?_, far_of_lt fun b hb => ?_, fun x hx => ?_⟩
      · have e := some_addr hb
        subst e
        rcases hggb.2 with e3 | e3
        · exact hnG.1.ne e3
        · omega
      · rcases (hma1b b hb).2.2 with e | e
        · exact hnG.2.1.ne e
        · omega
      · rcases List.mem_append.1 hx with hx | hx
        · exact hnG.2.2 x hx
        · simp at hx
          subst hx
          exact far_of_lt fun b hb => by have := hvab b hb; omega }
end

end Go.Proofs.Ythjddpkegooobaa
