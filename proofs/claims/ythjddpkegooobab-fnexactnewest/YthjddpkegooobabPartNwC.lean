import Derived.Deep.RegionHeld3
import Derived.Test.YthjddpkegooobabPartNwB

/-
  SPECCANONA: what stands in the specification's one form. Own work.
-/
namespace Go.Proofs.Ythjddpkegooobab
open Go.RowKit

/-- what stands at the head of the outer round -/
structure CState (g : GG) (a : Option Addr) (cap : Nat) (w : World) (wr : World) (ord : List Nat) (oa : Option Addr) (ocap : Nat) (na : Option Addr) (ncap : Nat) (nl : List NL) : Prop where
  low : Below w.heap.size w wr
  base : w.heap.size + 1 + 1 + 1 + 1 ≤ wr.heap.size
  box : GBox wr w.heap.size g a cap
  res : Five wr (w.heap.size + 1) ⟨0, 0, .empty, 0⟩ (.slice none 0 0)
  out : Five wr (w.heap.size + 1 + 1) (renVal [] g.root) (.slice na nl.length ncap)
  wher : wr.rowIs (w.heap.size + 1 + 1 + 1) 3 g.nodes.length (fun i => .int .i64 (whereOf ord i))
  ordr : wr.ownsRow (w.heap.size + 1 + 1 + 1 + 1) 3 1 (.slice oa ord.length ocap) ord.length (ints ord)
  nodes : wr.ownsRow (w.heap.size + 1 + 1 + 1 + 1) 116 2 (.slice na nl.length ncap) nl.length (nodeCells nl)
  vals : ∀ x, x ∈ nl → wr.ownsRow (w.heap.size + 1 + 1 + 1 + 1) 30 4 (.slice x.a x.n.vals.length x.cap) x.n.vals.length (valCells x.n.vals)
  apon : ∀ b, na = some ⟨b, 0, none⟩ → oa ≠ some ⟨b, 0, none⟩
  apv : ∀ x, x ∈ nl → ∀ b, x.a = some ⟨b, 0, none⟩ → oa ≠ some ⟨b, 0, none⟩ ∧ na ≠ some ⟨b, 0, none⟩

theorem GBox.kept {p : Nat → Prop} {w w' : World} {b : Nat} {g : GG} {a : Option Addr} {cap : Nat} (h : GBox w b g a cap) (k : Kept p w w') (hn : ¬ p b) : GBox w' b g a cap :=
  ⟨Nat.lt_of_lt_of_le h.lt k.size, k.cell h.kind hn, k.cell h.num hn, k.cell h.text hn, k.cell h.node hn, k.cell h.sl hn⟩

/-- behind the first loop -/
structure CStart (g : GG) (a : Option Addr) (cap : Nat) (w : World) (wr : World) (f : Nat → Value) : Prop where
  low : Below w.heap.size w wr
  base : w.heap.size + 1 + 1 + 1 + 1 ≤ wr.heap.size
  box : GBox wr w.heap.size g a cap
  res : Five wr (w.heap.size + 1) ⟨0, 0, .empty, 0⟩ (.slice none 0 0)
  out : Five wr (w.heap.size + 1 + 1) ⟨0, 0, .empty, 0⟩ (.slice none 0 0)
  wher : wr.rowIs (w.heap.size + 1 + 1 + 1) 3 g.nodes.length f

theorem CStart.set {g : GG} {a : Option Addr} {cap : Nat} {w wr : World} {f : Nat → Value} (h : CStart g a cap w wr f) (k : Nat) (u : Value) : CStart g a cap w (wr.setCell ⟨w.heap.size + 1 + 1 + 1, k, none⟩ u) (fun j => if j = k then u else f j) := by
  have hq : Kept (fun k => k = w.heap.size + 1 + 1 + 1) wr (wr.setCell ⟨w.heap.size + 1 + 1 + 1, k, none⟩ u) := (Kept.refl (fun k => k = w.heap.size + 1 + 1 + 1) wr).set (fun _ => rfl) _
  exact ⟨h.low.setCell (by simp; omega) _, by have := h.base; simpa [World.setCell] using this, h.box.kept hq (by omega), h.res.kept hq (by omega), h.out.kept hq (by omega), h.wher.set k u⟩

theorem CState.start {g : GG} {a : Option Addr} {cap : Nat} {w wr w1 : World} {f : Nat → Value} {oa : Option Addr} {ocap : Nat} (h : CStart g a cap w wr f)
    (hw1 : w1.rowIs (w.heap.size + 1 + 1 + 1) 3 g.nodes.length (fun i => .int .i64 (whereOf (renOrd [] g.root) i)))
    (ho1 : w1.ownsRow (w.heap.size + 1 + 1 + 1 + 1) 3 1 (.slice oa (renOrd [] g.root).length ocap) (renOrd [] g.root).length (ints (renOrd [] g.root)))
    (hK : Kept (fun k => k = w.heap.size + 1 + 1 + 1 ∨ (none : Option Addr) = some ⟨k, 0, none⟩) wr w1) :
    CState g a cap w ((((w1.setCell ⟨w.heap.size + 1 + 1, 0, none⟩ (.int .i64 (renVal [] g.root).kind)).setCell ⟨w.heap.size + 1 + 1, 1, none⟩ (.int .i64 (renVal [] g.root).num)).setCell ⟨w.heap.size + 1 + 1, 2, none⟩ (.string (renVal [] g.root).text)).setCell ⟨w.heap.size + 1 + 1, 3, none⟩ (.int .i64 (renVal [] g.root).node)) (renOrd [] g.root) oa ocap none 0 [] := by
  have hQ : Kept (fun k => k = w.heap.size + 1 + 1) w1 ((((w1.setCell ⟨w.heap.size + 1 + 1, 0, none⟩ (.int .i64 (renVal [] g.root).kind)).setCell ⟨w.heap.size + 1 + 1, 1, none⟩ (.int .i64 (renVal [] g.root).num)).setCell ⟨w.heap.size + 1 + 1, 2, none⟩ (.string (renVal [] g.root).text)).setCell ⟨w.heap.size + 1 + 1, 3, none⟩ (.int .i64 (renVal [] g.root).node)) :=
    (((((Kept.refl (fun k => k = w.heap.size + 1 + 1) w1).set (fun _ => rfl) _).set (fun _ => rfl) _).set (fun _ => rfl) _).set (fun _ => rfl) _)
  have hb := h.base
  have hlow : Below w.heap.size w ((((w1.setCell ⟨w.heap.size + 1 + 1, 0, none⟩ (.int .i64 (renVal [] g.root).kind)).setCell ⟨w.heap.size + 1 + 1, 1, none⟩ (.int .i64 (renVal [] g.root).num)).setCell ⟨w.heap.size + 1 + 1, 2, none⟩ (.string (renVal [] g.root).text)).setCell ⟨w.heap.size + 1 + 1, 3, none⟩ (.int .i64 (renVal [] g.root).node)) := by
    have h1 : Below w.heap.size wr w1 := hK.below (by omega) (fun k hk hp => by
      rcases hp with hp | hp
      · omega
      · cases hp)
    exact (h.low.trans h1).trans (hQ.below (by have := hK.size; omega) (fun k hk hp => by omega))
  exact {
    low := hlow
    base := by have h1 := hK.size; have h2 := hQ.size; omega
    box := (h.box.kept hK (by simp; omega)).kept hQ (by omega)
    res := (h.res.kept hK (by simp)).kept hQ (by omega)
    out := (h.out.kept hK (by simp)).put
    wher := hQ.rowIs hw1 (by omega)
    ordr := hQ.owns ho1 (fun k hk => by have := (ho1.lt k hk).1; omega)
    nodes := World.ownsRow_nil _ _ _ _
    vals := fun x hx => by cases hx
    apon := fun b hb => by cases hb
    apv := fun x hx => by cases hx }

/-- what stands at the head of the inner round -/
structure DState (g : GG) (w wr ws : World) (n : GN) (ord : List Nat) (oa0 oa : Option Addr) (ocap : Nat) (xa : Option Addr) (xcap : Nat) (vs : List GV) : Prop where
  kept : Kept (fun k => k = w.heap.size + 1 + 1 + 1 ∨ oa0 = some ⟨k, 0, none⟩) wr ws
  size : wr.heap.size + 1 + 1 ≤ ws.heap.size
  x : Two ws (wr.heap.size + 1) n.tag (.slice xa vs.length xcap)
  wher : ws.rowIs (w.heap.size + 1 + 1 + 1) 3 g.nodes.length (fun i => .int .i64 (whereOf ord i))
  ordr : ws.ownsRow (w.heap.size + 1 + 1 + 1 + 1) 3 1 (.slice oa ord.length ocap) ord.length (ints ord)
  oaor : oa = oa0 ∨ ∃ b, oa = some ⟨b, 0, none⟩ ∧ wr.heap.size + 1 + 1 ≤ b
  vals : ws.ownsRow (wr.heap.size + 1 + 1) 30 4 (.slice xa vs.length xcap) vs.length (valCells vs)
  ap : ∀ b, xa = some ⟨b, 0, none⟩ → oa ≠ some ⟨b, 0, none⟩

section
variable {g : GG} {w wr ws : World} {n : GN} {ord : List Nat} {oa0 oa : Option Addr} {ocap : Nat} {xa : Option Addr} {xcap : Nat} {vs : List GV}

/-- the facts on blocks that a round needs -/
theorem DState.far (h : DState g w wr ws n ord oa0 oa ocap xa xcap vs) (_hlow : w.heap.size + 1 + 1 + 1 + 1 ≤ wr.heap.size) (h0 : ∀ b, oa0 = some ⟨b, 0, none⟩ → b < wr.heap.size) :
    (∀ b, oa = some ⟨b, 0, none⟩ → w.heap.size + 1 + 1 + 1 + 1 ≤ b ∧ b < ws.heap.size ∧ b ≠ wr.heap.size + 1 ∧ b ≠ wr.heap.size) ∧ (∀ b, xa = some ⟨b, 0, none⟩ → wr.heap.size + 1 + 1 ≤ b ∧ b < ws.heap.size) := by
  refine ⟨fun b hb => ?_, fun b hb => ?_⟩
  · have h1 := h.ordr.lt b (by rw [hb]; rfl)
    refine ⟨h1.1, h1.2, ?_, ?_⟩
    · rcases h.oaor with e | ⟨c, e, hc⟩
      · have := h0 b (by rw [← e, hb]); omega
      · rw [hb] at e; simp at e; omega
    · rcases h.oaor with e | ⟨c, e, hc⟩
      · have := h0 b (by rw [← e, hb]); omega
      · rw [hb] at e; simp at e; omega
  · exact h.vals.lt b (by rw [hb]; rfl)

theorem DState.mid (h : DState g w wr ws n ord oa0 oa ocap xa xcap vs) (hlow : w.heap.size + 1 + 1 + 1 + 1 ≤ wr.heap.size) (h0 : ∀ b, oa0 = some ⟨b, 0, none⟩ → b < wr.heap.size) {o : Obj} {t : TypeId} {w2 : World}
    (hK : Kept (fun k => k = w.heap.size + 1 + 1 + 1 ∨ oa = some ⟨k, 0, none⟩) ((ws.alloc o).alloc (.cells #[.int .i64 0, .int .i64 0, .string .empty, .int .i64 0] t)) w2) :
    Four w2 (ws.heap.size + 1) ⟨0, 0, .empty, 0⟩ ∧ Two w2 (wr.heap.size + 1) n.tag (.slice xa vs.length xcap) ∧ w2.ownsRow (wr.heap.size + 1 + 1) 30 4 (.slice xa vs.length xcap) vs.length (valCells vs) := by
  obtain ⟨f1, f2⟩ := h.far hlow h0
  have hz := h.size
  refine ⟨(Four.new_at _ ⟨0, 0, .empty, 0⟩ _ _ (by simp)).kept hK (fun hp => ?_), (h.x.kept (((Kept.refl (fun _ => False) ws).alloc _).alloc _) (fun e => e)).kept hK (fun hp => ?_), hK.owns ((h.vals.alloc _).alloc _) (fun k hk hp => ?_)⟩
  · rcases hp with hp | hp
    · omega
    · have := f1 _ hp; omega
  · rcases hp with hp | hp
    · omega
    · have := f1 _ hp; omega
  · have hk' := owns_addr h.vals hk
    have := f2 k hk'
    rcases hp with hp | hp
    · omega
    · exact h.ap k hk' hp

theorem DState.step (h : DState g w wr ws n ord oa0 oa ocap xa xcap vs) (hlow : w.heap.size + 1 + 1 + 1 + 1 ≤ wr.heap.size) (h0 : ∀ b, oa0 = some ⟨b, 0, none⟩ → b < wr.heap.size) (v : GV) {o o' : Obj} {t : TypeId} {w2 w3 : World} {oa2 : Option Addr} {ocap2 gg cc : Nat}
    (hw2 : w2.rowIs (w.heap.size + 1 + 1 + 1) 3 g.nodes.length (fun i => .int .i64 (whereOf (renOrd ord v) i)))
    (ho2 : w2.ownsRow (w.heap.size + 1 + 1 + 1 + 1) 3 1 (.slice oa2 (renOrd ord v).length ocap2) (renOrd ord v).length (ints (renOrd ord v)))
    (hoa2 : oa2 = oa ∨ ∃ b, oa2 = some ⟨b, 0, none⟩ ∧ ((ws.alloc o).alloc (.cells #[.int .i64 0, .int .i64 0, .string .empty, .int .i64 0] t)).heap.size ≤ b)
    (hK : Kept (fun k => k = w.heap.size + 1 + 1 + 1 ∨ oa = some ⟨k, 0, none⟩) ((ws.alloc o).alloc (.cells #[.int .i64 0, .int .i64 0, .string .empty, .int .i64 0] t)) w2)
    (hown : w3.ownsRow (wr.heap.size + 1 + 1) 30 4 (.slice (some ⟨gg, 0, none⟩) (vs.length + 1) cc) (vs.length + 1) (valCells vs ++ [.int .i64 (renVal ord v).kind, .int .i64 (renVal ord v).num, .string (renVal ord v).text, .int .i64 (renVal ord v).node]))
    (hgrow : ((put4 w2 (ws.heap.size + 1) (renVal ord v)).alloc o').grownBy w3 (Value.slice xa vs.length xcap).ownBlock)
    (hat : (Value.slice xa vs.length xcap).ownBlock = some gg ∨ gg = w2.heap.size + 1) :
    DState g w wr (w3.setCell ⟨wr.heap.size + 1, 1, none⟩ (.slice (some ⟨gg, 0, none⟩) (vs.length + 1) cc)) n (renOrd ord v) oa0 oa2 ocap2 (some ⟨gg, 0, none⟩) cc (vs ++ [renVal ord v]) := by
  obtain ⟨f1, f2⟩ := h.far hlow h0
  obtain ⟨y1, y2, y3⟩ := h.mid hlow h0 hK
  have hz := h.size
  have hs2 : ws.heap.size + 1 + 1 ≤ w2.heap.size := by have := hK.size; simpa using this
  have hP : Kept (fun k => k = ws.heap.size + 1) w2 ((put4 w2 (ws.heap.size + 1) (renVal ord v)).alloc o') := (Kept.put4 _ _ _).alloc _
  have hG := Kept.of_grown hgrow
  have hsP : w2.heap.size + 1 ≤ w3.heap.size := by have h1 := hgrow.size; simp [World.setCell] at h1; omega
  have hC : Kept (fun k => k = wr.heap.size + 1) w3 (w3.setCell ⟨wr.heap.size + 1, 1, none⟩ (.slice (some ⟨gg, 0, none⟩) (vs.length + 1) cc)) := (Kept.refl (fun k => k = wr.heap.size + 1) w3).set (fun _ => rfl) _
  have hxb : ∀ k, (Value.slice xa vs.length xcap).ownBlock = some k → wr.heap.size + 1 + 1 ≤ k ∧ k < ws.heap.size := fun k hk => f2 k (owns_addr h.vals hk)
  have hgg : wr.heap.size + 1 + 1 ≤ gg ∧ (gg < ws.heap.size ∨ w2.heap.size ≤ gg) := by
    rcases hat with e | e
    · have := hxb gg e; omega
    · omega
  have ho2b : ∀ b, oa2 = some ⟨b, 0, none⟩ → w.heap.size + 1 + 1 + 1 + 1 ≤ b ∧ b < w2.heap.size ∧ b ≠ wr.heap.size + 1 ∧ b ≠ ws.heap.size + 1 ∧ (Value.slice xa vs.length xcap).ownBlock ≠ some b := fun b hb => by
    have h1 := ho2.lt b (by rw [hb]; rfl)
    rcases hoa2 with e | ⟨c, e, hc⟩
    · have h2 := f1 b (by rw [← e, hb])
      refine ⟨h1.1, h1.2, h2.2.2.1, by omega, fun hx => h.ap b (owns_addr h.vals hx) (by rw [← e, hb])⟩
    · rw [hb] at e
      simp at e hc
      subst e
      refine ⟨h1.1, h1.2, by omega, by omega, fun hx => ?_⟩
      have := hxb b hx
      omega
  exact {
    kept := by
      refine (((((h.kept.alloc _).alloc _).trans hK (fun k hk hp => ?_)).trans hP (fun k hk hp => ?_)).trans hG (fun k hk hp => ?_)).trans hC (fun k hk hp => ?_)
      · rcases hp with hp | hp
        · exact Or.inl hp
        · rcases h.oaor with e | ⟨c, e, hc⟩
          · exact Or.inr (by rw [← e, hp])
          · rw [hp] at e
            have e' := congrArg (fun q => q.map Addr.block) e
            simp only [Option.map_some, Option.some.injEq] at e'
            omega
      · omega
      · have := hxb k hp; omega
      · omega
    size := by have := hC.size; omega
    x := by
      have h1 : Two w3 (wr.heap.size + 1) n.tag (.slice xa vs.length xcap) := (y2.kept hP (by omega)).kept hG (fun hp => by have := hxb _ hp; omega)
      simpa using h1.set (s' := .slice (some ⟨gg, 0, none⟩) (vs.length + 1) cc)
    wher := hC.rowIs (hG.rowIs (hP.rowIs hw2 (by omega)) (fun hp => by have := hxb _ hp; omega)) (by omega)
    ordr := hC.owns (hG.owns (hP.owns ho2 (fun k hk hp => by have := ho2b k (owns_addr ho2 hk); omega)) (fun k hk hp => (ho2b k (owns_addr ho2 hk)).2.2.2.2 hp)) (fun k hk hp => by have := ho2b k (owns_addr ho2 hk); omega)
    oaor := by
      rcases hoa2 with e | ⟨c, e, hc⟩
      · rw [e]; exact h.oaor
      · simp at hc; exact Or.inr ⟨c, e, by omega⟩
    vals := by
      have h1 := hC.owns hown (fun k hk hp => by simp [Value.ownBlock] at hk; omega)
      simpa [valCells_snoc] using h1
    ap := fun b hb hx => by
      simp at hb
      subst hb
      have h2 := ho2b gg hx
      rcases hat with e | e
      · exact h2.2.2.2.2 e
      · omega }
end

theorem DState.start {g : GG} {a : Option Addr} {cap : Nat} {w wr : World} {ord : List Nat} {oa : Option Addr} {ocap : Nat} {na : Option Addr} {ncap : Nat} {nl : List NL} (h : CState g a cap w wr ord oa ocap na ncap nl) (n : GN) (s : Value) :
    DState g w wr (((wr.alloc (.cells #[.int .i64 n.tag, s] 116)).alloc (.cells #[.int .i64 n.tag, .slice none 0 0] 116)).drew) n ord oa oa ocap none 0 [] where
  kept := (((Kept.refl _ wr).alloc _).alloc _).drew
  size := by simp
  x := (Two.new_at _ _ _ _ _ (by simp)).same rfl (by simp)
  wher := ((h.wher.alloc _).alloc _).drew
  ordr := (((Kept.refl (fun _ => False) wr).alloc _).alloc _).drew.owns h.ordr (fun _ _ h => h)
  oaor := Or.inl rfl
  vals := World.ownsRow_nil _ _ _ _
  ap := fun b hb => by cases hb

/-- what the round's end finds -/
theorem CState.seen {g : GG} {a : Option Addr} {cap : Nat} {w wo wr : World} {ord ord' : List Nat} {oa oa' : Option Addr} {ocap ocap' : Nat} {na : Option Addr} {ncap : Nat} {nl : List NL} {n : GN} {xa : Option Addr} {xcap : Nat} {vs : List GV}
    (h : CState g a cap w wo ord oa ocap na ncap nl) (hD : DState g w wo wr n ord' oa oa' ocap' xa xcap vs) :
    Five wr (w.heap.size + 1 + 1) (renVal [] g.root) (.slice na nl.length ncap) ∧ wr.ownsRow (w.heap.size + 1 + 1 + 1 + 1) 116 2 (.slice na nl.length ncap) nl.length (nodeCells nl) := by
  have ho : ∀ b, oa = some ⟨b, 0, none⟩ → w.heap.size + 1 + 1 + 1 + 1 ≤ b := fun b hb => (h.ordr.lt b (by rw [hb]; rfl)).1
  refine ⟨h.out.kept hD.kept (fun hp => ?_), hD.kept.owns h.nodes (fun k hk hp => ?_)⟩
  · rcases hp with hp | hp
    · omega
    · have := ho _ hp; omega
  · have h1 := h.nodes.lt k hk
    rcases hp with hp | hp
    · omega
    · exact h.apon k (owns_addr h.nodes hk) hp

theorem CState.next {g : GG} {a : Option Addr} {cap : Nat} {w wo wr w3 : World} {ord ord' : List Nat} {oa oa' : Option Addr} {ocap ocap' : Nat} {na : Option Addr} {ncap : Nat} {nl : List NL} {n : GN} {xa : Option Addr} {xcap : Nat} {vs : List GV} {o' : Obj} {gg cc : Nat}
    (h : CState g a cap w wo ord oa ocap na ncap nl) (hD : DState g w wo wr n ord' oa oa' ocap' xa xcap vs)
    (hown : w3.ownsRow (w.heap.size + 1 + 1 + 1 + 1) 116 2 (.slice (some ⟨gg, 0, none⟩) (nl.length + 1) cc) (nl.length + 1) (nodeCells nl ++ [.int .i64 n.tag, .slice xa vs.length xcap]))
    (hgrow : (wr.alloc o').grownBy w3 (Value.slice na nl.length ncap).ownBlock)
    (hat : (Value.slice na nl.length ncap).ownBlock = some gg ∨ gg = wr.heap.size + 1) :
    CState g a cap w (w3.setCell ⟨w.heap.size + 1 + 1, 4, none⟩ (.slice (some ⟨gg, 0, none⟩) (nl.length + 1) cc)) ord' oa' ocap' (some ⟨gg, 0, none⟩) cc (nl ++ [⟨⟨n.tag, vs⟩, xa, xcap⟩]) := by
  obtain ⟨s1, s2⟩ := h.seen hD
  have hb := h.base
  have hz := hD.size
  have ho : ∀ b, oa = some ⟨b, 0, none⟩ → w.heap.size + 1 + 1 + 1 + 1 ≤ b ∧ b < wo.heap.size := fun b hb => h.ordr.lt b (by rw [hb]; rfl)
  obtain ⟨f1, f2⟩ := hD.far hb (fun b hb => (ho b hb).2)
  have hA : Kept (fun _ => False) wr (wr.alloc o') := (Kept.refl _ wr).alloc _
  have hG := Kept.of_grown hgrow
  have hC : Kept (fun k => k = w.heap.size + 1 + 1) w3 (w3.setCell ⟨w.heap.size + 1 + 1, 4, none⟩ (.slice (some ⟨gg, 0, none⟩) (nl.length + 1) cc)) := (Kept.refl (fun k => k = w.heap.size + 1 + 1) w3).set (fun _ => rfl) _
  have hsz : wr.heap.size + 1 ≤ w3.heap.size := by have := hgrow.size; simpa using this
  have hnb : ∀ k, (Value.slice na nl.length ncap).ownBlock = some k → w.heap.size + 1 + 1 + 1 + 1 ≤ k ∧ k < wo.heap.size ∧ na = some ⟨k, 0, none⟩ := fun k hk =>
    ⟨(h.nodes.lt k hk).1, (h.nodes.lt k hk).2, owns_addr h.nodes hk⟩
  have hoN : ∀ b, oa' = some ⟨b, 0, none⟩ → (Value.slice na nl.length ncap).ownBlock ≠ some b := fun b hb hk => by
    have h1 := hnb b hk
    rcases hD.oaor with e | ⟨c, e, hc⟩
    · exact h.apon b h1.2.2 (by rw [← e, hb])
    · rw [hb] at e
      have := some_addr e
      omega
  have hxN : ∀ b, xa = some ⟨b, 0, none⟩ → (Value.slice na nl.length ncap).ownBlock ≠ some b := fun b hb hk => by
    have h1 := hnb b hk
    have h2 := f2 b hb
    omega
  -- what an old row of values is, at the end
  have keep : ∀ {base e size m : Nat} {v : Value} {xs : List Value}, wr.ownsRow base e size v m xs → (∀ k, v.ownBlock = some k → w.heap.size + 1 + 1 + 1 + 1 ≤ k ∧ (Value.slice na nl.length ncap).ownBlock ≠ some k) → (w3.setCell ⟨w.heap.size + 1 + 1, 4, none⟩ (.slice (some ⟨gg, 0, none⟩) (nl.length + 1) cc)).ownsRow base e size v m xs := fun hr hk =>
    hC.owns (hG.owns (hA.owns hr (fun _ _ e => e)) (fun k hk' hp => (hk k hk').2 hp)) (fun k hk' hp => by have := (hk k hk').1; omega)
  exact {
    low := by
      have h1 : Below w.heap.size wo wr := hD.kept.below (by omega) (fun k hk hp => by
        rcases hp with hp | hp
        · omega
        · have := ho k hp; omega)
      have h2 : Below w.heap.size wr w3 := ((hA.mono (q := fun k => (Value.slice na nl.length ncap).ownBlock = some k) (fun _ _ e => e.elim)).trans hG (fun _ _ e => e)).below (by omega) (fun k hk hp => by have := hnb k hp; omega)
      exact ((h.low.trans h1).trans h2).trans (hC.below (by omega) (fun k hk hp => by omega))
    base := by have := hC.size; omega
    box := by
      refine (((h.box.kept hD.kept (fun hp => ?_)).kept hA (fun e => e)).kept hG (fun hp => ?_)).kept hC (by omega)
      · rcases hp with hp | hp
        · omega
        · have := ho _ hp; omega
      · have := hnb _ hp; omega
    res := by
      refine (((h.res.kept hD.kept (fun hp => ?_)).kept hA (fun e => e)).kept hG (fun hp => ?_)).kept hC (by omega)
      · rcases hp with hp | hp
        · omega
        · have := ho _ hp; omega
      · have := hnb _ hp; omega
    out := by
      have h1 := (s1.kept hA (fun e => e)).kept hG (fun hp => by have := hnb _ hp; omega)
      simpa using h1.set (s' := .slice (some ⟨gg, 0, none⟩) (nl.length + 1) cc)
    wher := hC.rowIs (hG.rowIs (hA.rowIs hD.wher (fun e => e)) (fun hp => by have := hnb _ hp; omega)) (by omega)
    ordr := keep hD.ordr (fun k hk => ⟨(f1 k (owns_addr hD.ordr hk)).1, hoN k (owns_addr hD.ordr hk)⟩)
    nodes := by
      have h1 := hC.owns hown (fun k hk hp => by have := (hown.lt k hk).1; omega)
      simpa [nodeCells_snoc] using h1
    vals := fun x hx => by
      rcases List.mem_append.1 hx with hx | hx
      · have h1 := h.vals x hx
        have h2 : wr.ownsRow (w.heap.size + 1 + 1 + 1 + 1) 30 4 (.slice x.a x.n.vals.length x.cap) x.n.vals.length (valCells x.n.vals) := hD.kept.owns h1 (fun k hk hp => by
          have h3 := h1.lt k hk
          rcases hp with hp | hp
          · omega
          · exact (h.apv x hx k (owns_addr h1 hk)).1 hp)
        exact keep h2 (fun k hk => ⟨(h1.lt k hk).1, fun hp => (h.apv x hx k (owns_addr h1 hk)).2 (hnb k hp).2.2⟩)
      · simp at hx
        subst hx
        exact keep (owns_le hD.vals (by omega)) (fun k hk => ⟨by have := f2 k (owns_addr hD.vals hk); omega, hxN k (owns_addr hD.vals hk)⟩)
    apon := fun b hb hx => by
      have e := some_addr hb
      subst e
      rcases hat with e | e
      · exact hoN gg hx e
      · have := (f1 gg hx).2.1; omega
    apv := fun x hx b hb => by
      rcases List.mem_append.1 hx with hx | hx
      · have h1 := h.vals x hx
        have h2 := h1.lt b (by rw [hb]; rfl)
        have h3 := h.apv x hx b hb
        refine ⟨fun e => ?_, fun e => ?_⟩
        · rcases hD.oaor with e' | ⟨c, e', hc⟩
          · exact h3.1 (by rw [← e', e])
          · rw [e] at e'
            have := some_addr e'
            omega
        · have e1 := some_addr e
          subst e1
          rcases hat with e2 | e2
          · exact h3.2 (hnb gg e2).2.2
          · omega
      · simp at hx
        subst hx
        refine ⟨hD.ap b hb, fun e => ?_⟩
        have e1 := some_addr e
        subst e1
        rcases hat with e2 | e2
        · exact hxN gg hb e2
        · have := (f2 gg hb).2; omega }

/-- what the one form leaves -/
def CanonPost (g : GG) (w : World) (e : Ending) (w' : World) : Prop :=
  ∃ na ncap, e = .returned ((canon g).val na ncap) ∧ NodesAt w'.heap.size w' na (canon g).nodes ∧ Below w.heap.size w w'

end Go.Proofs.Ythjddpkegooobab

/-
  LINKED: the program's things: values behind an interface, nodes behind pointers. Own work.
-/
namespace Go.Proofs.Ythjddpkegooobab
open Go.RowKit

/-- a value as the program has it inside -/
def encT (v : GV) : TypeId := if v.kind = 1 then 214 else if v.kind = 2 then 215 else if v.kind = 3 then 216 else if v.kind = 4 then 206 else 219
def encX (tb : Nat → Nat) (v : GV) : Value :=
  if v.kind = 1 then .int .i64 v.num
  else if v.kind = 2 then .int .i64 v.num
  else if v.kind = 3 then .string v.text
  else if v.kind = 4 then .pointer (some ⟨tb v.node.toNat, 0, none⟩)
  else .agg #[]
abbrev encV (tb : Nat → Nat) (v : GV) : Value := .iface (encT v) (encX tb v)

set_option maxRecDepth 100000 in
theorem enc1 {tb : Nat → Nat} {v : GV} (h : v.kind = 1) : encV tb v = .iface 214 (.int .i64 v.num) := by
  unfold encV encT encX; rw [if_pos h, if_pos h]
theorem enc2 {tb : Nat → Nat} {v : GV} (h : v.kind = 2) : encV tb v = .iface 215 (.int .i64 v.num) := by
  unfold encV encT encX; rw [if_neg (by omega), if_pos h, if_neg (by omega), if_pos h]
set_option maxRecDepth 100000 in
theorem enc3 {tb : Nat → Nat} {v : GV} (h : v.kind = 3) : encV tb v = .iface 216 (.string v.text) := by
  unfold encV encT encX; rw [if_neg (by omega), if_neg (by omega), if_pos h, if_neg (by omega), if_neg (by omega), if_pos h]
theorem enc4 {tb : Nat → Nat} {v : GV} (h : v.kind = 4) : encV tb v = .iface 206 (.pointer (some ⟨tb v.node.toNat, 0, none⟩)) := by
  unfold encV encT encX; rw [if_neg (by omega), if_neg (by omega), if_neg (by omega), if_pos h, if_neg (by omega), if_neg (by omega), if_neg (by omega), if_pos h]
set_option maxRecDepth 100000 in
theorem enc0 {tb : Nat → Nat} {v : GV} (h1 : v.kind ≠ 1) (h2 : v.kind ≠ 2) (h3 : v.kind ≠ 3) (h4 : v.kind ≠ 4) : encV tb v = .iface 219 (.agg #[]) := by
  unfold encV encT encX; rw [if_neg h1, if_neg h2, if_neg h3, if_neg h4, if_neg h1, if_neg h2, if_neg h3, if_neg h4]

/-- the row of things -/
abbrev Things (w : World) (th n : Nat) (tb : Nat → Nat) : Prop := w.rowIs th 206 n (fun i => .pointer (some ⟨tb i, 0, none⟩))

set_option maxRecDepth 100000 in
theorem valueOf_any (n th : Nat) (tb : Nat → Nat) (v : GV) (w : World) (hv : okV n v = true) (_hn : n ≤ 300) (ht : Things w th n tb) :
    Calls Try.prog 170 #[v.val, .slice (some ⟨th, 0, none⟩) n n] w fun e w' => e = .returned (encV tb v) ∧ Below w.heap.size w w' := by
  by_cases h1 : v.kind = 1
  · have t1 : (v.kind == 1) = true := by simpa using h1
    have e : Hid _ := enc1 (tb := tb) h1
    clear h1
    go_enter Try.func170, Try.ntmps170
    go_wp2
    go_ret
    exact ⟨by rw [e.out]; rfl, gal (gre _) _⟩
  have t1 : (v.kind == 1) = false := by simpa using h1
  by_cases h2 : v.kind = 2
  · have t2 : (v.kind == 2) = true := by simpa using h2
    have e : Hid _ := enc2 (tb := tb) h2
    clear h1 h2
    go_enter Try.func170, Try.ntmps170
    go_wp2
    go_ret
    exact ⟨by rw [e.out]; rfl, gal (gre _) _⟩
  have t2 : (v.kind == 2) = false := by simpa using h2
  by_cases h3 : v.kind = 3
  · have t3 : (v.kind == 3) = true := by simpa using h3
    have e : Hid _ := enc3 (tb := tb) h3
    clear h1 h2 h3
    go_enter Try.func170, Try.ntmps170
    go_wp2
    go_ret
    exact ⟨by rw [e.out]; rfl, gal (gre _) _⟩
  have t3 : (v.kind == 3) = false := by simpa using h3
  by_cases h4 : v.kind = 4
  · have t4 : (v.kind == 4) = true := by simpa using h4
    have hb := okV_node hv h4
    have e : Hid _ := enc4 (tb := tb) h4
    clear h1 h2 h3 h4
    obtain ⟨k, m, t, x⟩ := v
    obtain ⟨y, rfl⟩ := Int.eq_ofNat_of_zero_le hb.1
    have hy : y < n := by have := hb.2; simpa using this
    have hc := ht.cell hy
    have hl := ht.lt
    have i0 : (0 : Int) ≤ (y : Int) := by omega
    have i1 : (y : Int) < (n : Int) := by omega
    go_enter Try.func170, Try.ntmps170
    go_wp2
    go_ret
    exact ⟨by rw [e.out]; rfl, gal (gre _) _⟩
  have t4 : (v.kind == 4) = false := by simpa using h4
  have e : Hid _ := enc0 (tb := tb) h1 h2 h3 h4
  clear h1 h2 h3 h4
  go_enter Try.func170, Try.ntmps170
  go_wp2
  go_ret
  exact ⟨by rw [e.out]; rfl, gal (gre _) _⟩

/-- behind k rounds of the first loop -/
structure L1 (g : GG) (a : Option Addr) (cap : Nat) (w wr : World) (k : Nat) (tb : Nat → Nat) : Prop where
  low : Below w.heap.size w wr
  box : GBox wr w.heap.size g a cap
  row : wr.rowIs (w.heap.size + 1) 206 g.nodes.length (fun i => if i < k then .pointer (some ⟨tb i, 0, none⟩) else .pointer none)
  things : ∀ i, i < k → Two wr (tb i) g.nodes[i]!.tag (.slice none 0 0) ∧ w.heap.size + 1 < tb i
  inj : ∀ i j, i < j → j < k → tb i < tb j

set_option maxRecDepth 100000 in
theorem L1.step {g : GG} {a : Option Addr} {cap : Nat} {w wr : World} {k : Nat} {tb : Nat → Nat} (h : L1 g a cap w wr k tb) (s : Value) (t t' : TypeId) :
    L1 g a cap w (((wr.setCell ⟨w.heap.size + 1, k, none⟩ (.pointer (some ⟨wr.heap.size + 1, 0, none⟩))).alloc (.cells #[.int .i64 g.nodes[k]!.tag, s] t)).alloc (.cells #[.int .i64 g.nodes[k]!.tag, .slice none 0 0] t')) (k + 1) (fun i => if i = k then wr.heap.size + 1 else tb i) := by
  have hl := h.row.lt
  have hC := (Kept.refl (fun b => b = w.heap.size + 1) wr).set (a := ⟨w.heap.size + 1, k, none⟩) (fun _ => rfl) (.pointer (some ⟨wr.heap.size + 1, 0, none⟩))
  have hA : Kept (fun _ => False) (wr.setCell ⟨w.heap.size + 1, k, none⟩ (.pointer (some ⟨wr.heap.size + 1, 0, none⟩))) (((wr.setCell ⟨w.heap.size + 1, k, none⟩ (.pointer (some ⟨wr.heap.size + 1, 0, none⟩))).alloc (.cells #[.int .i64 g.nodes[k]!.tag, s] t)).alloc (.cells #[.int .i64 g.nodes[k]!.tag, .slice none 0 0] t')) := ((Kept.refl _ _).alloc _).alloc _
  have hnew : Two (((wr.setCell ⟨w.heap.size + 1, k, none⟩ (.pointer (some ⟨wr.heap.size + 1, 0, none⟩))).alloc (.cells #[.int .i64 g.nodes[k]!.tag, s] t)).alloc (.cells #[.int .i64 g.nodes[k]!.tag, .slice none 0 0] t')) (wr.heap.size + 1) g.nodes[k]!.tag (.slice none 0 0) := Two.new_at _ _ _ _ _ (by simp)
  exact {
    low := (h.low.trans (hC.below h.low.size (fun k hk hp => by omega))).trans (hA.below (by have := h.low.size; have h2 := hC.size; omega) (fun _ _ e => e))
    box := (h.box.kept hC (by omega)).kept hA (fun e => e)
    row := (hA.rowIs (h.row.set k _) (fun e => e)).congr fun i hi => by
      by_cases e : i = k
      · rw [if_pos e, if_pos (by omega), if_pos e]
      · rw [if_neg e]
        by_cases e2 : i < k
        · rw [if_pos e2, if_pos (by omega), if_neg e]
        · rw [if_neg e2, if_neg (by omega)]
    things := fun i hi => by
      by_cases e : i = k
      · subst e
        rw [if_pos rfl]
        exact ⟨hnew, by omega⟩
      · rw [if_neg e]
        obtain ⟨h1, h2⟩ := h.things i (by omega)
        exact ⟨(h1.kept hC (by omega)).kept hA (fun e => e), h2⟩
    inj := fun i j hij hj => by
      by_cases e : j = k
      · subst e
        rw [if_neg (by omega), if_pos rfl]
        have := (h.things i (by omega)).1.lt
        omega
      · rw [if_neg (by omega), if_neg e]
        exact h.inj i j hij (by omega) }

set_option maxRecDepth 100000 in
theorem encV_one (tb : Nat → Nat) (v : GV) : (encV tb v).oneCell' = true := rfl

/-- the things' values so far -/
structure L2 (g : GG) (a : Option Addr) (cap : Nat) (w : World) (B : Nat) (tb : Nat → Nat) (ws : World) (m : Nat → Nat) (xa : Nat → Option Addr) (xc : Nat → Nat) : Prop where
  low : Below w.heap.size w ws
  base : w.heap.size + 1 < B ∧ B ≤ ws.heap.size
  box : GBox ws w.heap.size g a cap
  th : Things ws (w.heap.size + 1) g.nodes.length tb
  tbs : ∀ i, i < g.nodes.length → w.heap.size + 1 < tb i ∧ tb i < B
  inj : ∀ i j, i < g.nodes.length → j < g.nodes.length → tb i = tb j → i = j
  cell : ∀ i, i < g.nodes.length → Two ws (tb i) g.nodes[i]!.tag (.slice (xa i) (m i) (xc i))
  vals : ∀ i, i < g.nodes.length → ws.ownsRow B 172 1 (.slice (xa i) (m i) (xc i)) (m i) ((g.nodes[i]!.vals.take (m i)).map (encV tb))
  ap : ∀ i j, i < g.nodes.length → j < g.nodes.length → i ≠ j → ∀ b, xa i = some ⟨b, 0, none⟩ → xa j ≠ some ⟨b, 0, none⟩

set_option maxRecDepth 100000 in
/-- nothing of it turns while new blocks are laid -/
theorem L2.grow {g : GG} {a : Option Addr} {cap : Nat} {w : World} {B : Nat} {tb : Nat → Nat} {ws ws' : World} {m : Nat → Nat} {xa : Nat → Option Addr} {xc : Nat → Nat} (h : L2 g a cap w B tb ws m xa xc) (hb : Below ws.heap.size ws ws') : L2 g a cap w B tb ws' m xa xc := by
  have hK : Kept (fun _ => False) ws ws' := Kept.of_below hb _
  exact {
    low := h.low.trans (hb.mono h.low.size)
    base := ⟨h.base.1, Nat.le_trans h.base.2 hb.size⟩
    box := h.box.grow hb
    th := hK.rowIs h.th (fun e => e)
    tbs := h.tbs
    inj := h.inj
    cell := fun i hi => (h.cell i hi).kept hK (fun e => e)
    vals := fun i hi => hK.owns (h.vals i hi) (fun _ _ e => e)
    ap := h.ap }

set_option maxRecDepth 100000 in
theorem L2.step {g : GG} {a : Option Addr} {cap : Nat} {w : World} {B : Nat} {tb : Nat → Nat} {ws w3 : World} {m : Nat → Nat} {xa : Nat → Option Addr} {xc : Nat → Nat} (h : L2 g a cap w B tb ws m xa xc) {k : Nat} (hk : k < g.nodes.length) {v : GV} (hv : Hid (v = g.nodes[k]!.vals[m k]!)) (hm : m k < g.nodes[k]!.vals.length) {gg cc : Nat}
    (hown : w3.ownsRow B 172 1 (.slice (some ⟨gg, 0, none⟩) (m k + 1) cc) (m k + 1) ((g.nodes[k]!.vals.take (m k)).map (encV tb) ++ [encV tb v]))
    (hgrow : ws.grownBy w3 (Value.slice (xa k) (m k) (xc k)).ownBlock)
    (hat : (Value.slice (xa k) (m k) (xc k)).ownBlock = some gg ∨ ws.heap.size ≤ gg) :
    L2 g a cap w B tb (w3.setCell ⟨tb k, 1, none⟩ (.slice (some ⟨gg, 0, none⟩) (m k + 1) cc)) (fun i => if i = k then m k + 1 else m i) (fun i => if i = k then some ⟨gg, 0, none⟩ else xa i) (fun i => if i = k then cc else xc i) := by
  have hG := Kept.of_grown hgrow
  have hC := (Kept.refl (fun b => b = tb k) w3).set (a := ⟨tb k, 1, none⟩) (fun _ => rfl) (.slice (some ⟨gg, 0, none⟩) (m k + 1) cc)
  have htk := h.tbs k hk
  have hob : ∀ b, (Value.slice (xa k) (m k) (xc k)).ownBlock = some b → B ≤ b ∧ b < ws.heap.size ∧ xa k = some ⟨b, 0, none⟩ := fun b hb => ⟨((h.vals k hk).lt b hb).1, ((h.vals k hk).lt b hb).2, owns_addr (h.vals k hk) hb⟩
  have hgB : B ≤ gg := (hown.lt gg rfl).1
  exact {
    low := (h.low.trans (hG.below h.low.size (fun b hb hp => by have := hob b hp; omega))).trans (hC.below (Nat.le_trans h.low.size hG.size) (fun b hb hp => by omega))
    base := ⟨h.base.1, by have h1 := h.base.2; have h2 := hG.size; have h3 := hC.size; omega⟩
    box := (h.box.kept hG (fun hp => by have := hob _ hp; omega)).kept hC (by omega)
    th := hC.rowIs (hG.rowIs h.th (fun hp => by have := hob _ hp; omega)) (by omega)
    tbs := h.tbs
    inj := h.inj
    cell := fun i hi => by
      have hti := h.tbs i hi
      have h1 := (h.cell i hi).kept hG (fun hp => by have := hob _ hp; omega)
      by_cases e : i = k
      · subst e
        simp only [if_true]
        exact h1.set
      · simp only [if_neg e]
        exact h1.kept hC (fun hp => e (h.inj i k hi hk hp))
    vals := fun i hi => by
      by_cases e : i = k
      · subst e
        simp only [if_true]
        have h1 := hC.owns hown (fun b hb hp => by have := (hown.lt b hb).1; omega)
        rw [take_snoc _ _ hm, ← hv.out]
        simpa using h1
      · simp only [if_neg e]
        have h1 := h.vals i hi
        exact hC.owns (hG.owns h1 (fun b hb hp => h.ap i k hi hk e b (owns_addr h1 hb) (hob b hp).2.2)) (fun b hb hp => by have := (h1.lt b hb).1; omega)
    ap := fun i j hi hj hij b hb hx => by
      by_cases e : i = k
      · subst e
        rw [if_pos rfl] at hb
        rw [if_neg (fun e => hij e.symm)] at hx
        have e1 := some_addr hb
        subst e1
        rcases hat with e2 | e2
        · exact h.ap i j hi hj hij gg (hob gg e2).2.2 hx
        · have := ((h.vals j hj).lt gg (by rw [hx]; rfl)).2; omega
      · rw [if_neg e] at hb
        by_cases e' : j = k
        · subst e'
          rw [if_pos rfl] at hx
          have e1 := some_addr hx
          subst e1
          rcases hat with e2 | e2
          · exact h.ap i j hi hj hij gg hb (hob gg e2).2.2
          · have := ((h.vals i hi).lt gg (by rw [hb]; rfl)).2; omega
        · rw [if_neg e'] at hx
          exact h.ap i j hi hj hij b hb hx }

end Go.Proofs.Ythjddpkegooobab

/-
  REGIONU: a region that draws its order, whose last operation may turn what the others read. What holds (S) while the last one has not come up. Own work, over the library's own laws on orders.
-/
namespace Go.Proofs.Ythjddpkegooobab
open Go.RowKit

section
variable {P : Program} {ops : Array Oper} {Q : Exit → Act → World → Prop} {md : Region.Mode} {S : World → Prop} {lst : Nat}

/-- every order of what has not come up; behind each operation but the last S holds -/
def anyU (P : Program) (md : Region.Mode) (ops : Array Oper) (Q : Exit → Act → World → Prop) (S : World → Prop) (lst : Nat) : Nat → Array Bool → Act → World → Prop
  | 0, listed, a, w => Region.ready md ops listed = [] ∧ Q .normal a w
  | fuel + 1, listed, a, w =>
    (Region.ready md ops listed = [] → Q .normal a w) ∧
    ∀ i ∈ Region.ready md ops listed, wpOp P ops Q i (fun a' w' => (i ≠ lst → S w') ∧ anyU P md ops Q S lst fuel (listed.setIfInBounds i true) a' w') a w

theorem wpAny_of_U : ∀ (fuel : Nat) (listed : Array Bool) (a : Act) (w : World), anyU P md ops Q S lst fuel listed a w → wpAny P md ops Q fuel listed a w
  | 0, _, _, _, h => h
  | fuel + 1, _, _, _, h => ⟨h.1, fun i hi => wpOp_mono (fun a' w' h' => wpAny_of_U fuel _ a' w' h'.2) (h.2 i hi)⟩

theorem anyU_first {i : Nat} {oi : Oper} {v : Value} (hi : ops[i]? = some oi) (hsel : ∀ (j : Nat) (o : Oper) cs b, ops[j]? = some o → o.op ≠ .select cs b)
    (hQ : ∀ c a w, Q (.panic c) (a.put oi.dst v) w → Q (.panic c) a w)
    (hlst : ∀ oj, ops[lst]? = some oj → ∃ e ∈ oj.after, Region.binds md e = true ∧ e.on = i) (hil : i ≠ lst) :
    ∀ (fuel : Nat) (listed : Array Bool) (a : Act) (w : World),
      (∀ j oj, ops[j]? = some oj → j ≠ i → listed.getD j true = false → (∀ e ∈ oj.after, Region.binds md e = true → e.on ≠ i) → oi.apart ops oj = true) →
      i ∈ Region.ready md ops listed → YieldsIf P ops S oi v a → S w →
      anyU P md ops Q S lst fuel (listed.setIfInBounds i true) (a.put oi.dst v) w → anyU P md ops Q S lst (fuel + 1) listed a w := by
  intro fuel
  induction fuel with
  | zero =>
    intro listed a w _ hr hy hS H
    refine ⟨fun h => (by rw [h] at hr; cases hr), fun j hj => ?_⟩
    by_cases hji : j = i
    · subst hji; exact hy.wpOp hi hS ⟨fun _ => hS, H⟩
    · have h0 := ready_mono hj hji
      rw [H.1] at h0
      cases h0
  | succ fuel ih =>
    intro listed a w hfree hr hy hS H
    refine ⟨fun h => (by rw [h] at hr; cases hr), fun j hj => ?_⟩
    by_cases hji : j = i
    · subst hji; exact hy.wpOp hi hS ⟨fun _ => hS, H⟩
    · have h1 := H.2 j (ready_mono hj hji)
      obtain ⟨hjun, oj, hoj, hall⟩ := mem_ready.1 hj
      have hnot : ∀ e ∈ oj.after, Region.binds md e = true → e.on ≠ i := fun e he hb heq => by
        have h1 := hall e he hb
        have h0 := (mem_ready.1 hr).1
        rw [heq] at h1
        rcases Nat.lt_or_ge i listed.size with h' | h'
        · simp [h'] at h0 h1; rw [h0] at h1; cases h1
        · simp [Array.getElem?_eq_none h'] at h1
      have hjl : j ≠ lst := fun e => by
        subst e
        obtain ⟨e, he, hb, ho⟩ := hlst oj hoj
        exact hnot e he hb ho
      have h2 := wpOp_putIf hoj (hfree j oj hoj hji hjun hnot) (fun cs b => hsel i oi cs b hi) (fun cs b => hsel j oj cs b hoj) hQ hy h1
      have hfree' : ∀ k ok, ops[k]? = some ok → k ≠ i → (listed.setIfInBounds j true).getD k true = false →
          (∀ e ∈ ok.after, Region.binds md e = true → e.on ≠ i) → oi.apart ops ok = true := fun k ok hk hki hun hno => by
        refine hfree k ok hk hki ?_ hno
        by_cases hjk : j = k
        · subst hjk; exact hjun
        · rw [getD_set_ne true hjk] at hun; exact hun
      refine wpOp_mono (fun a' w' h3 => ⟨fun hl => h3.2.1 hl, ih (listed.setIfInBounds j true) a' w' hfree' (ready_mono hr (Ne.symm hji)) h3.1 (h3.2.1 hjl) ?_⟩) h2
      rw [Array.setIfInBounds_comm _ _ hji]
      exact h3.2.2

/-- the last waits for number i -/
def lastWaits (md : Region.Mode) (ops : Array Oper) (lst i : Nat) : Bool :=
  !(i == lst) && match ops[lst]? with
  | some oj => oj.after.any fun e => Region.binds md e && e.on == i
  | none => true

theorem anyU_take {i : Nat} {oi : Oper} {v : Value} {fuel : Nat} {listed : Array Bool} {a : Act} {w : World} (hi : ops[i]? = some oi)
    (hs : Region.noSelect ops = true) (hf : Region.free md ops listed i = true) (hr : (Region.ready md ops listed).contains i = true) (hl : lastWaits md ops lst i = true)
    (hQ : ∀ c a w, Q (.panic c) (a.put oi.dst v) w → Q (.panic c) a w) (hy : YieldsIf P ops S oi v a) (hS : S w)
    (h : anyU P md ops Q S lst fuel (listed.setIfInBounds i true) (a.put oi.dst v) w) : anyU P md ops Q S lst (fuel + 1) listed a w := by
  unfold lastWaits at hl
  simp only [Bool.and_eq_true, Bool.not_eq_true', beq_eq_false_iff_ne] at hl
  refine anyU_first hi (Region.noSelect_spec hs) hQ (fun oj hoj => ?_) hl.1 fuel listed a w (Region.free_spec hi hf) (by simpa using hr) hy hS h
  have h2 := hl.2
  rw [hoj] at h2
  obtain ⟨e, he, hb⟩ := Array.any_eq_true'.1 h2
  simp only [Bool.and_eq_true, beq_iff_eq] at hb
  exact ⟨e, he, hb.1, hb.2⟩

/-- one alone may come up, and it is not the last -/
theorem anyU_one {i : Nat} {o : Oper} {fuel : Nat} {listed : Array Bool} {a : Act} {w : World} (hr : Region.ready md ops listed = [i]) (ho : ops[i]? = some o)
    (h : ∀ K : Act → World → Prop, Shut (∀ a w, S w → anyU P md ops Q S lst fuel (listed.setIfInBounds i true) a w → K a w) → if Region.wanted o (yielded ops a.tmps) = true then Oper.wp P o a w K Q else K (a.put o.dst undef) w) :
    anyU P md ops Q S lst (fuel + 1) listed a w := by
  refine ⟨fun h0 => (by rw [hr] at h0; cases h0), fun j hj => ?_⟩
  rw [hr] at hj
  obtain rfl : j = i := by simpa using hj
  exact wpOp_step ho (fun K' hK => h K' (fun a w hS hW => hK a w ⟨fun _ => hS, hW⟩))

/-- the last -/
theorem anyU_last {o : Oper} {fuel : Nat} {listed : Array Bool} {a : Act} {w : World} (hr : Region.ready md ops listed = [lst]) (ho : ops[lst]? = some o) (hd : Region.ready md ops (listed.setIfInBounds lst true) = [])
    (h : ∀ K : Act → World → Prop, Shut (∀ a w, Q .normal a w → K a w) → if Region.wanted o (yielded ops a.tmps) = true then Oper.wp P o a w K Q else K (a.put o.dst undef) w) :
    anyU P md ops Q S lst (fuel + 1) listed a w := by
  refine ⟨fun h0 => (by rw [hr] at h0; cases h0), fun j hj => ?_⟩
  rw [hr] at hj
  obtain rfl : j = lst := by simpa using hj
  refine wpOp_step ho (fun K' hK => h K' (fun a w hQ => hK a w ⟨fun e => absurd rfl e, ?_⟩))
  cases fuel with
  | zero => exact ⟨hd, hQ⟩
  | succ f => exact ⟨fun _ => hQ, fun i hi => by rw [hd] at hi; cases hi⟩

theorem wp_regionU {id : Nat} {a : Act} {w : World} (S : World → Prop) (lst : Nat) (hm : P.follows .mixedOrders = true) (hS : S w.drew)
    (h : S w.drew → anyU P .any ops Q S lst ops.size (Array.replicate ops.size false) a w.drew) : (Code.region id ops true).wp P Q a w :=
  wp_region_any hm (wpAny_of_U _ _ _ _ (h hS))

end
end Go.Proofs.Ythjddpkegooobab
