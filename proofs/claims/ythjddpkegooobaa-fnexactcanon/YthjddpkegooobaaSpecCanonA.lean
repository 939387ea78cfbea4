/-
  SPECCANONA: what stands in the specification's one form. Own work.
-/
import Derived.Test.YthjddpkegooobaaSpecRen2
import Derived.Test.YthjddpkegooobaaRows3
import Derived.Test.YthjddpkegooobaaOk4
import Derived.Test.YthjddpkegooobaaToA
import Derived.Deep.RegionHeld3
namespace Go.Proofs.Ythjddpkegooobaa
open Go.RowKit

/-- what stands at the head of the outer round -/
structure CState (g : GG) (a : Option Addr) (cap : Nat) (w : World) (wr : World) (ord : List Nat) (oa : Option Addr) (ocap : Nat) (na : Option Addr) (ncap : Nat) (nl : List NL) : Prop where
  low : Below w.heap.size w wr
  base : w.heap.size + 1 + 1 + 1 + 1 ≤ wr.heap.size
  box : GBox wr w.heap.size g a cap
  res : Five wr (w.heap.size + 1) ⟨0, 0, .empty, 0⟩ (.slice none 0 0)
  out : Five wr (w.heap.size + 1 + 1) (renVal [] g.root) (.slice na nl.length ncap)
  wher : wr.rowIs (w.heap.size + 1 + 1 + 1) 3 g.nodes.length (fun i => .int .i64 (whereOf ord i))
  ordr : wr.ownsRow (w.heap.size + 1 + 1 + 1 + 1) 3 1 (.slice oa ord.length ocap) ord.length (ints ord)
  nodes : wr.ownsRow (w.heap.size + 1 + 1 + 1 + 1) 84 2 (.slice na nl.length ncap) nl.length (nodeCells nl)
  vals : ∀ x, x ∈ nl → wr.ownsRow (w.heap.size + 1 + 1 + 1 + 1) 24 4 (.slice x.a x.n.vals.length x.cap) x.n.vals.length (valCells x.n.vals)
  apon : ∀ b, na = some ⟨b, 0, none⟩ → oa ≠ some ⟨b, 0, none⟩
  apv : ∀ x, x ∈ nl → ∀ b, x.a = some ⟨b, 0, none⟩ → oa ≠ some ⟨b, 0, none⟩ ∧ na ≠ some ⟨b, 0, none⟩

theorem GBox.kept {p : Nat → Prop} {w w' : World} {b : Nat} {g : GG} {a : Option Addr} {cap : Nat} (h : GBox w b g a cap) (k : Kept p w w') (hn : ¬ p b) : GBox w' b g a cap :=
  ⟨Nat.lt_of_lt_of_le h.lt k.size, k.cell h.kind hn, k.cell h.num hn, k.cell h.text hn, k.cell h.node hn, k.cell h.sl hn⟩

/-- behind the first loop -/
structure CStart (g : GG) (a : Option Addr) (cap : Nat) (w : World) (wr : World) (f : Nat → Value) : Prop where
  low : Below w.heap.size w wr
  base : w.heap.size + 1 + 1 + 1 + 1 ≤ wr.heap.size
  box : GBox wr w.heap.size g a cap
  res : Five wr (w.heap.size + 1) ⟨0, 0, .empty, 0⟩ (.slice none 0 0)
  out : Five wr (w.heap.size + 1 + 1) ⟨0, 0, .empty, 0⟩ (.slice none 0 0)
  wher : wr.rowIs (w.heap.size + 1 + 1 + 1) 3 g.nodes.length f

theorem CStart.set {g : GG} {a : Option Addr} {cap : Nat} {w wr : World} {f : Nat → Value} (h : CStart g a cap w wr f) (k : Nat) (u : Value) : CStart g a cap w (wr.setCell ⟨w.heap.size + 1 + 1 + 1, k, none⟩ u) (fun j => if j = k then u else f j) := by
  have hq : Kept (fun k => k = w.heap.size + 1 + 1 + 1) wr (wr.setCell ⟨w.heap.size + 1 + 1 + 1, k, none⟩ u) := (Kept.refl (fun k => k = w.heap.size + 1 + 1 + 1) wr).set (fun _ => rfl) _
  exact ⟨h.low.setCell (by simp; omega) _, by have := h.base; simpa [World.setCell] using this, h.box.kept hq (by omega), h.res.kept hq (by omega), h.out.kept hq (by omega), h.wher.set k u⟩

theorem CState.start {g : GG} {a : Option Addr} {cap : Nat} {w wr w1 : World} {f : Nat → Value} {oa : Option Addr} {ocap : Nat} (h : CStart g a cap w wr f)
    (hw1 : w1.rowIs (w.heap.size + 1 + 1 + 1) 3 g.nodes.length (fun i => .int .i64 (whereOf (renOrd [] g.root) i)))
    (ho1 : w1.ownsRow (w.heap.size + 1 + 1 + 1 + 1) 3 1 (.slice oa (renOrd [] g.root).length ocap) (renOrd [] g.root).length (ints (renOrd [] g.root)))
    (hK : Kept (fun k => k = w.heap.size + 1 + 1 + 1 ∨ (none : Option Addr) = some ⟨k, 0, none⟩) wr w1) :
    CState g a cap w ((((w1.setCell ⟨w.heap.size + 1 + 1, 0, none⟩ (.int .i64 (renVal [] g.root).kind)).setCell ⟨w.heap.size + 1 + 1, 1, none⟩ (.int .i64 (renVal [] g.root).num)).setCell ⟨w.heap.size + 1 + 1, 2, none⟩ (.string (renVal [] g.root).text)).setCell ⟨w.heap.size + 1 + 1, 3, none⟩ (.int .i64 (renVal [] g.root).node)) (renOrd [] g.root) oa ocap none 0 [] := by
  have hQ : Kept (fun k => k = w.heap.size + 1 + 1) w1 ((((w1.setCell ⟨w.heap.size + 1 + 1, 0, none⟩ (.int .i64 (renVal [] g.root).kind)).setCell ⟨w.heap.size + 1 + 1, 1, none⟩ (.int .i64 (renVal [] g.root).num)).setCell ⟨w.heap.size + 1 + 1, 2, none⟩ (.string (renVal [] g.root).text)).setCell ⟨w.heap.size + 1 + 1, 3, none⟩ (.int .i64 (renVal [] g.root).node)) :=
    (((((Kept.refl (fun k => k = w.heap.size + 1 + 1) w1).set (fun _ => rfl) _).set (fun _ => rfl) _).set (fun _ => rfl) _).set (fun _ => rfl) _)
  have hb := h.base
  have hlow : Below w.heap.size w ((((w1.setCell ⟨w.heap.size + 1 + 1, 0, none⟩ (.int .i64 (renVal [] g.root).kind)).setCell ⟨w.heap.size + 1 + 1, 1, none⟩ (.int .i64 (renVal [] g.root).num)).setCell ⟨w.heap.size + 1 + 1, 2, none⟩ (.string (renVal [] g.root).text)).setCell ⟨w.heap.size + 1 + 1, 3, none⟩ (.int .i64 (renVal [] g.root).node)) := by
    have h1 : Below w.heap.size wr w1 := hK.below (by omega) (fun k hk hp => by
      rcases hp with hp | hp
      · omega
      · cases hp)
    exact (h.low.trans h1).trans (hQ.below (by have := hK.size; omega) (fun k hk hp => by omega))
  exact {
    low := hlow
    base := by have h1 := hK.size; have h2 := hQ.size; omega
    box := (h.box.kept hK (by simp; omega)).kept hQ (by omega)
    res := (h.res.kept hK (by simp)).kept hQ (by omega)
    out := (h.out.kept hK (by simp)).put
    wher := hQ.rowIs hw1 (by omega)
    ordr := hQ.owns ho1 (fun k hk => by have := (ho1.lt k hk).1; omega)
    nodes := World.ownsRow_nil _ _ _ _
    vals := fun x hx => by cases hx
    apon := fun b hb => by cases hb
    apv := fun x hx => by cases hx }

/-- what stands at the head of the inner round -/
structure DState (g : GG) (w wr ws : World) (n : GN) (ord : List Nat) (oa0 oa : Option Addr) (ocap : Nat) (xa : Option Addr) (xcap : Nat) (vs : List GV) : Prop where
  kept : Kept (fun k => k = w.heap.size + 1 + 1 + 1 ∨ oa0 = some ⟨k, 0, none⟩) wr ws
  size : wr.heap.size + 1 + 1 ≤ ws.heap.size
  x : Two ws (wr.heap.size + 1) n.tag (.slice xa vs.length xcap)
  wher : ws.rowIs (w.heap.size + 1 + 1 + 1) 3 g.nodes.length (fun i => .int .i64 (whereOf ord i))
  ordr : ws.ownsRow (w.heap.size + 1 + 1 + 1 + 1) 3 1 (.slice oa ord.length ocap) ord.length (ints ord)
  oaor : oa = oa0 ∨ ∃ b, oa = some ⟨b, 0, none⟩ ∧ wr.heap.size + 1 + 1 ≤ b
  vals : ws.ownsRow (wr.heap.size + 1 + 1) 24 4 (.slice xa vs.length xcap) vs.length (valCells vs)
  ap : ∀ b, xa = some ⟨b, 0, none⟩ → oa ≠ some ⟨b, 0, none⟩

section
variable {g : GG} {w wr ws : World} {n : GN} {ord : List Nat} {oa0 oa : Option Addr} {ocap : Nat} {xa : Option Addr} {xcap : Nat} {vs : List GV}

/-- the facts on blocks that a round needs -/
theorem DState.far (h : DState g w wr ws n ord oa0 oa ocap xa xcap vs) (_hlow : w.heap.size + 1 + 1 + 1 + 1 ≤ wr.heap.size) (h0 : ∀ b, oa0 = some ⟨b, 0, none⟩ → b < wr.heap.size) :
    (∀ b, oa = some ⟨b, 0, none⟩ → w.heap.size + 1 + 1 + 1 + 1 ≤ b ∧ b < ws.heap.size ∧ b ≠ wr.heap.size + 1 ∧ b ≠ wr.heap.size) ∧ (∀ b, xa = some ⟨b, 0, none⟩ → wr.heap.size + 1 + 1 ≤ b ∧ b < ws.heap.size) := by
  refine ⟨fun b hb => ?_, fun b hb => ?_⟩
  · have h1 := h.ordr.lt b (by rw [hb]; rfl)
    refine ⟨h1.1, h1.2, ?_, ?_⟩
    · rcases h.oaor with e | ⟨c, e, hc⟩
      · have := h0 b (by rw [← e, hb]); omega
      · rw [hb] at e; simp at e; omega
    · rcases h.oaor with e | ⟨c, e, hc⟩
      · have := h0 b (by rw [← e, hb]); omega
      · rw [hb] at e; simp at e; omega
  · exact h.vals.lt b (by rw [hb]; rfl)

theorem DState.mid (h : DState g w wr ws n ord oa0 oa ocap xa xcap vs) (hlow : w.heap.size + 1 + 1 + 1 + 1 ≤ wr.heap.size) (h0 : ∀ b, oa0 = some ⟨b, 0, none⟩ → b < wr.heap.size) {o : Obj} {t : TypeId} {w2 : World}
    (hK : Kept (fun k => k = w.heap.size + 1 + 1 + 1 ∨ oa = some ⟨k, 0, none⟩) ((ws.alloc o).alloc (.cells #[.int .i64 0, .int .i64 0, .string .empty, .int .i64 0] t)) w2) :
    Four w2 (ws.heap.size + 1) ⟨0, 0, .empty, 0⟩ ∧ Two w2 (wr.heap.size + 1) n.tag (.slice xa vs.length xcap) ∧ w2.ownsRow (wr.heap.size + 1 + 1) 24 4 (.slice xa vs.length xcap) vs.length (valCells vs) := by
  obtain ⟨f1, f2⟩ := h.far hlow h0
  have hz := h.size
  refine ⟨(Four.new_at _ ⟨0, 0, .empty, 0⟩ _ _ (by simp)).kept hK (fun hp => ?_), (h.x.kept (((Kept.refl (fun _ => False) ws).alloc _).alloc _) (fun e => e)).kept hK (fun hp => ?_), hK.owns ((h.vals.alloc _).alloc _) (fun k hk hp => ?_)⟩
  · rcases hp with hp | hp
    · omega
    · have := f1 _ hp; omega
  · rcases hp with hp | hp
    · omega
    · have := f1 _ hp; omega
  · have hk' := owns_addr h.vals hk
    have := f2 k hk'
    rcases hp with hp | hp
    · omega
    · exact h.ap k hk' hp

theorem DState.step (h : DState g w wr ws n ord oa0 oa ocap xa xcap vs) (hlow : w.heap.size + 1 + 1 + 1 + 1 ≤ wr.heap.size) (h0 : ∀ b, oa0 = some ⟨b, 0, none⟩ → b < wr.heap.size) (v : GV) {o o' : Obj} {t : TypeId} {w2 w3 : World} {oa2 : Option Addr} {ocap2 gg cc : Nat}
    (hw2 : w2.rowIs (w.heap.size + 1 + 1 + 1) 3 g.nodes.length (fun i => .int .i64 (whereOf (renOrd ord v) i)))
    (ho2 : w2.ownsRow (w.heap.size + 1 + 1 + 1 + 1) 3 1 (.slice oa2 (renOrd ord v).length ocap2) (renOrd ord v).length (ints (renOrd ord v)))
    (hoa2 : oa2 = oa ∨ ∃ b, oa2 = some ⟨b, 0, none⟩ ∧ ((ws.alloc o).alloc (.cells #[.int .i64 0, .int .i64 0, .string .empty, .int .i64 0] t)).heap.size ≤ b)
    (hK : Kept (fun k => k = w.heap.size + 1 + 1 + 1 ∨ oa = some ⟨k, 0, none⟩) ((ws.alloc o).alloc (.cells #[.int .i64 0, .int .i64 0, .string .empty, .int .i64 0] t)) w2)
    (hown : w3.ownsRow (wr.heap.size + 1 + 1) 24 4 (.slice (some ⟨gg, 0, none⟩) (vs.length + 1) cc) (vs.length + 1) (valCells vs ++ [.int .i64 (renVal ord v).kind, .int .i64 (renVal ord v).num, .string (renVal ord v).text, .int .i64 (renVal ord v).node]))
    (hgrow : ((put4 w2 (ws.heap.size + 1) (renVal ord v)).alloc o').grownBy w3 (Value.slice xa vs.length xcap).ownBlock)
    (hat : (Value.slice xa vs.length xcap).ownBlock = some gg ∨ gg = w2.heap.size + 1) :
    DState g w wr (w3.setCell ⟨wr.heap.size + 1, 1, none⟩ (.slice (some ⟨gg, 0, none⟩) (vs.length + 1) cc)) n (renOrd ord v) oa0 oa2 ocap2 (some ⟨gg, 0, none⟩) cc (vs ++ [renVal ord v]) := by
  obtain ⟨f1, f2⟩ := h.far hlow h0
  obtain ⟨y1, y2, y3⟩ := h.mid hlow h0 hK
  have hz := h.size
  have hs2 : ws.heap.size + 1 + 1 ≤ w2.heap.size := by have := hK.size; simpa using this
  have hP : Kept (fun k => k = ws.heap.size + 1) w2 ((put4 w2 (ws.heap.size + 1) (renVal ord v)).alloc o') := (Kept.put4 _ _ _).alloc _
  have hG := Kept.of_grown hgrow
  have hsP : w2.heap.size + 1 ≤ w3.heap.size := by have h1 := hgrow.size; simp [World.setCell] at h1; omega
  have hC : Kept (fun k => k = wr.heap.size + 1) w3 (w3.setCell ⟨wr.heap.size + 1, 1, none⟩ (.slice (some ⟨gg, 0, none⟩) (vs.length + 1) cc)) := (Kept.refl (fun k => k = wr.heap.size + 1) w3).set (fun _ => rfl) _
  have hxb : ∀ k, (Value.slice xa vs.length xcap).ownBlock = some k → wr.heap.size + 1 + 1 ≤ k ∧ k < ws.heap.size := fun k hk => f2 k (owns_addr h.vals hk)
  have hgg : wr.heap.size + 1 + 1 ≤ gg ∧ (gg < ws.heap.size ∨ w2.heap.size ≤ gg) := by
    rcases hat with e | e
    · have := hxb gg e; omega
    · omega
  have ho2b : ∀ b, oa2 = some ⟨b, 0, none⟩ → w.heap.size + 1 + 1 + 1 + 1 ≤ b ∧ b < w2.heap.size ∧ b ≠ wr.heap.size + 1 ∧ b ≠ ws.heap.size + 1 ∧ (Value.slice xa vs.length xcap).ownBlock ≠ some b := fun b hb => by
    have h1 := ho2.lt b (by rw [hb]; rfl)
    rcases hoa2 with e | ⟨c, e, hc⟩
    · have h2 := f1 b (by rw [← e, hb])
      refine ⟨h1.1, h1.2, h2.2.2.1, by omega, fun hx => h.ap b (owns_addr h.vals hx) (by rw [← e, hb])⟩
    · rw [hb] at e
      simp at e hc
      subst e
      refine ⟨h1.1, h1.2, by omega, by omega, fun hx => ?_⟩
      have := hxb b hx
      omega
  exact {
    kept := by
      refine (((((h.kept.alloc _).alloc _).trans hK (fun k hk hp => ?_)).trans hP (fun k hk hp => ?_)).trans hG (fun k hk hp => ?_)).trans hC (fun k hk hp => ?_)
      · rcases hp with hp | hp
        · exact Or.inl hp
        · rcases h.oaor with e | ⟨c, e, hc⟩
          · exact Or.inr (by rw [← e, hp])
          · rw [hp] at e
            have e' := congrArg (fun q => q.map Addr.block) e
            simp only [Option.map_some, Option.some.injEq] at e'
            omega
      · omega
      · have := hxb k hp; omega
      · omega
    size := by have := hC.size; omega
    x := by
      have h1 : Two w3 (wr.heap.size + 1) n.tag (.slice xa vs.length xcap) := (y2.kept hP (by omega)).kept hG (fun hp => by have := hxb _ hp; omega)
      simpa using h1.set (s' := .slice (some ⟨gg, 0, none⟩) (vs.length + 1) cc)
    wher := hC.rowIs (hG.rowIs (hP.rowIs hw2 (by omega)) (fun hp => by have := hxb _ hp; omega)) (by omega)
    ordr := hC.owns (hG.owns (hP.owns ho2 (fun k hk hp => by have := ho2b k (owns_addr ho2 hk); omega)) (fun k hk hp => (ho2b k (owns_addr ho2 hk)).2.2.2.2 hp)) (fun k hk hp => by have := ho2b k (owns_addr ho2 hk); omega)
    oaor := by
      rcases hoa2 with e | ⟨c, e, hc⟩
      · rw [e]; exact h.oaor
      · simp at hc; exact Or.inr ⟨c, e, by omega⟩
    vals := by
      have h1 := hC.owns hown (fun k hk hp => by simp [Value.ownBlock] at hk; omega)
      simpa [valCells_snoc] using h1
    ap := fun b hb hx => by
      simp at hb
      subst hb
      have h2 := ho2b gg hx
      rcases hat with e | e
      · exact h2.2.2.2.2 e
      · omega }
end

theorem DState.start {g : GG} {a : Option Addr} {cap : Nat} {w wr : World} {ord : List Nat} {oa : Option Addr} {ocap : Nat} {na : Option Addr} {ncap : Nat} {nl : List NL} (h : CState g a cap w wr ord oa ocap na ncap nl) (n : GN) (s : Value) :
    DState g w wr (((wr.alloc (.cells #[.int .i64 n.tag, s] 84)).alloc (.cells #[.int .i64 n.tag, .slice none 0 0] 84)).drew) n ord oa oa ocap none 0 [] where
  kept := (((Kept.refl _ wr).alloc _).alloc _).drew
  size := by simp
  x := (Two.new_at _ _ _ _ _ (by simp)).same rfl (by simp)
  wher := ((h.wher.alloc _).alloc _).drew
  ordr := (((Kept.refl (fun _ => False) wr).alloc _).alloc _).drew.owns h.ordr (fun _ _ h => h)
  oaor := Or.inl rfl
  vals := World.ownsRow_nil _ _ _ _
  ap := fun b hb => by cases hb

/-- what the round's end finds -/
theorem CState.seen {g : GG} {a : Option Addr} {cap : Nat} {w wo wr : World} {ord ord' : List Nat} {oa oa' : Option Addr} {ocap ocap' : Nat} {na : Option Addr} {ncap : Nat} {nl : List NL} {n : GN} {xa : Option Addr} {xcap : Nat} {vs : List GV}
    (h : CState g a cap w wo ord oa ocap na ncap nl) (hD : DState g w wo wr n ord' oa oa' ocap' xa xcap vs) :
    Five wr (w.heap.size + 1 + 1) (renVal [] g.root) (.slice na nl.length ncap) ∧ wr.ownsRow (w.heap.size + 1 + 1 + 1 + 1) 84 2 (.slice na nl.length ncap) nl.length (nodeCells nl) := by
  have ho : ∀ b, oa = some ⟨b, 0, none⟩ → w.heap.size + 1 + 1 + 1 + 1 ≤ b := fun b hb => (h.ordr.lt b (by rw [hb]; rfl)).1
  refine ⟨h.out.kept hD.kept (fun hp => ?_), hD.kept.owns h.nodes (fun k hk hp => ?_)⟩
  · rcases hp with hp | hp
    · omega
    · have := ho _ hp; omega
  · have h1 := h.nodes.lt k hk
    rcases hp with hp | hp
    · omega
    · exact h.apon k (owns_addr h.nodes hk) hp

theorem CState.next {g : GG} {a : Option Addr} {cap : Nat} {w wo wr w3 : World} {ord ord' : List Nat} {oa oa' : Option Addr} {ocap ocap' : Nat} {na : Option Addr} {ncap : Nat} {nl : List NL} {n : GN} {xa : Option Addr} {xcap : Nat} {vs : List GV} {o' : Obj} {gg cc : Nat}
    (h : CState g a cap w wo ord oa ocap na ncap nl) (hD : DState g w wo wr n ord' oa oa' ocap' xa xcap vs)
    (hown : w3.ownsRow (w.heap.size + 1 + 1 + 1 + 1) 84 2 (.slice (some ⟨gg, 0, none⟩) (nl.length + 1) cc) (nl.length + 1) (nodeCells nl ++ [.int .i64 n.tag, .slice xa vs.length xcap]))
    (hgrow : (wr.alloc o').grownBy w3 (Value.slice na nl.length ncap).ownBlock)
    (hat : (Value.slice na nl.length ncap).ownBlock = some gg ∨ gg = wr.heap.size + 1) :
    CState g a cap w (w3.setCell ⟨w.heap.size + 1 + 1, 4, none⟩ (.slice (some ⟨gg, 0, none⟩) (nl.length + 1) cc)) ord' oa' ocap' (some ⟨gg, 0, none⟩) cc (nl ++ [⟨⟨n.tag, vs⟩, xa, xcap⟩]) := by
  obtain ⟨s1, s2⟩ := h.seen hD
  have hb := h.base
  have hz := hD.size
  have ho : ∀ b, oa = some ⟨b, 0, none⟩ → w.heap.size + 1 + 1 + 1 + 1 ≤ b ∧ b < wo.heap.size := fun b hb => h.ordr.lt b (by rw [hb]; rfl)
  obtain ⟨f1, f2⟩ := hD.far hb (fun b hb => (ho b hb).2)
  have hA : Kept (fun _ => False) wr (wr.alloc o') := (Kept.refl _ wr).alloc _
  have hG := Kept.of_grown hgrow
  have hC : Kept (fun k => k = w.heap.size + 1 + 1) w3 (w3.setCell ⟨w.heap.size + 1 + 1, 4, none⟩ (.slice (some ⟨gg, 0, none⟩) (nl.length + 1) cc)) := (Kept.refl (fun k => k = w.heap.size + 1 + 1) w3).set (fun _ => rfl) _
  have hsz : wr.heap.size + 1 ≤ w3.heap.size := by have := hgrow.size; simpa using this
  have hnb : ∀ k, (Value.slice na nl.length ncap).ownBlock = some k → w.heap.size + 1 + 1 + 1 + 1 ≤ k ∧ k < wo.heap.size ∧ na = some ⟨k, 0, none⟩ := fun k hk =>
    ⟨(h.nodes.lt k hk).1, (h.nodes.lt k hk).2, owns_addr h.nodes hk⟩
  have hoN : ∀ b, oa' = some ⟨b, 0, none⟩ → (Value.slice na nl.length ncap).ownBlock ≠ some b := fun b hb hk => by
    have h1 := hnb b hk
    rcases hD.oaor with e | ⟨c, e, hc⟩
    · exact h.apon b h1.2.2 (by rw [← e, hb])
    · rw [hb] at e
      have := some_addr e
      omega
  have hxN : ∀ b, xa = some ⟨b, 0, none⟩ → (Value.slice na nl.length ncap).ownBlock ≠ some b := fun b hb hk => by
    have h1 := hnb b hk
    have h2 := f2 b hb
    omega
  -- what an old row of values is, at the end
  have keep : ∀ {base e size m : Nat} {v : Value} {xs : List Value}, wr.ownsRow base e size v m xs → (∀ k, v.ownBlock = some k → w.heap.size + 1 + 1 + 1 + 1 ≤ k ∧ (Value.slice na nl.length ncap).ownBlock ≠ some k) → (w3.setCell ⟨w.heap.size + 1 + 1, 4, none⟩ (.slice (some ⟨gg, 0, none⟩) (nl.length + 1) cc)).ownsRow base e size v m xs := fun hr hk =>
    hC.owns (hG.owns (hA.owns hr (fun _ _ e => e)) (fun k hk' hp => (hk k hk').2 hp)) (fun k hk' hp => by have := (hk k hk').1; omega)
  exact {
    low := by
      have h1 : Below w.heap.size wo wr := hD.kept.below (by omega) (fun k hk hp => by
        rcases hp with hp | hp
        · omega
        · have := ho k hp; omega)
      have h2 : Below w.heap.size wr w3 := ((hA.mono (q := fun k => (Value.slice na nl.length ncap).ownBlock = some k) (fun _ _ e => e.elim)).trans hG (fun _ _ e => e)).below (by omega) (fun k hk hp => by have := hnb k hp; omega)
      exact ((h.low.trans h1).trans h2).trans (hC.below (by omega) (fun k hk hp => by omega))
    base := by have := hC.size; omega
    box := by
      refine (((h.box.kept hD.kept (fun hp => ?_)).kept hA (fun e => e)).kept hG (fun hp => ?_)).kept hC (by omega)
      · rcases hp with hp | hp
        · omega
        · have := ho _ hp; omega
      · have := hnb _ hp; omega
    res := by
      refine (((h.res.kept hD.kept (fun hp => ?_)).kept hA (fun e => e)).kept hG (fun hp => ?_)).kept hC (by omega)
      · rcases hp with hp | hp
        · omega
        · have := ho _ hp; omega
      · have := hnb _ hp; omega
    out := by
      have h1 := (s1.kept hA (fun e => e)).kept hG (fun hp => by have := hnb _ hp; omega)
      simpa using h1.set (s' := .slice (some ⟨gg, 0, none⟩) (nl.length + 1) cc)
    wher := hC.rowIs (hG.rowIs (hA.rowIs hD.wher (fun e => e)) (fun hp => by have := hnb _ hp; omega)) (by omega)
    ordr := keep hD.ordr (fun k hk => ⟨(f1 k (owns_addr hD.ordr hk)).1, hoN k (owns_addr hD.ordr hk)⟩)
    nodes := by
      have h1 := hC.owns hown (fun k hk hp => by have := (hown.lt k hk).1; omega)
      simpa [nodeCells_snoc] using h1
    vals := fun x hx => by
      rcases List.mem_append.1 hx with hx | hx
      · have h1 := h.vals x hx
        have h2 : wr.ownsRow (w.heap.size + 1 + 1 + 1 + 1) 24 4 (.slice x.a x.n.vals.length x.cap) x.n.vals.length (valCells x.n.vals) := hD.kept.owns h1 (fun k hk hp => by
          have h3 := h1.lt k hk
          rcases hp with hp | hp
          · omega
          · exact (h.apv x hx k (owns_addr h1 hk)).1 hp)
        exact keep h2 (fun k hk => ⟨(h1.lt k hk).1, fun hp => (h.apv x hx k (owns_addr h1 hk)).2 (hnb k hp).2.2⟩)
      · simp at hx
        subst hx
        exact keep (owns_le hD.vals (by omega)) (fun k hk => ⟨by have := f2 k (owns_addr hD.vals hk); omega, hxN k (owns_addr hD.vals hk)⟩)
    apon := fun b hb hx => by
      have e := some_addr hb
      subst e
      rcases hat with e | e
      · exact hoN gg hx e
      · have := (f1 gg hx).2.1; omega
    apv := fun x hx b hb => by
      rcases List.mem_append.1 hx with hx | hx
      · have h1 := h.vals x hx
        have h2 := h1.lt b (by rw [hb]; rfl)
        have h3 := h.apv x hx b hb
        refine ⟨fun e => ?_, fun e => ?_⟩
        · rcases hD.oaor with e' | ⟨c, e', hc⟩
          · exact h3.1 (by rw [← e', e])
          · rw [e] at e'
            have := some_addr e'
            omega
        · have e1 := some_addr e
          subst e1
          rcases hat with e2 | e2
          · exact h3.2 (hnb gg e2).2.2
          · omega
      · simp at hx
        subst hx
        refine ⟨hD.ap b hb, fun e => ?_⟩
        have e1 := some_addr e
        subst e1
        rcases hat with e2 | e2
        · exact hxN gg hb e2
        · have := (f2 gg hb).2; omega }

/-- what the one form leaves -/
def CanonPost (g : GG) (w : World) (e : Ending) (w' : World) : Prop :=
  ∃ na ncap, e = .returned ((canon g).val na ncap) ∧ NodesAt w'.heap.size w' na (canon g).nodes ∧ Below w.heap.size w w'

end Go.Proofs.Ythjddpkegooobaa
