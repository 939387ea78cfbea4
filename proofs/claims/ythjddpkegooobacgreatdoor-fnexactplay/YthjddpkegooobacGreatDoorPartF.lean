import Derived.Deep.RegionHeld3
import Derived.Lib.Strings
import Derived.Lib.BufferWrite
import Derived.Lib.UnsafeStr
import Derived.Test.YthjddpkegooobacGreatDoorPartE
namespace Go.Proofs.YthjddpkegooobacGreatDoor
open Go.RowKit
set_option maxRecDepth 100000
set_option maxHeartbeats 8000000
structure CState (g : GG) (a : Option Addr) (cap : Nat) (w : World) (wr : World) (ord : List Nat) (oa : Option Addr) (ocap : Nat) (na : Option Addr) (ncap : Nat) (nl : List NL) : Prop where
 low : Below w.heap.size w wr
 base : w.heap.size + 1 + 1 + 1 + 1 ≤ wr.heap.size
 box : GBox wr w.heap.size g a cap
 res : Five wr (w.heap.size + 1) ⟨0, 0, .empty, 0⟩ (.slice none 0 0)
 out : Five wr (w.heap.size + 1 + 1) (renVal [] g.root) (.slice na nl.length ncap)
 wher : wr.rowIs (w.heap.size + 1 + 1 + 1) 3 g.nodes.length (fun i => .int .i64 (whereOf ord i))
 ordr : wr.ownsRow (w.heap.size + 1 + 1 + 1 + 1) 3 1 (.slice oa ord.length ocap) ord.length (ints ord)
 nodes : wr.ownsRow (w.heap.size + 1 + 1 + 1 + 1) 111 2 (.slice na nl.length ncap) nl.length (nodeCells nl)
 vals : ∀ x, x ∈ nl → wr.ownsRow (w.heap.size + 1 + 1 + 1 + 1) 28 4 (.slice x.a x.n.vals.length x.cap) x.n.vals.length (valCells x.n.vals)
 apon : ∀ b, na = some ⟨b, 0, none⟩ → oa ≠ some ⟨b, 0, none⟩
 apv : ∀ x, x ∈ nl → ∀ b, x.a = some ⟨b, 0, none⟩ → oa ≠ some ⟨b, 0, none⟩ ∧ na ≠ some ⟨b, 0, none⟩
theorem GBox.kept {p : Nat → Prop} {w w' : World} {b : Nat} {g : GG} {a : Option Addr} {cap : Nat} (h : GBox w b g a cap) (k : Kept p w w') (hn : ¬ p b) : GBox w' b g a cap :=
 ⟨Nat.lt_of_lt_of_le h.lt k.size, k.cell h.kind hn, k.cell h.num hn, k.cell h.text hn, k.cell h.node hn, k.cell h.sl hn⟩
structure CStart (g : GG) (a : Option Addr) (cap : Nat) (w : World) (wr : World) (f : Nat → Value) : Prop where
 low : Below w.heap.size w wr
 base : w.heap.size + 1 + 1 + 1 + 1 ≤ wr.heap.size
 box : GBox wr w.heap.size g a cap
 res : Five wr (w.heap.size + 1) ⟨0, 0, .empty, 0⟩ (.slice none 0 0)
 out : Five wr (w.heap.size + 1 + 1) ⟨0, 0, .empty, 0⟩ (.slice none 0 0)
 wher : wr.rowIs (w.heap.size + 1 + 1 + 1) 3 g.nodes.length f
theorem CStart.set {g : GG} {a : Option Addr} {cap : Nat} {w wr : World} {f : Nat → Value} (h : CStart g a cap w wr f) (k : Nat) (u : Value) : CStart g a cap w (wr.setCell ⟨w.heap.size + 1 + 1 + 1, k, none⟩ u) (fun j => if j = k then u else f j) := by
 have hq : Kept (fun k => k = w.heap.size + 1 + 1 + 1) wr (wr.setCell ⟨w.heap.size + 1 + 1 + 1, k, none⟩ u) := (Kept.refl (fun k => k = w.heap.size + 1 + 1 + 1) wr).set (fun _ => rfl) _
 exact ⟨h.low.setCell (by simp; omega) _, by have := h.base; simpa [World.setCell] using this, h.box.kept hq (by omega), h.res.kept hq (by omega), h.out.kept hq (by omega), h.wher.set k u⟩
theorem CState.start {g : GG} {a : Option Addr} {cap : Nat} {w wr w1 : World} {f : Nat → Value} {oa : Option Addr} {ocap : Nat} (h : CStart g a cap w wr f)
  (hw1 : w1.rowIs (w.heap.size + 1 + 1 + 1) 3 g.nodes.length (fun i => .int .i64 (whereOf (renOrd [] g.root) i)))
  (ho1 : w1.ownsRow (w.heap.size + 1 + 1 + 1 + 1) 3 1 (.slice oa (renOrd [] g.root).length ocap) (renOrd [] g.root).length (ints (renOrd [] g.root)))
  (hK : Kept (fun k => k = w.heap.size + 1 + 1 + 1 ∨ (none : Option Addr) = some ⟨k, 0, none⟩) wr w1) :
  CState g a cap w ((((w1.setCell ⟨w.heap.size + 1 + 1, 0, none⟩ (.int .i64 (renVal [] g.root).kind)).setCell ⟨w.heap.size + 1 + 1, 1, none⟩ (.int .i64 (renVal [] g.root).num)).setCell ⟨w.heap.size + 1 + 1, 2, none⟩ (.string (renVal [] g.root).text)).setCell ⟨w.heap.size + 1 + 1, 3, none⟩ (.int .i64 (renVal [] g.root).node)) (renOrd [] g.root) oa ocap none 0 [] := by
 have hQ : Kept (fun k => k = w.heap.size + 1 + 1) w1 ((((w1.setCell ⟨w.heap.size + 1 + 1, 0, none⟩ (.int .i64 (renVal [] g.root).kind)).setCell ⟨w.heap.size + 1 + 1, 1, none⟩ (.int .i64 (renVal [] g.root).num)).setCell ⟨w.heap.size + 1 + 1, 2, none⟩ (.string (renVal [] g.root).text)).setCell ⟨w.heap.size + 1 + 1, 3, none⟩ (.int .i64 (renVal [] g.root).node)) :=
  (((((Kept.refl (fun k => k = w.heap.size + 1 + 1) w1).set (fun _ => rfl) _).set (fun _ => rfl) _).set (fun _ => rfl) _).set (fun _ => rfl) _)
 have hb := h.base
 have hlow : Below w.heap.size w ((((w1.setCell ⟨w.heap.size + 1 + 1, 0, none⟩ (.int .i64 (renVal [] g.root).kind)).setCell ⟨w.heap.size + 1 + 1, 1, none⟩ (.int .i64 (renVal [] g.root).num)).setCell ⟨w.heap.size + 1 + 1, 2, none⟩ (.string (renVal [] g.root).text)).setCell ⟨w.heap.size + 1 + 1, 3, none⟩ (.int .i64 (renVal [] g.root).node)) := by
  have h1 : Below w.heap.size wr w1 := hK.below (by omega) (fun k hk hp => by
   rcases hp with hp | hp
   · omega
   · cases hp)
  exact (h.low.trans h1).trans (hQ.below (by have := hK.size; omega) (fun k hk hp => by omega))
 exact {
  low := hlow
  base := by have h1 := hK.size; have h2 := hQ.size; omega
  box := (h.box.kept hK (by simp; omega)).kept hQ (by omega)
  res := (h.res.kept hK (by simp)).kept hQ (by omega)
  out := (h.out.kept hK (by simp)).put
  wher := hQ.rowIs hw1 (by omega)
  ordr := hQ.owns ho1 (fun k hk => by have := (ho1.lt k hk).1; omega)
  nodes := World.ownsRow_nil _ _ _ _
  vals := fun x hx => by cases hx
  apon := fun b hb => by cases hb
  apv := fun x hx => by cases hx }
structure DState (g : GG) (w wr ws : World) (n : GN) (ord : List Nat) (oa0 oa : Option Addr) (ocap : Nat) (xa : Option Addr) (xcap : Nat) (vs : List GV) : Prop where
 kept : Kept (fun k => k = w.heap.size + 1 + 1 + 1 ∨ oa0 = some ⟨k, 0, none⟩) wr ws
 size : wr.heap.size + 1 + 1 ≤ ws.heap.size
 x : Two ws (wr.heap.size + 1) n.tag (.slice xa vs.length xcap)
 wher : ws.rowIs (w.heap.size + 1 + 1 + 1) 3 g.nodes.length (fun i => .int .i64 (whereOf ord i))
 ordr : ws.ownsRow (w.heap.size + 1 + 1 + 1 + 1) 3 1 (.slice oa ord.length ocap) ord.length (ints ord)
 oaor : oa = oa0 ∨ ∃ b, oa = some ⟨b, 0, none⟩ ∧ wr.heap.size + 1 + 1 ≤ b
 vals : ws.ownsRow (wr.heap.size + 1 + 1) 28 4 (.slice xa vs.length xcap) vs.length (valCells vs)
 ap : ∀ b, xa = some ⟨b, 0, none⟩ → oa ≠ some ⟨b, 0, none⟩
section
variable {g : GG} {w wr ws : World} {n : GN} {ord : List Nat} {oa0 oa : Option Addr} {ocap : Nat} {xa : Option Addr} {xcap : Nat} {vs : List GV}
theorem DState.far (h : DState g w wr ws n ord oa0 oa ocap xa xcap vs) (_hlow : w.heap.size + 1 + 1 + 1 + 1 ≤ wr.heap.size) (h0 : ∀ b, oa0 = some ⟨b, 0, none⟩ → b < wr.heap.size) :
  (∀ b, oa = some ⟨b, 0, none⟩ → w.heap.size + 1 + 1 + 1 + 1 ≤ b ∧ b < ws.heap.size ∧ b ≠ wr.heap.size + 1 ∧ b ≠ wr.heap.size) ∧ (∀ b, xa = some ⟨b, 0, none⟩ → wr.heap.size + 1 + 1 ≤ b ∧ b < ws.heap.size) := by
 refine ⟨fun b hb => ?_, fun b hb => ?_⟩
 ·
  have h1 := h.ordr.lt b (by rw [hb]; rfl)
  refine ⟨h1.1, h1.2, ?_, ?_⟩
  ·
   rcases h.oaor with e | ⟨c, e, hc⟩
   · have := h0 b (by rw [← e, hb]); omega
   · rw [hb] at e; simp at e; omega
  ·
   rcases h.oaor with e | ⟨c, e, hc⟩
   · have := h0 b (by rw [← e, hb]); omega
   · rw [hb] at e; simp at e; omega
 · exact h.vals.lt b (by rw [hb]; rfl)
theorem DState.mid (h : DState g w wr ws n ord oa0 oa ocap xa xcap vs) (hlow : w.heap.size + 1 + 1 + 1 + 1 ≤ wr.heap.size) (h0 : ∀ b, oa0 = some ⟨b, 0, none⟩ → b < wr.heap.size) {o : Obj} {t : TypeId} {w2 : World}
  (hK : Kept (fun k => k = w.heap.size + 1 + 1 + 1 ∨ oa = some ⟨k, 0, none⟩) ((ws.alloc o).alloc (.cells #[.int .i64 0, .int .i64 0, .string .empty, .int .i64 0] t)) w2) :
  Four w2 (ws.heap.size + 1) ⟨0, 0, .empty, 0⟩ ∧ Two w2 (wr.heap.size + 1) n.tag (.slice xa vs.length xcap) ∧ w2.ownsRow (wr.heap.size + 1 + 1) 28 4 (.slice xa vs.length xcap) vs.length (valCells vs) := by
 obtain ⟨f1, f2⟩ := h.far hlow h0
 have hz := h.size
 refine ⟨(Four.new_at _ ⟨0, 0, .empty, 0⟩ _ _ (by simp)).kept hK (fun hp => ?_), (h.x.kept (((Kept.refl (fun _ => False) ws).alloc _).alloc _) (fun e => e)).kept hK (fun hp => ?_), hK.owns ((h.vals.alloc _).alloc _) (fun k hk hp => ?_)⟩
 ·
  rcases hp with hp | hp
  · omega
  · have := f1 _ hp; omega
 ·
  rcases hp with hp | hp
  · omega
  · have := f1 _ hp; omega
 ·
  have hk' := owns_addr h.vals hk
  have := f2 k hk'
  rcases hp with hp | hp
  · omega
  · exact h.ap k hk' hp
theorem DState.step (h : DState g w wr ws n ord oa0 oa ocap xa xcap vs) (hlow : w.heap.size + 1 + 1 + 1 + 1 ≤ wr.heap.size) (h0 : ∀ b, oa0 = some ⟨b, 0, none⟩ → b < wr.heap.size) (v : GV) {o o' : Obj} {t : TypeId} {w2 w3 : World} {oa2 : Option Addr} {ocap2 gg cc : Nat}
  (hw2 : w2.rowIs (w.heap.size + 1 + 1 + 1) 3 g.nodes.length (fun i => .int .i64 (whereOf (renOrd ord v) i)))
  (ho2 : w2.ownsRow (w.heap.size + 1 + 1 + 1 + 1) 3 1 (.slice oa2 (renOrd ord v).length ocap2) (renOrd ord v).length (ints (renOrd ord v)))
  (hoa2 : oa2 = oa ∨ ∃ b, oa2 = some ⟨b, 0, none⟩ ∧ ((ws.alloc o).alloc (.cells #[.int .i64 0, .int .i64 0, .string .empty, .int .i64 0] t)).heap.size ≤ b)
  (hK : Kept (fun k => k = w.heap.size + 1 + 1 + 1 ∨ oa = some ⟨k, 0, none⟩) ((ws.alloc o).alloc (.cells #[.int .i64 0, .int .i64 0, .string .empty, .int .i64 0] t)) w2)
  (hown : w3.ownsRow (wr.heap.size + 1 + 1) 28 4 (.slice (some ⟨gg, 0, none⟩) (vs.length + 1) cc) (vs.length + 1) (valCells vs ++ [.int .i64 (renVal ord v).kind, .int .i64 (renVal ord v).num, .string (renVal ord v).text, .int .i64 (renVal ord v).node]))
  (hgrow : ((put4 w2 (ws.heap.size + 1) (renVal ord v)).alloc o').grownBy w3 (Value.slice xa vs.length xcap).ownBlock)
  (hat : (Value.slice xa vs.length xcap).ownBlock = some gg ∨ gg = w2.heap.size + 1) :
  DState g w wr (w3.setCell ⟨wr.heap.size + 1, 1, none⟩ (.slice (some ⟨gg, 0, none⟩) (vs.length + 1) cc)) n (renOrd ord v) oa0 oa2 ocap2 (some ⟨gg, 0, none⟩) cc (vs ++ [renVal ord v]) := by
 obtain ⟨f1, f2⟩ := h.far hlow h0
 obtain ⟨y1, y2, y3⟩ := h.mid hlow h0 hK
 have hz := h.size
 have hs2 : ws.heap.size + 1 + 1 ≤ w2.heap.size := by have := hK.size; simpa using this
 have hP : Kept (fun k => k = ws.heap.size + 1) w2 ((put4 w2 (ws.heap.size + 1) (renVal ord v)).alloc o') := (Kept.put4 _ _ _).alloc _
 have hG := Kept.of_grown hgrow
 have hsP : w2.heap.size + 1 ≤ w3.heap.size := by have h1 := hgrow.size; simp [World.setCell] at h1; omega
 have hC : Kept (fun k => k = wr.heap.size + 1) w3 (w3.setCell ⟨wr.heap.size + 1, 1, none⟩ (.slice (some ⟨gg, 0, none⟩) (vs.length + 1) cc)) := (Kept.refl (fun k => k = wr.heap.size + 1) w3).set (fun _ => rfl) _
 have hxb : ∀ k, (Value.slice xa vs.length xcap).ownBlock = some k → wr.heap.size + 1 + 1 ≤ k ∧ k < ws.heap.size := fun k hk => f2 k (owns_addr h.vals hk)
 have hgg : wr.heap.size + 1 + 1 ≤ gg ∧ (gg < ws.heap.size ∨ w2.heap.size ≤ gg) := by
  rcases hat with e | e
  · have := hxb gg e; omega
  · omega
 have ho2b : ∀ b, oa2 = some ⟨b, 0, none⟩ → w.heap.size + 1 + 1 + 1 + 1 ≤ b ∧ b < w2.heap.size ∧ b ≠ wr.heap.size + 1 ∧ b ≠ ws.heap.size + 1 ∧ (Value.slice xa vs.length xcap).ownBlock ≠ some b := fun b hb => by
  have h1 := ho2.lt b (by rw [hb]; rfl)
  rcases hoa2 with e | ⟨c, e, hc⟩
  ·
   have h2 := f1 b (by rw [← e, hb])
   refine ⟨h1.1, h1.2, h2.2.2.1, by omega, fun hx => h.ap b (owns_addr h.vals hx) (by rw [← e, hb])⟩
  ·
   rw [hb] at e
   simp at e hc
   subst e
   refine ⟨h1.1, h1.2, by omega, by omega, fun hx => ?_⟩
   have := hxb b hx
   omega
 exact {
  kept := by
   refine (((((h.kept.alloc _).alloc _).trans hK (fun k hk hp => ?_)).trans hP (fun k hk hp => ?_)).trans hG (fun k hk hp => ?_)).trans hC (fun k hk hp => ?_)
   ·
    rcases hp with hp | hp
    · exact Or.inl hp
    ·
     rcases h.oaor with e | ⟨c, e, hc⟩
     · exact Or.inr (by rw [← e, hp])
     ·
      rw [hp] at e
      have e' := congrArg (fun q => q.map Addr.block) e
      simp only [Option.map_some, Option.some.injEq] at e'
      omega
   · omega
   · have := hxb k hp; omega
   · omega
  size := by have := hC.size; omega
  x := by
   have h1 : Two w3 (wr.heap.size + 1) n.tag (.slice xa vs.length xcap) := (y2.kept hP (by omega)).kept hG (fun hp => by have := hxb _ hp; omega)
   simpa using h1.set (s' := .slice (some ⟨gg, 0, none⟩) (vs.length + 1) cc)
  wher := hC.rowIs (hG.rowIs (hP.rowIs hw2 (by omega)) (fun hp => by have := hxb _ hp; omega)) (by omega)
  ordr := hC.owns (hG.owns (hP.owns ho2 (fun k hk hp => by have := ho2b k (owns_addr ho2 hk); omega)) (fun k hk hp => (ho2b k (owns_addr ho2 hk)).2.2.2.2 hp)) (fun k hk hp => by have := ho2b k (owns_addr ho2 hk); omega)
  oaor := by
   rcases hoa2 with e | ⟨c, e, hc⟩
   · rw [e]; exact h.oaor
   · simp at hc; exact Or.inr ⟨c, e, by omega⟩
  vals := by
   have h1 := hC.owns hown (fun k hk hp => by simp [Value.ownBlock] at hk; omega)
   simpa [valCells_snoc] using h1
  ap := fun b hb hx => by
   simp at hb
   subst hb
   have h2 := ho2b gg hx
   rcases hat with e | e
   · exact h2.2.2.2.2 e
   · omega }
end
theorem DState.start {g : GG} {a : Option Addr} {cap : Nat} {w wr : World} {ord : List Nat} {oa : Option Addr} {ocap : Nat} {na : Option Addr} {ncap : Nat} {nl : List NL} (h : CState g a cap w wr ord oa ocap na ncap nl) (n : GN) (s : Value) :
  DState g w wr (((wr.alloc (.cells #[.int .i64 n.tag, s] 111)).alloc (.cells #[.int .i64 n.tag, .slice none 0 0] 111)).drew) n ord oa oa ocap none 0 [] where
 kept := (((Kept.refl _ wr).alloc _).alloc _).drew
 size := by simp
 x := (Two.new_at _ _ _ _ _ (by simp)).same rfl (by simp)
 wher := ((h.wher.alloc _).alloc _).drew
 ordr := (((Kept.refl (fun _ => False) wr).alloc _).alloc _).drew.owns h.ordr (fun _ _ h => h)
 oaor := Or.inl rfl
 vals := World.ownsRow_nil _ _ _ _
 ap := fun b hb => by cases hb
theorem CState.seen {g : GG} {a : Option Addr} {cap : Nat} {w wo wr : World} {ord ord' : List Nat} {oa oa' : Option Addr} {ocap ocap' : Nat} {na : Option Addr} {ncap : Nat} {nl : List NL} {n : GN} {xa : Option Addr} {xcap : Nat} {vs : List GV}
  (h : CState g a cap w wo ord oa ocap na ncap nl) (hD : DState g w wo wr n ord' oa oa' ocap' xa xcap vs) :
  Five wr (w.heap.size + 1 + 1) (renVal [] g.root) (.slice na nl.length ncap) ∧ wr.ownsRow (w.heap.size + 1 + 1 + 1 + 1) 111 2 (.slice na nl.length ncap) nl.length (nodeCells nl) := by
 have ho : ∀ b, oa = some ⟨b, 0, none⟩ → w.heap.size + 1 + 1 + 1 + 1 ≤ b := fun b hb => (h.ordr.lt b (by rw [hb]; rfl)).1
 refine ⟨h.out.kept hD.kept (fun hp => ?_), hD.kept.owns h.nodes (fun k hk hp => ?_)⟩
 ·
  rcases hp with hp | hp
  · omega
  · have := ho _ hp; omega
 ·
  have h1 := h.nodes.lt k hk
  rcases hp with hp | hp
  · omega
  · exact h.apon k (owns_addr h.nodes hk) hp
theorem CState.next {g : GG} {a : Option Addr} {cap : Nat} {w wo wr w3 : World} {ord ord' : List Nat} {oa oa' : Option Addr} {ocap ocap' : Nat} {na : Option Addr} {ncap : Nat} {nl : List NL} {n : GN} {xa : Option Addr} {xcap : Nat} {vs : List GV} {o' : Obj} {gg cc : Nat}
  (h : CState g a cap w wo ord oa ocap na ncap nl) (hD : DState g w wo wr n ord' oa oa' ocap' xa xcap vs)
  (hown : w3.ownsRow (w.heap.size + 1 + 1 + 1 + 1) 111 2 (.slice (some ⟨gg, 0, none⟩) (nl.length + 1) cc) (nl.length + 1) (nodeCells nl ++ [.int .i64 n.tag, .slice xa vs.length xcap]))
  (hgrow : (wr.alloc o').grownBy w3 (Value.slice na nl.length ncap).ownBlock)
  (hat : (Value.slice na nl.length ncap).ownBlock = some gg ∨ gg = wr.heap.size + 1) :
  CState g a cap w (w3.setCell ⟨w.heap.size + 1 + 1, 4, none⟩ (.slice (some ⟨gg, 0, none⟩) (nl.length + 1) cc)) ord' oa' ocap' (some ⟨gg, 0, none⟩) cc (nl ++ [⟨⟨n.tag, vs⟩, xa, xcap⟩]) := by
 obtain ⟨s1, s2⟩ := h.seen hD
 have hb := h.base
 have hz := hD.size
 have ho : ∀ b, oa = some ⟨b, 0, none⟩ → w.heap.size + 1 + 1 + 1 + 1 ≤ b ∧ b < wo.heap.size := fun b hb => h.ordr.lt b (by rw [hb]; rfl)
 obtain ⟨f1, f2⟩ := hD.far hb (fun b hb => (ho b hb).2)
 have hA : Kept (fun _ => False) wr (wr.alloc o') := (Kept.refl _ wr).alloc _
 have hG := Kept.of_grown hgrow
 have hC : Kept (fun k => k = w.heap.size + 1 + 1) w3 (w3.setCell ⟨w.heap.size + 1 + 1, 4, none⟩ (.slice (some ⟨gg, 0, none⟩) (nl.length + 1) cc)) := (Kept.refl (fun k => k = w.heap.size + 1 + 1) w3).set (fun _ => rfl) _
 have hsz : wr.heap.size + 1 ≤ w3.heap.size := by have := hgrow.size; simpa using this
 have hnb : ∀ k, (Value.slice na nl.length ncap).ownBlock = some k → w.heap.size + 1 + 1 + 1 + 1 ≤ k ∧ k < wo.heap.size ∧ na = some ⟨k, 0, none⟩ := fun k hk =>
  ⟨(h.nodes.lt k hk).1, (h.nodes.lt k hk).2, owns_addr h.nodes hk⟩
 have hoN : ∀ b, oa' = some ⟨b, 0, none⟩ → (Value.slice na nl.length ncap).ownBlock ≠ some b := fun b hb hk => by
  have h1 := hnb b hk
  rcases hD.oaor with e | ⟨c, e, hc⟩
  · exact h.apon b h1.2.2 (by rw [← e, hb])
  ·
   rw [hb] at e
   have := some_addr e
   omega
 have hxN : ∀ b, xa = some ⟨b, 0, none⟩ → (Value.slice na nl.length ncap).ownBlock ≠ some b := fun b hb hk => by
  have h1 := hnb b hk
  have h2 := f2 b hb
  omega
 -- what an old row of values is, at the end
 have keep : ∀ {base e size m : Nat} {v : Value} {xs : List Value}, wr.ownsRow base e size v m xs → (∀ k, v.ownBlock = some k → w.heap.size + 1 + 1 + 1 + 1 ≤ k ∧ (Value.slice na nl.length ncap).ownBlock ≠ some k) → (w3.setCell ⟨w.heap.size + 1 + 1, 4, none⟩ (.slice (some ⟨gg, 0, none⟩) (nl.length + 1) cc)).ownsRow base e size v m xs := fun hr hk =>
  hC.owns (hG.owns (hA.owns hr (fun _ _ e => e)) (fun k hk' hp => (hk k hk').2 hp)) (fun k hk' hp => by have := (hk k hk').1; omega)
 exact {
  low := by
   have h1 : Below w.heap.size wo wr := hD.kept.below (by omega) (fun k hk hp => by
    rcases hp with hp | hp
    · omega
    · have := ho k hp; omega)
   have h2 : Below w.heap.size wr w3 := ((hA.mono (q := fun k => (Value.slice na nl.length ncap).ownBlock = some k) (fun _ _ e => e.elim)).trans hG (fun _ _ e => e)).below (by omega) (fun k hk hp => by have := hnb k hp; omega)
   exact ((h.low.trans h1).trans h2).trans (hC.below (by omega) (fun k hk hp => by omega))
  base := by have := hC.size; omega
  box := by
   refine (((h.box.kept hD.kept (fun hp => ?_)).kept hA (fun e => e)).kept hG (fun hp => ?_)).kept hC (by omega)
   ·
    rcases hp with hp | hp
    · omega
    · have := ho _ hp; omega
   · have := hnb _ hp; omega
  res := by
   refine (((h.res.kept hD.kept (fun hp => ?_)).kept hA (fun e => e)).kept hG (fun hp => ?_)).kept hC (by omega)
   ·
    rcases hp with hp | hp
    · omega
    · have := ho _ hp; omega
   · have := hnb _ hp; omega
  out := by
   have h1 := (s1.kept hA (fun e => e)).kept hG (fun hp => by have := hnb _ hp; omega)
   simpa using h1.set (s' := .slice (some ⟨gg, 0, none⟩) (nl.length + 1) cc)
  wher := hC.rowIs (hG.rowIs (hA.rowIs hD.wher (fun e => e)) (fun hp => by have := hnb _ hp; omega)) (by omega)
  ordr := keep hD.ordr (fun k hk => ⟨(f1 k (owns_addr hD.ordr hk)).1, hoN k (owns_addr hD.ordr hk)⟩)
  nodes := by
   have h1 := hC.owns hown (fun k hk hp => by have := (hown.lt k hk).1; omega)
   simpa [nodeCells_snoc] using h1
  vals := fun x hx => by
   rcases List.mem_append.1 hx with hx | hx
   ·
    have h1 := h.vals x hx
    have h2 : wr.ownsRow (w.heap.size + 1 + 1 + 1 + 1) 28 4 (.slice x.a x.n.vals.length x.cap) x.n.vals.length (valCells x.n.vals) := hD.kept.owns h1 (fun k hk hp => by
     have h3 := h1.lt k hk
     rcases hp with hp | hp
     · omega
     · exact (h.apv x hx k (owns_addr h1 hk)).1 hp)
    exact keep h2 (fun k hk => ⟨(h1.lt k hk).1, fun hp => (h.apv x hx k (owns_addr h1 hk)).2 (hnb k hp).2.2⟩)
   ·
    simp at hx
    subst hx
    exact keep (owns_le hD.vals (by omega)) (fun k hk => ⟨by have := f2 k (owns_addr hD.vals hk); omega, hxN k (owns_addr hD.vals hk)⟩)
  apon := fun b hb hx => by
   have e := some_addr hb
   subst e
   rcases hat with e | e
   · exact hoN gg hx e
   · have := (f1 gg hx).2.1; omega
  apv := fun x hx b hb => by
   rcases List.mem_append.1 hx with hx | hx
   ·
    have h1 := h.vals x hx
    have h2 := h1.lt b (by rw [hb]; rfl)
    have h3 := h.apv x hx b hb
    refine ⟨fun e => ?_, fun e => ?_⟩
    ·
     rcases hD.oaor with e' | ⟨c, e', hc⟩
     · exact h3.1 (by rw [← e', e])
     ·
      rw [e] at e'
      have := some_addr e'
      omega
    ·
     have e1 := some_addr e
     subst e1
     rcases hat with e2 | e2
     · exact h3.2 (hnb gg e2).2.2
     · omega
   ·
    simp at hx
    subst hx
    refine ⟨hD.ap b hb, fun e => ?_⟩
    have e1 := some_addr e
    subst e1
    rcases hat with e2 | e2
    · exact hxN gg hb e2
    · have := (f2 gg hb).2; omega }
def CanonPost (g : GG) (w : World) (e : Ending) (w' : World) : Prop :=
 ∃ na ncap, e = .returned ((canon g).val na ncap) ∧ NodesAt w'.heap.size w' na (canon g).nodes ∧ Below w.heap.size w w'
def encT (v : GV) : TypeId := if v.kind = 1 then 277 else if v.kind = 2 then 278 else if v.kind = 3 then 279 else if v.kind = 4 then 268 else 282
def encX (tb : Nat → Nat) (v : GV) : Value :=
 if v.kind = 1 then .int .i64 v.num
 else if v.kind = 2 then .int .i64 v.num
 else if v.kind = 3 then .string v.text
 else if v.kind = 4 then .pointer (some ⟨tb v.node.toNat, 0, none⟩)
 else .agg #[]
abbrev encV (tb : Nat → Nat) (v : GV) : Value := .iface (encT v) (encX tb v)
theorem enc1 {tb : Nat → Nat} {v : GV} (h : v.kind = 1) : encV tb v = .iface 277 (.int .i64 v.num) := by
 unfold encV encT encX; rw [if_pos h, if_pos h]
theorem enc2 {tb : Nat → Nat} {v : GV} (h : v.kind = 2) : encV tb v = .iface 278 (.int .i64 v.num) := by
 unfold encV encT encX; rw [if_neg (by omega), if_pos h, if_neg (by omega), if_pos h]
theorem enc3 {tb : Nat → Nat} {v : GV} (h : v.kind = 3) : encV tb v = .iface 279 (.string v.text) := by
 unfold encV encT encX; rw [if_neg (by omega), if_neg (by omega), if_pos h, if_neg (by omega), if_neg (by omega), if_pos h]
theorem enc4 {tb : Nat → Nat} {v : GV} (h : v.kind = 4) : encV tb v = .iface 268 (.pointer (some ⟨tb v.node.toNat, 0, none⟩)) := by
 unfold encV encT encX; rw [if_neg (by omega), if_neg (by omega), if_neg (by omega), if_pos h, if_neg (by omega), if_neg (by omega), if_neg (by omega), if_pos h]
theorem enc0 {tb : Nat → Nat} {v : GV} (h1 : v.kind ≠ 1) (h2 : v.kind ≠ 2) (h3 : v.kind ≠ 3) (h4 : v.kind ≠ 4) : encV tb v = .iface 282 (.agg #[]) := by
 unfold encV encT encX; rw [if_neg h1, if_neg h2, if_neg h3, if_neg h4, if_neg h1, if_neg h2, if_neg h3, if_neg h4]
abbrev Things (w : World) (th n : Nat) (tb : Nat → Nat) : Prop := w.rowIs th 268 n (fun i => .pointer (some ⟨tb i, 0, none⟩))
theorem valueOf_any (n th : Nat) (tb : Nat → Nat) (v : GV) (w : World) (hv : okV n v = true) (_hn : n ≤ 300) (ht : Things w th n tb) :
  Calls Tryz.prog 178 #[v.val, .slice (some ⟨th, 0, none⟩) n n] w fun e w' => e = .returned (encV tb v) ∧ Below w.heap.size w w' := by
 by_cases h1 : v.kind = 1
 ·
  have t1 : (v.kind == 1) = true := by simpa using h1
  have e : Hid _ := enc1 (tb := tb) h1
  clear h1
  go_enter Tryz.func178, Tryz.ntmps178
  go_wp2
  go_ret
  exact ⟨by rw [e.out]; rfl, gal (gre _) _⟩
 have t1 : (v.kind == 1) = false := by simpa using h1
 by_cases h2 : v.kind = 2
 ·
  have t2 : (v.kind == 2) = true := by simpa using h2
  have e : Hid _ := enc2 (tb := tb) h2
  clear h1 h2
  go_enter Tryz.func178, Tryz.ntmps178
  go_wp2
  go_ret
  exact ⟨by rw [e.out]; rfl, gal (gre _) _⟩
 have t2 : (v.kind == 2) = false := by simpa using h2
 by_cases h3 : v.kind = 3
 ·
  have t3 : (v.kind == 3) = true := by simpa using h3
  have e : Hid _ := enc3 (tb := tb) h3
  clear h1 h2 h3
  go_enter Tryz.func178, Tryz.ntmps178
  go_wp2
  go_ret
  exact ⟨by rw [e.out]; rfl, gal (gre _) _⟩
 have t3 : (v.kind == 3) = false := by simpa using h3
 by_cases h4 : v.kind = 4
 ·
  have t4 : (v.kind == 4) = true := by simpa using h4
  have hb := okV_node hv h4
  have e : Hid _ := enc4 (tb := tb) h4
  clear h1 h2 h3 h4
  obtain ⟨k, m, t, x⟩ := v
  obtain ⟨y, rfl⟩ := Int.eq_ofNat_of_zero_le hb.1
  have hy : y < n := by have := hb.2; simpa using this
  have hc := ht.cell hy
  have hl := ht.lt
  have i0 : (0 : Int) ≤ (y : Int) := by omega
  have i1 : (y : Int) < (n : Int) := by omega
  go_enter Tryz.func178, Tryz.ntmps178
  go_wp2
  go_ret
  exact ⟨by rw [e.out]; rfl, gal (gre _) _⟩
 have t4 : (v.kind == 4) = false := by simpa using h4
 have e : Hid _ := enc0 (tb := tb) h1 h2 h3 h4
 clear h1 h2 h3 h4
 go_enter Tryz.func178, Tryz.ntmps178
 go_wp2
 go_ret
 exact ⟨by rw [e.out]; rfl, gal (gre _) _⟩
structure L1 (g : GG) (a : Option Addr) (cap : Nat) (w wr : World) (k : Nat) (tb : Nat → Nat) : Prop where
 low : Below w.heap.size w wr
 box : GBox wr w.heap.size g a cap
 row : wr.rowIs (w.heap.size + 1) 268 g.nodes.length (fun i => if i < k then .pointer (some ⟨tb i, 0, none⟩) else .pointer none)
 things : ∀ i, i < k → Two wr (tb i) g.nodes[i]!.tag (.slice none 0 0) ∧ w.heap.size + 1 < tb i
 inj : ∀ i j, i < j → j < k → tb i < tb j
theorem L1.step {g : GG} {a : Option Addr} {cap : Nat} {w wr : World} {k : Nat} {tb : Nat → Nat} (h : L1 g a cap w wr k tb) (s : Value) (t t' : TypeId) :
  L1 g a cap w (((wr.setCell ⟨w.heap.size + 1, k, none⟩ (.pointer (some ⟨wr.heap.size + 1, 0, none⟩))).alloc (.cells #[.int .i64 g.nodes[k]!.tag, s] t)).alloc (.cells #[.int .i64 g.nodes[k]!.tag, .slice none 0 0] t')) (k + 1) (fun i => if i = k then wr.heap.size + 1 else tb i) := by
 have hl := h.row.lt
 have hC := (Kept.refl (fun b => b = w.heap.size + 1) wr).set (a := ⟨w.heap.size + 1, k, none⟩) (fun _ => rfl) (.pointer (some ⟨wr.heap.size + 1, 0, none⟩))
 have hA : Kept (fun _ => False) (wr.setCell ⟨w.heap.size + 1, k, none⟩ (.pointer (some ⟨wr.heap.size + 1, 0, none⟩))) (((wr.setCell ⟨w.heap.size + 1, k, none⟩ (.pointer (some ⟨wr.heap.size + 1, 0, none⟩))).alloc (.cells #[.int .i64 g.nodes[k]!.tag, s] t)).alloc (.cells #[.int .i64 g.nodes[k]!.tag, .slice none 0 0] t')) := ((Kept.refl _ _).alloc _).alloc _
 have hnew : Two (((wr.setCell ⟨w.heap.size + 1, k, none⟩ (.pointer (some ⟨wr.heap.size + 1, 0, none⟩))).alloc (.cells #[.int .i64 g.nodes[k]!.tag, s] t)).alloc (.cells #[.int .i64 g.nodes[k]!.tag, .slice none 0 0] t')) (wr.heap.size + 1) g.nodes[k]!.tag (.slice none 0 0) := Two.new_at _ _ _ _ _ (by simp)
 exact {
  low := (h.low.trans (hC.below h.low.size (fun k hk hp => by omega))).trans (hA.below (by have := h.low.size; have h2 := hC.size; omega) (fun _ _ e => e))
  box := (h.box.kept hC (by omega)).kept hA (fun e => e)
  row := (hA.rowIs (h.row.set k _) (fun e => e)).congr fun i hi => by
   by_cases e : i = k
   · rw [if_pos e, if_pos (by omega), if_pos e]
   ·
    rw [if_neg e]
    by_cases e2 : i < k
    · rw [if_pos e2, if_pos (by omega), if_neg e]
    · rw [if_neg e2, if_neg (by omega)]
  things := fun i hi => by
   by_cases e : i = k
   ·
    subst e
    rw [if_pos rfl]
    exact ⟨hnew, by omega⟩
   ·
    rw [if_neg e]
    obtain ⟨h1, h2⟩ := h.things i (by omega)
    exact ⟨(h1.kept hC (by omega)).kept hA (fun e => e), h2⟩
  inj := fun i j hij hj => by
   by_cases e : j = k
   ·
    subst e
    rw [if_neg (by omega), if_pos rfl]
    have := (h.things i (by omega)).1.lt
    omega
   ·
    rw [if_neg (by omega), if_neg e]
    exact h.inj i j hij (by omega) }
theorem encV_one (tb : Nat → Nat) (v : GV) : (encV tb v).oneCell' = true := rfl
structure L2 (g : GG) (a : Option Addr) (cap : Nat) (w : World) (B : Nat) (tb : Nat → Nat) (ws : World) (m : Nat → Nat) (xa : Nat → Option Addr) (xc : Nat → Nat) : Prop where
 low : Below w.heap.size w ws
 base : w.heap.size + 1 < B ∧ B ≤ ws.heap.size
 box : GBox ws w.heap.size g a cap
 th : Things ws (w.heap.size + 1) g.nodes.length tb
 tbs : ∀ i, i < g.nodes.length → w.heap.size + 1 < tb i ∧ tb i < B
 inj : ∀ i j, i < g.nodes.length → j < g.nodes.length → tb i = tb j → i = j
 cell : ∀ i, i < g.nodes.length → Two ws (tb i) g.nodes[i]!.tag (.slice (xa i) (m i) (xc i))
 vals : ∀ i, i < g.nodes.length → ws.ownsRow B 248 1 (.slice (xa i) (m i) (xc i)) (m i) ((g.nodes[i]!.vals.take (m i)).map (encV tb))
 ap : ∀ i j, i < g.nodes.length → j < g.nodes.length → i ≠ j → ∀ b, xa i = some ⟨b, 0, none⟩ → xa j ≠ some ⟨b, 0, none⟩
theorem L2.grow {g : GG} {a : Option Addr} {cap : Nat} {w : World} {B : Nat} {tb : Nat → Nat} {ws ws' : World} {m : Nat → Nat} {xa : Nat → Option Addr} {xc : Nat → Nat} (h : L2 g a cap w B tb ws m xa xc) (hb : Below ws.heap.size ws ws') : L2 g a cap w B tb ws' m xa xc := by
 have hK : Kept (fun _ => False) ws ws' := Kept.of_below hb _
 exact {
  low := h.low.trans (hb.mono h.low.size)
  base := ⟨h.base.1, Nat.le_trans h.base.2 hb.size⟩
  box := h.box.grow hb
  th := hK.rowIs h.th (fun e => e)
  tbs := h.tbs
  inj := h.inj
  cell := fun i hi => (h.cell i hi).kept hK (fun e => e)
  vals := fun i hi => hK.owns (h.vals i hi) (fun _ _ e => e)
  ap := h.ap }
theorem L2.step {g : GG} {a : Option Addr} {cap : Nat} {w : World} {B : Nat} {tb : Nat → Nat} {ws w3 : World} {m : Nat → Nat} {xa : Nat → Option Addr} {xc : Nat → Nat} (h : L2 g a cap w B tb ws m xa xc) {k : Nat} (hk : k < g.nodes.length) {v : GV} (hv : Hid (v = g.nodes[k]!.vals[m k]!)) (hm : m k < g.nodes[k]!.vals.length) {gg cc : Nat}
  (hown : w3.ownsRow B 248 1 (.slice (some ⟨gg, 0, none⟩) (m k + 1) cc) (m k + 1) ((g.nodes[k]!.vals.take (m k)).map (encV tb) ++ [encV tb v]))
  (hgrow : ws.grownBy w3 (Value.slice (xa k) (m k) (xc k)).ownBlock)
  (hat : (Value.slice (xa k) (m k) (xc k)).ownBlock = some gg ∨ ws.heap.size ≤ gg) :
  L2 g a cap w B tb (w3.setCell ⟨tb k, 1, none⟩ (.slice (some ⟨gg, 0, none⟩) (m k + 1) cc)) (fun i => if i = k then m k + 1 else m i) (fun i => if i = k then some ⟨gg, 0, none⟩ else xa i) (fun i => if i = k then cc else xc i) := by
 have hG := Kept.of_grown hgrow
 have hC := (Kept.refl (fun b => b = tb k) w3).set (a := ⟨tb k, 1, none⟩) (fun _ => rfl) (.slice (some ⟨gg, 0, none⟩) (m k + 1) cc)
 have htk := h.tbs k hk
 have hob : ∀ b, (Value.slice (xa k) (m k) (xc k)).ownBlock = some b → B ≤ b ∧ b < ws.heap.size ∧ xa k = some ⟨b, 0, none⟩ := fun b hb => ⟨((h.vals k hk).lt b hb).1, ((h.vals k hk).lt b hb).2, owns_addr (h.vals k hk) hb⟩
 have hgB : B ≤ gg := (hown.lt gg rfl).1
 exact {
  low := (h.low.trans (hG.below h.low.size (fun b hb hp => by have := hob b hp; omega))).trans (hC.below (Nat.le_trans h.low.size hG.size) (fun b hb hp => by omega))
  base := ⟨h.base.1, by have h1 := h.base.2; have h2 := hG.size; have h3 := hC.size; omega⟩
  box := (h.box.kept hG (fun hp => by have := hob _ hp; omega)).kept hC (by omega)
  th := hC.rowIs (hG.rowIs h.th (fun hp => by have := hob _ hp; omega)) (by omega)
  tbs := h.tbs
  inj := h.inj
  cell := fun i hi => by
   have hti := h.tbs i hi
   have h1 := (h.cell i hi).kept hG (fun hp => by have := hob _ hp; omega)
   by_cases e : i = k
   ·
    subst e
    simp only [if_true]
    exact h1.set
   ·
    simp only [if_neg e]
    exact h1.kept hC (fun hp => e (h.inj i k hi hk hp))
  vals := fun i hi => by
   by_cases e : i = k
   ·
    subst e
    simp only [if_true]
    have h1 := hC.owns hown (fun b hb hp => by have := (hown.lt b hb).1; omega)
    rw [take_snoc _ _ hm, ← hv.out]
    simpa using h1
   ·
    simp only [if_neg e]
    have h1 := h.vals i hi
    exact hC.owns (hG.owns h1 (fun b hb hp => h.ap i k hi hk e b (owns_addr h1 hb) (hob b hp).2.2)) (fun b hb hp => by have := (h1.lt b hb).1; omega)
  ap := fun i j hi hj hij b hb hx => by
   by_cases e : i = k
   ·
    subst e
    rw [if_pos rfl] at hb
    rw [if_neg (fun e => hij e.symm)] at hx
    have e1 := some_addr hb
    subst e1
    rcases hat with e2 | e2
    · exact h.ap i j hi hj hij gg (hob gg e2).2.2 hx
    · have := ((h.vals j hj).lt gg (by rw [hx]; rfl)).2; omega
   ·
    rw [if_neg e] at hb
    by_cases e' : j = k
    ·
     subst e'
     rw [if_pos rfl] at hx
     have e1 := some_addr hx
     subst e1
     rcases hat with e2 | e2
     · exact h.ap i j hi hj hij gg hb (hob gg e2).2.2
     · have := ((h.vals i hi).lt gg (by rw [hb]; rfl)).2; omega
    ·
     rw [if_neg e'] at hx
     exact h.ap i j hi hj hij b hb hx }
theorem info_thing : (Tryz.prog.info? 268).map (fun i => (i.zero, i.size, i.bytes)) = some (some (.pointer none), 1, 8) := by kernel_rfl
theorem info_value : (Tryz.prog.info? 248).map (fun i => (i.zero, i.size, i.bytes)) = some (some .nilIface, 1, 16) := by kernel_rfl
def LinkedPost (g : GG) (a : Option Addr) (cap : Nat) (w : World) (e : Ending) (w' : World) : Prop :=
 ∃ (B : Nat) (tb : Nat → Nat) (xa : Nat → Option Addr) (xc : Nat → Nat), e = .returned (encV tb g.root) ∧ L2 g a cap w B tb w' (fun i => g.nodes[i]!.vals.length) xa xc
theorem linked_any (a : Option Addr) (cap : Nat) (g : GG) (w : World) (hok : okG g = true) (ha : NodesAt w.heap.size w a g.nodes) :
  Calls Tryz.prog 168 #[g.val a cap] w (LinkedPost g a cap w) := by
 obtain ⟨hn, hroot, hnodes⟩ := okG_parts hok
 obtain ⟨i0, hi, hz0, hz1, hz2⟩ := info_parts info_value
 have hmk := fun u => run_make_row' (P := Tryz.prog) 263 268 (.pointer none) 8 Tryz.underlying263 info_thing rfl .i64 .i64 g.nodes.length (by omega) (by omega) u
 go_enter Tryz.func168, Tryz.ntmps168
 go_wp2
 go_loopw [17] (fun i wr => ∃ (k : Nat) (tb : Nat → Nat), k ≤ g.nodes.length ∧ i = .int .i64 k ∧ L1 g a cap w wr k tb) (fun i _ => g.nodes.length - (intOf i).toNat)
 case atStart =>
  refine ⟨0, fun _ => 0, Nat.zero_le _, rfl, gal (gal (gre _) _) _, (GBox.new w g a cap _).grow (gal (gre _) _), ?_, fun i hi => absurd hi (Nat.not_lt_zero _), fun i j _ hj => absurd hj (Nat.not_lt_zero _)⟩
  exact ⟨_, blk_new_at _ _ _ (by simp), size_madeCells _ _, fun i hi => by simp [madeCells, hi, Nat.mod_one]⟩
 case round =>
  obtain ⟨k, tb, hk, rfl, hL⟩ := hrel
  have hbl := hL.box.lt
  have hrl := hL.row.lt
  by_cases hlt : k < g.nodes.length
  ·
   obtain ⟨n, b, off, av, cv, hnx, hnm, rfl, hbs, hva⟩ := ha.get hlt
   have hva := hva.below hL.low hbs
   have c0 := hva.tag
   have c1 := hva.sl
   have hbb : b < wr.heap.size := Nat.lt_of_lt_of_le hbs hL.low.size
   have d0 := hL.row.cell hlt
   have df := hL.row.frozen k
   rw [if_neg (by omega)] at d0
   have hst := hL.step (.slice av n.vals.length cv) 111 271
   rw [← hnx.out] at hst
   have hst' : Hid _ := hst
   clear hst hva
   go_wp2
   go_roundw
   case rel => exact ⟨k + 1, _, by omega, by go_num, hst'.out⟩
   case measure => simp [intOf]; omega
  ·
   have e : k = g.nodes.length := by omega
   subst e
   have hb4 := hL.box.sl
   have hS : L2 g a cap w wr.heap.size tb wr (fun _ => 0) (fun _ => none) (fun _ => 0) := {
    low := hL.low
    base := ⟨hrl, Nat.le_refl _⟩
    box := hL.box
    th := hL.row.congr fun i hi => by rw [if_pos hi]
    tbs := fun i hi => ⟨(hL.things i hi).2, (hL.things i hi).1.lt⟩
    inj := fun i j hi hj e => by
     rcases Nat.lt_trichotomy i j with h | h | h
     · have := hL.inj i j h hj; omega
     · exact h
     · have := hL.inj j i h hi; omega
    cell := fun i hi => (hL.things i hi).1
    vals := fun i hi => by simpa using World.ownsRow_nil wr wr.heap.size 248 1
    ap := fun i j _ _ _ b hb => by cases hb }
   obtain ⟨B, hB⟩ : ∃ B, B = wr.heap.size := ⟨_, rfl⟩
   rw [← hB] at hS
   clear hL hB
   go_wp2
   go_loopw [33] (fun i ws => ∃ (k : Nat) (xa : Nat → Option Addr) (xc : Nat → Nat), k ≤ g.nodes.length ∧ i = .int .i64 k ∧ L2 g a cap w B tb ws (fun i => if i < k then g.nodes[i]!.vals.length else 0) xa xc) (fun i _ => g.nodes.length - (intOf i).toNat)
   case atStart => exact ⟨0, _, _, Nat.zero_le _, rfl, by simpa using hS⟩
   case round =>
    clear hS
    rename World => wo
    obtain ⟨k, xa, xc, hk, rfl, hS⟩ := hrel
    by_cases hlt : k < g.nodes.length
    ·
     obtain ⟨n, b, off, av, cv, hnx, hnm, rfl, hbs, hva⟩ := ha.get hlt
     have hva := hva.below hS.low hbs
     have c0 := hva.tag
     have c1 := hva.sl
     have hv1 : ValsAt w.heap.size wo av n.vals := hva.vals
     have hbb : b < wo.heap.size := Nat.lt_of_lt_of_le hbs hS.low.size
     have hvl := (okN_parts (hnodes n hnm)).1
     have hvok := (okN_parts (hnodes n hnm)).2
     go_wp2
     go_loopw [41] (fun i ws => ∃ (j : Nat) (xa : Nat → Option Addr) (xc : Nat → Nat), j ≤ n.vals.length ∧ i = .int .i64 j ∧ Below w.heap.size wo ws ∧ L2 g (some ⟨b, off, none⟩) cap w B tb ws (fun i => if i < k then g.nodes[i]!.vals.length else if i = k then j else 0) xa xc) (fun i _ => n.vals.length - (intOf i).toNat)
     case atStart => exact ⟨0, xa, xc, Nat.zero_le _, rfl, (Below.refl _ _).alloc hS.low.size _, by simpa using hS.grow (gal (gre _) _)⟩
     case round =>
      clear hS
      obtain ⟨j, xa, xc, hj, rfl, hbl2, hS⟩ := hrel
      by_cases hjl : j < n.vals.length
      ·
       obtain ⟨v, bb, oo, hvj, hvm, rfl, hbs2, hva2⟩ := (hv1.below hbl2).get hjl
       have q0 := hva2.kind
       have q1 := hva2.num
       have q2 := hva2.text
       have q3 := hva2.node
       have hb3 : bb < wr.heap.size := by have h1 := hbl2.size; have h2 := hS.low.size; omega
       have hth := hS.th.cell hlt
       have hthl := hS.th.lt
       have htc := hS.cell k hlt
       rw [if_neg (by omega), if_pos rfl] at htc
       obtain ⟨tz, t0, t1, tf⟩ := htc
       have i0' : (0 : Int) ≤ (k : Int) := by omega
       have i1' : (k : Int) < (g.nodes.length : Int) := by omega
       go_wp2
       have hS1 := hS.grow (gdr (gal (gre wr) (.cells #[.int .i64 v.kind, .int .i64 v.num, .string v.text, .int .i64 v.node] 28)))
       have hvokv := hvok v hvm
       have htb := hS.tbs k hlt
       have hBw := hS.base.2
       have hrows := hS1.vals k hlt
       rw [if_neg (by omega), if_pos rfl] at hrows
       have hnb : ∀ b, (Value.slice (xa k) j (xc k)).ownBlock = some b → B ≤ b ∧ b < wr.heap.size := fun b hb => by
        have h1 := hS.vals k hlt
        rw [if_neg (by omega), if_pos rfl] at h1
        exact h1.lt b hb
       have hF := (Four.new wr v 28).same (w' := (wr.alloc (.cells #[.int .i64 v.kind, .int .i64 v.num, .string v.text, .int .i64 v.node] 28)).drew) rfl (by simp)
       have hT1 := hS1.cell k hlt
       rw [if_neg (by omega), if_pos rfl] at hT1
       have hd : Hid (_ ∧ _ ∧ _ ∧ _ ∧ _ ∧ _) := ⟨hS1.th.cell hlt, hT1.c1, hF.c0, hF.c1, hF.c2, hF.c3⟩
       have hTH : Hid _ := hT1
       clear hF hT1
       refine wp_regionU (fun u => u.cell? ⟨w.heap.size + 1, k, none⟩ = some (.pointer (some ⟨tb k, 0, none⟩)) ∧ u.cell? ⟨tb k, 1, none⟩ = some (.slice (xa k) j (xc k)) ∧ u.cell? ⟨wr.heap.size, 0, none⟩ = some (.int .i64 v.kind) ∧ u.cell? ⟨wr.heap.size, 1, none⟩ = some (.int .i64 v.num) ∧ u.cell? ⟨wr.heap.size, 2, none⟩ = some (.string v.text) ∧ u.cell? ⟨wr.heap.size, 3, none⟩ = some (.int .i64 v.node)) 18 (by kernel_rfl) hd.out (fun hS0 => ?_)
       refine anyU_tk (i := 0) rfl hS0 (fun u hSu => by obtain ⟨p0, p1, p2, p3, p4, p5⟩ := hSu; go_simp <;> with_reducible rfl) ?_
       refine anyU_tk (i := 1) rfl hS0 (fun u hSu => by obtain ⟨p0, p1, p2, p3, p4, p5⟩ := hSu; go_simp <;> with_reducible rfl) ?_
       refine anyU_tk (i := 2) rfl hS0 (fun u hSu => by obtain ⟨p0, p1, p2, p3, p4, p5⟩ := hSu; go_simp <;> with_reducible rfl) ?_
       refine anyU_tk (i := 3) rfl hS0 (fun u hSu => by obtain ⟨p0, p1, p2, p3, p4, p5⟩ := hSu; go_simp <;> with_reducible rfl) ?_
       refine anyU_tk (i := 4) rfl hS0 (fun u hSu => by obtain ⟨p0, p1, p2, p3, p4, p5⟩ := hSu; go_simp <;> with_reducible rfl) ?_
       refine anyU_tk (i := 5) rfl hS0 (fun u hSu => by obtain ⟨p0, p1, p2, p3, p4, p5⟩ := hSu; go_simp <;> with_reducible rfl) ?_
       refine anyU_tk (i := 6) rfl hS0 (fun u hSu => by obtain ⟨p0, p1, p2, p3, p4, p5⟩ := hSu; go_simp <;> with_reducible rfl) ?_
       refine anyU_tk (i := 7) rfl hS0 (fun u hSu => by obtain ⟨p0, p1, p2, p3, p4, p5⟩ := hSu; go_simp <;> with_reducible rfl) ?_
       refine anyU_tk (i := 8) rfl hS0 (fun u hSu => by obtain ⟨p0, p1, p2, p3, p4, p5⟩ := hSu; go_simp <;> with_reducible rfl) ?_
       refine anyU_tk (i := 9) rfl hS0 (fun u hSu => by obtain ⟨p0, p1, p2, p3, p4, p5⟩ := hSu; go_simp <;> with_reducible rfl) ?_
       refine anyU_tk (i := 10) rfl hS0 (fun u hSu => by obtain ⟨p0, p1, p2, p3, p4, p5⟩ := hSu; go_simp <;> with_reducible rfl) ?_
       refine anyU_tk (i := 11) rfl hS0 (fun u hSu => by obtain ⟨p0, p1, p2, p3, p4, p5⟩ := hSu; go_simp <;> with_reducible rfl) ?_
       refine anyU_tk (i := 12) rfl hS0 (fun u hSu => by obtain ⟨p0, p1, p2, p3, p4, p5⟩ := hSu; go_simp <;> with_reducible rfl) ?_
       simp only [Act.put, List.getElem_toArray, List.getElem_cons_zero, List.getElem_cons_succ, List.setIfInBounds_toArray, List.set_cons_zero, List.set_cons_succ]
       refine anyU_one (i := 13) (by kernel_rfl) rfl (fun K hK => ?_)
       go_simp
       refine (valueOf_any g.nodes.length (w.heap.size + 1) tb v _ hvokv hn hS1.th).mono ?_
       rintro e w1 ⟨rfl, hb1⟩
       have hs1 : wr.heap.size + 1 ≤ w1.heap.size := by have h8 := hb1.size; simpa using h8
       have hK1 : Kept (fun _ => False) _ w1 := Kept.of_below hb1 _
       refine hK.out _ _ ⟨hK1.cell hd.out.1 (fun e => e), hK1.cell hd.out.2.1 (fun e => e), hK1.cell hd.out.2.2.1 (fun e => e), hK1.cell hd.out.2.2.2.1 (fun e => e), hK1.cell hd.out.2.2.2.2.1 (fun e => e), hK1.cell hd.out.2.2.2.2.2 (fun e => e)⟩ ?_
       clear hK
       have hA1 : Kept (fun _ => False) w1 (w1.alloc (.cells #[encV tb v] 248)) := (Kept.refl _ w1).alloc _
       have hK2 := hK1.trans hA1 (fun _ _ e => e)
       have hs2 : _ ∧ _ ∧ _ ∧ _ ∧ _ ∧ _ := ⟨hK2.cell hd.out.1 (fun e => e), hK2.cell hd.out.2.1 (fun e => e), hK2.cell hd.out.2.2.1 (fun e => e), hK2.cell hd.out.2.2.2.1 (fun e => e), hK2.cell hd.out.2.2.2.2.1 (fun e => e), hK2.cell hd.out.2.2.2.2.2 (fun e => e)⟩
       have hs2' : Hid _ := hs2
       clear hs2
       refine anyU_one (i := 14) (by kernel_rfl) rfl (fun K hK => ?_)
       go_simp
       refine hK.out _ _ hs2'.out ?_
       clear hK
       refine anyU_one (i := 15) (by kernel_rfl) rfl (fun K hK => ?_)
       refine step_append_lies _ (by rfl) (.tmp 55) (.tmp 59) 269 rfl B 248 i0 .nilIface 1 16 Tryz.underlying269 hi hz0 hz1 hz2 rfl (by decide) (.slice (xa k) j (xc k)) j _ (by rfl) ((hK1.owns hrows (fun _ _ e => e)).alloc _) ⟨w1.heap.size, 0, none⟩ 1 1 [encV tb v] (by rfl) rfl (World.news_of_block (cs := #[encV tb v]) (t := 248) (fr := (0, 0)) (blk_new_at _ _ _ rfl)) (by simp [encV_one]) (by decide) (by unfold maxLen; omega) (by omega) (by simp; omega) (w1.heap.size + 1) (by simp) ?_
       intro gg cc w3 hown3 hgrow3 hat3 hlt3
       have hKK := (hK2.mono (q := fun b => (Value.slice (xa k) j (xc k)).ownBlock = some b) (fun _ _ e => e.elim)).trans (Kept.of_grown hgrow3) (fun _ _ e => e)
       have hs3 : Hid _ := (⟨hKK.cell hd.out.1 (fun hp => by have h9 := hnb _ hp; omega), hKK.cell hd.out.2.1 (fun hp => by have h9 := hnb _ hp; omega), hKK.cell hd.out.2.2.1 (fun hp => by have h9 := hnb _ hp; omega), hKK.cell hd.out.2.2.2.1 (fun hp => by have h9 := hnb _ hp; omega), hKK.cell hd.out.2.2.2.2.1 (fun hp => by have h9 := hnb _ hp; omega), hKK.cell hd.out.2.2.2.2.2 (fun hp => by have h9 := hnb _ hp; omega)⟩ : _ ∧ _ ∧ _ ∧ _ ∧ _ ∧ _)
       obtain ⟨hz3, hc30, hc31, hf3⟩ := hTH.out.kept hKK (fun hp => by have h9 := hnb _ hp; omega)
       refine hK.out _ _ hs3.out ?_
       clear hK
       simp only [Act.put, List.getElem_toArray, List.getElem_cons_zero, List.getElem_cons_succ, List.setIfInBounds_toArray, List.set_cons_zero, List.set_cons_succ]
       refine anyU_one (i := 16) (by kernel_rfl) rfl (fun K hK => ?_)
       go_simp
       refine hK.out _ _ hs3.out ?_
       clear hK
       refine anyU_one (i := 17) (by kernel_rfl) rfl (fun K hK => ?_)
       go_simp
       refine hK.out _ _ hs3.out ?_
       clear hK
       refine anyU_last (by kernel_rfl) rfl (by kernel_rfl) (fun K hK => ?_)
       go_simp
       refine hK.out _ _ ?_
       clear hK
       go_wp2
       have hG : Below wr.heap.size wr (w1.alloc (.cells #[encV tb v] 248)) := gal (gca (gdr (gal (gre wr) _)) hb1) _
       have hkk : (if k < k then g.nodes[k]!.vals.length else if k = k then j else 0) = j := by rw [if_neg (by omega), if_pos rfl]
       have hst := (hS.grow hG).step (k := k) hlt (v := v) (gg := gg) (cc := cc) (w3 := w3) (by rw [hkk, ← hnx.out]; exact hvj) (by rw [hkk, ← hnx.out]; exact hjl) (by rw [hkk]; exact hown3) (by rw [hkk]; exact hgrow3) (by rw [hkk]; exact hat3.imp id (fun e => by rw [e]; simp))
       have em : (fun i => if i = k then (if k < k then g.nodes[k]!.vals.length else if k = k then j else 0) + 1 else if i < k then g.nodes[i]!.vals.length else if i = k then j else 0) = (fun i => if i < k then g.nodes[i]!.vals.length else if i = k then j + 1 else 0) := by
        funext i
        by_cases e : i = k
        · subst e; simp
        · simp [e]
       rw [em, hkk] at hst
       have hbe : Below w.heap.size wo (w3.setCell ⟨tb k, 1, none⟩ (.slice (some ⟨gg, 0, none⟩) (j + 1) cc)) := by
        have hwl := hS.low.size
        have h1 : Below w.heap.size wr w3 := (((Kept.of_below (gdr (gal (gre wr) _)) _).trans hKK (fun _ _ e => e)).below hwl (fun b hb hp => by have h9 := hnb _ hp; have := hS.base.1; omega))
        exact (hbl2.trans h1).setCell (by show w.heap.size ≤ tb k; omega) _
       go_roundw
       case rel => exact ⟨j + 1, _, _, by omega, by go_num, hbe, hst⟩
       case measure => simp [intOf]; omega
      ·
       have e : j = n.vals.length := by omega
       subst e
       go_wp2
       go_roundw
       case rel =>
        refine ⟨k + 1, xa, xc, by omega, by go_num, ?_⟩
        have em : (fun i => if i < k then g.nodes[i]!.vals.length else if i = k then n.vals.length else 0) = (fun i => if i < k + 1 then g.nodes[i]!.vals.length else 0) := by
         funext i
         by_cases e : i = k
         · subst e; rw [if_neg (by omega), if_pos rfl, if_pos (by omega), ← hnx.out]
         ·
          by_cases e2 : i < k
          · rw [if_pos e2, if_pos (by omega)]
          · rw [if_neg e2, if_neg e, if_neg (by omega)]
        rw [← em]
        exact hS
       case measure => simp [intOf]; omega
    ·
     have e : k = g.nodes.length := by omega
     subst e
     obtain ⟨bz, b0, b1, b2, b3, b4⟩ := hS.box
     have em : L2 g a cap w B tb wo (fun i => g.nodes[i]!.vals.length) xa xc := {
      low := hS.low, base := hS.base, box := hS.box, th := hS.th, tbs := hS.tbs, inj := hS.inj, ap := hS.ap
      cell := fun i hi => by have h1 := hS.cell i hi; rw [if_pos hi] at h1; exact h1
      vals := fun i hi => by have h1 := hS.vals i hi; rw [if_pos hi] at h1; exact h1 }
     go_wp2_with (go_at_call 178; refine (valueOf_any g.nodes.length (w.heap.size + 1) tb g.root _ hroot hn hS.th).mono ?_; rintro e w1 ⟨rfl, hb1⟩)
     go_ret
     exact ⟨B, tb, xa, xc, rfl, em.grow hb1⟩
theorem zero_int (w : World) : (zeroValue 3).run Tryz.prog w = .ok (.int .i64 0) w := by kernel_rfl
theorem info_struct_thing : (Tryz.prog.info? 271).map (fun i => i.size) = some 2 := by kernel_rfl
structure Meet (w : World) (tb : Nat → Nat) (M mb base : Nat) (ord : List Nat) (ma : Option Addr) (mc : Nat) : Prop where
 lt : M < w.heap.size
 c0 : w.cell? ⟨M, 0, none⟩ = some (.map (some mb))
 c1 : w.cell? ⟨M, 1, none⟩ = some (.slice ma ord.length mc)
 f : ∀ o, w.frozen? ⟨M, o, none⟩ = false
 map : PMap w mb (ord.map tb)
 met : w.ownsRow base 268 1 (.slice ma ord.length mc) ord.length (ord.map fun x => ptr (tb x))
 mlt : M < base ∧ mb < base ∧ M ≠ mb
theorem Meet.kept {p : Nat → Prop} {w w' : World} {tb : Nat → Nat} {M mb base : Nat} {ord : List Nat} {ma : Option Addr} {mc : Nat} (h : Meet w tb M mb base ord ma mc) (k : Kept p w w') (h1 : ¬ p M) (h2 : ¬ p mb) (h3 : ∀ b, ma = some ⟨b, 0, none⟩ → ¬ p b) : Meet w' tb M mb base ord ma mc :=
 ⟨Nat.lt_of_lt_of_le h.lt k.size, k.cell h.c0 h1, k.cell h.c1 h1, fun o => (World.frozen?_of_block (w := w) (k.block M h.lt h1)).trans (h.f o), h.map.kept k h2, k.owns h.met (fun b hb => h3 b (owns_addr h.met hb)), h.mlt⟩
def addOrd (ord : List Nat) (x : Nat) : List Nat := if x ∈ ord then ord else ord ++ [x]
def PlacePost (w : World) (tb : Nat → Nat) (M mb base : Nat) (ord : List Nat) (x : Nat) (ma : Option Addr) (e : Ending) (w' : World) : Prop :=
 ∃ ma' mc', e = .returned (.int .i64 ((addOrd ord x).idxOf x : Nat)) ∧ Meet w' tb M mb base (addOrd ord x) ma' mc' ∧ (ma' = ma ∨ ∃ b, ma' = some ⟨b, 0, none⟩ ∧ w.heap.size ≤ b) ∧ Kept (fun k => k = M ∨ k = mb ∨ ma = some ⟨k, 0, none⟩) w w'
theorem idxOf_map {tb : Nat → Nat} {n : Nat} (hinj : ∀ i j, i < n → j < n → tb i = tb j → i = j) : ∀ (ord : List Nat) (x : Nat), (∀ y, y ∈ ord → y < n) → x < n → (ord.map tb).idxOf (tb x) = ord.idxOf x
 | [], _, _, _ => rfl
 | y :: r, x, h, hx => by
  have hy := h y (List.mem_cons_self ..)
  have ih := idxOf_map hinj r x (fun z hz => h z (List.mem_cons_of_mem _ hz)) hx
  rw [List.map_cons, List.idxOf_cons, List.idxOf_cons, ih]
  by_cases e : y = x
  · subst e; simp
  ·
   have e2 : ¬ tb y = tb x := fun e2 => e (hinj y x hy hx e2)
   rw [beq_false_of_ne e, beq_false_of_ne e2]
theorem mem_map_tb {tb : Nat → Nat} {n : Nat} (hinj : ∀ i j, i < n → j < n → tb i = tb j → i = j) {ord : List Nat} {x : Nat} (h : ∀ y, y ∈ ord → y < n) (hx : x < n) : tb x ∈ ord.map tb ↔ x ∈ ord := by
 constructor
 ·
  intro hm
  obtain ⟨y, hy, e⟩ := List.mem_map.1 hm
  exact hinj y x (h y hy) hx e ▸ hy
 · intro hm; exact List.mem_map.2 ⟨x, hm, rfl⟩
theorem nodup_map_tb {tb : Nat → Nat} {n : Nat} (hinj : ∀ i j, i < n → j < n → tb i = tb j → i = j) : ∀ {ord : List Nat}, ord.Nodup → (∀ y, y ∈ ord → y < n) → (ord.map tb).Nodup
 | [], _, _ => List.nodup_nil
 | y :: r, hd, h => by
  rw [List.map_cons, List.nodup_cons]
  rw [List.nodup_cons] at hd
  exact ⟨fun hm => hd.1 ((mem_map_tb hinj (fun z hz => h z (List.mem_cons_of_mem _ hz)) (h y (List.mem_cons_self ..))).1 hm), nodup_map_tb hinj hd.2 (fun z hz => h z (List.mem_cons_of_mem _ hz))⟩
theorem placeOf_old (n : Nat) (tb : Nat → Nat) (M mb base : Nat) (ord : List Nat) (x : Nat) (ma : Option Addr) (mc : Nat) (w : World) (hinv : InvO n ord) (hx : x < n) (_hn : n ≤ 300) (hinj : ∀ i j, i < n → j < n → tb i = tb j → i = j)
  (hcells : ∀ i, i < n → CellsAt w (tb i)) (hM : Meet w tb M mb base ord ma mc) (hm : x ∈ ord) :
  Calls Tryz.prog 185 #[ptr M, ptr (tb x)] w (PlacePost w tb M mb base ord x ma) := by
 obtain ⟨i0, hi0, hi1⟩ := Option.map_eq_some_iff.1 info_struct_thing
 have hlk := run_lookup_some (P := Tryz.prog) (tm := 262) (ti := 3) hM.map Tryz.underlying262 Tryz.underlying268 hi0 (by omega) (hcells x hx) (fun c hc => by obtain ⟨y, hy, rfl⟩ := List.mem_map.1 hc; exact hcells y (hinv.2 y hy)) (nodup_map_tb hinj hinv.1 hinv.2) ((mem_map_tb hinj hinv.2 hx).2 hm)
 rw [idxOf_map hinj ord x hinv.2 hx] at hlk
 have c0 := hM.c0
 have hml := hM.lt
 have e1 : Hid (addOrd ord x = ord) := if_pos hm
 go_enter Tryz.func185, Tryz.ntmps185
 go_wp2
 go_ret
 exact ⟨ma, mc, by rw [e1.out]; rfl, by rw [e1.out]; exact hM, Or.inl rfl, Kept.refl _ _⟩
theorem placeOf_new (n : Nat) (tb : Nat → Nat) (M mb base : Nat) (ord : List Nat) (x : Nat) (ma : Option Addr) (mc : Nat) (w : World) (hinv : InvO n ord) (hx : x < n) (hn : n ≤ 300) (hinj : ∀ i j, i < n → j < n → tb i = tb j → i = j)
  (hcells : ∀ i, i < n → CellsAt w (tb i)) (hM : Meet w tb M mb base ord ma mc) (hbase : base ≤ w.heap.size) (hm : x ∉ ord) :
  Calls Tryz.prog 185 #[ptr M, ptr (tb x)] w (PlacePost w tb M mb base ord x ma) := by
 obtain ⟨i0, hi0, hi1⟩ := Option.map_eq_some_iff.1 info_struct_thing
 obtain ⟨t0, ht, hz0, hz1, hz2⟩ := info_parts info_thing
 have hol := hinv.le
 have hks : ∀ c, c ∈ ord.map tb → CellsAt w c := fun c hc => by obtain ⟨y, hy, rfl⟩ := List.mem_map.1 hc; exact hcells y (hinv.2 y hy)
 have hnm : tb x ∉ ord.map tb := fun h => hm ((mem_map_tb hinj hinv.2 hx).1 h)
 have hlk := run_lookup_none (P := Tryz.prog) (tm := 262) (ti := 3) hM.map Tryz.underlying262 Tryz.underlying268 hi0 (by omega) (zero_int w) (hcells x hx) hks hnm
 obtain ⟨w1, hup, hP1, hK1, hsz1⟩ := run_update_new (P := Tryz.prog) (tm := 262) (ti := 3) hM.map Tryz.underlying262 Tryz.underlying268 hi0 (by omega) (hcells x hx) hks hnm
 rw [List.length_map] at hup
 have c0 := hM.c0
 have c1 := hM.c1
 have hml := hM.lt
 obtain ⟨m1, m2, m3⟩ := hM.mlt
 have hmb : ∀ b, ma = some ⟨b, 0, none⟩ → base ≤ b ∧ b < w.heap.size := fun b hb => hM.met.lt b (by rw [hb]; rfl)
 have d0 := hK1.cell c0 m3
 have d1 := hK1.cell c1 m3
 have hown : w1.ownsRow base 268 1 (.slice ma ord.length mc) ord.length (ord.map fun x => ptr (tb x)) := hK1.owns hM.met (fun b hb => by have := hmb b (owns_addr hM.met hb); omega)
 have hml1 : M < w1.heap.size := by omega
 have hbw1 : base ≤ w1.heap.size := by omega
 have hown' : Hid _ := hown
 have hsz' : Hid _ := hsz1
 have hf1 : ∀ o, w1.frozen? ⟨M, o, none⟩ = false := fun o => (World.frozen?_of_block (w := w) (hK1.block M hml m3)).trans (hM.f o)
 have e1 : Hid (addOrd ord x = ord ++ [x]) := if_neg hm
 have hP1' : Hid _ := hP1
 clear hown hsz1 hks hnm hP1
 go_enter Tryz.func185, Tryz.ntmps185
 go_wp2_with (at_builtin; go_must (refine wpList_append_lies _ rfl (.tmp 33) (.tmp 35) 263 rfl base 268 t0 (.pointer none) 1 8 Tryz.underlying263 ht hz0 hz1 hz2 rfl (by decide) (.slice ma ord.length mc) ord.length _ rfl (World.ownsRow.alloc hown'.out _) ⟨w1.heap.size, 0, none⟩ 1 1 [ptr (tb x)] rfl rfl (World.news_of_block (cs := #[ptr (tb x)]) (t := 268) (fr := (0, 0)) (blk_new_at _ _ _ rfl)) (by simp [Value.oneCell']) (by decide) (by unfold maxLen; omega) (by omega) (by simp; omega) (w1.heap.size + 1) (by simp) ?_); intro gg cc w3 hown3 hgrow3 hat3 hlt3; have hq := ((Kept.refl (fun b => (Value.slice ma ord.length mc).ownBlock = some b) w1).alloc (.cells #[ptr (tb x)] 268)).trans (Kept.of_grown hgrow3) (fun _ _ e => e); have g1 := hq.cell d1 (fun hp => by have := hmb M (owns_addr hM.met hp); omega); have gf := fun o => (World.frozen?_of_block (w := w1) (hq.block M hml1 (fun hp => by have := hmb M (owns_addr hM.met hp); omega))).trans (hf1 o))
 have hix : Hid ((ord ++ [x]).idxOf x = ord.length) := by show (ord ++ [x]).idxOf x = ord.length; rw [List.idxOf_append, if_neg hm]; simp
 have hC := (Kept.refl (fun b => b = M) w3).set (a := ⟨M, 1, none⟩) (fun _ => rfl) (.slice (some ⟨gg, 0, none⟩) (ord.length + 1) cc)
 have hgg : base ≤ gg := (hown3.lt gg rfl).1
 have hsz := hsz'.out
 have hgor : (some ⟨gg, 0, none⟩ : Option Addr) = ma ∨ w.heap.size ≤ gg := by
  rcases hat3 with e | e
  · exact Or.inl (owns_addr hM.met e).symm
  · exact Or.inr (by omega)
 go_ret
 refine ⟨some ⟨gg, 0, none⟩, cc, by rw [e1.out, hix.out]; rfl, ?_, hgor.imp id (fun h => ⟨gg, rfl, h⟩), ?_⟩
 ·
  rw [e1.out]
  refine ⟨by have h1 := hq.size; have h2 := hC.size; omega, ?_, ?_, fun o => ?_, ?_, ?_, m1, m2, m3⟩
  · rw [World.cell?_setCell_other _ _ _ _ (by simp)]; exact hq.cell d0 (fun hp => by have := hmb M (owns_addr hM.met hp); omega)
  · rw [World.cell?_setCell_same _ _ _ g1]; simp
  · rw [World.frozen?_setCell]; exact gf o
  ·
   have h1 := (PMap.kept hP1'.out hq (fun hp => by have := hmb mb (owns_addr hM.met hp); omega)).kept hC (fun e => m3 e.symm)
   simpa using h1
  ·
   have h1 := hC.owns hown3 (fun b hb hp => by have := (hown3.lt b hb).1; omega)
   simpa using h1
 · refine ((hK1.mono (q := fun k => k = M ∨ k = mb ∨ ma = some ⟨k, 0, none⟩) (fun k _ e => Or.inr (Or.inl e))).trans hq (fun k hk hp => Or.inr (Or.inr (owns_addr hM.met hp)))).trans hC (fun k hk hp => Or.inl hp)
theorem placeOf_any (n : Nat) (tb : Nat → Nat) (M mb base : Nat) (ord : List Nat) (x : Nat) (ma : Option Addr) (mc : Nat) (w : World) (hinv : InvO n ord) (hx : x < n) (hn : n ≤ 300) (hinj : ∀ i j, i < n → j < n → tb i = tb j → i = j)
  (hcells : ∀ i, i < n → CellsAt w (tb i)) (hM : Meet w tb M mb base ord ma mc) (hbase : base ≤ w.heap.size) :
  Calls Tryz.prog 185 #[ptr M, ptr (tb x)] w (PlacePost w tb M mb base ord x ma) := by
 by_cases hm : x ∈ ord
 · exact placeOf_old n tb M mb base ord x ma mc w hinv hx hn hinj hcells hM hm
 · exact placeOf_new n tb M mb base ord x ma mc w hinv hx hn hinj hcells hM hbase hm
theorem info_byte : (Tryz.prog.info? 5).map (fun i => (i.zero, i.size, i.bytes)) = some (some (.int .u8 0), 1, 1) := by kernel_rfl
theorem size_byte : (Tryz.prog.info? 5).map (·.size) = some 1 := by kernel_rfl
theorem cells_byte : Tryz.prog.cellsOf 5 = 1 := by kernel_rfl
theorem sliteClone_any (s : ByteArray) (w : World) (hs : s.size ≤ 1000) :
  Calls Tryz.prog 187 #[.string s] w fun e w' => e = .returned (.string s) ∧ Below w.heap.size w w' := by
 by_cases h0 : s.size = 0
 ·
  obtain rfl : s = ⟨#[]⟩ := ByteArray.ext (Array.eq_empty_of_size_eq_zero h0)
  go_enter Tryz.func187, Tryz.ntmps187
  go_wp2
  go_ret
  exact ⟨rfl, gre _⟩
 ·
  obtain ⟨i0, hi, hz0, hz1, hz2⟩ := info_parts info_byte
  obtain ⟨M, hM⟩ : ∃ M, Hid (M = madeCells #[Value.int .u8 0] s.size) := ⟨_, rfl⟩
  have hMs : M.size = s.size := by rw [hM.out, size_madeCells]
  have hmk : ∀ u : World, (Instr.makeSlice 58 (.int .i64 (s.size : Int)) (.int .i64 (s.size : Int))).run Tryz.prog u = .ok (.slice (some ⟨u.heap.size, 0, none⟩) s.size s.size) (u.alloc (.cells M 5)) := fun u => by
   have h := run_make (P := Tryz.prog) u 58 5 i0 _ Tryz.underlying58 hi hz0 .i64 .i64 (s.size : Int) (s.size : Int) (by omega) (Int.le_refl _) (by rw [hz2]; omega) (by omega)
   rw [hM.out]
   simpa [hz1, Value.cells] using h
  have hnew : (w.alloc (.cells M 5)).heap[w.heap.size]? = some (.cells M 5 (0, 0)) := heap_alloc_new w _
  have hcp := Lib.run_copy_row_string (P := Tryz.prog) (w.alloc (.cells M 5)) 58 9 3 5 w.heap.size 0 s.size s.size s M 5 Tryz.underlying58 size_byte hnew (Nat.le_refl _) (by omega)
  obtain ⟨Y, hY⟩ : ∃ Y, Y = (M.toList.take 0 ++ Lib.byteCells s.data.toList ++ M.toList.drop (0 + s.size)).toArray := ⟨_, rfl⟩
  rw [← hY] at hcp
  have hYl : Y.toList = Lib.byteCells s.data.toList := by
   rw [hY, List.toList_toArray, List.take_zero, List.nil_append, List.drop_of_length_le (by rw [Array.length_toList]; omega), List.append_nil]
  have hYs : Y.size = s.size := by rw [← Array.length_toList, hYl, Lib.byteCells_length, ← Lib.size_eq]
  have hrow : ((w.alloc (.cells M 5)).setRow w.heap.size Y).heap[w.heap.size]? = some (.cells Y 5 (0, 0)) := setRow_heap _ _ M _ 5 (0, 0) hnew
  have hne : s.data.toList ≠ [] := fun e => h0 (by rw [Lib.size_eq, e]; rfl)
  have hus := Lib.run_unsafeString_row (P := Tryz.prog) ((w.alloc (.cells M 5)).setRow w.heap.size Y) 284 3 9 5 Tryz.underlying284 cells_byte w.heap.size Y.size (by unfold World.shape?; rw [hrow]) s.data.toList hne (by rw [← Lib.size_eq]; omega) (by rw [← Lib.size_eq]; omega)
   (fun j x hx => Lib.cells_of_row hrow Y.size j _ (by rw [List.take_of_length_le (by rw [Array.length_toList]; exact Nat.le_refl _), hYl]; simp [Lib.byteCells, hx]))
  rw [← Lib.size_eq] at hus
  clear hY hnew hrow hM
  go_enter Tryz.func187, Tryz.ntmps187
  go_wp2
  go_ret
  have hb : Below w.heap.size w ((w.alloc (.cells M 5)).setRow w.heap.size Y) := (gal (gre w) _).trans ⟨rfl, rfl, rfl, by simp, fun k hk => setRow_other _ _ _ _ (by omega)⟩
  exact ⟨rfl, Lib.below_freeze hb (p := ⟨w.heap.size, 0, none⟩) (Nat.le_refl _) _⟩
theorem clone_any (s : ByteArray) (w : World) (hs : s.size ≤ 1000) :
  Calls Tryz.prog 184 #[.string s] w fun e w' => e = .returned (.string s) ∧ Below w.heap.size w w' := by
 go_enter Tryz.func184, Tryz.ntmps184
 go_wp2_with (go_at_call 187; refine (sliteClone_any s _ hs).mono ?_; rintro e w' ⟨rfl, hb⟩)
 go_ret
 exact ⟨rfl, hb⟩
end Go.Proofs.YthjddpkegooobacGreatDoor
