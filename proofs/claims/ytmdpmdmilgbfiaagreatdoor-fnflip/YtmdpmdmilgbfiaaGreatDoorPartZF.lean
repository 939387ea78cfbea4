import Derived.Deep.QuietTactic
import Derived.BigQuiet
import Derived.Deep.RegionHeld3
import Derived.Deep.AppendLies
import Derived.Test.YtmdpmdmilgbfiaaGreatDoorPartZ
import Derived.Test.YtmdpmdmilgbfiaaGreatDoorPartZE

/-
  TAKEA: what is taken up: the answer's variable, answered, takeUp, Take. Own work.
-/
namespace Go.Proofs.YtmdpmdmilgbfiaaGreatDoor
open Go.RowKit

/-- what is taken up -/
structure TK where
  code : Int
  gen : Int
  g : GG
abbrev TK.val (t : TK) (na : Option Addr) (nc : Nat) : Value := .agg #[.int .i64 t.code, .int .i64 t.gen, .int .i64 t.g.root.kind, .int .i64 t.g.root.num, .string t.g.root.text, .int .i64 t.g.root.node, .slice na t.g.nodes.length nc]
def DD.takeT (d : DD) : TK := if d.ok = false then ⟨3, 0, zeroG⟩ else if d.newestOf.ok = false then ⟨1, 0, zeroG⟩ else if (unB d.newestOf.bytes).1 = false then ⟨2, d.newestOf.gen, zeroG⟩ else ⟨0, d.newestOf.gen, (unB d.newestOf.bytes).2⟩

/-- seven cells of a variable's own block -/
structure V7 (w : World) (b : Nat) (x0 x1 x2 x3 x4 x5 x6 : Value) : Prop where
  lt : b < w.heap.size
  c0 : w.cell? ⟨b, 0, none⟩ = some x0
  c1 : w.cell? ⟨b, 1, none⟩ = some x1
  c2 : w.cell? ⟨b, 2, none⟩ = some x2
  c3 : w.cell? ⟨b, 3, none⟩ = some x3
  c4 : w.cell? ⟨b, 4, none⟩ = some x4
  c5 : w.cell? ⟨b, 5, none⟩ = some x5
  c6 : w.cell? ⟨b, 6, none⟩ = some x6
  f : ∀ o, w.frozen? ⟨b, o, none⟩ = false
theorem V7.kept {p : Nat → Prop} {w w' : World} {b : Nat} {x0 x1 x2 x3 x4 x5 x6 : Value} (h : V7 w b x0 x1 x2 x3 x4 x5 x6) (k : Kept p w w') (hn : ¬ p b) : V7 w' b x0 x1 x2 x3 x4 x5 x6 :=
  ⟨Nat.lt_of_lt_of_le h.lt k.size, k.cell h.c0 hn, k.cell h.c1 hn, k.cell h.c2 hn, k.cell h.c3 hn, k.cell h.c4 hn, k.cell h.c5 hn, k.cell h.c6 hn, fun o => (World.frozen?_of_block (w := w) (a := ⟨b, o, none⟩) (k.block b h.lt hn)).trans (h.f o)⟩
theorem V7.grow {w w' : World} {b : Nat} {x0 x1 x2 x3 x4 x5 x6 : Value} (h : V7 w b x0 x1 x2 x3 x4 x5 x6) (k : Below w.heap.size w w') : V7 w' b x0 x1 x2 x3 x4 x5 x6 := h.kept (Kept.of_below k (fun _ => False)) (fun e => e)
theorem V7.new_at (w : World) (x0 x1 x2 x3 x4 x5 x6 : Value) (t : TypeId) (b : Nat) (hb : b = w.heap.size) : V7 (w.alloc (.cells #[x0, x1, x2, x3, x4, x5, x6] t)) b x0 x1 x2 x3 x4 x5 x6 := by
  subst hb
  exact ⟨by simp, by simp, by simp, by simp, by simp, by simp, by simp, by simp, fun o => by simp⟩
theorem V7.set0 {w : World} {b : Nat} {x0 x1 x2 x3 x4 x5 x6 : Value} (h : V7 w b x0 x1 x2 x3 x4 x5 x6) (y : Value) : V7 (w.setCell ⟨b, 0, none⟩ y) b y x1 x2 x3 x4 x5 x6 :=
  ⟨by simpa [World.setCell] using h.lt, World.cell?_setCell_same _ _ _ h.c0, (World.cell?_setCell_other _ _ _ _ (by simp)).trans h.c1, (World.cell?_setCell_other _ _ _ _ (by simp)).trans h.c2, (World.cell?_setCell_other _ _ _ _ (by simp)).trans h.c3, (World.cell?_setCell_other _ _ _ _ (by simp)).trans h.c4, (World.cell?_setCell_other _ _ _ _ (by simp)).trans h.c5, (World.cell?_setCell_other _ _ _ _ (by simp)).trans h.c6, fun o => (World.frozen?_setCell ..).trans (h.f o)⟩
theorem V7.set1 {w : World} {b : Nat} {x0 x1 x2 x3 x4 x5 x6 : Value} (h : V7 w b x0 x1 x2 x3 x4 x5 x6) (y : Value) : V7 (w.setCell ⟨b, 1, none⟩ y) b x0 y x2 x3 x4 x5 x6 :=
  ⟨by simpa [World.setCell] using h.lt, (World.cell?_setCell_other _ _ _ _ (by simp)).trans h.c0, World.cell?_setCell_same _ _ _ h.c1, (World.cell?_setCell_other _ _ _ _ (by simp)).trans h.c2, (World.cell?_setCell_other _ _ _ _ (by simp)).trans h.c3, (World.cell?_setCell_other _ _ _ _ (by simp)).trans h.c4, (World.cell?_setCell_other _ _ _ _ (by simp)).trans h.c5, (World.cell?_setCell_other _ _ _ _ (by simp)).trans h.c6, fun o => (World.frozen?_setCell ..).trans (h.f o)⟩
theorem V7.set2 {w : World} {b : Nat} {x0 x1 x2 x3 x4 x5 x6 : Value} (h : V7 w b x0 x1 x2 x3 x4 x5 x6) (y : Value) : V7 (w.setCell ⟨b, 2, none⟩ y) b x0 x1 y x3 x4 x5 x6 :=
  ⟨by simpa [World.setCell] using h.lt, (World.cell?_setCell_other _ _ _ _ (by simp)).trans h.c0, (World.cell?_setCell_other _ _ _ _ (by simp)).trans h.c1, World.cell?_setCell_same _ _ _ h.c2, (World.cell?_setCell_other _ _ _ _ (by simp)).trans h.c3, (World.cell?_setCell_other _ _ _ _ (by simp)).trans h.c4, (World.cell?_setCell_other _ _ _ _ (by simp)).trans h.c5, (World.cell?_setCell_other _ _ _ _ (by simp)).trans h.c6, fun o => (World.frozen?_setCell ..).trans (h.f o)⟩
theorem V7.set3 {w : World} {b : Nat} {x0 x1 x2 x3 x4 x5 x6 : Value} (h : V7 w b x0 x1 x2 x3 x4 x5 x6) (y : Value) : V7 (w.setCell ⟨b, 3, none⟩ y) b x0 x1 x2 y x4 x5 x6 :=
  ⟨by simpa [World.setCell] using h.lt, (World.cell?_setCell_other _ _ _ _ (by simp)).trans h.c0, (World.cell?_setCell_other _ _ _ _ (by simp)).trans h.c1, (World.cell?_setCell_other _ _ _ _ (by simp)).trans h.c2, World.cell?_setCell_same _ _ _ h.c3, (World.cell?_setCell_other _ _ _ _ (by simp)).trans h.c4, (World.cell?_setCell_other _ _ _ _ (by simp)).trans h.c5, (World.cell?_setCell_other _ _ _ _ (by simp)).trans h.c6, fun o => (World.frozen?_setCell ..).trans (h.f o)⟩
theorem V7.set4 {w : World} {b : Nat} {x0 x1 x2 x3 x4 x5 x6 : Value} (h : V7 w b x0 x1 x2 x3 x4 x5 x6) (y : Value) : V7 (w.setCell ⟨b, 4, none⟩ y) b x0 x1 x2 x3 y x5 x6 :=
  ⟨by simpa [World.setCell] using h.lt, (World.cell?_setCell_other _ _ _ _ (by simp)).trans h.c0, (World.cell?_setCell_other _ _ _ _ (by simp)).trans h.c1, (World.cell?_setCell_other _ _ _ _ (by simp)).trans h.c2, (World.cell?_setCell_other _ _ _ _ (by simp)).trans h.c3, World.cell?_setCell_same _ _ _ h.c4, (World.cell?_setCell_other _ _ _ _ (by simp)).trans h.c5, (World.cell?_setCell_other _ _ _ _ (by simp)).trans h.c6, fun o => (World.frozen?_setCell ..).trans (h.f o)⟩
theorem V7.set5 {w : World} {b : Nat} {x0 x1 x2 x3 x4 x5 x6 : Value} (h : V7 w b x0 x1 x2 x3 x4 x5 x6) (y : Value) : V7 (w.setCell ⟨b, 5, none⟩ y) b x0 x1 x2 x3 x4 y x6 :=
  ⟨by simpa [World.setCell] using h.lt, (World.cell?_setCell_other _ _ _ _ (by simp)).trans h.c0, (World.cell?_setCell_other _ _ _ _ (by simp)).trans h.c1, (World.cell?_setCell_other _ _ _ _ (by simp)).trans h.c2, (World.cell?_setCell_other _ _ _ _ (by simp)).trans h.c3, (World.cell?_setCell_other _ _ _ _ (by simp)).trans h.c4, World.cell?_setCell_same _ _ _ h.c5, (World.cell?_setCell_other _ _ _ _ (by simp)).trans h.c6, fun o => (World.frozen?_setCell ..).trans (h.f o)⟩
theorem V7.set6 {w : World} {b : Nat} {x0 x1 x2 x3 x4 x5 x6 : Value} (h : V7 w b x0 x1 x2 x3 x4 x5 x6) (y : Value) : V7 (w.setCell ⟨b, 6, none⟩ y) b x0 x1 x2 x3 x4 x5 y :=
  ⟨by simpa [World.setCell] using h.lt, (World.cell?_setCell_other _ _ _ _ (by simp)).trans h.c0, (World.cell?_setCell_other _ _ _ _ (by simp)).trans h.c1, (World.cell?_setCell_other _ _ _ _ (by simp)).trans h.c2, (World.cell?_setCell_other _ _ _ _ (by simp)).trans h.c3, (World.cell?_setCell_other _ _ _ _ (by simp)).trans h.c4, (World.cell?_setCell_other _ _ _ _ (by simp)).trans h.c5, World.cell?_setCell_same _ _ _ h.c6, fun o => (World.frozen?_setCell ..).trans (h.f o)⟩
theorem V7.put {w : World} {b : Nat} {x0 x1 x2 x3 x4 x5 x6 : Value} (h : V7 w b x0 x1 x2 x3 x4 x5 x6) (y0 y1 y2 y3 y4 y5 y6 : Value) : V7 (((((((w.setCell ⟨b, 0, none⟩ (y0)).setCell ⟨b, 1, none⟩ (y1)).setCell ⟨b, 2, none⟩ (y2)).setCell ⟨b, 3, none⟩ (y3)).setCell ⟨b, 4, none⟩ (y4)).setCell ⟨b, 5, none⟩ (y5)).setCell ⟨b, 6, none⟩ (y6)) b y0 y1 y2 y3 y4 y5 y6 ∧ Kept (fun z => z = b) w (((((((w.setCell ⟨b, 0, none⟩ (y0)).setCell ⟨b, 1, none⟩ (y1)).setCell ⟨b, 2, none⟩ (y2)).setCell ⟨b, 3, none⟩ (y3)).setCell ⟨b, 4, none⟩ (y4)).setCell ⟨b, 5, none⟩ (y5)).setCell ⟨b, 6, none⟩ (y6)) :=
  ⟨((((((h.set0 y0).set1 y1).set2 y2).set3 y3).set4 y4).set5 y5).set6 y6, (((((((Kept.refl (fun z => z = b) w).set (a := ⟨b, 0, none⟩) (fun _ => rfl) _).set (a := ⟨b, 1, none⟩) (fun _ => rfl) _).set (a := ⟨b, 2, none⟩) (fun _ => rfl) _).set (a := ⟨b, 3, none⟩) (fun _ => rfl) _).set (a := ⟨b, 4, none⟩) (fun _ => rfl) _).set (a := ⟨b, 5, none⟩) (fun _ => rfl) _).set (a := ⟨b, 6, none⟩) (fun _ => rfl) _⟩

set_option maxHeartbeats 4000000 in
set_option maxRecDepth 100000 in
theorem answered_nil (t : TK) (na : Option Addr) (nc : Nat) (w : World) :
    Calls Tryz.prog 34 #[t.val na nc, .nilIface] w fun e w' => e = .returned (t.val na nc) ∧ Below w.heap.size w w' := by
  have hT := (V7.new_at w (.int .i64 t.code) (.int .i64 t.gen) (.int .i64 t.g.root.kind) (.int .i64 t.g.root.num) (.string t.g.root.text) (.int .i64 t.g.root.node) (.slice na t.g.nodes.length nc) 34 w.heap.size rfl).grow (gal (gal (gre _) (.cells #[.int .i64 0, .int .i64 0, .int .i64 0, .int .i64 0, .string ⟨#[]⟩, .int .i64 0, .slice none 0 0] 34)) (.cells #[.int .i64 0, .int .i64 0] 132))
  have hR := (V7.new_at (w.alloc (.cells #[.int .i64 t.code, .int .i64 t.gen, .int .i64 t.g.root.kind, .int .i64 t.g.root.num, .string t.g.root.text, .int .i64 t.g.root.node, .slice na t.g.nodes.length nc] 34)) (.int .i64 0) (.int .i64 0) (.int .i64 0) (.int .i64 0) (.string ⟨#[]⟩) (.int .i64 0) (.slice none 0 0) 34 (w.heap.size + 1) (by simp)).grow (gal (gre _) (.cells #[.int .i64 0, .int .i64 0] 132))
  have hA : Below w.heap.size w (((w.alloc (.cells #[.int .i64 t.code, .int .i64 t.gen, .int .i64 t.g.root.kind, .int .i64 t.g.root.num, .string t.g.root.text, .int .i64 t.g.root.node, .slice na t.g.nodes.length nc] 34)).alloc (.cells #[.int .i64 0, .int .i64 0, .int .i64 0, .int .i64 0, .string ⟨#[]⟩, .int .i64 0, .slice none 0 0] 34)).alloc (.cells #[.int .i64 0, .int .i64 0] 132)) := gal (gal (gal (gre w) _) _) _
  go_enter Tryz.func34, Tryz.ntmps34
  go_upto_region 2 with fail
  generalize ((w.alloc (.cells #[.int .i64 t.code, .int .i64 t.gen, .int .i64 t.g.root.kind, .int .i64 t.g.root.num, .string t.g.root.text, .int .i64 t.g.root.node, .slice na t.g.nodes.length nc] 34)).alloc (.cells #[.int .i64 0, .int .i64 0, .int .i64 0, .int .i64 0, .string ⟨#[]⟩, .int .i64 0, .slice none 0 0] 34)).alloc (.cells #[.int .i64 0, .int .i64 0] 132) = w1 at hT hR hA ⊢
  obtain ⟨_, t0, t1, t2, t3, t4, t5, t6, _⟩ := id hT
  obtain ⟨_, r0, r1, r2, r3, r4, r5, r6, rf_⟩ := id hR
  go_wp2_with (go_at_call 72; refine (as_nilR _ w1).mono ?_; rintro e w2 ⟨rfl, rfl⟩)
  obtain ⟨hV9, hK9⟩ := hR.put (.int .i64 t.code) (.int .i64 t.gen) (.int .i64 t.g.root.kind) (.int .i64 t.g.root.num) (.string t.g.root.text) (.int .i64 t.g.root.node) (.slice na t.g.nodes.length nc)
  generalize (((((((w2.setCell ⟨w.heap.size + 1, 0, none⟩ (.int .i64 t.code)).setCell ⟨w.heap.size + 1, 1, none⟩ (.int .i64 t.gen)).setCell ⟨w.heap.size + 1, 2, none⟩ (.int .i64 t.g.root.kind)).setCell ⟨w.heap.size + 1, 3, none⟩ (.int .i64 t.g.root.num)).setCell ⟨w.heap.size + 1, 4, none⟩ (.string t.g.root.text)).setCell ⟨w.heap.size + 1, 5, none⟩ (.int .i64 t.g.root.node)).setCell ⟨w.heap.size + 1, 6, none⟩ (.slice na t.g.nodes.length nc)) = w9 at hV9 hK9 ⊢
  obtain ⟨_, q0, q1, q2, q3, q4, q5, q6, _⟩ := id hV9
  exact bodyPost_ret (v := t.val na nc) (by simp [results, Tryz.results34, go_sem, q0, q1, q2, q3, q4, q5, q6]) rfl ⟨rfl, hA.trans (hK9.below hA.size (fun z hz e => by omega))⟩

set_option maxHeartbeats 4000000 in
set_option maxRecDepth 100000 in
theorem answered_hit (t : TK) (na : Option Addr) (nc : Nat) (x y : Int) (w : World) (hg : w.cell? ⟨0, 0, none⟩ = some (.iface 211 (.agg #[.pointer (some ⟨1, 80, none⟩)]))) :
    Calls Tryz.prog 34 #[t.val na nc, .iface 132 (.agg #[.int .i64 x, .int .i64 y])] w fun e w' => e = .returned ((TK.mk x y zeroG).val none 0) ∧ Below w.heap.size w w' := by
  have hR := (V7.new_at (w.alloc (.cells #[.int .i64 t.code, .int .i64 t.gen, .int .i64 t.g.root.kind, .int .i64 t.g.root.num, .string t.g.root.text, .int .i64 t.g.root.node, .slice na t.g.nodes.length nc] 34)) (.int .i64 0) (.int .i64 0) (.int .i64 0) (.int .i64 0) (.string ⟨#[]⟩) (.int .i64 0) (.slice none 0 0) 34 (w.heap.size + 1) (by simp)).grow (gal (gre _) (.cells #[.int .i64 0, .int .i64 0] 132))
  have hA : Below w.heap.size w (((w.alloc (.cells #[.int .i64 t.code, .int .i64 t.gen, .int .i64 t.g.root.kind, .int .i64 t.g.root.num, .string t.g.root.text, .int .i64 t.g.root.node, .slice na t.g.nodes.length nc] 34)).alloc (.cells #[.int .i64 0, .int .i64 0, .int .i64 0, .int .i64 0, .string ⟨#[]⟩, .int .i64 0, .slice none 0 0] 34)).alloc (.cells #[.int .i64 0, .int .i64 0] 132)) := gal (gal (gal (gre w) _) _) _
  have hP := VB.new_at ((w.alloc (.cells #[.int .i64 t.code, .int .i64 t.gen, .int .i64 t.g.root.kind, .int .i64 t.g.root.num, .string t.g.root.text, .int .i64 t.g.root.node, .slice na t.g.nodes.length nc] 34)).alloc (.cells #[.int .i64 0, .int .i64 0, .int .i64 0, .int .i64 0, .string ⟨#[]⟩, .int .i64 0, .slice none 0 0] 34)) (.int .i64 0) (.int .i64 0) 132 (w.heap.size + 1 + 1) (by simp)
  go_enter Tryz.func34, Tryz.ntmps34
  go_upto_region 2 with fail
  generalize ((w.alloc (.cells #[.int .i64 t.code, .int .i64 t.gen, .int .i64 t.g.root.kind, .int .i64 t.g.root.num, .string t.g.root.text, .int .i64 t.g.root.node, .slice na t.g.nodes.length nc] 34)).alloc (.cells #[.int .i64 0, .int .i64 0, .int .i64 0, .int .i64 0, .string ⟨#[]⟩, .int .i64 0, .slice none 0 0] 34)).alloc (.cells #[.int .i64 0, .int .i64 0] 132) = w1 at hR hA hP ⊢
  go_wp2_with (go_at_call 72; refine (as_hitR (w.heap.size + 1 + 1) x y _ _ w1 (cell_later hA hg) hP.v0 hP.v1 hP.vf).mono ?_; rintro e w2 ⟨rfl, hK2, q0, q1⟩; have hR2 := hR.kept hK2 (by omega); obtain ⟨_, r0, r1, r2, r3, r4, r5, r6, rf_⟩ := id hR2)
  have hA2 : Below w.heap.size w w2 := hA.trans (hK2.below hA.size (fun z hz e => by omega))
  obtain ⟨hV9, hK9⟩ := hR2.put (.int .i64 x) (.int .i64 y) (.int .i64 0) (.int .i64 0) (.string ⟨#[]⟩) (.int .i64 0) (.slice none 0 0)
  generalize (((((((w2.setCell ⟨w.heap.size + 1, 0, none⟩ (.int .i64 x)).setCell ⟨w.heap.size + 1, 1, none⟩ (.int .i64 y)).setCell ⟨w.heap.size + 1, 2, none⟩ (.int .i64 0)).setCell ⟨w.heap.size + 1, 3, none⟩ (.int .i64 0)).setCell ⟨w.heap.size + 1, 4, none⟩ (.string ⟨#[]⟩)).setCell ⟨w.heap.size + 1, 5, none⟩ (.int .i64 0)).setCell ⟨w.heap.size + 1, 6, none⟩ (.slice none 0 0)) = w9 at hV9 hK9 ⊢
  obtain ⟨_, q0, q1, q2, q3, q4, q5, q6, _⟩ := id hV9
  exact bodyPost_ret (v := (TK.mk x y zeroG).val none 0) (by simp [results, Tryz.results34, go_sem, q0, q1, q2, q3, q4, q5, q6, zeroG]) rfl ⟨rfl, hA2.trans (hK9.below hA2.size (fun z hz e => by omega))⟩

end Go.Proofs.YtmdpmdmilgbfiaaGreatDoor

/-
  KKEEP: what Keep leaves, plain. Own work.
-/
namespace Go.Proofs.YtmdpmdmilgbfiaaGreatDoor
open Go.RowKit

/-- a disk between two layings-down -/
structure GoodK (d : DD) : Prop where
  ok : d.ok = true
  w : d.waiting = []
  o : d.Ok
theorem applyN_fitQ {d : DD} {ops : List OP} (hd : d.Ok) (hok : OpsOk ops) (hk : d.ok = true) : ∀ j e, j ≤ ops.length → applyN d ops j = some e → e.Ok ∧ e.ok = true
  | 0, e, _, h => by obtain rfl := Option.some.inj h; exact ⟨hd, hk⟩
  | j + 1, e, hj, h => by
    cases hp : applyN d ops j with
    | none => rw [applyN_none hp 1] at h; cases h
    | some f =>
      obtain ⟨h1, h2⟩ := applyN_fitQ hd hok hk j f (by omega) hp
      cases hs : (f.step ops[j]!).ok with
      | false => rw [applyN_no hp hs] at h; cases h
      | true =>
        rw [applyN_yes hp hs] at h
        obtain rfl := Option.some.inj h
        have hm : ops[j]! ∈ ops := mem_at (by omega)
        exact ⟨step_ok h1 h2 (hok.bl _ hm) (hok.by_ _ hm), hs⟩
theorem packB_some {g : GG} (h : packB g ≠ []) : okG g = true := by
  by_cases ho : okG g = true ∧ (imageB g).length ≤ 4096
  · exact ho.1
  · exact absurd (show packB g = [] from if_neg ho) h

/-- what Keep leaves -/
theorem keep_facts {d : DD} (h : GoodK d) {g : GG} (hp : packB g ≠ []) (hg : d.newestOf.gen ≠ 1000000000000) :
    GoodK (d.keep g) ∧ (d.keep g).newestOf = ⟨true, d.newestOf.gen + 1, (d.newestOf.other : Int), packB g⟩ ∧ (∀ m, m < 2 → m ≠ d.newestOf.other → (d.keep g).rd m = d.rd m) ∧ (d.keep g).rd d.newestOf.other = headB (d.newestOf.gen + 1) ((packB g).length : Int) (wrap64 (sumN (packB g) : Int)) := by
  have hl := packB_lenK g
  have hf := DD.fit h.ok
  have hr := newest_rng hf
  have hoo := lay_opsOk d ⟨hr.g.2, hr.g.1⟩ (packB_bytesK g) hl
  have hll := lay_len d hl
  have ho : d.ops (packB g) = d.lay (packB g) := if_pos ⟨h.ok, h.w, hp, hl⟩
  have hne : d.lay (packB g) ≠ [] := by
    unfold DD.lay
    rw [if_neg hg]
    simp
  obtain ⟨f, h1, h2, _, h4⟩ := applyN_view h.ok (lay_good d hl) (d.lay (packB g)).length (Nat.le_refl _) (by rw [h.w]; simp; omega)
  have hk : d.keep g = f := by
    unfold DD.keep
    rw [ho, if_neg hne]
    unfold DD.apply
    rw [if_pos ⟨h.ok, by omega, Int.le_refl _⟩, Int.toNat_natCast, h1]
    rfl
  have hff := DD.fit h2
  have ho1 := (applyN_fitQ h.o hoo h.ok _ f (Nat.le_refl _) h1).1
  have hs := d.newestOf.other_lt
  rw [hk]
  refine ⟨⟨h2, lay_done h.w h.ok hl h1, ho1⟩, laid_newest hf hff hl hp hg h4, fun m hm hne => ?_, ?_⟩
  · rw [h4 m (by omega), lay_view hg, if_neg (by omega), if_neg (by unfold firstOf; omega)]
  · rw [h4 _ (by omega), lay_view hg, if_pos rfl]
theorem newest_nat {d : DD} (h : GoodK d) : d.newest = d.newestOf := if_pos h.ok
/-- what is taken up then -/
theorem keep_take {d : DD} (h : GoodK d) {g : GG} (hgo : g.Ok) (hp : packB g ≠ []) (hg : d.newestOf.gen ≠ 1000000000000) : (d.keep g).takeT = ⟨0, d.newestOf.gen + 1, canon g⟩ := by
  obtain ⟨h1, h2, _⟩ := keep_facts h hp hg
  unfold DD.takeT
  rw [if_neg (by rw [h1.ok]; decide), h2, if_neg (fun e => by cases e), unB_pack hgo (packB_some hp) hp, if_neg (fun e => by cases e)]
theorem head_blank : headOf (List.replicate 64 0) = noH := headOf_no (fun x hx => by
  have h := congrArg List.head? hx.eq
  unfold headB headN at h
  simp at h)
theorem blank_rd {m : Nat} (hm : m < 130) : blankD.rd m = List.replicate 64 0 := by
  unfold DD.rd blankD
  show readN _ [] _ 0 = _
  simp only [readN]
  rw [getElem!_pos _ _ (by rw [Int.toNat_natCast, List.length_replicate]; exact hm), List.getElem_replicate]
theorem blank_goodK : GoodK blankD := ⟨by decide +kernel, rfl, ⟨by simp [blankD, maxLen], fun b hb => by rw [List.eq_of_mem_replicate hb]; exact ⟨by simp [maxLen], fun x hx => by rw [List.eq_of_mem_replicate hx]; omega⟩, Nat.zero_le _, fun x hx => (by cases hx), fun x hx => (by cases hx)⟩⟩
theorem blank_newest : blankD.newestOf = noK := by
  have e : ∀ s, s < 2 → blankD.slotOf s = noK := fun s hs => by
    unfold DD.slotOf
    rw [blank_rd (by omega), head_blank]
    exact if_neg (fun e => by cases e.1)
  unfold DD.newestOf
  rw [e 0 (by omega), e 1 (by omega)]
  exact if_neg (fun e => by cases e.1)

/-- what stands between two layings-down: n were made, the newest is that of last -/
structure KInv (n : Nat) (d : DD) (last : GG) : Prop where
  gd : GoodK d
  z : n = 0 → d.newestOf = noK ∧ ∀ m, m < 2 → headOf (d.rd m) = noH
  s : 1 ≤ n → ∃ o : Nat, o < 2 ∧ d.newestOf = ⟨true, (n : Int), (o : Int), packB last⟩ ∧ ∃ y, headOf (d.rd o) = ⟨true, (n : Int), ((packB last).length : Int), y⟩
/-- what the law looks at behind a laying-down -/
structure KNew (n : Nat) (d' : DD) (last g : GG) (o : Nat) (x : HH) : Prop where
  inv : KInv (n + 1) d' g
  lt : o < 2
  k : d'.newest = ⟨true, ((n + 1 : Nat) : Int), (o : Int), packB g⟩
  t : d'.takeT = ⟨0, ((n + 1 : Nat) : Int), canon g⟩
  h : d'.headOf (1 - (o : Int)) = x
  z : n = 0 → x.ok = false
  s : 1 ≤ n → x.ok = true ∧ x.gen = (n : Int) ∧ x.len = ((packB last).length : Int)
theorem KInv.zero (g : GG) : KInv 0 blankD g :=
  ⟨blank_goodK, fun _ => ⟨blank_newest, fun m hm => by rw [blank_rd (by omega)]; exact head_blank⟩, fun h => absurd h (by omega)⟩
theorem KInv.step {n : Nat} {d : DD} {last : GG} (h : KInv n d last) (hn : n ≤ 1000) {g : GG} (hg : g.Ok) (hp : packB g ≠ []) : ∃ o x, KNew n (d.keep g) last g o x := by
  have hgen : d.newestOf.gen = (n : Int) := by
    by_cases e : n = 0
    · rw [(h.z e).1, e]; rfl
    · obtain ⟨o, _, h2, _⟩ := h.s (by omega)
      rw [h2]
  have hne : d.newestOf.gen ≠ 1000000000000 := by rw [hgen]; omega
  obtain ⟨h1, h2, h3, h4⟩ := keep_facts h.gd hp hne
  have ht := keep_take h.gd hg hp hne
  have ho := d.newestOf.other_lt
  have eg : d.newestOf.gen + 1 = ((n + 1 : Nat) : Int) := by rw [hgen]; omega
  rw [eg] at h2 h4 ht
  have hhd : (d.keep g).headOf (1 - (d.newestOf.other : Int)) = headOf (d.rd (1 - d.newestOf.other)) := by
    unfold DD.headOf
    rw [if_pos ⟨h1.ok, by omega, by omega⟩, show (1 - (d.newestOf.other : Int)).toNat = 1 - d.newestOf.other by omega, h3 _ (by omega) (by omega)]
  have hpl : 1 ≤ (packB g).length := by
    cases e : packB g with
    | nil => exact absurd e hp
    | cons x r => simp
  have hpm := packB_lenK g
  have hhn : headOf ((d.keep g).rd d.newestOf.other) = ⟨true, ((n + 1 : Nat) : Int), ((packB g).length : Int), wrap64 (sumN (packB g) : Int)⟩ :=
    headOf_yes (x := ⟨true, ((n + 1 : Nat) : Int), ((packB g).length : Int), wrap64 (sumN (packB g) : Int)⟩) ⟨rfl, rng_mk ⟨by show (1 : Int) ≤ ((n + 1 : Nat) : Int) ∧ ((n + 1 : Nat) : Int) ≤ _; omega, by show (1 : Int) ≤ ((packB g).length : Int) ∧ ((packB g).length : Int) ≤ 4096; omega⟩, wrap64_rng _, h4⟩
  refine ⟨d.newestOf.other, headOf (d.rd (1 - d.newestOf.other)), ⟨⟨h1, fun e => absurd e (by omega), fun _ => ⟨_, ho, h2, _, hhn⟩⟩, ho, (newest_nat h1).trans h2, ht, hhd, fun e => ?_, fun e => ?_⟩⟩
  · rw [(h.z e).2 _ (by omega)]
  · obtain ⟨o, ho2, e2, y, e3⟩ := h.s e
    have eo : 1 - d.newestOf.other = o := by
      rw [e2]
      unfold KK.other
      by_cases e0 : o = 0
      · subst e0; rw [if_pos ⟨rfl, rfl⟩]
      · rw [if_neg (fun k => e0 (by have := k.2; simpa using this))]; omega
    rw [eo, e3]
    exact ⟨rfl, rfl, rfl⟩

end Go.Proofs.YtmdpmdmilgbfiaaGreatDoor

/-
  WSAME: the laws' comparisons, where both are the same. Own work.
-/
namespace Go.Proofs.YtmdpmdmilgbfiaaGreatDoor
open Go.RowKit

set_option maxRecDepth 100000 in
theorem wBytes_same (a a' : Option Addr) (bs : List Nat) (cap cap' : Nat) (w : World) (hl : bs.length ≤ maxLen) (ha : BytesAt w a bs) (ha' : BytesAt w a' bs) :
    Calls Tryz.prog 15 #[.slice a bs.length cap, .slice a' bs.length cap'] w fun e w' => e = .returned (.bool true) ∧ Below w.heap.size w w' := by
  unfold maxLen at hl
  have hne : ((bs.length : Int) != (bs.length : Int)) = false := by simp
  go_enter Tryz.func15, Tryz.ntmps15
  go_wp2
  go_loopw [13] (fun i wr => ∃ (k : Nat), k ≤ bs.length ∧ i = .int .i64 k ∧ Below w.heap.size w wr) (fun i _ => bs.length - (intOf i).toNat)
  case atStart => exact ⟨0, Nat.zero_le _, rfl, gre _⟩
  case round =>
    obtain ⟨k, hk, rfl, hb⟩ := hrel
    by_cases hlt : k < bs.length
    · obtain ⟨x, b, off, hxk, hxm, rfl, hc⟩ := (ha.grow hb).get hlt
      obtain ⟨y, b', off', hyk, hym, rfl, hc'⟩ := (ha'.grow hb).get hlt
      obtain rfl : y = x := by rw [hyk.out, hxk.out]
      have hn2 : ((y : Int) != (y : Int)) = false := by simp
      go_wp2_with (go_quiet (fail))
      go_roundw
      case rel => exact ⟨k + 1, by omega, by go_num, hb.trans ⟨rfl, rfl, rfl, Nat.le_refl _, fun _ _ => rfl⟩⟩
      case measure => simp [intOf]; omega
    · go_wp2
      go_ret
      exact ⟨rfl, hb⟩

/-- a graph's own variable -/
structure WBox (w : World) (p : Nat) (s : Value) : Prop where
  c4 : w.cell? ⟨p, 4, none⟩ = some s
theorem WBox.grow {w w' : World} {p : Nat} {s : Value} (h : WBox w p s) (hb : Below w.heap.size w w') : WBox w' p s := ⟨(World.cell?_of_block (w := w) (hb.block p (World.block_lt_of_cell? w ⟨p, 4, none⟩ h.c4))).trans h.c4⟩

set_option maxHeartbeats 4000000 in
set_option maxRecDepth 100000 in
theorem wGraph_same (a a' : Option Addr) (cap cap' : Nat) (g : GG) (w : World) (hg : g.Ok) (ha : NodesAt w.heap.size w a g.nodes) (ha' : NodesAt w.heap.size w a' g.nodes) :
    Calls Tryz.prog 11 #[g.val a cap, g.val a' cap'] w fun e w' => e = .returned (.bool true) ∧ Below w.heap.size w w' := by
  have hgl := hg.len
  unfold maxLen at hgl
  have hne : ((g.nodes.length : Int) != (g.nodes.length : Int)) = false := by simp
  have hA := gal (gal (gre w) (.cells #[.int .i64 g.root.kind, .int .i64 g.root.num, .string g.root.text, .int .i64 g.root.node, .slice a g.nodes.length cap] 32)) (.cells #[.int .i64 g.root.kind, .int .i64 g.root.num, .string g.root.text, .int .i64 g.root.node, .slice a' g.nodes.length cap'] 32)
  have hX0 : WBox ((w.alloc (.cells #[.int .i64 g.root.kind, .int .i64 g.root.num, .string g.root.text, .int .i64 g.root.node, .slice a g.nodes.length cap] 32)).alloc (.cells #[.int .i64 g.root.kind, .int .i64 g.root.num, .string g.root.text, .int .i64 g.root.node, .slice a' g.nodes.length cap'] 32)) w.heap.size (.slice a g.nodes.length cap) := WBox.grow ⟨by simp⟩ (gal (gre _) _)
  have hY0 : WBox ((w.alloc (.cells #[.int .i64 g.root.kind, .int .i64 g.root.num, .string g.root.text, .int .i64 g.root.node, .slice a g.nodes.length cap] 32)).alloc (.cells #[.int .i64 g.root.kind, .int .i64 g.root.num, .string g.root.text, .int .i64 g.root.node, .slice a' g.nodes.length cap'] 32)) (w.heap.size + 1) (.slice a' g.nodes.length cap') := by
    have e : (w.alloc (.cells #[.int .i64 g.root.kind, .int .i64 g.root.num, .string g.root.text, .int .i64 g.root.node, .slice a g.nodes.length cap] 32)).heap.size = w.heap.size + 1 := by simp
    rw [← e]; exact ⟨by simp⟩
  go_enter Tryz.func11, Tryz.ntmps11
  go_wp2
  generalize (w.alloc (.cells #[.int .i64 g.root.kind, .int .i64 g.root.num, .string g.root.text, .int .i64 g.root.node, .slice a g.nodes.length cap] 32)).alloc (.cells #[.int .i64 g.root.kind, .int .i64 g.root.num, .string g.root.text, .int .i64 g.root.node, .slice a' g.nodes.length cap'] 32) = wA at hA hX0 hY0 ⊢
  go_loopw [24] (fun i wr => ∃ k : Nat, k ≤ g.nodes.length ∧ i = .int .i64 k ∧ Below wA.heap.size wA wr) (fun i _ => g.nodes.length - (intOf i).toNat)
  case atStart => exact ⟨0, Nat.zero_le _, rfl, gre _⟩
  case round =>
    obtain ⟨k, hk, rfl, hb⟩ := hrel
    by_cases hlt : k < g.nodes.length
    · have hB := gca hA hb
      obtain ⟨n, b, off, av, cv, hvk, hvm, rfl, hbs, hva⟩ := (ha.grow hB).get hlt
      obtain ⟨n', b', off', av', cv', hvk', hvm', rfl, hbs', hva'⟩ := (ha'.grow hB).get hlt
      obtain rfl : n' = n := by rw [hvk.out, hvk'.out]
      have x4 := (hX0.grow hb).c4
      have y4 := (hY0.grow hb).c4
      have c0 := hva.tag
      have c1 := hva.sl
      have d0 := hva'.tag
      have d1 := hva'.sl
      have hv1 := hva.vals
      have hv2 := hva'.vals
      have i0 : (0 : Int) ≤ (k : Int) := by omega
      have i1 : (k : Int) < (g.nodes.length : Int) := by omega
      have hnl := (hg.nodes n' hvm).len
      unfold maxLen at hnl
      have t1 : ((n'.tag : Int) != n'.tag) = false := by simp
      have t2 : ((n'.vals.length : Int) != (n'.vals.length : Int)) = false := by simp
      clear hva hva' hvk hvk' ha ha'
      go_wp2_with (go_quiet (fail))
      rename World => wB
      go_loopw [64] (fun i wr2 => ∃ j : Nat, j ≤ n'.vals.length ∧ i = .int .i64 j ∧ Below wB.heap.size wB wr2) (fun i _ => n'.vals.length - (intOf i).toNat)
      case atStart => exact ⟨0, Nat.zero_le _, rfl, by first | exact gre _ | exact (gre wB).trans ⟨rfl, rfl, rfl, Nat.le_refl _, fun _ _ => rfl⟩⟩
      case round =>
        obtain ⟨j, hj, rfl, hb2⟩ := hrel
        by_cases hlt2 : j < n'.vals.length
        · obtain ⟨v, vb, vo, hvj, hvm2, rfl, hvb, hvv⟩ := (hv1.grow hb2).get hlt2
          obtain ⟨v', vb', vo', hvj', hvm2', rfl, hvb', hvv'⟩ := (hv2.grow hb2).get hlt2
          obtain rfl : v' = v := by rw [hvj.out, hvj'.out]
          have c1' := cell_later hb2 c1
          have d1' := cell_later hb2 d1
          have x4' := cell_later hb2 x4
          have y4' := cell_later hb2 y4
          have e0 := hvv.kind
          have e1 := hvv.num
          have e2 := hvv.text
          have e3 := hvv.node
          have f0 := hvv'.kind
          have f1 := hvv'.num
          have f2 := hvv'.text
          have f3 := hvv'.node
          have j0 : (0 : Int) ≤ (j : Int) := by omega
          have j1 : (j : Int) < (n'.vals.length : Int) := by omega
          clear hvv hvv' hvj hvj' c0 c1 d0 d1 x4 y4 hv1 hv2
          go_wp2_with (go_quiet (fail))
          go_roundw
          case rel => exact ⟨j + 1, by omega, by go_num, by first | exact hb2 | exact hb2.trans ⟨rfl, rfl, rfl, Nat.le_refl _, fun _ _ => rfl⟩⟩
          case measure => simp [intOf]; omega
        · go_wp2
          go_roundw
          case rel => exact ⟨k + 1, by omega, by go_num, gca hb hb2⟩
          case measure => simp [intOf]; omega
    · go_wp2
      go_ret
      exact ⟨rfl, gca hA hb⟩

end Go.Proofs.YtmdpmdmilgbfiaaGreatDoor

/-
  KW: the laws' helpers (a byte, what is taken up), and an append of bytes that came in. Own work.
-/
namespace Go.Proofs.YtmdpmdmilgbfiaaGreatDoor
open Go.RowKit

set_option maxRecDepth 100000 in
theorem wByte_any (a : Option Addr) (bs : List Nat) (cap i : Nat) (w : World) (ha : BytesAt w a bs) (hl : bs.length ≤ maxLen) (hu : ∀ x, x ∈ bs → x < 256) :
    Calls Tryz.prog 19 #[.slice a bs.length cap, .int .i64 (i : Int)] w fun e w' => ∃ x : Nat, x < 256 ∧ e = .returned (.int .i64 (x : Int)) ∧ Below w.heap.size w w' := by
  unfold maxLen at hl
  by_cases h0 : bs.length = 0
  · rw [h0]
    go_enter Tryz.func19, Tryz.ntmps19
    go_wp2
    go_ret
    exact ⟨0, by decide, rfl, gre _⟩
  · obtain ⟨k, hk⟩ := hid_ex (i % bs.length)
    have hkl : k < bs.length := by rw [hk.out]; exact Nat.mod_lt _ (by omega)
    obtain ⟨x, b, off, hxk, hxm, rfl, hc⟩ := ha.get (k := k) hkl
    have hx := hu x hxm
    have hne : ¬ ((bs.length : Int) = 0) := by omega
    have hr : Int.tmod (i : Int) (bs.length : Int) = (k : Int) := by rw [hk.out, ← Int.ofNat_tmod]
    have i0 : (0 : Int) ≤ (k : Int) := by omega
    have i1 : (k : Int) < (bs.length : Int) := by omega
    have e1 : IntKind.i64.wrap (k : Int) = (k : Int) := by rw [IntKind.wrap_i64]; omega
    have e2 : IntKind.i64.wrap (x : Int) = (x : Int) := by rw [IntKind.wrap_i64]; omega
    go_enter Tryz.func19, Tryz.ntmps19
    go_wp2
    go_ret
    exact ⟨x, hx, rfl, gre _⟩

set_option maxHeartbeats 4000000 in
set_option maxRecDepth 100000 in
theorem wTaken_same (t : TK) (a a' : Option Addr) (cap cap' : Nat) (w : World) (hg : t.g.Ok) (ha : NodesAt w.heap.size w a t.g.nodes) (ha' : NodesAt w.heap.size w a' t.g.nodes) :
    Calls Tryz.prog 10 #[t.val a cap, t.val a' cap'] w fun e w' => e = .returned (.bool true) ∧ Below w.heap.size w w' := by
  have h1 : ((t.code : Int) == t.code) = true := by simp
  have h2 : ((t.gen : Int) == t.gen) = true := by simp
  have hA := gal (gal (gre w) (.cells #[.int .i64 t.code, .int .i64 t.gen, .int .i64 t.g.root.kind, .int .i64 t.g.root.num, .string t.g.root.text, .int .i64 t.g.root.node, .slice a t.g.nodes.length cap] 34)) (.cells #[.int .i64 t.code, .int .i64 t.gen, .int .i64 t.g.root.kind, .int .i64 t.g.root.num, .string t.g.root.text, .int .i64 t.g.root.node, .slice a' t.g.nodes.length cap'] 34)
  have hX := (V7.new_at w (.int .i64 t.code) (.int .i64 t.gen) (.int .i64 t.g.root.kind) (.int .i64 t.g.root.num) (.string t.g.root.text) (.int .i64 t.g.root.node) (.slice a t.g.nodes.length cap) 34 w.heap.size rfl).grow (gal (gre _) (.cells #[.int .i64 t.code, .int .i64 t.gen, .int .i64 t.g.root.kind, .int .i64 t.g.root.num, .string t.g.root.text, .int .i64 t.g.root.node, .slice a' t.g.nodes.length cap'] 34))
  have hY := V7.new_at (w.alloc (.cells #[.int .i64 t.code, .int .i64 t.gen, .int .i64 t.g.root.kind, .int .i64 t.g.root.num, .string t.g.root.text, .int .i64 t.g.root.node, .slice a t.g.nodes.length cap] 34)) (.int .i64 t.code) (.int .i64 t.gen) (.int .i64 t.g.root.kind) (.int .i64 t.g.root.num) (.string t.g.root.text) (.int .i64 t.g.root.node) (.slice a' t.g.nodes.length cap') 34 (w.heap.size + 1) (by simp)
  go_enter Tryz.func10, Tryz.ntmps10
  go_upto_region 1 with fail
  generalize (w.alloc (.cells #[.int .i64 t.code, .int .i64 t.gen, .int .i64 t.g.root.kind, .int .i64 t.g.root.num, .string t.g.root.text, .int .i64 t.g.root.node, .slice a t.g.nodes.length cap] 34)).alloc (.cells #[.int .i64 t.code, .int .i64 t.gen, .int .i64 t.g.root.kind, .int .i64 t.g.root.num, .string t.g.root.text, .int .i64 t.g.root.node, .slice a' t.g.nodes.length cap'] 34) = w1 at hA hX hY ⊢
  obtain ⟨_, x0, x1, x2, x3, x4, x5, x6, _⟩ := id hX
  obtain ⟨_, y0, y1, y2, y3, y4, y5, y6, _⟩ := id hY
  go_wp2_with (go_at_call 11; refine (wGraph_same a a' cap cap' t.g _ hg (ha.grow hA) (ha'.grow hA)).mono ?_; rintro e w2 ⟨rfl, hb2⟩)
  go_ret
  exact ⟨rfl, gca hA hb2⟩

set_option maxRecDepth 100000 in
/-- bytes that came in, appended to bytes of one's own -/
theorem run_append_code {base : Nat} {oa : Option Addr} {c : Nat} {xs bs : List Nat} {sa : Option Addr} {cap : Nat} (w : World) (ty : TypeId) (hx : 0 < xs.length) (hO : w.ownsRow base 5 1 (.slice oa xs.length c) xs.length (bcells xs)) (hb : BytesAt w sa bs) (hl : xs.length + bs.length ≤ 2000000) (hbase : base ≤ w.heap.size) :
    ∃ g c' w', (Builtin.append_ #[22, 22] ty #[.slice oa xs.length c, .slice sa bs.length cap]).run Tryz.prog w = .ok (.slice (some ⟨g, 0, none⟩) (xs ++ bs).length c') w' ∧ w'.ownsRow base 5 1 (.slice (some ⟨g, 0, none⟩) (xs ++ bs).length c') (xs ++ bs).length (bcells (xs ++ bs)) ∧ w.grownBy w' (Value.ownBlock (.slice oa xs.length c)) := by
  obtain ⟨i0, hi, hz0, hz1, hz2⟩ := info_parts info_u8
  cases bs with
  | nil =>
    obtain ⟨g, cap1, e1, _, _⟩ := hO.form hx
    injection e1 with e2 _ e3
    subst e2 e3
    have hc := owns_capH hO
    refine ⟨g, c, w, ?_, by simpa using hO, ⟨rfl, rfl, rfl, Nat.le_refl _, fun _ _ _ => rfl⟩⟩
    cases sa <;> simp [Builtin.append_, run_underlying Tryz.underlying22, sizeOf, typeInfo, hi, Builtin.lenOf, Builtin.firstCells, loadCells, loadCellsFrom, hc, storeCells]
  | cons y ys =>
    obtain ⟨b, off, rfl, _⟩ := hb 0 (by simp)
    have hnews : ∀ j u, (bcells (y :: ys))[j]? = some u → w.cell? ((⟨b, off, none⟩ : Addr).add j) = some u := fun j u hu => by
      have hj : j < (y :: ys).length := by
        have := (List.getElem?_eq_some_iff.1 hu).1
        simpa [bcells] using this
      obtain ⟨b', off', e, hc⟩ := hb j hj
      simp only [Option.some.injEq, Addr.mk.injEq, and_true] at e
      obtain ⟨rfl, rfl⟩ := e
      rw [bcells_get hj] at hu
      have hadd : (⟨b, off, none⟩ : Addr).add j = ⟨b, off + j, none⟩ := by unfold Addr.add; split <;> simp_all
      rw [hadd, hc, ← hu]
    obtain ⟨g, c', w', hr, h2, h3, _, _⟩ := run_append_lies (P := Tryz.prog) w 22 ty base 5 i0 (.int .u8 0) 1 1 Tryz.underlying22 hi hz0 hz1 hz2 rfl (by decide) (.slice oa xs.length c) xs.length (bcells xs) hO ⟨b, off, none⟩ (y :: ys).length cap (bcells (y :: ys)) (by simp [bcells]) hnews (fun u hu => by obtain ⟨z, _, rfl⟩ := List.mem_map.1 hu; rfl) (by simp) (by unfold maxLen; omega) (by omega) hbase w.heap.size rfl
    rw [← List.length_append] at hr h2
    refine ⟨g, c', w', hr, ?_, h3⟩
    have e : bcells (xs ++ y :: ys) = bcells xs ++ bcells (y :: ys) := by simp [bcells]
    rw [e]
    exact h2
theorem wpList_append_code {base : Nat} {oa : Option Addr} {c : Nat} {xs bs : List Nat} {sa : Option Addr} {cap : Nat} (w : World) {ops : Array Oper} {rest : List Oper} {o : Oper} {a : Act} {Q : Exit → Act → World → Prop} (hgd : o.guard = none) (s x : Operand)
    (ho : o.op = .call { callee := .builtin .append, args := #[s, x], argTypes := #[22, 22] }) (hs : a.eval s = .slice oa xs.length c) (hy : a.eval x = .slice sa bs.length cap)
    (hx : 0 < xs.length) (hO : w.ownsRow base 5 1 (.slice oa xs.length c) xs.length (bcells xs)) (hb : BytesAt w sa bs) (hl : xs.length + bs.length ≤ 2000000) (hbase : base ≤ w.heap.size)
    (h : ∀ g c' w', w'.ownsRow base 5 1 (.slice (some ⟨g, 0, none⟩) (xs ++ bs).length c') (xs ++ bs).length (bcells (xs ++ bs)) → w.grownBy w' (Value.ownBlock (.slice oa xs.length c)) → wpList Tryz.prog ops Q rest (a.put o.dst (.slice (some ⟨g, 0, none⟩) (xs ++ bs).length c')) w') : wpList Tryz.prog ops Q (o :: rest) a w :=
  wpList_plain hgd fun K hK => by
    obtain ⟨g, c', w', hr, h2, h3⟩ := run_append_code (cap := cap) w o.type hx hO hb hl hbase
    unfold Oper.wp execOp
    simp only [ho, resolve, invoke, builtin, Sem.run_bind, Sem.run_pure, Result.andThen_ok, List.map_toArray, List.map_cons, List.map_nil, hs, hy, hr]
    exact hK _ _ (h g c' w' h2 h3)

end Go.Proofs.YtmdpmdmilgbfiaaGreatDoor
