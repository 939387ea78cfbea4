import Derived.Test.YthjddpkegooobaaPartRoO

/-
  UNPACKI: the program's Unpack. Own work.
-/
namespace Go.Proofs.Ythjddpkegooobaa
open Go.RowKit

set_option maxRecDepth 100000 in
theorem unCatch_panicking (older : List PanicEntry) (w : World) :
    CallsD Try.prog 65 #[] (.panicking (haltP :: older)) w fun e u' w' =>
      e = .returned (.tuple #[]) ∧ u' = .panicking ({ v := .iface 149 (.agg #[]), recovered := true } :: older) ∧ w' = w := by
  refine callsD_of_wpS Try.func65 rfl fun c₀ cs hu => ?_
  apply wpS_region
  simp [wpOpsS, go_sem, recoverD, hu, Try.ntmps65]
  refine (passOn_halt w).mono ?_
  rintro e w' ⟨rfl, rfl⟩
  simp [bodyPostS, results, Try.results65]

set_option maxRecDepth 100000 in
theorem unCatch_idle (w : World) :
    CallsD Try.prog 65 #[] .returning w fun e u' w' => e = .returned (.tuple #[]) ∧ u' = .returning ∧ w' = w := by
  refine callsD_of_wpS Try.func65 rfl fun c₀ cs hu => ?_
  apply wpS_region
  simp [wpOpsS, go_sem, recoverD, hu, Try.ntmps65]
  refine (passOn_nil w).mono ?_
  rintro e w' ⟨rfl, rfl⟩
  cases c₀
  simp_all [bodyPostS, results, Try.results65]

abbrev unVal (ok : Bool) (g : GG) (na : Option Addr) (nc : Nat) : Value :=
  .agg #[.bool ok, .int .i64 g.root.kind, .int .i64 g.root.num, .string g.root.text, .int .i64 g.root.node, .slice na g.nodes.length nc]

/-- what Unpack leaves -/
def UIPost (bs : List Nat) (w : World) (e : Ending) (w' : World) : Prop :=
  ∃ na nc nl, e = .returned (unVal (unB bs).1 (unB bs).2 na nc) ∧ nl.map (·.n) = (unB bs).2.nodes ∧ OwnG w' w.heap.size na nc nl ∧ Below w.heap.size w w'

theorem own_nil (w : World) (base : Nat) : OwnG w base none 0 [] :=
  ⟨World.ownsRow_nil _ _ _ _, fun x hx => (by cases hx), fun x hx => (by cases hx), fun i j _ hj => absurd hj (Nat.not_lt_zero _)⟩
theorem packB_bytes (g : GG) : ∀ x, x ∈ packB g → x < 256 := by
  unfold packB
  split
  · rename_i h; exact formB_bytes (canon_okG h.1)
  · intro x hx; cases hx
theorem rd_new (w : World) (sa : Option Addr) (bs : List Nat) (cap : Nat) (ha : BytesAt w sa bs) (hc : bs.length ≤ cap) (hl : bs.length ≤ 1099511627776) (hb : ∀ x, x ∈ bs → x < 256) : Rd (w.alloc (.cells #[.slice sa bs.length cap, .int .i64 0] 95)) w.heap.size sa cap bs bs :=
  ⟨⟨0, ⟨by simp, by simp, by simp, fun o => by simp⟩, Nat.zero_le _, rfl⟩, (ha.low).below (gal (gre _) _), hc, hl, hb⟩

theorem MB.bytes {w : World} {lo : Nat} {oa : Option Addr} {ys : List Nat} (h : MB w lo oa ys) : BytesAt w oa ys := by
  rcases h with rfl | ⟨G, n, rfl, _, hB⟩
  · exact fun i hi => absurd hi (Nat.not_lt_zero _)
  · exact brow_bytes hB

/-- an answer's own variable -/
structure Six (w : World) (b : Nat) (ok : Bool) (v : GV) (s : Value) : Prop where
  lt : b < w.heap.size
  c0 : w.cell? ⟨b, 0, none⟩ = some (.bool ok)
  c1 : w.cell? ⟨b, 1, none⟩ = some (.int .i64 v.kind)
  c2 : w.cell? ⟨b, 2, none⟩ = some (.int .i64 v.num)
  c3 : w.cell? ⟨b, 3, none⟩ = some (.string v.text)
  c4 : w.cell? ⟨b, 4, none⟩ = some (.int .i64 v.node)
  c5 : w.cell? ⟨b, 5, none⟩ = some s
  f : ∀ o, w.frozen? ⟨b, o, none⟩ = false
theorem Six.same {w w' : World} {b : Nat} {ok : Bool} {v : GV} {s : Value} (h : Six w b ok v s) (e : w'.heap[b]? = w.heap[b]?) (hlt : b < w'.heap.size) : Six w' b ok v s :=
  ⟨hlt, (World.cell?_of_block (w := w) e).trans h.c0, (World.cell?_of_block (w := w) e).trans h.c1, (World.cell?_of_block (w := w) e).trans h.c2, (World.cell?_of_block (w := w) e).trans h.c3, (World.cell?_of_block (w := w) e).trans h.c4, (World.cell?_of_block (w := w) e).trans h.c5, fun o => (World.frozen?_of_block (w := w) e).trans (h.f o)⟩
theorem Six.kept {p : Nat → Prop} {w w' : World} {b : Nat} {ok : Bool} {v : GV} {s : Value} (h : Six w b ok v s) (k : Kept p w w') (hn : ¬ p b) : Six w' b ok v s := h.same (k.block b h.lt hn) (Nat.lt_of_lt_of_le h.lt k.size)
theorem Six.new (w : World) (ok : Bool) (v : GV) (s : Value) (t : TypeId) : Six (w.alloc (.cells #[.bool ok, .int .i64 v.kind, .int .i64 v.num, .string v.text, .int .i64 v.node, s] t)) w.heap.size ok v s :=
  ⟨by simp, by simp, by simp, by simp, by simp, by simp, by simp, fun o => by simp⟩

theorem GRPost.no {b : Nat} {sa : Option Addr} {cap : Nat} {bs r : List Nat} {w w' : World} {e : Ending} (h : GRPost b sa cap bs r w e w') (hn : rdGraph r = none) : e = .panicked [haltP] ∧ Kept (fun k => k = b) w w' := by
  obtain ⟨hK, ⟨g, q, na, nc, nl, hx, _⟩ | ⟨_, e1⟩⟩ := h
  · have := hx.out; rw [hn] at this; cases this
  · exact ⟨e1, hK⟩
theorem GRPost.ok {b : Nat} {sa : Option Addr} {cap : Nat} {bs r : List Nat} {w w' : World} {e : Ending} {g : GG} {q : List Nat} (h : GRPost b sa cap bs r w e w') (hn : rdGraph r = some (g, q)) : ∃ na nc nl, e = .returned (g.val na nc) ∧ nl.map (·.n) = g.nodes ∧ OwnG w' w.heap.size na nc nl ∧ Kept (fun k => k = b) w w' := by
  obtain ⟨hK, ⟨g', q', na, nc, nl, hx, e1, h1, h2, _⟩ | ⟨hx, _⟩⟩ := h
  · have e2 := hx.out
    rw [hn] at e2
    have e3 : g = g' := by cases e2; rfl
    subst e3
    exact ⟨na, nc, nl, e1, h1, h2, hK⟩
  · have := hx.out; rw [hn] at this; cases this

set_option maxHeartbeats 1000000 in
set_option maxRecDepth 100000 in
theorem implUnpack_any (sa : Option Addr) (cap : Nat) (bs : List Nat) (w : World) (ha : BytesAt w sa bs) (hc : bs.length ≤ cap) (hl : bs.length ≤ 1099511627776) (hbyte : ∀ x, x ∈ bs → x < 256) :
    Calls Try.prog 17 #[.slice sa bs.length cap] w (UIPost bs w) := by
  have hS0 := Six.new w false ⟨0, 0, ⟨#[]⟩, 0⟩ (.slice none 0 0) 33
  have hR0 := rd_new (w.alloc (.cells #[.bool false, .int .i64 0, .int .i64 0, .string ⟨#[]⟩, .int .i64 0, .slice none 0 0] 33)) sa bs cap (ha.grow (gal (gre _) _)) hc hl hbyte
  simp only [World.size_alloc] at hR0
  cases hg : rdGraph bs with
  | none =>
    have hg' : Hid _ := hg
    have hun : unB bs = (false, zeroG) := by unfold unB; rw [hg]
    go_enter_defers Try.func17, Try.ntmps17
    go_wp2_with (go_at_call 66; refine (readGraph_any (w.heap.size + 1) sa cap bs bs _ hR0).mono ?_; intro e w1 h1; obtain ⟨rfl, hK1⟩ := h1.no hg'.out)
    obtain ⟨sz, s0, s1, s2, s3, s4, s5, sf⟩ := (hS0.kept ((Kept.refl (fun _ => False) _).alloc (.cells #[.slice sa bs.length cap, .int .i64 0] 95)) (fun e => e)).kept hK1 (by omega)
    refine leaves_cons (f := 65) (args := #[]) (by simp) (by simp [go_sem]) ?_
    refine (unCatch_panicking [] _).mono ?_
    rintro e u' w'' ⟨rfl, rfl, rfl⟩
    refine ⟨unVal false zeroG none 0, by simp [results, Try.results17, go_sem, s0, s1, s2, s3, s4, s5, zeroG], ?_⟩
    exact ⟨none, 0, [], by rw [hun], by rw [hun]; rfl, own_nil _ _, (gal (gal (gre w) _) _).trans (hK1.below (by simp; omega) (fun k hk e => by omega))⟩
  | some y =>
    obtain ⟨g, q⟩ := y
    have hg' : Hid _ := hg
    have hgok := rdGraph_ok hg
    obtain ⟨p, hp⟩ := hid_ex (packB g)
    have hpb : ∀ x, x ∈ p → x < 256 := by rw [hp.out]; exact packB_bytes g
    by_cases heq : p = bs
    · have hun : unB bs = (true, g) := by unfold unB; rw [hg]; exact if_pos (by rw [← hp.out]; exact heq)
      have heq' : Hid (decide (p = bs) = true) := decide_eq_true heq
      clear heq
      go_enter_defers Try.func17, Try.ntmps17
      go_wp2_with (first
        | (go_at_call 66; refine (readGraph_any (w.heap.size + 1) sa cap bs bs _ hR0).mono ?_; intro e w1 h1; obtain ⟨na, nc, nl, rfl, hnl, hO1, hK1⟩ := h1.ok hg'.out; clear h1; simp only [World.size_alloc] at hO1; have hS1 := (hS0.kept ((Kept.refl (fun _ => False) _).alloc (.cells #[.slice sa bs.length cap, .int .i64 0] 95)) (fun e => e)).kept hK1 (by omega); have hB1 : Below w.heap.size w w1 := (gal (gal (gre w) _) _).trans (hK1.below (by simp; omega) (fun k hk e => by omega)); have hX1 := GBox.new w1 g na nc 27; have hN1 := hO1.at_; rw [hnl] at hN1)
        | (go_at_call 16; refine (implPack_any na nc g _ hgok (hN1.grow (gal (gre _) _))).mono ?_; rintro e w2 ⟨oa2, cap2, rfl, hM2, hb2⟩; rw [← hp.out] at hM2 ⊢; have hX2 := hX1.grow hb2; have hS2 := (hS1.kept ((Kept.refl (fun _ => False) _).alloc (.cells #[.int .i64 g.root.kind, .int .i64 g.root.num, .string g.root.text, .int .i64 g.root.node, .slice na g.nodes.length nc] 27)) (fun e => e)).kept (Kept.of_below hb2 (fun _ => False)) (fun e => e); have hB2 := gca (gal hB1 _) hb2; have hM2' := hM2.bytes)
        | (go_at_call 67; refine (bytesEqual_any oa2 sa p bs cap2 cap _ hpb hbyte hM2' (ha.grow hB2)).mono ?_; rintro e w3 ⟨rfl, hb3⟩; rw [heq'.out]; obtain ⟨xz, x0, x1, x2, x3, x4⟩ := hX2.grow hb3; have hS3 := hS2.kept (Kept.of_below hb3 (fun _ => False)) (fun e => e); obtain ⟨sz, s0, s1, s2, s3, s4, s5, sf⟩ := id hS3))
      have hC : Kept (fun k => k = w.heap.size) w3 ((((((w3.setCell ⟨w.heap.size, 0, none⟩ (.bool true)).setCell ⟨w.heap.size, 1, none⟩ (.int .i64 g.root.kind)).setCell ⟨w.heap.size, 2, none⟩ (.int .i64 g.root.num)).setCell ⟨w.heap.size, 3, none⟩ (.string g.root.text)).setCell ⟨w.heap.size, 4, none⟩ (.int .i64 g.root.node)).setCell ⟨w.heap.size, 5, none⟩ (.slice na g.nodes.length nc)) := ((((((Kept.refl (fun k => k = w.heap.size) w3).set (fun _ => rfl) _).set (fun _ => rfl) _).set (fun _ => rfl) _).set (fun _ => rfl) _).set (fun _ => rfl) _).set (fun _ => rfl) _
      have hB3 := gca hB2 hb3
      have hO3 := ((hO1.kept (Kept.of_below (gca (gal (gre w1) (.cells #[.int .i64 g.root.kind, .int .i64 g.root.num, .string g.root.text, .int .i64 g.root.node, .slice na g.nodes.length nc] 27)) (gca hb2 hb3)) (fun _ => False)) (fun _ _ e => e) (fun _ _ _ _ e => e)).kept hC (fun k hk hp => by have := hO1.nodes.lt k (by rw [hk]; rfl); omega) (fun x hx k hk hp => by have := (hO1.vals x hx).lt k (by rw [hk]; rfl); omega)).le (show w.heap.size ≤ w.heap.size + 1 + 1 by omega)
      refine leaves_cons (f := 65) (args := #[]) (by simp) (by simp [go_sem]) ?_
      refine (unCatch_idle _).mono ?_
      rintro e u' w'' ⟨rfl, rfl, rfl⟩
      refine ⟨unVal true g na nc, by simp [results, Try.results17, go_sem, s0, s1, s2, s3, s4, s5], ?_⟩
      exact ⟨na, nc, nl, by rw [hun], by rw [hun]; exact hnl, hO3, hB3.trans (hC.below hB3.size (fun k hk e => by omega))⟩
    · have hun : unB bs = (false, zeroG) := by unfold unB; rw [hg]; exact if_neg (by rw [← hp.out]; exact heq)
      have heq' : Hid (decide (p = bs) = false) := decide_eq_false heq
      clear heq
      go_enter_defers Try.func17, Try.ntmps17
      go_wp2_with (first
        | (go_at_call 66; refine (readGraph_any (w.heap.size + 1) sa cap bs bs _ hR0).mono ?_; intro e w1 h1; obtain ⟨na, nc, nl, rfl, hnl, hO1, hK1⟩ := h1.ok hg'.out; clear h1; simp only [World.size_alloc] at hO1; have hS1 := (hS0.kept ((Kept.refl (fun _ => False) _).alloc (.cells #[.slice sa bs.length cap, .int .i64 0] 95)) (fun e => e)).kept hK1 (by omega); have hB1 : Below w.heap.size w w1 := (gal (gal (gre w) _) _).trans (hK1.below (by simp; omega) (fun k hk e => by omega)); have hX1 := GBox.new w1 g na nc 27; have hN1 := hO1.at_; rw [hnl] at hN1)
        | (go_at_call 16; refine (implPack_any na nc g _ hgok (hN1.grow (gal (gre _) _))).mono ?_; rintro e w2 ⟨oa2, cap2, rfl, hM2, hb2⟩; rw [← hp.out] at hM2 ⊢; have hX2 := hX1.grow hb2; have hS2 := (hS1.kept ((Kept.refl (fun _ => False) _).alloc (.cells #[.int .i64 g.root.kind, .int .i64 g.root.num, .string g.root.text, .int .i64 g.root.node, .slice na g.nodes.length nc] 27)) (fun e => e)).kept (Kept.of_below hb2 (fun _ => False)) (fun e => e); have hB2 := gca (gal hB1 _) hb2; have hM2' := hM2.bytes)
        | (go_at_call 67; refine (bytesEqual_any oa2 sa p bs cap2 cap _ hpb hbyte hM2' (ha.grow hB2)).mono ?_; rintro e w3 ⟨rfl, hb3⟩; rw [heq'.out]; obtain ⟨xz, x0, x1, x2, x3, x4⟩ := hX2.grow hb3; have hS3 := hS2.kept (Kept.of_below hb3 (fun _ => False)) (fun e => e); obtain ⟨sz, s0, s1, s2, s3, s4, s5, sf⟩ := id hS3))
      have hC : Kept (fun k => k = w.heap.size) w3 ((((((w3.setCell ⟨w.heap.size, 0, none⟩ (.bool false)).setCell ⟨w.heap.size, 1, none⟩ (.int .i64 0)).setCell ⟨w.heap.size, 2, none⟩ (.int .i64 0)).setCell ⟨w.heap.size, 3, none⟩ (.string ⟨#[]⟩)).setCell ⟨w.heap.size, 4, none⟩ (.int .i64 0)).setCell ⟨w.heap.size, 5, none⟩ (.slice none 0 0)) := ((((((Kept.refl (fun k => k = w.heap.size) w3).set (fun _ => rfl) _).set (fun _ => rfl) _).set (fun _ => rfl) _).set (fun _ => rfl) _).set (fun _ => rfl) _).set (fun _ => rfl) _
      have hB3 := gca hB2 hb3
      refine leaves_cons (f := 65) (args := #[]) (by simp) (by simp [go_sem]) ?_
      refine (unCatch_idle _).mono ?_
      rintro e u' w'' ⟨rfl, rfl, rfl⟩
      refine ⟨unVal false zeroG none 0, by simp [results, Try.results17, go_sem, s0, s1, s2, s3, s4, s5, zeroG], ?_⟩
      exact ⟨none, 0, [], by rw [hun], by rw [hun]; rfl, own_nil _ _, hB3.trans (hC.below hB3.size (fun k hk e => by omega))⟩

end Go.Proofs.Ythjddpkegooobaa

/-
  SUNPA: where the specification's Unpack stands. Own work.
-/
namespace Go.Proofs.Ythjddpkegooobaa
open Go.RowKit

/-- what stands at the head of the round -/
structure SGS (w : World) (R b : Nat) (sa : Option Addr) (cap : Nat) (bs : List Nat) (rv : GV) (G : Nat) (ws : World) (at_ : Nat) (bad : Bool) (na : Option Addr) (nc : Nat) (nl : List NL) : Prop where
  kept : Kept (fun k => k = b) w ws
  blk : R < b ∧ b < w.heap.size ∧ w.heap.size ≤ G ∧ G < ws.heap.size
  res : Six ws R false ⟨0, 0, ⟨#[]⟩, 0⟩ (.slice none 0 0)
  out : Five ws G rv (.slice na nl.length nc)
  rd : SR ws b sa cap bs at_ bad
  own : OwnG ws (G + 1) na nc nl

theorem SGS.step {w : World} {R b : Nat} {sa : Option Addr} {cap : Nat} {bs : List Nat} {rv : GV} {G : Nat} {ws : World} {at_ : Nat} {bad : Bool} {na : Option Addr} {nc : Nat} {nl : List NL} (h : SGS w R b sa cap bs rv G ws at_ bad na nc nl) {n : GN} {w1 w3 : World} {at1 : Nat} {bad1 : Bool} {va : Option Addr} {vc : Nat} {gg cc : Nat} {o : Obj}
    (hR1 : SR w1 b sa cap bs at1 bad1) (hK1 : Kept (fun k => k = b) ws w1) (hv1 : w1.ownsRow ws.heap.size 24 4 (.slice va n.vals.length vc) n.vals.length (valCells n.vals))
    (hown : w3.ownsRow (G + 1) 84 2 (.slice (some ⟨gg, 0, none⟩) (nl.length + 1) cc) (nl.length + 1) (nodeCells nl ++ [.int .i64 n.tag, .slice va n.vals.length vc]))
    (hgrow : (w1.alloc o).grownBy w3 (Value.slice na nl.length nc).ownBlock) (hat : (Value.slice na nl.length nc).ownBlock = some gg ∨ gg = w1.heap.size + 1) :
    SGS w R b sa cap bs rv G (w3.setCell ⟨G, 4, none⟩ (.slice (some ⟨gg, 0, none⟩) (nl.length + 1) cc)) at1 bad1 (some ⟨gg, 0, none⟩) cc (nl ++ [⟨n, va, vc⟩]) := by
  obtain ⟨b0, b1, b2, b3⟩ := h.blk
  have hs1 := hK1.size
  have hA : Kept (fun _ => False) w1 (w1.alloc o) := (Kept.refl _ w1).alloc _
  have hG := Kept.of_grown hgrow
  have hs3 : w1.heap.size + 1 ≤ w3.heap.size := by have := hgrow.size; simpa using this
  have hC := (Kept.refl (fun k => k = G) w3).set (a := ⟨G, 4, none⟩) (fun _ => rfl) (.slice (some ⟨gg, 0, none⟩) (nl.length + 1) cc)
  have hnb : ∀ k, (Value.slice na nl.length nc).ownBlock = some k → G + 1 ≤ k ∧ k < ws.heap.size ∧ na = some ⟨k, 0, none⟩ := fun k hk => ⟨(h.own.nodes.lt k hk).1, (h.own.nodes.lt k hk).2, owns_addr h.own.nodes hk⟩
  have hvab : ∀ k, va = some ⟨k, 0, none⟩ → ws.heap.size ≤ k ∧ k < w1.heap.size := fun k hk => hv1.lt k (by rw [hk]; rfl)
  have hxb : ∀ x, x ∈ nl → ∀ k, x.a = some ⟨k, 0, none⟩ → G + 1 ≤ k ∧ k < ws.heap.size := fun x hx k hk => (h.own.vals x hx).lt k (by rw [hk]; rfl)
  have hggb : G + 1 ≤ gg ∧ (na = some ⟨gg, 0, none⟩ ∨ w1.heap.size < gg) := ⟨(hown.lt gg rfl).1, hat.imp (fun e => (hnb gg e).2.2) (fun e => by omega)⟩
  have hsz := h.kept.size
  exact {
    kept := (((h.kept.trans hK1 (fun _ _ e => e)).trans hA (fun _ _ e => e.elim)).trans hG (fun k hk hp => by have := hnb k hp; omega)).trans hC (fun k hk hp => by omega)
    blk := ⟨b0, b1, b2, by have := hC.size; omega⟩
    res := (((h.res.kept hK1 (by omega)).kept hA (fun e => e)).kept hG (fun hp => by have := hnb _ hp; omega)).kept hC (by omega)
    out := by
      have h1 := ((h.out.kept hK1 (by omega)).kept hA (fun e => e)).kept hG (fun hp => by have := hnb _ hp; omega)
      simpa using h1.set (s' := .slice (some ⟨gg, 0, none⟩) (nl.length + 1) cc)
    rd := ((hR1.kept hA (fun _ _ e => e)).kept hG (fun k hk hp => by have := hnb k hp; omega)).kept hC (fun k hk hp => by omega)
    own := by
      refine ⟨?_, fun x hx => ?_, fun x hx => ?_, fun i j hij hj => ?_⟩
      · have h1 := hC.owns hown (fun k hk hp => by have := (hown.lt k hk).1; omega)
        simpa [nodeCells_snoc] using h1
      · rcases List.mem_append.1 hx with hx | hx
        · have h1 := h.own.vals x hx
          refine hC.owns (hG.owns (hA.owns (hK1.owns h1 (fun k hk hp => ?_)) (fun _ _ e => e)) (fun k hk hp => h.own.apn x hx k (owns_addr h1 hk) (hnb k hp).2.2)) (fun k hk hp => ?_)
          · have := (h1.lt k hk).1; omega
          · have := (h1.lt k hk).1; omega
        · simp at hx
          subst hx
          refine hC.owns (hG.owns (hA.owns (owns_le hv1 (by omega)) (fun _ _ e => e)) (fun k hk hp => ?_)) (fun k hk hp => ?_)
          · have h2 := hvab k (owns_addr hv1 hk); have h3 := hnb k hp; omega
          · have h2 := hvab k (owns_addr hv1 hk); omega
      · intro k hk hx2
        have e := some_addr hx2
        subst e
        rcases List.mem_append.1 hx with hx | hx
        · rcases hggb.2 with e3 | e3
          · exact h.own.apn x hx gg hk e3
          · have := hxb x hx gg hk; omega
        · simp at hx
          subst hx
          have h2 := hvab gg hk
          rcases hggb.2 with e3 | e3
          · have h4 := h.own.nodes.lt gg (by rw [e3]; rfl); omega
          · omega
      · have hj' : j < nl.length + 1 := by simpa using hj
        have hi' : i < nl.length := by omega
        have ei : (nl ++ [(⟨n, va, vc⟩ : NL)])[i]! = nl[i]! := by rw [getElem!_pos _ i (by simp; omega), getElem!_pos nl i hi', List.getElem_append_left hi']
        rw [ei]
        by_cases ej : j < nl.length
        · have ej2 : (nl ++ [(⟨n, va, vc⟩ : NL)])[j]! = nl[j]! := by rw [getElem!_pos _ j hj, getElem!_pos nl j ej, List.getElem_append_left ej]
          rw [ej2]
          exact h.own.apv i j hij ej
        · have ej2 : (nl ++ [(⟨n, va, vc⟩ : NL)])[j]! = ⟨n, va, vc⟩ := by
            have e : j = nl.length := by omega
            subst e
            rw [getElem!_pos (nl ++ [(⟨n, va, vc⟩ : NL)]) nl.length hj]; simp
          rw [ej2]
          intro k hk hx2
          have h2 := hvab k hx2
          have h3 := hxb _ (mem_at hi') k hk
          omega }

/-- what stands at the head of the round -/
structure SVS (w : World) (b : Nat) (sa : Option Addr) (cap : Nat) (bs : List Nat) (tag : Int) (X : Nat) (ws : World) (at_ : Nat) (bad : Bool) (va : Option Addr) (vc : Nat) (vs : List GV) : Prop where
  kept : Kept (fun k => k = b) w ws
  blk : b < w.heap.size ∧ w.heap.size ≤ X ∧ X < ws.heap.size
  x : Two ws X tag (.slice va vs.length vc)
  rd : SR ws b sa cap bs at_ bad
  vals : ws.ownsRow (X + 1) 24 4 (.slice va vs.length vc) vs.length (valCells vs)

theorem SVS.step {w : World} {b : Nat} {sa : Option Addr} {cap : Nat} {bs : List Nat} {tag : Int} {X : Nat} {ws : World} {at_ : Nat} {bad : Bool} {va : Option Addr} {vc : Nat} {vs : List GV} (h : SVS w b sa cap bs tag X ws at_ bad va vc vs) {v : GV} {w1 w3 : World} {at1 : Nat} {bad1 : Bool} {gg cc : Nat} {o : Obj}
    (hR1 : SR w1 b sa cap bs at1 bad1) (hK1 : Kept (fun k => k = b) ws w1)
    (hown : w3.ownsRow (X + 1) 24 4 (.slice (some ⟨gg, 0, none⟩) (vs.length + 1) cc) (vs.length + 1) (valCells vs ++ v.four))
    (hgrow : (w1.alloc o).grownBy w3 (Value.slice va vs.length vc).ownBlock) :
    SVS w b sa cap bs tag X (w3.setCell ⟨X, 1, none⟩ (.slice (some ⟨gg, 0, none⟩) (vs.length + 1) cc)) at1 bad1 (some ⟨gg, 0, none⟩) cc (vs ++ [v]) := by
  obtain ⟨b1, b2, b3⟩ := h.blk
  have hs1 := hK1.size
  have hA : Kept (fun _ => False) w1 (w1.alloc o) := (Kept.refl _ w1).alloc _
  have hG := Kept.of_grown hgrow
  have hs3 : w1.heap.size + 1 ≤ w3.heap.size := by have := hgrow.size; simpa using this
  have hC := (Kept.refl (fun k => k = X) w3).set (a := ⟨X, 1, none⟩) (fun _ => rfl) (.slice (some ⟨gg, 0, none⟩) (vs.length + 1) cc)
  have hvb : ∀ k, (Value.slice va vs.length vc).ownBlock = some k → X + 1 ≤ k ∧ k < ws.heap.size := fun k hk => h.vals.lt k hk
  have hsz := h.kept.size
  exact {
    kept := (((h.kept.trans hK1 (fun _ _ e => e)).trans hA (fun _ _ e => e.elim)).trans hG (fun k hk hp => by have := hvb k hp; omega)).trans hC (fun k hk hp => by omega)
    blk := ⟨b1, b2, by have := hC.size; omega⟩
    x := by
      have h1 := ((h.x.kept hK1 (by omega)).kept hA (fun e => e)).kept hG (fun hp => by have := hvb _ hp; omega)
      simpa using h1.set (s' := .slice (some ⟨gg, 0, none⟩) (vs.length + 1) cc)
    rd := ((hR1.kept hA (fun _ _ e => e)).kept hG (fun k hk hp => by have := hvb k hp; omega)).kept hC (fun k hk hp => by omega)
    vals := by
      have h1 := hC.owns hown (fun k hk hp => by have := (hown.lt k hk).1; omega)
      simpa [valCells_snoc, GV.four] using h1 }


/-- so many values of m have been read -/
def SvInv (m : Nat) (r : List Nat) (j : Nat) (vs : List GV) (q : List Nat) : Prop := sVals m r = (sVals (m - j) q).map fun y => (vs ++ y.1, y.2)
theorem SvInv.start (m : Nat) (r : List Nat) : SvInv m r 0 [] r := by
  unfold SvInv
  rw [Nat.sub_zero]
  cases sVals m r <;> simp
theorem sVals_next {m j : Nat} {q q1 : List Nat} {vs : List GV} {v : GV} (hj : j < m) (hv : sVal q = some (v, q1)) : ((sVals (m - j) q).map fun y => (vs ++ y.1, y.2)) = ((sVals (m - (j + 1)) q1).map fun y => ((vs ++ [v]) ++ y.1, y.2)) := by
  rw [show m - j = (m - (j + 1)) + 1 by omega, sVals, hv]
  simp only [Option.bind_some, Option.map_map]
  congr 1
  funext y
  simp
theorem sVals_none {m j : Nat} {q : List Nat} {vs : List GV} (hj : j < m) (hv : sVal q = none) : ((sVals (m - j) q).map fun y => (vs ++ y.1, y.2)) = none := by
  rw [show m - j = (m - (j + 1)) + 1 by omega, sVals, hv]
  rfl
theorem sNodes_next {m j : Nat} {q q1 : List Nat} {ns : List GN} {n : GN} (hj : j < m) (hv : sNode q = some (n, q1)) : ((sNodes (m - j) q).map fun y => (ns ++ y.1, y.2)) = ((sNodes (m - (j + 1)) q1).map fun y => ((ns ++ [n]) ++ y.1, y.2)) := by
  rw [show m - j = (m - (j + 1)) + 1 by omega, sNodes, hv]
  simp only [Option.bind_some, Option.map_map]
  congr 1
  funext y
  simp
theorem sNodes_none {m j : Nat} {q : List Nat} {ns : List GN} (hj : j < m) (hv : sNode q = none) : ((sNodes (m - j) q).map fun y => (ns ++ y.1, y.2)) = none := by
  rw [show m - j = (m - (j + 1)) + 1 by omega, sNodes, hv]
  rfl

end Go.Proofs.Ythjddpkegooobaa

/-
  SUNP: the specification's Unpack, walked. Own work.
-/
namespace Go.Proofs.Ythjddpkegooobaa
open Go.RowKit

theorem SInv.of_bad {α : Type} {F G G' : Option (α × List Nat)} {bad : Bool} (h : SInv F G bad true) : SInv F G' bad true := ⟨fun _ => rfl, ⟨fun _ hc => (by cases hc), h.2.2⟩⟩
/-- the nodes that are still to come -/
def cont (k : Nat) (rv : GV) (ns : List GN) (x : GN × List Nat) : Option (GG × List Nat) := (sNodes k x.2).map fun y => (⟨rv, (ns ++ [x.1]) ++ y.1⟩, y.2)
def gout (k : Nat) (rv : GV) (ns : List GN) (q : List Nat) : Option (GG × List Nat) := (sNodes k q).map fun y => (⟨rv, ns ++ y.1⟩, y.2)
def gin (k m : Nat) (rv : GV) (ns : List GN) (t : Int) (vs : List GV) (q : List Nat) : Option (GG × List Nat) := ((sVals m q).map fun y => ((⟨t, vs ++ y.1⟩ : GN), y.2)).bind (cont k rv ns)
theorem gout_succ (k : Nat) (rv : GV) (ns : List GN) (q : List Nat) : gout (k + 1) rv ns q = (sNode q).bind (cont k rv ns) := by
  unfold gout cont
  rw [sNodes]
  cases sNode q with
  | none => rfl
  | some x =>
    simp only [Option.bind_some, Option.map_map]
    congr 1
    funext y
    simp
theorem gin_done (k : Nat) (rv : GV) (ns : List GN) (t : Int) (vs : List GV) (q : List Nat) : gin k 0 rv ns t vs q = gout k rv (ns ++ [⟨t, vs⟩]) q := by
  unfold gin gout cont
  simp [sVals]
theorem gin_next {k m : Nat} {rv : GV} {ns : List GN} {t : Int} {vs : List GV} {q q1 : List Nat} {v : GV} (h : sVal q = some (v, q1)) : gin k (m + 1) rv ns t vs q = gin k m rv ns t (vs ++ [v]) q1 := by
  unfold gin
  rw [sVals, h]
  simp only [Option.bind_some, Option.map_map]
  congr 2
  funext y
  simp
theorem gin_none {k m : Nat} {rv : GV} {ns : List GN} {t : Int} {vs : List GV} {q : List Nat} (h : sVal q = none) : gin k (m + 1) rv ns t vs q = none := by
  unfold gin
  rw [sVals, h]
  rfl

theorem Five.root {w : World} {b : Nat} {u : GV} {s : Value} (h : Five w b u s) (v : GV) : Five ((((w.setCell ⟨b, 0, none⟩ (.int .i64 v.kind)).setCell ⟨b, 1, none⟩ (.int .i64 v.num)).setCell ⟨b, 2, none⟩ (.string v.text)).setCell ⟨b, 3, none⟩ (.int .i64 v.node)) b v s := by
  obtain ⟨hl, c0, c1, c2, c3, c4, hf⟩ := h
  refine ⟨by simpa [World.setCell] using hl, ?_, ?_, ?_, ?_, ?_, fun o => ?_⟩
  · rw [World.cell?_setCell_other _ _ _ _ (by simp), World.cell?_setCell_other _ _ _ _ (by simp), World.cell?_setCell_other _ _ _ _ (by simp)]
    exact World.cell?_setCell_same _ _ _ c0
  · rw [World.cell?_setCell_other _ _ _ _ (by simp), World.cell?_setCell_other _ _ _ _ (by simp)]
    exact World.cell?_setCell_same (u := .int .i64 u.num) _ _ _ (by rw [World.cell?_setCell_other _ _ _ _ (by simp)]; exact c1)
  · rw [World.cell?_setCell_other _ _ _ _ (by simp)]
    exact World.cell?_setCell_same (u := .string u.text) _ _ _ (by rw [World.cell?_setCell_other _ _ _ _ (by simp), World.cell?_setCell_other _ _ _ _ (by simp)]; exact c2)
  · exact World.cell?_setCell_same (u := .int .i64 u.node) _ _ _ (by rw [World.cell?_setCell_other _ _ _ _ (by simp), World.cell?_setCell_other _ _ _ _ (by simp), World.cell?_setCell_other _ _ _ _ (by simp)]; exact c3)
  · rw [World.cell?_setCell_other _ _ _ _ (by simp), World.cell?_setCell_other _ _ _ _ (by simp), World.cell?_setCell_other _ _ _ _ (by simp), World.cell?_setCell_other _ _ _ _ (by simp)]; exact c4
  · rw [World.frozen?_setCell, World.frozen?_setCell, World.frozen?_setCell, World.frozen?_setCell]; exact hf o

theorem sr_new (w : World) (sa : Option Addr) (bs : List Nat) (cap : Nat) (ha : BytesAt w sa bs) (hc : bs.length ≤ cap) (hl : bs.length ≤ 4096) (hb : ∀ x, x ∈ bs → x < 256) : SR (w.alloc (.cells #[.slice sa bs.length cap, .int .i64 2, .bool false] 98)) w.heap.size sa cap bs 2 false :=
  ⟨by simp, by simp, by simp, by simp, fun o => by simp, (ha.low).below (gal (gre _) _), hc, hl, hb, by omega⟩

/-- what the specification's Unpack leaves -/
def USPostK (bs : List Nat) (w : World) (e : Ending) (w' : World) : Prop :=
  ∃ na nc, e = .returned (unVal (sUnB bs).1 (sUnB bs).2 na nc) ∧ NodesAt w'.heap.size w' na (sUnB bs).2.nodes ∧ (∀ w2, Kept (fun z => z < w.heap.size) w' w2 → NodesAt w2.heap.size w2 na (sUnB bs).2.nodes) ∧ (∀ g q, sGraph (bs.drop 2) = some (g, q) → bs.length ≤ 4096 → g.Ok) ∧ Below w.heap.size w w'
def USPost (bs : List Nat) (w : World) (e : Ending) (w' : World) : Prop :=
  ∃ na nc, e = .returned (unVal (sUnB bs).1 (sUnB bs).2 na nc) ∧ NodesAt w'.heap.size w' na (sUnB bs).2.nodes ∧ (∀ g q, sGraph (bs.drop 2) = some (g, q) → bs.length ≤ 4096 → g.Ok) ∧ Below w.heap.size w w'

set_option maxHeartbeats 4000000 in
set_option maxRecDepth 100000 in
theorem specUnpack_K (sa : Option Addr) (cap : Nat) (bs : List Nat) (w : World) (ha : BytesAt w sa bs) (hc : bs.length ≤ cap) (hlm : bs.length ≤ maxLen) (hbyte : ∀ x, x ∈ bs → x < 256) :
    Calls Try.prog 20 #[.slice sa bs.length cap] w (USPostK bs w) := by
  unfold maxLen at hlm
  have hS0 := Six.new w false ⟨0, 0, ⟨#[]⟩, 0⟩ (.slice none 0 0) 33
  by_cases hlen : 4096 < bs.length
  · have hd : (4096 : Int) < (bs.length : Int) := by omega
    have hun : sUnB bs = (false, zeroG) := if_pos hlen
    go_enter Try.func20, Try.ntmps20
    go_wp2
    refine bodyPost_ret (v := unVal false zeroG none 0) (by simp [results, Try.results20, go_sem, zeroG]) rfl ?_
    exact ⟨none, 0, by rw [hun], by rw [hun]; exact fun i hi => absurd hi (Nat.not_lt_zero _), (fun _ _ => by rw [hun]; exact fun i hi => absurd hi (Nat.not_lt_zero _)), fun g q _ h => absurd h (by omega), gal (gre _) _⟩
  · have hd : ¬ ((4096 : Int) < (bs.length : Int)) := by omega
    have hR0 := sr_new (w.alloc (.cells #[.bool false, .int .i64 0, .int .i64 0, .string ⟨#[]⟩, .int .i64 0, .slice none 0 0] 33)) sa bs cap (ha.grow (gal (gre _) _)) hc (by omega) hbyte
    simp only [World.size_alloc] at hR0
    obtain ⟨j0, hj, hy0, hy1, hy2⟩ := info_parts info_implNode
    obtain ⟨i0, hi, hz0, hz1, hz2⟩ := info_parts info_implVal
    go_enter Try.func20, Try.ntmps20
    go_wp2_with (first
      | (go_at_call 70; refine (sSmall_any (w.heap.size + 1) sa cap bs 2 false _ hR0).mono ?_; rintro e w1 ⟨hK1, n, at1, bad1, rfl, hn, hR1, _, hrel1⟩)
      | (go_at_call 71; refine (sVal_any (w.heap.size + 1) sa cap bs at1 bad1 _ (hR1.grow (gal (gre _) _))).mono ?_; rintro e w2 ⟨hK2, rv, at2, bad2, rfl, hrv, hR2, _, hrel2⟩; obtain ⟨fz, f0, f1, f2, f3, f4, ff⟩ := (Five.new_at w1 ⟨0, 0, ⟨#[]⟩, 0⟩ (.slice none 0 0) 27 w1.heap.size rfl).kept hK2 (by have := hK1.size; simp only [World.size_alloc] at this; omega)))
    have hs1 : w.heap.size + 2 ≤ w1.heap.size := by have := hK1.size; simp only [World.size_alloc] at this; omega
    obtain ⟨wB, hBB, hwBs, hSB, hKB⟩ : ∃ wB, Below w.heap.size w wB ∧ wB.heap.size = w.heap.size + 2 ∧ Six wB w.heap.size false ⟨0, 0, ⟨#[]⟩, 0⟩ (.slice none 0 0) ∧ Kept (fun k => k = w.heap.size + 1) wB w1 := ⟨_, gal (gal (gre _) _) _, by simp, hS0.kept ((Kept.refl (fun _ => False) _).alloc _) (fun e => e), hK1⟩
    have hsz2 : w1.heap.size + 1 ≤ w2.heap.size := by have := hK2.size; simp only [World.size_alloc] at this; omega
    have hCG : Kept (fun k => k = w1.heap.size) w2 ((((w2.setCell ⟨w1.heap.size, 0, none⟩ (.int .i64 rv.kind)).setCell ⟨w1.heap.size, 1, none⟩ (.int .i64 rv.num)).setCell ⟨w1.heap.size, 2, none⟩ (.string rv.text)).setCell ⟨w1.heap.size, 3, none⟩ (.int .i64 rv.node)) := ((((Kept.refl (fun k => k = w1.heap.size) w2).set (fun _ => rfl) _).set (fun _ => rfl) _).set (fun _ => rfl) _).set (fun _ => rfl) _
    have hD0 : SGS wB w.heap.size (w.heap.size + 1) sa cap bs rv w1.heap.size ((((w2.setCell ⟨w1.heap.size, 0, none⟩ (.int .i64 rv.kind)).setCell ⟨w1.heap.size, 1, none⟩ (.int .i64 rv.num)).setCell ⟨w1.heap.size, 2, none⟩ (.string rv.text)).setCell ⟨w1.heap.size, 3, none⟩ (.int .i64 rv.node)) at2 bad2 none 0 [] :=
      ⟨(kk (hKB.alloc _) hK2).trans hCG (fun k hk e => by omega), ⟨by omega, by omega, by omega, by have := hCG.size; omega⟩, ((hSB.kept (hKB.alloc _) (by omega)).kept hK2 (by omega)).kept hCG (by omega),
        ((Five.new_at w1 ⟨0, 0, ⟨#[]⟩, 0⟩ (.slice none 0 0) 27 w1.heap.size rfl).kept hK2 (by omega)).root rv, hR2.kept hCG (fun k hk e => by omega), own_nil _ _⟩
    obtain ⟨F, hF⟩ := hid_ex (sGraph (bs.drop 2))
    have hI0 : Hid (SInv F (gout n rv [] (bs.drop at2)) false bad2) := by
      show SInv F _ false bad2
      rw [hF.out]
      exact ((SInv.start (sGraph (bs.drop 2)) false).comp (G' := (sVal (bs.drop at1)).bind fun x => (sNodes n x.2).map fun y => (⟨x.1, y.1⟩, y.2)) hrel1.out (fun h => by unfold sGraph; rw [h]; rfl) (fun h => by unfold sGraph; rw [h]; rfl)).comp (G' := gout n rv [] (bs.drop at2)) hrel2.out (fun h => by rw [h]; rfl) (fun h => by rw [h]; rfl)
    generalize (((w2.setCell ⟨w1.heap.size, 0, none⟩ (.int .i64 rv.kind)).setCell ⟨w1.heap.size, 1, none⟩ (.int .i64 rv.num)).setCell ⟨w1.heap.size, 2, none⟩ (.string rv.text)).setCell ⟨w1.heap.size, 3, none⟩ (.int .i64 rv.node) = w3 at hD0 ⊢
    generalize w1.heap.size = G at hD0 ⊢
    clear hK1 hK2 hKB hSB hCG hR0 hR1 hR2 hrel1 hrel2 fz f0 f1 f2 f3 f4 ff hs1 hsz2 hS0
    go_loopw [6] (fun i ws => ∃ (j at1 : Nat) (bad1 : Bool) (na : Option Addr) (nc : Nat) (nl : List NL), i = .int .i64 j ∧ j ≤ n ∧ Hid (nl.length = j) ∧ Hid (SInv F (gout (n - j) rv (nl.map (·.n)) (bs.drop at1)) false bad1) ∧ (∀ x, x ∈ nl → x.n.Ok) ∧ SGS wB w.heap.size (w.heap.size + 1) sa cap bs rv G ws at1 bad1 na nc nl) (fun i _ => n - (intOf i).toNat)
    case atStart => exact ⟨0, at2, bad2, none, 0, [], rfl, Nat.zero_le _, rfl, hI0, fun x hx => (by cases hx), hD0⟩
    case round =>
      obtain ⟨j, at1, bad1, na, nc, nl, rfl, hjn, hnl, hinv, hok, hD⟩ := hrel
      obtain ⟨k0, k1, k2, k3⟩ := hD.blk
      obtain ⟨z1, z2, z3, z4, z5, _⟩ := id hD.rd
      obtain ⟨sz, s0, s1, s2, s3, s4, s5, sf⟩ := id hD.res
      have hBr : Below w.heap.size w wr := hBB.trans (hD.kept.below hBB.size (fun k hk e => by omega))
      by_cases hjl : j < n
      · have hd1 : (j : Int) < (n : Int) := by omega
        cases bad1 with
        | true =>
          have hFn : F = none := hinv.out.2.2 rfl rfl
          have hun : sUnB bs = (false, zeroG) := by unfold sUnB; rw [if_neg hlen, ← hF.out, hFn]
          have hokp : ∀ g' q, sGraph (bs.drop 2) = some (g', q) → bs.length ≤ 4096 → g'.Ok := fun g' q h _ => by rw [← hF.out, hFn] at h; cases h
          go_wp2
          have hC : Kept (fun k => k = w.heap.size) wr ((((((wr.setCell ⟨w.heap.size, 0, none⟩ (.bool false)).setCell ⟨w.heap.size, 1, none⟩ (.int .i64 0)).setCell ⟨w.heap.size, 2, none⟩ (.int .i64 0)).setCell ⟨w.heap.size, 3, none⟩ (.string ⟨#[]⟩)).setCell ⟨w.heap.size, 4, none⟩ (.int .i64 0)).setCell ⟨w.heap.size, 5, none⟩ (.slice none 0 0)) := ((((((Kept.refl (fun k => k = w.heap.size) wr).set (fun _ => rfl) _).set (fun _ => rfl) _).set (fun _ => rfl) _).set (fun _ => rfl) _).set (fun _ => rfl) _).set (fun _ => rfl) _
          refine bodyPost_ret (v := unVal false zeroG none 0) (by simp [results, Try.results20, go_sem, s0, s1, s2, s3, s4, s5, zeroG]) rfl ?_
          exact ⟨none, 0, by rw [hun], by rw [hun]; exact fun i hi => absurd hi (Nat.not_lt_zero _), (fun _ _ => by rw [hun]; exact fun i hi => absurd hi (Nat.not_lt_zero _)), hokp, (hBr).trans (hC.below (hBr).size (fun k hk e => by omega))⟩
        | false =>
          have hgs : Hid (gout (n - j) rv (nl.map (·.n)) (bs.drop at1) = (sNode (bs.drop at1)).bind (cont (n - (j + 1)) rv (nl.map (·.n)))) := by show _ = _; rw [show n - j = (n - (j + 1)) + 1 by omega, gout_succ]
          go_wp2_with (first
            | (go_at_call 70; refine (sSmall_any (w.heap.size + 1) sa cap bs at4 bad4 _ (hR4.grow (gal (gre _) _))).mono ?_; rintro e w5 ⟨hK5, m, at5, bad5, rfl, hm, hR5, _, hrel5⟩)
            | (go_at_call 70; refine (sSmall_any (w.heap.size + 1) sa cap bs at1 false _ hD.rd).mono ?_; rintro e w4 ⟨hK4, t, at4, bad4, rfl, ht, hR4, _, hrel4⟩))
          have hs4 := hK4.size
          have hs5 : w4.heap.size + 1 ≤ w5.heap.size := by have := hK5.size; simp only [World.size_alloc] at this; omega
          have hV0 : SVS wr (w.heap.size + 1) sa cap bs (t : Int) w4.heap.size w5 at5 bad5 none 0 [] :=
            ⟨kk (hK4.alloc _) hK5, ⟨by omega, by omega, by omega⟩, (Two.new_at w4 t (.slice none 0 0) 84 w4.heap.size rfl).kept hK5 (by omega), hR5, World.ownsRow_nil _ _ _ _⟩
          have hI5 : Hid (SInv F (gin (n - (j + 1)) m rv (nl.map (·.n)) (t : Int) [] (bs.drop at5)) false bad5) := by
            show SInv F _ false bad5
            refine (hinv.out.comp (G' := ((sSmall (bs.drop at4)).bind fun m => (sVals m.1 m.2).map fun y => ((⟨(t : Int), y.1⟩ : GN), y.2)).bind (cont (n - (j + 1)) rv (nl.map (·.n)))) hrel4.out (fun h => ?_) (fun h => ?_)).comp hrel5.out (fun h => ?_) (fun h => ?_)
            · rw [hgs.out]; unfold sNode; rw [h]; rfl
            · rw [hgs.out]; unfold sNode; rw [h]; rfl
            · rw [h]; rfl
            · rw [h]; rfl
          generalize w4.heap.size = X at hV0 ⊢
          clear hK4 hK5 hR4 hR5 hrel4 hrel5 hs4 hs5
          go_loopw [8] (fun c ws => ∃ (k at6 : Nat) (bad6 : Bool) (va : Option Addr) (vc : Nat) (vs : List GV), c = .int .i64 k ∧ k ≤ m ∧ Hid (vs.length = m - k) ∧ Hid (SInv F (gin (n - (j + 1)) k rv (nl.map (·.n)) (t : Int) vs (bs.drop at6)) false bad6) ∧ (∀ v, v ∈ vs → v.Ok) ∧ SVS wr (w.heap.size + 1) sa cap bs (t : Int) X ws at6 bad6 va vc vs) (fun c _ => (intOf c).toNat)
          case atStart => exact ⟨m, at5, bad5, none, 0, [], rfl, Nat.le_refl _, by show 0 = _; omega, hI5, fun v hv => (by cases hv), hV0⟩
          case round =>
            obtain ⟨k, at6, bad6, va, vc, vs, rfl, hkm, hvl, hinv6, hvok, hV⟩ := hrel
            obtain ⟨q1, q2, q3⟩ := hV.blk
            obtain ⟨y1, y2, y3, y4, y5, _⟩ := id hV.rd
            obtain ⟨tz, t0, t1, tf, _⟩ := id hV.x
            have hO6 := hD.out.kept hV.kept (by omega)
            obtain ⟨oz, o0, o1, o2, o3, o4, of_⟩ := id hO6
            have hn6 : Hid _ := hV.kept.owns hD.own.nodes (fun k hk hp => by have := (hD.own.nodes.lt k hk).1; omega)
            by_cases hk0 : 0 < k
            · have hd2 : (0 : Int) < (k : Int) := by omega
              cases bad6 with
              | true =>
                have hI6 : Hid (SInv F (gout (n - (j + 1)) rv (nl.map (·.n) ++ [⟨(t : Int), vs⟩]) (bs.drop at6)) false true) := hinv6.out.of_bad
                go_wp2_with (at_builtin; refine wpList_append_lies _ rfl (.tmp 60) (.tmp 62) 25 rfl (G + 1) 84 j0 _ 2 32 Try.underlying25 hj hy0 hy1 hy2 rfl (by decide) _ _ _ rfl (World.ownsRow.alloc hn6.out _) ⟨wr.heap.size, 0, none⟩ 1 1 [.int .i64 (t : Int), .slice va vs.length vc] rfl rfl (World.news_of_block (cs := #[.int .i64 (t : Int), .slice va vs.length vc]) (t := 84) (fr := (0, 0)) (blk_new_at _ _ _ rfl)) (by simp [Value.oneCell']) (by decide) (by have h7 := hnl.out; unfold maxLen; omega) (by have h7 := hnl.out; omega) (by simp; omega) (wr.heap.size + 1) (by simp) ?_; intro gg cc w8 hown8 hgrow8 hat8 hlt8; obtain ⟨ez, e0, e1, e2, e3, e4, ef⟩ := (hO6.kept ((Kept.refl (fun _ => False) _).alloc (.cells #[.int .i64 (t : Int), .slice va vs.length vc] 84)) (fun e => e)).kept (Kept.of_grown hgrow8) (fun hp => by have := (hD.own.nodes.lt _ hp).1; omega))
                have hfin := hD.step (n := ⟨(t : Int), vs⟩) hV.rd hV.kept (owns_le hV.vals (Nat.le_succ_of_le q2)) hown8 hgrow8 hat8
                have hI8 : Hid (SInv F (gout (n - (j + 1)) rv ((nl ++ [(⟨⟨(t : Int), vs⟩, va, vc⟩ : NL)]).map (·.n)) (bs.drop at6)) false true) := by show SInv F _ false _; rw [List.map_append]; exact hI6.out
                go_roundw
                case rel =>
                  refine ⟨j + 1, at6, true, some ⟨gg, 0, none⟩, cc, nl ++ [⟨⟨(t : Int), vs⟩, va, vc⟩], by go_num, by omega, by have h7 := hnl.out; show (nl ++ [(⟨⟨(t : Int), vs⟩, va, vc⟩ : NL)]).length = j + 1; simp [h7], hI8, fun x hx => ?_, hfin⟩
                  rcases List.mem_append.1 hx with hx | hx
                  · exact hok x hx
                  · simp at hx
                    subst hx
                    exact ⟨small_i64 (by show 0 ≤ (t : Int) ∧ (t : Int) ≤ 1000000; omega), by show vs.length ≤ maxLen; have h7 := hvl.out; unfold maxLen; omega, hvok⟩
                case measure => simp [intOf]; omega
              | false =>
                go_wp2_with (first
                  | (go_at_call 71; refine (sVal_any (w.heap.size + 1) sa cap bs at6 false _ hV.rd).mono ?_; rintro e w7 ⟨hK7, v, at7, bad7, rfl, hv, hR7, _, hrel7⟩; have hX7 := hV.x.kept hK7 (by omega); obtain ⟨uz, u0, u1, uf, _⟩ := id hX7; have hs7 := hK7.size; have hv7 : Hid _ := hK7.owns hV.vals (fun k hk hp => by have := (hV.vals.lt k hk).1; omega))
                  | (at_builtin; refine wpList_append_lies _ rfl (.tmp 54) (.tmp 56) 82 rfl (X + 1) 24 i0 _ 4 40 Try.underlying82 hi hz0 hz1 hz2 rfl (by decide) _ _ _ rfl (World.ownsRow.alloc (World.ownsRow.alloc hv7.out _) _) ⟨w7.heap.size + 1, 0, none⟩ 1 1 v.four rfl rfl (World.news_of_block (cs := #[.int .i64 v.kind, .int .i64 v.num, .string v.text, .int .i64 v.node]) (t := 24) (fr := (0, 0)) (blk_new_at _ _ _ (by simp))) (by simp [GV.four, Value.oneCell']) (by decide) (by have h7 := hvl.out; unfold maxLen; omega) (by have h7 := hvl.out; omega) (by simp; omega) (w7.heap.size + 2) (by simp) ?_; intro gg cc w8 hown8 hgrow8 hat8 hlt8; obtain ⟨ez, e0, e1, ef, _⟩ := (hX7.kept (((Kept.refl (fun _ => False) w7).alloc (.cells #[.int .i64 v.kind, .int .i64 v.num, .string v.text, .int .i64 v.node] 24)).alloc (.cells #[.int .i64 v.kind, .int .i64 v.num, .string v.text, .int .i64 v.node] 24)) (fun e => e)).kept (Kept.of_grown hgrow8) (fun hp => by have := (hV.vals.lt _ hp).1; omega)))
                have hfin := hV.step (v := v) (hR7.grow (gal (gre _) _)) (hK7.alloc _) hown8 hgrow8
                have hI7 : Hid (SInv F (gin (n - (j + 1)) (k - 1) rv (nl.map (·.n)) (t : Int) (vs ++ [v]) (bs.drop at7)) false bad7) := by
                  show SInv F _ false bad7
                  refine hinv6.out.comp hrel7.out (fun h => ?_) (fun h => ?_)
                  · rw [show k = (k - 1) + 1 by omega, gin_next h, Nat.add_sub_cancel]
                  · rw [show k = (k - 1) + 1 by omega, gin_none h]
                go_roundw
                case rel =>
                  refine ⟨k - 1, at7, bad7, some ⟨gg, 0, none⟩, cc, vs ++ [v], by go_num, by omega, by have h7 := hvl.out; show (vs ++ [v]).length = m - (k - 1); simp [h7]; omega, hI7, fun x hx => ?_, hfin⟩
                  rcases List.mem_append.1 hx with hx | hx
                  · exact hvok x hx
                  · simp at hx
                    subst hx
                    exact hv
                case measure => simp [intOf]; omega
            · have hd2 : ¬ ((0 : Int) < (k : Int)) := by omega
              obtain rfl : k = 0 := by omega
              have hI6 : Hid (SInv F (gout (n - (j + 1)) rv (nl.map (·.n) ++ [⟨(t : Int), vs⟩]) (bs.drop at6)) false bad6) := by have := hinv6.out; rw [gin_done] at this; exact this
              go_wp2_with (at_builtin; refine wpList_append_lies _ rfl (.tmp 60) (.tmp 62) 25 rfl (G + 1) 84 j0 _ 2 32 Try.underlying25 hj hy0 hy1 hy2 rfl (by decide) _ _ _ rfl (World.ownsRow.alloc hn6.out _) ⟨wr.heap.size, 0, none⟩ 1 1 [.int .i64 (t : Int), .slice va vs.length vc] rfl rfl (World.news_of_block (cs := #[.int .i64 (t : Int), .slice va vs.length vc]) (t := 84) (fr := (0, 0)) (blk_new_at _ _ _ rfl)) (by simp [Value.oneCell']) (by decide) (by have h7 := hnl.out; unfold maxLen; omega) (by have h7 := hnl.out; omega) (by simp; omega) (wr.heap.size + 1) (by simp) ?_; intro gg cc w8 hown8 hgrow8 hat8 hlt8; obtain ⟨ez, e0, e1, e2, e3, e4, ef⟩ := (hO6.kept ((Kept.refl (fun _ => False) _).alloc (.cells #[.int .i64 (t : Int), .slice va vs.length vc] 84)) (fun e => e)).kept (Kept.of_grown hgrow8) (fun hp => by have := (hD.own.nodes.lt _ hp).1; omega))
              have hfin := hD.step (n := ⟨(t : Int), vs⟩) hV.rd hV.kept (owns_le hV.vals (Nat.le_succ_of_le q2)) hown8 hgrow8 hat8
              have hI8 : Hid (SInv F (gout (n - (j + 1)) rv ((nl ++ [(⟨⟨(t : Int), vs⟩, va, vc⟩ : NL)]).map (·.n)) (bs.drop at6)) false bad6) := by show SInv F _ false _; rw [List.map_append]; exact hI6.out
              go_roundw
              case rel =>
                refine ⟨j + 1, at6, bad6, some ⟨gg, 0, none⟩, cc, nl ++ [⟨⟨(t : Int), vs⟩, va, vc⟩], by go_num, by omega, by have h7 := hnl.out; show (nl ++ [(⟨⟨(t : Int), vs⟩, va, vc⟩ : NL)]).length = j + 1; simp [h7], hI8, fun x hx => ?_, hfin⟩
                rcases List.mem_append.1 hx with hx | hx
                · exact hok x hx
                · simp at hx
                  subst hx
                  exact ⟨small_i64 (by show 0 ≤ (t : Int) ∧ (t : Int) ≤ 1000000; omega), by show vs.length ≤ maxLen; have h7 := hvl.out; unfold maxLen; omega, hvok⟩
              case measure => simp [intOf]; omega
      · have hd1 : ¬ ((j : Int) < (n : Int)) := by omega
        obtain rfl : j = n := by omega
        cases bad1 with
        | true =>
          have hFn : F = none := hinv.out.2.2 rfl rfl
          have hun : sUnB bs = (false, zeroG) := by unfold sUnB; rw [if_neg hlen, ← hF.out, hFn]
          have hokp : ∀ g' q, sGraph (bs.drop 2) = some (g', q) → bs.length ≤ 4096 → g'.Ok := fun g' q h _ => by rw [← hF.out, hFn] at h; cases h
          go_wp2
          have hC : Kept (fun k => k = w.heap.size) wr ((((((wr.setCell ⟨w.heap.size, 0, none⟩ (.bool false)).setCell ⟨w.heap.size, 1, none⟩ (.int .i64 0)).setCell ⟨w.heap.size, 2, none⟩ (.int .i64 0)).setCell ⟨w.heap.size, 3, none⟩ (.string ⟨#[]⟩)).setCell ⟨w.heap.size, 4, none⟩ (.int .i64 0)).setCell ⟨w.heap.size, 5, none⟩ (.slice none 0 0)) := ((((((Kept.refl (fun k => k = w.heap.size) wr).set (fun _ => rfl) _).set (fun _ => rfl) _).set (fun _ => rfl) _).set (fun _ => rfl) _).set (fun _ => rfl) _).set (fun _ => rfl) _
          refine bodyPost_ret (v := unVal false zeroG none 0) (by simp [results, Try.results20, go_sem, s0, s1, s2, s3, s4, s5, zeroG]) rfl ?_
          exact ⟨none, 0, by rw [hun], by rw [hun]; exact fun i hi => absurd hi (Nat.not_lt_zero _), (fun _ _ => by rw [hun]; exact fun i hi => absurd hi (Nat.not_lt_zero _)), hokp, (hBr).trans (hC.below (hBr).size (fun k hk e => by omega))⟩
        | false =>
          obtain ⟨g, hg⟩ := hid_ex (⟨rv, nl.map (·.n)⟩ : GG)
          have hFs : F = some (g, bs.drop at1) := by
            have h1 := hinv.out.2.1 rfl rfl
            rw [Nat.sub_self] at h1
            rw [h1, hg.out]
            simp [gout, sNodes]
          have hgok : g.Ok := by
            rw [hg.out]
            refine ⟨hrv, ?_, fun x hx => ?_⟩
            · show (nl.map (·.n)).length ≤ maxLen
              rw [List.length_map, hnl.out]; unfold maxLen; omega
            · obtain ⟨y, hy, rfl⟩ := List.mem_map.1 hx
              exact hok y hy
          have hokp : ∀ g' q, sGraph (bs.drop 2) = some (g', q) → bs.length ≤ 4096 → g'.Ok := fun g' q h _ => by
            rw [← hF.out, hFs] at h
            cases h
            exact hgok
          have hNg : NodesAt wr.heap.size wr na g.nodes := by rw [hg.out]; exact hD.own.at_
          have er : rv = g.root := by rw [hg.out]
          have el : nl.length = g.nodes.length := by rw [hg.out]; simp
          have hX0 : GBox wr G g na nc := by
            obtain ⟨xz, x0, x1, x2, x3, x4, xf⟩ := id hD.out
            rw [er] at x0 x1 x2 x3
            rw [el] at x4
            exact ⟨xz, x0, x1, x2, x3, x4⟩
          clear er el hinv
          obtain ⟨xz, x0, x1, x2, x3, x4⟩ := id hX0
          cases hgk : okG g with
          | false =>
            have hgk' : Hid _ := hgk
            have hun : sUnB bs = (false, zeroG) := by unfold sUnB; rw [if_neg hlen, ← hF.out, hFs]; exact if_neg (fun h => by rw [hgk] at h; cases h.1)
            go_wp2_with (go_at_call 42; refine (specGraphOk_any na nc g _ hgok hNg).mono ?_; rintro e w9 ⟨rfl, hb9⟩; rw [hgk'.out]; obtain ⟨pz, p0, p1, p2, p3, p4, p5, pf⟩ := hD.res.kept (Kept.of_below hb9 (fun _ => False)) (fun e => e))
            have hC : Kept (fun k => k = w.heap.size) w9 ((((((w9.setCell ⟨w.heap.size, 0, none⟩ (.bool false)).setCell ⟨w.heap.size, 1, none⟩ (.int .i64 0)).setCell ⟨w.heap.size, 2, none⟩ (.int .i64 0)).setCell ⟨w.heap.size, 3, none⟩ (.string ⟨#[]⟩)).setCell ⟨w.heap.size, 4, none⟩ (.int .i64 0)).setCell ⟨w.heap.size, 5, none⟩ (.slice none 0 0)) := ((((((Kept.refl (fun k => k = w.heap.size) w9).set (fun _ => rfl) _).set (fun _ => rfl) _).set (fun _ => rfl) _).set (fun _ => rfl) _).set (fun _ => rfl) _).set (fun _ => rfl) _
            refine bodyPost_ret (v := unVal false zeroG none 0) (by simp [results, Try.results20, go_sem, p0, p1, p2, p3, p4, p5, zeroG]) rfl ?_
            exact ⟨none, 0, by rw [hun], by rw [hun]; exact fun i hi => absurd hi (Nat.not_lt_zero _), (fun _ _ => by rw [hun]; exact fun i hi => absurd hi (Nat.not_lt_zero _)), hokp, (gca hBr hb9).trans (hC.below (gca hBr hb9).size (fun k hk e => by omega))⟩
          | true =>
            have hgk' : Hid _ := hgk
            obtain ⟨im, him⟩ := hid_ex (imageB g)
            have himl : im.length ≤ maxLen := by
              rw [him.out]
              have h1 := graphB_len (canon_ok hgok hgk) (canon_okG hgk)
              unfold imageB formB maxLen
              rw [List.length_append, lowB_length]
              omega
            have hlm' : bs.length ≤ maxLen := by unfold maxLen; omega
            have hlr : ∀ {w9 w10 : World}, Below wr.heap.size wr w9 → Below w9.heap.size w9 w10 → BytesAt w10 sa bs := fun h1 h2 => ha.grow (gca (gca hBr h1) h2)
            by_cases heq : im = bs
            · have hun : sUnB bs = (true, g) := by unfold sUnB; rw [if_neg hlen, ← hF.out, hFs]; exact if_pos ⟨hgk, by rw [← him.out]; exact heq⟩
              have heq' : Hid (decide (im = bs) = true) := decide_eq_true heq
              clear heq
              go_wp2_with (first
                | (go_at_call 42; refine (specGraphOk_any na nc g _ hgok hNg).mono ?_; rintro e w9 ⟨rfl, hb9⟩; rw [hgk'.out]; obtain ⟨yz, y0, y1, y2, y3, y4⟩ := hX0.grow hb9)
                | (go_at_call 72; refine (l2pack_any na nc g _ hgok hgk'.out (hNg.grow hb9)).mono ?_; rintro e w10 ⟨oa10, cap10, rfl, hO10, hb10⟩; rw [← him.out] at hO10 ⊢)
                | (go_at_call 73; refine (l2equal_any oa10 sa im bs cap10 cap _ himl hlm' (owns_bytesO hO10) (hlr hb9 hb10)).mono ?_; rintro e w11 ⟨rfl, hb11⟩; rw [heq'.out]; obtain ⟨vz, v0, v1, v2, v3, v4⟩ := hX0.grow (gca (gca hb9 hb10) hb11); obtain ⟨pz, p0, p1, p2, p3, p4, p5, pf⟩ := hD.res.kept (Kept.of_below (gca (gca hb9 hb10) hb11) (fun _ => False)) (fun e => e)))
              have hC : Kept (fun k => k = w.heap.size) w11 ((((((w11.setCell ⟨w.heap.size, 0, none⟩ (.bool true)).setCell ⟨w.heap.size, 1, none⟩ (.int .i64 g.root.kind)).setCell ⟨w.heap.size, 2, none⟩ (.int .i64 g.root.num)).setCell ⟨w.heap.size, 3, none⟩ (.string g.root.text)).setCell ⟨w.heap.size, 4, none⟩ (.int .i64 g.root.node)).setCell ⟨w.heap.size, 5, none⟩ (.slice na g.nodes.length nc)) := ((((((Kept.refl (fun k => k = w.heap.size) w11).set (fun _ => rfl) _).set (fun _ => rfl) _).set (fun _ => rfl) _).set (fun _ => rfl) _).set (fun _ => rfl) _).set (fun _ => rfl) _
              refine bodyPost_ret (v := unVal true g na nc) (by simp [results, Try.results20, go_sem, p0, p1, p2, p3, p4, p5]) rfl ?_
              have hB11 := gca (gca (gca hBr hb9) hb10) hb11
              have hN11 := ((hNg.grow hb9).grow hb10).grow hb11
              have hOw := (hD.own.kept (Kept.of_below (gca (gca hb9 hb10) hb11) (fun _ => False)) (fun _ _ e => e) (fun _ _ _ _ e => e)).kept hC (fun k hk hp => by have := hD.own.nodes.lt k (by rw [hk]; rfl); omega) (fun x hx k hk hp => by have := (hD.own.vals x hx).lt k (by rw [hk]; rfl); omega)
              have hO11 := hOw.at_
              have egn : nl.map (·.n) = g.nodes := by rw [hg.out]
              rw [egn] at hO11
              exact ⟨na, nc, by rw [hun], by rw [hun]; exact hO11, (fun w2 hK2 => by rw [hun]; have h := (hOw.kept hK2 (fun k hk hp => by have := hD.own.nodes.lt k (by rw [hk]; rfl); omega) (fun x hx k hk hp => by have := (hD.own.vals x hx).lt k (by rw [hk]; rfl); omega)).at_; rw [egn] at h; exact h), hokp, hB11.trans (hC.below hB11.size (fun k hk e => by omega))⟩
            · have hun : sUnB bs = (false, zeroG) := by unfold sUnB; rw [if_neg hlen, ← hF.out, hFs]; exact if_neg (fun h => heq (by rw [him.out]; exact h.2))
              have heq' : Hid (decide (im = bs) = false) := decide_eq_false heq
              clear heq
              go_wp2_with (first
                | (go_at_call 42; refine (specGraphOk_any na nc g _ hgok hNg).mono ?_; rintro e w9 ⟨rfl, hb9⟩; rw [hgk'.out]; obtain ⟨yz, y0, y1, y2, y3, y4⟩ := hX0.grow hb9)
                | (go_at_call 72; refine (l2pack_any na nc g _ hgok hgk'.out (hNg.grow hb9)).mono ?_; rintro e w10 ⟨oa10, cap10, rfl, hO10, hb10⟩; rw [← him.out] at hO10 ⊢)
                | (go_at_call 73; refine (l2equal_any oa10 sa im bs cap10 cap _ himl hlm' (owns_bytesO hO10) (hlr hb9 hb10)).mono ?_; rintro e w11 ⟨rfl, hb11⟩; rw [heq'.out]; obtain ⟨vz, v0, v1, v2, v3, v4⟩ := hX0.grow (gca (gca hb9 hb10) hb11); obtain ⟨pz, p0, p1, p2, p3, p4, p5, pf⟩ := hD.res.kept (Kept.of_below (gca (gca hb9 hb10) hb11) (fun _ => False)) (fun e => e)))
              have hC : Kept (fun k => k = w.heap.size) w11 ((((((w11.setCell ⟨w.heap.size, 0, none⟩ (.bool false)).setCell ⟨w.heap.size, 1, none⟩ (.int .i64 0)).setCell ⟨w.heap.size, 2, none⟩ (.int .i64 0)).setCell ⟨w.heap.size, 3, none⟩ (.string ⟨#[]⟩)).setCell ⟨w.heap.size, 4, none⟩ (.int .i64 0)).setCell ⟨w.heap.size, 5, none⟩ (.slice none 0 0)) := ((((((Kept.refl (fun k => k = w.heap.size) w11).set (fun _ => rfl) _).set (fun _ => rfl) _).set (fun _ => rfl) _).set (fun _ => rfl) _).set (fun _ => rfl) _).set (fun _ => rfl) _
              refine bodyPost_ret (v := unVal false zeroG none 0) (by simp [results, Try.results20, go_sem, p0, p1, p2, p3, p4, p5, zeroG]) rfl ?_
              exact ⟨none, 0, by rw [hun], by rw [hun]; exact fun i hi => absurd hi (Nat.not_lt_zero _), (fun _ _ => by rw [hun]; exact fun i hi => absurd hi (Nat.not_lt_zero _)), hokp, (gca (gca (gca hBr hb9) hb10) hb11).trans (hC.below (gca (gca (gca hBr hb9) hb10) hb11).size (fun k hk e => by omega))⟩

theorem specUnpack_any (sa : Option Addr) (cap : Nat) (bs : List Nat) (w : World) (ha : BytesAt w sa bs) (hc : bs.length ≤ cap) (hlm : bs.length ≤ maxLen) (hbyte : ∀ x, x ∈ bs → x < 256) :
    Calls Try.prog 20 #[.slice sa bs.length cap] w (USPost bs w) :=
  (specUnpack_K sa cap bs w ha hc hlm hbyte).mono fun _ _ ⟨na, nc, he, hN, _, hg, hb⟩ => ⟨na, nc, he, hN, hg, hb⟩

end Go.Proofs.Ythjddpkegooobaa
