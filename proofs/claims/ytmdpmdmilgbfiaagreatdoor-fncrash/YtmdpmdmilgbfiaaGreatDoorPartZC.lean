import Derived.Test.YtmdpmdmilgbfiaaGreatDoorPartO
import Derived.Test.YtmdpmdmilgbfiaaGreatDoorPartU
import Derived.Test.YtmdpmdmilgbfiaaGreatDoorPartZB

namespace Go.Proofs.YtmdpmdmilgbfiaaGreatDoor
open Go.RowKit

set_option maxRecDepth 100000 in
theorem unCatch_panicking (older : List PanicEntry) (w : World) :
    CallsD Tryz.prog 130 #[] (.panicking (haltP :: older)) w fun e u' w' =>
      e = .returned (.tuple #[]) ∧ u' = .panicking ({ v := .iface 141 (.agg #[]), recovered := true } :: older) ∧ w' = w := by
  refine callsD_of_wpS Tryz.func130 rfl fun c₀ cs hu => ?_
  apply wpS_region
  simp [wpOpsS, go_sem, recoverD, hu, Tryz.ntmps130]
  refine (passOn_halt w).mono ?_
  rintro e w' ⟨rfl, rfl⟩
  simp [bodyPostS, results, Tryz.results130]

set_option maxRecDepth 100000 in
theorem unCatch_idle (w : World) :
    CallsD Tryz.prog 130 #[] .returning w fun e u' w' => e = .returned (.tuple #[]) ∧ u' = .returning ∧ w' = w := by
  refine callsD_of_wpS Tryz.func130 rfl fun c₀ cs hu => ?_
  apply wpS_region
  simp [wpOpsS, go_sem, recoverD, hu, Tryz.ntmps130]
  refine (passOn_nil w).mono ?_
  rintro e w' ⟨rfl, rfl⟩
  cases c₀
  simp_all [bodyPostS, results, Tryz.results130]

abbrev unVal (ok : Bool) (g : GG) (na : Option Addr) (nc : Nat) : Value :=
  .agg #[.bool ok, .int .i64 g.root.kind, .int .i64 g.root.num, .string g.root.text, .int .i64 g.root.node, .slice na g.nodes.length nc]

def UIPost (bs : List Nat) (w : World) (e : Ending) (w' : World) : Prop :=
  ∃ na nc nl, e = .returned (unVal (unB bs).1 (unB bs).2 na nc) ∧ nl.map (·.n) = (unB bs).2.nodes ∧ OwnG w' w.heap.size na nc nl ∧ Below w.heap.size w w'

theorem own_nil (w : World) (base : Nat) : OwnG w base none 0 [] :=
  ⟨World.ownsRow_nil _ _ _ _, fun x hx => (by cases hx), fun x hx => (by cases hx), fun i j _ hj => absurd hj (Nat.not_lt_zero _)⟩
theorem packB_bytes (g : GG) : ∀ x, x ∈ packB g → x < 256 := by
  unfold packB
  split
  · rename_i h; exact formB_bytes (canon_okG h.1)
  · intro x hx; cases hx
theorem rd_new (w : World) (sa : Option Addr) (bs : List Nat) (cap : Nat) (ha : BytesAt w sa bs) (hc : bs.length ≤ cap) (hl : bs.length ≤ 1099511627776) (hb : ∀ x, x ∈ bs → x < 256) : Rd (w.alloc (.cells #[.slice sa bs.length cap, .int .i64 0] 175)) w.heap.size sa cap bs bs :=
  ⟨⟨0, ⟨by simp, by simp, by simp, fun o => by simp⟩, Nat.zero_le _, rfl⟩, (ha.low).below (gal (gre _) _), hc, hl, hb⟩

theorem MB.bytes {w : World} {lo : Nat} {oa : Option Addr} {ys : List Nat} (h : MB w lo oa ys) : BytesAt w oa ys := by
  rcases h with rfl | ⟨G, n, rfl, _, hB⟩
  · exact fun i hi => absurd hi (Nat.not_lt_zero _)
  · exact brow_bytes hB

structure Six (w : World) (b : Nat) (ok : Bool) (v : GV) (s : Value) : Prop where
  lt : b < w.heap.size
  c0 : w.cell? ⟨b, 0, none⟩ = some (.bool ok)
  c1 : w.cell? ⟨b, 1, none⟩ = some (.int .i64 v.kind)
  c2 : w.cell? ⟨b, 2, none⟩ = some (.int .i64 v.num)
  c3 : w.cell? ⟨b, 3, none⟩ = some (.string v.text)
  c4 : w.cell? ⟨b, 4, none⟩ = some (.int .i64 v.node)
  c5 : w.cell? ⟨b, 5, none⟩ = some s
  f : ∀ o, w.frozen? ⟨b, o, none⟩ = false
theorem Six.same {w w' : World} {b : Nat} {ok : Bool} {v : GV} {s : Value} (h : Six w b ok v s) (e : w'.heap[b]? = w.heap[b]?) (hlt : b < w'.heap.size) : Six w' b ok v s :=
  ⟨hlt, (World.cell?_of_block (w := w) e).trans h.c0, (World.cell?_of_block (w := w) e).trans h.c1, (World.cell?_of_block (w := w) e).trans h.c2, (World.cell?_of_block (w := w) e).trans h.c3, (World.cell?_of_block (w := w) e).trans h.c4, (World.cell?_of_block (w := w) e).trans h.c5, fun o => (World.frozen?_of_block (w := w) e).trans (h.f o)⟩
theorem Six.kept {p : Nat → Prop} {w w' : World} {b : Nat} {ok : Bool} {v : GV} {s : Value} (h : Six w b ok v s) (k : Kept p w w') (hn : ¬ p b) : Six w' b ok v s := h.same (k.block b h.lt hn) (Nat.lt_of_lt_of_le h.lt k.size)
theorem Six.new (w : World) (ok : Bool) (v : GV) (s : Value) (t : TypeId) : Six (w.alloc (.cells #[.bool ok, .int .i64 v.kind, .int .i64 v.num, .string v.text, .int .i64 v.node, s] t)) w.heap.size ok v s :=
  ⟨by simp, by simp, by simp, by simp, by simp, by simp, by simp, fun o => by simp⟩

theorem GRPost.no {b : Nat} {sa : Option Addr} {cap : Nat} {bs r : List Nat} {w w' : World} {e : Ending} (h : GRPost b sa cap bs r w e w') (hn : rdGraph r = none) : e = .panicked [haltP] ∧ Kept (fun k => k = b) w w' := by
  obtain ⟨hK, ⟨g, q, na, nc, nl, hx, _⟩ | ⟨_, e1⟩⟩ := h
  · have := hx.out; rw [hn] at this; cases this
  · exact ⟨e1, hK⟩
theorem GRPost.ok {b : Nat} {sa : Option Addr} {cap : Nat} {bs r : List Nat} {w w' : World} {e : Ending} {g : GG} {q : List Nat} (h : GRPost b sa cap bs r w e w') (hn : rdGraph r = some (g, q)) : ∃ na nc nl, e = .returned (g.val na nc) ∧ nl.map (·.n) = g.nodes ∧ OwnG w' w.heap.size na nc nl ∧ Kept (fun k => k = b) w w' := by
  obtain ⟨hK, ⟨g', q', na, nc, nl, hx, e1, h1, h2, _⟩ | ⟨hx, _⟩⟩ := h
  · have e2 := hx.out
    rw [hn] at e2
    have e3 : g = g' := by cases e2; rfl
    subst e3
    exact ⟨na, nc, nl, e1, h1, h2, hK⟩
  · have := hx.out; rw [hn] at this; cases this

set_option maxHeartbeats 1000000 in
set_option maxRecDepth 100000 in
theorem implUnpack_any (sa : Option Addr) (cap : Nat) (bs : List Nat) (w : World) (ha : BytesAt w sa bs) (hc : bs.length ≤ cap) (hl : bs.length ≤ 1099511627776) (hbyte : ∀ x, x ∈ bs → x < 256) :
    Calls Tryz.prog 92 #[.slice sa bs.length cap] w (UIPost bs w) := by
  have hS0 := Six.new w false ⟨0, 0, ⟨#[]⟩, 0⟩ (.slice none 0 0) 118
  have hR0 := rd_new (w.alloc (.cells #[.bool false, .int .i64 0, .int .i64 0, .string ⟨#[]⟩, .int .i64 0, .slice none 0 0] 118)) sa bs cap (ha.grow (gal (gre _) _)) hc hl hbyte
  simp only [World.size_alloc] at hR0
  cases hg : rdGraph bs with
  | none =>
    have hg' : Hid _ := hg
    have hun : unB bs = (false, zeroG) := by unfold unB; rw [hg]
    go_enter_defers Tryz.func92, Tryz.ntmps92
    go_wp2_with (go_at_call 131; refine (readGraph_any (w.heap.size + 1) sa cap bs bs _ hR0).mono ?_; intro e w1 h1; obtain ⟨rfl, hK1⟩ := h1.no hg'.out)
    obtain ⟨sz, s0, s1, s2, s3, s4, s5, sf⟩ := (hS0.kept ((Kept.refl (fun _ => False) _).alloc (.cells #[.slice sa bs.length cap, .int .i64 0] 175)) (fun e => e)).kept hK1 (by omega)
    refine leaves_cons (f := 130) (args := #[]) (by simp) (by simp [go_sem]) ?_
    refine (unCatch_panicking [] _).mono ?_
    rintro e u' w'' ⟨rfl, rfl, rfl⟩
    refine ⟨unVal false zeroG none 0, by simp [results, Tryz.results92, go_sem, s0, s1, s2, s3, s4, s5, zeroG], ?_⟩
    exact ⟨none, 0, [], by rw [hun], by rw [hun]; rfl, own_nil _ _, (gal (gal (gre w) _) _).trans (hK1.below (by simp; omega) (fun k hk e => by omega))⟩
  | some y =>
    obtain ⟨g, q⟩ := y
    have hg' : Hid _ := hg
    have hgok := rdGraph_ok hg
    obtain ⟨p, hp⟩ := hid_ex (packB g)
    have hpb : ∀ x, x ∈ p → x < 256 := by rw [hp.out]; exact packB_bytes g
    by_cases heq : p = bs
    · have hun : unB bs = (true, g) := by unfold unB; rw [hg]; exact if_pos (by rw [← hp.out]; exact heq)
      have heq' : Hid (decide (p = bs) = true) := decide_eq_true heq
      clear heq
      go_enter_defers Tryz.func92, Tryz.ntmps92
      go_wp2_with (first
        | (go_at_call 131; refine (readGraph_any (w.heap.size + 1) sa cap bs bs _ hR0).mono ?_; intro e w1 h1; obtain ⟨na, nc, nl, rfl, hnl, hO1, hK1⟩ := h1.ok hg'.out; clear h1; simp only [World.size_alloc] at hO1; have hS1 := (hS0.kept ((Kept.refl (fun _ => False) _).alloc (.cells #[.slice sa bs.length cap, .int .i64 0] 175)) (fun e => e)).kept hK1 (by omega); have hB1 : Below w.heap.size w w1 := (gal (gal (gre w) _) _).trans (hK1.below (by simp; omega) (fun k hk e => by omega)); have hX1 := GBox.new w1 g na nc 32; have hN1 := hO1.at_; rw [hnl] at hN1)
        | (go_at_call 14; refine (implPack_any na nc g _ hgok (hN1.grow (gal (gre _) _))).mono ?_; rintro e w2 ⟨oa2, cap2, rfl, hM2, hb2⟩; rw [← hp.out] at hM2 ⊢; have hX2 := hX1.grow hb2; have hS2 := (hS1.kept ((Kept.refl (fun _ => False) _).alloc (.cells #[.int .i64 g.root.kind, .int .i64 g.root.num, .string g.root.text, .int .i64 g.root.node, .slice na g.nodes.length nc] 32)) (fun e => e)).kept (Kept.of_below hb2 (fun _ => False)) (fun e => e); have hB2 := gca (gal hB1 _) hb2; have hM2' := hM2.bytes)
        | (go_at_call 107; refine (bytesEqual_any oa2 sa p bs cap2 cap _ hpb hbyte hM2' (ha.grow hB2)).mono ?_; rintro e w3 ⟨rfl, hb3⟩; rw [heq'.out]; obtain ⟨xz, x0, x1, x2, x3, x4⟩ := hX2.grow hb3; have hS3 := hS2.kept (Kept.of_below hb3 (fun _ => False)) (fun e => e); obtain ⟨sz, s0, s1, s2, s3, s4, s5, sf⟩ := id hS3))
      have hC : Kept (fun k => k = w.heap.size) w3 ((((((w3.setCell ⟨w.heap.size, 0, none⟩ (.bool true)).setCell ⟨w.heap.size, 1, none⟩ (.int .i64 g.root.kind)).setCell ⟨w.heap.size, 2, none⟩ (.int .i64 g.root.num)).setCell ⟨w.heap.size, 3, none⟩ (.string g.root.text)).setCell ⟨w.heap.size, 4, none⟩ (.int .i64 g.root.node)).setCell ⟨w.heap.size, 5, none⟩ (.slice na g.nodes.length nc)) := ((((((Kept.refl (fun k => k = w.heap.size) w3).set (fun _ => rfl) _).set (fun _ => rfl) _).set (fun _ => rfl) _).set (fun _ => rfl) _).set (fun _ => rfl) _).set (fun _ => rfl) _
      have hB3 := gca hB2 hb3
      have hO3 := ((hO1.kept (Kept.of_below (gca (gal (gre w1) (.cells #[.int .i64 g.root.kind, .int .i64 g.root.num, .string g.root.text, .int .i64 g.root.node, .slice na g.nodes.length nc] 32)) (gca hb2 hb3)) (fun _ => False)) (fun _ _ e => e) (fun _ _ _ _ e => e)).kept hC (fun k hk hp => by have := hO1.nodes.lt k (by rw [hk]; rfl); omega) (fun x hx k hk hp => by have := (hO1.vals x hx).lt k (by rw [hk]; rfl); omega)).le (show w.heap.size ≤ w.heap.size + 1 + 1 by omega)
      refine leaves_cons (f := 130) (args := #[]) (by simp) (by simp [go_sem]) ?_
      refine (unCatch_idle _).mono ?_
      rintro e u' w'' ⟨rfl, rfl, rfl⟩
      refine ⟨unVal true g na nc, by simp [results, Tryz.results92, go_sem, s0, s1, s2, s3, s4, s5], ?_⟩
      exact ⟨na, nc, nl, by rw [hun], by rw [hun]; exact hnl, hO3, hB3.trans (hC.below hB3.size (fun k hk e => by omega))⟩
    · have hun : unB bs = (false, zeroG) := by unfold unB; rw [hg]; exact if_neg (by rw [← hp.out]; exact heq)
      have heq' : Hid (decide (p = bs) = false) := decide_eq_false heq
      clear heq
      go_enter_defers Tryz.func92, Tryz.ntmps92
      go_wp2_with (first
        | (go_at_call 131; refine (readGraph_any (w.heap.size + 1) sa cap bs bs _ hR0).mono ?_; intro e w1 h1; obtain ⟨na, nc, nl, rfl, hnl, hO1, hK1⟩ := h1.ok hg'.out; clear h1; simp only [World.size_alloc] at hO1; have hS1 := (hS0.kept ((Kept.refl (fun _ => False) _).alloc (.cells #[.slice sa bs.length cap, .int .i64 0] 175)) (fun e => e)).kept hK1 (by omega); have hB1 : Below w.heap.size w w1 := (gal (gal (gre w) _) _).trans (hK1.below (by simp; omega) (fun k hk e => by omega)); have hX1 := GBox.new w1 g na nc 32; have hN1 := hO1.at_; rw [hnl] at hN1)
        | (go_at_call 14; refine (implPack_any na nc g _ hgok (hN1.grow (gal (gre _) _))).mono ?_; rintro e w2 ⟨oa2, cap2, rfl, hM2, hb2⟩; rw [← hp.out] at hM2 ⊢; have hX2 := hX1.grow hb2; have hS2 := (hS1.kept ((Kept.refl (fun _ => False) _).alloc (.cells #[.int .i64 g.root.kind, .int .i64 g.root.num, .string g.root.text, .int .i64 g.root.node, .slice na g.nodes.length nc] 32)) (fun e => e)).kept (Kept.of_below hb2 (fun _ => False)) (fun e => e); have hB2 := gca (gal hB1 _) hb2; have hM2' := hM2.bytes)
        | (go_at_call 107; refine (bytesEqual_any oa2 sa p bs cap2 cap _ hpb hbyte hM2' (ha.grow hB2)).mono ?_; rintro e w3 ⟨rfl, hb3⟩; rw [heq'.out]; obtain ⟨xz, x0, x1, x2, x3, x4⟩ := hX2.grow hb3; have hS3 := hS2.kept (Kept.of_below hb3 (fun _ => False)) (fun e => e); obtain ⟨sz, s0, s1, s2, s3, s4, s5, sf⟩ := id hS3))
      have hC : Kept (fun k => k = w.heap.size) w3 ((((((w3.setCell ⟨w.heap.size, 0, none⟩ (.bool false)).setCell ⟨w.heap.size, 1, none⟩ (.int .i64 0)).setCell ⟨w.heap.size, 2, none⟩ (.int .i64 0)).setCell ⟨w.heap.size, 3, none⟩ (.string ⟨#[]⟩)).setCell ⟨w.heap.size, 4, none⟩ (.int .i64 0)).setCell ⟨w.heap.size, 5, none⟩ (.slice none 0 0)) := ((((((Kept.refl (fun k => k = w.heap.size) w3).set (fun _ => rfl) _).set (fun _ => rfl) _).set (fun _ => rfl) _).set (fun _ => rfl) _).set (fun _ => rfl) _).set (fun _ => rfl) _
      have hB3 := gca hB2 hb3
      refine leaves_cons (f := 130) (args := #[]) (by simp) (by simp [go_sem]) ?_
      refine (unCatch_idle _).mono ?_
      rintro e u' w'' ⟨rfl, rfl, rfl⟩
      refine ⟨unVal false zeroG none 0, by simp [results, Tryz.results92, go_sem, s0, s1, s2, s3, s4, s5, zeroG], ?_⟩
      exact ⟨none, 0, [], by rw [hun], by rw [hun]; rfl, own_nil _ _, hB3.trans (hC.below hB3.size (fun k hk e => by omega))⟩

end Go.Proofs.YtmdpmdmilgbfiaaGreatDoor

namespace Go.Proofs.YtmdpmdmilgbfiaaGreatDoor
open Go.RowKit

set_option maxRecDepth 100000 in
theorem sNum_any (b : Nat) (sa : Option Addr) (cap : Nat) (bs : List Nat) (at_ : Nat) (bad : Bool) (w : World) (hR : SR w b sa cap bs at_ bad) :
    Calls Tryz.prog 135 #[.pointer (some ⟨b, 0, none⟩)] w (SPost (sNum 10 0 0 (bs.drop at_)) (fun x => .int .u64 (x : Int)) (fun x => x < 18446744073709551616) b sa cap bs at_ bad w) := by
  go_enter Tryz.func135, Tryz.ntmps135
  go_wp2
  go_loopw [3, 4] (fun a c ws => ∃ (n i at1 : Nat) (bad1 : Bool), a = .int .u64 n ∧ c = .int .i64 i ∧ n < 18446744073709551616 ∧ i ≤ 10 ∧ Hid (SInv (sNum 10 0 0 (bs.drop at_)) (sNum (10 - i) n i (bs.drop at1)) bad bad1) ∧ SR ws b sa cap bs at1 bad1 ∧ (at1 ≤ bs.length ∨ at1 = at_) ∧ Kept (fun k => k = b) w ws) (fun _ c _ => 10 - (intOf c).toNat)
  case atStart => exact ⟨0, 0, at_, bad, rfl, rfl, by omega, by omega, ⟨fun h => h, fun _ _ => rfl, fun h h' => by rw [h] at h'; cases h'⟩, hR, Or.inr rfl, Kept.refl _ _⟩
  case round =>
    obtain ⟨n, i, at1, bad1, rfl, rfl, hn, hi, hinv, hR1, hat1, hK⟩ := hrel
    by_cases hlt : i < 10
    · have hd : (i : Int) < 10 := by omega
      go_wp2_with (go_at_call 136; refine (sByte_any b sa cap bs at1 bad1 _ hR1).mono ?_; rintro e w1 ⟨hK1, x, at2, bad2, rfl, hx, hR2, hat2, hrel⟩)
      · rename_i hl
        go_ret
        refine ⟨kk hK hK1, orU n (x % 128) (7 * i), at2, bad2, ret_int (by rw [and127 hx]; exact sOr_form hn (by omega) (by omega)), orU_lt hn, hR2, by omega, ?_⟩
        refine (hinv.out.comp (G' := some (orU n (x % 128) (7 * i), bs.drop at2)) hrel.out (fun h => ?_) (fun h => ?_)).rel rfl
        · rw [byte_cons h, show 10 - i = (9 - i) + 1 by omega, sNum, if_pos (by omega)]
        · rw [byte_nil h, show 10 - i = (9 - i) + 1 by omega, sNum]
      · rename_i hl
        refine ⟨⟨orU n (x % 128) (7 * i), i + 1, at2, bad2, congrArg (Value.int .u64) (by rw [and127 hx]; exact sOr_form hn (by omega) (by omega)), by go_num, orU_lt hn, by omega, ?_, hR2, by omega, kk hK hK1⟩, by simp [intOf]; omega⟩
        refine hinv.out.comp hrel.out (fun h => ?_) (fun h => ?_)
        · rw [byte_cons h, show 10 - i = (10 - (i + 1)) + 1 by omega, sNum, if_neg (by omega)]
        · rw [byte_nil h, show 10 - i = (9 - i) + 1 by omega, sNum]
    · obtain rfl : i = 10 := by omega
      obtain ⟨z1, z2, z3, z4, z5, _⟩ := id hR1
      go_wp2
      go_ret
      exact ⟨hK.set (fun _ => rfl) _, 0, at1, true, rfl, by omega, hR1.setBad, hat1, hinv.out.bad rfl⟩

set_option maxRecDepth 100000 in
theorem sSmall_any (b : Nat) (sa : Option Addr) (cap : Nat) (bs : List Nat) (at_ : Nat) (bad : Bool) (w : World) (hR : SR w b sa cap bs at_ bad) :
    Calls Tryz.prog 102 #[.pointer (some ⟨b, 0, none⟩)] w (SPost (sSmall (bs.drop at_)) (fun x => .int .i64 (x : Int)) (fun x => x ≤ 5000) b sa cap bs at_ bad w) := by
  go_enter Tryz.func102, Tryz.ntmps102
  go_wp2_with (go_at_call 135; refine (sNum_any b sa cap bs at_ bad _ hR).mono ?_; rintro e w1 ⟨hK1, x, at2, bad2, rfl, hx, hR2, hat2, hrel⟩; obtain ⟨z1, z2, z3, z4, z5, _⟩ := id hR2)
  · rename_i hl
    go_ret
    refine ⟨hK1.set (fun _ => rfl) _, 0, at2, true, rfl, by omega, hR2.setBad, hat2, ?_⟩
    refine ((SInv.start (sSmall (bs.drop at_)) bad).comp (G' := none) hrel.out (fun h => ?_) (fun h => ?_)).bad rfl
    · unfold sSmall; rw [h]; exact if_neg (by omega)
    · unfold sSmall; rw [h]
  · rename_i hl
    go_ret
    refine ⟨hK1, x, at2, bad2, by first | rfl | exact ret_int (by omega), by omega, hR2, hat2, ?_⟩
    refine ((SInv.start (sSmall (bs.drop at_)) bad).comp (G' := some (x, bs.drop at2)) hrel.out (fun h => ?_) (fun h => ?_)).rel rfl
    · unfold sSmall; rw [h]; exact if_pos (by omega)
    · unfold sSmall; rw [h]

end Go.Proofs.YtmdpmdmilgbfiaaGreatDoor
