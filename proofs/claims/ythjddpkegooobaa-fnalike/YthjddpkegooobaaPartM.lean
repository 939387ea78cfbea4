import Derived.Test.YthjddpkegooobaaPartL

/-
  L6N: a graph, its nodes in another order. Own work.
-/
namespace Go.Proofs.Ythjddpkegooobaa
open Go.RowKit

/-- a graph turned -/
def TurnD (g : GG) (w : World) (b : Nat) (sa : Option Addr) (bs : List Nat) (cap at_ : Nat) (e : Ending) (w' : World) : Prop :=
  ∃ (h : GG) (na : Option Addr) (nc : Nat) (at' : Nat), e = .returned (h.val na nc) ∧ h.Ok ∧ okG h = true ∧ canon h = canon g ∧ NodesAt w'.heap.size w' na h.nodes ∧ (h.nodes = [] ∨ ∃ nl : List NL, nl.map (·.n) = h.nodes ∧ OwnG w' w.heap.size na nc nl) ∧ at' ≤ at_ + 4 ∧ DK w w' b sa bs cap at'

theorem Five.setNode {w : World} {b : Nat} {u : GV} {s : Value} (h : Five w b u s) (z : Int) : Five (w.setCell ⟨b, 3, none⟩ (.int .i64 z)) b ⟨u.kind, u.num, u.text, z⟩ s := by
  obtain ⟨hl, c0, c1, c2, c3, c4, hf⟩ := h
  refine ⟨by simpa [World.setCell] using hl, ?_, ?_, ?_, ?_, ?_, fun o => ?_⟩
  · rw [World.cell?_setCell_other _ _ _ _ (by simp)]; exact c0
  · rw [World.cell?_setCell_other _ _ _ _ (by simp)]; exact c1
  · rw [World.cell?_setCell_other _ _ _ _ (by simp)]; exact c2
  · exact World.cell?_setCell_same _ _ _ c3
  · rw [World.cell?_setCell_other _ _ _ _ (by simp)]; exact c4
  · rw [World.frozen?_setCell]; exact hf o
theorem GBox.keptK {p : Nat → Prop} {w w' : World} {b : Nat} {g : GG} {a : Option Addr} {cap : Nat} (h : GBox w b g a cap) (k : Kept p w w') (hn : ¬ p b) : GBox w' b g a cap :=
  ⟨Nat.lt_of_lt_of_le h.lt k.size, k.cell h.kind hn, k.cell h.num hn, k.cell h.text hn, k.cell h.node hn, k.cell h.sl hn⟩

/-- a node's values as they come to stand -/
structure TV (w : World) (tag : Int) (X : Nat) (ws : World) (va : Option Addr) (vc : Nat) (vs : List GV) : Prop where
  kept : Kept (fun _ => False) w ws
  blk : w.heap.size ≤ X ∧ X < ws.heap.size
  x : Two ws X tag (.slice va vs.length vc)
  vals : ws.ownsRow (X + 1) 24 4 (.slice va vs.length vc) vs.length (valCells vs)

theorem TV.step {w : World} {tag : Int} {X : Nat} {ws : World} {va : Option Addr} {vc : Nat} {vs : List GV} (h : TV w tag X ws va vc vs) {v : GV} {w1 w3 : World} {gg cc : Nat} {o : Obj}
    (hK1 : Kept (fun _ => False) ws w1)
    (hown : w3.ownsRow (X + 1) 24 4 (.slice (some ⟨gg, 0, none⟩) (vs.length + 1) cc) (vs.length + 1) (valCells vs ++ v.four))
    (hgrow : (w1.alloc o).grownBy w3 (Value.slice va vs.length vc).ownBlock) :
    TV w tag X (w3.setCell ⟨X, 1, none⟩ (.slice (some ⟨gg, 0, none⟩) (vs.length + 1) cc)) (some ⟨gg, 0, none⟩) cc (vs ++ [v]) := by
  obtain ⟨b2, b3⟩ := h.blk
  have hs1 := hK1.size
  have hA : Kept (fun _ => False) w1 (w1.alloc o) := (Kept.refl _ w1).alloc _
  have hG := Kept.of_grown hgrow
  have hs3 : w1.heap.size + 1 ≤ w3.heap.size := by have := hgrow.size; simpa using this
  have hC := (Kept.refl (fun k => k = X) w3).set (a := ⟨X, 1, none⟩) (fun _ => rfl) (.slice (some ⟨gg, 0, none⟩) (vs.length + 1) cc)
  have hvb : ∀ k, (Value.slice va vs.length vc).ownBlock = some k → X + 1 ≤ k ∧ k < ws.heap.size := fun k hk => h.vals.lt k hk
  have hsz := h.kept.size
  exact {
    kept := (((h.kept.trans hK1 (fun _ _ e => e)).trans hA (fun _ _ e => e.elim)).trans hG (fun k hk hp => by have := hvb k hp; omega)).trans hC (fun k hk hp => by omega)
    blk := ⟨b2, by have := hC.size; omega⟩
    x := by
      have h1 := ((h.x.kept hK1 (fun e => e)).kept hA (fun e => e)).kept hG (fun hp => by have := hvb _ hp; omega)
      simpa using h1.set (s' := .slice (some ⟨gg, 0, none⟩) (vs.length + 1) cc)
    vals := by
      have h1 := hC.owns hown (fun k hk hp => by have := (hown.lt k hk).1; omega)
      simpa [valCells_snoc, GV.four] using h1 }

theorem nodeCells_len : ∀ nl : List NL, (nodeCells nl).length = nl.length * 2
  | [] => rfl
  | y :: r => by
    have ih := nodeCells_len r
    show (y.two ++ nodeCells r).length = _
    rw [List.length_append, ih]
    simp [NL.two]
    omega

theorem TV.drew {w : World} {tag : Int} {X : Nat} {ws : World} {va : Option Addr} {vc : Nat} {vs : List GV} (h : TV w tag X ws va vc vs) : TV w tag X ws.drew va vc vs :=
  ⟨h.kept.drew, h.blk, h.x.kept ((Kept.refl (fun _ => False) ws).drew) (fun e => e), ((Kept.refl (fun _ => False) ws).drew).owns h.vals (fun _ _ e => e)⟩

/-- what stands at the head of the round -/
structure TI (wd : World) (base N M s n : Nat) (g : GG) (j : Nat) (ws : World) (nl : List NL) : Prop where
  kept : Kept (fun k => k = N) wd ws
  len : nl.length = M
  own : OwnG ws base (some ⟨N, 0, none⟩) M nl
  done : ∀ i, i < j → nl[turnF s n i]!.n = mapN (turnF s n) g.nodes[i]!
  all : ∀ x, x ∈ nl → x.n = ⟨0, []⟩ ∨ ∃ i, i < j ∧ x.n = mapN (turnF s n) g.nodes[i]!

theorem TI.step {wd : World} {base N M s n : Nat} {g : GG} {j : Nat} {ws : World} {nl : List NL} (h : TI wd base N M s n g j ws nl) (hs : Nat.gcd s n = 1) (hj : j < n) (hnM : n ≤ M) (hb : base ≤ ws.heap.size) {w1 : World} {Y : Nat} {va : Option Addr} {vc : Nat} {vs : List GV} {tag : Int}
    (hV : TV ws tag Y w1 va vc vs) (hx : (⟨tag, vs⟩ : GN) = mapN (turnF s n) g.nodes[j]!) {t : Nat} (ht : t = turnF s n j) :
    TI wd base N M s n g (j + 1) ((w1.setCell ⟨N, t * 2, none⟩ (.int .i64 tag)).setCell ⟨N, t * 2 + 1, none⟩ (.slice va vs.length vc)) (nl.set t ⟨⟨tag, vs⟩, va, vc⟩) := by
  subst ht
  have htn : turnF s n j < n := turnF_lt (by omega)
  have htl : turnF s n j < nl.length := by rw [h.len]; omega
  have hva : ∀ k, va = some ⟨k, 0, none⟩ → ws.heap.size ≤ k := fun k hk => by have h1 := hV.vals.lt k (by rw [hk]; rfl); have := hV.blk; omega
  have hNb : N < ws.heap.size := (h.own.nodes.lt N rfl).2
  have hyb : ∀ y, y ∈ nl → ∀ k, y.a = some ⟨k, 0, none⟩ → k < ws.heap.size := fun y hy k hk => ((h.own.vals y hy).lt k (by rw [hk]; rfl)).2
  have hO1 := h.own.kept hV.kept (fun _ _ e => e) (fun _ _ _ _ e => e)
  have hK : Kept (fun k => k = N) w1 ((w1.setCell ⟨N, turnF s n j * 2, none⟩ (.int .i64 tag)).setCell ⟨N, turnF s n j * 2 + 1, none⟩ (.slice va vs.length vc)) := ((Kept.refl (fun k => k = N) w1).set (a := ⟨N, turnF s n j * 2, none⟩) (fun _ => rfl) _).set (a := ⟨N, turnF s n j * 2 + 1, none⟩) (fun _ => rfl) _
  refine ⟨(h.kept.trans hV.kept (fun _ _ e => e.elim)).trans hK (fun _ _ e => e), by rw [List.length_set]; exact h.len, ?_, fun i hi => ?_, fun x hx2 => ?_⟩
  · exact hO1.put htl (x := ⟨⟨tag, vs⟩, va, vc⟩) (owns_le hV.vals (by have := hV.blk; omega)) (fun k hk e => by have h1 := hva k hk; have h2 := some_addr e; omega)
      (fun y hy => ⟨fun k hk e => by have h1 := hva k hk; have h2 := hyb y hy k e; omega, fun k hk e => by have h1 := hva k e; have h2 := hyb y hy k hk; omega⟩)
  · have hil : turnF s n i < nl.length := by have : turnF s n i < n := turnF_lt (by omega); rw [h.len]; omega
    rw [set_at hil]
    by_cases e : turnF s n j = turnF s n i
    · have : j = i := step_inj hs hj (by omega) e
      subst this
      rw [if_pos rfl]
      exact hx
    · rw [if_neg e]
      have : i ≠ j := fun e2 => e (by rw [e2])
      exact h.done i (by omega)
  · rcases List.mem_or_eq_of_mem_set hx2 with h1 | rfl
    · rcases h.all x h1 with h2 | ⟨i, hi, h2⟩
      · exact Or.inl h2
      · exact Or.inr ⟨i, by omega, h2⟩
    · exact Or.inr ⟨j, by omega, hx⟩

set_option maxHeartbeats 8000000 in
set_option maxRecDepth 100000 in
theorem l6turned_any (b : Nat) (sa : Option Addr) (bs : List Nat) (cap at_ : Nat) (a : Option Addr) (gc : Nat) (g : GG) (w : World) (hc : DC w b sa bs cap at_) (hat : at_ + 20000 < 4611686018427387904) (hg : g.Ok) (hok : okG g = true) (ha : ∀ w', Kept (fun k => k = b) w w' → NodesAt w'.heap.size w' a g.nodes) :
    Calls Try.prog 74 #[.pointer (some ⟨b, 0, none⟩), g.val a gc] w (TurnD g w b sa bs cap at_) := by
  obtain ⟨h300, hroot, hnodes⟩ := okG_parts hok
  have hok2 : Hid (okG g = true) := hok
  clear hok
  have hs0 := hc.lt
  have hX0 := GBox.new w g a gc 27
  have hF0 := Five.new_at (w.alloc (.cells #[.int .i64 g.root.kind, .int .i64 g.root.num, .string g.root.text, .int .i64 g.root.node, .slice a g.nodes.length gc] 27)) ⟨0, 0, ⟨#[]⟩, 0⟩ (.slice none 0 0) 27 (w.heap.size + 1) (by simp)
  have hX1 := hX0.grow (gal (gre _) (.cells #[.int .i64 0, .int .i64 0, .string ⟨#[]⟩, .int .i64 0, .slice none 0 0] 27))
  have hK1 : Kept (fun _ => False) w ((w.alloc (.cells #[.int .i64 g.root.kind, .int .i64 g.root.num, .string g.root.text, .int .i64 g.root.node, .slice a g.nodes.length gc] 27)).alloc (.cells #[.int .i64 0, .int .i64 0, .string ⟨#[]⟩, .int .i64 0, .slice none 0 0] 27)) := ((Kept.refl _ w).alloc _).alloc _
  have hs1 : ((w.alloc (.cells #[.int .i64 g.root.kind, .int .i64 g.root.num, .string g.root.text, .int .i64 g.root.node, .slice a g.nodes.length gc] 27)).alloc (.cells #[.int .i64 0, .int .i64 0, .string ⟨#[]⟩, .int .i64 0, .slice none 0 0] 27)).heap.size = w.heap.size + 1 + 1 := by simp
  go_enter Try.func74, Try.ntmps74
  go_upto_region 1 with fail
  generalize (w.alloc (.cells #[.int .i64 g.root.kind, .int .i64 g.root.num, .string g.root.text, .int .i64 g.root.node, .slice a g.nodes.length gc] 27)).alloc (.cells #[.int .i64 0, .int .i64 0, .string ⟨#[]⟩, .int .i64 0, .slice none 0 0] 27) = w1 at hX1 hF0 hK1 hs1 ⊢
  clear hX0
  obtain ⟨xz, x0, x1, x2, x3, x4⟩ := id hX1
  have hD1 := hc.kept hK1 (fun e => e) (fun _ _ _ e => e)
  go_upto_if 22 with (go_at_call_of 52 ((3 : Int)); refine (l6pick_of b sa bs cap at_ 3 3 w1 rfl hD1 (by omega) (by omega) (by omega)).mono ?_; rintro e w2 ⟨m0, at2, hm0, ha2, rfl, hk2⟩)
  have hX2 := hX1.keptK hk2.kept (by omega)
  have hF2 := hF0.kept hk2.kept (by omega)
  have hK2 : Kept (fun k => k = b) w w2 := (hK1.mono (fun _ _ e => e.elim)).trans hk2.kept (fun _ _ e => e)
  have hs2 := hk2.kept.size
  obtain ⟨n, hn⟩ := hid_ex g.nodes.length
  have hn300 : n ≤ 300 := by rw [hn.out]; exact h300
  rw [← hn.out]
  go_cut [6] from 22 (fun v wc => ∃ m : Nat, v = .int .i64 (m : Int) ∧ n + m ≤ 300 ∧ m ≤ 2 ∧ wc = w2)
  case first =>
    by_cases hm3 : 300 < n + m0
    · have hd : (300 : Int) < (n : Int) + (m0 : Int) := by omega
      go_wp2
      go_meet
      case rel => exact ⟨0, rfl, by omega, by omega, rfl⟩
    · have hd : ¬ ((300 : Int) < (n : Int) + (m0 : Int)) := by omega
      go_wp2
      go_meet
      case rel => exact ⟨m0, rfl, by omega, by omega, rfl⟩
  case rest =>
    obtain ⟨m, rfl, hm300, hm2, rfl⟩ := hcut
    have hs12 : w.heap.size + 1 + 1 ≤ wc.heap.size := by omega
    clear xz x0 x1 x2 x3 x4 hX1 hF0 hK1 hD1 hs1
    obtain ⟨xz, x0, x1, x2, x3, x4⟩ := id hX2
    obtain ⟨rz, r0, r1, r2, r3, r4, rf_⟩ := id hF2
    by_cases hn0 : n = 0
    · have hd : (n : Int) = 0 := by omega
      go_wp2
      have hRf := (hF2.rootS g.root).set (s' := .slice a g.nodes.length gc)
      have hKR : Kept (fun k => k = w.heap.size + 1) wc (((((wc.setCell ⟨w.heap.size + 1, 0, none⟩ (.int .i64 g.root.kind)).setCell ⟨w.heap.size + 1, 1, none⟩ (.int .i64 g.root.num)).setCell ⟨w.heap.size + 1, 2, none⟩ (.string g.root.text)).setCell ⟨w.heap.size + 1, 3, none⟩ (.int .i64 g.root.node)).setCell ⟨w.heap.size + 1, 4, none⟩ (.slice a g.nodes.length gc)) := (((((Kept.refl (fun k => k = w.heap.size + 1) wc).set (fun _ => rfl) _).set (fun _ => rfl) _).set (fun _ => rfl) _).set (fun _ => rfl) _).set (fun _ => rfl) _
      generalize ((((wc.setCell ⟨w.heap.size + 1, 0, none⟩ (.int .i64 g.root.kind)).setCell ⟨w.heap.size + 1, 1, none⟩ (.int .i64 g.root.num)).setCell ⟨w.heap.size + 1, 2, none⟩ (.string g.root.text)).setCell ⟨w.heap.size + 1, 3, none⟩ (.int .i64 g.root.node)).setCell ⟨w.heap.size + 1, 4, none⟩ (.slice a g.nodes.length gc) = w9 at hRf hKR ⊢
      obtain ⟨_, s0, s1, s2, s3, s4, _⟩ := hRf
      have hK9 := hK2.trans hKR (fun k hk e => by omega)
      refine bodyPost_ret (v := g.val a gc) (by simp [results, Try.results74, go_sem, s0, s1, s2, s3, s4, GG.val]) rfl ⟨g, a, gc, at2, rfl, hg, hok2.out, rfl, ha w9 hK9, Or.inl (List.eq_nil_of_length_eq_zero (by rw [← hn.out]; exact hn0)), by omega, ⟨hk2.dc.kept hKR (by omega) (fun g off e hp => by have := hc.sl g off e; omega), hK9⟩⟩
    · have hd : ¬ ((n : Int) = 0) := by omega
      go_wp2_with (go_at_call_of 52 ((n : Int)); refine (l6pick_of b sa bs cap at2 n _ _ rfl hk2.dc (by omega) (by omega) (by omega)).mono ?_; rintro e w3 ⟨y0, at3, hy0, ha3, rfl, hk3⟩)
      have hX3 := hX2.keptK hk3.kept (by omega)
      have hF3 := hF2.kept hk3.kept (by omega)
      have hK3 := hK2.trans hk3.kept (fun _ _ e => e)
      have hs3 := hk3.kept.size
      clear xz x0 x1 x2 x3 x4 rz r0 r1 r2 r3 r4 rf_ hX2 hF2
      go_loopw [7] (fun v ws => ∃ s : Nat, v = .int .i64 (s : Int) ∧ 1 ≤ s ∧ s ≤ n + 1 ∧ ws = w3) (fun v _ => n + 2 - (intOf v).toNat)
      case atStart => exact ⟨1 + y0, congrArg (Value.int .i64) (by omega), by omega, by omega, rfl⟩
      case round =>
        obtain ⟨s, rfl, hs1, hsn, rfl⟩ := hrel
        by_cases hgs : Nat.gcd s n = 1
        · go_upto_region 10 with (go_at_call 129; refine (l6gcd_any s n _ _ _ rfl rfl (by omega) (by omega)).mono ?_; rintro e w4 ⟨rfl, rfl⟩; rw [hgs])
          obtain ⟨M, hM⟩ := hid_ex (n + m)
          have hMi : (n : Int) + (m : Int) = (M : Int) := by rw [hM.out]; omega
          have hMw : IntKind.i64.wrap (M : Int) = (M : Int) := by have := hM.out; rw [IntKind.wrap_i64]; omega
          obtain ⟨MC, hMC⟩ := hid_ex (madeCells #[.int .i64 0, .slice none 0 0] (M * 2))
          obtain ⟨j0, hj, hy0, hy1, hy2⟩ := info_parts info_implNode
          have hmk : ∀ u : World, (Instr.makeSlice 25 (.int .i64 (M : Int)) (.int .i64 (M : Int))).run Try.prog u = .ok (.slice (some ⟨u.heap.size, 0, none⟩) M M) (u.alloc (.cells MC 84)) := fun u => by
            have hM9 := hM.out
            have h := run_make (P := Try.prog) u 25 84 j0 _ Try.underlying25 hj hy0 .i64 .i64 (M : Int) (M : Int) (by omega) (Int.le_refl _) (by rw [hy2]; omega) (by omega)
            rw [hMC.out]
            simpa [hy1, Value.cells] using h
          go_cut [8] from 34 (fun v wc => ∃ (Q N : Nat), v = .pointer (some ⟨Q, 0, none⟩) ∧ Five wc Q g.root (.slice (some ⟨N, 0, none⟩) M M) ∧ OwnG wc (w.heap.size + 1 + 1) (some ⟨N, 0, none⟩) M (List.replicate M zeroNL) ∧ Q ≠ N ∧ w.heap.size + 1 + 1 ≤ Q ∧ Kept (fun _ => False) w4 wc)
          case first =>
            have hXd := hX3.keptK ((Kept.refl (fun _ => False) w4).drew) (fun e => e)
            have hKd : Kept (fun _ => False) w4 w4.drew := (Kept.refl _ w4).drew
            have hsd : w.heap.size + 1 + 1 ≤ w4.drew.heap.size := by show _ ≤ w4.heap.size; omega
            refine wp_regionU (fun u => GBox u w.heap.size g a gc) 8 (by kernel_rfl) hXd (fun hS0 => ?_)
            generalize w4.drew = w5 at hXd hKd hsd hS0 ⊢
            refine anyU_take (i := 0) (v := ?_) rfl (by kernel_rfl) (by kernel_rfl) (by kernel_rfl) (by kernel_rfl) (fun _ _ _ h => h) (Or.inl ⟨by rfl, ?_⟩) hS0 ?_
            rotate_left
            · intro u hSu; obtain ⟨_, q0, q1, q2, q3, q4⟩ := id hSu; go_simp <;> with_reducible rfl
            simp only [Act.put, List.getElem_toArray, List.getElem_cons_zero, List.setIfInBounds_toArray, List.set_cons_zero, List.set_cons_succ]
            refine anyU_take (i := 1) (v := ?_) rfl (by kernel_rfl) (by kernel_rfl) (by kernel_rfl) (by kernel_rfl) (fun _ _ _ h => h) (Or.inl ⟨by rfl, ?_⟩) hS0 ?_
            rotate_left
            · intro u hSu; obtain ⟨_, q0, q1, q2, q3, q4⟩ := id hSu; go_simp <;> with_reducible rfl
            simp only [Act.put, List.getElem_toArray, List.getElem_cons_zero, List.getElem_cons_succ, List.setIfInBounds_toArray, List.set_cons_zero, List.set_cons_succ]
            refine anyU_take (i := 2) (v := ?_) rfl (by kernel_rfl) (by kernel_rfl) (by kernel_rfl) (by kernel_rfl) (fun _ _ _ h => h) (Or.inl ⟨by rfl, ?_⟩) hS0 ?_
            rotate_left
            · intro u hSu; obtain ⟨_, q0, q1, q2, q3, q4⟩ := id hSu; go_simp <;> with_reducible rfl
            simp only [Act.put, List.getElem_toArray, List.getElem_cons_zero, List.getElem_cons_succ, List.setIfInBounds_toArray, List.set_cons_zero, List.set_cons_succ]
            refine anyU_take (i := 3) (v := ?_) rfl (by kernel_rfl) (by kernel_rfl) (by kernel_rfl) (by kernel_rfl) (fun _ _ _ h => h) (Or.inl ⟨by rfl, ?_⟩) hS0 ?_
            rotate_left
            · intro u hSu; obtain ⟨_, q0, q1, q2, q3, q4⟩ := id hSu; go_simp <;> with_reducible rfl
            simp only [Act.put, List.getElem_toArray, List.getElem_cons_zero, List.getElem_cons_succ, List.setIfInBounds_toArray, List.set_cons_zero, List.set_cons_succ]
            refine anyU_take (i := 4) (v := ?_) rfl (by kernel_rfl) (by kernel_rfl) (by kernel_rfl) (by kernel_rfl) (fun _ _ _ h => h) (Or.inl ⟨by rfl, ?_⟩) hS0 ?_
            rotate_left
            · intro u hSu; obtain ⟨_, q0, q1, q2, q3, q4⟩ := id hSu; go_simp <;> with_reducible rfl
            simp only [Act.put, List.getElem_toArray, List.getElem_cons_zero, List.getElem_cons_succ, List.setIfInBounds_toArray, List.set_cons_zero, List.set_cons_succ]
            refine anyU_two (i := 5) (j := 7) (by kernel_rfl) rfl rfl (fun K hK => ?_) (fun K hK => ?_)
            · go_simp
              have hA6 : Kept (fun _ => False) w5 (w5.alloc (.cells MC 84)) := (Kept.refl _ w5).alloc _
              have hO6 := OwnG.zero w5 (base := w.heap.size + 1 + 1) (by omega) M (by have := hM.out; unfold maxLen; omega)
              rw [← hMC.out] at hO6
              have hX6 := hXd.keptK hA6 (fun e => e)
              refine hK.out _ _ hX6 ?_
              clear hK
              have hs6 : (w5.alloc (.cells MC 84)).heap.size = w5.heap.size + 1 := by simp
              generalize w5.alloc (.cells MC 84) = w6 at hA6 hO6 hX6 hs6 ⊢
              have hS0 := hX6
              refine anyU_take (i := 6) (v := ?_) rfl (by kernel_rfl) (by kernel_rfl) (by kernel_rfl) (by kernel_rfl) (fun _ _ _ h => h) (Or.inl ⟨by rfl, ?_⟩) hS0 ?_
              rotate_left
              · intro u hSu; obtain ⟨_, q0, q1, q2, q3, q4⟩ := id hSu; go_simp <;> with_reducible rfl
              simp only [Act.put, List.getElem_toArray, List.getElem_cons_zero, List.getElem_cons_succ, List.setIfInBounds_toArray, List.set_cons_zero, List.set_cons_succ]
              refine anyU_one (i := 7) (by kernel_rfl) rfl (fun K hK => ?_)
              go_simp
              have hA7 : Kept (fun _ => False) w6 (w6.alloc (.cells #[.int .i64 0, .int .i64 0, .string ⟨#[]⟩, .int .i64 0, .slice none 0 0] 27)) := (Kept.refl _ w6).alloc _
              have hF7 := Five.new_at w6 ⟨0, 0, ⟨#[]⟩, 0⟩ (.slice none 0 0) 27 (w5.heap.size + 1) hs6.symm
              have hO7 := hO6.kept hA7 (fun _ _ e => e) (fun _ _ _ _ e => e)
              have hX7 := hX6.keptK hA7 (fun e => e)
              refine hK.out _ _ hX7 ?_
              clear hK
              dsimp only at hF7
              generalize w6.alloc (.cells #[.int .i64 0, .int .i64 0, .string ⟨#[]⟩, .int .i64 0, .slice none 0 0] 27) = w7 at hA7 hF7 hO7 hX7 ⊢
              obtain ⟨fz, f0, f1, f2, f3, f4, ff⟩ := id hF7
              refine anyU_last (by kernel_rfl) rfl (by kernel_rfl) (fun K hK => ?_)
              go_simp
              refine hK.out _ _ ?_
              clear hK
              have hC8 := (hF7.rootS g.root).set (s' := .slice (some ⟨w5.heap.size, 0, none⟩) M M)
              have hKR : Kept (fun k => k = w5.heap.size + 1) w7 (((((w7.setCell ⟨w5.heap.size + 1, 0, none⟩ (.int .i64 g.root.kind)).setCell ⟨w5.heap.size + 1, 1, none⟩ (.int .i64 g.root.num)).setCell ⟨w5.heap.size + 1, 2, none⟩ (.string g.root.text)).setCell ⟨w5.heap.size + 1, 3, none⟩ (.int .i64 g.root.node)).setCell ⟨w5.heap.size + 1, 4, none⟩ (.slice (some ⟨w5.heap.size, 0, none⟩) M M)) := (((((Kept.refl (fun k => k = w5.heap.size + 1) w7).set (fun _ => rfl) _).set (fun _ => rfl) _).set (fun _ => rfl) _).set (fun _ => rfl) _).set (fun _ => rfl) _
              go_wp2
              go_meet
              case rel =>
                refine ⟨w5.heap.size + 1, w5.heap.size, rfl, hC8, hO7.kept hKR (fun k e hp => ?_) (fun y hy k e hp => ?_), by omega, by omega, ((hKd.trans hA6 (fun _ _ e => e)).trans hA7 (fun _ _ e => e)).trans hKR (fun k hk e => ?_)⟩
                · have := some_addr e; omega
                · rw [List.eq_of_mem_replicate hy] at e; cases e
                · have := hKd.size; omega
            · go_simp
              have hA6 : Kept (fun _ => False) w5 (w5.alloc (.cells #[.int .i64 0, .int .i64 0, .string ⟨#[]⟩, .int .i64 0, .slice none 0 0] 27)) := (Kept.refl _ w5).alloc _
              have hF6 := Five.new_at w5 ⟨0, 0, ⟨#[]⟩, 0⟩ (.slice none 0 0) 27 w5.heap.size rfl
              have hX6 := hXd.keptK hA6 (fun e => e)
              refine hK.out _ _ hX6 ?_
              clear hK
              have hs6 : (w5.alloc (.cells #[.int .i64 0, .int .i64 0, .string ⟨#[]⟩, .int .i64 0, .slice none 0 0] 27)).heap.size = w5.heap.size + 1 := by simp
              dsimp only at hF6
              generalize w5.alloc (.cells #[.int .i64 0, .int .i64 0, .string ⟨#[]⟩, .int .i64 0, .slice none 0 0] 27) = w6 at hA6 hF6 hX6 hs6 ⊢
              refine anyU_one (i := 5) (by kernel_rfl) rfl (fun K hK => ?_)
              go_simp
              have hA7 : Kept (fun _ => False) w6 (w6.alloc (.cells MC 84)) := (Kept.refl _ w6).alloc _
              have hO7 := OwnG.zero w6 (base := w.heap.size + 1 + 1) (by omega) M (by have := hM.out; unfold maxLen; omega)
              rw [← hMC.out, hs6] at hO7
              have hF7 := hF6.kept hA7 (fun e => e)
              have hX7 := hX6.keptK hA7 (fun e => e)
              refine hK.out _ _ hX7 ?_
              clear hK
              generalize w6.alloc (.cells MC 84) = w7 at hA7 hF7 hO7 hX7 ⊢
              have hS0 := hX7
              refine anyU_take (i := 6) (v := ?_) rfl (by kernel_rfl) (by kernel_rfl) (by kernel_rfl) (by kernel_rfl) (fun _ _ _ h => h) (Or.inl ⟨by rfl, ?_⟩) hS0 ?_
              rotate_left
              · intro u hSu; obtain ⟨_, q0, q1, q2, q3, q4⟩ := id hSu; go_simp <;> with_reducible rfl
              simp only [Act.put, List.getElem_toArray, List.getElem_cons_zero, List.getElem_cons_succ, List.setIfInBounds_toArray, List.set_cons_zero, List.set_cons_succ]
              obtain ⟨fz, f0, f1, f2, f3, f4, ff⟩ := id hF7
              refine anyU_last (by kernel_rfl) rfl (by kernel_rfl) (fun K hK => ?_)
              go_simp
              refine hK.out _ _ ?_
              clear hK
              have hC8 := (hF7.rootS g.root).set (s' := .slice (some ⟨w5.heap.size + 1, 0, none⟩) M M)
              have hKR : Kept (fun k => k = w5.heap.size) w7 (((((w7.setCell ⟨w5.heap.size, 0, none⟩ (.int .i64 g.root.kind)).setCell ⟨w5.heap.size, 1, none⟩ (.int .i64 g.root.num)).setCell ⟨w5.heap.size, 2, none⟩ (.string g.root.text)).setCell ⟨w5.heap.size, 3, none⟩ (.int .i64 g.root.node)).setCell ⟨w5.heap.size, 4, none⟩ (.slice (some ⟨w5.heap.size + 1, 0, none⟩) M M)) := (((((Kept.refl (fun k => k = w5.heap.size) w7).set (fun _ => rfl) _).set (fun _ => rfl) _).set (fun _ => rfl) _).set (fun _ => rfl) _).set (fun _ => rfl) _
              go_wp2
              go_meet
              case rel =>
                refine ⟨w5.heap.size, w5.heap.size + 1, rfl, hC8, hO7.kept hKR (fun k e hp => ?_) (fun y hy k e hp => ?_), by omega, by omega, ((hKd.trans hA6 (fun _ _ e => e)).trans hA7 (fun _ _ e => e)).trans hKR (fun k hk e => ?_)⟩
                · have := some_addr e; omega
                · rw [List.eq_of_mem_replicate hy] at e; cases e
                · have := hKd.size; omega
          case rest =>
            obtain ⟨Q, N, rfl, hFQ, hON, hQN, hQ2, hKc⟩ := hcut
            obtain ⟨qz, q0, q1, q2, q3, q4, qf⟩ := id hFQ
            have hX5 := hX3.keptK hKc (fun e => e)
            obtain ⟨xz, x0, x1, x2, x3, x4⟩ := id hX5
            have hXQ : w.heap.size ≠ Q := by omega
            clear hmk hMC
            go_upto_if 48 with fail
            go_cut [] from 47 (fun wd => Five wd Q (mapV (turnF s n) g.root) (.slice (some ⟨N, 0, none⟩) M M) ∧ Kept (fun k => k = Q) wc wd)
            case first =>
              have hroot2 := hroot
              rw [← hn.out] at hroot2
              have hS1 := hFQ.setNode 0
              have hKQ1 : Kept (fun k => k = Q) wc (wc.setCell ⟨Q, 3, none⟩ (.int .i64 0)) := (Kept.refl (fun k => k = Q) wc).set (a := ⟨Q, 3, none⟩) (fun _ => rfl) _
              by_cases hk4 : g.root.kind = 4
              · obtain ⟨k, hk, hnode⟩ : ∃ k : Nat, k < n ∧ g.root.node = (k : Int) := by
                  have := okV_node hroot2 hk4
                  exact ⟨g.root.node.toNat, by omega, by omega⟩
                obtain ⟨p, hp⟩ := hid_ex (k * s)
                have hp2 : p ≤ 300 * 301 := by rw [hp.out]; exact Nat.mul_le_mul (by omega) (by omega)
                have hkp : (k : Int) * (s : Int) = (p : Int) := by rw [hp.out]; simp
                have hx5 := hX5.keptK hKQ1 hXQ
                clear q0 q1 q2 q3 q4 qf x0 x1 x2 x3 x4 xz qz
                generalize wc.setCell ⟨Q, 3, none⟩ (.int .i64 0) = we at hS1 hKQ1 hx5 ⊢
                obtain ⟨xz, x0, x1, x2, x3, x4⟩ := id hx5
                obtain ⟨qz, q0, q1, q2, q3, q4, qf⟩ := id hS1
                rw [hnode] at x3
                go_wp2
                go_meet
                case rel =>
                  have hS2 := hS1.setNode ((p : Int) % (n : Int))
                  have hKQ2 : Kept (fun k => k = Q) we (we.setCell ⟨Q, 3, none⟩ (.int .i64 ((p : Int) % (n : Int)))) := (Kept.refl (fun k => k = Q) we).set (a := ⟨Q, 3, none⟩) (fun _ => rfl) _
                  have e2 : mapV (turnF s n) g.root = ⟨g.root.kind, g.root.num, g.root.text, (p : Int) % (n : Int)⟩ := by
                    unfold mapV
                    rw [if_pos hk4, hnode]
                    have : (((k : Int).toNat * s % n : Nat) : Int) = (p : Int) % (n : Int) := by rw [hp.out]; simp
                    unfold turnF
                    rw [this]
                  rw [e2]
                  exact ⟨hS2, hKQ1.trans hKQ2 (fun _ _ e => e)⟩
              · go_wp2
                go_meet
                case rel =>
                  have e2 : mapV (turnF s n) g.root = ⟨g.root.kind, g.root.num, g.root.text, 0⟩ := by
                    unfold mapV
                    rw [if_neg hk4]
                    obtain h | ⟨z, h⟩ | ⟨z, h⟩ | ⟨z, _, h⟩ | ⟨z, _, h⟩ := okV_cases hroot2
                    · rw [h]
                    · rw [h]
                    · rw [h]
                    · rw [h]
                    · exact absurd (by rw [h]) hk4
                  rw [e2]
                  exact ⟨hS1, hKQ1⟩
            case rest =>
              obtain ⟨hFd, hKd⟩ := hcut
              have hXd := hX5.keptK hKd hXQ
              have hKw : Kept (fun k => k = b) w wc := (hK3.trans hKc (fun _ _ e => e.elim)).trans hKd (fun k hk e => by omega)
              have hOd := hON.kept hKd (fun k e hp => by have := some_addr e; omega) (fun y hy k e hp => by rw [List.eq_of_mem_replicate hy] at e; cases e)
              have hRd := (hF3.kept hKc (fun e => e)).kept hKd (by omega)
              have hDd := (hk3.dc.kept hKc (fun e => e) (fun _ _ _ e => e)).kept hKd (by omega) (fun g off e hp => by have := hc.sl g off e; omega)
              have hNd : w.heap.size + 1 + 1 ≤ N := (hON.nodes.lt N rfl).1
              have hsd := hKw.size
              have hT0 : TI wc (w.heap.size + 1 + 1) N M s n g 0 wc (List.replicate M zeroNL) := ⟨Kept.refl _ _, List.length_replicate, hOd, fun i hi => absurd hi (Nat.not_lt_zero _), fun x hx => Or.inl (by rw [List.eq_of_mem_replicate hx]; rfl)⟩
              clear hX5 xz x0 x1 x2 x3 x4 qz q0 q1 q2 q3 q4 qf hFQ hON hKc hKd hF3 hX3 hk3 hK3
              obtain ⟨xz, x0, x1, x2, x3, x4⟩ := id hXd
              rw [← hn.out] at x4
              obtain ⟨i0, hi, hz0, hz1, hz2⟩ := info_parts info_implVal
              go_wp2
              go_loopw [61] (fun v ws => ∃ (j : Nat) (nl : List NL), v = .int .i64 (j : Int) ∧ j ≤ n ∧ TI wc (w.heap.size + 1 + 1) N M s n g j ws nl) (fun v _ => n - (intOf v).toNat)
              case atStart => exact ⟨0, _, rfl, Nat.zero_le _, hT0⟩
              case round =>
                obtain ⟨j, nl, rfl, hjn, hT⟩ := hrel
                have hKr : Kept (fun k => k = b) w wr := hKw.trans hT.kept (fun k hk e => by omega)
                have hXr := hXd.keptK hT.kept (by omega)
                have hFr := hFd.kept hT.kept hQN
                have hRr := hRd.kept hT.kept (by omega)
                have hDr := hDd.kept hT.kept (by omega) (fun g off e hp => by have := hc.sl g off e; omega)
                have hsr := hKr.size
                have hsr2 := hT.kept.size
                clear xz x0 x1 x2 x3 x4
                by_cases hjl : j < n
                · have hd1 : (j : Int) < (n : Int) := by omega
                  obtain ⟨x, xb, off, av, cv, hxk, hxm, hae, hbs, hva⟩ := (ha wr hKr).get (k := j) (by rw [← hn.out]; exact hjl)
                  subst hae
                  obtain ⟨h100, hv⟩ := okN_parts (hnodes _ hxm)
                  have c0 := hva.tag
                  have c1 := hva.sl
                  have hvals := hva.vals
                  go_wp2
                  have hV0 : TV wr x.tag (wr.heap.size + 1) ((wr.alloc (.cells #[.int .i64 x.tag, .slice av x.vals.length cv] 84)).alloc (.cells #[.int .i64 x.tag, .slice none 0 0] 84)) none 0 [] := ⟨((Kept.refl _ _).alloc _).alloc _, ⟨by omega, by simp⟩, Two.new_at (wr.alloc _) x.tag (.slice none 0 0) 84 (wr.heap.size + 1) (by simp), World.ownsRow_nil _ _ _ _⟩
                  generalize (wr.alloc (.cells #[.int .i64 x.tag, .slice av x.vals.length cv] 84)).alloc (.cells #[.int .i64 x.tag, .slice none 0 0] 84) = w5 at hV0 ⊢
                  clear c0 c1
                  obtain ⟨Y, hY⟩ := hid_ex (wr.heap.size + 1)
                  rw [← hY.out] at hV0 ⊢
                  go_loopw [72] (fun c ws => ∃ (k : Nat) (va : Option Addr) (vc : Nat) (vs : List GV), c = .int .i64 (k : Int) ∧ k ≤ x.vals.length ∧ Hid (vs.length = k) ∧ Hid (vs = (x.vals.take k).map (mapV (turnF s n))) ∧ TV wr x.tag Y ws va vc vs) (fun c _ => x.vals.length - (intOf c).toNat)
                  case atStart => exact ⟨0, none, 0, [], rfl, Nat.zero_le _, rfl, by show _ = _; simp, hV0⟩
                  case round =>
                    obtain ⟨k, va, vc, vs, rfl, hkl, hvl, hvs, hV⟩ := hrel
                    obtain ⟨p2, p3⟩ := hV.blk
                    have hvl100 : vs.length ≤ 100 := by rw [hvl.out]; omega
                    obtain ⟨tz, t0, t1, tf, _⟩ := id hV.x
                    by_cases hk : k < x.vals.length
                    · have hd2 : (k : Int) < (x.vals.length : Int) := by omega
                      obtain ⟨v, vb, off2, hvk, hvm, hve, hbs2, hvat⟩ := (hvals.below (hV.kept.below (Nat.le_refl _) (fun _ _ e => e))).get hk
                      subst hve
                      obtain ⟨v0, v1, v2, v3⟩ := hvat
                      have hvo := hv v hvm
                      rw [← hn.out] at hvo
                      have hvs1 : Hid ((x.vals.take k).map (mapV (turnF s n)) ++ [mapV (turnF s n) v] = (x.vals.take (k + 1)).map (mapV (turnF s n))) := by
                        show _ = _
                        rw [List.take_add_one, List.map_append, List.getElem?_eq_getElem hk, hvk.out, getElem!_pos x.vals k hk]
                        rfl
                      by_cases hk4 : v.kind = 4
                      · obtain ⟨z, hz, hnode⟩ : ∃ z : Nat, z < n ∧ v.node = (z : Int) := by
                          have := okV_node hvo hk4
                          exact ⟨v.node.toNat, by omega, by omega⟩
                        obtain ⟨p, hp⟩ := hid_ex (z * s)
                        have hp2 : p ≤ 300 * 301 := by rw [hp.out]; exact Nat.mul_le_mul (by omega) (by omega)
                        have hkp : (z : Int) * (s : Int) = (p : Int) := by rw [hp.out]; simp
                        rw [hnode] at v3
                        have e2 : Hid (mapV (turnF s n) v = ⟨4, v.num, v.text, (p : Int) % (n : Int)⟩) := by
                          show _ = _
                          unfold mapV
                          rw [if_pos hk4, hnode, hk4]
                          have : (((z : Int).toNat * s % n : Nat) : Int) = (p : Int) % (n : Int) := by rw [hp.out]; simp
                          unfold turnF
                          rw [this]
                        go_wp2_with (at_builtin; refine wpList_append_lies _ rfl (.tmp 87) (.tmp 89) 82 rfl (Y + 1) 24 i0 _ 4 40 Try.underlying82 hi hz0 hz1 hz2 rfl (by decide) _ _ _ rfl (World.ownsRow.alloc (World.ownsRow.alloc hV.vals _) _) ⟨wr.heap.size + 1, 0, none⟩ 1 1 (GV.mk 4 v.num v.text ((p : Int) % (n : Int))).four rfl rfl (World.news_of_block (cs := #[.int .i64 4, .int .i64 v.num, .string v.text, .int .i64 ((p : Int) % (n : Int))]) (t := 24) (fr := (0, 0)) (blk_new_at _ _ _ (by simp))) (by simp [GV.four, Value.oneCell']) (by decide) (by unfold maxLen; omega) (by omega) (by simp; omega) (wr.heap.size + 2) (by simp) ?_; intro gg cc w8 hown8 hgrow8 hat8 hlt8; obtain ⟨ez, e0, e1, ef, _⟩ := (hV.x.kept (((Kept.refl (fun _ => False) wr).alloc (.cells #[.int .i64 4, .int .i64 v.num, .string v.text, .int .i64 ((p : Int) % (n : Int))] 24)).alloc (.cells #[.int .i64 4, .int .i64 v.num, .string v.text, .int .i64 ((p : Int) % (n : Int))] 24)) (fun e => e)).kept (Kept.of_grown hgrow8) (fun hp => by have := (hV.vals.lt _ hp).1; omega))
                        have hfin := hV.step (v := GV.mk 4 v.num v.text ((p : Int) % (n : Int))) ((Kept.refl (fun _ => False) wr).alloc (.cells #[.int .i64 4, .int .i64 v.num, .string v.text, .int .i64 ((p : Int) % (n : Int))] 24)) hown8 hgrow8
                        go_roundw
                        case rel => exact ⟨k + 1, some ⟨gg, 0, none⟩, cc, vs ++ [GV.mk 4 v.num v.text ((p : Int) % (n : Int))], by go_num, by omega, by show _ = _; rw [List.length_append, hvl.out]; rfl, by show _ = _; rw [hvs.out, ← hvs1.out, e2.out], hfin⟩
                        case measure => simp [intOf]; omega
                      · have e3 : mapV (turnF s n) v = v := by
                          unfold mapV
                          exact if_neg hk4
                        go_wp2_with (at_builtin; refine wpList_append_lies _ rfl (.tmp 87) (.tmp 89) 82 rfl (Y + 1) 24 i0 _ 4 40 Try.underlying82 hi hz0 hz1 hz2 rfl (by decide) _ _ _ rfl (World.ownsRow.alloc (World.ownsRow.alloc hV.vals _) _) ⟨wr.heap.size + 1, 0, none⟩ 1 1 (v).four rfl rfl (World.news_of_block (cs := #[.int .i64 v.kind, .int .i64 v.num, .string v.text, .int .i64 v.node]) (t := 24) (fr := (0, 0)) (blk_new_at _ _ _ (by simp))) (by simp [GV.four, Value.oneCell']) (by decide) (by unfold maxLen; omega) (by omega) (by simp; omega) (wr.heap.size + 2) (by simp) ?_; intro gg cc w8 hown8 hgrow8 hat8 hlt8; obtain ⟨ez, e0, e1, ef, _⟩ := (hV.x.kept (((Kept.refl (fun _ => False) wr).alloc (.cells #[.int .i64 v.kind, .int .i64 v.num, .string v.text, .int .i64 v.node] 24)).alloc (.cells #[.int .i64 v.kind, .int .i64 v.num, .string v.text, .int .i64 v.node] 24)) (fun e => e)).kept (Kept.of_grown hgrow8) (fun hp => by have := (hV.vals.lt _ hp).1; omega))
                        have hfin := hV.step (v := v) ((Kept.refl (fun _ => False) wr).alloc (.cells #[.int .i64 v.kind, .int .i64 v.num, .string v.text, .int .i64 v.node] 24)) hown8 hgrow8
                        go_roundw
                        case rel => exact ⟨k + 1, some ⟨gg, 0, none⟩, cc, vs ++ [v], by go_num, by omega, by show _ = _; rw [List.length_append, hvl.out]; rfl, by show _ = _; rw [hvs.out, ← hvs1.out, e3], hfin⟩
                        case measure => simp [intOf]; omega
                    · have hd2 : ¬ ((k : Int) < (x.vals.length : Int)) := by omega
                      obtain rfl : k = x.vals.length := by omega
                      obtain ⟨q, hq⟩ := hid_ex (j * s)
                      have hq2 : q ≤ 300 * 301 := by rw [hq.out]; exact Nat.mul_le_mul (by omega) (by omega)
                      have hjq : (j : Int) * (s : Int) = (q : Int) := by rw [hq.out]; simp
                      obtain ⟨t, ht⟩ := hid_ex (q % n)
                      have hqt : (q : Int) % (n : Int) = (t : Int) := by rw [ht.out]; simp
                      have htn : t < n := by rw [ht.out]; exact Nat.mod_lt _ (by omega)
                      have htM : (t : Int) < (M : Int) := by have := hM.out; omega
                      obtain ⟨qz, q0, q1, q2, q3, q4, qf⟩ := id (hFr.kept hV.kept (fun e => e))
                      go_upto_region 26 with fail
                      have hFi := hFr.kept hV.kept (fun e => e)
                      have hOi := hT.own.kept hV.kept (fun _ _ e => e) (fun _ _ _ _ e => e)
                      have hlen := hT.len
                      have hMn : n ≤ M ∧ M ≤ 300 := by have := hM.out; omega
                      have cN0 := hOi.nodes.cellAt (t * 2) (by omega)
                      have cN1 := hOi.nodes.cellAt (t * 2 + 1) (by omega)
                      obtain ⟨z0, hz0'⟩ : ∃ z0, (nodeCells nl)[t * 2]? = some z0 := ⟨_, List.getElem?_eq_getElem (by rw [nodeCells_len]; omega)⟩
                      obtain ⟨z1, hz1'⟩ : ∃ z1, (nodeCells nl)[t * 2 + 1]? = some z1 := ⟨_, List.getElem?_eq_getElem (by rw [nodeCells_len]; omega)⟩
                      rw [hz0'] at cN0
                      rw [hz1'] at cN1
                      have hti0 : (0 : Int) ≤ (t : Int) := by omega
                      have hwq : (IntKind.i64.wrap (q : Int)).tmod (n : Int) = (t : Int) := by
                        have e : IntKind.i64.wrap (q : Int) = (q : Int) := by rw [IntKind.wrap_i64]; omega
                        rw [e, Int.tmod_eq_emod_of_nonneg (by omega), hqt]
                      have fN0 := hOi.nodes.frozenAt (t * 2)
                      have fN1 := hOi.nodes.frozenAt (t * 2 + 1)
                      have hSS : Five wr.drew Q (mapV (turnF s n) g.root) (.slice (some ⟨N, 0, none⟩) M M) ∧ Two wr.drew Y x.tag (.slice va vs.length vc) := ⟨hFi.kept ((Kept.refl (fun _ => False) wr).drew) (fun e => e), hV.x.kept ((Kept.refl (fun _ => False) wr).drew) (fun e => e)⟩
                      refine wp_regionU (fun u => Five u Q (mapV (turnF s n) g.root) (.slice (some ⟨N, 0, none⟩) M M) ∧ Two u Y x.tag (.slice va vs.length vc)) 9 (by kernel_rfl) hSS (fun hS0 => ?_)
                      refine anyU_take (i := 0) (v := ?_) rfl (by kernel_rfl) (by kernel_rfl) (by kernel_rfl) (by kernel_rfl) (fun _ _ _ h => h) (Or.inl ⟨by rfl, ?_⟩) hS0 ?_
                      rotate_left
                      · intro u hSu; obtain ⟨⟨_, s0, s1, s2, s3, s4, _⟩, ⟨_, y0, y1, _, _⟩⟩ := hSu; go_simp <;> with_reducible rfl
                      simp only [Act.put, List.getElem_toArray, List.getElem_cons_zero, List.setIfInBounds_toArray, List.set_cons_zero, List.set_cons_succ]
                      refine anyU_take (i := 1) (v := ?_) rfl (by kernel_rfl) (by kernel_rfl) (by kernel_rfl) (by kernel_rfl) (fun _ _ _ h => h) (Or.inl ⟨by rfl, ?_⟩) hS0 ?_
                      rotate_left
                      · intro u hSu; obtain ⟨⟨_, s0, s1, s2, s3, s4, _⟩, ⟨_, y0, y1, _, _⟩⟩ := hSu; go_simp <;> with_reducible rfl
                      simp only [Act.put, List.getElem_toArray, List.getElem_cons_zero, List.getElem_cons_succ, List.setIfInBounds_toArray, List.set_cons_zero, List.set_cons_succ]
                      refine anyU_take (i := 2) (v := ?_) rfl (by kernel_rfl) (by kernel_rfl) (by kernel_rfl) (by kernel_rfl) (fun _ _ _ h => h) (Or.inl ⟨by rfl, ?_⟩) hS0 ?_
                      rotate_left
                      · intro u hSu; obtain ⟨⟨_, s0, s1, s2, s3, s4, _⟩, ⟨_, y0, y1, _, _⟩⟩ := hSu; go_simp <;> with_reducible rfl
                      simp only [Act.put, List.getElem_toArray, List.getElem_cons_zero, List.getElem_cons_succ, List.setIfInBounds_toArray, List.set_cons_zero, List.set_cons_succ]
                      refine anyU_take (i := 3) (v := ?_) rfl (by kernel_rfl) (by kernel_rfl) (by kernel_rfl) (by kernel_rfl) (fun _ _ _ h => h) (Or.inl ⟨by rfl, ?_⟩) hS0 ?_
                      rotate_left
                      · intro u hSu; obtain ⟨⟨_, s0, s1, s2, s3, s4, _⟩, ⟨_, y0, y1, _, _⟩⟩ := hSu; go_simp <;> with_reducible rfl
                      simp only [Act.put, List.getElem_toArray, List.getElem_cons_zero, List.getElem_cons_succ, List.setIfInBounds_toArray, List.set_cons_zero, List.set_cons_succ]
                      refine anyU_take (i := 4) (v := ?_) rfl (by kernel_rfl) (by kernel_rfl) (by kernel_rfl) (by kernel_rfl) (fun _ _ _ h => h) (Or.inl ⟨by rfl, ?_⟩) hS0 ?_
                      rotate_left
                      · intro u hSu; obtain ⟨⟨_, s0, s1, s2, s3, s4, _⟩, ⟨_, y0, y1, _, _⟩⟩ := hSu; go_simp <;> with_reducible rfl
                      simp only [Act.put, List.getElem_toArray, List.getElem_cons_zero, List.getElem_cons_succ, List.setIfInBounds_toArray, List.set_cons_zero, List.set_cons_succ]
                      refine anyU_take (i := 5) (v := ?_) rfl (by kernel_rfl) (by kernel_rfl) (by kernel_rfl) (by kernel_rfl) (fun _ _ _ h => h) (Or.inl ⟨by rfl, ?_⟩) hS0 ?_
                      rotate_left
                      · intro u hSu; obtain ⟨⟨_, s0, s1, s2, s3, s4, _⟩, ⟨_, y0, y1, _, _⟩⟩ := hSu; go_simp <;> with_reducible rfl
                      simp only [Act.put, List.getElem_toArray, List.getElem_cons_zero, List.getElem_cons_succ, List.setIfInBounds_toArray, List.set_cons_zero, List.set_cons_succ]
                      refine anyU_take (i := 6) (v := ?_) rfl (by kernel_rfl) (by kernel_rfl) (by kernel_rfl) (by kernel_rfl) (fun _ _ _ h => h) (Or.inl ⟨by rfl, ?_⟩) hS0 ?_
                      rotate_left
                      · intro u hSu; obtain ⟨⟨_, s0, s1, s2, s3, s4, _⟩, ⟨_, y0, y1, _, _⟩⟩ := hSu; go_simp <;> with_reducible rfl
                      simp only [Act.put, List.getElem_toArray, List.getElem_cons_zero, List.getElem_cons_succ, List.setIfInBounds_toArray, List.set_cons_zero, List.set_cons_succ]
                      refine anyU_take (i := 7) (v := ?_) rfl (by kernel_rfl) (by kernel_rfl) (by kernel_rfl) (by kernel_rfl) (fun _ _ _ h => h) (Or.inl ⟨by rfl, ?_⟩) hS0 ?_
                      rotate_left
                      · intro u hSu; obtain ⟨⟨_, s0, s1, s2, s3, s4, _⟩, ⟨_, y0, y1, _, _⟩⟩ := hSu; go_simp <;> with_reducible rfl
                      simp only [Act.put, List.getElem_toArray, List.getElem_cons_zero, List.getElem_cons_succ, List.setIfInBounds_toArray, List.set_cons_zero, List.set_cons_succ]
                      refine anyU_take (i := 8) (v := .pointer (some ⟨N, t * 2, none⟩)) rfl (by kernel_rfl) (by kernel_rfl) (by kernel_rfl) (by kernel_rfl) (fun _ _ _ h => h) (Or.inl ⟨by rfl, ?_⟩) hS0 ?_
                      · intro u hSu; go_simp
                      simp only [Act.put, List.getElem_toArray, List.getElem_cons_zero, List.getElem_cons_succ, List.setIfInBounds_toArray, List.set_cons_zero, List.set_cons_succ]
                      refine anyU_last (by kernel_rfl) rfl (by kernel_rfl) (fun K hK => ?_)
                      go_simp
                      refine hK.out _ _ ?_
                      clear hK
                      have hVd := hV.drew
                      have hfin := hT.step hgs hjl (by omega) (Nat.le_trans hNd (Nat.le_of_lt (hT.own.nodes.lt N rfl).2)) hVd (by rw [hvs.out, List.take_length, ← hxk.out]; rfl) (t := t) (by rw [ht.out, hq.out]; rfl)
                      have hfin2 : TI wc (w.heap.size + 1 + 1) N M s n g (j + 1) (((wr.setCell ⟨N, t * 2, none⟩ (.int .i64 x.tag)).setCell ⟨N, t * 2 + 1, none⟩ (.slice va vs.length vc)).drew) (nl.set t ⟨⟨x.tag, vs⟩, va, vc⟩) := hfin
                      generalize ((wr.setCell ⟨N, t * 2, none⟩ (.int .i64 x.tag)).setCell ⟨N, t * 2 + 1, none⟩ (.slice va vs.length vc)).drew = w9 at hfin2 ⊢
                      go_wp2
                      go_roundw
                      case rel => exact ⟨j + 1, _, by go_num, by omega, hfin2⟩
                      case measure => simp [intOf]; omega
                · have hd1 : ¬ ((j : Int) < (n : Int)) := by omega
                  have hjn2 : j = n := by omega
                  rw [hjn2] at hT
                  have hlen := hT.len
                  have hMn : n ≤ M ∧ M ≤ 300 := by have := hM.out; omega
                  obtain ⟨rt, hrt⟩ := hid_ex (mapV (turnF s n) g.root)
                  rw [← hrt.out] at hFr
                  have hTG : TurnG s g ⟨rt, nl.map (·.n)⟩ := by
                    have hl : (nl.map (·.n)).length = M := by rw [List.length_map]; exact hT.len
                    refine ⟨by rw [← hn.out]; omega, by rw [← hn.out]; exact hgs, by rw [← hn.out]; show _ ≤ (nl.map (·.n)).length; rw [hl]; omega, by show (nl.map (·.n)).length ≤ 300; rw [hl]; omega, by rw [← hn.out]; exact hrt.out, fun i hi => ?_, fun x hx => ?_⟩
                    · rw [← hn.out] at hi ⊢
                      have h1 := hT.done i hi
                      have h2 : turnF s n i < nl.length := by have : turnF s n i < n := turnF_lt (by omega); omega
                      show (nl.map (·.n))[turnF s n i]! = _
                      rw [← h1, getElem!_pos (nl.map (·.n)) (turnF s n i) (by rw [List.length_map]; exact h2), getElem!_pos nl (turnF s n i) h2, List.getElem_map]
                    · obtain ⟨y, hy, rfl⟩ := List.mem_map.1 hx
                      rw [← hn.out]
                      exact hT.all y hy
                  have hTok := hTG.ok hg hok2.out
                  have hTc := hTG.canon hg hok2.out
                  obtain ⟨qz, q0, q1, q2, q3, q4, qf⟩ := id hFr
                  obtain ⟨rz, r0, r1, r2, r3, r4, rf_⟩ := id hRr
                  go_wp2
                  have hRf := (hRr.rootS rt).set (s' := .slice (some ⟨N, 0, none⟩) M M)
                  have hKR : Kept (fun k => k = w.heap.size + 1) wr (((((wr.setCell ⟨w.heap.size + 1, 0, none⟩ (.int .i64 rt.kind)).setCell ⟨w.heap.size + 1, 1, none⟩ (.int .i64 rt.num)).setCell ⟨w.heap.size + 1, 2, none⟩ (.string rt.text)).setCell ⟨w.heap.size + 1, 3, none⟩ (.int .i64 rt.node)).setCell ⟨w.heap.size + 1, 4, none⟩ (.slice (some ⟨N, 0, none⟩) M M)) := (((((Kept.refl (fun k => k = w.heap.size + 1) wr).set (fun _ => rfl) _).set (fun _ => rfl) _).set (fun _ => rfl) _).set (fun _ => rfl) _).set (fun _ => rfl) _
                  generalize ((((wr.setCell ⟨w.heap.size + 1, 0, none⟩ (.int .i64 rt.kind)).setCell ⟨w.heap.size + 1, 1, none⟩ (.int .i64 rt.num)).setCell ⟨w.heap.size + 1, 2, none⟩ (.string rt.text)).setCell ⟨w.heap.size + 1, 3, none⟩ (.int .i64 rt.node)).setCell ⟨w.heap.size + 1, 4, none⟩ (.slice (some ⟨N, 0, none⟩) M M) = w9 at hRf hKR ⊢
                  obtain ⟨_, s0, s1, s2, s3, s4, _⟩ := hRf
                  have hK9 := hKr.trans hKR (fun k hk e => by omega)
                  have hO9 := hT.own.kept hKR (fun k e hp => by have := some_addr e; omega) (fun y hy k e hp => by have := ((hT.own.vals y hy).lt k (by rw [e]; rfl)).1; omega)
                  exact bodyPost_ret (v := (GG.mk rt (nl.map (·.n))).val (some ⟨N, 0, none⟩) M) (by simp [results, Try.results74, go_sem, s0, s1, s2, s3, s4, GG.val, hlen]) rfl ⟨⟨rt, nl.map (·.n)⟩, some ⟨N, 0, none⟩, M, at3, rfl, hTok.1, hTok.2, hTc, hO9.at_, Or.inr ⟨nl, rfl, hO9.le (by omega)⟩, by omega, ⟨hDr.kept hKR (by omega) (fun g off e hp => by have := hc.sl g off e; omega), hK9⟩⟩
        · have hsn2 : s ≤ n := by
            rcases Nat.lt_or_ge n s with h | h
            · exfalso
              have e : s = n + 1 := by omega
              subst e
              exact hgs (by simp)
            · exact h
          obtain ⟨d, hd2⟩ := hid_ex (Nat.gcd s n)
          have hd3 : ((d : Int) != 1) = true := by
            have : d ≠ 1 := by rw [hd2.out]; exact hgs
            simp; omega
          go_wp2_with (go_at_call 129; refine (l6gcd_any s n _ _ _ rfl rfl (by omega) (by omega)).mono ?_; rintro e w4 ⟨rfl, rfl⟩; rw [← hd2.out])
          go_roundw
          case rel => exact ⟨s + 1, by go_num, by omega, by omega, trivial⟩
          case measure => simp [intOf]; omega

end Go.Proofs.Ythjddpkegooobaa
