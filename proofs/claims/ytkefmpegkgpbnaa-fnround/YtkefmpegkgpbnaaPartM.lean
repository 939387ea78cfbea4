import Derived.Test.YtkefmpegkgpbnaaPartL

/-
  CANONS: the specification's Canon. Own work.
-/
namespace Go.Proofs.Ytkefmpegkgpbnaa
open Go.RowKit

/-- what the specification's Canon leaves -/
def CanonSPost (g : GG) (w : World) (e : Ending) (w' : World) : Prop :=
  ∃ (na : Option Addr) (nc : Nat), e = .returned ((canonZ g).val na nc) ∧ NodesAt w'.heap.size w' na (canonZ g).nodes ∧ Below w.heap.size w w'

set_option maxRecDepth 100000 in
theorem specCanonZ_any (a : Option Addr) (cap : Nat) (g : GG) (w : World) (hg : g.Ok) (ha : NodesAt w.heap.size w a g.nodes) :
    Calls Try.prog 13 #[g.val a cap] w (CanonSPost g w) := by
  have hR0 := Five.new_at (w.alloc (.cells #[.int .i64 g.root.kind, .int .i64 g.root.num, .string g.root.text, .int .i64 g.root.node, .slice a g.nodes.length cap] 27)) ⟨0, 0, ⟨#[]⟩, 0⟩ (.slice none 0 0) 27 (w.heap.size + 1) (by simp)
  have hX0 := (GBox.new w g a cap 27).grow (gal (gre _) (.cells #[.int .i64 0, .int .i64 0, .string ⟨#[]⟩, .int .i64 0, .slice none 0 0] 27))
  cases hok : okG g with
  | false =>
    have hz : Hid (canonZ g = ⟨⟨0, 0, ⟨#[]⟩, 0⟩, []⟩) := if_neg (by rw [hok]; exact Bool.false_ne_true)
    have hok' : Hid _ := hok
    go_enter Try.func13, Try.ntmps13
    go_wp2_with (go_at_call 35; refine (specGraphOk_any a cap g _ hg (ha.grow (gal (gal (gre _) _) _))).mono ?_; rintro e w1 ⟨rfl, hb1⟩; obtain ⟨rz, r0, r1, r2, r3, r4, rf⟩ := hR0.kept (Kept.of_below hb1 (fun _ => False)) (fun e => e); rw [hok'.out])
    refine bodyPost_ret (v := .agg #[.int .i64 0, .int .i64 0, .string ⟨#[]⟩, .int .i64 0, .slice none 0 0]) (by simp [results, Try.results13, go_sem, r0, r1, r2, r3, r4]) rfl ⟨none, 0, by rw [hz.out]; rfl, by rw [hz.out]; exact fun i hi => absurd hi (Nat.not_lt_zero _), ?_⟩
    have hb2 := gca (gal (gal (gre w) _) _) hb1
    exact ((((hb2.setCell (by simp) _).setCell (by simp) _).setCell (by simp) _).setCell (by simp) _).setCell (by simp) _
  | true =>
    have hz : Hid (canonZ g = canon g) := if_pos hok
    have hok' : Hid _ := hok
    go_enter Try.func13, Try.ntmps13
    go_wp2_with (first
      | (go_at_call 35; refine (specGraphOk_any a cap g _ hg (ha.grow (gal (gal (gre _) _) _))).mono ?_; rintro e w1 ⟨rfl, hb1⟩; obtain ⟨xz, x0, x1, x2, x3, x4⟩ := hX0.grow hb1; rw [hok'.out])
      | (go_at_call 50; refine (specCanon_new a cap g _ hok'.out (ha.grow (gca (gal (gal (gre _) _) _) hb1))).mono ?_; rintro e w3 ⟨na, nc, rfl, hn3, hb3⟩; have hR3 := hR0.kept (Kept.of_below (gca hb1 hb3) (fun _ => False)) (fun e => e); obtain ⟨rz, r0, r1, r2, r3, r4, rf⟩ := id hR3))
    have hC := (((((Kept.refl (fun b => b = w.heap.size + 1) w3).set (a := ⟨w.heap.size + 1, 0, none⟩) (fun _ => rfl) (.int .i64 (canon g).root.kind)).set (a := ⟨w.heap.size + 1, 1, none⟩) (fun _ => rfl) (.int .i64 (canon g).root.num)).set (a := ⟨w.heap.size + 1, 2, none⟩) (fun _ => rfl) (.string (canon g).root.text)).set (a := ⟨w.heap.size + 1, 3, none⟩) (fun _ => rfl) (.int .i64 (canon g).root.node)).set (a := ⟨w.heap.size + 1, 4, none⟩) (fun _ => rfl) (.slice na (canon g).nodes.length nc)
    have hw1 : w.heap.size + 1 + 1 ≤ w1.heap.size := by have h1 := hb1.size; simp at h1; omega
    have hN := hn3 _ _ hC (fun b hb => by omega)
    have hb4 := gca (gca (gal (gal (gre w) _) _) hb1) hb3
    refine bodyPost_ret (v := (canon g).val na nc) (by simp [results, Try.results13, go_sem, r0, r1, r2, r3, r4]) rfl ⟨na, nc, by rw [hz.out], by rw [hz.out]; exact hN, hb4.trans (hC.below hb4.size (fun k hk hp => by omega))⟩

end Go.Proofs.Ytkefmpegkgpbnaa

/-
  CANONMAP: numbering nodes anew changes no form. Own work.
-/
namespace Go.Proofs.Ytkefmpegkgpbnaa

/-- a value, its node by another number -/
def mapV (f : Nat → Nat) (v : GV) : GV := if v.kind = 4 then { v with node := (f v.node.toNat : Nat) } else v
theorem mapV_kind (f : Nat → Nat) (v : GV) : (mapV f v).kind = v.kind := by unfold mapV; split <;> rfl
theorem mapV_node {f : Nat → Nat} {v : GV} (h : v.kind = 4) : (mapV f v).node.toNat = f v.node.toNat := by
  unfold mapV; rw [if_pos h]; exact Int.toNat_natCast _

section
variable {f : Nat → Nat} {S : Nat → Prop}

theorem mem_map_inj (hf : ∀ i j, S i → S j → f i = f j → i = j) {ord : List Nat} (ho : ∀ x, x ∈ ord → S x) {i : Nat} (hi : S i) : f i ∈ ord.map f ↔ i ∈ ord := by
  constructor
  · intro h
    obtain ⟨j, hj, e⟩ := List.mem_map.1 h
    rw [← hf j i (ho j hj) hi e]; exact hj
  · intro h
    exact List.mem_map.2 ⟨i, h, rfl⟩
theorem idxOf_mapS (hf : ∀ i j, S i → S j → f i = f j → i = j) : ∀ {ord : List Nat}, (∀ x, x ∈ ord → S x) → ∀ {i : Nat}, S i → (ord.map f).idxOf (f i) = ord.idxOf i
  | [], _, _, _ => rfl
  | y :: r, ho, i, hi => by
    rw [List.map_cons, List.idxOf_cons, List.idxOf_cons]
    by_cases e : y = i
    · subst e; simp
    · have e2 : f y ≠ f i := fun h => e (hf y i (ho y (List.mem_cons_self ..)) hi h)
      rw [show (f y == f i) = false from beq_eq_false_iff_ne.2 e2, show (y == i) = false from beq_eq_false_iff_ne.2 e, idxOf_mapS hf (fun x hx => ho x (List.mem_cons_of_mem _ hx)) hi]

theorem renOrd_map (hf : ∀ i j, S i → S j → f i = f j → i = j) {ord : List Nat} (ho : ∀ x, x ∈ ord → S x) {v : GV} (hv : v.kind = 4 → S v.node.toNat) : renOrd (ord.map f) (mapV f v) = (renOrd ord v).map f := by
  unfold renOrd
  rw [mapV_kind]
  by_cases hk : v.kind = 4
  · rw [mapV_node hk]
    by_cases hm : v.node.toNat ∈ ord
    · rw [if_neg (fun h => h.2 ((mem_map_inj hf ho (hv hk)).2 hm)), if_neg (fun h => h.2 hm)]
    · rw [if_pos ⟨hk, fun h => hm ((mem_map_inj hf ho (hv hk)).1 h)⟩, if_pos ⟨hk, hm⟩, List.map_append]
      rfl
  · rw [if_neg (fun h => hk h.1), if_neg (fun h => hk h.1)]
theorem renOrd_in {ord : List Nat} (ho : ∀ x, x ∈ ord → S x) {v : GV} (hv : v.kind = 4 → S v.node.toNat) : ∀ x, x ∈ renOrd ord v → S x := by
  intro x hx
  unfold renOrd at hx
  split at hx
  · rename_i h
    rcases List.mem_append.1 hx with h1 | h1
    · exact ho x h1
    · rw [List.mem_singleton.1 h1]; exact hv h.1
  · exact ho x hx
theorem renVal_map (hf : ∀ i j, S i → S j → f i = f j → i = j) {ord : List Nat} (ho : ∀ x, x ∈ ord → S x) {v : GV} (hv : v.kind = 4 → S v.node.toNat) : renVal (ord.map f) (mapV f v) = renVal ord v := by
  by_cases hk : v.kind = 4
  · unfold renVal
    rw [mapV_kind, if_pos hk, if_pos hk, renOrd_map hf ho hv, mapV_node hk, idxOf_mapS hf (renOrd_in ho hv) (hv hk)]
    unfold mapV
    rw [if_pos hk]
  · have e : mapV f v = v := by unfold mapV; rw [if_neg hk]
    rw [e]; unfold renVal
    rw [if_neg hk, if_neg hk]
theorem renOrds_map (hf : ∀ i j, S i → S j → f i = f j → i = j) : ∀ {l : List GV} {ord : List Nat}, (∀ x, x ∈ ord → S x) → (∀ v, v ∈ l → v.kind = 4 → S v.node.toNat) → renOrds (ord.map f) (l.map (mapV f)) = (renOrds ord l).map f ∧ renVals (ord.map f) (l.map (mapV f)) = renVals ord l ∧ ∀ x, x ∈ renOrds ord l → S x
  | [], _, ho, _ => ⟨rfl, rfl, ho⟩
  | v :: l, ord, ho, hv => by
    have h0 := hv v (List.mem_cons_self ..)
    obtain ⟨h1, h2, h3⟩ := renOrds_map hf (l := l) (ord := renOrd ord v) (renOrd_in ho h0) (fun x hx => hv x (List.mem_cons_of_mem _ hx))
    refine ⟨?_, ?_, h3⟩
    · show renOrds (renOrd (ord.map f) (mapV f v)) (l.map (mapV f)) = _
      rw [renOrd_map hf ho h0]; exact h1
    · show renVal (ord.map f) (mapV f v) :: renVals (renOrd (ord.map f) (mapV f v)) (l.map (mapV f)) = renVal ord v :: renVals (renOrd ord v) l
      rw [renOrd_map hf ho h0, renVal_map hf ho h0, h2]

/-- the one graph is the other, its nodes by other numbers -/
structure MapG (f : Nat → Nat) (S : Nat → Prop) (g h : GG) : Prop where
  inj : ∀ i j, S i → S j → f i = f j → i = j
  root : g.root.kind = 4 → S g.root.node.toNat
  rootEq : h.root = mapV f g.root
  node : ∀ i, S i → h.nodes[f i]! = ⟨g.nodes[i]!.tag, g.nodes[i]!.vals.map (mapV f)⟩
  vals : ∀ i, S i → ∀ v, v ∈ g.nodes[i]!.vals → v.kind = 4 → S v.node.toNat

theorem MapG.sim {g h : GG} (m : MapG f S g h) : ∀ k, canonO h.nodes (renOrd [] h.root) k = (canonO g.nodes (renOrd [] g.root) k).map f ∧ canonN h.nodes (renOrd [] h.root) k = canonN g.nodes (renOrd [] g.root) k ∧ ∀ x, x ∈ canonO g.nodes (renOrd [] g.root) k → S x
  | 0 => by
    have h0 : ∀ x, x ∈ ([] : List Nat) → S x := fun x hx => by cases hx
    refine ⟨?_, by unfold canonN; rfl, ?_⟩
    · unfold canonO
      rw [m.rootEq]
      exact renOrd_map (ord := []) m.inj h0 m.root
    · unfold canonO
      exact renOrd_in h0 m.root
  | k + 1 => by
    obtain ⟨h1, h2, h3⟩ := m.sim k
    rw [canonO_succ, canonN_succ, canonO_succ, canonN_succ, h1, h2, List.length_map]
    by_cases hk : k < (canonO g.nodes (renOrd [] g.root) k).length
    · have e : ((canonO g.nodes (renOrd [] g.root) k).map f)[k]! = f (canonO g.nodes (renOrd [] g.root) k)[k]! := by
        rw [getElem!_pos _ k (by rw [List.length_map]; exact hk), getElem!_pos _ k hk, List.getElem_map]
      have hS := h3 _ (mem_at hk)
      obtain ⟨r1, r2, r3⟩ := renOrds_map (l := (g.nodes[(canonO g.nodes (renOrd [] g.root) k)[k]!]!).vals) m.inj h3 (m.vals _ hS)
      rw [if_pos hk, if_pos hk, if_pos hk, if_pos hk, e, m.node _ hS]
      exact ⟨r1, by rw [r2], r3⟩
    · rw [if_neg hk, if_neg hk, if_neg hk, if_neg hk]
      exact ⟨rfl, rfl, h3⟩

theorem MapG.canon {g h : GG} (m : MapG f S g h) (hg : okG g = true) (hh : okG h = true) : canon h = canon g := by
  obtain ⟨_, gr, gn⟩ := okG_parts hg
  obtain ⟨_, hr, hn⟩ := okG_parts hh
  have ig := (canonO_inv ((InvO.nil _).ren gr) gn g.nodes.length).le
  have ih := (canonO_inv ((InvO.nil _).ren hr) hn h.nodes.length).le
  have er : renVal [] h.root = renVal [] g.root := by
    rw [m.rootEq]
    exact renVal_map (ord := []) m.inj (fun x hx => by cases hx) m.root
  unfold Go.Proofs.Ytkefmpegkgpbnaa.canon
  rw [er]
  congr 1
  rcases Nat.le_total g.nodes.length h.nodes.length with hl | hl
  · obtain ⟨s1, s2, _⟩ := m.sim g.nodes.length
    have h1 : (canonO h.nodes (renOrd [] h.root) g.nodes.length).length ≤ g.nodes.length := by rw [s1, List.length_map]; exact ig
    have h2 := (canon_stable h.nodes (renOrd [] h.root) g.nodes.length h1 (h.nodes.length - g.nodes.length)).2
    rw [show g.nodes.length + (h.nodes.length - g.nodes.length) = h.nodes.length by omega] at h2
    rw [h2, s2]
  · obtain ⟨s1, s2, _⟩ := m.sim h.nodes.length
    have h1 : (canonO g.nodes (renOrd [] g.root) h.nodes.length).length ≤ h.nodes.length := by
      have := congrArg List.length s1
      rw [List.length_map] at this
      omega
    have h2 := (canon_stable g.nodes (renOrd [] g.root) h.nodes.length h1 (g.nodes.length - h.nodes.length)).2
    rw [show h.nodes.length + (g.nodes.length - h.nodes.length) = g.nodes.length by omega] at h2
    rw [h2, s2]
end

/-! a form is its own form -/
theorem prefix_renOrd (ord : List Nat) (v : GV) : ord <+: renOrd ord v := by
  unfold renOrd
  split
  · exact List.prefix_append _ _
  · exact List.prefix_refl _
theorem prefix_renOrds (l : List GV) : ∀ ord : List Nat, ord <+: renOrds ord l := by
  induction l with
  | nil => intro ord; exact List.prefix_refl _
  | cons v r ih => intro ord; exact (prefix_renOrd ord v).trans (ih (renOrd ord v))
theorem prefix_canonO (nodes : List GN) (ord0 : List Nat) {k m : Nat} (h : k ≤ m) : canonO nodes ord0 k <+: canonO nodes ord0 m := by
  induction h with
  | refl => exact List.prefix_refl _
  | step _ ih =>
    refine ih.trans ?_
    rw [canonO_succ]
    split
    · exact prefix_renOrds _ _
    · exact List.prefix_refl _
theorem idxOf_prefix {a b : List Nat} (h : a <+: b) {x : Nat} (hx : x ∈ a) : b.idxOf x = a.idxOf x := by
  obtain ⟨c, rfl⟩ := h
  rw [List.idxOf_append, if_pos hx]
theorem renVal_prefix {ord o : List Nat} {v : GV} (h : renOrd ord v <+: o) : renVal ord v = mapV (fun x => o.idxOf x) v := by
  unfold renVal mapV
  by_cases hk : v.kind = 4
  · rw [if_pos hk, if_pos hk]
    dsimp only
    rw [idxOf_prefix h (mem_renOrd hk)]
  · rw [if_neg hk, if_neg hk]
theorem renVals_prefix : ∀ (l : List GV) (ord o : List Nat), renOrds ord l <+: o → renVals ord l = l.map (mapV fun x => o.idxOf x)
  | [], _, _, _ => rfl
  | v :: l, ord, o, h => by
    show renVal ord v :: renVals (renOrd ord v) l = _
    rw [List.map_cons, renVal_prefix ((prefix_renOrds l (renOrd ord v)).trans h), renVals_prefix l (renOrd ord v) o h]
theorem mem_renOrds : ∀ (l : List GV) (ord : List Nat) (v : GV), v ∈ l → v.kind = 4 → v.node.toNat ∈ renOrds ord l
  | [], _, _, h, _ => by cases h
  | x :: l, ord, v, h, hk => by
    rcases List.mem_cons.1 h with rfl | h
    · exact (prefix_renOrds l (renOrd ord v)).subset (mem_renOrd hk)
    · exact mem_renOrds l (renOrd ord x) v h hk

theorem canonN_get (nodes : List GN) (ord0 : List Nat) : ∀ (m k : Nat), k < m → k < (canonO nodes ord0 m).length → (canonN nodes ord0 m)[k]! = ⟨(nodes[(canonO nodes ord0 m)[k]!]!).tag, (nodes[(canonO nodes ord0 m)[k]!]!).vals.map (mapV fun x => (canonO nodes ord0 m).idxOf x)⟩ ∧ ∀ v, v ∈ (nodes[(canonO nodes ord0 m)[k]!]!).vals → v.kind = 4 → v.node.toNat ∈ canonO nodes ord0 m := by
  intro m k hkm hkl
  -- in round k the node was taken
  have hk0 : k < (canonO nodes ord0 k).length := by
    by_cases h : k < (canonO nodes ord0 k).length
    · exact h
    · have h1 := (canon_stable nodes ord0 k (by omega) (m - k)).1
      rw [show k + (m - k) = m by omega] at h1
      rw [h1] at hkl
      exact hkl
  have hp := prefix_canonO nodes ord0 (Nat.le_of_lt hkm)
  have hp1 := prefix_canonO nodes ord0 (show k + 1 ≤ m by omega)
  have e1 : (canonO nodes ord0 m)[k]! = (canonO nodes ord0 k)[k]! := by
    obtain ⟨c, hc⟩ := hp
    rw [← hc, getElem!_pos _ k (by rw [List.length_append]; omega), getElem!_pos _ k hk0, List.getElem_append_left hk0]
  have es : canonO nodes ord0 (k + 1) = renOrds (canonO nodes ord0 k) (nodes[(canonO nodes ord0 k)[k]!]!).vals := by rw [canonO_succ, if_pos hk0]
  refine ⟨?_, fun v hv hk4 => ?_⟩
  · have hN : ∀ j, k + 1 ≤ j → (canonN nodes ord0 j)[k]! = (canonN nodes ord0 (k + 1))[k]! := by
      intro j hj
      induction hj with
      | refl => rfl
      | step hle ih =>
        rename_i j'
        have hlen : k < (canonN nodes ord0 j').length := by
          rw [canonN_len]
          have h3 : k + 1 ≤ j' := hle
          have := canonO_mono nodes ord0 (Nat.le_of_succ_le h3)
          omega
        rw [← ih, canonN_succ]
        split
        · rw [getElem!_pos _ k (by rw [List.length_append]; omega), getElem!_pos _ k hlen, List.getElem_append_left hlen]
        · rfl
    rw [hN m (by omega), canonN_succ, if_pos hk0, e1]
    have hl : (canonN nodes ord0 k).length = k := by rw [canonN_len]; omega
    rw [getElem!_pos _ k (by rw [List.length_append, hl]; simp), List.getElem_append_right (by omega)]
    simp only [hl, Nat.sub_self, List.getElem_cons_zero]
    rw [renVals_prefix _ _ (canonO nodes ord0 m) (by rw [← es]; exact hp1)]
  · rw [e1] at hv
    refine hp1.subset ?_
    rw [es]
    exact mem_renOrds _ _ v hv hk4

theorem canon_mapG {g : GG} (hok : okG g = true) : MapG (fun x => (canonO g.nodes (renOrd [] g.root) g.nodes.length).idxOf x) (fun x => x ∈ canonO g.nodes (renOrd [] g.root) g.nodes.length) g (canon g) := by
  obtain ⟨_, gr, gn⟩ := okG_parts hok
  have hinv := canonO_inv ((InvO.nil _).ren gr) gn g.nodes.length
  have hp0 : renOrd [] g.root <+: canonO g.nodes (renOrd [] g.root) g.nodes.length := by
    have h := prefix_canonO g.nodes (renOrd [] g.root) (Nat.zero_le g.nodes.length)
    rwa [show canonO g.nodes (renOrd [] g.root) 0 = renOrd [] g.root by unfold canonO; rfl] at h
  have hat : ∀ i, i ∈ canonO g.nodes (renOrd [] g.root) g.nodes.length → ∃ k, k < (canonO g.nodes (renOrd [] g.root) g.nodes.length).length ∧ (canonO g.nodes (renOrd [] g.root) g.nodes.length).idxOf i = k ∧ (canonO g.nodes (renOrd [] g.root) g.nodes.length)[k]! = i := fun i hi => by
    have h1 := List.idxOf_lt_length_of_mem hi
    exact ⟨_, h1, rfl, (getElem!_pos (canonO g.nodes (renOrd [] g.root) g.nodes.length) _ h1).trans (List.getElem_idxOf h1)⟩
  refine ⟨fun i j hi hj e => ?_, fun hk => ?_, ?_, fun i hi => ?_, fun i hi v hv hk => ?_⟩
  · obtain ⟨k, _, e1, e2⟩ := hat i hi
    obtain ⟨k', _, e3, e4⟩ := hat j hj
    rw [← e2, ← e4, ← e1, ← e3, e]
  · exact hp0.subset (mem_renOrd hk)
  · exact renVal_prefix hp0
  · obtain ⟨k, hk, e1, e2⟩ := hat i hi
    have h1 := (canonN_get g.nodes (renOrd [] g.root) g.nodes.length k (by have := hinv.le; omega) hk).1
    rw [e1]
    rw [e2] at h1
    exact h1
  · obtain ⟨k, hk', e1, e2⟩ := hat i hi
    have h1 := (canonN_get g.nodes (renOrd [] g.root) g.nodes.length k (by have := hinv.le; omega) hk').2
    rw [e2] at h1
    exact h1 v hv hk

theorem canon_canon {g : GG} (hok : okG g = true) : canon (canon g) = canon g := (canon_mapG hok).canon hok (canon_okG hok)

end Go.Proofs.Ytkefmpegkgpbnaa

/-
  RDV1: the program's reader: values. Own work.
-/
namespace Go.Proofs.Ytkefmpegkgpbnaa
open Go.RowKit

set_option maxHeartbeats 1000000 in
set_option maxRecDepth 100000 in
theorem readVal_nil (b : Nat) (sa : Option Addr) (cap : Nat) (bs t : List Nat)  (w : World) (hR : Rd w b sa cap bs (0 :: t))  :
    Calls Try.prog 110 #[.pointer (some ⟨b, 0, none⟩)] w (RVPost b sa cap bs (0 :: t) w) := by
  have hlt := hR.lt
  have hF0 := Four.new w ⟨0, 0, ⟨#[]⟩, 0⟩ 24
  go_enter Try.func110, Try.ntmps110
  go_wp2_with (go_at_call 135; refine (readByte_any b sa cap bs (0 :: t) _ (hR.grow (gal (gre _) _))).mono ?_; rintro e w1 h1; obtain ⟨rfl, hR1, hK1⟩ := RPost.ok h1; have hF1 := hF0.kept hK1 (by omega); obtain ⟨az, a0, a1, a2, a3, af⟩ := id hF1; have hG := Four.new w1 ⟨0, 0, ⟨#[]⟩, 0⟩ 24; have hs1 := hK1.size; simp only [World.size_alloc] at hs1)
  obtain ⟨_, f0, f1, f2, f3, _⟩ := (hF1.set4 ⟨0, 0, ⟨#[]⟩, 0⟩).alloc (.cells #[.int .i64 0, .int .i64 0, .string ⟨#[]⟩, .int .i64 0] 24)
  obtain ⟨hKF, hRF⟩ := fin4 hlt (kk ((Kept.refl _ w).alloc _) hK1) hR1 (.int .i64 0) (.int .i64 0) (.string ⟨#[]⟩) (.int .i64 0)
  refine bodyPost_ret (v := (GV.mk 0 0 ⟨#[]⟩ 0).val) (by simp [results, Try.results110, go_sem, f0, f1, f2, f3]) rfl ?_
  exact ⟨hKF.alloc _, Or.inl ⟨_, _, rfl, rfl, hRF.grow (gal (gre _) _)⟩⟩

set_option maxHeartbeats 1000000 in
set_option maxRecDepth 100000 in
theorem readVal_num (b : Nat) (sa : Option Addr) (cap : Nat) (bs t : List Nat) (n : Nat) (q : List Nat) (w : World) (hR : Rd w b sa cap bs (1 :: t)) (hq : Hid (rdNum 0 0 t = some (n, q))) :
    Calls Try.prog 110 #[.pointer (some ⟨b, 0, none⟩)] w (RVPost b sa cap bs (1 :: t) w) := by
  have hlt := hR.lt
  have hF0 := Four.new w ⟨0, 0, ⟨#[]⟩, 0⟩ 24
  have hn := rdNum_lt 0 0 t n q (by omega) hq.out
  go_enter Try.func110, Try.ntmps110
  go_wp2_with (first
    | (go_at_call 135; refine (readByte_any b sa cap bs (1 :: t) _ (hR.grow (gal (gre _) _))).mono ?_; rintro e w1 h1; obtain ⟨rfl, hR1, hK1⟩ := RPost.ok h1; have hF1 := hF0.kept hK1 (by omega); obtain ⟨az, a0, a1, a2, a3, af⟩ := id hF1; have hG := Four.new w1 ⟨1, 0, ⟨#[]⟩, 0⟩ 24; have hs1 := hK1.size; simp only [World.size_alloc] at hs1)
    | (go_at_call 134; refine (readNumber_any b sa cap bs t _ (hR1.grow (gal (gre _) _))).mono ?_; rintro e w2 h2; rw [hq.out] at h2; obtain ⟨rfl, hR2, hK2⟩ := RPost.ok h2; have hF2 := (hF1.alloc (.cells #[.int .i64 1, .int .i64 0, .string ⟨#[]⟩, .int .i64 0] 24)).kept hK2 (by omega); obtain ⟨bz, b0, b1, b2, b3, bf⟩ := id hF2; have hG2 := hG.kept hK2 (by omega); obtain ⟨gz, g0, g1, g2, g3, gf⟩ := id hG2; have hs2 := hK2.size; simp only [World.size_alloc] at hs2)
    | (go_at_call 136; refine (signed_any n _ hn).mono ?_; rintro e w3 ⟨rfl, hb3⟩; obtain ⟨iz, i0, i1, i2, i3, if_⟩ := hG2.kept (Kept.of_below hb3 (fun _ => False)) (fun e => e); obtain ⟨cz, c0, c1, c2, c3, cf⟩ := hF2.kept (Kept.of_below hb3 (fun _ => False)) (fun e => e)))
  have hKX := kk (kk ((kk ((Kept.refl _ w).alloc _) hK1).alloc (.cells #[.int .i64 1, .int .i64 0, .string ⟨#[]⟩, .int .i64 0] 24)) hK2) (Kept.of_below hb3 _)
  have hRX := (hR2.grow hb3).kept ((Kept.refl (fun k => k = w1.heap.size) w3).set (a := ⟨w1.heap.size, 1, none⟩) (fun _ => rfl) (.int .i64 (zag n))) (fun k hk e => by omega)
  obtain ⟨hKF, hRF⟩ := fin4 hlt (hKX.set (a := ⟨w1.heap.size, 1, none⟩) (fun h => absurd h (by show ¬ w1.heap.size < _; omega)) (.int .i64 (zag n))) hRX (.int .i64 1) (.int .i64 (zag n)) (.string ⟨#[]⟩) (.int .i64 0)
  refine bodyPost_ret (v := (GV.mk 1 (zag n) ⟨#[]⟩ 0).val) (by simp [results, Try.results110, go_sem, c0, c1, c2, c3]) rfl ?_
  exact ⟨hKF, Or.inl ⟨⟨1, (zag n), ⟨#[]⟩, 0⟩, q, by show rdVal (1 :: t) = _; simp [rdVal, hq.out], rfl, hRF⟩⟩

set_option maxHeartbeats 1000000 in
set_option maxRecDepth 100000 in
theorem readVal_num_no (b : Nat) (sa : Option Addr) (cap : Nat) (bs t : List Nat)  (w : World) (hR : Rd w b sa cap bs (1 :: t)) (hq : Hid (rdNum 0 0 t = none)) :
    Calls Try.prog 110 #[.pointer (some ⟨b, 0, none⟩)] w (RVPost b sa cap bs (1 :: t) w) := by
  have hlt := hR.lt
  have hF0 := Four.new w ⟨0, 0, ⟨#[]⟩, 0⟩ 24
  go_enter Try.func110, Try.ntmps110
  go_wp2_with (first
    | (go_at_call 135; refine (readByte_any b sa cap bs (1 :: t) _ (hR.grow (gal (gre _) _))).mono ?_; rintro e w1 h1; obtain ⟨rfl, hR1, hK1⟩ := RPost.ok h1; have hF1 := hF0.kept hK1 (by omega); obtain ⟨az, a0, a1, a2, a3, af⟩ := id hF1; have hG := Four.new w1 ⟨1, 0, ⟨#[]⟩, 0⟩ 24; have hs1 := hK1.size; simp only [World.size_alloc] at hs1)
    | (go_at_call 134; refine (readNumber_any b sa cap bs t _ (hR1.grow (gal (gre _) _))).mono ?_; rintro e w2 h2; rw [hq.out] at h2; obtain ⟨rfl, hK2⟩ := RPost.no h2))
  exact ⟨rfl, kk ((kk ((Kept.refl _ w).alloc _) hK1).alloc (.cells #[.int .i64 1, .int .i64 0, .string ⟨#[]⟩, .int .i64 0] 24)) hK2, Or.inr ⟨by show rdVal (1 :: t) = _; simp [rdVal, hq.out], rfl⟩⟩

end Go.Proofs.Ytkefmpegkgpbnaa

/-
  RDV2: the program's reader: values. Own work.
-/
namespace Go.Proofs.Ytkefmpegkgpbnaa
open Go.RowKit

set_option maxHeartbeats 1000000 in
set_option maxRecDepth 100000 in
theorem readVal_bits (b : Nat) (sa : Option Addr) (cap : Nat) (bs t : List Nat) (n : Int) (q : List Nat) (w : World) (hR : Rd w b sa cap bs (2 :: t)) (hq : Hid (rdLow 8 0 0 t = some (n, q))) :
    Calls Try.prog 110 #[.pointer (some ⟨b, 0, none⟩)] w (RVPost b sa cap bs (2 :: t) w) := by
  have hlt := hR.lt
  have hF0 := Four.new w ⟨0, 0, ⟨#[]⟩, 0⟩ 24
  go_enter Try.func110, Try.ntmps110
  go_wp2_with (first
    | (go_at_call 135; refine (readByte_any b sa cap bs (2 :: t) _ (hR.grow (gal (gre _) _))).mono ?_; rintro e w1 h1; obtain ⟨rfl, hR1, hK1⟩ := RPost.ok h1; have hF1 := hF0.kept hK1 (by omega); obtain ⟨az, a0, a1, a2, a3, af⟩ := id hF1; have hG := Four.new w1 ⟨2, 0, ⟨#[]⟩, 0⟩ 24; have hs1 := hK1.size; simp only [World.size_alloc] at hs1)
    | (go_at_call 137; refine (readWord_any b sa cap bs t _ (hR1.grow (gal (gre _) _))).mono ?_; rintro e w2 h2; rw [hq.out] at h2; obtain ⟨rfl, hR2, hK2⟩ := RPost.ok h2; have hF2 := (hF1.alloc (.cells #[.int .i64 2, .int .i64 0, .string ⟨#[]⟩, .int .i64 0] 24)).kept hK2 (by omega); obtain ⟨bz, b0, b1, b2, b3, bf⟩ := id hF2; have hG2 := hG.kept hK2 (by omega); obtain ⟨gz, g0, g1, g2, g3, gf⟩ := id hG2; have hs2 := hK2.size; simp only [World.size_alloc] at hs2))
  have hKX := kk ((kk ((Kept.refl _ w).alloc _) hK1).alloc (.cells #[.int .i64 2, .int .i64 0, .string ⟨#[]⟩, .int .i64 0] 24)) hK2
  have hRX := (hR2).kept ((Kept.refl (fun k => k = w1.heap.size) w2).set (a := ⟨w1.heap.size, 1, none⟩) (fun _ => rfl) (.int .i64 n)) (fun k hk e => by omega)
  obtain ⟨hKF, hRF⟩ := fin4 hlt (hKX.set (a := ⟨w1.heap.size, 1, none⟩) (fun h => absurd h (by show ¬ w1.heap.size < _; omega)) (.int .i64 n)) hRX (.int .i64 2) (.int .i64 n) (.string ⟨#[]⟩) (.int .i64 0)
  refine bodyPost_ret (v := (GV.mk 2 n ⟨#[]⟩ 0).val) (by simp [results, Try.results110, go_sem, b0, b1, b2, b3]) rfl ?_
  exact ⟨hKF, Or.inl ⟨⟨2, n, ⟨#[]⟩, 0⟩, q, by show rdVal (2 :: t) = _; simp [rdVal, hq.out], rfl, hRF⟩⟩

set_option maxHeartbeats 1000000 in
set_option maxRecDepth 100000 in
theorem readVal_bits_no (b : Nat) (sa : Option Addr) (cap : Nat) (bs t : List Nat)  (w : World) (hR : Rd w b sa cap bs (2 :: t)) (hq : Hid (rdLow 8 0 0 t = none)) :
    Calls Try.prog 110 #[.pointer (some ⟨b, 0, none⟩)] w (RVPost b sa cap bs (2 :: t) w) := by
  have hlt := hR.lt
  have hF0 := Four.new w ⟨0, 0, ⟨#[]⟩, 0⟩ 24
  go_enter Try.func110, Try.ntmps110
  go_wp2_with (first
    | (go_at_call 135; refine (readByte_any b sa cap bs (2 :: t) _ (hR.grow (gal (gre _) _))).mono ?_; rintro e w1 h1; obtain ⟨rfl, hR1, hK1⟩ := RPost.ok h1; have hF1 := hF0.kept hK1 (by omega); obtain ⟨az, a0, a1, a2, a3, af⟩ := id hF1; have hG := Four.new w1 ⟨2, 0, ⟨#[]⟩, 0⟩ 24; have hs1 := hK1.size; simp only [World.size_alloc] at hs1)
    | (go_at_call 137; refine (readWord_any b sa cap bs t _ (hR1.grow (gal (gre _) _))).mono ?_; rintro e w2 h2; rw [hq.out] at h2; obtain ⟨rfl, hK2⟩ := RPost.no h2))
  exact ⟨rfl, kk ((kk ((Kept.refl _ w).alloc _) hK1).alloc (.cells #[.int .i64 2, .int .i64 0, .string ⟨#[]⟩, .int .i64 0] 24)) hK2, Or.inr ⟨by show rdVal (2 :: t) = _; simp [rdVal, hq.out], rfl⟩⟩

set_option maxHeartbeats 1000000 in
set_option maxRecDepth 100000 in
theorem readVal_node (b : Nat) (sa : Option Addr) (cap : Nat) (bs t : List Nat) (n : Nat) (q : List Nat) (w : World) (hR : Rd w b sa cap bs (4 :: t)) (hq : Hid (rdCount 300 t = some (n, q))) :
    Calls Try.prog 110 #[.pointer (some ⟨b, 0, none⟩)] w (RVPost b sa cap bs (4 :: t) w) := by
  have hlt := hR.lt
  have hF0 := Four.new w ⟨0, 0, ⟨#[]⟩, 0⟩ 24
  go_enter Try.func110, Try.ntmps110
  go_wp2_with (first
    | (go_at_call 135; refine (readByte_any b sa cap bs (4 :: t) _ (hR.grow (gal (gre _) _))).mono ?_; rintro e w1 h1; obtain ⟨rfl, hR1, hK1⟩ := RPost.ok h1; have hF1 := hF0.kept hK1 (by omega); obtain ⟨az, a0, a1, a2, a3, af⟩ := id hF1; have hG := Four.new w1 ⟨4, 0, ⟨#[]⟩, 0⟩ 24; have hs1 := hK1.size; simp only [World.size_alloc] at hs1)
    | (go_at_call 109; refine (readCount_any b sa cap bs t 300 _ _ (hR1.grow (gal (gre _) _)) rfl (by omega)).mono ?_; rintro e w2 h2; rw [hq.out] at h2; obtain ⟨rfl, hR2, hK2⟩ := RPost.ok h2; have hF2 := (hF1.alloc (.cells #[.int .i64 4, .int .i64 0, .string ⟨#[]⟩, .int .i64 0] 24)).kept hK2 (by omega); obtain ⟨bz, b0, b1, b2, b3, bf⟩ := id hF2; have hG2 := hG.kept hK2 (by omega); obtain ⟨gz, g0, g1, g2, g3, gf⟩ := id hG2; have hs2 := hK2.size; simp only [World.size_alloc] at hs2))
  have hKX := kk ((kk ((Kept.refl _ w).alloc _) hK1).alloc (.cells #[.int .i64 4, .int .i64 0, .string ⟨#[]⟩, .int .i64 0] 24)) hK2
  have hRX := (hR2).kept ((Kept.refl (fun k => k = w1.heap.size) w2).set (a := ⟨w1.heap.size, 3, none⟩) (fun _ => rfl) (.int .i64 (n : Int))) (fun k hk e => by omega)
  obtain ⟨hKF, hRF⟩ := fin4 hlt (hKX.set (a := ⟨w1.heap.size, 3, none⟩) (fun h => absurd h (by show ¬ w1.heap.size < _; omega)) (.int .i64 (n : Int))) hRX (.int .i64 4) (.int .i64 0) (.string ⟨#[]⟩) (.int .i64 (n : Int))
  refine bodyPost_ret (v := (GV.mk 4 0 ⟨#[]⟩ (n : Int)).val) (by simp [results, Try.results110, go_sem, b0, b1, b2, b3]) rfl ?_
  exact ⟨hKF, Or.inl ⟨⟨4, 0, ⟨#[]⟩, (n : Int)⟩, q, by show rdVal (4 :: t) = _; simp [rdVal, hq.out], rfl, hRF⟩⟩

end Go.Proofs.Ytkefmpegkgpbnaa

/-
  RDV3: the program's reader: values. Own work.
-/
namespace Go.Proofs.Ytkefmpegkgpbnaa
open Go.RowKit

set_option maxHeartbeats 1000000 in
set_option maxRecDepth 100000 in
theorem readVal_node_no (b : Nat) (sa : Option Addr) (cap : Nat) (bs t : List Nat)  (w : World) (hR : Rd w b sa cap bs (4 :: t)) (hq : Hid (rdCount 300 t = none)) :
    Calls Try.prog 110 #[.pointer (some ⟨b, 0, none⟩)] w (RVPost b sa cap bs (4 :: t) w) := by
  have hlt := hR.lt
  have hF0 := Four.new w ⟨0, 0, ⟨#[]⟩, 0⟩ 24
  go_enter Try.func110, Try.ntmps110
  go_wp2_with (first
    | (go_at_call 135; refine (readByte_any b sa cap bs (4 :: t) _ (hR.grow (gal (gre _) _))).mono ?_; rintro e w1 h1; obtain ⟨rfl, hR1, hK1⟩ := RPost.ok h1; have hF1 := hF0.kept hK1 (by omega); obtain ⟨az, a0, a1, a2, a3, af⟩ := id hF1; have hG := Four.new w1 ⟨4, 0, ⟨#[]⟩, 0⟩ 24; have hs1 := hK1.size; simp only [World.size_alloc] at hs1)
    | (go_at_call 109; refine (readCount_any b sa cap bs t 300 _ _ (hR1.grow (gal (gre _) _)) rfl (by omega)).mono ?_; rintro e w2 h2; rw [hq.out] at h2; obtain ⟨rfl, hK2⟩ := RPost.no h2))
  exact ⟨rfl, kk ((kk ((Kept.refl _ w).alloc _) hK1).alloc (.cells #[.int .i64 4, .int .i64 0, .string ⟨#[]⟩, .int .i64 0] 24)) hK2, Or.inr ⟨by show rdVal (4 :: t) = _; simp [rdVal, hq.out], rfl⟩⟩

set_option maxHeartbeats 1000000 in
set_option maxRecDepth 100000 in
theorem readVal_text (b : Nat) (sa : Option Addr) (cap : Nat) (bs t : List Nat) (n : Nat) (q : List Nat) (s : ByteArray) (q2 : List Nat) (w : World) (hR : Rd w b sa cap bs (3 :: t)) (hq : Hid (rdCount 1000 t = some (n, q))) (hn : n ≤ 1048576) (hq2 : Hid (rdText n q = some (s, q2))) :
    Calls Try.prog 110 #[.pointer (some ⟨b, 0, none⟩)] w (RVPost b sa cap bs (3 :: t) w) := by
  have hlt := hR.lt
  have hF0 := Four.new w ⟨0, 0, ⟨#[]⟩, 0⟩ 24
  go_enter Try.func110, Try.ntmps110
  go_wp2_with (first
    | (go_at_call 135; refine (readByte_any b sa cap bs (3 :: t) _ (hR.grow (gal (gre _) _))).mono ?_; rintro e w1 h1; obtain ⟨rfl, hR1, hK1⟩ := RPost.ok h1; have hF1 := hF0.kept hK1 (by omega); obtain ⟨az, a0, a1, a2, a3, af⟩ := id hF1; have hG := Four.new w1 ⟨3, 0, ⟨#[]⟩, 0⟩ 24; have hs1 := hK1.size; simp only [World.size_alloc] at hs1)
    | (go_at_call 109; refine (readCount_any b sa cap bs t 1000 _ _ (hR1.grow (gal (gre _) _)) rfl (by omega)).mono ?_; rintro e w2 h2; rw [hq.out] at h2; obtain ⟨rfl, hR2, hK2⟩ := RPost.ok h2; have hF2 := (hF1.alloc (.cells #[.int .i64 3, .int .i64 0, .string ⟨#[]⟩, .int .i64 0] 24)).kept hK2 (by omega); obtain ⟨bz, b0, b1, b2, b3, bf⟩ := id hF2; have hG2 := hG.kept hK2 (by omega); obtain ⟨gz, g0, g1, g2, g3, gf⟩ := id hG2; have hs2 := hK2.size; simp only [World.size_alloc] at hs2)
    | (go_at_call 108; refine (readText_any b sa cap bs q n _ _ hR2 rfl hn).mono ?_; rintro e w3 h3; rw [hq2.out] at h3; obtain ⟨rfl, hR3, hK3⟩ := RPost.ok h3; obtain ⟨iz, i0, i1, i2, i3, if_⟩ := hG2.kept hK3 (by omega); obtain ⟨cz, c0, c1, c2, c3, cf⟩ := hF2.kept hK3 (by omega); have hs3 := hK3.size))
  have hKX := kk (kk ((kk ((Kept.refl _ w).alloc _) hK1).alloc (.cells #[.int .i64 3, .int .i64 0, .string ⟨#[]⟩, .int .i64 0] 24)) hK2) hK3
  have hRX := (hR3).kept ((Kept.refl (fun k => k = w1.heap.size) w3).set (a := ⟨w1.heap.size, 2, none⟩) (fun _ => rfl) (.string s)) (fun k hk e => by omega)
  obtain ⟨hKF, hRF⟩ := fin4 hlt (hKX.set (a := ⟨w1.heap.size, 2, none⟩) (fun h => absurd h (by show ¬ w1.heap.size < _; omega)) (.string s)) hRX (.int .i64 3) (.int .i64 0) (.string s) (.int .i64 0)
  refine bodyPost_ret (v := (GV.mk 3 0 s 0).val) (by simp [results, Try.results110, go_sem, c0, c1, c2, c3]) rfl ?_
  exact ⟨hKF, Or.inl ⟨⟨3, 0, s, 0⟩, q2, by show rdVal (3 :: t) = _; simp [rdVal, hq.out, hq2.out], rfl, hRF⟩⟩

set_option maxHeartbeats 1000000 in
set_option maxRecDepth 100000 in
theorem readVal_text_no (b : Nat) (sa : Option Addr) (cap : Nat) (bs t : List Nat)  (w : World) (hR : Rd w b sa cap bs (3 :: t)) (hq : Hid (rdCount 1000 t = none)) :
    Calls Try.prog 110 #[.pointer (some ⟨b, 0, none⟩)] w (RVPost b sa cap bs (3 :: t) w) := by
  have hlt := hR.lt
  have hF0 := Four.new w ⟨0, 0, ⟨#[]⟩, 0⟩ 24
  go_enter Try.func110, Try.ntmps110
  go_wp2_with (first
    | (go_at_call 135; refine (readByte_any b sa cap bs (3 :: t) _ (hR.grow (gal (gre _) _))).mono ?_; rintro e w1 h1; obtain ⟨rfl, hR1, hK1⟩ := RPost.ok h1; have hF1 := hF0.kept hK1 (by omega); obtain ⟨az, a0, a1, a2, a3, af⟩ := id hF1; have hG := Four.new w1 ⟨3, 0, ⟨#[]⟩, 0⟩ 24; have hs1 := hK1.size; simp only [World.size_alloc] at hs1)
    | (go_at_call 109; refine (readCount_any b sa cap bs t 1000 _ _ (hR1.grow (gal (gre _) _)) rfl (by omega)).mono ?_; rintro e w2 h2; rw [hq.out] at h2; obtain ⟨rfl, hK2⟩ := RPost.no h2))
  exact ⟨rfl, kk ((kk ((Kept.refl _ w).alloc _) hK1).alloc (.cells #[.int .i64 3, .int .i64 0, .string ⟨#[]⟩, .int .i64 0] 24)) hK2, Or.inr ⟨by show rdVal (3 :: t) = _; simp [rdVal, hq.out], rfl⟩⟩

end Go.Proofs.Ytkefmpegkgpbnaa

/-
  RDV4: the program's reader: values. Own work.
-/
namespace Go.Proofs.Ytkefmpegkgpbnaa
open Go.RowKit

set_option maxHeartbeats 1000000 in
set_option maxRecDepth 100000 in
theorem readVal_text_no2 (b : Nat) (sa : Option Addr) (cap : Nat) (bs t : List Nat) (n : Nat) (q : List Nat) (w : World) (hR : Rd w b sa cap bs (3 :: t)) (hq : Hid (rdCount 1000 t = some (n, q))) (hn : n ≤ 1048576) (hq2 : Hid (rdText n q = none)) :
    Calls Try.prog 110 #[.pointer (some ⟨b, 0, none⟩)] w (RVPost b sa cap bs (3 :: t) w) := by
  have hlt := hR.lt
  have hF0 := Four.new w ⟨0, 0, ⟨#[]⟩, 0⟩ 24
  go_enter Try.func110, Try.ntmps110
  go_wp2_with (first
    | (go_at_call 135; refine (readByte_any b sa cap bs (3 :: t) _ (hR.grow (gal (gre _) _))).mono ?_; rintro e w1 h1; obtain ⟨rfl, hR1, hK1⟩ := RPost.ok h1; have hF1 := hF0.kept hK1 (by omega); obtain ⟨az, a0, a1, a2, a3, af⟩ := id hF1; have hG := Four.new w1 ⟨3, 0, ⟨#[]⟩, 0⟩ 24; have hs1 := hK1.size; simp only [World.size_alloc] at hs1)
    | (go_at_call 109; refine (readCount_any b sa cap bs t 1000 _ _ (hR1.grow (gal (gre _) _)) rfl (by omega)).mono ?_; rintro e w2 h2; rw [hq.out] at h2; obtain ⟨rfl, hR2, hK2⟩ := RPost.ok h2; have hF2 := (hF1.alloc (.cells #[.int .i64 3, .int .i64 0, .string ⟨#[]⟩, .int .i64 0] 24)).kept hK2 (by omega); obtain ⟨bz, b0, b1, b2, b3, bf⟩ := id hF2; have hG2 := hG.kept hK2 (by omega); obtain ⟨gz, g0, g1, g2, g3, gf⟩ := id hG2; have hs2 := hK2.size; simp only [World.size_alloc] at hs2)
    | (go_at_call 108; refine (readText_any b sa cap bs q n _ _ hR2 rfl hn).mono ?_; rintro e w3 h3; rw [hq2.out] at h3; obtain ⟨rfl, hK3⟩ := RPost.no h3))
  exact ⟨rfl, kk (kk ((kk ((Kept.refl _ w).alloc _) hK1).alloc (.cells #[.int .i64 3, .int .i64 0, .string ⟨#[]⟩, .int .i64 0] 24)) hK2) hK3, Or.inr ⟨by show rdVal (3 :: t) = _; simp [rdVal, hq.out, hq2.out], rfl⟩⟩

set_option maxHeartbeats 1000000 in
set_option maxRecDepth 100000 in
theorem readVal_other (b : Nat) (sa : Option Addr) (cap : Nat) (bs t : List Nat) (x : Nat) (w : World) (hR : Rd w b sa cap bs (x :: t)) (hx : 4 < x) :
    Calls Try.prog 110 #[.pointer (some ⟨b, 0, none⟩)] w (RVPost b sa cap bs (x :: t) w) := by
  have hlt := hR.lt
  have hx256 : x < 256 := (hR.head (x := x) (r' := t) rfl).1
  have hF0 := Four.new w ⟨0, 0, ⟨#[]⟩, 0⟩ 24
  have n0 : ((x : Int) == 0) = false := by simp; omega
  have n1 : ((x : Int) == 1) = false := by simp; omega
  have n2 : ((x : Int) == 2) = false := by simp; omega
  have n3 : ((x : Int) == 3) = false := by simp; omega
  have n4 : ((x : Int) == 4) = false := by simp; omega
  go_enter Try.func110, Try.ntmps110
  go_wp2_with (go_at_call 135; refine (readByte_any b sa cap bs (x :: t) _ (hR.grow (gal (gre _) _))).mono ?_; rintro e w1 h1; obtain ⟨rfl, hR1, hK1⟩ := RPost.ok h1)
  exact ⟨rfl, (kk ((Kept.refl _ w).alloc _) hK1).alloc _, Or.inr ⟨by show rdVal (x :: t) = _; unfold rdVal; dsimp only; rw [if_neg (by omega), if_neg (by omega), if_neg (by omega), if_neg (by omega), if_neg (by omega)], rfl⟩⟩

set_option maxRecDepth 100000 in
theorem readVal_none (b : Nat) (sa : Option Addr) (cap : Nat) (bs : List Nat) (w : World) (hR : Rd w b sa cap bs []) :
    Calls Try.prog 110 #[.pointer (some ⟨b, 0, none⟩)] w (RVPost b sa cap bs [] w) := by
  go_enter Try.func110, Try.ntmps110
  go_wp2_with (go_at_call 135; refine (readByte_any b sa cap bs [] _ (hR.grow (gal (gre _) _))).mono ?_; rintro e w1 h1; obtain ⟨rfl, hK1⟩ := RPost.no h1)
  exact ⟨rfl, kk ((Kept.refl _ w).alloc _) hK1, Or.inr ⟨rfl, rfl⟩⟩

end Go.Proofs.Ytkefmpegkgpbnaa

/-
  RDV: the program's reader: any value. Own work.
-/
namespace Go.Proofs.Ytkefmpegkgpbnaa
open Go.RowKit

theorem rdCount_le {most : Nat} {r : List Nat} {n : Nat} {q : List Nat} (h : rdCount most r = some (n, q)) : n ≤ most := by
  unfold rdCount at h
  split at h
  · split at h
    · rename_i hle
      have e := congrArg (fun o => o.map Prod.fst) h
      simp only [Option.map_some, Option.some.injEq] at e
      rw [← e]; exact hle
    · cases h
  · cases h

theorem readVal_any (b : Nat) (sa : Option Addr) (cap : Nat) (bs r : List Nat) (w : World) (hR : Rd w b sa cap bs r) :
    Calls Try.prog 110 #[.pointer (some ⟨b, 0, none⟩)] w (RVPost b sa cap bs r w) := by
  cases r with
  | nil => exact readVal_none b sa cap bs w hR
  | cons x t =>
    by_cases h0 : x = 0
    · subst h0; exact readVal_nil b sa cap bs t w hR
    by_cases h1 : x = 1
    · subst h1
      cases hq : rdNum 0 0 t with
      | none => exact readVal_num_no b sa cap bs t w hR hq
      | some y => exact readVal_num b sa cap bs t y.1 y.2 w hR hq
    by_cases h2 : x = 2
    · subst h2
      cases hq : rdLow 8 0 0 t with
      | none => exact readVal_bits_no b sa cap bs t w hR hq
      | some y => exact readVal_bits b sa cap bs t y.1 y.2 w hR hq
    by_cases h3 : x = 3
    · subst h3
      cases hq : rdCount 1000 t with
      | none => exact readVal_text_no b sa cap bs t w hR hq
      | some y =>
        have hn : y.1 ≤ 1048576 := by have := rdCount_le (n := y.1) (q := y.2) hq; omega
        cases hq2 : rdText y.1 y.2 with
        | none => exact readVal_text_no2 b sa cap bs t y.1 y.2 w hR hq hn hq2
        | some z => exact readVal_text b sa cap bs t y.1 y.2 z.1 z.2 w hR hq hn hq2
    by_cases h4 : x = 4
    · subst h4
      cases hq : rdCount 300 t with
      | none => exact readVal_node_no b sa cap bs t w hR hq
      | some y => exact readVal_node b sa cap bs t y.1 y.2 w hR hq
    exact readVal_other b sa cap bs t x w hR (by omega)

end Go.Proofs.Ytkefmpegkgpbnaa

/-
  RDOK: what is read fits; images are read back. Own work.
-/
namespace Go.Proofs.Ytkefmpegkgpbnaa

theorem zag_i64 {n : Nat} (h : n < 18446744073709551616) : I64 (zag n) := by unfold I64 zag; split <;> omega
theorem wrap_i64_ok (n : Int) : I64 (IntKind.i64.wrap n) := by rw [IntKind.wrap_i64]; unfold I64; omega
theorem orI_i64 (n : Int) (b i : Nat) : I64 (orI n b i) := wrap_i64_ok _
theorem rdLow_i64 : ∀ (k i : Nat) (n : Int) (r : List Nat) (x : Int) (q : List Nat), I64 n → rdLow k i n r = some (x, q) → I64 x
  | 0, _, n, r, x, q, hn, h => by
    have e : n = x ∧ r = q := by simpa [rdLow] using h
    rw [← e.1]; exact hn
  | k + 1, _, _, [], _, _, _, h => by cases h
  | k + 1, i, n, b :: r, x, q, _, h => rdLow_i64 k (i + 1) (orI n b i) r x q (orI_i64 n b i) h
theorem strB_sizeR (xs : List Nat) : (strB xs).size = xs.length := by unfold strB; rw [Go.strOfNums_size, List.length_map]
theorem small_i64 {n : Int} (h : 0 ≤ n ∧ n ≤ 1000000) : I64 n := by unfold I64; omega
theorem zero_ok {n : Nat} (h : n ≤ 4) (m : Int) (hm : I64 m) (t : ByteArray) (ht : t.size ≤ 1000) (d : Int) (hd : I64 d) : (GV.mk (n : Int) m t d).Ok := ⟨small_i64 (by show 0 ≤ (n : Int) ∧ (n : Int) ≤ 1000000; omega), hm, by show t.size ≤ maxLen; unfold maxLen; omega, hd⟩

theorem rdVal_ok {r q : List Nat} {v : GV} (h : rdVal r = some (v, q)) : v.Ok := by
  have h0 : I64 0 := small_i64 (by omega)
  have hz : (⟨#[]⟩ : ByteArray).size ≤ 1000 := Nat.zero_le _
  cases r with
  | nil => cases h
  | cons k t =>
    unfold rdVal at h
    dsimp only at h
    split at h
    · simp only [Option.some.injEq, Prod.mk.injEq] at h
      rw [← h.1]; exact zero_ok (n := 0) (by omega) 0 h0 _ hz 0 h0
    · split at h
      · cases hq : rdNum 0 0 t with
        | none => rw [hq] at h; cases h
        | some y =>
          rw [hq] at h
          simp only [Option.map_some, Option.some.injEq, Prod.mk.injEq] at h
          rw [← h.1]; exact zero_ok (n := 1) (by omega) _ (zag_i64 (rdNum_lt 0 0 t y.1 y.2 (by omega) hq)) _ hz 0 h0
      · split at h
        · cases hq : rdLow 8 0 0 t with
          | none => rw [hq] at h; cases h
          | some y =>
            rw [hq] at h
            simp only [Option.map_some, Option.some.injEq, Prod.mk.injEq] at h
            rw [← h.1]; exact zero_ok (n := 2) (by omega) _ (rdLow_i64 8 0 0 t y.1 y.2 h0 hq) _ hz 0 h0
        · split at h
          · cases hq : rdCount 1000 t with
            | none => rw [hq] at h; cases h
            | some y =>
              rw [hq, Option.bind_some] at h
              cases hq2 : rdText y.1 y.2 with
              | none => rw [hq2] at h; cases h
              | some z =>
                rw [hq2] at h
                simp only [Option.map_some, Option.some.injEq, Prod.mk.injEq] at h
                have hz1 : z.1.size ≤ 1000 := by
                  have h1 := rdCount_le (n := y.1) (q := y.2) hq
                  unfold rdText at hq2
                  split at hq2
                  · have e2 : strB (y.2.take y.1) = z.1 := by simpa using congrArg (fun o => o.map Prod.fst) hq2
                    rw [← e2, strB_sizeR, List.length_take]; omega
                  · cases hq2
                rw [← h.1]; exact zero_ok (n := 3) (by omega) 0 h0 _ hz1 0 h0
          · split at h
            · cases hq : rdCount 300 t with
              | none => rw [hq] at h; cases h
              | some y =>
                rw [hq] at h
                simp only [Option.map_some, Option.some.injEq, Prod.mk.injEq] at h
                have h1 := rdCount_le (n := y.1) (q := y.2) hq
                rw [← h.1]; exact zero_ok (n := 4) (by omega) 0 h0 _ hz _ (small_i64 (by omega))
            · cases h

theorem rdVals_ok : ∀ (m : Nat) (r q : List Nat) (vs : List GV), rdVals m r = some (vs, q) → vs.length = m ∧ ∀ v, v ∈ vs → v.Ok
  | 0, r, q, vs, h => by
    have e : [] = vs := by simpa [rdVals] using congrArg (fun o => o.map Prod.fst) h
    rw [← e]; exact ⟨rfl, fun v hv => by cases hv⟩
  | m + 1, r, q, vs, h => by
    rw [rdVals] at h
    cases hv : rdVal r with
    | none => rw [hv] at h; cases h
    | some x =>
      rw [hv, Option.bind_some] at h
      cases hw : rdVals m x.2 with
      | none => rw [hw] at h; cases h
      | some y =>
        rw [hw] at h
        have e : x.1 :: y.1 = vs := by simpa using congrArg (fun o => o.map Prod.fst) h
        obtain ⟨h1, h2⟩ := rdVals_ok m x.2 y.2 y.1 hw
        rw [← e]
        refine ⟨by rw [List.length_cons, h1], fun v hm => ?_⟩
        rcases List.mem_cons.1 hm with rfl | hm
        · exact rdVal_ok (q := x.2) hv
        · exact h2 v hm
theorem rdNode_ok {r q : List Nat} {n : GN} (h : rdNode r = some (n, q)) : n.Ok := by
  unfold rdNode at h
  cases ht : rdCount 1000 r with
  | none => rw [ht] at h; cases h
  | some t =>
    rw [ht, Option.bind_some] at h
    cases hm : rdCount 100 t.2 with
    | none => rw [hm] at h; cases h
    | some m =>
      rw [hm, Option.bind_some] at h
      cases hv : rdVals m.1 m.2 with
      | none => rw [hv] at h; cases h
      | some y =>
        rw [hv] at h
        have e : (⟨(t.1 : Int), y.1⟩ : GN) = n := by simpa using congrArg (fun o => o.map Prod.fst) h
        obtain ⟨h1, h2⟩ := rdVals_ok m.1 m.2 y.2 y.1 hv
        have h3 := rdCount_le (n := t.1) (q := t.2) ht
        have h4 := rdCount_le (n := m.1) (q := m.2) hm
        rw [← e]
        exact ⟨small_i64 (by show 0 ≤ (t.1 : Int) ∧ (t.1 : Int) ≤ 1000000; omega), by show y.1.length ≤ maxLen; unfold maxLen; omega, h2⟩
theorem rdNodes_ok : ∀ (m : Nat) (r q : List Nat) (ns : List GN), rdNodes m r = some (ns, q) → ns.length = m ∧ ∀ n, n ∈ ns → n.Ok
  | 0, r, q, vs, h => by
    have e : [] = vs := by simpa [rdNodes] using congrArg (fun o => o.map Prod.fst) h
    rw [← e]; exact ⟨rfl, fun v hv => by cases hv⟩
  | m + 1, r, q, vs, h => by
    rw [rdNodes] at h
    cases hv : rdNode r with
    | none => rw [hv] at h; cases h
    | some x =>
      rw [hv, Option.bind_some] at h
      cases hw : rdNodes m x.2 with
      | none => rw [hw] at h; cases h
      | some y =>
        rw [hw] at h
        have e : x.1 :: y.1 = vs := by simpa using congrArg (fun o => o.map Prod.fst) h
        obtain ⟨h1, h2⟩ := rdNodes_ok m x.2 y.2 y.1 hw
        rw [← e]
        refine ⟨by rw [List.length_cons, h1], fun v hm => ?_⟩
        rcases List.mem_cons.1 hm with rfl | hm
        · exact rdNode_ok (q := x.2) hv
        · exact h2 v hm
theorem rdGraph_ok {r q : List Nat} {g : GG} (h : rdGraph r = some (g, q)) : g.Ok := by
  unfold rdGraph at h
  cases ht : rdText 2 r with
  | none => rw [ht] at h; cases h
  | some t =>
    rw [ht, Option.bind_some] at h
    split at h
    · cases hm : rdCount 300 t.2 with
      | none => rw [hm] at h; cases h
      | some m =>
        rw [hm, Option.bind_some] at h
        cases hv : rdVal m.2 with
        | none => rw [hv] at h; cases h
        | some x =>
          rw [hv, Option.bind_some] at h
          cases hn : rdNodes m.1 x.2 with
          | none => rw [hn] at h; cases h
          | some y =>
            rw [hn] at h
            have e : (⟨x.1, y.1⟩ : GG) = g := by simpa using congrArg (fun o => o.map Prod.fst) h
            obtain ⟨h1, h2⟩ := rdNodes_ok m.1 x.2 y.2 y.1 hn
            have h4 := rdCount_le (n := m.1) (q := m.2) hm
            rw [← e]
            exact ⟨rdVal_ok (q := x.2) hv, by show y.1.length ≤ maxLen; unfold maxLen; omega, h2⟩
    · cases h

/-! images are read back -/
theorem rdVal_back {n : Nat} {v : GV} (hn : n ≤ 300) (ho : v.Ok) (h : okV n v = true) (r : List Nat) : rdVal (valB v ++ r) = some (v, r) := by
  rcases okV_cases h with rfl | ⟨m, rfl⟩ | ⟨m, rfl⟩ | ⟨t, ht, rfl⟩ | ⟨k, hk, rfl⟩
  · rfl
  · show rdVal (1 :: (numB (zig m) ++ r)) = _
    simp [rdVal, rdNum_num (zig_lt ho.num), zag_zig]
  · show rdVal (2 :: (lowB 8 (u64n m) ++ r)) = _
    simp [rdVal, rdLow_word ho.num]
  · show rdVal (3 :: (numB t.size ++ bsOf t ++ r)) = _
    rw [List.append_assoc]
    simp [rdVal, rdCount_num (most := 1000) ht (by omega), rdText_bs]
  · show rdVal (4 :: (numB k ++ r)) = _
    simp [rdVal, rdCount_num (m := k) (most := 300) (by omega) (by omega)]
theorem rdVals_back {n : Nat} (hn : n ≤ 300) : ∀ (l : List GV) (r : List Nat), (∀ v, v ∈ l → v.Ok) → (∀ v, v ∈ l → okV n v = true) → rdVals l.length (valsB l ++ r) = some (l, r)
  | [], r, _, _ => rfl
  | v :: l, r, ho, h => by
    show rdVals (l.length + 1) (valB v ++ valsB l ++ r) = _
    rw [rdVals, List.append_assoc, rdVal_back hn (ho v (List.mem_cons_self ..)) (h v (List.mem_cons_self ..)), Option.bind_some, rdVals_back hn l r (fun x hx => ho x (List.mem_cons_of_mem _ hx)) (fun x hx => h x (List.mem_cons_of_mem _ hx))]
    rfl
theorem rdNode_back {n : Nat} (hn : n ≤ 300) {x : GN} (ho : x.Ok) (h : okN n x = true) (r : List Nat) : rdNode (nodeB x ++ r) = some (x, r) := by
  obtain ⟨h1, h2⟩ := okN_parts h
  have h3 := okN_tag' h
  unfold rdNode nodeB
  rw [List.append_assoc, List.append_assoc, rdCount_num (m := x.tag.toNat) (most := 1000) (by omega) (by omega), Option.bind_some]
  dsimp only
  rw [rdCount_num (m := x.vals.length) (most := 100) h1 (by omega), Option.bind_some]
  dsimp only
  rw [rdVals_back hn x.vals r ho.vals h2]
  show some ((⟨((x.tag.toNat : Nat) : Int), x.vals⟩ : GN), r) = _
  rw [show ((x.tag.toNat : Nat) : Int) = x.tag by omega]
theorem rdNodes_back {n : Nat} (hn : n ≤ 300) : ∀ (l : List GN) (r : List Nat), (∀ v, v ∈ l → v.Ok) → (∀ v, v ∈ l → okN n v = true) → rdNodes l.length (nodesB l ++ r) = some (l, r)
  | [], r, _, _ => rfl
  | v :: l, r, ho, h => by
    show rdNodes (l.length + 1) (nodeB v ++ nodesB l ++ r) = _
    rw [rdNodes, List.append_assoc, rdNode_back hn (ho v (List.mem_cons_self ..)) (h v (List.mem_cons_self ..)), Option.bind_some, rdNodes_back hn l r (fun x hx => ho x (List.mem_cons_of_mem _ hx)) (fun x hx => h x (List.mem_cons_of_mem _ hx))]
    rfl
theorem rdGraph_back {g : GG} (ho : g.Ok) (hok : okG g = true) (r : List Nat) : rdGraph (graphB g ++ r) = some (g, r) := by
  obtain ⟨hn, hroot, hnodes⟩ := okG_parts hok
  have e0 : rdText 2 (graphB g ++ r) = some (⟨#[72, 49]⟩, numB g.nodes.length ++ (valB g.root ++ (nodesB g.nodes ++ r))) := by
    have h1 := rdText_bs ⟨#[72, 49]⟩ (numB g.nodes.length ++ (valB g.root ++ (nodesB g.nodes ++ r)))
    have e : graphB g ++ r = bsOf ⟨#[72, 49]⟩ ++ (numB g.nodes.length ++ (valB g.root ++ (nodesB g.nodes ++ r))) := by unfold graphB; simp only [List.append_assoc]; rfl
    rw [e]; exact h1
  unfold rdGraph
  rw [e0, Option.bind_some, if_pos rfl]
  dsimp only
  rw [rdCount_num (m := g.nodes.length) (most := 300) hn (by omega), Option.bind_some]
  dsimp only
  rw [rdVal_back hn ho.root hroot, Option.bind_some]
  dsimp only
  rw [rdNodes_back hn g.nodes r ho.nodes hnodes]
  rfl

/-- what Unpack answers -/
def zeroG : GG := ⟨⟨0, 0, ⟨#[]⟩, 0⟩, []⟩
def unB (bs : List Nat) : Bool × GG :=
  match rdGraph bs with
  | some (g, _) => if packB g = bs then (true, g) else (false, zeroG)
  | none => (false, zeroG)

end Go.Proofs.Ytkefmpegkgpbnaa
