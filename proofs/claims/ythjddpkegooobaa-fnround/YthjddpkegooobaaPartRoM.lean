import Derived.WalkLawsBesides
import Derived.Deep.QuietTactic
import Derived.Test.YthjddpkegooobaaPartRoH

/-
  CANONS: the specification's Canon. Own work.
-/
namespace Go.Proofs.Ythjddpkegooobaa
open Go.RowKit

/-- what the specification's Canon leaves -/
def CanonSPost (g : GG) (w : World) (e : Ending) (w' : World) : Prop :=
  ∃ (na : Option Addr) (nc : Nat), e = .returned ((canonZ g).val na nc) ∧ NodesAt w'.heap.size w' na (canonZ g).nodes ∧ Below w.heap.size w w'

set_option maxRecDepth 100000 in
theorem specCanonZ_any (a : Option Addr) (cap : Nat) (g : GG) (w : World) (hg : g.Ok) (ha : NodesAt w.heap.size w a g.nodes) :
    Calls Try.prog 14 #[g.val a cap] w (CanonSPost g w) := by
  have hR0 := Five.new_at (w.alloc (.cells #[.int .i64 g.root.kind, .int .i64 g.root.num, .string g.root.text, .int .i64 g.root.node, .slice a g.nodes.length cap] 27)) ⟨0, 0, ⟨#[]⟩, 0⟩ (.slice none 0 0) 27 (w.heap.size + 1) (by simp)
  have hX0 := (GBox.new w g a cap 27).grow (gal (gre _) (.cells #[.int .i64 0, .int .i64 0, .string ⟨#[]⟩, .int .i64 0, .slice none 0 0] 27))
  cases hok : okG g with
  | false =>
    have hz : Hid (canonZ g = ⟨⟨0, 0, ⟨#[]⟩, 0⟩, []⟩) := if_neg (by rw [hok]; exact Bool.false_ne_true)
    have hok' : Hid _ := hok
    go_enter Try.func14, Try.ntmps14
    go_wp2_with (go_at_call 42; refine (specGraphOk_any a cap g _ hg (ha.grow (gal (gal (gre _) _) _))).mono ?_; rintro e w1 ⟨rfl, hb1⟩; obtain ⟨rz, r0, r1, r2, r3, r4, rf⟩ := hR0.kept (Kept.of_below hb1 (fun _ => False)) (fun e => e); rw [hok'.out])
    refine bodyPost_ret (v := .agg #[.int .i64 0, .int .i64 0, .string ⟨#[]⟩, .int .i64 0, .slice none 0 0]) (by simp [results, Try.results14, go_sem, r0, r1, r2, r3, r4]) rfl ⟨none, 0, by rw [hz.out]; rfl, by rw [hz.out]; exact fun i hi => absurd hi (Nat.not_lt_zero _), ?_⟩
    have hb2 := gca (gal (gal (gre w) _) _) hb1
    exact ((((hb2.setCell (by simp) _).setCell (by simp) _).setCell (by simp) _).setCell (by simp) _).setCell (by simp) _
  | true =>
    have hz : Hid (canonZ g = canon g) := if_pos hok
    have hok' : Hid _ := hok
    go_enter Try.func14, Try.ntmps14
    go_wp2_with (first
      | (go_at_call 42; refine (specGraphOk_any a cap g _ hg (ha.grow (gal (gal (gre _) _) _))).mono ?_; rintro e w1 ⟨rfl, hb1⟩; obtain ⟨xz, x0, x1, x2, x3, x4⟩ := hX0.grow hb1; rw [hok'.out])
      | (go_at_call 57; refine (specCanon_new a cap g _ hok'.out (ha.grow (gca (gal (gal (gre _) _) _) hb1))).mono ?_; rintro e w3 ⟨na, nc, rfl, hn3, hb3⟩; have hR3 := hR0.kept (Kept.of_below (gca hb1 hb3) (fun _ => False)) (fun e => e); obtain ⟨rz, r0, r1, r2, r3, r4, rf⟩ := id hR3))
    have hC := (((((Kept.refl (fun b => b = w.heap.size + 1) w3).set (a := ⟨w.heap.size + 1, 0, none⟩) (fun _ => rfl) (.int .i64 (canon g).root.kind)).set (a := ⟨w.heap.size + 1, 1, none⟩) (fun _ => rfl) (.int .i64 (canon g).root.num)).set (a := ⟨w.heap.size + 1, 2, none⟩) (fun _ => rfl) (.string (canon g).root.text)).set (a := ⟨w.heap.size + 1, 3, none⟩) (fun _ => rfl) (.int .i64 (canon g).root.node)).set (a := ⟨w.heap.size + 1, 4, none⟩) (fun _ => rfl) (.slice na (canon g).nodes.length nc)
    have hw1 : w.heap.size + 1 + 1 ≤ w1.heap.size := by have h1 := hb1.size; simp at h1; omega
    have hN := hn3 _ _ hC (fun b hb => by omega)
    have hb4 := gca (gca (gal (gal (gre w) _) _) hb1) hb3
    refine bodyPost_ret (v := (canon g).val na nc) (by simp [results, Try.results14, go_sem, r0, r1, r2, r3, r4]) rfl ⟨na, nc, by rw [hz.out], by rw [hz.out]; exact hN, hb4.trans (hC.below hb4.size (fun k hk hp => by omega))⟩

end Go.Proofs.Ythjddpkegooobaa

/-
  CANONMAP: numbering nodes anew changes no form. Own work.
-/
namespace Go.Proofs.Ythjddpkegooobaa

/-- a value, its node by another number -/
def mapV (f : Nat → Nat) (v : GV) : GV := if v.kind = 4 then { v with node := (f v.node.toNat : Nat) } else v
theorem mapV_kind (f : Nat → Nat) (v : GV) : (mapV f v).kind = v.kind := by unfold mapV; split <;> rfl
theorem mapV_node {f : Nat → Nat} {v : GV} (h : v.kind = 4) : (mapV f v).node.toNat = f v.node.toNat := by
  unfold mapV; rw [if_pos h]; exact Int.toNat_natCast _

section
variable {f : Nat → Nat} {S : Nat → Prop}

theorem mem_map_inj (hf : ∀ i j, S i → S j → f i = f j → i = j) {ord : List Nat} (ho : ∀ x, x ∈ ord → S x) {i : Nat} (hi : S i) : f i ∈ ord.map f ↔ i ∈ ord := by
  constructor
  · intro h
    obtain ⟨j, hj, e⟩ := List.mem_map.1 h
    rw [← hf j i (ho j hj) hi e]; exact hj
  · intro h
    exact List.mem_map.2 ⟨i, h, rfl⟩
theorem idxOf_mapS (hf : ∀ i j, S i → S j → f i = f j → i = j) : ∀ {ord : List Nat}, (∀ x, x ∈ ord → S x) → ∀ {i : Nat}, S i → (ord.map f).idxOf (f i) = ord.idxOf i
  | [], _, _, _ => rfl
  | y :: r, ho, i, hi => by
    rw [List.map_cons, List.idxOf_cons, List.idxOf_cons]
    by_cases e : y = i
    · subst e; simp
    · have e2 : f y ≠ f i := fun h => e (hf y i (ho y (List.mem_cons_self ..)) hi h)
      rw [show (f y == f i) = false from beq_eq_false_iff_ne.2 e2, show (y == i) = false from beq_eq_false_iff_ne.2 e, idxOf_mapS hf (fun x hx => ho x (List.mem_cons_of_mem _ hx)) hi]

theorem renOrd_map (hf : ∀ i j, S i → S j → f i = f j → i = j) {ord : List Nat} (ho : ∀ x, x ∈ ord → S x) {v : GV} (hv : v.kind = 4 → S v.node.toNat) : renOrd (ord.map f) (mapV f v) = (renOrd ord v).map f := by
  unfold renOrd
  rw [mapV_kind]
  by_cases hk : v.kind = 4
  · rw [mapV_node hk]
    by_cases hm : v.node.toNat ∈ ord
    · rw [if_neg (fun h => h.2 ((mem_map_inj hf ho (hv hk)).2 hm)), if_neg (fun h => h.2 hm)]
    · rw [if_pos ⟨hk, fun h => hm ((mem_map_inj hf ho (hv hk)).1 h)⟩, if_pos ⟨hk, hm⟩, List.map_append]
      rfl
  · rw [if_neg (fun h => hk h.1), if_neg (fun h => hk h.1)]
theorem renOrd_in {ord : List Nat} (ho : ∀ x, x ∈ ord → S x) {v : GV} (hv : v.kind = 4 → S v.node.toNat) : ∀ x, x ∈ renOrd ord v → S x := by
  intro x hx
  unfold renOrd at hx
  split at hx
  · rename_i h
    rcases List.mem_append.1 hx with h1 | h1
    · exact ho x h1
    · rw [List.mem_singleton.1 h1]; exact hv h.1
  · exact ho x hx
theorem renVal_map (hf : ∀ i j, S i → S j → f i = f j → i = j) {ord : List Nat} (ho : ∀ x, x ∈ ord → S x) {v : GV} (hv : v.kind = 4 → S v.node.toNat) : renVal (ord.map f) (mapV f v) = renVal ord v := by
  by_cases hk : v.kind = 4
  · unfold renVal
    rw [mapV_kind, if_pos hk, if_pos hk, renOrd_map hf ho hv, mapV_node hk, idxOf_mapS hf (renOrd_in ho hv) (hv hk)]
    unfold mapV
    rw [if_pos hk]
  · have e : mapV f v = v := by unfold mapV; rw [if_neg hk]
    rw [e]; unfold renVal
    rw [if_neg hk, if_neg hk]
theorem renOrds_map (hf : ∀ i j, S i → S j → f i = f j → i = j) : ∀ {l : List GV} {ord : List Nat}, (∀ x, x ∈ ord → S x) → (∀ v, v ∈ l → v.kind = 4 → S v.node.toNat) → renOrds (ord.map f) (l.map (mapV f)) = (renOrds ord l).map f ∧ renVals (ord.map f) (l.map (mapV f)) = renVals ord l ∧ ∀ x, x ∈ renOrds ord l → S x
  | [], _, ho, _ => ⟨rfl, rfl, ho⟩
  | v :: l, ord, ho, hv => by
    have h0 := hv v (List.mem_cons_self ..)
    obtain ⟨h1, h2, h3⟩ := renOrds_map hf (l := l) (ord := renOrd ord v) (renOrd_in ho h0) (fun x hx => hv x (List.mem_cons_of_mem _ hx))
    refine ⟨?_, ?_, h3⟩
    · show renOrds (renOrd (ord.map f) (mapV f v)) (l.map (mapV f)) = _
      rw [renOrd_map hf ho h0]; exact h1
    · show renVal (ord.map f) (mapV f v) :: renVals (renOrd (ord.map f) (mapV f v)) (l.map (mapV f)) = renVal ord v :: renVals (renOrd ord v) l
      rw [renOrd_map hf ho h0, renVal_map hf ho h0, h2]

/-- the one graph is the other, its nodes by other numbers -/
structure MapG (f : Nat → Nat) (S : Nat → Prop) (g h : GG) : Prop where
  inj : ∀ i j, S i → S j → f i = f j → i = j
  root : g.root.kind = 4 → S g.root.node.toNat
  rootEq : h.root = mapV f g.root
  node : ∀ i, S i → h.nodes[f i]! = ⟨g.nodes[i]!.tag, g.nodes[i]!.vals.map (mapV f)⟩
  vals : ∀ i, S i → ∀ v, v ∈ g.nodes[i]!.vals → v.kind = 4 → S v.node.toNat

theorem MapG.sim {g h : GG} (m : MapG f S g h) : ∀ k, canonO h.nodes (renOrd [] h.root) k = (canonO g.nodes (renOrd [] g.root) k).map f ∧ canonN h.nodes (renOrd [] h.root) k = canonN g.nodes (renOrd [] g.root) k ∧ ∀ x, x ∈ canonO g.nodes (renOrd [] g.root) k → S x
  | 0 => by
    have h0 : ∀ x, x ∈ ([] : List Nat) → S x := fun x hx => by cases hx
    refine ⟨?_, by unfold canonN; rfl, ?_⟩
    · unfold canonO
      rw [m.rootEq]
      exact renOrd_map (ord := []) m.inj h0 m.root
    · unfold canonO
      exact renOrd_in h0 m.root
  | k + 1 => by
    obtain ⟨h1, h2, h3⟩ := m.sim k
    rw [canonO_succ, canonN_succ, canonO_succ, canonN_succ, h1, h2, List.length_map]
    by_cases hk : k < (canonO g.nodes (renOrd [] g.root) k).length
    · have e : ((canonO g.nodes (renOrd [] g.root) k).map f)[k]! = f (canonO g.nodes (renOrd [] g.root) k)[k]! := by
        rw [getElem!_pos _ k (by rw [List.length_map]; exact hk), getElem!_pos _ k hk, List.getElem_map]
      have hS := h3 _ (mem_at hk)
      obtain ⟨r1, r2, r3⟩ := renOrds_map (l := (g.nodes[(canonO g.nodes (renOrd [] g.root) k)[k]!]!).vals) m.inj h3 (m.vals _ hS)
      rw [if_pos hk, if_pos hk, if_pos hk, if_pos hk, e, m.node _ hS]
      exact ⟨r1, by rw [r2], r3⟩
    · rw [if_neg hk, if_neg hk, if_neg hk, if_neg hk]
      exact ⟨rfl, rfl, h3⟩

theorem MapG.canon {g h : GG} (m : MapG f S g h) (hg : okG g = true) (hh : okG h = true) : canon h = canon g := by
  obtain ⟨_, gr, gn⟩ := okG_parts hg
  obtain ⟨_, hr, hn⟩ := okG_parts hh
  have ig := (canonO_inv ((InvO.nil _).ren gr) gn g.nodes.length).le
  have ih := (canonO_inv ((InvO.nil _).ren hr) hn h.nodes.length).le
  have er : renVal [] h.root = renVal [] g.root := by
    rw [m.rootEq]
    exact renVal_map (ord := []) m.inj (fun x hx => by cases hx) m.root
  unfold Go.Proofs.Ythjddpkegooobaa.canon
  rw [er]
  congr 1
  rcases Nat.le_total g.nodes.length h.nodes.length with hl | hl
  · obtain ⟨s1, s2, _⟩ := m.sim g.nodes.length
    have h1 : (canonO h.nodes (renOrd [] h.root) g.nodes.length).length ≤ g.nodes.length := by rw [s1, List.length_map]; exact ig
    have h2 := (canon_stable h.nodes (renOrd [] h.root) g.nodes.length h1 (h.nodes.length - g.nodes.length)).2
    rw [show g.nodes.length + (h.nodes.length - g.nodes.length) = h.nodes.length by omega] at h2
    rw [h2, s2]
  · obtain ⟨s1, s2, _⟩ := m.sim h.nodes.length
    have h1 : (canonO g.nodes (renOrd [] g.root) h.nodes.length).length ≤ h.nodes.length := by
      have := congrArg List.length s1
      rw [List.length_map] at this
      omega
    have h2 := (canon_stable g.nodes (renOrd [] g.root) h.nodes.length h1 (g.nodes.length - h.nodes.length)).2
    rw [show h.nodes.length + (g.nodes.length - h.nodes.length) = g.nodes.length by omega] at h2
    rw [h2, s2]
end

/-! a form is its own form -/
theorem prefix_renOrd (ord : List Nat) (v : GV) : ord <+: renOrd ord v := by
  unfold renOrd
  split
  · exact List.prefix_append _ _
  · exact List.prefix_refl _
theorem prefix_renOrds (l : List GV) : ∀ ord : List Nat, ord <+: renOrds ord l := by
  induction l with
  | nil => intro ord; exact List.prefix_refl _
  | cons v r ih => intro ord; exact (prefix_renOrd ord v).trans (ih (renOrd ord v))
theorem prefix_canonO (nodes : List GN) (ord0 : List Nat) {k m : Nat} (h : k ≤ m) : canonO nodes ord0 k <+: canonO nodes ord0 m := by
  induction h with
  | refl => exact List.prefix_refl _
  | step _ ih =>
    refine ih.trans ?_
    rw [canonO_succ]
    split
    · exact prefix_renOrds _ _
    · exact List.prefix_refl _
theorem idxOf_prefix {a b : List Nat} (h : a <+: b) {x : Nat} (hx : x ∈ a) : b.idxOf x = a.idxOf x := by
  obtain ⟨c, rfl⟩ := h
  rw [List.idxOf_append, if_pos hx]
theorem renVal_prefix {ord o : List Nat} {v : GV} (h : renOrd ord v <+: o) : renVal ord v = mapV (fun x => o.idxOf x) v := by
  unfold renVal mapV
  by_cases hk : v.kind = 4
  · rw [if_pos hk, if_pos hk]
    dsimp only
    rw [idxOf_prefix h (mem_renOrd hk)]
  · rw [if_neg hk, if_neg hk]
theorem renVals_prefix : ∀ (l : List GV) (ord o : List Nat), renOrds ord l <+: o → renVals ord l = l.map (mapV fun x => o.idxOf x)
  | [], _, _, _ => rfl
  | v :: l, ord, o, h => by
    show renVal ord v :: renVals (renOrd ord v) l = _
    rw [List.map_cons, renVal_prefix ((prefix_renOrds l (renOrd ord v)).trans h), renVals_prefix l (renOrd ord v) o h]
theorem mem_renOrds : ∀ (l : List GV) (ord : List Nat) (v : GV), v ∈ l → v.kind = 4 → v.node.toNat ∈ renOrds ord l
  | [], _, _, h, _ => by cases h
  | x :: l, ord, v, h, hk => by
    rcases List.mem_cons.1 h with rfl | h
    · exact (prefix_renOrds l (renOrd ord v)).subset (mem_renOrd hk)
    · exact mem_renOrds l (renOrd ord x) v h hk

theorem canonN_get (nodes : List GN) (ord0 : List Nat) : ∀ (m k : Nat), k < m → k < (canonO nodes ord0 m).length → (canonN nodes ord0 m)[k]! = ⟨(nodes[(canonO nodes ord0 m)[k]!]!).tag, (nodes[(canonO nodes ord0 m)[k]!]!).vals.map (mapV fun x => (canonO nodes ord0 m).idxOf x)⟩ ∧ ∀ v, v ∈ (nodes[(canonO nodes ord0 m)[k]!]!).vals → v.kind = 4 → v.node.toNat ∈ canonO nodes ord0 m := by
  intro m k hkm hkl
  -- in round k the node was taken
  have hk0 : k < (canonO nodes ord0 k).length := by
    by_cases h : k < (canonO nodes ord0 k).length
    · exact h
    · have h1 := (canon_stable nodes ord0 k (by omega) (m - k)).1
      rw [show k + (m - k) = m by omega] at h1
      rw [h1] at hkl
      exact hkl
  have hp := prefix_canonO nodes ord0 (Nat.le_of_lt hkm)
  have hp1 := prefix_canonO nodes ord0 (show k + 1 ≤ m by omega)
  have e1 : (canonO nodes ord0 m)[k]! = (canonO nodes ord0 k)[k]! := by
    obtain ⟨c, hc⟩ := hp
    rw [← hc, getElem!_pos _ k (by rw [List.length_append]; omega), getElem!_pos _ k hk0, List.getElem_append_left hk0]
  have es : canonO nodes ord0 (k + 1) = renOrds (canonO nodes ord0 k) (nodes[(canonO nodes ord0 k)[k]!]!).vals := by rw [canonO_succ, if_pos hk0]
  refine ⟨?_, fun v hv hk4 => ?_⟩
  · have hN : ∀ j, k + 1 ≤ j → (canonN nodes ord0 j)[k]! = (canonN nodes ord0 (k + 1))[k]! := by
      intro j hj
      induction hj with
      | refl => rfl
      | step hle ih =>
        rename_i j'
        have hlen : k < (canonN nodes ord0 j').length := by
          rw [canonN_len]
          have h3 : k + 1 ≤ j' := hle
          have := canonO_mono nodes ord0 (Nat.le_of_succ_le h3)
          omega
        rw [← ih, canonN_succ]
        split
        · rw [getElem!_pos _ k (by rw [List.length_append]; omega), getElem!_pos _ k hlen, List.getElem_append_left hlen]
        · rfl
    rw [hN m (by omega), canonN_succ, if_pos hk0, e1]
    have hl : (canonN nodes ord0 k).length = k := by rw [canonN_len]; omega
    rw [getElem!_pos _ k (by rw [List.length_append, hl]; simp), List.getElem_append_right (by omega)]
    simp only [hl, Nat.sub_self, List.getElem_cons_zero]
    rw [renVals_prefix _ _ (canonO nodes ord0 m) (by rw [← es]; exact hp1)]
  · rw [e1] at hv
    refine hp1.subset ?_
    rw [es]
    exact mem_renOrds _ _ v hv hk4

theorem canon_mapG {g : GG} (hok : okG g = true) : MapG (fun x => (canonO g.nodes (renOrd [] g.root) g.nodes.length).idxOf x) (fun x => x ∈ canonO g.nodes (renOrd [] g.root) g.nodes.length) g (canon g) := by
  obtain ⟨_, gr, gn⟩ := okG_parts hok
  have hinv := canonO_inv ((InvO.nil _).ren gr) gn g.nodes.length
  have hp0 : renOrd [] g.root <+: canonO g.nodes (renOrd [] g.root) g.nodes.length := by
    have h := prefix_canonO g.nodes (renOrd [] g.root) (Nat.zero_le g.nodes.length)
    rwa [show canonO g.nodes (renOrd [] g.root) 0 = renOrd [] g.root by unfold canonO; rfl] at h
  have hat : ∀ i, i ∈ canonO g.nodes (renOrd [] g.root) g.nodes.length → ∃ k, k < (canonO g.nodes (renOrd [] g.root) g.nodes.length).length ∧ (canonO g.nodes (renOrd [] g.root) g.nodes.length).idxOf i = k ∧ (canonO g.nodes (renOrd [] g.root) g.nodes.length)[k]! = i := fun i hi => by
    have h1 := List.idxOf_lt_length_of_mem hi
    exact ⟨_, h1, rfl, (getElem!_pos (canonO g.nodes (renOrd [] g.root) g.nodes.length) _ h1).trans (List.getElem_idxOf h1)⟩
  refine ⟨fun i j hi hj e => ?_, fun hk => ?_, ?_, fun i hi => ?_, fun i hi v hv hk => ?_⟩
  · obtain ⟨k, _, e1, e2⟩ := hat i hi
    obtain ⟨k', _, e3, e4⟩ := hat j hj
    rw [← e2, ← e4, ← e1, ← e3, e]
  · exact hp0.subset (mem_renOrd hk)
  · exact renVal_prefix hp0
  · obtain ⟨k, hk, e1, e2⟩ := hat i hi
    have h1 := (canonN_get g.nodes (renOrd [] g.root) g.nodes.length k (by have := hinv.le; omega) hk).1
    rw [e1]
    rw [e2] at h1
    exact h1
  · obtain ⟨k, hk', e1, e2⟩ := hat i hi
    have h1 := (canonN_get g.nodes (renOrd [] g.root) g.nodes.length k (by have := hinv.le; omega) hk').2
    rw [e2] at h1
    exact h1 v hv hk

theorem canon_canon {g : GG} (hok : okG g = true) : canon (canon g) = canon g := (canon_mapG hok).canon hok (canon_okG hok)

end Go.Proofs.Ythjddpkegooobaa

/-
  RDOK: what is read fits; images are read back. Own work.
-/
namespace Go.Proofs.Ythjddpkegooobaa

theorem zag_i64 {n : Nat} (h : n < 18446744073709551616) : I64 (zag n) := by unfold I64 zag; split <;> omega
theorem wrap_i64_ok (n : Int) : I64 (IntKind.i64.wrap n) := by rw [IntKind.wrap_i64]; unfold I64; omega
theorem orI_i64 (n : Int) (b i : Nat) : I64 (orI n b i) := wrap_i64_ok _
theorem rdLow_i64 : ∀ (k i : Nat) (n : Int) (r : List Nat) (x : Int) (q : List Nat), I64 n → rdLow k i n r = some (x, q) → I64 x
  | 0, _, n, r, x, q, hn, h => by
    have e : n = x ∧ r = q := by simpa [rdLow] using h
    rw [← e.1]; exact hn
  | k + 1, _, _, [], _, _, _, h => by cases h
  | k + 1, i, n, b :: r, x, q, _, h => rdLow_i64 k (i + 1) (orI n b i) r x q (orI_i64 n b i) h
theorem strB_sizeR (xs : List Nat) : (strB xs).size = xs.length := by unfold strB; rw [Go.strOfNums_size, List.length_map]
theorem small_i64 {n : Int} (h : 0 ≤ n ∧ n ≤ 1000000) : I64 n := by unfold I64; omega
theorem zero_ok {n : Nat} (h : n ≤ 4) (m : Int) (hm : I64 m) (t : ByteArray) (ht : t.size ≤ 1000) (d : Int) (hd : I64 d) : (GV.mk (n : Int) m t d).Ok := ⟨small_i64 (by show 0 ≤ (n : Int) ∧ (n : Int) ≤ 1000000; omega), hm, by show t.size ≤ maxLen; unfold maxLen; omega, hd⟩

theorem rdVal_ok {r q : List Nat} {v : GV} (h : rdVal r = some (v, q)) : v.Ok := by
  have h0 : I64 0 := small_i64 (by omega)
  have hz : (⟨#[]⟩ : ByteArray).size ≤ 1000 := Nat.zero_le _
  cases r with
  | nil => cases h
  | cons k t =>
    unfold rdVal at h
    dsimp only at h
    split at h
    · simp only [Option.some.injEq, Prod.mk.injEq] at h
      rw [← h.1]; exact zero_ok (n := 0) (by omega) 0 h0 _ hz 0 h0
    · split at h
      · cases hq : rdNum 0 0 t with
        | none => rw [hq] at h; cases h
        | some y =>
          rw [hq] at h
          simp only [Option.map_some, Option.some.injEq, Prod.mk.injEq] at h
          rw [← h.1]; exact zero_ok (n := 1) (by omega) _ (zag_i64 (rdNum_lt 0 0 t y.1 y.2 (by omega) hq)) _ hz 0 h0
      · split at h
        · cases hq : rdLow 8 0 0 t with
          | none => rw [hq] at h; cases h
          | some y =>
            rw [hq] at h
            simp only [Option.map_some, Option.some.injEq, Prod.mk.injEq] at h
            rw [← h.1]; exact zero_ok (n := 2) (by omega) _ (rdLow_i64 8 0 0 t y.1 y.2 h0 hq) _ hz 0 h0
        · split at h
          · cases hq : rdCount 1000 t with
            | none => rw [hq] at h; cases h
            | some y =>
              rw [hq, Option.bind_some] at h
              cases hq2 : rdText y.1 y.2 with
              | none => rw [hq2] at h; cases h
              | some z =>
                rw [hq2] at h
                simp only [Option.map_some, Option.some.injEq, Prod.mk.injEq] at h
                have hz1 : z.1.size ≤ 1000 := by
                  have h1 := rdCount_le (n := y.1) (q := y.2) hq
                  unfold rdText at hq2
                  split at hq2
                  · have e2 : strB (y.2.take y.1) = z.1 := by simpa using congrArg (fun o => o.map Prod.fst) hq2
                    rw [← e2, strB_sizeR, List.length_take]; omega
                  · cases hq2
                rw [← h.1]; exact zero_ok (n := 3) (by omega) 0 h0 _ hz1 0 h0
          · split at h
            · cases hq : rdCount 300 t with
              | none => rw [hq] at h; cases h
              | some y =>
                rw [hq] at h
                simp only [Option.map_some, Option.some.injEq, Prod.mk.injEq] at h
                have h1 := rdCount_le (n := y.1) (q := y.2) hq
                rw [← h.1]; exact zero_ok (n := 4) (by omega) 0 h0 _ hz _ (small_i64 (by omega))
            · cases h

theorem rdVals_ok : ∀ (m : Nat) (r q : List Nat) (vs : List GV), rdVals m r = some (vs, q) → vs.length = m ∧ ∀ v, v ∈ vs → v.Ok
  | 0, r, q, vs, h => by
    have e : [] = vs := by simpa [rdVals] using congrArg (fun o => o.map Prod.fst) h
    rw [← e]; exact ⟨rfl, fun v hv => by cases hv⟩
  | m + 1, r, q, vs, h => by
    rw [rdVals] at h
    cases hv : rdVal r with
    | none => rw [hv] at h; cases h
    | some x =>
      rw [hv, Option.bind_some] at h
      cases hw : rdVals m x.2 with
      | none => rw [hw] at h; cases h
      | some y =>
        rw [hw] at h
        have e : x.1 :: y.1 = vs := by simpa using congrArg (fun o => o.map Prod.fst) h
        obtain ⟨h1, h2⟩ := rdVals_ok m x.2 y.2 y.1 hw
        rw [← e]
        refine ⟨by rw [List.length_cons, h1], fun v hm => ?_⟩
        rcases List.mem_cons.1 hm with rfl | hm
        · exact rdVal_ok (q := x.2) hv
        · exact h2 v hm
theorem rdNode_ok {r q : List Nat} {n : GN} (h : rdNode r = some (n, q)) : n.Ok := by
  unfold rdNode at h
  cases ht : rdCount 1000 r with
  | none => rw [ht] at h; cases h
  | some t =>
    rw [ht, Option.bind_some] at h
    cases hm : rdCount 100 t.2 with
    | none => rw [hm] at h; cases h
    | some m =>
      rw [hm, Option.bind_some] at h
      cases hv : rdVals m.1 m.2 with
      | none => rw [hv] at h; cases h
      | some y =>
        rw [hv] at h
        have e : (⟨(t.1 : Int), y.1⟩ : GN) = n := by simpa using congrArg (fun o => o.map Prod.fst) h
        obtain ⟨h1, h2⟩ := rdVals_ok m.1 m.2 y.2 y.1 hv
        have h3 := rdCount_le (n := t.1) (q := t.2) ht
        have h4 := rdCount_le (n := m.1) (q := m.2) hm
        rw [← e]
        exact ⟨small_i64 (by show 0 ≤ (t.1 : Int) ∧ (t.1 : Int) ≤ 1000000; omega), by show y.1.length ≤ maxLen; unfold maxLen; omega, h2⟩
theorem rdNodes_ok : ∀ (m : Nat) (r q : List Nat) (ns : List GN), rdNodes m r = some (ns, q) → ns.length = m ∧ ∀ n, n ∈ ns → n.Ok
  | 0, r, q, vs, h => by
    have e : [] = vs := by simpa [rdNodes] using congrArg (fun o => o.map Prod.fst) h
    rw [← e]; exact ⟨rfl, fun v hv => by cases hv⟩
  | m + 1, r, q, vs, h => by
    rw [rdNodes] at h
    cases hv : rdNode r with
    | none => rw [hv] at h; cases h
    | some x =>
      rw [hv, Option.bind_some] at h
      cases hw : rdNodes m x.2 with
      | none => rw [hw] at h; cases h
      | some y =>
        rw [hw] at h
        have e : x.1 :: y.1 = vs := by simpa using congrArg (fun o => o.map Prod.fst) h
        obtain ⟨h1, h2⟩ := rdNodes_ok m x.2 y.2 y.1 hw
        rw [← e]
        refine ⟨by rw [List.length_cons, h1], fun v hm => ?_⟩
        rcases List.mem_cons.1 hm with rfl | hm
        · exact rdNode_ok (q := x.2) hv
        · exact h2 v hm
theorem rdGraph_ok {r q : List Nat} {g : GG} (h : rdGraph r = some (g, q)) : g.Ok := by
  unfold rdGraph at h
  cases ht : rdText 2 r with
  | none => rw [ht] at h; cases h
  | some t =>
    rw [ht, Option.bind_some] at h
    split at h
    · cases hm : rdCount 300 t.2 with
      | none => rw [hm] at h; cases h
      | some m =>
        rw [hm, Option.bind_some] at h
        cases hv : rdVal m.2 with
        | none => rw [hv] at h; cases h
        | some x =>
          rw [hv, Option.bind_some] at h
          cases hn : rdNodes m.1 x.2 with
          | none => rw [hn] at h; cases h
          | some y =>
            rw [hn] at h
            have e : (⟨x.1, y.1⟩ : GG) = g := by simpa using congrArg (fun o => o.map Prod.fst) h
            obtain ⟨h1, h2⟩ := rdNodes_ok m.1 x.2 y.2 y.1 hn
            have h4 := rdCount_le (n := m.1) (q := m.2) hm
            rw [← e]
            exact ⟨rdVal_ok (q := x.2) hv, by show y.1.length ≤ maxLen; unfold maxLen; omega, h2⟩
    · cases h

/-! images are read back -/
theorem rdVal_back {n : Nat} {v : GV} (hn : n ≤ 300) (ho : v.Ok) (h : okV n v = true) (r : List Nat) : rdVal (valB v ++ r) = some (v, r) := by
  rcases okV_cases h with rfl | ⟨m, rfl⟩ | ⟨m, rfl⟩ | ⟨t, ht, rfl⟩ | ⟨k, hk, rfl⟩
  · rfl
  · show rdVal (1 :: (numB (zig m) ++ r)) = _
    simp [rdVal, rdNum_num (zig_lt ho.num), zag_zig]
  · show rdVal (2 :: (lowB 8 (u64n m) ++ r)) = _
    simp [rdVal, rdLow_word ho.num]
  · show rdVal (3 :: (numB t.size ++ bsOf t ++ r)) = _
    rw [List.append_assoc]
    simp [rdVal, rdCount_num (most := 1000) ht (by omega), rdText_bs]
  · show rdVal (4 :: (numB k ++ r)) = _
    simp [rdVal, rdCount_num (m := k) (most := 300) (by omega) (by omega)]
theorem rdVals_back {n : Nat} (hn : n ≤ 300) : ∀ (l : List GV) (r : List Nat), (∀ v, v ∈ l → v.Ok) → (∀ v, v ∈ l → okV n v = true) → rdVals l.length (valsB l ++ r) = some (l, r)
  | [], r, _, _ => rfl
  | v :: l, r, ho, h => by
    show rdVals (l.length + 1) (valB v ++ valsB l ++ r) = _
    rw [rdVals, List.append_assoc, rdVal_back hn (ho v (List.mem_cons_self ..)) (h v (List.mem_cons_self ..)), Option.bind_some, rdVals_back hn l r (fun x hx => ho x (List.mem_cons_of_mem _ hx)) (fun x hx => h x (List.mem_cons_of_mem _ hx))]
    rfl
theorem rdNode_back {n : Nat} (hn : n ≤ 300) {x : GN} (ho : x.Ok) (h : okN n x = true) (r : List Nat) : rdNode (nodeB x ++ r) = some (x, r) := by
  obtain ⟨h1, h2⟩ := okN_parts h
  have h3 := okN_tag' h
  unfold rdNode nodeB
  rw [List.append_assoc, List.append_assoc, rdCount_num (m := x.tag.toNat) (most := 1000) (by omega) (by omega), Option.bind_some]
  dsimp only
  rw [rdCount_num (m := x.vals.length) (most := 100) h1 (by omega), Option.bind_some]
  dsimp only
  rw [rdVals_back hn x.vals r ho.vals h2]
  show some ((⟨((x.tag.toNat : Nat) : Int), x.vals⟩ : GN), r) = _
  rw [show ((x.tag.toNat : Nat) : Int) = x.tag by omega]
theorem rdNodes_back {n : Nat} (hn : n ≤ 300) : ∀ (l : List GN) (r : List Nat), (∀ v, v ∈ l → v.Ok) → (∀ v, v ∈ l → okN n v = true) → rdNodes l.length (nodesB l ++ r) = some (l, r)
  | [], r, _, _ => rfl
  | v :: l, r, ho, h => by
    show rdNodes (l.length + 1) (nodeB v ++ nodesB l ++ r) = _
    rw [rdNodes, List.append_assoc, rdNode_back hn (ho v (List.mem_cons_self ..)) (h v (List.mem_cons_self ..)), Option.bind_some, rdNodes_back hn l r (fun x hx => ho x (List.mem_cons_of_mem _ hx)) (fun x hx => h x (List.mem_cons_of_mem _ hx))]
    rfl
theorem rdGraph_back {g : GG} (ho : g.Ok) (hok : okG g = true) (r : List Nat) : rdGraph (graphB g ++ r) = some (g, r) := by
  obtain ⟨hn, hroot, hnodes⟩ := okG_parts hok
  have e0 : rdText 2 (graphB g ++ r) = some (⟨#[72, 49]⟩, numB g.nodes.length ++ (valB g.root ++ (nodesB g.nodes ++ r))) := by
    have h1 := rdText_bs ⟨#[72, 49]⟩ (numB g.nodes.length ++ (valB g.root ++ (nodesB g.nodes ++ r)))
    have e : graphB g ++ r = bsOf ⟨#[72, 49]⟩ ++ (numB g.nodes.length ++ (valB g.root ++ (nodesB g.nodes ++ r))) := by unfold graphB; simp only [List.append_assoc]; rfl
    rw [e]; exact h1
  unfold rdGraph
  rw [e0, Option.bind_some, if_pos rfl]
  dsimp only
  rw [rdCount_num (m := g.nodes.length) (most := 300) hn (by omega), Option.bind_some]
  dsimp only
  rw [rdVal_back hn ho.root hroot, Option.bind_some]
  dsimp only
  rw [rdNodes_back hn g.nodes r ho.nodes hnodes]
  rfl

/-- what Unpack answers -/
def zeroG : GG := ⟨⟨0, 0, ⟨#[]⟩, 0⟩, []⟩
def unB (bs : List Nat) : Bool × GG :=
  match rdGraph bs with
  | some (g, _) => if packB g = bs then (true, g) else (false, zeroG)
  | none => (false, zeroG)

end Go.Proofs.Ythjddpkegooobaa

/-
  ROUNDP: images read back, plain. Own work.
-/
namespace Go.Proofs.Ythjddpkegooobaa
open Go.RowKit

theorem imageB_canon {g : GG} (hok : okG g = true) : imageB (canon g) = imageB g := by unfold imageB; rw [canon_canon hok]
theorem packB_canon {g : GG} (hok : okG g = true) : packB (canon g) = packB g := by
  unfold packB
  rw [imageB_canon hok, canon_okG hok, hok]
theorem zeroG_Ok : zeroG.Ok := ⟨⟨by show I64 0; unfold I64; omega, by show I64 0; unfold I64; omega, by show (0 : Nat) ≤ maxLen; exact Nat.zero_le _, by show I64 0; unfold I64; omega⟩, by show 0 ≤ maxLen; exact Nat.zero_le _, fun x hx => by cases hx⟩
theorem unB_Ok (bs : List Nat) : (unB bs).2.Ok := by
  unfold unB
  split
  · rename_i g q h
    split
    · exact rdGraph_ok h
    · exact zeroG_Ok
  · exact zeroG_Ok
theorem unB_true {bs : List Nat} (h : (unB bs).1 = true) : packB (unB bs).2 = bs := by
  unfold unB at h ⊢
  cases h2 : rdGraph bs with
  | none => rw [h2] at h; cases h
  | some y =>
    obtain ⟨g, q⟩ := y
    rw [h2] at h
    dsimp only at h ⊢
    by_cases h3 : packB g = bs
    · rw [if_pos h3]; exact h3
    · rw [if_neg h3] at h; cases h
theorem unB_pack {g : GG} (hg : g.Ok) (hok : okG g = true) (hl : packB g ≠ []) : unB (packB g) = (true, canon g) := by
  have h1 : packB g = imageB g := by
    unfold packB at hl ⊢
    split
    · rfl
    · rename_i h; rw [if_neg h] at hl; exact absurd rfl hl
  have h2 : rdGraph (imageB g) = some (canon g, lowB 8 (sumN (graphB (canon g)))) := by
    unfold imageB formB
    exact rdGraph_back (canon_ok hg hok) (canon_okG hok) _
  have h3 : packB (canon g) = packB g := packB_canon hok
  unfold unB
  rw [h1, h2]
  show (if packB (canon g) = imageB g then (true, canon g) else (false, zeroG)) = _
  rw [h3, h1, if_pos rfl]

end Go.Proofs.Ythjddpkegooobaa

/-
  SEQUAL: the specification's comparing of bytes. Own work.
-/
namespace Go.Proofs.Ythjddpkegooobaa
open Go.RowKit


set_option maxRecDepth 100000 in
theorem l2equal_any (a a' : Option Addr) (xs ys : List Nat) (c c' : Nat) (w : World) (hl : xs.length ≤ maxLen) (_hl' : ys.length ≤ maxLen) (ha : BytesAt w a xs) (ha' : BytesAt w a' ys) :
    Calls Try.prog 73 #[.slice a xs.length c, .slice a' ys.length c'] w fun e w' => e = .returned (.bool (decide (xs = ys))) ∧ Below w.heap.size w w' := by
  unfold maxLen at hl
  by_cases hne : xs.length = ys.length
  · have hd : ((xs.length : Int) != (ys.length : Int)) = false := by rw [hne]; simp
    have hne' : Hid _ := hne
    clear hne
    go_enter Try.func73, Try.ntmps73
    go_wp2
    go_loopw [13] (fun i ws => ∃ (k : Nat), i = .int .i64 k ∧ k ≤ xs.length ∧ Hid (∀ j, j < k → xs[j]! = ys[j]!) ∧ Below w.heap.size w ws) (fun i _ => xs.length - (intOf i).toNat)
    case atStart => exact ⟨0, rfl, Nat.zero_le _, fun j hj => absurd hj (Nat.not_lt_zero _), gre _⟩
    case round =>
      obtain ⟨k, rfl, hk, hall, hb⟩ := hrel
      by_cases hlt : k < xs.length
      · obtain ⟨x, b, off, hxk, hxm, rfl, hc⟩ := (ha.grow hb).get hlt
        obtain ⟨y, b', off', hyk, hym, rfl, hc'⟩ := (ha'.grow hb).get (k := k) (by rw [← hne'.out]; exact hlt)
        have hlt' : k < ys.length := by rw [← hne'.out]; exact hlt
        by_cases hxy : x = y
        · subst hxy
          have hn2 : ((x : Int) != (x : Int)) = false := by simp
          go_wp2_with (go_quiet (fail))
          go_roundw
          case rel =>
            refine ⟨k + 1, by go_num, by omega, fun j hj => ?_, hb.trans ⟨rfl, rfl, rfl, Nat.le_refl _, fun _ _ => rfl⟩⟩
            by_cases e : j = k
            · rw [e, ← hxk.out, ← hyk.out]
            · exact hall.out j (by omega)
          case measure => simp [intOf]; omega
        · have hn2 : ((x : Int) != (y : Int)) = true := by simp; omega
          have hdec : Hid (decide (xs = ys) = false) := decide_eq_false (fun e => hxy (by rw [hxk.out, hyk.out, e]))
          go_wp2_with (go_quiet (fail))
          go_ret
          exact ⟨by rw [hdec.out]; rfl, hb.trans ⟨rfl, rfl, rfl, Nat.le_refl _, fun _ _ => rfl⟩⟩
      · have hdec : Hid (decide (xs = ys) = true) := decide_eq_true (List.ext_getElem hne'.out (fun i h1 h2 => by
          have := hall.out i (by omega)
          rwa [getElem!_pos xs i h1, getElem!_pos ys i h2] at this))
        go_wp2
        go_ret
        exact ⟨by rw [hdec.out]; rfl, hb⟩
  · have hd : ((xs.length : Int) != (ys.length : Int)) = true := by simp; omega
    have hdec : Hid (decide (xs = ys) = false) := decide_eq_false (fun e => hne (by rw [e]))
    go_enter Try.func73, Try.ntmps73
    go_wp2
    go_ret
    exact ⟨by rw [hdec.out]; rfl, gre _⟩

end Go.Proofs.Ythjddpkegooobaa

/-
  SUN: the specification's reader. Own work.
-/
namespace Go.Proofs.Ythjddpkegooobaa
open Go.RowKit

/-- the specification's number -/
def sNum : Nat → Nat → Nat → List Nat → Option (Nat × List Nat)
  | 0, _, _, _ => none
  | _ + 1, _, _, [] => none
  | k + 1, n, i, x :: r => if x < 128 then some (orU n (x % 128) (7 * i), r) else sNum k (orU n (x % 128) (7 * i)) (i + 1) r
def sSmall (r : List Nat) : Option (Nat × List Nat) :=
  match sNum 10 0 0 r with
  | some (n, r') => if n ≤ 5000 then some (n, r') else none
  | none => none
def sLow : Nat → Nat → Nat → List Nat → Option (Nat × List Nat)
  | 0, _, n, r => some (n, r)
  | _ + 1, _, _, [] => none
  | k + 1, i, n, x :: r => sLow k (i + 1) (orU n x (8 * i)) r

/-- a reader's three cells -/
structure SR (w : World) (b : Nat) (sa : Option Addr) (cap : Nat) (bs : List Nat) (at_ : Nat) (bad : Bool) : Prop where
  lt : b < w.heap.size
  c0 : w.cell? ⟨b, 0, none⟩ = some (.slice sa bs.length cap)
  c1 : w.cell? ⟨b, 1, none⟩ = some (.int .i64 (at_ : Int))
  c2 : w.cell? ⟨b, 2, none⟩ = some (.bool bad)
  f : ∀ o, w.frozen? ⟨b, o, none⟩ = false
  low : BytesLow b w sa bs
  cap : bs.length ≤ cap
  len : bs.length ≤ 4096
  byte : ∀ x, x ∈ bs → x < 256
  atl : at_ ≤ bs.length + 2

theorem SR.kept {p : Nat → Prop} {w w' : World} {b : Nat} {sa : Option Addr} {cap : Nat} {bs : List Nat} {at_ : Nat} {bad : Bool} (h : SR w b sa cap bs at_ bad) (k : Kept p w w') (hp : ∀ k, k ≤ b → ¬ p k) : SR w' b sa cap bs at_ bad := by
  have e := k.block b h.lt (hp b (Nat.le_refl _))
  exact ⟨Nat.lt_of_lt_of_le h.lt k.size, (World.cell?_of_block (w := w) e).trans h.c0, (World.cell?_of_block (w := w) e).trans h.c1, (World.cell?_of_block (w := w) e).trans h.c2, fun o => (World.frozen?_of_block (w := w) e).trans (h.f o), h.low.below (k.below (by have := h.lt; omega) (fun k hk => hp k (by omega))), h.cap, h.len, h.byte, h.atl⟩
theorem SR.grow {w w' : World} {b : Nat} {sa : Option Addr} {cap : Nat} {bs : List Nat} {at_ : Nat} {bad : Bool} (h : SR w b sa cap bs at_ bad) (k : Below w.heap.size w w') : SR w' b sa cap bs at_ bad := h.kept (Kept.of_below k (fun _ => False)) (fun _ _ e => e)
theorem SR.drewN {w : World} {b : Nat} {sa : Option Addr} {cap : Nat} {bs : List Nat} {at_ : Nat} {bad : Bool} (h : SR w b sa cap bs at_ bad) (k : Nat) : SR (w.drewN k) b sa cap bs at_ bad := ⟨h.lt, h.c0, h.c1, h.c2, h.f, h.low, h.cap, h.len, h.byte, h.atl⟩
theorem SR.setBad {w : World} {b : Nat} {sa : Option Addr} {cap : Nat} {bs : List Nat} {at_ : Nat} {bad : Bool} (h : SR w b sa cap bs at_ bad) : SR (w.setCell ⟨b, 2, none⟩ (.bool true)) b sa cap bs at_ true := by
  refine ⟨by have := h.lt; simpa [World.setCell] using this, ?_, ?_, World.cell?_setCell_same _ _ _ h.c2, fun o => ?_, h.low.below ((Kept.refl (fun k => k = b) w).set (a := ⟨b, 2, none⟩) (fun _ => rfl) _ |>.below (by have := h.lt; omega) (fun k hk e => by omega)), h.cap, h.len, h.byte, h.atl⟩
  · rw [World.cell?_setCell_other _ _ _ _ (by simp)]; exact h.c0
  · rw [World.cell?_setCell_other _ _ _ _ (by simp)]; exact h.c1
  · rw [World.frozen?_setCell]; exact h.f o
theorem SR.setAt {w : World} {b : Nat} {sa : Option Addr} {cap : Nat} {bs : List Nat} {at_ : Nat} {bad : Bool} (h : SR w b sa cap bs at_ bad) {z : Int} {n : Nat} (hz : z = (n : Int)) (hn : n ≤ bs.length + 2) : SR (w.setCell ⟨b, 1, none⟩ (.int .i64 z)) b sa cap bs n bad := by
  subst hz
  refine ⟨by have := h.lt; simpa [World.setCell] using this, ?_, World.cell?_setCell_same _ _ _ h.c1, ?_, fun o => ?_, h.low.below ((Kept.refl (fun k => k = b) w).set (a := ⟨b, 1, none⟩) (fun _ => rfl) _ |>.below (by have := h.lt; omega) (fun k hk e => by omega)), h.cap, h.len, h.byte, hn⟩
  · rw [World.cell?_setCell_other _ _ _ _ (by simp)]; exact h.c0
  · rw [World.cell?_setCell_other _ _ _ _ (by simp)]; exact h.c2
  · rw [World.frozen?_setCell]; exact h.f o

/-- how what was read stands to what was to be read -/
def SRel {α : Type} (f : Option (α × List Nat)) (bad : Bool) (x : α) (r' : List Nat) (bad' : Bool) : Prop :=
  (bad = true → bad' = true) ∧ (bad = false → (bad' = false ∧ f = some (x, r')) ∨ (bad' = true ∧ f = none))
/-- what a reader's call leaves -/
def SPost {α : Type} (f : Option (α × List Nat)) (enc : α → Value) (ok : α → Prop) (b : Nat) (sa : Option Addr) (cap : Nat) (bs : List Nat) (at_ : Nat) (bad : Bool) (w : World) (e : Ending) (w' : World) : Prop :=
  Kept (fun k => k = b) w w' ∧ ∃ x at' bad', e = .returned (enc x) ∧ ok x ∧ SR w' b sa cap bs at' bad' ∧ (at' ≤ bs.length ∨ at' = at_) ∧ Hid (SRel f bad x (bs.drop at') bad')

theorem drop_zero_of {bs : List Nat} {k : Nat} (h : bs.length ≤ k) : bs.drop k = [] := List.drop_of_length_le h

set_option maxRecDepth 100000 in
theorem sByte_any (b : Nat) (sa : Option Addr) (cap : Nat) (bs : List Nat) (at_ : Nat) (bad : Bool) (w : World) (hR : SR w b sa cap bs at_ bad) :
    Calls Try.prog 125 #[.pointer (some ⟨b, 0, none⟩)] w (SPost (rdByte (bs.drop at_)) (fun x => .int .u8 (x : Int)) (fun x => x < 256) b sa cap bs at_ bad w) := by
  have hatl := hR.atl
  have hlen := hR.len
  obtain ⟨hlt, c0, c1, c2, hf, hlow, hcap, _, hbyte, _⟩ := id hR
  by_cases h : at_ < bs.length
  · have hd : ¬ ((bs.length : Int) ≤ (at_ : Int)) := by omega
    obtain ⟨x, hx⟩ := hidx bs[at_]!
    have hxm : x < 256 := by rw [hx.out]; exact hbyte _ (mem_at h)
    have e1 : Hid (rdByte (bs.drop at_) = some (x, bs.drop (at_ + 1))) := by show _ = _; rw [drop_cons h, hx.out]; rfl
    obtain ⟨ba, off, rfl, hba, hcell⟩ := hlow at_ h
    rw [← hx.out] at hcell
    have hne : ba ≠ b := by omega
    go_enter Try.func125, Try.ntmps125
    go_wp2_with (go_quiet (fail))
    go_ret
    refine ⟨(((Kept.refl (fun k => k = b) w).drewN _).set (fun _ => rfl) _).drewN _, x, at_ + 1, bad, rfl, hxm, ?_, Or.inl (by omega), ⟨fun h => h, fun _ => ?_⟩⟩
    · exact ((hR.drewN _).setAt (by omega) (by omega)).drewN _
    · cases bad
      · exact Or.inl ⟨rfl, e1.out⟩
      · rename_i hc; cases hc
  · have hd : ((bs.length : Int) ≤ (at_ : Int)) := by omega
    have e1 : Hid (rdByte (bs.drop at_) = none) := by show _ = _; rw [drop_zero_of (by omega)]; rfl
    go_enter Try.func125, Try.ntmps125
    go_wp2_with (go_quiet (fail))
    go_ret
    exact ⟨((Kept.refl (fun k => k = b) w).drewN _).set (fun _ => rfl) _, 0, at_, true, rfl, by omega, (hR.drewN _).setBad, Or.inr rfl, ⟨fun _ => rfl, fun _ => Or.inr ⟨rfl, e1.out⟩⟩⟩

theorem byte_cons {r r' : List Nat} {x : Nat} (h : rdByte r = some (x, r')) : r = x :: r' := by
  cases r with
  | nil => cases h
  | cons y t =>
    have e : y = x ∧ t = r' := by simpa [rdByte] using h
    rw [e.1, e.2]
theorem byte_nil {r : List Nat} (h : rdByte r = none) : r = [] := by
  cases r with
  | nil => rfl
  | cons y t => cases h

/-- where a loop of reading stands -/
def SInv {α : Type} (f g : Option (α × List Nat)) (bad0 bad : Bool) : Prop := (bad0 = true → bad = true) ∧ (bad0 = false → bad = false → f = g) ∧ (bad0 = false → bad = true → f = none)

theorem SInv.start {α : Type} (f : Option (α × List Nat)) (bad : Bool) : SInv f f bad bad := ⟨fun h => h, fun _ _ => rfl, fun h h' => by rw [h] at h'; cases h'⟩
theorem SInv.comp {α β : Type} {F G G' : Option (β × List Nat)} {f1 : Option (α × List Nat)} {bad bad1 bad2 : Bool} {x : α} {r2 : List Nat} (h : SInv F G bad bad1) (hr : SRel f1 bad1 x r2 bad2) (h1 : f1 = some (x, r2) → G = G') (h0 : f1 = none → G = none) : SInv F G' bad bad2 := by
  refine ⟨fun hb => hr.1 (h.1 hb), fun hb hb2 => ?_, fun hb hb2 => ?_⟩
  · cases hb1 : bad1 with
    | true => rw [hr.1 hb1] at hb2; cases hb2
    | false =>
      rcases hr.2 hb1 with ⟨_, e⟩ | ⟨e, _⟩
      · exact (h.2.1 hb hb1).trans (h1 e)
      · rw [e] at hb2; cases hb2
  · cases hb1 : bad1 with
    | true => exact h.2.2 hb hb1
    | false =>
      rcases hr.2 hb1 with ⟨e, _⟩ | ⟨_, e⟩
      · rw [e] at hb2; cases hb2
      · exact (h.2.1 hb hb1).trans (h0 e)
theorem SInv.rel {α : Type} {F G : Option (α × List Nat)} {bad bad1 : Bool} {y : α} {r : List Nat} (h : SInv F G bad bad1) (hG : G = some (y, r)) : SRel F bad y r bad1 := by
  refine ⟨h.1, fun hb => ?_⟩
  cases hb1 : bad1 with
  | true => exact Or.inr ⟨rfl, h.2.2 hb hb1⟩
  | false => exact Or.inl ⟨rfl, (h.2.1 hb hb1).trans hG⟩
theorem SInv.bad {α : Type} {F G : Option (α × List Nat)} {bad bad1 : Bool} {y : α} {r : List Nat} (h : SInv F G bad bad1) (hG : G = none) : SRel F bad y r true := by
  refine ⟨fun _ => rfl, fun hb => Or.inr ⟨rfl, ?_⟩⟩
  cases hb1 : bad1 with
  | true => exact h.2.2 hb hb1
  | false => exact (h.2.1 hb hb1).trans hG
theorem sOr_form {n x s : Nat} (hn : n < 18446744073709551616) (_hx : x < 18446744073709551616) (hs : s ≤ 64) : bits .or .u64 (n : Int) (IntKind.u64.wrap ((x : Int) * 2 ^ s)) = ((orU n x s : Nat) : Int) := by
  have e3 : ((x : Int) * 2 ^ s) = ((x * 2 ^ s : Nat) : Int) := by push_cast; rfl
  have e4 : IntKind.u64.wrap ((x * 2 ^ s : Nat) : Int) = ((x * 2 ^ s % 18446744073709551616 : Nat) : Int) := by rw [IntKind.wrap_u64]; generalize x * 2 ^ s = y; omega
  rw [e3, e4, u64_or_nat n _ hn (Nat.mod_lt _ (by omega))]
  unfold orU
  rw [Nat.min_eq_left hs]
theorem and127 {x : Nat} (hx : x < 256) : IntKind.u64.wrap (bits .and .u8 (x : Int) 127) = ((x % 128 : Nat) : Int) := by
  have e1 : bits .and .u8 (x : Int) 127 = ((x % 128 : Nat) : Int) := by
    rw [u8_and _ _ (by omega) (by omega) (by omega) (by omega)]
    have h1 : (127 : Int).toNat = 127 := rfl
    rw [h1, Int.toNat_natCast, nat_mask7]
  rw [e1, IntKind.wrap_u64]; omega

set_option maxRecDepth 100000 in
theorem sEight_any (b : Nat) (sa : Option Addr) (cap : Nat) (bs : List Nat) (at_ : Nat) (bad : Bool) (w : World) (hR : SR w b sa cap bs at_ bad) :
    Calls Try.prog 126 #[.pointer (some ⟨b, 0, none⟩)] w (SPost (sLow 8 0 0 (bs.drop at_)) (fun x => .int .u64 (x : Int)) (fun x => x < 18446744073709551616) b sa cap bs at_ bad w) := by
  go_enter Try.func126, Try.ntmps126
  go_wp2
  go_loopw [3, 4] (fun a c ws => ∃ (n i at1 : Nat) (bad1 : Bool), a = .int .u64 n ∧ c = .int .i64 i ∧ n < 18446744073709551616 ∧ i ≤ 8 ∧ Hid (SInv (sLow 8 0 0 (bs.drop at_)) (sLow (8 - i) i n (bs.drop at1)) bad bad1) ∧ SR ws b sa cap bs at1 bad1 ∧ (at1 ≤ bs.length ∨ at1 = at_) ∧ Kept (fun k => k = b) w ws) (fun _ c _ => 8 - (intOf c).toNat)
  case atStart => exact ⟨0, 0, at_, bad, rfl, rfl, by omega, by omega, SInv.start _ _, hR, Or.inr rfl, Kept.refl _ _⟩
  case round =>
    obtain ⟨n, i, at1, bad1, rfl, rfl, hn, hi, hinv, hR1, hat1, hK⟩ := hrel
    by_cases hlt : i < 8
    · have hd : (i : Int) < 8 := by omega
      go_wp2_with (go_at_call 125; refine (sByte_any b sa cap bs at1 bad1 _ hR1).mono ?_; rintro e w1 ⟨hK1, x, at2, bad2, rfl, hx, hR2, hat2, hrel⟩)
      have e6 : IntKind.u64.wrap (x : Int) = (x : Int) := by rw [IntKind.wrap_u64]; omega
      refine ⟨⟨orU n x (8 * i), i + 1, at2, bad2, congrArg (Value.int .u64) (by first | exact sOr_form hn (by omega) (by omega) | (rw [e6]; exact sOr_form hn (by omega) (by omega))), by go_num, orU_lt hn, by omega, ?_, hR2, by omega, kk hK hK1⟩, by simp [intOf]; omega⟩
      refine hinv.out.comp hrel.out (fun h => ?_) (fun h => ?_)
      · rw [byte_cons h, show 8 - i = (8 - (i + 1)) + 1 by omega, sLow]
      · rw [byte_nil h, show 8 - i = (7 - i) + 1 by omega, sLow]
    · obtain rfl : i = 8 := by omega
      go_wp2
      go_ret
      exact ⟨hK, n, at1, bad1, rfl, hn, hR1, hat1, hinv.out.rel rfl⟩

end Go.Proofs.Ythjddpkegooobaa

/-
  SLOW: words are read back. Own work.
-/
namespace Go.Proofs.Ythjddpkegooobaa
open Go.RowKit

theorem sLow_back : ∀ (k i a m : Nat) (r : List Nat), i + k = 8 → a < 2 ^ (8 * i) → sLow k i a (lowB k m ++ r) = some (a + m % 2 ^ (8 * k) * 2 ^ (8 * i), r)
  | 0, i, a, m, r, _, _ => by
    show some (_, r) = _
    simp [Nat.mod_one]
  | k + 1, i, a, m, r, hk, ha => by
    show sLow k (i + 1) (orU a (m % 256) (8 * i)) (lowB k (m / 256) ++ r) = _
    have hp : 2 ^ (8 * (i + 1)) = 2 ^ (8 * i) * 256 := by rw [show 8 * (i + 1) = 8 * i + 8 by omega, Nat.pow_add]
    have hlt : a + m % 256 * 2 ^ (8 * i) < 2 ^ (8 * (i + 1)) := by
      have h1 : (m % 256 + 1) * 2 ^ (8 * i) ≤ 256 * 2 ^ (8 * i) := Nat.mul_le_mul_right _ (by omega)
      rw [Nat.add_mul] at h1
      rw [hp, Nat.mul_comm (2 ^ (8 * i)) 256]
      omega
    have h64 : 2 ^ (8 * (i + 1)) ≤ 2 ^ 64 := Nat.pow_le_pow_right (by omega) (by omega)
    rw [orU_join ha (by omega) (by omega), sLow_back k (i + 1) _ (m / 256) r (by omega) hlt]
    congr 2
    have e1 : m % 2 ^ (8 * (k + 1)) = m % 256 + m / 256 % 2 ^ (8 * k) * 256 := by
      rw [show 2 ^ (8 * (k + 1)) = 256 * 2 ^ (8 * k) by rw [show 8 * (k + 1) = 8 + 8 * k by omega, Nat.pow_add], Nat.mod_mul]
      omega
    rw [e1, hp, Nat.add_mul, Nat.mul_assoc, Nat.mul_comm 256 (2 ^ (8 * i)), Nat.add_assoc]

end Go.Proofs.Ythjddpkegooobaa

/-
  SUN: the specification's reader. Own work.
-/
namespace Go.Proofs.Ythjddpkegooobaa
open Go.RowKit

set_option maxRecDepth 100000 in
theorem sNum_any (b : Nat) (sa : Option Addr) (cap : Nat) (bs : List Nat) (at_ : Nat) (bad : Bool) (w : World) (hR : SR w b sa cap bs at_ bad) :
    Calls Try.prog 124 #[.pointer (some ⟨b, 0, none⟩)] w (SPost (sNum 10 0 0 (bs.drop at_)) (fun x => .int .u64 (x : Int)) (fun x => x < 18446744073709551616) b sa cap bs at_ bad w) := by
  go_enter Try.func124, Try.ntmps124
  go_wp2
  go_loopw [3, 4] (fun a c ws => ∃ (n i at1 : Nat) (bad1 : Bool), a = .int .u64 n ∧ c = .int .i64 i ∧ n < 18446744073709551616 ∧ i ≤ 10 ∧ Hid (SInv (sNum 10 0 0 (bs.drop at_)) (sNum (10 - i) n i (bs.drop at1)) bad bad1) ∧ SR ws b sa cap bs at1 bad1 ∧ (at1 ≤ bs.length ∨ at1 = at_) ∧ Kept (fun k => k = b) w ws) (fun _ c _ => 10 - (intOf c).toNat)
  case atStart => exact ⟨0, 0, at_, bad, rfl, rfl, by omega, by omega, ⟨fun h => h, fun _ _ => rfl, fun h h' => by rw [h] at h'; cases h'⟩, hR, Or.inr rfl, Kept.refl _ _⟩
  case round =>
    obtain ⟨n, i, at1, bad1, rfl, rfl, hn, hi, hinv, hR1, hat1, hK⟩ := hrel
    by_cases hlt : i < 10
    · have hd : (i : Int) < 10 := by omega
      go_wp2_with (go_at_call 125; refine (sByte_any b sa cap bs at1 bad1 _ hR1).mono ?_; rintro e w1 ⟨hK1, x, at2, bad2, rfl, hx, hR2, hat2, hrel⟩)
      · rename_i hl
        go_ret
        refine ⟨kk hK hK1, orU n (x % 128) (7 * i), at2, bad2, ret_int (by rw [and127 hx]; exact sOr_form hn (by omega) (by omega)), orU_lt hn, hR2, by omega, ?_⟩
        refine (hinv.out.comp (G' := some (orU n (x % 128) (7 * i), bs.drop at2)) hrel.out (fun h => ?_) (fun h => ?_)).rel rfl
        · rw [byte_cons h, show 10 - i = (9 - i) + 1 by omega, sNum, if_pos (by omega)]
        · rw [byte_nil h, show 10 - i = (9 - i) + 1 by omega, sNum]
      · rename_i hl
        refine ⟨⟨orU n (x % 128) (7 * i), i + 1, at2, bad2, congrArg (Value.int .u64) (by rw [and127 hx]; exact sOr_form hn (by omega) (by omega)), by go_num, orU_lt hn, by omega, ?_, hR2, by omega, kk hK hK1⟩, by simp [intOf]; omega⟩
        refine hinv.out.comp hrel.out (fun h => ?_) (fun h => ?_)
        · rw [byte_cons h, show 10 - i = (10 - (i + 1)) + 1 by omega, sNum, if_neg (by omega)]
        · rw [byte_nil h, show 10 - i = (9 - i) + 1 by omega, sNum]
    · obtain rfl : i = 10 := by omega
      obtain ⟨z1, z2, z3, z4, z5, _⟩ := id hR1
      go_wp2
      go_ret
      exact ⟨hK.set (fun _ => rfl) _, 0, at1, true, rfl, by omega, hR1.setBad, hat1, hinv.out.bad rfl⟩

set_option maxRecDepth 100000 in
theorem sSmall_any (b : Nat) (sa : Option Addr) (cap : Nat) (bs : List Nat) (at_ : Nat) (bad : Bool) (w : World) (hR : SR w b sa cap bs at_ bad) :
    Calls Try.prog 70 #[.pointer (some ⟨b, 0, none⟩)] w (SPost (sSmall (bs.drop at_)) (fun x => .int .i64 (x : Int)) (fun x => x ≤ 5000) b sa cap bs at_ bad w) := by
  go_enter Try.func70, Try.ntmps70
  go_wp2_with (go_at_call 124; refine (sNum_any b sa cap bs at_ bad _ hR).mono ?_; rintro e w1 ⟨hK1, x, at2, bad2, rfl, hx, hR2, hat2, hrel⟩; obtain ⟨z1, z2, z3, z4, z5, _⟩ := id hR2)
  · rename_i hl
    go_ret
    refine ⟨hK1.set (fun _ => rfl) _, 0, at2, true, rfl, by omega, hR2.setBad, hat2, ?_⟩
    refine ((SInv.start (sSmall (bs.drop at_)) bad).comp (G' := none) hrel.out (fun h => ?_) (fun h => ?_)).bad rfl
    · unfold sSmall; rw [h]; exact if_neg (by omega)
    · unfold sSmall; rw [h]
  · rename_i hl
    go_ret
    refine ⟨hK1, x, at2, bad2, by first | rfl | exact ret_int (by omega), by omega, hR2, hat2, ?_⟩
    refine ((SInv.start (sSmall (bs.drop at_)) bad).comp (G' := some (x, bs.drop at2)) hrel.out (fun h => ?_) (fun h => ?_)).rel rfl
    · unfold sSmall; rw [h]; exact if_pos (by omega)
    · unfold sSmall; rw [h]

end Go.Proofs.Ythjddpkegooobaa

/-
  REGIONV: the end of a region that draws its order. Own work.
-/
namespace Go.Proofs.Ythjddpkegooobaa
open Go.RowKit

/-- none may come up any more -/
theorem anyU_done {P : Program} {ops : Array Oper} {Q : Exit → Act → World → Prop} {md : Region.Mode} {S : World → Prop} {lst : Nat} {fuel : Nat} {listed : Array Bool} {a : Act} {w : World} (hd : Region.ready md ops listed = []) (hQ : Q .normal a w) : anyU P md ops Q S lst fuel listed a w := by
  cases fuel with
  | zero => exact ⟨hd, hQ⟩
  | succ f => exact ⟨fun _ => hQ, fun i hi => by rw [hd] at hi; cases hi⟩

end Go.Proofs.Ythjddpkegooobaa
