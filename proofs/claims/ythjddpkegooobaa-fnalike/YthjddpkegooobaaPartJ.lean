import Derived.Deep.RegionHeld3
import Derived.Deep.QuietTactic
import Derived.BigQuiet
import Derived.WalkSmall
import Derived.WalkLawsBesides
import Derived.Test.YthjddpkegooobaaPartI

/-
  CANONMAP: numbering nodes anew changes no form. Own work.
-/
namespace Go.Proofs.Ythjddpkegooobaa

/-- a value, its node by another number -/
def mapV (f : Nat → Nat) (v : GV) : GV := if v.kind = 4 then { v with node := (f v.node.toNat : Nat) } else v
theorem mapV_kind (f : Nat → Nat) (v : GV) : (mapV f v).kind = v.kind := by unfold mapV; split <;> rfl
theorem mapV_node {f : Nat → Nat} {v : GV} (h : v.kind = 4) : (mapV f v).node.toNat = f v.node.toNat := by
  unfold mapV; rw [if_pos h]; exact Int.toNat_natCast _

section
variable {f : Nat → Nat} {S : Nat → Prop}

theorem mem_map_inj (hf : ∀ i j, S i → S j → f i = f j → i = j) {ord : List Nat} (ho : ∀ x, x ∈ ord → S x) {i : Nat} (hi : S i) : f i ∈ ord.map f ↔ i ∈ ord := by
  constructor
  · intro h
    obtain ⟨j, hj, e⟩ := List.mem_map.1 h
    rw [← hf j i (ho j hj) hi e]; exact hj
  · intro h
    exact List.mem_map.2 ⟨i, h, rfl⟩
theorem idxOf_mapS (hf : ∀ i j, S i → S j → f i = f j → i = j) : ∀ {ord : List Nat}, (∀ x, x ∈ ord → S x) → ∀ {i : Nat}, S i → (ord.map f).idxOf (f i) = ord.idxOf i
  | [], _, _, _ => rfl
  | y :: r, ho, i, hi => by
    rw [List.map_cons, List.idxOf_cons, List.idxOf_cons]
    by_cases e : y = i
    · subst e; simp
    · have e2 : f y ≠ f i := fun h => e (hf y i (ho y (List.mem_cons_self ..)) hi h)
      rw [show (f y == f i) = false from beq_eq_false_iff_ne.2 e2, show (y == i) = false from beq_eq_false_iff_ne.2 e, idxOf_mapS hf (fun x hx => ho x (List.mem_cons_of_mem _ hx)) hi]

theorem renOrd_map (hf : ∀ i j, S i → S j → f i = f j → i = j) {ord : List Nat} (ho : ∀ x, x ∈ ord → S x) {v : GV} (hv : v.kind = 4 → S v.node.toNat) : renOrd (ord.map f) (mapV f v) = (renOrd ord v).map f := by
  unfold renOrd
  rw [mapV_kind]
  by_cases hk : v.kind = 4
  · rw [mapV_node hk]
    by_cases hm : v.node.toNat ∈ ord
    · rw [if_neg (fun h => h.2 ((mem_map_inj hf ho (hv hk)).2 hm)), if_neg (fun h => h.2 hm)]
    · rw [if_pos ⟨hk, fun h => hm ((mem_map_inj hf ho (hv hk)).1 h)⟩, if_pos ⟨hk, hm⟩, List.map_append]
      rfl
  · rw [if_neg (fun h => hk h.1), if_neg (fun h => hk h.1)]
theorem renOrd_in {ord : List Nat} (ho : ∀ x, x ∈ ord → S x) {v : GV} (hv : v.kind = 4 → S v.node.toNat) : ∀ x, x ∈ renOrd ord v → S x := by
  intro x hx
  unfold renOrd at hx
  split at hx
  · rename_i h
    rcases List.mem_append.1 hx with h1 | h1
    · exact ho x h1
    · rw [List.mem_singleton.1 h1]; exact hv h.1
  · exact ho x hx
theorem renVal_map (hf : ∀ i j, S i → S j → f i = f j → i = j) {ord : List Nat} (ho : ∀ x, x ∈ ord → S x) {v : GV} (hv : v.kind = 4 → S v.node.toNat) : renVal (ord.map f) (mapV f v) = renVal ord v := by
  by_cases hk : v.kind = 4
  · unfold renVal
    rw [mapV_kind, if_pos hk, if_pos hk, renOrd_map hf ho hv, mapV_node hk, idxOf_mapS hf (renOrd_in ho hv) (hv hk)]
    unfold mapV
    rw [if_pos hk]
  · have e : mapV f v = v := by unfold mapV; rw [if_neg hk]
    rw [e]; unfold renVal
    rw [if_neg hk, if_neg hk]
theorem renOrds_map (hf : ∀ i j, S i → S j → f i = f j → i = j) : ∀ {l : List GV} {ord : List Nat}, (∀ x, x ∈ ord → S x) → (∀ v, v ∈ l → v.kind = 4 → S v.node.toNat) → renOrds (ord.map f) (l.map (mapV f)) = (renOrds ord l).map f ∧ renVals (ord.map f) (l.map (mapV f)) = renVals ord l ∧ ∀ x, x ∈ renOrds ord l → S x
  | [], _, ho, _ => ⟨rfl, rfl, ho⟩
  | v :: l, ord, ho, hv => by
    have h0 := hv v (List.mem_cons_self ..)
    obtain ⟨h1, h2, h3⟩ := renOrds_map hf (l := l) (ord := renOrd ord v) (renOrd_in ho h0) (fun x hx => hv x (List.mem_cons_of_mem _ hx))
    refine ⟨?_, ?_, h3⟩
    · show renOrds (renOrd (ord.map f) (mapV f v)) (l.map (mapV f)) = _
      rw [renOrd_map hf ho h0]; exact h1
    · show renVal (ord.map f) (mapV f v) :: renVals (renOrd (ord.map f) (mapV f v)) (l.map (mapV f)) = renVal ord v :: renVals (renOrd ord v) l
      rw [renOrd_map hf ho h0, renVal_map hf ho h0, h2]

/-- the one graph is the other, its nodes by other numbers -/
structure MapG (f : Nat → Nat) (S : Nat → Prop) (g h : GG) : Prop where
  inj : ∀ i j, S i → S j → f i = f j → i = j
  root : g.root.kind = 4 → S g.root.node.toNat
  rootEq : h.root = mapV f g.root
  node : ∀ i, S i → h.nodes[f i]! = ⟨g.nodes[i]!.tag, g.nodes[i]!.vals.map (mapV f)⟩
  vals : ∀ i, S i → ∀ v, v ∈ g.nodes[i]!.vals → v.kind = 4 → S v.node.toNat

theorem MapG.sim {g h : GG} (m : MapG f S g h) : ∀ k, canonO h.nodes (renOrd [] h.root) k = (canonO g.nodes (renOrd [] g.root) k).map f ∧ canonN h.nodes (renOrd [] h.root) k = canonN g.nodes (renOrd [] g.root) k ∧ ∀ x, x ∈ canonO g.nodes (renOrd [] g.root) k → S x
  | 0 => by
    have h0 : ∀ x, x ∈ ([] : List Nat) → S x := fun x hx => by cases hx
    refine ⟨?_, by unfold canonN; rfl, ?_⟩
    · unfold canonO
      rw [m.rootEq]
      exact renOrd_map (ord := []) m.inj h0 m.root
    · unfold canonO
      exact renOrd_in h0 m.root
  | k + 1 => by
    obtain ⟨h1, h2, h3⟩ := m.sim k
    rw [canonO_succ, canonN_succ, canonO_succ, canonN_succ, h1, h2, List.length_map]
    by_cases hk : k < (canonO g.nodes (renOrd [] g.root) k).length
    · have e : ((canonO g.nodes (renOrd [] g.root) k).map f)[k]! = f (canonO g.nodes (renOrd [] g.root) k)[k]! := by
        rw [getElem!_pos _ k (by rw [List.length_map]; exact hk), getElem!_pos _ k hk, List.getElem_map]
      have hS := h3 _ (mem_at hk)
      obtain ⟨r1, r2, r3⟩ := renOrds_map (l := (g.nodes[(canonO g.nodes (renOrd [] g.root) k)[k]!]!).vals) m.inj h3 (m.vals _ hS)
      rw [if_pos hk, if_pos hk, if_pos hk, if_pos hk, e, m.node _ hS]
      exact ⟨r1, by rw [r2], r3⟩
    · rw [if_neg hk, if_neg hk, if_neg hk, if_neg hk]
      exact ⟨rfl, rfl, h3⟩

theorem MapG.canon {g h : GG} (m : MapG f S g h) (hg : okG g = true) (hh : okG h = true) : canon h = canon g := by
  obtain ⟨_, gr, gn⟩ := okG_parts hg
  obtain ⟨_, hr, hn⟩ := okG_parts hh
  have ig := (canonO_inv ((InvO.nil _).ren gr) gn g.nodes.length).le
  have ih := (canonO_inv ((InvO.nil _).ren hr) hn h.nodes.length).le
  have er : renVal [] h.root = renVal [] g.root := by
    rw [m.rootEq]
    exact renVal_map (ord := []) m.inj (fun x hx => by cases hx) m.root
  unfold Go.Proofs.Ythjddpkegooobaa.canon
  rw [er]
  congr 1
  rcases Nat.le_total g.nodes.length h.nodes.length with hl | hl
  · obtain ⟨s1, s2, _⟩ := m.sim g.nodes.length
    have h1 : (canonO h.nodes (renOrd [] h.root) g.nodes.length).length ≤ g.nodes.length := by rw [s1, List.length_map]; exact ig
    have h2 := (canon_stable h.nodes (renOrd [] h.root) g.nodes.length h1 (h.nodes.length - g.nodes.length)).2
    rw [show g.nodes.length + (h.nodes.length - g.nodes.length) = h.nodes.length by omega] at h2
    rw [h2, s2]
  · obtain ⟨s1, s2, _⟩ := m.sim h.nodes.length
    have h1 : (canonO g.nodes (renOrd [] g.root) h.nodes.length).length ≤ h.nodes.length := by
      have := congrArg List.length s1
      rw [List.length_map] at this
      omega
    have h2 := (canon_stable g.nodes (renOrd [] g.root) h.nodes.length h1 (g.nodes.length - h.nodes.length)).2
    rw [show h.nodes.length + (g.nodes.length - h.nodes.length) = g.nodes.length by omega] at h2
    rw [h2, s2]
end

/-! a form is its own form -/
theorem prefix_renOrd (ord : List Nat) (v : GV) : ord <+: renOrd ord v := by
  unfold renOrd
  split
  · exact List.prefix_append _ _
  · exact List.prefix_refl _
theorem prefix_renOrds (l : List GV) : ∀ ord : List Nat, ord <+: renOrds ord l := by
  induction l with
  | nil => intro ord; exact List.prefix_refl _
  | cons v r ih => intro ord; exact (prefix_renOrd ord v).trans (ih (renOrd ord v))
theorem prefix_canonO (nodes : List GN) (ord0 : List Nat) {k m : Nat} (h : k ≤ m) : canonO nodes ord0 k <+: canonO nodes ord0 m := by
  induction h with
  | refl => exact List.prefix_refl _
  | step _ ih =>
    refine ih.trans ?_
    rw [canonO_succ]
    split
    · exact prefix_renOrds _ _
    · exact List.prefix_refl _
theorem idxOf_prefix {a b : List Nat} (h : a <+: b) {x : Nat} (hx : x ∈ a) : b.idxOf x = a.idxOf x := by
  obtain ⟨c, rfl⟩ := h
  rw [List.idxOf_append, if_pos hx]
theorem renVal_prefix {ord o : List Nat} {v : GV} (h : renOrd ord v <+: o) : renVal ord v = mapV (fun x => o.idxOf x) v := by
  unfold renVal mapV
  by_cases hk : v.kind = 4
  · rw [if_pos hk, if_pos hk]
    dsimp only
    rw [idxOf_prefix h (mem_renOrd hk)]
  · rw [if_neg hk, if_neg hk]
theorem renVals_prefix : ∀ (l : List GV) (ord o : List Nat), renOrds ord l <+: o → renVals ord l = l.map (mapV fun x => o.idxOf x)
  | [], _, _, _ => rfl
  | v :: l, ord, o, h => by
    show renVal ord v :: renVals (renOrd ord v) l = _
    rw [List.map_cons, renVal_prefix ((prefix_renOrds l (renOrd ord v)).trans h), renVals_prefix l (renOrd ord v) o h]
theorem mem_renOrds : ∀ (l : List GV) (ord : List Nat) (v : GV), v ∈ l → v.kind = 4 → v.node.toNat ∈ renOrds ord l
  | [], _, _, h, _ => by cases h
  | x :: l, ord, v, h, hk => by
    rcases List.mem_cons.1 h with rfl | h
    · exact (prefix_renOrds l (renOrd ord v)).subset (mem_renOrd hk)
    · exact mem_renOrds l (renOrd ord x) v h hk

theorem canonN_get (nodes : List GN) (ord0 : List Nat) : ∀ (m k : Nat), k < m → k < (canonO nodes ord0 m).length → (canonN nodes ord0 m)[k]! = ⟨(nodes[(canonO nodes ord0 m)[k]!]!).tag, (nodes[(canonO nodes ord0 m)[k]!]!).vals.map (mapV fun x => (canonO nodes ord0 m).idxOf x)⟩ ∧ ∀ v, v ∈ (nodes[(canonO nodes ord0 m)[k]!]!).vals → v.kind = 4 → v.node.toNat ∈ canonO nodes ord0 m := by
  intro m k hkm hkl
  -- in round k the node was taken
  have hk0 : k < (canonO nodes ord0 k).length := by
    by_cases h : k < (canonO nodes ord0 k).length
    · exact h
    · have h1 := (canon_stable nodes ord0 k (by omega) (m - k)).1
      rw [show k + (m - k) = m by omega] at h1
      rw [h1] at hkl
      exact hkl
  have hp := prefix_canonO nodes ord0 (Nat.le_of_lt hkm)
  have hp1 := prefix_canonO nodes ord0 (show k + 1 ≤ m by omega)
  have e1 : (canonO nodes ord0 m)[k]! = (canonO nodes ord0 k)[k]! := by
    obtain ⟨c, hc⟩ := hp
    rw [← hc, getElem!_pos _ k (by rw [List.length_append]; omega), getElem!_pos _ k hk0, List.getElem_append_left hk0]
  have es : canonO nodes ord0 (k + 1) = renOrds (canonO nodes ord0 k) (nodes[(canonO nodes ord0 k)[k]!]!).vals := by rw [canonO_succ, if_pos hk0]
  refine ⟨?_, fun v hv hk4 => ?_⟩
  · have hN : ∀ j, k + 1 ≤ j → (canonN nodes ord0 j)[k]! = (canonN nodes ord0 (k + 1))[k]! := by
      intro j hj
      induction hj with
      | refl => rfl
      | step hle ih =>
        rename_i j'
        have hlen : k < (canonN nodes ord0 j').length := by
          rw [canonN_len]
          have h3 : k + 1 ≤ j' := hle
          have := canonO_mono nodes ord0 (Nat.le_of_succ_le h3)
          omega
        rw [← ih, canonN_succ]
        split
        · rw [getElem!_pos _ k (by rw [List.length_append]; omega), getElem!_pos _ k hlen, List.getElem_append_left hlen]
        · rfl
    rw [hN m (by omega), canonN_succ, if_pos hk0, e1]
    have hl : (canonN nodes ord0 k).length = k := by rw [canonN_len]; omega
    rw [getElem!_pos _ k (by rw [List.length_append, hl]; simp), List.getElem_append_right (by omega)]
    simp only [hl, Nat.sub_self, List.getElem_cons_zero]
    rw [renVals_prefix _ _ (canonO nodes ord0 m) (by rw [← es]; exact hp1)]
  · rw [e1] at hv
    refine hp1.subset ?_
    rw [es]
    exact mem_renOrds _ _ v hv hk4

theorem canon_mapG {g : GG} (hok : okG g = true) : MapG (fun x => (canonO g.nodes (renOrd [] g.root) g.nodes.length).idxOf x) (fun x => x ∈ canonO g.nodes (renOrd [] g.root) g.nodes.length) g (canon g) := by
  obtain ⟨_, gr, gn⟩ := okG_parts hok
  have hinv := canonO_inv ((InvO.nil _).ren gr) gn g.nodes.length
  have hp0 : renOrd [] g.root <+: canonO g.nodes (renOrd [] g.root) g.nodes.length := by
    have h := prefix_canonO g.nodes (renOrd [] g.root) (Nat.zero_le g.nodes.length)
    rwa [show canonO g.nodes (renOrd [] g.root) 0 = renOrd [] g.root by unfold canonO; rfl] at h
  have hat : ∀ i, i ∈ canonO g.nodes (renOrd [] g.root) g.nodes.length → ∃ k, k < (canonO g.nodes (renOrd [] g.root) g.nodes.length).length ∧ (canonO g.nodes (renOrd [] g.root) g.nodes.length).idxOf i = k ∧ (canonO g.nodes (renOrd [] g.root) g.nodes.length)[k]! = i := fun i hi => by
    have h1 := List.idxOf_lt_length_of_mem hi
    exact ⟨_, h1, rfl, (getElem!_pos (canonO g.nodes (renOrd [] g.root) g.nodes.length) _ h1).trans (List.getElem_idxOf h1)⟩
  refine ⟨fun i j hi hj e => ?_, fun hk => ?_, ?_, fun i hi => ?_, fun i hi v hv hk => ?_⟩
  · obtain ⟨k, _, e1, e2⟩ := hat i hi
    obtain ⟨k', _, e3, e4⟩ := hat j hj
    rw [← e2, ← e4, ← e1, ← e3, e]
  · exact hp0.subset (mem_renOrd hk)
  · exact renVal_prefix hp0
  · obtain ⟨k, hk, e1, e2⟩ := hat i hi
    have h1 := (canonN_get g.nodes (renOrd [] g.root) g.nodes.length k (by have := hinv.le; omega) hk).1
    rw [e1]
    rw [e2] at h1
    exact h1
  · obtain ⟨k, hk', e1, e2⟩ := hat i hi
    have h1 := (canonN_get g.nodes (renOrd [] g.root) g.nodes.length k (by have := hinv.le; omega) hk').2
    rw [e2] at h1
    exact h1 v hv hk

theorem canon_canon {g : GG} (hok : okG g = true) : canon (canon g) = canon g := (canon_mapG hok).canon hok (canon_okG hok)

end Go.Proofs.Ythjddpkegooobaa

/-
  L6K: the greatest number that goes into both. Own work.
-/
namespace Go.Proofs.Ythjddpkegooobaa
open Go.RowKit

theorem step_inj0 {n s i j : Nat} (hg : Nat.gcd s n = 1) (hij : i ≤ j) (hj : j < n) (h : i * s % n = j * s % n) : i = j := by
  have h1 : (j * s - i * s) % n = 0 := Nat.sub_mod_eq_zero_of_mod_eq h.symm
  have h2 : n ∣ (j - i) * s := by rw [Nat.sub_mul]; exact Nat.dvd_of_mod_eq_zero h1
  have h3 : n ∣ j - i := Nat.Coprime.dvd_of_dvd_mul_right (by unfold Nat.Coprime; rw [Nat.gcd_comm]; exact hg) h2
  have h4 : j - i = 0 := Nat.eq_zero_of_dvd_of_lt h3 (by omega)
  omega
theorem step_inj {n s i j : Nat} (hg : Nat.gcd s n = 1) (hi : i < n) (hj : j < n) (h : i * s % n = j * s % n) : i = j := by
  rcases Nat.le_total i j with hle | hle
  · exact step_inj0 hg hle hj h
  · exact (step_inj0 hg hle hi h.symm).symm

set_option maxRecDepth 100000 in
theorem l6gcd_any (a b : Nat) (x y : Int) (w : World) (hx : x = (a : Int)) (hy : y = (b : Int)) (ha : a < 4611686018427387904) (hb : b < 4611686018427387904) :
    Calls Try.prog 129 #[.int .i64 x, .int .i64 y] w fun e w' => e = .returned (.int .i64 ((Nat.gcd a b : Nat) : Int)) ∧ w' = w := by
  subst hx hy
  go_enter Try.func129, Try.ntmps129
  go_wp2
  go_loopw [0, 1] (fun x y ws => ∃ c d : Nat, x = .int .i64 (c : Int) ∧ y = .int .i64 (d : Int) ∧ c < 4611686018427387904 ∧ d < 4611686018427387904 ∧ Hid (Nat.gcd c d = Nat.gcd a b) ∧ ws = w) (fun _ y _ => (intOf y).toNat)
  case atStart => exact ⟨a, b, rfl, rfl, ha, hb, rfl, rfl⟩
  case round =>
    obtain ⟨c, d, rfl, rfl, hc, hd, hg, rfl⟩ := hrel
    by_cases h0 : 0 < d
    · have h1 : (0 : Int) < (d : Int) := by omega
      have h2 : ¬ ((d : Int) = 0) := by omega
      have hlt := Nat.mod_lt c h0
      go_wp2
      go_roundw
      case rel =>
        have e : ((c % d : Nat) : Int) = (c : Int) % (d : Int) := by simp
        refine ⟨d, c % d, rfl, congrArg (Value.int .i64) e.symm, hd, by omega, ?_, trivial⟩
        show Nat.gcd d (c % d) = Nat.gcd a b
        rw [← hg.out, Nat.gcd_comm d (c % d), ← Nat.gcd_rec, Nat.gcd_comm]
      case measure =>
        have e : ((c % d : Nat) : Int) = (c : Int) % (d : Int) := by simp
        simp [intOf]
        omega
    · obtain rfl : d = 0 := by omega
      go_wp2
      go_ret
      exact ⟨by rw [← hg.out, Nat.gcd_zero_right]; rfl, rfl⟩

end Go.Proofs.Ythjddpkegooobaa

/-
  L6M: a graph whose nodes stand in another order, plain. Own work.
-/
namespace Go.Proofs.Ythjddpkegooobaa
open Go.RowKit

/-- where a node comes to stand -/
def turnF (s n i : Nat) : Nat := i * s % n
def mapN (f : Nat → Nat) (x : GN) : GN := ⟨x.tag, x.vals.map (mapV f)⟩
theorem turnF_lt {s n i : Nat} (h : 0 < n) : turnF s n i < n := Nat.mod_lt _ h

/-- the one is the other in another order, and some that nothing leads to -/
structure TurnG (s : Nat) (g h : GG) : Prop where
  pos : 0 < g.nodes.length
  gcd : Nat.gcd s g.nodes.length = 1
  len : g.nodes.length ≤ h.nodes.length
  top : h.nodes.length ≤ 300
  root : h.root = mapV (turnF s g.nodes.length) g.root
  node : ∀ i, i < g.nodes.length → h.nodes[turnF s g.nodes.length i]! = mapN (turnF s g.nodes.length) g.nodes[i]!
  all : ∀ x, x ∈ h.nodes → x = ⟨0, []⟩ ∨ ∃ i, i < g.nodes.length ∧ x = mapN (turnF s g.nodes.length) g.nodes[i]!

theorem mapV_ok {f : Nat → Nat} {n m : Nat} (hf : ∀ i, i < n → f i < m) {v : GV} (h : okV n v = true) : okV m (mapV f v) = true := by
  obtain rfl | ⟨k, rfl⟩ | ⟨k, rfl⟩ | ⟨t, ht, rfl⟩ | ⟨k, hk, rfl⟩ := okV_cases h
  · simp [mapV, okV]
  · simp [mapV, okV]
  · simp [mapV, okV]
  · simp [mapV, okV]; exact ht
  · have := hf k hk
    simp [mapV, okV]
    omega
theorem mapV_Ok {f : Nat → Nat} {n m : Nat} (hm : m ≤ 300) (hf : ∀ i, i < n → f i < m) {v : GV} (hv : v.Ok) (h : okV n v = true) : (mapV f v).Ok := by
  obtain rfl | ⟨k, rfl⟩ | ⟨k, rfl⟩ | ⟨t, ht, rfl⟩ | ⟨k, hk, rfl⟩ := okV_cases h
  · simpa [mapV] using hv
  · simpa [mapV] using hv
  · simpa [mapV] using hv
  · simpa [mapV] using hv
  · have := hf k hk
    refine ⟨by simpa [mapV] using hv.kind, by simpa [mapV] using hv.num, by simpa [mapV] using hv.text, ?_⟩
    show I64 (mapV f ⟨4, 0, ⟨#[]⟩, (k : Int)⟩).node
    simp [mapV, I64]
    omega
theorem okV_toNat {n : Nat} {v : GV} (h : okV n v = true) (hk : v.kind = 4) : v.node.toNat < n := by
  have := okV_node h hk
  omega

theorem TurnG.ok {s : Nat} {g h : GG} (t : TurnG s g h) (hg : g.Ok) (hok : okG g = true) : h.Ok ∧ okG h = true := by
  obtain ⟨h300, hr, hn⟩ := okG_parts hok
  have hf : ∀ i, i < g.nodes.length → turnF s g.nodes.length i < h.nodes.length := fun i _ => Nat.lt_of_lt_of_le (turnF_lt t.pos) t.len
  have hN : ∀ x, x ∈ h.nodes → x.Ok ∧ okN h.nodes.length x = true := fun x hx => by
    rcases t.all x hx with rfl | ⟨i, hi, rfl⟩
    · exact ⟨⟨by show I64 0; unfold I64; omega, by show 0 ≤ maxLen; exact Nat.zero_le _, fun v hv => by cases hv⟩, by simp [okN]⟩
    · have hm : g.nodes[i]! ∈ g.nodes := mem_at hi
      obtain ⟨h100, hv⟩ := okN_parts (hn _ hm)
      have hO := hg.nodes _ hm
      have htag : 0 ≤ g.nodes[i]!.tag ∧ g.nodes[i]!.tag ≤ 1000 := by
        have := hn _ hm
        unfold okN at this
        simp only [Bool.and_eq_true, decide_eq_true_eq] at this
        exact ⟨this.1.1, this.1.2.1⟩
      refine ⟨⟨hO.tag, by show (g.nodes[i]!.vals.map _).length ≤ maxLen; rw [List.length_map]; exact hO.len, fun v hv2 => ?_⟩, okN_of htag.1 htag.2 (by show (g.nodes[i]!.vals.map _).length ≤ 100; rw [List.length_map]; exact h100) (fun v hv2 => ?_)⟩
      · obtain ⟨u, hu, rfl⟩ := List.mem_map.1 hv2
        exact mapV_Ok t.top hf (hO.vals u hu) (hv u hu)
      · obtain ⟨u, hu, rfl⟩ := List.mem_map.1 hv2
        exact mapV_ok hf (hv u hu)
  refine ⟨⟨by rw [t.root]; exact mapV_Ok t.top hf hg.root hr, by have := t.top; unfold maxLen; omega, fun x hx => (hN x hx).1⟩, ?_⟩
  unfold okG
  rw [decide_eq_true t.top, t.root, mapV_ok hf hr, List.all_eq_true.2 (fun x hx => (hN x hx).2)]
  rfl
theorem TurnG.map {s : Nat} {g h : GG} (t : TurnG s g h) (hok : okG g = true) : MapG (turnF s g.nodes.length) (fun i => i < g.nodes.length) g h := by
  obtain ⟨_, hr, hn⟩ := okG_parts hok
  exact ⟨fun i j hi hj e => step_inj t.gcd hi hj e, fun hk => okV_toNat hr hk, t.root, fun i hi => t.node i hi, fun i hi v hv hk => okV_toNat ((okN_parts (hn _ (mem_at hi))).2 v hv) hk⟩
theorem TurnG.canon {s : Nat} {g h : GG} (t : TurnG s g h) (hg : g.Ok) (hok : okG g = true) : canon h = canon g := (t.map hok).canon hok (t.ok hg hok).2

end Go.Proofs.Ythjddpkegooobaa

/-
  L6P: a node put into a graph of its own memory. Own work.
-/
namespace Go.Proofs.Ythjddpkegooobaa
open Go.RowKit

theorem nodeCells_set : ∀ (nl : List NL) (t : Nat) (x : NL), t < nl.length → nodeCells (nl.set t x) = ((nodeCells nl).set (t * 2) (.int .i64 x.n.tag)).set (t * 2 + 1) (.slice x.a x.n.vals.length x.cap)
  | [], t, _, h => absurd h (Nat.not_lt_zero t)
  | y :: r, 0, x, _ => by
    show x.two ++ nodeCells r = ((y.two ++ nodeCells r).set 0 _).set 1 _
    simp [NL.two]
  | y :: r, t + 1, x, h => by
    have ih := nodeCells_set r t x (Nat.lt_of_succ_lt_succ h)
    show y.two ++ nodeCells (r.set t x) = ((y.two ++ nodeCells r).set ((t + 1) * 2) _).set ((t + 1) * 2 + 1) _
    rw [ih, show (t + 1) * 2 = t * 2 + 2 by omega]
    simp [NL.two]

theorem OwnG.put {w : World} {base N nc : Nat} {nl : List NL} (h : OwnG w base (some ⟨N, 0, none⟩) nc nl) {t : Nat} (ht : t < nl.length) {x : NL} (hv : w.ownsRow base 24 4 (.slice x.a x.n.vals.length x.cap) x.n.vals.length (valCells x.n.vals)) (hN : Far x.a (some ⟨N, 0, none⟩)) (hF : ∀ y, y ∈ nl → Far x.a y.a ∧ Far y.a x.a) :
    OwnG ((w.setCell ⟨N, t * 2, none⟩ (.int .i64 x.n.tag)).setCell ⟨N, t * 2 + 1, none⟩ (.slice x.a x.n.vals.length x.cap)) base (some ⟨N, 0, none⟩) nc (nl.set t x) := by
  have hK : Kept (fun k => k = N) w ((w.setCell ⟨N, t * 2, none⟩ (.int .i64 x.n.tag)).setCell ⟨N, t * 2 + 1, none⟩ (.slice x.a x.n.vals.length x.cap)) := ((Kept.refl (fun k => k = N) w).set (a := ⟨N, t * 2, none⟩) (fun _ => rfl) _).set (a := ⟨N, t * 2 + 1, none⟩) (fun _ => rfl) _
  have hmem : ∀ y, y ∈ nl.set t x → y ∈ nl ∨ y = x := fun y hy => List.mem_or_eq_of_mem_set hy
  refine ⟨?_, fun y hy => ?_, fun y hy => ?_, fun i j hij hj => ?_⟩
  · have h1 := (World.ownsRow.stored (h.nodes.stored (t * 2) (.int .i64 x.n.tag)).1 (t * 2 + 1) (.slice x.a x.n.vals.length x.cap)).1
    rw [nodeCells_set nl t x ht, List.length_set]
    exact h1
  · rcases hmem y hy with hy | rfl
    · exact hK.owns (h.vals y hy) (fun k hk e => h.apn y hy k (owns_addr (h.vals y hy) hk) (by rw [e]))
    · exact hK.owns hv (fun k hk e => hN k (owns_addr hv hk) (by rw [e]))
  · rcases hmem y hy with hy | rfl
    · exact h.apn y hy
    · exact hN
  · rw [List.length_set] at hj
    have hi : i < nl.length := Nat.lt_trans hij hj
    have gi : (nl.set t x)[i]! = if t = i then x else nl[i]! := by
      rw [getElem!_pos _ i (by rw [List.length_set]; exact hi), List.getElem_set, getElem!_pos nl i hi]
    have gj : (nl.set t x)[j]! = if t = j then x else nl[j]! := by
      rw [getElem!_pos _ j (by rw [List.length_set]; exact hj), List.getElem_set, getElem!_pos nl j hj]
    rw [gi, gj]
    by_cases e1 : t = i
    · rw [if_pos e1, if_neg (by omega)]
      exact (hF _ (mem_at hj)).1
    · rw [if_neg e1]
      by_cases e2 : t = j
      · rw [if_pos e2]
        exact (hF _ (mem_at hi)).2
      · rw [if_neg e2]
        exact h.apv i j hij hj

/-- a node that was made and not yet filled -/
def zeroNL : NL := ⟨⟨0, []⟩, none, 0⟩
theorem made_nodes : ∀ M : Nat, (madeCells #[.int .i64 0, .slice none 0 0] (M * 2)).toList = nodeCells (List.replicate M zeroNL)
  | 0 => by simp [madeCells, nodeCells]
  | M + 1 => by
    have ih := made_nodes M
    have e : List.range ((M + 1) * 2) = List.range (M * 2) ++ [M * 2, M * 2 + 1] := by
      rw [show (M + 1) * 2 = M * 2 + 1 + 1 by omega, List.range_succ, List.range_succ, List.append_assoc]
      rfl
    rw [List.replicate_succ', nodeCells_snoc, ← ih]
    unfold madeCells
    rw [Array.toList_map, Array.toList_map, Array.toList_range, Array.toList_range, e, List.map_append]
    congr 1
    simp [zeroNL, Nat.add_mod]
theorem OwnG.zero (w : World) {base : Nat} (hb : base ≤ w.heap.size) (M : Nat) (hM : M ≤ maxLen) :
    OwnG (w.alloc (.cells (madeCells #[.int .i64 0, .slice none 0 0] (M * 2)) 84)) base (some ⟨w.heap.size, 0, none⟩) M (List.replicate M zeroNL) := by
  have hz : ∀ x, x ∈ List.replicate M zeroNL → x = zeroNL := fun x hx => List.eq_of_mem_replicate hx
  refine ⟨?_, fun x hx => ?_, fun x hx => ?_, fun i j hij hj => ?_⟩
  · have h := World.ownsRow_lit (base := base) (e := 84) (size := 2) w (madeCells #[.int .i64 0, .slice none 0 0] (M * 2)) M hb hM (size_madeCells _ _)
    rw [made_nodes] at h
    rw [List.length_replicate]
    exact h
  · rw [hz x hx]; exact World.ownsRow_nil _ _ _ _
  · rw [hz x hx]; intro k hk; cases hk
  · rw [List.length_replicate] at hj
    rw [getElem!_pos _ i (by rw [List.length_replicate]; omega), List.getElem_replicate]
    intro k hk
    cases hk

end Go.Proofs.Ythjddpkegooobaa

/-
  L6R: a node or a value changed in a graph of its own memory. Own work.
-/
namespace Go.Proofs.Ythjddpkegooobaa
open Go.RowKit

theorem nodeCells_tag : ∀ (nl : List NL) (t : Nat) (z : Int), t < nl.length → nodeCells (nl.set t ⟨⟨z, nl[t]!.n.vals⟩, nl[t]!.a, nl[t]!.cap⟩) = (nodeCells nl).set (t * 2) (.int .i64 z)
  | [], t, _, h => absurd h (Nat.not_lt_zero t)
  | y :: r, 0, z, _ => by
    show (NL.mk ⟨z, y.n.vals⟩ y.a y.cap).two ++ nodeCells r = (y.two ++ nodeCells r).set 0 _
    simp [NL.two]
  | y :: r, t + 1, z, h => by
    have ih := nodeCells_tag r t z (Nat.lt_of_succ_lt_succ h)
    have e : (y :: r)[t + 1]! = r[t]! := by rw [getElem!_pos (y :: r) (t + 1) h, getElem!_pos r t (Nat.lt_of_succ_lt_succ h)]; rfl
    rw [e]
    show y.two ++ nodeCells (r.set t _) = (y.two ++ nodeCells r).set ((t + 1) * 2) _
    rw [ih, show (t + 1) * 2 = t * 2 + 2 by omega]
    simp [NL.two]
theorem nodeCells_vals : ∀ (nl : List NL) (t : Nat) (vs : List GV), t < nl.length → vs.length = nl[t]!.n.vals.length → nodeCells (nl.set t ⟨⟨nl[t]!.n.tag, vs⟩, nl[t]!.a, nl[t]!.cap⟩) = nodeCells nl
  | [], t, _, h, _ => absurd h (Nat.not_lt_zero t)
  | y :: r, 0, vs, _, hl => by
    have hl' : vs.length = y.n.vals.length := hl
    show (NL.mk ⟨y.n.tag, vs⟩ y.a y.cap).two ++ nodeCells r = y.two ++ nodeCells r
    simp [NL.two, hl']
  | y :: r, t + 1, vs, h, hl => by
    have e : (y :: r)[t + 1]! = r[t]! := by rw [getElem!_pos (y :: r) (t + 1) h, getElem!_pos r t (Nat.lt_of_succ_lt_succ h)]; rfl
    rw [e] at hl ⊢
    have ih := nodeCells_vals r t vs (Nat.lt_of_succ_lt_succ h) hl
    show y.two ++ nodeCells (r.set t _) = y.two ++ nodeCells r
    rw [ih]
theorem valCells_set : ∀ (vs : List GV) (k : Nat) (v : GV), k < vs.length → valCells (vs.set k v) = ((((valCells vs).set (k * 4) (.int .i64 v.kind)).set (k * 4 + 1) (.int .i64 v.num)).set (k * 4 + 2) (.string v.text)).set (k * 4 + 3) (.int .i64 v.node)
  | [], k, _, h => absurd h (Nat.not_lt_zero k)
  | u :: r, 0, v, _ => by
    show v.four ++ valCells r = ((((u.four ++ valCells r).set 0 _).set 1 _).set 2 _).set 3 _
    simp [GV.four]
  | u :: r, k + 1, v, h => by
    have ih := valCells_set r k v (Nat.lt_of_succ_lt_succ h)
    show u.four ++ valCells (r.set k v) = ((((u.four ++ valCells r).set ((k + 1) * 4) _).set ((k + 1) * 4 + 1) _).set ((k + 1) * 4 + 2) _).set ((k + 1) * 4 + 3) _
    rw [ih, show (k + 1) * 4 = k * 4 + 4 by omega]
    simp [GV.four]

theorem set_at {α : Type} [Inhabited α] {l : List α} {t i : Nat} {x : α} (hi : i < l.length) : (l.set t x)[i]! = if t = i then x else l[i]! := by
  rw [getElem!_pos _ i (by rw [List.length_set]; exact hi), List.getElem_set, getElem!_pos l i hi]

theorem OwnG.swap {w w' : World} {base : Nat} {na : Option Addr} {nc : Nat} {nl : List NL} (h : OwnG w base na nc nl) {t : Nat} (_ht : t < nl.length) {x : NL} (hxa : x.a = nl[t]!.a)
    (hN : w'.ownsRow base 84 2 (.slice na nl.length nc) nl.length (nodeCells (nl.set t x)))
    (hX : w'.ownsRow base 24 4 (.slice x.a x.n.vals.length x.cap) x.n.vals.length (valCells x.n.vals))
    (hV : ∀ i, i < nl.length → t ≠ i → w'.ownsRow base 24 4 (.slice nl[i]!.a nl[i]!.n.vals.length nl[i]!.cap) nl[i]!.n.vals.length (valCells nl[i]!.n.vals)) : OwnG w' base na nc (nl.set t x) := by
  have key : ∀ i, i < nl.length → (nl.set t x)[i]!.a = nl[i]!.a := fun i hi => by
    rw [set_at hi]
    by_cases e : t = i
    · rw [if_pos e, hxa, e]
    · rw [if_neg e]
  have mem : ∀ y, y ∈ nl.set t x → ∃ i, i < nl.length ∧ y = (nl.set t x)[i]! := fun y hy => by
    obtain ⟨i, hi, e⟩ := List.mem_iff_getElem.1 hy
    exact ⟨i, by rw [List.length_set] at hi; exact hi, by rw [getElem!_pos _ i hi]; exact e.symm⟩
  refine ⟨by rw [List.length_set]; exact hN, fun y hy => ?_, fun y hy => ?_, fun i j hij hj => ?_⟩
  · obtain ⟨i, hi, rfl⟩ := mem y hy
    rw [set_at hi]
    by_cases e : t = i
    · rw [if_pos e]; exact hX
    · rw [if_neg e]; exact hV i hi e
  · obtain ⟨i, hi, rfl⟩ := mem y hy
    rw [key i hi]
    exact h.apn _ (mem_at hi)
  · rw [List.length_set] at hj
    rw [key i (Nat.lt_trans hij hj), key j hj]
    exact h.apv i j hij hj

theorem OwnG.apart {w : World} {base : Nat} {na : Option Addr} {nc : Nat} {nl : List NL} (h : OwnG w base na nc nl) {i t : Nat} (hi : i < nl.length) (ht : t < nl.length) (hne : t ≠ i) {V : Nat} (hV : nl[t]!.a = some ⟨V, 0, none⟩) : nl[i]!.a ≠ some ⟨V, 0, none⟩ := fun e => by
  rcases Nat.lt_or_gt_of_ne hne with hlt | hlt
  · exact h.apv t i hlt hi V hV e
  · exact h.apv i t hlt ht V e hV

theorem OwnG.tag {w : World} {base N nc : Nat} {nl : List NL} (h : OwnG w base (some ⟨N, 0, none⟩) nc nl) {t : Nat} (ht : t < nl.length) (z : Int) :
    OwnG (w.setCell ⟨N, t * 2, none⟩ (.int .i64 z)) base (some ⟨N, 0, none⟩) nc (nl.set t ⟨⟨z, nl[t]!.n.vals⟩, nl[t]!.a, nl[t]!.cap⟩) := by
  have hK : Kept (fun k => k = N) w (w.setCell ⟨N, t * 2, none⟩ (.int .i64 z)) := (Kept.refl (fun k => k = N) w).set (a := ⟨N, t * 2, none⟩) (fun _ => rfl) _
  have hv : ∀ i, i < nl.length → (w.setCell ⟨N, t * 2, none⟩ (.int .i64 z)).ownsRow base 24 4 (.slice nl[i]!.a nl[i]!.n.vals.length nl[i]!.cap) nl[i]!.n.vals.length (valCells nl[i]!.n.vals) := fun i hi =>
    hK.owns (h.vals _ (mem_at hi)) (fun k hk e => h.apn _ (mem_at hi) k (owns_addr (h.vals _ (mem_at hi)) hk) (by rw [e]))
  refine h.swap ht rfl ?_ (hv t ht) (fun i hi _ => hv i hi)
  rw [nodeCells_tag nl t z ht]
  exact (h.nodes.stored (t * 2) (.int .i64 z)).1

theorem OwnG.val {w : World} {base : Nat} {na : Option Addr} {nc : Nat} {nl : List NL} (h : OwnG w base na nc nl) {t : Nat} (ht : t < nl.length) {V : Nat} (hV : nl[t]!.a = some ⟨V, 0, none⟩) {k : Nat} (hk : k < nl[t]!.n.vals.length) (v : GV) :
    OwnG ((((w.setCell ⟨V, k * 4, none⟩ (.int .i64 v.kind)).setCell ⟨V, k * 4 + 1, none⟩ (.int .i64 v.num)).setCell ⟨V, k * 4 + 2, none⟩ (.string v.text)).setCell ⟨V, k * 4 + 3, none⟩ (.int .i64 v.node)) base na nc (nl.set t ⟨⟨nl[t]!.n.tag, nl[t]!.n.vals.set k v⟩, nl[t]!.a, nl[t]!.cap⟩) := by
  have hK : Kept (fun k => k = V) w ((((w.setCell ⟨V, k * 4, none⟩ (.int .i64 v.kind)).setCell ⟨V, k * 4 + 1, none⟩ (.int .i64 v.num)).setCell ⟨V, k * 4 + 2, none⟩ (.string v.text)).setCell ⟨V, k * 4 + 3, none⟩ (.int .i64 v.node)) := ((((Kept.refl (fun k => k = V) w).set (fun _ => rfl) _).set (fun _ => rfl) _).set (fun _ => rfl) _).set (fun _ => rfl) _
  have hr := h.vals _ (mem_at ht)
  rw [hV] at hr
  refine h.swap ht rfl ?_ ?_ (fun i hi hne => hK.owns (h.vals _ (mem_at hi)) (fun j hj e => h.apart hi ht hne hV (by rw [owns_addr (h.vals _ (mem_at hi)) hj, e])))
  · rw [nodeCells_vals nl t _ ht (List.length_set ..)]
    exact hK.owns h.nodes (fun j hj e => h.apn _ (mem_at ht) V hV (by rw [owns_addr h.nodes hj, e]))
  · show World.ownsRow _ base 24 4 (.slice nl[t]!.a (nl[t]!.n.vals.set k v).length nl[t]!.cap) (nl[t]!.n.vals.set k v).length (valCells (nl[t]!.n.vals.set k v))
    rw [List.length_set, valCells_set _ k v hk, hV]
    have h1 := (hr.stored (k * 4) (.int .i64 v.kind)).1
    have h2 := (World.ownsRow.stored h1 (k * 4 + 1) (.int .i64 v.num)).1
    have h3 := (World.ownsRow.stored h2 (k * 4 + 2) (.string v.text)).1
    exact (World.ownsRow.stored h3 (k * 4 + 3) (.int .i64 v.node)).1

end Go.Proofs.Ythjddpkegooobaa

/-
  EQ: the laws' comparisons, where both are the same. Own work.
-/
namespace Go.Proofs.Ythjddpkegooobaa
open Go.RowKit

set_option maxRecDepth 100000 in
theorem eqVal_same (v : GV) (w : World) :
    Calls Try.prog 104 #[v.val, v.val] w fun e w' => e = .returned (.bool true) ∧ Below w.heap.size w w' := by
  go_enter Try.func104, Try.ntmps104
  go_wp2
  all_goals go_ret
  all_goals exact ⟨rfl, gal (gal (gre _) _) _⟩

set_option maxRecDepth 100000 in
theorem eqValS_same (a a' : Option Addr) (cap cap' : Nat) (vs : List GV) (w : World) (hl : vs.length ≤ maxLen) (ha : ValsAt w.heap.size w a vs) (ha' : ValsAt w.heap.size w a' vs) :
    Calls Try.prog 156 #[.slice a vs.length cap, .slice a' vs.length cap'] w fun e w' => e = .returned (.bool true) ∧ Below w.heap.size w w' := by
  unfold maxLen at hl
  go_enter Try.func156, Try.ntmps156
  go_wp2
  go_loopw [5] (fun i wr => ∃ k : Nat, k ≤ vs.length ∧ i = .int .i64 k ∧ Below w.heap.size w wr) (fun i _ => vs.length - (intOf i).toNat)
  case atStart => exact ⟨0, Nat.zero_le _, rfl, Below.refl _ _⟩
  case round =>
    obtain ⟨k, hk, rfl, hb⟩ := hrel
    by_cases hlt : k < vs.length
    · obtain ⟨v, b, off, hvk, hvm, rfl, hbs, hva⟩ := ha.get hlt
      obtain ⟨v', b', off', hvk', hvm', rfl, hbs', hva'⟩ := ha'.get hlt
      have e : v' = v := by rw [hvk.out, hvk'.out]
      subst e
      have hva := hva.below hb hbs
      have hva' := hva'.below hb hbs'
      have hz1 : b < wr.heap.size := Nat.lt_of_lt_of_le hbs hb.size
      have hz2 : b' < wr.heap.size := Nat.lt_of_lt_of_le hbs' hb.size
      have c0 := hva.kind
      have c1 := hva.num
      have c2 := hva.text
      have c3 := hva.node
      have d0 := hva'.kind
      have d1 := hva'.num
      have d2 := hva'.text
      have d3 := hva'.node
      have i0 : (0 : Int) ≤ (k : Int) := by omega
      have i1 : (k : Int) < (vs.length : Int) := by omega
      clear ha ha' hvk hvk' hva hva'
      go_wp2
      go_region_held3 (fun w' => w'.cell? ⟨b, off + k * 4, none⟩ = some (.int .i64 v'.kind) ∧ w'.cell? ⟨b, off + k * 4 + 1, none⟩ = some (.int .i64 v'.num) ∧ w'.cell? ⟨b, off + k * 4 + 2, none⟩ = some (.string v'.text) ∧ w'.cell? ⟨b, off + k * 4 + 3, none⟩ = some (.int .i64 v'.node) ∧ w'.cell? ⟨b', off' + k * 4, none⟩ = some (.int .i64 v'.kind) ∧ w'.cell? ⟨b', off' + k * 4 + 1, none⟩ = some (.int .i64 v'.num) ∧ w'.cell? ⟨b', off' + k * 4 + 2, none⟩ = some (.string v'.text) ∧ w'.cell? ⟨b', off' + k * 4 + 3, none⟩ = some (.int .i64 v'.node)) (first | go_keep | (go_split_ands; refine ⟨?_, ?_, ?_, ?_, ?_, ?_, ?_, ?_⟩ <;> exact cell_later hb' (by assumption))) ((go_at_call 104; refine (eqVal_same v' _).mono ?_; rintro e w' ⟨rfl, hb'⟩))
      go_wp2
      go_roundw
      case rel => exact ⟨k + 1, by omega, by go_num, gca (gdr hb) hb'⟩
      case measure => simp [intOf]; omega
    · go_wp2
      go_ret
      exact ⟨rfl, hb⟩

set_option maxRecDepth 100000 in
theorem eqNode_same (a a' : Option Addr) (cap cap' : Nat) (n : GN) (w : World) (hl : n.vals.length ≤ maxLen) (ha : ValsAt w.heap.size w a n.vals) (ha' : ValsAt w.heap.size w a' n.vals) :
    Calls Try.prog 141 #[.agg #[.int .i64 n.tag, .slice a n.vals.length cap], .agg #[.int .i64 n.tag, .slice a' n.vals.length cap']] w fun e w' => e = .returned (.bool true) ∧ Below w.heap.size w w' := by
  go_enter Try.func141, Try.ntmps141
  go_wp2_with (go_at_call 156; refine (eqValS_same a a' cap cap' n.vals _ hl (ha.grow (gal (gal (gre _) _) _)) (ha'.grow (gal (gal (gre _) _) _))).mono ?_; rintro e w' ⟨rfl, hb'⟩)
  go_ret
  exact ⟨rfl, gca (gal (gal (gre _) _) _) hb'⟩

set_option maxRecDepth 100000 in
theorem eqNodeS_same (a a' : Option Addr) (cap cap' : Nat) (ns : List GN) (w : World) (hl : ns.length ≤ maxLen) (hv : ∀ n, n ∈ ns → n.vals.length ≤ maxLen) (ha : NodesAt w.heap.size w a ns) (ha' : NodesAt w.heap.size w a' ns) :
    Calls Try.prog 105 #[.slice a ns.length cap, .slice a' ns.length cap'] w fun e w' => e = .returned (.bool true) ∧ Below w.heap.size w w' := by
  unfold maxLen at hl
  go_enter Try.func105, Try.ntmps105
  go_wp2
  go_loopw [5] (fun i wr => ∃ k : Nat, k ≤ ns.length ∧ i = .int .i64 k ∧ Below w.heap.size w wr) (fun i _ => ns.length - (intOf i).toNat)
  case atStart => exact ⟨0, Nat.zero_le _, rfl, Below.refl _ _⟩
  case round =>
    obtain ⟨k, hk, rfl, hb⟩ := hrel
    by_cases hlt : k < ns.length
    · obtain ⟨n, b, off, av, cv, hvk, hvm, rfl, hbs, hva⟩ := ha.get hlt
      obtain ⟨n', b', off', av', cv', hvk', hvm', rfl, hbs', hva'⟩ := ha'.get hlt
      have e : n' = n := by rw [hvk.out, hvk'.out]
      subst e
      have hva := hva.below hb hbs
      have hva' := hva'.below hb hbs'
      have c0 := hva.tag
      have c1 := hva.sl
      have d0 := hva'.tag
      have d1 := hva'.sl
      have i0 : (0 : Int) ≤ (k : Int) := by omega
      have i1 : (k : Int) < (ns.length : Int) := by omega
      have hvl := hv n' hvm
      have hv1 : ValsAt wr.drew.heap.size wr.drew av n'.vals := (hva.vals.mono hb.size).grow (gdr (gre _))
      have hv2 : ValsAt wr.drew.heap.size wr.drew av' n'.vals := (hva'.vals.mono hb.size).grow (gdr (gre _))
      clear ha ha' hvk hvk' hva hva'
      go_wp2
      go_region_held3 (fun w' => w'.cell? ⟨b, off + k * 2, none⟩ = some (.int .i64 n'.tag) ∧ w'.cell? ⟨b, off + k * 2 + 1, none⟩ = some (.slice av n'.vals.length cv) ∧ w'.cell? ⟨b', off' + k * 2, none⟩ = some (.int .i64 n'.tag) ∧ w'.cell? ⟨b', off' + k * 2 + 1, none⟩ = some (.slice av' n'.vals.length cv')) (first | go_keep | (go_split_ands; refine ⟨?_, ?_, ?_, ?_⟩ <;> exact cell_later hb' (by assumption))) ((go_at_call 141; refine (eqNode_same av av' cv cv' n' _ hvl hv1 hv2).mono ?_; rintro e w' ⟨rfl, hb'⟩))
      go_wp2
      go_roundw
      case rel => exact ⟨k + 1, by omega, by go_num, gca (gdr hb) hb'⟩
      case measure => simp [intOf]; omega
    · go_wp2
      go_ret
      exact ⟨rfl, hb⟩

set_option maxRecDepth 100000 in
theorem eqGraph_same (a a' : Option Addr) (cap cap' : Nat) (g : GG) (w : World) (hg : g.Ok) (ha : NodesAt w.heap.size w a g.nodes) (ha' : NodesAt w.heap.size w a' g.nodes) :
    Calls Try.prog 45 #[g.val a cap, g.val a' cap'] w fun e w' => e = .returned (.bool true) ∧ Below w.heap.size w w' := by
  go_enter Try.func45, Try.ntmps45
  go_wp2_with (first | (go_at_call 104; refine (eqVal_same g.root _).mono ?_; rintro e w' ⟨rfl, hb'⟩; obtain ⟨hc, hf⟩ := bcell hb') | (go_at_call 105; refine (eqNodeS_same a a' cap cap' g.nodes _ hg.len (fun n hn => (hg.nodes n hn).len) (ha.grow (gca (gal (gal (gre _) _) _) hb')) (ha'.grow (gca (gal (gal (gre _) _) _) hb'))).mono ?_; rintro e w'' ⟨rfl, hb''⟩))
  go_ret
  exact ⟨rfl, gca (gca (gal (gal (gre _) _) _) hb') hb''⟩

end Go.Proofs.Ythjddpkegooobaa

/-
  SAME: whether two graphs are the same: the program's comparisons. Own work.
-/
namespace Go.Proofs.Ythjddpkegooobaa
open Go.RowKit

def sameV (v v' : GV) : Bool := decide (v.kind = v'.kind) && (decide (v.num = v'.num) && (decide (v.text.toList = v'.text.toList) && decide (v.node = v'.node)))

set_option maxRecDepth 100000 in
theorem text_inj {s t : ByteArray} (h : s.toList = t.toList) : s = t := by
  apply ByteArray.ext
  rw [ByteArray.toList_eq, ByteArray.toList_eq] at h
  exact Array.toList_inj.1 h
set_option maxRecDepth 100000 in
theorem sameV_iff (v v' : GV) : sameV v v' = true ↔ v = v' := by
  unfold sameV
  simp only [Bool.and_eq_true, decide_eq_true_eq]
  constructor
  · rintro ⟨h1, h2, h3, h4⟩
    cases v; cases v'
    simp only at h1 h2 h3 h4
    rw [h1, h2, text_inj h3, h4]
  · rintro rfl; exact ⟨rfl, rfl, rfl, rfl⟩
set_option maxRecDepth 100000 in
theorem sameV_self (v : GV) : sameV v v = true := (sameV_iff v v).2 rfl

theorem run_neq_val (v v' : GV) (u : World) : (binOp .neq 24 (.agg #[.int .i64 v.kind, .int .i64 v.num, .string v.text, .int .i64 v.node]) (.agg #[.int .i64 v'.kind, .int .i64 v'.num, .string v'.text, .int .i64 v'.node])).run Try.prog u = .ok (.bool (!(sameV v v'))) u := by
  simp only [sameV]
  simp [go_sem]
  repeat' split
  all_goals simp_all
set_option maxRecDepth 100000 in
theorem run_eql_val (v v' : GV) (u : World) : (binOp .eql 24 (.agg #[.int .i64 v.kind, .int .i64 v.num, .string v.text, .int .i64 v.node]) (.agg #[.int .i64 v'.kind, .int .i64 v'.num, .string v'.text, .int .i64 v'.node])).run Try.prog u = .ok (.bool (sameV v v')) u := by
  simp only [sameV]
  simp [go_sem]
  repeat' split
  all_goals simp_all

set_option maxRecDepth 100000 in
theorem take_ne {α : Type} [Inhabited α] {l l' : List α} {k : Nat} (_hk : k < l.length) (_hk' : k < l'.length) (h : l[k]! ≠ l'[k]!) : l ≠ l' := fun e => h (by rw [e])
theorem take_eq_succ {α : Type} [Inhabited α] {l l' : List α} {k : Nat} (hk : k < l.length) (hk' : k < l'.length) (h0 : l.take k = l'.take k) (h : l[k]! = l'[k]!) : l.take (k + 1) = l'.take (k + 1) := by
  rw [take_snoc l k hk, take_snoc l' k hk', h0, h]

set_option maxRecDepth 100000 in
theorem equalVals_any (a a' : Option Addr) (cap cap' : Nat) (vs vs' : List GV) (w : World) (hl : vs.length ≤ maxLen) (_hl' : vs'.length ≤ maxLen) (ha : ValsAt w.heap.size w a vs) (ha' : ValsAt w.heap.size w a' vs') :
    Calls Try.prog 115 #[.slice a vs.length cap, .slice a' vs'.length cap'] w fun e w' => ∃ b, e = .returned (.bool b) ∧ (b = true ↔ vs = vs') ∧ Below w.heap.size w w' := by
  unfold maxLen at hl
  by_cases hle : vs.length = vs'.length
  · rw [← hle]
    have hle' : Hid _ := hle
    clear hle
    go_enter Try.func115, Try.ntmps115
    go_wp2
    go_loopw [5, 13] (fun _ i wr => ∃ k : Nat, k ≤ vs.length ∧ i = .int .i64 k ∧ Hid (vs.take k = vs'.take k) ∧ Below w.heap.size w wr) (fun _ i _ => vs.length - (intOf i).toNat)
    case atStart => exact ⟨0, Nat.zero_le _, rfl, rfl, gre _⟩
    case round =>
      obtain ⟨k, hk, rfl, hall, hb⟩ := hrel
      by_cases hlt : k < vs.length
      · have hlt' : Hid (k < vs'.length) := by have := hle'.out; show k < vs'.length; omega
        obtain ⟨v, b, off, hvk, hvm, rfl, hbs, hva⟩ := ha.get hlt
        obtain ⟨v', b', off', hvk', hvm', rfl, hbs', hva'⟩ := ha'.get hlt'.out
        have hva := hva.below hb hbs
        have hva' := hva'.below hb hbs'
        have c0 := hva.kind
        have c1 := hva.num
        have c2 := hva.text
        have c3 := hva.node
        have d0 := hva'.kind
        have d1 := hva'.num
        have d2 := hva'.text
        have d3 := hva'.node
        have i0 : (0 : Int) ≤ (k : Int) := by omega
        have i1 : (k : Int) < (vs.length : Int) := by omega
        have hne := run_neq_val v v'
        clear ha ha' hva hva'
        cases hs : sameV v v' with
        | true =>
          have hvv : v = v' := (sameV_iff v v').1 hs
          have hnext : Hid (vs.take (k + 1) = vs'.take (k + 1)) := take_eq_succ hlt hlt'.out hall.out (by rw [← hvk.out, ← hvk'.out, hvv])
          rw [hs] at hne
          simp only [Bool.not_true] at hne
          clear hvv hs
          go_wp2
          go_quiet (fail)
          go_wp2
          go_roundw
          case rel => exact ⟨k + 1, by omega, by go_num, hnext, below_drewN hb _⟩
          case measure => simp [intOf]; omega
        | false =>
          have hvv : Hid (¬ vs = vs') := take_ne hlt hlt'.out (fun e => by rw [← hvk.out, ← hvk'.out] at e; rw [(sameV_iff v v').2 e] at hs; cases hs)
          rw [hs] at hne
          simp only [Bool.not_false] at hne
          clear hs
          go_wp2
          go_quiet (fail)
          go_wp2
          go_ret
          exact ⟨false, rfl, ⟨fun h => (by cases h), fun h => absurd h hvv.out⟩, below_drewN hb _⟩
      · have hvv : Hid (vs = vs') := by
          have h1 := hall.out
          have h2 := hle'.out
          rwa [List.take_of_length_le (by omega), List.take_of_length_le (by omega)] at h1
        go_wp2
        go_ret
        exact ⟨true, rfl, ⟨fun _ => hvv.out, fun _ => rfl⟩, hb⟩
  · have hd : ¬ ((vs.length : Int) = (vs'.length : Int)) := by omega
    go_enter Try.func115, Try.ntmps115
    go_wp2
    go_ret
    exact ⟨false, rfl, ⟨fun h => (by cases h), fun h => absurd (by rw [h]) hle⟩, gre _⟩

end Go.Proofs.Ythjddpkegooobaa

/-
  SAME2: whether two lists of nodes are the same: the program's comparison. Own work.
-/
namespace Go.Proofs.Ythjddpkegooobaa
open Go.RowKit

set_option maxRecDepth 100000 in
theorem gn_ext {n n' : GN} (h1 : n.tag = n'.tag) (h2 : n.vals = n'.vals) : n = n' := by cases n; cases n'; simp only at h1 h2; rw [h1, h2]

theorem sameNode_any (a a' : Option Addr) (cap cap' : Nat) (n n' : GN) (w : World) (hl : n.vals.length ≤ maxLen) (hl' : n'.vals.length ≤ maxLen) (ha : ValsAt w.heap.size w a n.vals) (ha' : ValsAt w.heap.size w a' n'.vals) :
    Calls Try.prog 59 #[.agg #[.int .i64 n.tag, .slice a n.vals.length cap], .agg #[.int .i64 n'.tag, .slice a' n'.vals.length cap']] w fun e w' => ∃ b, e = .returned (.bool b) ∧ (b = true ↔ n = n') ∧ Below w.heap.size w w' := by
  by_cases ht : n.tag = n'.tag
  · rw [← ht]
    have ht' : Hid _ := ht
    clear ht
    go_enter Try.func59, Try.ntmps59
    go_wp2_with (go_at_call 115; refine (equalVals_any a a' cap cap' n.vals n'.vals _ hl hl' (ha.grow (gal (gal (gre _) _) _)) (ha'.grow (gal (gal (gre _) _) _))).mono ?_; rintro e w' ⟨b, rfl, hbi, hb'⟩)
    go_ret
    exact ⟨b, rfl, hbi.trans ⟨fun h => gn_ext ht'.out h, fun h => by rw [h]⟩, gca (gal (gal (gre _) _) _) hb'⟩
  · have hd : decide (n.tag = n'.tag) = false := decide_eq_false ht
    go_enter Try.func59, Try.ntmps59
    go_wp2
    go_ret
    exact ⟨false, rfl, ⟨fun h => (by cases h), fun h => absurd (by rw [h]) ht⟩, gal (gal (gre _) _) _⟩

set_option maxRecDepth 100000 in
theorem equalNodes_any (a a' : Option Addr) (cap cap' : Nat) (ns ns' : List GN) (w : World) (hl : ns.length ≤ maxLen) (_hl' : ns'.length ≤ maxLen) (hv : ∀ n, n ∈ ns → n.vals.length ≤ maxLen) (hv' : ∀ n, n ∈ ns' → n.vals.length ≤ maxLen) (ha : NodesAt w.heap.size w a ns) (ha' : NodesAt w.heap.size w a' ns') :
    Calls Try.prog 58 #[.slice a ns.length cap, .slice a' ns'.length cap', .func (.func 59) #[] #[]] w fun e w' => ∃ b, e = .returned (.bool b) ∧ (b = true ↔ ns = ns') ∧ Below w.heap.size w w' := by
  unfold maxLen at hl
  by_cases hle : ns.length = ns'.length
  · rw [← hle]
    have hle' : Hid _ := hle
    clear hle
    go_enter Try.func58, Try.ntmps58
    go_wp2
    go_loopw [7, 8, 9, 17] (fun _ _ _ i wr => ∃ k : Nat, k ≤ ns.length ∧ i = .int .i64 k ∧ Hid (ns.take k = ns'.take k) ∧ Below w.heap.size w wr) (fun _ _ _ i _ => ns.length - (intOf i).toNat)
    case atStart => exact ⟨0, Nat.zero_le _, rfl, rfl, gre _⟩
    case round =>
      obtain ⟨k, hk, rfl, hall, hb⟩ := hrel
      by_cases hlt : k < ns.length
      · have hlt' : Hid (k < ns'.length) := by have := hle'.out; show k < ns'.length; omega
        obtain ⟨n, b, off, av, cv, hvk, hvm, rfl, hbs, hva⟩ := ha.get hlt
        obtain ⟨n', b', off', av', cv', hvk', hvm', rfl, hbs', hva'⟩ := ha'.get hlt'.out
        have hva := hva.below hb hbs
        have hva' := hva'.below hb hbs'
        have c0 := hva.tag
        have c1 := hva.sl
        have d0 := hva'.tag
        have d1 := hva'.sl
        have i0 : (0 : Int) ≤ (k : Int) := by omega
        have i1 : (k : Int) < (ns.length : Int) := by omega
        have hvl := hv n hvm
        have hvl' := hv' n' hvm'
        have hv1 : ValsAt wr.heap.size wr av n.vals := hva.vals.mono hb.size
        have hv2 : ValsAt wr.heap.size wr av' n'.vals := hva'.vals.mono hb.size
        have e0 := cell_later (gal (gre wr) (.cells #[.int .i64 n.tag, .slice av n.vals.length cv] 84)) d0
        have e1 := cell_later (gal (gre wr) (.cells #[.int .i64 n.tag, .slice av n.vals.length cv] 84)) d1
        clear ha ha' hva hva'
        go_wp2_with (go_at_call 59; refine (sameNode_any av av' cv cv' n n' _ hvl hvl' (hv1.grow (gal (gal (gre _) _) _)) (hv2.grow (gal (gal (gre _) _) _))).mono ?_; rintro e w' ⟨bb, rfl, hbi0, hb'⟩; have hbi : Hid (bb = true ↔ n = n') := hbi0; clear hbi0; cases bb)
        · have hvv : Hid (¬ ns = ns') := take_ne hlt hlt'.out (fun e => by rw [← hvk.out, ← hvk'.out] at e; have := hbi.out.2 e; cases this)
          go_wp2
          go_ret
          exact ⟨false, rfl, ⟨fun h => (by cases h), fun h => absurd h hvv.out⟩, gca (gal (gal hb _) _) hb'⟩
        · have hnext : Hid (ns.take (k + 1) = ns'.take (k + 1)) := take_eq_succ hlt hlt'.out hall.out (by rw [← hvk.out, ← hvk'.out, hbi.out.1 (by trivial)])
          go_wp2
          go_roundw
          case rel => exact ⟨k + 1, by omega, by go_num, hnext, gca (gal (gal hb _) _) hb'⟩
          case measure => simp [intOf]; omega
      · have hvv : Hid (ns = ns') := by
          have h1 := hall.out
          have h2 := hle'.out
          rwa [List.take_of_length_le (by omega), List.take_of_length_le (by omega)] at h1
        go_wp2
        go_ret
        exact ⟨true, rfl, ⟨fun _ => hvv.out, fun _ => rfl⟩, hb⟩
  · have hd : ¬ ((ns.length : Int) = (ns'.length : Int)) := by omega
    go_enter Try.func58, Try.ntmps58
    go_wp2
    go_ret
    exact ⟨false, rfl, ⟨fun h => (by cases h), fun h => absurd (by rw [h]) hle⟩, gre _⟩

end Go.Proofs.Ythjddpkegooobaa

/-
  SAME3: whether two graphs are the same: the specification's comparison. Own work.
-/
namespace Go.Proofs.Ythjddpkegooobaa
open Go.RowKit

set_option maxRecDepth 100000 in
theorem gg_ext {g g' : GG} (h1 : g.root = g'.root) (h2 : g.nodes = g'.nodes) : g = g' := by cases g; cases g'; simp only at h1 h2; rw [h1, h2]

theorem l1same_any (a a' : Option Addr) (cap cap' : Nat) (g g' : GG) (w : World) (hl : g.nodes.length ≤ maxLen) (_hl' : g'.nodes.length ≤ maxLen) (hv : ∀ n, n ∈ g.nodes → n.vals.length ≤ maxLen) (hv' : ∀ n, n ∈ g'.nodes → n.vals.length ≤ maxLen) (ha : NodesAt w.heap.size w a g.nodes) (ha' : NodesAt w.heap.size w a' g'.nodes) :
    Calls Try.prog 77 #[g.val a cap, g'.val a' cap'] w fun e w' => ∃ b, e = .returned (.bool b) ∧ (b = true ↔ g = g') ∧ Below w.heap.size w w' := by
  unfold maxLen at hl
  have hne := run_neq_val g.root g'.root
  cases hs : sameV g.root g'.root with
  | false =>
    rw [hs] at hne
    simp only [Bool.not_false] at hne
    have hrr : Hid (¬ g = g') := fun e => by rw [e, sameV_self] at hs; cases hs
    clear hs
    go_enter Try.func77, Try.ntmps77
    go_wp2
    go_ret
    exact ⟨false, rfl, ⟨fun h => (by cases h), fun h => absurd h hrr.out⟩, gal (gal (gre _) _) _⟩
  | true =>
    rw [hs] at hne
    simp only [Bool.not_true] at hne
    have hrr : Hid (g.root = g'.root) := (sameV_iff _ _).1 hs
    clear hs
    by_cases hle : g.nodes.length = g'.nodes.length
    · have hle' : Hid _ := hle
      have hX0 := (GBox.new w g a cap 27).grow (gal (gre _) (.cells #[.int .i64 g'.root.kind, .int .i64 g'.root.num, .string g'.root.text, .int .i64 g'.root.node, .slice a' g'.nodes.length cap'] 27))
      have hY0 := GBox.new (w.alloc (.cells #[.int .i64 g.root.kind, .int .i64 g.root.num, .string g.root.text, .int .i64 g.root.node, .slice a g.nodes.length cap] 27)) g' a' cap' 27
      rw [show (w.alloc (.cells #[.int .i64 g.root.kind, .int .i64 g.root.num, .string g.root.text, .int .i64 g.root.node, .slice a g.nodes.length cap] 27)).heap.size = w.heap.size + 1 by simp] at hY0
      clear hle
      have hd : ((g.nodes.length : Int) != (g'.nodes.length : Int)) = false := by rw [hle'.out]; simp
      go_enter Try.func77, Try.ntmps77
      go_wp2
      go_loopw [5, 6, 24] (fun _ _ i wr => ∃ k : Nat, k ≤ g.nodes.length ∧ i = .int .i64 k ∧ Hid (g.nodes.take k = g'.nodes.take k) ∧ GBox wr w.heap.size g a cap ∧ GBox wr (w.heap.size + 1) g' a' cap' ∧ Below w.heap.size w wr) (fun _ _ i _ => g.nodes.length - (intOf i).toNat)
      case atStart => exact ⟨0, Nat.zero_le _, rfl, rfl, hX0, hY0, gal (gal (gre _) _) _⟩
      case round =>
        obtain ⟨k, hk, rfl, hall, hX, hY, hb⟩ := hrel
        clear hX0 hY0 hne
        by_cases hlt : k < g.nodes.length
        · have hlt2 : k < g'.nodes.length := by have := hle'.out; omega
          have hlt' : Hid (k < g'.nodes.length) := hlt2
          obtain ⟨n, b, off, av, cv, hvk, hvm, rfl, hbs, hva⟩ := ha.get hlt
          obtain ⟨n', b', off', av', cv', hvk', hvm', rfl, hbs', hva'⟩ := ha'.get hlt2
          have hva := hva.below hb hbs
          have hva' := hva'.below hb hbs'
          have c0 := hva.tag
          have c1 := hva.sl
          have d0 := hva'.tag
          have d1 := hva'.sl
          have x4 := hX.sl
          have y4 := hY.sl
          have i0 : (0 : Int) ≤ (k : Int) := by omega
          have i1 : (k : Int) < (g.nodes.length : Int) := by omega
          have i2 : (k : Int) < (g'.nodes.length : Int) := by omega
          have hvl := hv n hvm
          have hvl' := hv' n' hvm'
          unfold maxLen at hvl hvl'
          have hv1 : ValsAt wr.heap.size wr av n.vals := hva.vals.mono hb.size
          have hv2 : ValsAt wr.heap.size wr av' n'.vals := hva'.vals.mono hb.size
          clear ha ha' hva hva'
          have hdiff : Hid (n ≠ n' → ¬ g = g') := fun h e => take_ne hlt hlt2 (fun e2 => h (by rw [hvk.out, hvk'.out, e2])) (by rw [e])
          by_cases ht : n.tag = n'.tag
          · have ht' : Hid _ := ht
            have ht2 : (n.tag != n'.tag) = false := by rw [ht]; simp
            clear ht
            by_cases hvle : n.vals.length = n'.vals.length
            · have hvle' : Hid _ := hvle
              have hvl2 : ((n.vals.length : Int) != (n'.vals.length : Int)) = false := by rw [hvle]; simp
              clear hvle
              go_wp2
              go_quiet (fail)
              go_wp2
              rename World => wo
              go_loopw [6, 64] (fun _ i ws => ∃ j : Nat, j ≤ n.vals.length ∧ i = .int .i64 j ∧ Hid (n.vals.take j = n'.vals.take j) ∧ Below wo.heap.size wo ws) (fun _ i _ => n.vals.length - (intOf i).toNat)
              case atStart => exact ⟨0, Nat.zero_le _, rfl, rfl, below_drewN (gre _) _⟩
              case round =>
                obtain ⟨j, hj, rfl, hallj, hbj⟩ := hrel
                have x4' := cell_later hbj x4
                have y4' := cell_later hbj y4
                have c1' := cell_later hbj c1
                have d1' := cell_later hbj d1
                by_cases hjt : j < n.vals.length
                · have hjt2 : j < n'.vals.length := by have := hvle'.out; omega
                  have hjt' : Hid (j < n'.vals.length) := hjt2
                  obtain ⟨v, vb, voff, hjk, hjm, rfl, hvbs, hvva⟩ := hv1.get hjt
                  obtain ⟨v', vb', voff', hjk', hjm', rfl, hvbs', hvva'⟩ := hv2.get hjt2
                  have hvva := hvva.below hbj hvbs
                  have hvva' := hvva'.below hbj hvbs'
                  have p0 := hvva.kind
                  have p1 := hvva.num
                  have p2 := hvva.text
                  have p3 := hvva.node
                  have q0 := hvva'.kind
                  have q1 := hvva'.num
                  have q2 := hvva'.text
                  have q3 := hvva'.node
                  have j0 : (0 : Int) ≤ (j : Int) := by omega
                  have j1 : (j : Int) < (n.vals.length : Int) := by omega
                  have j2 : (j : Int) < (n'.vals.length : Int) := by omega
                  have hne := run_neq_val v v'
                  clear hv1 hv2 hvva hvva' x4 y4 c0 c1 d0 d1
                  cases hs : sameV v v' with
                  | true =>
                    have hvv : v = v' := (sameV_iff v v').1 hs
                    have hnext : Hid (n.vals.take (j + 1) = n'.vals.take (j + 1)) := take_eq_succ hjt hjt2 hallj.out (by rw [← hjk.out, ← hjk'.out, hvv])
                    rw [hs] at hne
                    simp only [Bool.not_true] at hne
                    clear hvv hs
                    go_wp2
                    go_quiet (fail)
                    go_wp2
                    go_roundw
                    case rel => exact ⟨j + 1, by omega, by go_num, hnext, below_drewN hbj _⟩
                    case measure => simp [intOf]; omega
                  | false =>
                    have hvv : Hid (¬ n = n') := fun e => take_ne hjt hjt2 (fun e2 => by rw [← hjk.out, ← hjk'.out] at e2; rw [(sameV_iff v v').2 e2] at hs; cases hs) (by rw [e])
                    rw [hs] at hne
                    simp only [Bool.not_false] at hne
                    clear hs
                    go_wp2
                    go_quiet (fail)
                    go_wp2
                    go_ret
                    exact ⟨false, rfl, ⟨fun h => (by cases h), fun h => absurd h (hdiff.out hvv.out)⟩, hb.trans ((below_drewN hbj _).mono hb.size)⟩
                · have hnn : n = n' := by
                    have h1 := hallj.out
                    have h2 := hvle'.out
                    rw [List.take_of_length_le (by omega), List.take_of_length_le (by omega)] at h1
                    exact gn_ext ht'.out h1
                  have hnext : Hid (g.nodes.take (k + 1) = g'.nodes.take (k + 1)) := take_eq_succ hlt hlt2 hall.out (by rw [← hvk.out, ← hvk'.out, hnn])
                  clear hnn x4 y4 c0 c1 d0 d1
                  go_wp2
                  go_roundw
                  case rel => exact ⟨k + 1, by omega, by go_num, hnext, hX.grow hbj, hY.grow hbj, hb.trans (hbj.mono hb.size)⟩
                  case measure => simp [intOf]; omega
            · have hd2 : ((n.vals.length : Int) != (n'.vals.length : Int)) = true := by simp; omega
              go_wp2
              go_quiet (fail)
              go_wp2
              go_ret
              exact ⟨false, rfl, ⟨fun h => (by cases h), fun h => absurd h (hdiff.out (fun e => hvle (by rw [e])))⟩, below_drewN hb _⟩
          · have ht2 : (n.tag != n'.tag) = true := by simp [ht]
            go_wp2
            go_quiet (fail)
            go_wp2
            go_ret
            exact ⟨false, rfl, ⟨fun h => (by cases h), fun h => absurd h (hdiff.out (fun e => ht (by rw [e])))⟩, below_drewN hb _⟩
        · have hvv : Hid (g = g') := by
            have h1 := hall.out
            have h2 := hle'.out
            rw [List.take_of_length_le (by omega), List.take_of_length_le (by omega)] at h1
            exact gg_ext hrr.out h1
          go_wp2
          go_ret
          exact ⟨true, rfl, ⟨fun _ => hvv.out, fun _ => rfl⟩, hb⟩
    · have hd : ¬ ((g.nodes.length : Int) = (g'.nodes.length : Int)) := by omega
      go_enter Try.func77, Try.ntmps77
      go_wp2
      go_ret
      exact ⟨false, rfl, ⟨fun h => (by cases h), fun h => absurd (by rw [h]) hle⟩, gal (gal (gre _) _) _⟩

end Go.Proofs.Ythjddpkegooobaa
