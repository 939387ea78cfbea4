import Derived.Deep.RegionHeld3
import Derived.Test.YthjddpkegooobacGreatDoorPartU
namespace Go.Proofs.YthjddpkegooobacGreatDoor
open Go.RowKit
set_option maxRecDepth 100000
set_option maxHeartbeats 8000000
structure AC where
 op : Int
 graph : GG
 steps : Int
 kept : List Bool
 block : Int
 byte : Int
 xor : Int
instance : Inhabited AC := ⟨⟨0, ⟨default, []⟩, 0, [], 0, 0, 0⟩⟩
abbrev AC.val (x : AC) (ga : Option Addr) (gc : Nat) (ka : Option Addr) (kc : Nat) : Value :=
 .agg #[.int .i64 x.op, .int .i64 x.graph.root.kind, .int .i64 x.graph.root.num, .string x.graph.root.text, .int .i64 x.graph.root.node, .slice ga x.graph.nodes.length gc, .int .i64 x.steps, .slice ka x.kept.length kc, .int .i64 x.block, .int .i64 x.byte, .int .i64 x.xor]
structure AC.Ok (x : AC) : Prop where
 op : I64 x.op
 graph : x.graph.Ok
 steps : I64 x.steps
 kept : x.kept.length ≤ maxLen
 block : I64 x.block
 byte : I64 x.byte
 xor : I64 x.xor
structure ActAt (w : World) (b off : Nat) (x : AC) (ga : Option Addr) (gc : Nat) (ka : Option Addr) (kc : Nat) : Prop where
 c0 : w.cell? ⟨b, off, none⟩ = some (.int .i64 x.op)
 c1 : w.cell? ⟨b, off + 1, none⟩ = some (.int .i64 x.graph.root.kind)
 c2 : w.cell? ⟨b, off + 2, none⟩ = some (.int .i64 x.graph.root.num)
 c3 : w.cell? ⟨b, off + 3, none⟩ = some (.string x.graph.root.text)
 c4 : w.cell? ⟨b, off + 4, none⟩ = some (.int .i64 x.graph.root.node)
 c5 : w.cell? ⟨b, off + 5, none⟩ = some (.slice ga x.graph.nodes.length gc)
 c6 : w.cell? ⟨b, off + 6, none⟩ = some (.int .i64 x.steps)
 c7 : w.cell? ⟨b, off + 7, none⟩ = some (.slice ka x.kept.length kc)
 c8 : w.cell? ⟨b, off + 8, none⟩ = some (.int .i64 x.block)
 c9 : w.cell? ⟨b, off + 9, none⟩ = some (.int .i64 x.byte)
 c10 : w.cell? ⟨b, off + 10, none⟩ = some (.int .i64 x.xor)
theorem ActAt.grow {w w' : World} {b off : Nat} {x : AC} {ga : Option Addr} {gc : Nat} {ka : Option Addr} {kc : Nat} (h : ActAt w b off x ga gc ka kc) (hb : Below w.heap.size w w') : ActAt w' b off x ga gc ka kc :=
 ⟨cell_later hb h.c0, cell_later hb h.c1, cell_later hb h.c2, cell_later hb h.c3, cell_later hb h.c4, cell_later hb h.c5, cell_later hb h.c6, cell_later hb h.c7, cell_later hb h.c8, cell_later hb h.c9, cell_later hb h.c10⟩
def ActsAt (w : World) (a : Option Addr) (ls : List AC) : Prop :=
 ∀ i, i < ls.length → ∃ b off ga gc ka kc, a = some ⟨b, off, none⟩ ∧ ActAt w b (off + i * 11) ls[i]! ga gc ka kc ∧ NodesAt w.heap.size w ga ls[i]!.graph.nodes ∧ BoolsAt w ka ls[i]!.kept
theorem ActsAt.get {w : World} {a : Option Addr} {ls : List AC} (h : ActsAt w a ls) {k : Nat} (hk : k < ls.length) :
  ∃ x b off ga gc ka kc, Hid (x = ls[k]!) ∧ x ∈ ls ∧ a = some ⟨b, off, none⟩ ∧ ActAt w b (off + k * 11) x ga gc ka kc ∧ NodesAt w.heap.size w ga x.graph.nodes ∧ BoolsAt w ka x.kept := by
 obtain ⟨b, off, ga, gc, ka, kc, ha, hc, hn, hk'⟩ := h k hk
 exact ⟨ls[k]!, b, off, ga, gc, ka, kc, rfl, mem_at hk, ha, hc, hn, hk'⟩
theorem ActsAt.grow {w w' : World} {a : Option Addr} {ls : List AC} (h : ActsAt w a ls) (hb : Below w.heap.size w w') : ActsAt w' a ls := fun i hi => by
 obtain ⟨b, off, ga, gc, ka, kc, ha, hc, hn, hk⟩ := h i hi
 exact ⟨b, off, ga, gc, ka, kc, ha, hc.grow hb, hn.grow hb, hk.grow hb⟩
def AC.sz (x : AC) : Int := x.graph.sz + x.kept.length
def szAs : List AC → Int
 | [] => 0
 | x :: r => x.sz + szAs r
theorem GG.sz_nonneg' (g : GG) : 0 ≤ g.sz := by
 have := g.root.sz_nonneg
 have := szNodes_nonneg g.nodes
 unfold GG.sz; omega
theorem AC.sz_nonneg (x : AC) : 0 ≤ x.sz := by have := x.graph.sz_nonneg'; unfold AC.sz; omega
theorem szAs_nonneg (l : List AC) : 0 ≤ szAs l := by
 induction l with
 | nil => simp [szAs]
 | cons v r ih => have := v.sz_nonneg; simp only [szAs]; omega
theorem szAs_append (a b : List AC) : szAs (a ++ b) = szAs a + szAs b := by
 induction a with
 | nil => simp [szAs]
 | cons v r ih => simp only [List.cons_append, szAs, ih]; omega
theorem szAs_take_succ (l : List AC) (k : Nat) (h : k < l.length) : szAs (l.take (k + 1)) = szAs (l.take k) + l[k]!.sz := by
 rw [take_snoc l k h, szAs_append]; simp [szAs]
theorem szAs_take_le (l : List AC) (k : Nat) : szAs (l.take k) ≤ szAs l := by
 have h : szAs l = szAs (l.take k) + szAs (l.drop k) := by rw [← szAs_append, List.take_append_drop]
 have := szAs_nonneg (l.drop k); omega
theorem szAs_mem {l : List AC} {x : AC} (h : x ∈ l) : x.sz ≤ szAs l := by
 induction l with
 | nil => cases h
 | cons y r ih =>
  have := szAs_nonneg r
  have := y.sz_nonneg
  simp only [szAs]
  cases List.mem_cons.1 h with
  | inl e => subst e; omega
  | inr e => have := ih e; omega
theorem szBoolS_any (a : Option Addr) (n cap : Nat) (left : Int) (w : World) (hl : n ≤ maxLen) (h0 : 0 ≤ left) (h1 : left ≤ 1048576) :
  Calls Tryz.prog 70 #[.slice a n cap, .int .i64 left] w fun e w' => e = .returned (.int .i64 (leftBy left n)) ∧ Below w.heap.size w w' := by
 unfold maxLen at hl
 go_enter Tryz.func70, Tryz.ntmps70
 go_wp2
 all_goals go_ret
 · exact ⟨ret_int (leftBy_neg (by assumption)).symm, gre _⟩
 · exact ⟨ret_int (leftBy_pos (Int.not_lt.2 (by assumption))).symm, gre _⟩
theorem szAct_any (x : AC) (ga : Option Addr) (gc : Nat) (ka : Option Addr) (kc : Nat) (left : Int) (w : World) (hx : x.Ok) (h0 : 0 ≤ left) (h1 : left ≤ 1048576) (hn : NodesAt w.heap.size w ga x.graph.nodes) :
  Calls Tryz.prog 39 #[x.val ga gc ka kc, .int .i64 left] w fun e w' => e = .returned (.int .i64 (leftBy left x.sz)) ∧ Below w.heap.size w w' := by
 have hz : Hid (x.sz = x.graph.sz + x.kept.length) := rfl
 have hgz := x.graph.sz_nonneg'
 go_enter Tryz.func39, Tryz.ntmps39
 go_wp2_with (go_at_call 69; refine (szGraph_any ga gc x.graph _ _ hx.graph h0 h1 (hn.grow (gal (gre _) _))).mono ?_; rintro e w' ⟨rfl, hb'⟩; obtain ⟨hc, hf⟩ := bcell hb')
 ·
  go_ret
  have hneg := leftBy_of_neg (by assumption)
  have := hz.out
  exact ⟨ret_int (leftBy_neg (by omega)).symm, gca (gal (gre _) _) hb'⟩
 ·
  have hp := leftBy_of_nonneg (by assumption)
  have hB := gca (gal (gre _) _) hb'
  refine (szBoolS_any ka x.kept.length kc _ _ hx.kept (by omega) (by omega)).mono ?_
  rintro e w'' ⟨rfl, hb''⟩
  go_wp2
  ·
   go_ret
   have hneg := leftBy_of_neg (by assumption)
   have := hz.out
   exact ⟨ret_int (leftBy_neg (by omega)).symm, gca hB hb''⟩
  ·
   go_ret
   have hp2 := leftBy_of_nonneg (by assumption)
   have := hz.out
   exact ⟨ret_int (by rw [hp2.1, leftBy_pos (by omega)]; omega), gca hB hb''⟩
theorem szActS_any (a : Option Addr) (cap : Nat) (vs : List AC) (left : Int) (w : World) (hl : vs.length ≤ maxLen) (hv : ∀ v, v ∈ vs → v.Ok) (h0 : 0 ≤ left) (h1 : left ≤ 1048576) (ha : ActsAt w a vs) :
  Calls Tryz.prog 14 #[.slice a vs.length cap, .int .i64 left] w fun e w' => e = .returned (.int .i64 (leftBy left (vs.length + szAs vs))) ∧ Below w.heap.size w w' := by
 unfold maxLen at hl
 have hsn := szAs_nonneg vs
 go_enter Tryz.func14, Tryz.ntmps14
 go_wp2
 ·
  go_ret
  exact ⟨ret_int (leftBy_neg (by omega)).symm, gre _⟩
 go_loopw [1, 5] (fun l i wr => ∃ k : Nat, k ≤ vs.length ∧ i = .int .i64 k ∧ l = .int .i64 (left - vs.length - szAs (vs.take k)) ∧ 0 ≤ left - vs.length - szAs (vs.take k) ∧ Below w.heap.size w wr) (fun _ i _ => vs.length - (intOf i).toNat)
 case atStart => exact ⟨0, Nat.zero_le _, rfl, by simp [szAs], by simp [szAs]; omega, gre _⟩
 case round =>
  obtain ⟨k, hk, rfl, rfl, hpos, hb⟩ := hrel
  by_cases hlt : k < vs.length
  ·
   obtain ⟨v, b, off, ga, gc, ka, kc, hvk, hvm, rfl, hc, hn, hkk⟩ := (ha.grow hb).get hlt
   have c0 := hc.c0
   have c1 := hc.c1
   have c2 := hc.c2
   have c3 := hc.c3
   have c4 := hc.c4
   have c5 := hc.c5
   have c6 := hc.c6
   have c7 := hc.c7
   have c8 := hc.c8
   have c9 := hc.c9
   have c10 := hc.c10
   have hstep : Hid (szAs (vs.take (k + 1)) = szAs (vs.take k) + v.sz) := by rw [hvk.out]; exact szAs_take_succ vs k hlt
   have hle := szAs_take_le vs (k + 1)
   have hn0 := szAs_nonneg (vs.take k)
   have hvz := v.sz_nonneg
   go_wp2_with (go_at_call 39; refine (szAct_any v ga gc ka kc _ _ (hv v hvm) (by omega) (by omega) hn).mono ?_; rintro e w' ⟨rfl, hb'⟩)
   ·
    go_ret
    have hn := leftBy_of_neg (by assumption)
    have hs := hstep.out
    exact ⟨ret_int (leftBy_neg (by omega)).symm, gca hb hb'⟩
   ·
    have hn := leftBy_of_nonneg (by assumption)
    have hs := hstep.out
    go_roundw
    case rel => exact ⟨k + 1, by omega, by go_num, by rw [hn.1, hs]; go_num, by omega, gca hb hb'⟩
    case measure => simp [intOf]; omega
  ·
   go_wp2
   go_ret
   have e : k = vs.length := by omega
   subst e
   rw [List.take_length] at hpos
   exact ⟨ret_int (by rw [List.take_length, leftBy_pos (by omega)]; omega), hb⟩
theorem OwnNodes.lts {w : World} {N : Nat} {bs : Nat → Nat} {ns : List GN} (h : OwnNodes w N bs ns) {i : Nat} (hi : i < ns.length) : bs i < w.heap.size := by
 obtain ⟨f, _, hn⟩ := h
 exact (hn i hi).2.2.1.lt
theorem OwnNodes.ltn {w : World} {N : Nat} {bs : Nat → Nat} {ns : List GN} (h : OwnNodes w N bs ns) : N < w.heap.size := by
 obtain ⟨f, hr, _⟩ := h
 exact hr.lt
theorem KRow.set {w : World} {a : Nat} {ks : List Bool} (h : KRow w a ks) {p : Addr} (hp : p.block < a) (u : Value) : KRow (w.setCell p u) a ks := by
 obtain ⟨f, hr, hf⟩ := h
 exact ⟨f, hr.setOther (by omega) u, hf⟩
theorem toAct_any (x : AC) (ga : Option Addr) (gc : Nat) (ka : Option Addr) (kc : Nat) (w : World) (hl : x.graph.nodes.length ≤ 1048576) (hv : ∀ n, n ∈ x.graph.nodes → n.vals.length ≤ 1048576) (hkl : x.kept.length ≤ 1048576) (hn : NodesAt w.heap.size w ga x.graph.nodes) (hk : BoolsAt w ka x.kept) :
  Calls Tryz.prog 42 #[x.val ga gc ka kc] w fun e w' => ∃ b bs kb, e = .returned (x.val (some ⟨b, 0, none⟩) x.graph.nodes.length (some ⟨kb, 0, none⟩) x.kept.length) ∧ w.heap.size ≤ b ∧ b < kb ∧ (∀ i, i < x.graph.nodes.length → bs i < kb) ∧ OwnNodes w' b bs x.graph.nodes ∧ KRow w' kb x.kept ∧ Below w.heap.size w w' := by
 go_enter Tryz.func42, Tryz.ntmps42
 go_wp2_with (go_at_call 77; refine (toGraph_any ga gc x.graph _ hl hv (hn.grow (gal (gal (gal (gre _) _) _) _))).mono ?_; rintro e w' ⟨b, bs, rfl, hbb, hown, hb'⟩; obtain ⟨hc, hf⟩ := bcell hb')
 have hz : w.heap.size + 1 + 1 < w'.heap.size := by have := hb'.size; simp at this; omega
 have hz1 : w.heap.size + 1 < w'.heap.size := by omega
 have hz0 : w.heap.size < w'.heap.size := by omega
 have hB : Below w.heap.size w w' := gca (gal (gal (gal (gre _) _) _) _) hb'
 have hbb' : w.heap.size + 1 + 1 < b := by simp at hbb; omega
 refine (toBoolS_any ka x.kept kc _ hkl (hk.grow ?_)).mono ?_
 ·
  repeat refine gse ?_ (by simp <;> omega) _
  exact hB
 rintro e w'' ⟨kb, rfl, hkb, hkr, hb''⟩
 obtain ⟨hc2, hf2⟩ := bcell hb''
 have hkb' : w'.heap.size ≤ kb := by simpa [World.setCell] using hkb
 have hB2 : Below w.heap.size w w'' := by
  refine gca ?_ hb''
  repeat refine gse ?_ (by simp <;> omega) _
  exact hB
 have hown2 : OwnNodes w'' b bs x.graph.nodes := by
  refine OwnNodes.below ?_ hb''
  repeat refine OwnNodes.set ?_ (by simp <;> omega) _
  exact hown
 have hlts : ∀ i, i < x.graph.nodes.length → bs i < kb := fun i hi => by have := hown.lts hi; omega
 have hbk : b < kb := by have := hown.ltn; omega
 clear hkb
 go_wp2
 refine bodyPost_ret (v := x.val (some ⟨b, 0, none⟩) x.graph.nodes.length (some ⟨kb, 0, none⟩) x.kept.length) (by simp [results, Tryz.results42, go_sem, hc, hc2, hz1]) rfl ⟨b, bs, kb, rfl, by omega, hbk, hlts, ?_, ?_, ?_⟩
 ·
  repeat refine OwnNodes.set ?_ (by simp <;> omega) _
  exact hown2
 ·
  repeat refine KRow.set ?_ (by simp <;> omega) _
  exact hkr
 ·
  repeat refine gse ?_ (by simp <;> omega) _
  exact hB2
theorem OwnNodes.kept {p : Nat → Prop} {w w' : World} {N : Nat} {bs : Nat → Nat} {ns : List GN} (h : OwnNodes w N bs ns) (k : Kept p w w') (hN : ¬ p N) (hb : ∀ i, i < ns.length → ¬ p (bs i)) : OwnNodes w' N bs ns := by
 obtain ⟨f, hr, hn⟩ := h
 refine ⟨f, k.rowIs hr hN, fun i hi => ?_⟩
 obtain ⟨h0, h1, ⟨g, h2, h2'⟩, h3, h4⟩ := hn i hi
 exact ⟨h0, h1, ⟨g, k.rowIs h2 (hb i hi), h2'⟩, h3, h4⟩
theorem OwnNodes.gt {w : World} {N : Nat} {bs : Nat → Nat} {ns : List GN} (h : OwnNodes w N bs ns) {i : Nat} (hi : i < ns.length) : N < bs i := by
 obtain ⟨f, _, hn⟩ := h
 exact (hn i hi).2.2.2.1
theorem keptN (w : World) (N : Nat) (o0 : Nat) (u0 : Value) (o1 : Nat) (u1 : Value) (o2 : Nat) (u2 : Value) (o3 : Nat) (u3 : Value) (o4 : Nat) (u4 : Value) (o5 : Nat) (u5 : Value) (o6 : Nat) (u6 : Value) (o7 : Nat) (u7 : Value) (o8 : Nat) (u8 : Value) (o9 : Nat) (u9 : Value) (o10 : Nat) (u10 : Value) : Kept (fun z => z = N) w (((((((((((w.setCell ⟨N, o0, none⟩ u0).setCell ⟨N, o1, none⟩ u1).setCell ⟨N, o2, none⟩ u2).setCell ⟨N, o3, none⟩ u3).setCell ⟨N, o4, none⟩ u4).setCell ⟨N, o5, none⟩ u5).setCell ⟨N, o6, none⟩ u6).setCell ⟨N, o7, none⟩ u7).setCell ⟨N, o8, none⟩ u8).setCell ⟨N, o9, none⟩ u9).setCell ⟨N, o10, none⟩ u10) := by
 have h0 := (Kept.refl (fun z => z = N) w).set (a := ⟨N, o0, none⟩) (fun _ => rfl) u0
 have h1 := h0.set (a := ⟨N, o1, none⟩) (fun _ => rfl) u1
 have h2 := h1.set (a := ⟨N, o2, none⟩) (fun _ => rfl) u2
 have h3 := h2.set (a := ⟨N, o3, none⟩) (fun _ => rfl) u3
 have h4 := h3.set (a := ⟨N, o4, none⟩) (fun _ => rfl) u4
 have h5 := h4.set (a := ⟨N, o5, none⟩) (fun _ => rfl) u5
 have h6 := h5.set (a := ⟨N, o6, none⟩) (fun _ => rfl) u6
 have h7 := h6.set (a := ⟨N, o7, none⟩) (fun _ => rfl) u7
 have h8 := h7.set (a := ⟨N, o8, none⟩) (fun _ => rfl) u8
 have h9 := h8.set (a := ⟨N, o9, none⟩) (fun _ => rfl) u9
 have h10 := h9.set (a := ⟨N, o10, none⟩) (fun _ => rfl) u10
 exact h10
structure ActF (f : Nat → Value) (o : Nat) (x : AC) (b kb : Nat) : Prop where
 f0 : f (o) = .int .i64 x.op
 f1 : f (o + 1) = .int .i64 x.graph.root.kind
 f2 : f (o + 2) = .int .i64 x.graph.root.num
 f3 : f (o + 3) = .string x.graph.root.text
 f4 : f (o + 4) = .int .i64 x.graph.root.node
 f5 : f (o + 5) = .slice (some ⟨b, 0, none⟩) x.graph.nodes.length x.graph.nodes.length
 f6 : f (o + 6) = .int .i64 x.steps
 f7 : f (o + 7) = .slice (some ⟨kb, 0, none⟩) x.kept.length x.kept.length
 f8 : f (o + 8) = .int .i64 x.block
 f9 : f (o + 9) = .int .i64 x.byte
 f10 : f (o + 10) = .int .i64 x.xor
def actF (f : Nat → Value) (o : Nat) (x : AC) (b kb : Nat) : Nat → Value := fun j =>
 if j = o + 10 then .int .i64 x.xor else if j = o + 9 then .int .i64 x.byte else if j = o + 8 then .int .i64 x.block else if j = o + 7 then .slice (some ⟨kb, 0, none⟩) x.kept.length x.kept.length else if j = o + 6 then .int .i64 x.steps else if j = o + 5 then .slice (some ⟨b, 0, none⟩) x.graph.nodes.length x.graph.nodes.length else if j = o + 4 then .int .i64 x.graph.root.node else if j = o + 3 then .string x.graph.root.text else if j = o + 2 then .int .i64 x.graph.root.num else if j = o + 1 then .int .i64 x.graph.root.kind else if j = o then .int .i64 x.op else f j
theorem actF_here (f : Nat → Value) (o : Nat) (x : AC) (b kb : Nat) : ActF (actF f o x b kb) o x b kb := by
 constructor <;> simp [actF]
theorem actF_else {f : Nat → Value} {o o' : Nat} {x y : AC} {b kb b' kb' : Nat} (h : ActF f o' y b' kb') (ho : o' + 11 ≤ o) : ActF (actF f o x b kb) o' y b' kb' := by
 have e : ∀ j, j < o → actF f o x b kb j = f j := fun j hj => by
  unfold actF
  rw [if_neg (by omega), if_neg (by omega), if_neg (by omega), if_neg (by omega), if_neg (by omega), if_neg (by omega), if_neg (by omega), if_neg (by omega), if_neg (by omega), if_neg (by omega), if_neg (by omega)]
 exact ⟨(e _ (by omega)).trans h.f0, (e _ (by omega)).trans h.f1, (e _ (by omega)).trans h.f2, (e _ (by omega)).trans h.f3, (e _ (by omega)).trans h.f4, (e _ (by omega)).trans h.f5, (e _ (by omega)).trans h.f6, (e _ (by omega)).trans h.f7, (e _ (by omega)).trans h.f8, (e _ (by omega)).trans h.f9, (e _ (by omega)).trans h.f10⟩
def ActsIn (w : World) (N : Nat) (f : Nat → Value) (b : Nat → Nat) (bs : Nat → Nat → Nat) (kb : Nat → Nat) (ls : List AC) (k : Nat) : Prop :=
 ∀ i, i < k → ActF f (i * 11) ls[i]! (b i) (kb i) ∧ N < b i ∧ b i < kb i ∧ (∀ m, m < ls[i]!.graph.nodes.length → bs i m < kb i) ∧ OwnNodes w (b i) (bs i) ls[i]!.graph.nodes ∧ KRow w (kb i) ls[i]!.kept ∧ ∀ j, j < i → kb j < b i
def OwnActs (w : World) (N : Nat) (b : Nat → Nat) (bs : Nat → Nat → Nat) (kb : Nat → Nat) (ls : List AC) : Prop := ∃ f, w.rowIs N 87 (ls.length * 11) f ∧ ActsIn w N f b bs kb ls ls.length
theorem ActsIn.step {w w' w2 : World} {N : Nat} {f : Nat → Value} {b : Nat → Nat} {bs : Nat → Nat → Nat} {kb : Nat → Nat} {ls : List AC} {k b' kb' : Nat} {bs' : Nat → Nat} {x : AC} (h : ActsIn w N f b bs kb ls k) (hv : Hid (x = ls[k]!)) (hb : Below w.heap.size w w') (hN : N < w.heap.size)
  (hbb : w.heap.size ≤ b') (hbk : b' < kb') (hbs : ∀ m, m < x.graph.nodes.length → bs' m < kb') (hown : OwnNodes w' b' bs' x.graph.nodes) (hkr : KRow w' kb' x.kept) (hK : Kept (fun z => z = N) w' w2) :
  ActsIn w2 N (actF f (k * 11) x b' kb') (fun i => if i = k then b' else b i) (fun i => if i = k then bs' else bs i) (fun i => if i = k then kb' else kb i) ls (k + 1) := fun i hi => by
 have e := hv.out
 by_cases hk : i = k
 ·
  subst hk; subst e
  simp only [if_pos]
  refine ⟨actF_here _ _ _ _ _, by omega, hbk, hbs, hown.kept hK (by omega) (fun m hm => by have := hown.gt hm; omega), hkr.kept hK (by omega), fun j hj => ?_⟩
  rw [if_neg (show j ≠ i by omega)]
  have := (h j hj).2.2.2.2.2.1.lt
  omega
 ·
  obtain ⟨h0, h1, h2, h3, h4, h5, h6⟩ := h i (by omega)
  simp only [if_neg hk]
  have h4' := h4.below hb
  have h5' := h5.grow hb
  refine ⟨actF_else h0 (by omega), h1, h2, h3, h4'.kept hK (by omega) (fun m hm => by have := h4'.gt hm; omega), h5'.kept hK (by omega), fun j hj => ?_⟩
  rw [if_neg (show j ≠ k by omega)]
  exact h6 j hj
theorem OwnActs.at_ {w : World} {N : Nat} {b : Nat → Nat} {bs : Nat → Nat → Nat} {kb : Nat → Nat} {ls : List AC} (h : OwnActs w N b bs kb ls) : ActsAt w (some ⟨N, 0, none⟩) ls := fun i hi => by
 obtain ⟨f, hr, hn⟩ := h
 obtain ⟨h0, _, _, _, h4, h5, _⟩ := hn i hi
 refine ⟨N, 0, some ⟨b i, 0, none⟩, ls[i]!.graph.nodes.length, some ⟨kb i, 0, none⟩, ls[i]!.kept.length, rfl, ⟨?_, ?_, ?_, ?_, ?_, ?_, ?_, ?_, ?_, ?_, ?_⟩, h4.at_, h5.at_⟩
 · rw [Nat.zero_add, ← h0.f0]; exact hr.cell (by omega)
 · rw [Nat.zero_add, ← h0.f1]; exact hr.cell (by omega)
 · rw [Nat.zero_add, ← h0.f2]; exact hr.cell (by omega)
 · rw [Nat.zero_add, ← h0.f3]; exact hr.cell (by omega)
 · rw [Nat.zero_add, ← h0.f4]; exact hr.cell (by omega)
 · rw [Nat.zero_add, ← h0.f5]; exact hr.cell (by omega)
 · rw [Nat.zero_add, ← h0.f6]; exact hr.cell (by omega)
 · rw [Nat.zero_add, ← h0.f7]; exact hr.cell (by omega)
 · rw [Nat.zero_add, ← h0.f8]; exact hr.cell (by omega)
 · rw [Nat.zero_add, ← h0.f9]; exact hr.cell (by omega)
 · rw [Nat.zero_add, ← h0.f10]; exact hr.cell (by omega)
theorem info_implAct : (Tryz.prog.info? 87).map (fun i => (i.zero, i.size, i.bytes)) = some (some (.agg #[.int .i64 0, .int .i64 0, .int .i64 0, .string .empty, .int .i64 0, .slice none 0 0, .int .i64 0, .slice none 0 0, .int .i64 0, .int .i64 0, .int .i64 0]), 11, 128) := by kernel_rfl
theorem toActS_any (a : Option Addr) (cap : Nat) (ls : List AC) (w : World) (hl : ls.length ≤ 1048576) (hv : ∀ x, x ∈ ls → x.graph.nodes.length ≤ 1048576 ∧ (∀ n, n ∈ x.graph.nodes → n.vals.length ≤ 1048576) ∧ x.kept.length ≤ 1048576) (ha : ActsAt w a ls) :
  Calls Tryz.prog 16 #[.slice a ls.length cap] w fun e w' => ∃ N b bs kb, e = .returned (.slice (some ⟨N, 0, none⟩) ls.length ls.length) ∧ w.heap.size ≤ N ∧ OwnActs w' N b bs kb ls ∧ Below w.heap.size w w' := by
 obtain ⟨i0, hi, hz0, hz1, hz2⟩ := info_parts info_implAct
 have hmk : ∀ u : World, (Instr.makeSlice 48 (.int .i64 (ls.length : Int)) (.int .i64 (ls.length : Int))).run Tryz.prog u =
   .ok (.slice (some ⟨u.heap.size, 0, none⟩) ls.length ls.length) (u.alloc (.cells (madeCells #[.int .i64 0, .int .i64 0, .int .i64 0, .string .empty, .int .i64 0, .slice none 0 0, .int .i64 0, .slice none 0 0, .int .i64 0, .int .i64 0, .int .i64 0] (ls.length * 11)) 87)) := fun u => by
  have h := run_make (P := Tryz.prog) u 48 87 i0 _ Tryz.underlying48 hi hz0 .i64 .i64 (ls.length : Int) (ls.length : Int) (by omega) (Int.le_refl _) (by rw [hz2]; omega) (by omega)
  simpa [hz1, Value.cells] using h
 go_enter Tryz.func16, Tryz.ntmps16
 go_wp2
 go_loopw [4] (fun i wr => ∃ (k : Nat) (f : Nat → Value) (b : Nat → Nat) (bs : Nat → Nat → Nat) (kb : Nat → Nat), k ≤ ls.length ∧ i = .int .i64 k ∧ wr.rowIs w.heap.size 87 (ls.length * 11) f ∧ ActsIn wr w.heap.size f b bs kb ls k ∧ Below w.heap.size w wr) (fun i _ => ls.length - (intOf i).toNat)
 case atStart => exact ⟨0, _, fun _ => 0, fun _ _ => 0, fun _ => 0, Nat.zero_le _, rfl, rowIs_made_any _ _ _ _, fun i hi => absurd hi (Nat.not_lt_zero _), (Below.refl _ _).alloc (Nat.le_refl _) _⟩
 case round =>
  obtain ⟨k, f, b, bs, kb, hk, rfl, hrow, hin, hb⟩ := hrel
  by_cases hlt : k < ls.length
  ·
   obtain ⟨x, b0, off, ga, gc, ka, kc, hvk, hvm, rfl, hc, hn, hkk⟩ := (ha.grow hb).get hlt
   have c0 := hc.c0
   have c1 := hc.c1
   have c2 := hc.c2
   have c3 := hc.c3
   have c4 := hc.c4
   have c5 := hc.c5
   have c6 := hc.c6
   have c7 := hc.c7
   have c8 := hc.c8
   have c9 := hc.c9
   have c10 := hc.c10
   obtain ⟨v1, v2, v3⟩ := hv x hvm
   go_wp2_with (go_at_call 42; refine (toAct_any x ga gc ka kc _ v1 v2 v3 hn hkk).mono ?_; rintro e w' ⟨b', bs', kb', rfl, hbb, hbk, hbs, hown, hkr, hb'⟩; have hrow' := hrow.of_block (hb'.block _ hrow.lt); have d0 := hrow'.cell (i := k * 11) (by omega); have d1 := hrow'.cell (i := k * 11 + 1) (by omega); have d2 := hrow'.cell (i := k * 11 + 2) (by omega); have d3 := hrow'.cell (i := k * 11 + 3) (by omega); have d4 := hrow'.cell (i := k * 11 + 4) (by omega); have d5 := hrow'.cell (i := k * 11 + 5) (by omega); have d6 := hrow'.cell (i := k * 11 + 6) (by omega); have d7 := hrow'.cell (i := k * 11 + 7) (by omega); have d8 := hrow'.cell (i := k * 11 + 8) (by omega); have d9 := hrow'.cell (i := k * 11 + 9) (by omega); have d10 := hrow'.cell (i := k * 11 + 10) (by omega); have f0 := hrow'.frozen)
   go_roundw
   case rel =>
    refine ⟨k + 1, _, _, _, _, by omega, by go_num, ((((((((((hrow'.set _ _).set _ _).set _ _).set _ _).set _ _).set _ _).set _ _).set _ _).set _ _).set _ _).set _ _, hin.step hvk hb' hrow.lt hbb hbk hbs hown hkr (keptN _ _ _ _ _ _ _ _ _ _ _ _ _ _ _ _ _ _ _ _ _ _ _ _), ?_⟩
    exact (((((((((((hb.trans (hb'.mono hb.size)).setCell (Nat.le_refl _) _).setCell (Nat.le_refl _) _).setCell (Nat.le_refl _) _).setCell (Nat.le_refl _) _).setCell (Nat.le_refl _) _).setCell (Nat.le_refl _) _).setCell (Nat.le_refl _) _).setCell (Nat.le_refl _) _).setCell (Nat.le_refl _) _).setCell (Nat.le_refl _) _).setCell (Nat.le_refl _) _
   case measure => simp [intOf]; omega
  ·
   go_wp2
   go_ret
   have e : k = ls.length := by omega
   subst e
   exact ⟨_, b, bs, kb, rfl, Nat.le_refl _, ⟨_, hrow, hin⟩, hb⟩
theorem ActAt.new_at (w : World) (x : AC) (ga : Option Addr) (gc : Nat) (ka : Option Addr) (kc : Nat) (t : TypeId) (b : Nat) (hb : b = w.heap.size) : ActAt (w.alloc (.cells #[.int .i64 x.op, .int .i64 x.graph.root.kind, .int .i64 x.graph.root.num, .string x.graph.root.text, .int .i64 x.graph.root.node, .slice ga x.graph.nodes.length gc, .int .i64 x.steps, .slice ka x.kept.length kc, .int .i64 x.block, .int .i64 x.byte, .int .i64 x.xor] t)) b 0 x ga gc ka kc := by
 subst hb
 exact ⟨by simp, by simp, by simp, by simp, by simp, by simp, by simp, by simp, by simp, by simp, by simp⟩
theorem eqAct_same (x : AC) (ga gb : Option Addr) (gc gd : Nat) (ka kb : Option Addr) (kc kd : Nat) (w : World) (hx : x.Ok) (ha : NodesAt w.heap.size w ga x.graph.nodes) (hb : NodesAt w.heap.size w gb x.graph.nodes) (ka' : BoolsAt w ka x.kept) (kb' : BoolsAt w kb x.kept) :
  Calls Tryz.prog 45 #[x.val ga gc ka kc, x.val gb gd kb kd] w fun e w' => e = .returned (.bool true) ∧ Below w.heap.size w w' := by
 have hA : Below w.heap.size w ((w.alloc (.cells #[.int .i64 x.op, .int .i64 x.graph.root.kind, .int .i64 x.graph.root.num, .string x.graph.root.text, .int .i64 x.graph.root.node, .slice ga x.graph.nodes.length gc, .int .i64 x.steps, .slice ka x.kept.length kc, .int .i64 x.block, .int .i64 x.byte, .int .i64 x.xor] 87)).alloc (.cells #[.int .i64 x.op, .int .i64 x.graph.root.kind, .int .i64 x.graph.root.num, .string x.graph.root.text, .int .i64 x.graph.root.node, .slice gb x.graph.nodes.length gd, .int .i64 x.steps, .slice kb x.kept.length kd, .int .i64 x.block, .int .i64 x.byte, .int .i64 x.xor] 87)) := gal (gal (gre w) _) _
 have h1 := (ActAt.new_at w x ga gc ka kc 87 w.heap.size rfl).grow (gal (gre _) (.cells #[.int .i64 x.op, .int .i64 x.graph.root.kind, .int .i64 x.graph.root.num, .string x.graph.root.text, .int .i64 x.graph.root.node, .slice gb x.graph.nodes.length gd, .int .i64 x.steps, .slice kb x.kept.length kd, .int .i64 x.block, .int .i64 x.byte, .int .i64 x.xor] 87))
 have h2 := ActAt.new_at (w.alloc (.cells #[.int .i64 x.op, .int .i64 x.graph.root.kind, .int .i64 x.graph.root.num, .string x.graph.root.text, .int .i64 x.graph.root.node, .slice ga x.graph.nodes.length gc, .int .i64 x.steps, .slice ka x.kept.length kc, .int .i64 x.block, .int .i64 x.byte, .int .i64 x.xor] 87)) x gb gd kb kd 87 (w.heap.size + 1) (by simp)
 have b0 : (x.op != x.op) = false := by simp
 have b1 : (x.steps != x.steps) = false := by simp
 have b2 : (x.block != x.block) = false := by simp
 have b3 : (x.byte != x.byte) = false := by simp
 have b4 : (x.xor != x.xor) = false := by simp
 go_enter Tryz.func45, Tryz.ntmps45
 go_upto_region 1 with fail
 generalize (w.alloc (.cells #[.int .i64 x.op, .int .i64 x.graph.root.kind, .int .i64 x.graph.root.num, .string x.graph.root.text, .int .i64 x.graph.root.node, .slice ga x.graph.nodes.length gc, .int .i64 x.steps, .slice ka x.kept.length kc, .int .i64 x.block, .int .i64 x.byte, .int .i64 x.xor] 87)).alloc (.cells #[.int .i64 x.op, .int .i64 x.graph.root.kind, .int .i64 x.graph.root.num, .string x.graph.root.text, .int .i64 x.graph.root.node, .slice gb x.graph.nodes.length gd, .int .i64 x.steps, .slice kb x.kept.length kd, .int .i64 x.block, .int .i64 x.byte, .int .i64 x.xor] 87) = w1 at hA h1 h2 ⊢
 obtain ⟨p0, p1, p2, p3, p4, p5, p6, p7, p8, p9, p10⟩ := id h1
 obtain ⟨q0, q1, q2, q3, q4, q5, q6, q7, q8, q9, q10⟩ := id h2
 simp only [Nat.zero_add] at p0 p1 p2 p3 p4 p5 p6 p7 p8 p9 p10 q0 q1 q2 q3 q4 q5 q6 q7 q8 q9 q10
 go_wp2_with (first | (go_at_call 32; refine (eqGraph_same ga gb gc gd x.graph w1 hx.graph (ha.grow hA) (hb.grow hA)).mono ?_; rintro e w2 ⟨rfl, hb2⟩; obtain ⟨p0, p1, p2, p3, p4, p5, p6, p7, p8, p9, p10⟩ := h1.grow hb2; obtain ⟨q0, q1, q2, q3, q4, q5, q6, q7, q8, q9, q10⟩ := h2.grow hb2; simp only [Nat.zero_add] at p0 p1 p2 p3 p4 p5 p6 p7 p8 p9 p10 q0 q1 q2 q3 q4 q5 q6 q7 q8 q9 q10) | (go_at_call 84; refine (eqBoolS_same ka kb x.kept kc kd w2 hx.kept (ka'.grow (gca hA hb2)) (kb'.grow (gca hA hb2))).mono ?_; rintro e w3 ⟨rfl, hb3⟩; obtain ⟨p0, p1, p2, p3, p4, p5, p6, p7, p8, p9, p10⟩ := (h1.grow hb2).grow hb3; obtain ⟨q0, q1, q2, q3, q4, q5, q6, q7, q8, q9, q10⟩ := (h2.grow hb2).grow hb3; simp only [Nat.zero_add] at p0 p1 p2 p3 p4 p5 p6 p7 p8 p9 p10 q0 q1 q2 q3 q4 q5 q6 q7 q8 q9 q10))
 go_ret
 exact ⟨rfl, gca (gca hA hb2) hb3⟩
theorem eqActS_same (a a' : Option Addr) (cap cap' : Nat) (ns : List AC) (w : World) (hl : ns.length ≤ maxLen) (hv : ∀ n, n ∈ ns → n.Ok) (ha : ActsAt w a ns) (ha' : ActsAt w a' ns) :
  Calls Tryz.prog 19 #[.slice a ns.length cap, .slice a' ns.length cap'] w fun e w' => e = .returned (.bool true) ∧ Below w.heap.size w w' := by
 unfold maxLen at hl
 have hne : ((ns.length : Int) != (ns.length : Int)) = false := by simp
 go_enter Tryz.func19, Tryz.ntmps19
 go_wp2
 go_loopw [5] (fun i wr => ∃ k : Nat, k ≤ ns.length ∧ i = .int .i64 k ∧ Below w.heap.size w wr) (fun i _ => ns.length - (intOf i).toNat)
 case atStart => exact ⟨0, Nat.zero_le _, rfl, Below.refl _ _⟩
 case round =>
  obtain ⟨k, hk, rfl, hb⟩ := hrel
  by_cases hlt : k < ns.length
  ·
   obtain ⟨n, b, off, ga, gc, ka, kc, hvk, hvm, rfl, hc, hna, hka⟩ := (ha.grow hb).get hlt
   obtain ⟨n', b', off', gb, gd, kb, kd, hvk', hvm', rfl, hd, hnb, hkb⟩ := (ha'.grow hb).get hlt
   have e : n' = n := by rw [hvk.out, hvk'.out]
   subst e
   obtain ⟨p0, p1, p2, p3, p4, p5, p6, p7, p8, p9, p10⟩ := hc
   obtain ⟨q0, q1, q2, q3, q4, q5, q6, q7, q8, q9, q10⟩ := hd
   have i0 : (0 : Int) ≤ (k : Int) := by omega
   have i1 : (k : Int) < (ns.length : Int) := by omega
   have hvl := hv n' hvm
   have hv1 : NodesAt wr.drew.heap.size wr.drew ga n'.graph.nodes := hna.grow (gdr (gre _))
   have hv2 : NodesAt wr.drew.heap.size wr.drew gb n'.graph.nodes := hnb.grow (gdr (gre _))
   have hv3 : BoolsAt wr.drew ka n'.kept := hka.grow (gdr (gre _))
   have hv4 : BoolsAt wr.drew kb n'.kept := hkb.grow (gdr (gre _))
   clear ha ha' hvk hvk' hna hnb hka hkb
   go_wp2
   go_region_held3 (fun w' => w'.cell? ⟨b, off + k * 11, none⟩ = some (.int .i64 n'.op) ∧ w'.cell? ⟨b, off + k * 11 + 1, none⟩ = some (.int .i64 n'.graph.root.kind) ∧ w'.cell? ⟨b, off + k * 11 + 2, none⟩ = some (.int .i64 n'.graph.root.num) ∧ w'.cell? ⟨b, off + k * 11 + 3, none⟩ = some (.string n'.graph.root.text) ∧ w'.cell? ⟨b, off + k * 11 + 4, none⟩ = some (.int .i64 n'.graph.root.node) ∧ w'.cell? ⟨b, off + k * 11 + 5, none⟩ = some (.slice ga n'.graph.nodes.length gc) ∧ w'.cell? ⟨b, off + k * 11 + 6, none⟩ = some (.int .i64 n'.steps) ∧ w'.cell? ⟨b, off + k * 11 + 7, none⟩ = some (.slice ka n'.kept.length kc) ∧ w'.cell? ⟨b, off + k * 11 + 8, none⟩ = some (.int .i64 n'.block) ∧ w'.cell? ⟨b, off + k * 11 + 9, none⟩ = some (.int .i64 n'.byte) ∧ w'.cell? ⟨b, off + k * 11 + 10, none⟩ = some (.int .i64 n'.xor) ∧ w'.cell? ⟨b', off' + k * 11, none⟩ = some (.int .i64 n'.op) ∧ w'.cell? ⟨b', off' + k * 11 + 1, none⟩ = some (.int .i64 n'.graph.root.kind) ∧ w'.cell? ⟨b', off' + k * 11 + 2, none⟩ = some (.int .i64 n'.graph.root.num) ∧ w'.cell? ⟨b', off' + k * 11 + 3, none⟩ = some (.string n'.graph.root.text) ∧ w'.cell? ⟨b', off' + k * 11 + 4, none⟩ = some (.int .i64 n'.graph.root.node) ∧ w'.cell? ⟨b', off' + k * 11 + 5, none⟩ = some (.slice gb n'.graph.nodes.length gd) ∧ w'.cell? ⟨b', off' + k * 11 + 6, none⟩ = some (.int .i64 n'.steps) ∧ w'.cell? ⟨b', off' + k * 11 + 7, none⟩ = some (.slice kb n'.kept.length kd) ∧ w'.cell? ⟨b', off' + k * 11 + 8, none⟩ = some (.int .i64 n'.block) ∧ w'.cell? ⟨b', off' + k * 11 + 9, none⟩ = some (.int .i64 n'.byte) ∧ w'.cell? ⟨b', off' + k * 11 + 10, none⟩ = some (.int .i64 n'.xor)) (first | go_keep | (go_split_ands; refine ⟨?_, ?_, ?_, ?_, ?_, ?_, ?_, ?_, ?_, ?_, ?_, ?_, ?_, ?_, ?_, ?_, ?_, ?_, ?_, ?_, ?_, ?_⟩ <;> exact cell_later hb' (by assumption))) ((go_at_call 45; refine (eqAct_same n' ga gb gc gd ka kb kc kd _ hvl hv1 hv2 hv3 hv4).mono ?_; rintro e w' ⟨rfl, hb'⟩))
   go_wp2
   go_roundw
   case rel => exact ⟨k + 1, by omega, by go_num, gca (gdr hb) hb'⟩
   case measure => simp [intOf]; omega
  ·
   go_wp2
   go_ret
   exact ⟨rfl, hb⟩
def GV.nul (v : GV) : Bool := decide (v.kind = 0) && decide (v.num = 0) && decide (v.text.toList = []) && decide (v.node = 0)
def AC.bare (x : AC) : Bool := x.graph.root.nul && decide (x.graph.nodes.length = 0) && decide (x.steps = 0) && decide (x.kept.length = 0) && decide (x.block = 0) && decide (x.byte = 0) && decide (x.xor = 0)
theorem isBare_any (x : AC) (ga : Option Addr) (gc : Nat) (ka : Option Addr) (kc : Nat) (w : World) :
  Calls Tryz.prog 122 #[x.val ga gc ka kc] w fun e w' => e = .returned (.bool x.bare) ∧ Below w.heap.size w w' := by
 have hA : Below w.heap.size w (w.alloc (.cells #[.int .i64 x.op, .int .i64 x.graph.root.kind, .int .i64 x.graph.root.num, .string x.graph.root.text, .int .i64 x.graph.root.node, .slice ga x.graph.nodes.length gc, .int .i64 x.steps, .slice ka x.kept.length kc, .int .i64 x.block, .int .i64 x.byte, .int .i64 x.xor] 87)) := gal (gre w) _
 go_enter Tryz.func122, Tryz.ntmps122
 by_cases e0 : x.graph.root.kind = 0
 ·
  by_cases e1 : x.graph.root.num = 0
  ·
   by_cases e2 : x.graph.root.text.toList = []
   ·
    by_cases e3 : x.graph.root.node = 0
    ·
     go_upto_region 1 with fail
     go_wp2
     all_goals
      go_ret
      exact ⟨by first | (simp_all [AC.bare, GV.nul]; done) | (simp_all [AC.bare, GV.nul]; rfl), gal (gre w) _⟩
    ·
     go_upto_region 1 with fail
     go_wp2
     all_goals
      go_ret
      exact ⟨by first | (simp_all [AC.bare, GV.nul]; done) | (simp_all [AC.bare, GV.nul]; rfl), gal (gre w) _⟩
   ·
    go_upto_region 1 with fail
    go_wp2
    all_goals
     go_ret
     exact ⟨by first | (simp_all [AC.bare, GV.nul]; done) | (simp_all [AC.bare, GV.nul]; rfl), gal (gre w) _⟩
  ·
   go_upto_region 1 with fail
   go_wp2
   all_goals
    go_ret
    exact ⟨by first | (simp_all [AC.bare, GV.nul]; done) | (simp_all [AC.bare, GV.nul]; rfl), gal (gre w) _⟩
 ·
  go_upto_region 1 with fail
  go_wp2
  all_goals
   go_ret
   exact ⟨by first | (simp_all [AC.bare, GV.nul]; done) | (simp_all [AC.bare, GV.nul]; rfl), gal (gre w) _⟩
def AC.okA (x : AC) : Bool :=
 let cut := decide (x.steps = 0) && decide (x.kept.length = 0)
 let spoil := decide (x.block = 0) && decide (x.byte = 0) && decide (x.xor = 0)
 let bare := x.graph.root.nul && decide (x.graph.nodes.length = 0)
 if x.op = 1 then cut && spoil
 else if x.op = 2 then decide (0 ≤ x.steps) && decide (x.steps ≤ 200) && decide (x.kept.length ≤ 200) && spoil
 else if x.op = 3 then cut && spoil && bare
 else if x.op = 4 then cut && bare && decide (0 ≤ x.block) && decide (x.block < 130) && decide (0 ≤ x.byte) && decide (x.byte < 64) && decide (1 ≤ x.xor) && decide (x.xor ≤ 255)
 else false
theorem l5bare_any (x : AC) (ga : Option Addr) (gc : Nat) (ka : Option Addr) (kc : Nat) (w : World) :
  Calls Tryz.prog 115 #[x.val ga gc ka kc] w fun e w' => e = .returned (.bool (x.graph.root.nul && decide (x.graph.nodes.length = 0))) ∧ Below w.heap.size w w' := by
 go_enter Tryz.func115, Tryz.ntmps115
 by_cases e0 : x.graph.root.kind = 0
 ·
  by_cases e1 : x.graph.root.num = 0
  ·
   by_cases e2 : x.graph.root.text.toList = []
   ·
    by_cases e3 : x.graph.root.node = 0
    ·
     go_wp2
     all_goals
      go_ret
      exact ⟨by first | (simp_all [GV.nul]; done) | (simp_all [GV.nul]; cases x.graph.nodes <;> simp <;> omega), gal (gre w) _⟩
    ·
     go_wp2
     all_goals
      go_ret
      exact ⟨by first | (simp_all [GV.nul]; done) | (simp_all [GV.nul]; cases x.graph.nodes <;> simp <;> omega), gal (gre w) _⟩
   ·
    go_wp2
    all_goals
     go_ret
     exact ⟨by first | (simp_all [GV.nul]; done) | (simp_all [GV.nul]; cases x.graph.nodes <;> simp <;> omega), gal (gre w) _⟩
  ·
   go_wp2
   all_goals
    go_ret
    exact ⟨by first | (simp_all [GV.nul]; done) | (simp_all [GV.nul]; cases x.graph.nodes <;> simp <;> omega), gal (gre w) _⟩
 ·
  go_wp2
  all_goals
   go_ret
   exact ⟨by first | (simp_all [GV.nul]; done) | (simp_all [GV.nul]; cases x.graph.nodes <;> simp <;> omega), gal (gre w) _⟩
def spoilB (bl : List (List Nat)) (b y x : Nat) : List (List Nat) := bl.set b (bl[b]!.set y (bl[b]![y]! ^^^ x))
def DD.spoilA (d : DD) (x : AC) : DD := ⟨spoilB d.blocks x.block.toNat x.byte.toNat x.xor.toNat, d.waiting⟩
def AC.cutN (x : AC) (n : Nat) : Nat := if x.op = 2 ∧ x.steps < (n : Int) then x.steps.toNat else n
theorem AC.cutN_le (x : AC) (n : Nat) : x.cutN n ≤ n := by
 unfold AC.cutN
 split
 · rename_i h; omega
 · exact Nat.le_refl _
def DD.laidA (d : DD) (x : AC) : DD := (applyN d (d.lay (packB x.graph)) (x.cutN (d.lay (packB x.graph)).length)).getD zeroD
def DD.laidC (d : DD) (x : AC) : DD := if x.op = 2 then (d.laidA x).settle (keepOf x.kept) else d.laidA x
def DD.doA (d : DD) (x : AC) : DD × TK :=
 if x.okA = false then (d, ⟨4, 0, zeroG⟩)
 else if x.op = 3 then (d, d.takeT)
 else if x.op = 4 then (d.spoilA x, ⟨0, 0, zeroG⟩)
 else if packB x.graph = [] then (d, ⟨5, 0, zeroG⟩)
 else (d.laidC x, ⟨0, (d.laidC x).newestOf.gen, zeroG⟩)
structure GoodD (d : DD) : Prop where
 ok : d.ok = true
 w : d.waiting = []
 o : d.Ok
theorem applyN_fitP {d : DD} {ops : List OP} (hd : d.Ok) (hok : OpsOk ops) (hk : d.ok = true) : ∀ j e, j ≤ ops.length → applyN d ops j = some e → e.Ok ∧ e.ok = true
 | 0, e, _, h => by obtain rfl := Option.some.inj h; exact ⟨hd, hk⟩
 | j + 1, e, hj, h => by
  cases hp : applyN d ops j with
  | none => rw [applyN_none hp 1] at h; cases h
  | some f =>
   obtain ⟨h1, h2⟩ := applyN_fitP hd hok hk j f (by omega) hp
   cases hs : (f.step ops[j]!).ok with
   | false => rw [applyN_no hp hs] at h; cases h
   | true =>
    rw [applyN_yes hp hs] at h
    obtain rfl := Option.some.inj h
    have hm : ops[j]! ∈ ops := mem_at (by omega)
    exact ⟨step_ok h1 h2 (hok.bl _ hm) (hok.by_ _ hm), hs⟩
theorem laid_some {d : DD} (h : GoodD d) (x : AC) : ∃ f, applyN d (d.lay (packB x.graph)) (x.cutN (d.lay (packB x.graph)).length) = some f ∧ d.laidA x = f ∧ f.ok = true ∧ f.Ok := by
 have hl := packB_lenK x.graph
 have hr := newest_rng (DD.fit h.ok)
 have hoo := lay_opsOk d ⟨hr.g.2, hr.g.1⟩ (packB_bytesK x.graph) hl
 have hll := lay_len d hl
 have hcl := x.cutN_le (d.lay (packB x.graph)).length
 obtain ⟨f, h1, h2, _⟩ := applyN_good h.ok (lay_good d hl) (x.cutN (d.lay (packB x.graph)).length) hcl (by rw [h.w]; simp; omega)
 exact ⟨f, h1, by unfold DD.laidA; rw [h1]; rfl, h2, (applyN_fitP h.o hoo h.ok _ f hcl h1).1⟩
theorem laid_ok {d : DD} (h : GoodD d) (x : AC) : (d.laidA x).ok = true ∧ (d.laidA x).Ok ∧ (x.op ≠ 2 → (d.laidA x).waiting = []) := by
 obtain ⟨f, h1, h2, h3, h4⟩ := laid_some h x
 refine ⟨by rw [h2]; exact h3, by rw [h2]; exact h4, fun e => ?_⟩
 rw [h2]
 have hc : x.cutN (d.lay (packB x.graph)).length = (d.lay (packB x.graph)).length := if_neg (fun k => e k.1)
 rw [hc] at h1
 exact lay_done h.w h.ok (packB_lenK x.graph) h1
theorem laidC_good {d : DD} (h : GoodD d) (x : AC) : GoodD (d.laidC x) := by
 obtain ⟨h1, h2, h3⟩ := laid_ok h x
 unfold DD.laidC
 split
 ·
  obtain ⟨a, b⟩ := settle_okP h1 (keepOf x.kept)
  exact ⟨a, b, settle_okA h2 h1 _⟩
 · rename_i e; exact ⟨h1, h3 e, h2⟩
theorem spoilB_length (bl : List (List Nat)) (b y x : Nat) : (spoilB bl b y x).length = bl.length := by simp [spoilB]
theorem spoilA_good {d : DD} (h : GoodD d) {x : AC} (hb : x.block < 130) (hx : x.xor ≤ 255) : GoodD (d.spoilA x) := by
 have hf := DD.fit h.ok
 have hbl : x.block.toNat < d.blocks.length := by rw [hf.bl]; omega
 have hm := mem_at hbl
 refine ⟨fit_okP ⟨by show (spoilB _ _ _ _).length = 130; rw [spoilB_length]; exact hf.bl, hf.wl, fun r hr => ?_, hf.wb⟩, h.w, ⟨by show (spoilB _ _ _ _).length ≤ maxLen; rw [spoilB_length]; exact h.o.bl, fun r hr => ?_, h.o.wl, h.o.wi, h.o.wb⟩⟩
 ·
  rcases List.mem_or_eq_of_mem_set hr with e | e
  · exact hf.bb r e
  · rw [e, List.length_set]; exact hf.bb _ hm
 ·
  rcases List.mem_or_eq_of_mem_set hr with e | e
  · exact h.o.bb r e
  ·
   have hk := h.o.bb _ hm
   rw [e]
   refine ⟨by rw [List.length_set]; exact hk.len, fun z hz => ?_⟩
   rcases List.mem_or_eq_of_mem_set hz with e2 | e2
   · exact hk.byte z e2
   ·
    rw [e2]
    refine Nat.xor_lt_two_pow (n := 8) ?_ (by omega)
    by_cases hy : x.byte.toNat < d.blocks[x.block.toNat]!.length
    · exact hk.byte _ (mem_at hy)
    · rw [getElem!_neg (d.blocks[x.block.toNat]!) x.byte.toNat hy]; decide
theorem okA_op4 {x : AC} (h : x.okA = true) (e : x.op = 4) : x.steps = 0 ∧ x.kept.length = 0 ∧ x.graph.root.nul = true ∧ x.graph.nodes.length = 0 ∧ 0 ≤ x.block ∧ x.block < 130 ∧ 0 ≤ x.byte ∧ x.byte < 64 ∧ 1 ≤ x.xor ∧ x.xor ≤ 255 := by
 unfold AC.okA at h
 simp only [e] at h
 simp at h
 obtain ⟨⟨⟨⟨⟨⟨⟨⟨h1, h2⟩, h3, h4⟩, h5⟩, h6⟩, h7⟩, h8⟩, h9⟩, h10⟩ := h
 exact ⟨h1, by rw [h2]; rfl, h3, by rw [h4]; rfl, h5, h6, h7, h8, h9, h10⟩
theorem doA_good {d : DD} (h : GoodD d) (x : AC) : GoodD (d.doA x).1 := by
 unfold DD.doA
 split
 · exact h
 ·
  rename_i ho
  split
  · exact h
  ·
   split
   ·
    rename_i e
    have := okA_op4 (by simpa using ho) e
    exact spoilA_good h this.2.2.2.2.2.1 this.2.2.2.2.2.2.2.2.2
   ·
    split
    · exact h
    · exact laidC_good h x
theorem unB_casesP (bs : List Nat) : (unB bs).2 = zeroG ∨ (okG (unB bs).2 = true ∧ (unB bs).2.Ok) := by
 unfold unB
 cases h : rdGraph bs with
 | none => exact Or.inl rfl
 | some y =>
  obtain ⟨g, q⟩ := y
  by_cases hp : packB g = bs
  ·
   right
   have e : (if packB g = bs then (true, g) else (false, zeroG)) = (true, g) := if_pos hp
   dsimp only
   rw [e]
   refine ⟨?_, rdGraph_ok h⟩
   by_cases ho : okG g = true ∧ (imageB g).length ≤ 4096
   · exact ho.1
   ·
    unfold packB at hp
    rw [if_neg ho] at hp
    rw [← hp] at h
    cases h
  ·
   left
   have e : (if packB g = bs then (true, g) else (false, zeroG)) = (false, zeroG) := if_neg hp
   dsimp only
   rw [e]
theorem zeroG_okP : zeroG.Ok := ⟨⟨small_i64 (by show (0 : Int) ≤ 0 ∧ (0 : Int) ≤ 1000000; omega), small_i64 (by show (0 : Int) ≤ 0 ∧ (0 : Int) ≤ 1000000; omega), Nat.zero_le _, small_i64 (by show (0 : Int) ≤ 0 ∧ (0 : Int) ≤ 1000000; omega)⟩, Nat.zero_le _, fun n hn => (by cases hn)⟩
structure TK.Fine (t : TK) : Prop where
 o : t.g.Ok
 l : t.g.nodes.length ≤ 300
 m : ∀ k, mEnd k t.g.nodes ≤ k + 130000
theorem TK.zeroFine (c g : Int) : (TK.mk c g zeroG).Fine := ⟨zeroG_okP, Nat.zero_le _, fun k => by show mEnd k [] ≤ _; simp [mEnd]⟩
theorem takeT_fine (d : DD) : d.takeT.Fine := by
 unfold DD.takeT
 split
 · exact TK.zeroFine _ _
 ·
  split
  · exact TK.zeroFine _ _
  ·
   split
   · exact TK.zeroFine _ _
   ·
    rcases unB_casesP d.newestOf.bytes with h | ⟨h, ho⟩
    · rw [h]; exact TK.zeroFine _ _
    ·
     obtain ⟨h1, _, h3⟩ := okG_parts h
     exact ⟨ho, h1, fun k => by have h4 := mEnd_small (unB d.newestOf.bytes).2.nodes (fun n hn => (okN_parts (h3 n hn)).1) k; show mEnd k (unB d.newestOf.bytes).2.nodes ≤ _; omega⟩
theorem doA_fine (d : DD) (x : AC) : (d.doA x).2.Fine := by
 unfold DD.doA
 split
 · exact TK.zeroFine _ _
 ·
  split
  · exact takeT_fine d
  ·
   split
   · exact TK.zeroFine _ _
   ·
    split
    · exact TK.zeroFine _ _
    · exact TK.zeroFine _ _
def diskN (ls : List AC) : Nat → DD
 | 0 => blankD
 | k + 1 => ((diskN ls k).doA ls[k]!).1
def ansN (ls : List AC) : Nat → List TK
 | 0 => []
 | k + 1 => ansN ls k ++ [((diskN ls k).doA ls[k]!).2]
theorem ansN_length (ls : List AC) : ∀ k, (ansN ls k).length = k
 | 0 => rfl
 | k + 1 => by show (ansN ls k ++ _).length = _; rw [List.length_append, ansN_length ls k]; rfl
theorem blank_goodP : GoodD blankD := ⟨by decide +kernel, rfl, ⟨by simp [blankD, maxLen], fun b hb => by rw [List.eq_of_mem_replicate hb]; exact ⟨by simp [maxLen], fun x hx => by rw [List.eq_of_mem_replicate hx]; omega⟩, Nat.zero_le _, fun x hx => (by cases hx), fun x hx => (by cases hx)⟩⟩
theorem diskN_good (ls : List AC) : ∀ k, GoodD (diskN ls k)
 | 0 => blank_goodP
 | k + 1 => doA_good (diskN_good ls k) _
theorem ansN_fine (ls : List AC) : ∀ k t, t ∈ ansN ls k → t.Fine
 | 0, t, h => by cases h
 | k + 1, t, h => by
  rcases List.mem_append.1 h with e | e
  · exact ansN_fine ls k t e
  · rw [List.mem_singleton.1 e]; exact doA_fine _ _
def playA (ls : List AC) : List TK := if ls.length ≤ 60 then ansN ls ls.length else []
theorem playA_fine (ls : List AC) : ∀ t, t ∈ playA ls → t.Fine := by
 unfold playA
 split
 · exact ansN_fine ls _
 · intro t h; cases h
theorem playA_length (ls : List AC) : (playA ls).length ≤ 60 := by
 unfold playA
 split
 · rw [ansN_length]; assumption
 · exact Nat.zero_le _
theorem l5actOk_4 (x : AC) (ga : Option Addr) (gc : Nat) (ka : Option Addr) (kc : Nat) (w : World) (o4' : Hid (x.op = 4)) :
  Calls Tryz.prog 71 #[x.val ga gc ka kc] w fun e w' => e = .returned (.bool x.okA) ∧ Below w.heap.size w w' := by
 have hA : Below w.heap.size w (w.alloc (.cells #[.int .i64 x.op, .int .i64 x.graph.root.kind, .int .i64 x.graph.root.num, .string x.graph.root.text, .int .i64 x.graph.root.node, .slice ga x.graph.nodes.length gc, .int .i64 x.steps, .slice ka x.kept.length kc, .int .i64 x.block, .int .i64 x.byte, .int .i64 x.xor] 87)) := gal (gre w) _
 have h1 := ActAt.new_at w x ga gc ka kc 87 w.heap.size rfl
 go_enter Tryz.func71, Tryz.ntmps71
 go_upto_region 1 with fail
 generalize (w.alloc (.cells #[.int .i64 x.op, .int .i64 x.graph.root.kind, .int .i64 x.graph.root.num, .string x.graph.root.text, .int .i64 x.graph.root.node, .slice ga x.graph.nodes.length gc, .int .i64 x.steps, .slice ka x.kept.length kc, .int .i64 x.block, .int .i64 x.byte, .int .i64 x.xor] 87)) = w1 at hA h1 ⊢
 obtain ⟨p0, p1, p2, p3, p4, p5, p6, p7, p8, p9, p10⟩ := id h1
 simp only [Nat.zero_add] at p1 p2 p3 p4 p5 p6 p7 p8 p9 p10
 obtain ⟨c, hc⟩ := hid_ex (decide (x.steps = 0) && decide (x.kept.length = 0))
 obtain ⟨s, hs⟩ := hid_ex (decide (x.block = 0) && decide (x.byte = 0) && decide (x.xor = 0))
 obtain ⟨br, hbr⟩ := hid_ex (x.graph.root.nul && decide (x.graph.nodes.length = 0))
 have hok : Hid (x.okA = if x.op = 1 then c && s
  else if x.op = 2 then decide (0 ≤ x.steps) && decide (x.steps ≤ 200) && decide (x.kept.length ≤ 200) && s
  else if x.op = 3 then c && s && br
  else if x.op = 4 then c && br && decide (0 ≤ x.block) && decide (x.block < 130) && decide (0 ≤ x.byte) && decide (x.byte < 64) && decide (1 ≤ x.xor) && decide (x.xor ≤ 255)
  else false) := by show _ = _; rw [hc.out, hs.out, hbr.out]; rfl
 go_cut [3] from 5 (fun v wc => v = .bool c ∧ wc = w1)
 case first =>
  by_cases e1 : x.steps = 0
  ·
   by_cases e2 : x.kept.length = 0
   ·
    go_wp2
    go_meet
    case rel => exact ⟨by rw [hc.out]; simp [e1, e2], rfl⟩
   ·
    have e2' : ((x.kept.length : Int) == 0) = false := by rw [beq_eq_false_iff_ne]; omega
    go_wp2
    go_meet
    case rel => exact ⟨by rw [hc.out]; simp [e1, e2], rfl⟩
  ·
   go_wp2
   go_meet
   case rel => exact ⟨by rw [hc.out]; simp [e1], rfl⟩
 case rest =>
  obtain ⟨rfl, rfl⟩ := hcut
  go_upto_region 2 with fail
  go_cut [4] from 5 (fun v wc' => v = .bool s ∧ wc' = wc)
  case first =>
   by_cases e1 : x.block = 0
   ·
    by_cases e2 : x.byte = 0
    ·
     by_cases e3 : x.xor = 0
     ·
      skip
      go_wp2
      go_meet
      case rel => exact ⟨by rw [hs.out]; simp [e1, e2, e3], rfl⟩
     ·
      skip
      go_wp2
      go_meet
      case rel => exact ⟨by rw [hs.out]; simp [e1, e2, e3], rfl⟩
    ·
     skip
     go_wp2
     go_meet
     case rel => exact ⟨by rw [hs.out]; simp [e1, e2], rfl⟩
   ·
    skip
    go_wp2
    go_meet
    case rel => exact ⟨by rw [hs.out]; simp [e1], rfl⟩
  case rest =>
   obtain ⟨rfl, rfl⟩ := hcut
   have o4 := o4'.out
   have hb0 := fun u => l5bare_any x ga gc ka kc u
   simp only [← hbr.out, AC.val, o4] at hb0
   cases c
   ·
    go_wp2
    go_ret
    exact ⟨by rw [hok.out]; simp [o4], hA⟩
   ·
    cases br
    ·
     go_wp2_with (go_at_call 115; refine (hb0 _).mono ?_; rintro e w2 ⟨rfl, hb2⟩)
     go_ret
     exact ⟨by rw [hok.out]; simp [o4], gca hA hb2⟩
    ·
     skip
     by_cases t0 : 0 ≤ x.block
     ·
      skip
      by_cases t1 : x.block < 130
      ·
       skip
       by_cases t2 : 0 ≤ x.byte
       ·
        skip
        by_cases t3 : x.byte < 64
        ·
         skip
         by_cases t4 : 1 ≤ x.xor
         ·
          skip
          by_cases t5 : x.xor ≤ 255
          ·
           skip
           go_wp2_with (go_at_call 115; refine (hb0 _).mono ?_; rintro e w2 ⟨rfl, hb2⟩; have q8 := cell_later hb2 p8; have q9 := cell_later hb2 p9; have q10 := cell_later hb2 p10)
           go_ret
           exact ⟨by rw [hok.out]; first | (simp [o4, t0, t1, t2, t3, t4, t5]; done) | (simp [o4, t0, t1, t2, t3, t4, t5]; intros; omega), gca hA hb2⟩
          ·
           go_wp2_with (go_at_call 115; refine (hb0 _).mono ?_; rintro e w2 ⟨rfl, hb2⟩; have q8 := cell_later hb2 p8; have q9 := cell_later hb2 p9; have q10 := cell_later hb2 p10)
           go_ret
           exact ⟨by rw [hok.out]; first | (simp [o4, t0, t1, t2, t3, t4]; done) | (simp [o4, t0, t1, t2, t3, t4, t5]; intros; omega), gca hA hb2⟩
         ·
          go_wp2_with (go_at_call 115; refine (hb0 _).mono ?_; rintro e w2 ⟨rfl, hb2⟩; have q8 := cell_later hb2 p8; have q9 := cell_later hb2 p9; have q10 := cell_later hb2 p10)
          go_ret
          exact ⟨by rw [hok.out]; first | (simp [o4, t0, t1, t2, t3]; done) | (simp [o4, t0, t1, t2, t3]; intros; omega), gca hA hb2⟩
        ·
         go_wp2_with (go_at_call 115; refine (hb0 _).mono ?_; rintro e w2 ⟨rfl, hb2⟩; have q8 := cell_later hb2 p8; have q9 := cell_later hb2 p9; have q10 := cell_later hb2 p10)
         go_ret
         exact ⟨by rw [hok.out]; first | (simp [o4, t0, t1, t2]; done) | (simp [o4, t0, t1, t2]; intros; omega), gca hA hb2⟩
       ·
        go_wp2_with (go_at_call 115; refine (hb0 _).mono ?_; rintro e w2 ⟨rfl, hb2⟩; have q8 := cell_later hb2 p8; have q9 := cell_later hb2 p9; have q10 := cell_later hb2 p10)
        go_ret
        exact ⟨by rw [hok.out]; first | (simp [o4, t0, t1]; done) | (simp [o4, t0, t1]; intros; omega), gca hA hb2⟩
      ·
       go_wp2_with (go_at_call 115; refine (hb0 _).mono ?_; rintro e w2 ⟨rfl, hb2⟩; have q8 := cell_later hb2 p8; have q9 := cell_later hb2 p9; have q10 := cell_later hb2 p10)
       go_ret
       exact ⟨by rw [hok.out]; first | (simp [o4, t0]; done) | (simp [o4, t0]; intros; omega), gca hA hb2⟩
     ·
      go_wp2_with (go_at_call 115; refine (hb0 _).mono ?_; rintro e w2 ⟨rfl, hb2⟩; have q8 := cell_later hb2 p8; have q9 := cell_later hb2 p9; have q10 := cell_later hb2 p10)
      go_ret
      exact ⟨by rw [hok.out]; first | (simp [o4]; done) | (simp [o4]; intros; omega), gca hA hb2⟩
theorem l5actOk_any (x : AC) (ga : Option Addr) (gc : Nat) (ka : Option Addr) (kc : Nat) (w : World) :
  Calls Tryz.prog 71 #[x.val ga gc ka kc] w fun e w' => e = .returned (.bool x.okA) ∧ Below w.heap.size w w' := by
 by_cases o4 : x.op = 4
 · exact l5actOk_4 x ga gc ka kc w o4
 have o4' : Hid _ := o4
 clear o4
 have hA : Below w.heap.size w (w.alloc (.cells #[.int .i64 x.op, .int .i64 x.graph.root.kind, .int .i64 x.graph.root.num, .string x.graph.root.text, .int .i64 x.graph.root.node, .slice ga x.graph.nodes.length gc, .int .i64 x.steps, .slice ka x.kept.length kc, .int .i64 x.block, .int .i64 x.byte, .int .i64 x.xor] 87)) := gal (gre w) _
 have h1 := ActAt.new_at w x ga gc ka kc 87 w.heap.size rfl
 go_enter Tryz.func71, Tryz.ntmps71
 go_upto_region 1 with fail
 generalize (w.alloc (.cells #[.int .i64 x.op, .int .i64 x.graph.root.kind, .int .i64 x.graph.root.num, .string x.graph.root.text, .int .i64 x.graph.root.node, .slice ga x.graph.nodes.length gc, .int .i64 x.steps, .slice ka x.kept.length kc, .int .i64 x.block, .int .i64 x.byte, .int .i64 x.xor] 87)) = w1 at hA h1 ⊢
 obtain ⟨p0, p1, p2, p3, p4, p5, p6, p7, p8, p9, p10⟩ := id h1
 simp only [Nat.zero_add] at p1 p2 p3 p4 p5 p6 p7 p8 p9 p10
 obtain ⟨c, hc⟩ := hid_ex (decide (x.steps = 0) && decide (x.kept.length = 0))
 obtain ⟨s, hs⟩ := hid_ex (decide (x.block = 0) && decide (x.byte = 0) && decide (x.xor = 0))
 obtain ⟨br, hbr⟩ := hid_ex (x.graph.root.nul && decide (x.graph.nodes.length = 0))
 have hok : Hid (x.okA = if x.op = 1 then c && s
  else if x.op = 2 then decide (0 ≤ x.steps) && decide (x.steps ≤ 200) && decide (x.kept.length ≤ 200) && s
  else if x.op = 3 then c && s && br
  else if x.op = 4 then c && br && decide (0 ≤ x.block) && decide (x.block < 130) && decide (0 ≤ x.byte) && decide (x.byte < 64) && decide (1 ≤ x.xor) && decide (x.xor ≤ 255)
  else false) := by show _ = _; rw [hc.out, hs.out, hbr.out]; rfl
 go_cut [3] from 5 (fun v wc => v = .bool c ∧ wc = w1)
 case first =>
  by_cases e1 : x.steps = 0
  ·
   by_cases e2 : x.kept.length = 0
   ·
    go_wp2
    go_meet
    case rel => exact ⟨by rw [hc.out]; simp [e1, e2], rfl⟩
   ·
    have e2' : ((x.kept.length : Int) == 0) = false := by rw [beq_eq_false_iff_ne]; omega
    go_wp2
    go_meet
    case rel => exact ⟨by rw [hc.out]; simp [e1, e2], rfl⟩
  ·
   go_wp2
   go_meet
   case rel => exact ⟨by rw [hc.out]; simp [e1], rfl⟩
 case rest =>
  obtain ⟨rfl, rfl⟩ := hcut
  go_upto_region 2 with fail
  go_cut [4] from 5 (fun v wc' => v = .bool s ∧ wc' = wc)
  case first =>
   by_cases e1 : x.block = 0
   ·
    by_cases e2 : x.byte = 0
    ·
     by_cases e3 : x.xor = 0
     ·
      skip
      go_wp2
      go_meet
      case rel => exact ⟨by rw [hs.out]; simp [e1, e2, e3], rfl⟩
     ·
      skip
      go_wp2
      go_meet
      case rel => exact ⟨by rw [hs.out]; simp [e1, e2, e3], rfl⟩
    ·
     skip
     go_wp2
     go_meet
     case rel => exact ⟨by rw [hs.out]; simp [e1, e2], rfl⟩
   ·
    skip
    go_wp2
    go_meet
    case rel => exact ⟨by rw [hs.out]; simp [e1], rfl⟩
  case rest =>
   obtain ⟨rfl, rfl⟩ := hcut
   have o4 := o4'.out
   have hb0 := fun u => l5bare_any x ga gc ka kc u
   simp only [← hbr.out] at hb0
   by_cases o1 : x.op = 1
   ·
    cases c <;> cases s
    all_goals
     go_wp2
     go_ret
     exact ⟨by rw [hok.out]; simp [o1], hA⟩
   ·
    by_cases o2 : x.op = 2
    ·
     by_cases e1 : 0 ≤ x.steps
     ·
      by_cases e2 : x.steps ≤ 200
      ·
       by_cases e3 : x.kept.length ≤ 200
       ·
        have e3' : (x.kept.length : Int) ≤ 200 := by omega
        cases s
        all_goals
         go_wp2
         go_ret
         exact ⟨by rw [hok.out]; first | (simp [o2, e1, e2, e3]; done) | (simp [o2, e1, e2, e3]; intros; omega), hA⟩
       ·
        have e3' : ¬ (x.kept.length : Int) ≤ 200 := by omega
        go_wp2
        go_ret
        exact ⟨by rw [hok.out]; first | (simp [o2, e1, e2, e3]; done) | (simp [o2, e1, e2, e3]; intros; omega), hA⟩
      ·
       go_wp2
       go_ret
       exact ⟨by rw [hok.out]; first | (simp [o2, e1]; done) | (simp [o2, e1]; intros; omega), hA⟩
     ·
      go_wp2
      go_ret
      exact ⟨by rw [hok.out]; first | (simp [o2]; done) | (simp [o2]; intros; omega), hA⟩
    ·
     by_cases o3 : x.op = 3
     ·
      simp only [AC.val, o3] at hb0
      cases c
      ·
       go_wp2
       go_ret
       exact ⟨by rw [hok.out]; simp [o3], hA⟩
      ·
       cases s
       ·
        go_wp2
        go_ret
        exact ⟨by rw [hok.out]; simp [o3], hA⟩
       ·
        go_wp2_with (go_at_call 115; refine (hb0 _).mono ?_; rintro e w2 ⟨rfl, hb2⟩)
        go_ret
        exact ⟨by rw [hok.out]; simp [o3], gca hA hb2⟩
     ·
      have b1 : (x.op == 1) = false := beq_eq_false_iff_ne.2 o1
      have b2 : (x.op == 2) = false := beq_eq_false_iff_ne.2 o2
      have b3 : (x.op == 3) = false := beq_eq_false_iff_ne.2 o3
      have b4 : (x.op == 4) = false := beq_eq_false_iff_ne.2 o4
      clear o1 o2 o3 o4 o4'
      go_upto_region 12 with fail
      go_wp2
      go_ret
      exact ⟨by rw [hok.out]; simp only [beq_eq_false_iff_ne] at b1 b2 b3 b4; simp [b1, b2, b3, b4], hA⟩
end Go.Proofs.YthjddpkegooobacGreatDoor
