/-
  SPECREN: the specification's renaming. Own work.
-/
import Derived.Test.YthjddpkegooobaaCanonPlain
import Derived.Test.YthjddpkegooobaaRows2
namespace Go.Proofs.Ythjddpkegooobaa
open Go.RowKit

set_option maxRecDepth 100000 in
theorem info_int : (Try.prog.info? 3).map (fun i => (i.zero, i.size, i.bytes)) = some (some (.int .i64 0), 1, 8) := by kernel_rfl

/-- what the specification's renaming leaves -/
def RenPost (base n wb : Nat) (ord : List Nat) (v : GV) (oa : Option Addr) (w : World) (e : Ending) (w' : World) : Prop :=
  ∃ oa' ocap', e = .returned (.tuple #[(renVal ord v).val, .slice oa' (renOrd ord v).length ocap']) ∧ w'.rowIs wb 3 n (fun i => .int .i64 (whereOf (renOrd ord v) i)) ∧
    w'.ownsRow base 3 1 (.slice oa' (renOrd ord v).length ocap') (renOrd ord v).length (ints (renOrd ord v)) ∧
    (oa' = oa ∨ ∃ g, oa' = some ⟨g, 0, none⟩ ∧ w.heap.size ≤ g) ∧ Kept (fun k => k = wb ∨ oa = some ⟨k, 0, none⟩) w w'

set_option maxRecDepth 100000 in
theorem l1renamed_not (base n : Nat) (ord : List Nat) (v : GV) (wb : Nat) (oa : Option Addr) (ocap : Nat) (w : World) (hk : v.kind ≠ 4)
    (hw : w.rowIs wb 3 n (fun i => .int .i64 (whereOf ord i))) (ho : w.ownsRow base 3 1 (.slice oa ord.length ocap) ord.length (ints ord)) :
    Calls Try.prog 114 #[v.val, .slice (some ⟨wb, 0, none⟩) n n, .slice oa ord.length ocap] w (RenPost base n wb ord v oa w) := by
  obtain ⟨e1, e2⟩ := ren_not (ord := ord) hk
  have hne : (v.kind != 4) = true := by simpa using hk
  go_enter Try.func114, Try.ntmps114
  go_wp2
  exact bodyPost_ret (v := .tuple #[v.val, .slice oa ord.length ocap]) (by simp [results, Try.results114, go_sem]) rfl
    ⟨oa, ocap, by rw [e1, e2], by rw [e1]; exact (hw.alloc _).alloc _, by rw [e1]; exact (ho.alloc _).alloc _, Or.inl rfl, Kept.of_below (gal (gal (gre _) _) _) _⟩

set_option maxRecDepth 100000 in
theorem l1renamed_old (base n : Nat) (ord : List Nat) (m : Int) (t : ByteArray) (x : Nat) (wb : Nat) (oa : Option Addr) (ocap : Nat) (w : World) (hx : x ∈ ord) (hxn : x < n) (_hn : n ≤ 300)
    (hw : w.rowIs wb 3 n (fun i => .int .i64 (whereOf ord i))) (ho : w.ownsRow base 3 1 (.slice oa ord.length ocap) ord.length (ints ord)) :
    Calls Try.prog 114 #[(GV.mk 4 m t x).val, .slice (some ⟨wb, 0, none⟩) n n, .slice oa ord.length ocap] w (RenPost base n wb ord ⟨4, m, t, x⟩ oa w) := by
  obtain ⟨e1, e2⟩ := ren_old (ord := ord) (v := ⟨4, m, t, x⟩) rfl hx
  have hc := hw.cell hxn
  rw [whereOf_pos hx] at hc
  have hwl := hw.lt
  have hxi : (0 : Int) ≤ (x : Int) := by omega
  have hxj : (x : Int) < (n : Int) := by omega
  have h0 : (0 : Int) ≤ (ord.idxOf x : Int) := by omega
  go_enter Try.func114, Try.ntmps114
  go_wp2
  exact bodyPost_ret (v := .tuple #[(GV.mk 4 m t (ord.idxOf x : Nat)).val, .slice oa ord.length ocap]) (by simp [results, Try.results114, go_sem]) rfl
    ⟨oa, ocap, by rw [e1, e2]; rfl, by rw [e1]; exact (hw.alloc _).alloc _, by rw [e1]; exact (ho.alloc _).alloc _, Or.inl rfl, Kept.of_below (gal (gal (gre _) _) _) _⟩

set_option maxRecDepth 100000 in
theorem l1renamed_new (base n : Nat) (ord : List Nat) (m : Int) (t : ByteArray) (x : Nat) (wb : Nat) (oa : Option Addr) (ocap : Nat) (w : World) (hx : x ∉ ord) (hxn : x < n) (_hn : n ≤ 300) (hol : ord.length ≤ 300)
    (hwb : wb < base) (hbase : base ≤ w.heap.size)
    (hw : w.rowIs wb 3 n (fun i => .int .i64 (whereOf ord i))) (ho : w.ownsRow base 3 1 (.slice oa ord.length ocap) ord.length (ints ord)) :
    Calls Try.prog 114 #[(GV.mk 4 m t x).val, .slice (some ⟨wb, 0, none⟩) n n, .slice oa ord.length ocap] w (RenPost base n wb ord ⟨4, m, t, x⟩ oa w) := by
  obtain ⟨e1, e2⟩ := ren_new (ord := ord) (v := ⟨4, m, t, x⟩) rfl hx
  obtain ⟨i0, hi, hz0, hz1, hz2⟩ := info_parts info_int
  have hc := hw.cell hxn
  rw [whereOf_neg hx] at hc
  have hwl := hw.lt
  have hfr := hw.frozen x
  have hxi : (0 : Int) ≤ (x : Int) := by omega
  have hxj : (x : Int) < (n : Int) := by omega
  have hn0 : some w.heap.size ≠ (Value.slice oa ord.length ocap).ownBlock := fun e => by have := (ho.lt _ e.symm).2; omega
  have hn1 : some (w.heap.size + 1) ≠ (Value.slice oa ord.length ocap).ownBlock := fun e => by have := (ho.lt _ e.symm).2; omega
  have hn2 : some wb ≠ (Value.slice oa ord.length ocap).ownBlock := fun e => by have := (ho.lt _ e.symm).1; omega
  go_enter Try.func114, Try.ntmps114
  go_wp2_with (at_builtin; refine wpList_append_lies _ rfl (.tmp 25) (.tmp 28) 144 rfl base 3 i0 (.int .i64 0) 1 8 Try.underlying144 hi hz0 hz1 hz2 rfl (by decide) _ _ _ rfl ((((ownsRow_setCell_below ho hwb _).alloc _).alloc _).alloc _) ⟨w.heap.size + 1 + 1, 0, none⟩ 1 1 [.int .i64 (x : Int)] rfl rfl (World.news_of_block (cs := #[.int .i64 (x : Int)]) (t := 3) (fr := (0, 0)) (blk_new_at _ _ _ (by simp))) (by simp [Value.oneCell']) (by decide) (by unfold maxLen; omega) (by omega) (by simp; omega) (w.heap.size + 1 + 1 + 1) (by simp) ?_; intro g cap w1 hown1 hgrow hat hlt; have hr1 := (Kept.of_grown hgrow).rowIs ((((hw.set x (.int .i64 (ord.length : Int))).alloc _).alloc _).alloc _) (fun e => hn2 e.symm); have q2 : w1.cell? ⟨wb, x, none⟩ = some (.int .i64 (ord.length : Int)) := (hr1.cell hxn).trans (by rw [if_pos rfl]); obtain ⟨z0, k0, k1, k2, k3, kf⟩ := (((Four.new_at (w.setCell ⟨wb, x, none⟩ (.int .i64 (ord.length : Int))) ⟨4, m, t, x⟩ _ w.heap.size (by simp)).alloc _).alloc _).kept (Kept.of_grown hgrow) (fun e => hn0 e.symm); obtain ⟨z1, l0, l1, l2, l3, lf⟩ := ((Four.new_at _ ⟨0, 0, .empty, 0⟩ _ (w.heap.size + 1) (by simp)).alloc _).kept (Kept.of_grown hgrow) (fun e => hn1 e.symm))
  have e1' : renOrd ord ⟨4, m, t, x⟩ = ord ++ [x] := by simpa using e1
  have hl1 : (ord ++ [x]).length = ord.length + 1 := by simp
  have hK : Kept (fun k => k = wb ∨ oa = some ⟨k, 0, none⟩) w w1 :=
    ((((Kept.refl _ w).set (fun _ => Or.inl rfl) _).alloc _).alloc _).alloc _ |>.trans (Kept.of_grown hgrow) (fun k _ hq => Or.inr (owns_addr ho hq))
  have hg : w.heap.size ≠ g ∧ w.heap.size + 1 ≠ g ∧ (some ⟨g, 0, none⟩ = oa ∨ w.heap.size ≤ g) := by
    rcases hat with h | h
    · have h1 := ho.lt g h
      have h2 := owns_addr ho h
      exact ⟨by omega, by omega, Or.inl h2.symm⟩
    · exact ⟨by omega, by omega, Or.inr (by omega)⟩
  have hQ : Kept (fun k => k = w.heap.size ∨ k = w.heap.size + 1) w1 (((((w1.setCell ⟨w.heap.size, 3, none⟩ (.int .i64 (ord.length : Int))).setCell ⟨w.heap.size + 1, 0, none⟩ (.int .i64 4)).setCell ⟨w.heap.size + 1, 1, none⟩ (.int .i64 m)).setCell ⟨w.heap.size + 1, 2, none⟩ (.string t)).setCell ⟨w.heap.size + 1, 3, none⟩ (.int .i64 (ord.length : Int))) :=
    (((((Kept.refl _ w1).set (fun _ => Or.inl rfl) _).set (fun _ => Or.inr rfl) _).set (fun _ => Or.inr rfl) _).set (fun _ => Or.inr rfl) _).set (fun _ => Or.inr rfl) _
  refine bodyPost_ret (v := .tuple #[(GV.mk 4 m t (ord.length : Nat)).val, .slice (some ⟨g, 0, none⟩) (ord.length + 1) cap]) (by simp [results, Try.results114, go_sem, l0, l1, l2, l3]) rfl
    ⟨some ⟨g, 0, none⟩, cap, by rw [e1', e2, hl1], ?_, ?_, hg.2.2.elim (fun h => Or.inl h) (fun h => Or.inr ⟨g, rfl, h⟩), hK.trans hQ (fun k hk hq => by omega)⟩
  · rw [e1']
    exact (hQ.rowIs hr1 (by omega)).congr fun j _ => by rw [whereOf_snoc hx]; split <;> rfl
  · rw [e1', hl1]
    have h3 := hQ.owns hown1 (fun k hk => by simp [Value.ownBlock] at hk; omega)
    simpa [ints] using h3

end Go.Proofs.Ythjddpkegooobaa
