/-
  DRVC: the drive takes a write. Own work.
-/
import Derived.Test.YthjddpkegooobabDrvB
namespace Go.Proofs.Ythjddpkegooobab
open Go.RowKit

/-- a drive at work -/
structure Dr (w : World) (p : Nat) (bl : List (List Nat)) (pa : Option Addr) (pc : Nat) (ws : List DW) (k : Value) : Prop where
  d : Drv w p bl (.slice pa ws.length pc) k
  own : w.ownsRow (p + 1) 184 65 (.slice pa ws.length pc) ws.length (pCells ws)
  w64 : ∀ x, x ∈ ws → x.bytes.length = 64
theorem Dr.grow {w w' : World} {p : Nat} {bl : List (List Nat)} {pa : Option Addr} {pc : Nat} {ws : List DW} {k : Value} (h : Dr w p bl pa pc ws k) (hb : Below w.heap.size w w') : Dr w' p bl pa pc ws k :=
  ⟨h.d.grow hb, (Kept.of_below hb (fun _ => False)).owns h.own (fun _ _ e => e), h.w64⟩

set_option maxRecDepth 100000 in
theorem takeK_any (x : DW) (a : Option Addr) (cap p : Nat) (bl : List (List Nat)) (pa : Option Addr) (pc : Nat) (ws : List DW) (k : Value) (w : World) (hx : x.bytes.length = 64) (hw : ws.length ≤ 200) (ha : BytesAt w a x.bytes) (hfar : ∀ b off, a = some ⟨b, off, none⟩ → b < p) (h : Dr w p bl pa pc ws k) :
    Calls Try.prog 155 #[.pointer (some ⟨p, 0, none⟩), x.val a cap] w fun e w' => e = .returned (.tuple #[]) ∧ ∃ pa' pc', Dr w' p bl pa' pc' (ws ++ [x]) k ∧ Kept (fun z => z = p ∨ (Value.slice pa ws.length pc).ownBlock = some z) w w' := by
  obtain ⟨i0, hi, hz0, hz1, hz2⟩ := info_parts info_pending
  obtain ⟨b, off, rfl, _⟩ := ha 0 (by omega)
  have hAt := run_arrayAt
  have hR := range_bytes ha
  have hA' := gal (gre w) (.cells #[.int .i64 x.block, .slice (some ⟨b, off, none⟩) 64 cap] 133)
  have hD := h.grow hA'
  have hRA := World.rangeAt_alloc hR (.cells #[.int .i64 x.block, .slice (some ⟨b, off, none⟩) 64 cap] 133)
  have q0 : (w.alloc (.cells #[.int .i64 x.block, .slice (some ⟨b, off, none⟩) 64 cap] 133)).cell? ⟨w.heap.size, 0, none⟩ = some (.int .i64 x.block) := by simp
  have q1 : (w.alloc (.cells #[.int .i64 x.block, .slice (some ⟨b, off, none⟩) 64 cap] 133)).cell? ⟨w.heap.size, 1, none⟩ = some (.slice (some ⟨b, off, none⟩) 64 cap) := by simp
  have hsz : (w.alloc (.cells #[.int .i64 x.block, .slice (some ⟨b, off, none⟩) 64 cap] 133)).heap.size = w.heap.size + 1 := by simp
  have hp := h.d.lt
  go_enter Try.func155, Try.ntmps155
  go_wp2
  generalize w.alloc (.cells #[.int .i64 x.block, .slice (some ⟨b, off, none⟩) 64 cap] 133) = wA at hA' hD hRA q0 q1 hsz ⊢
  generalize hq : w.heap.size = q at q0 q1 hsz hp ⊢
  have hSk : ∀ (u u' : World), Below u.heap.size u u' → (u.cell? ⟨p, 8320, none⟩ = some (.slice pa ws.length pc) ∧ u.cell? ⟨q, 0, none⟩ = some (.int .i64 x.block) ∧ u.cell? ⟨q, 1, none⟩ = some (.slice (some ⟨b, off, none⟩) 64 cap) ∧ u.rangeAt b off (bcells x.bytes)) → (u'.cell? ⟨p, 8320, none⟩ = some (.slice pa ws.length pc) ∧ u'.cell? ⟨q, 0, none⟩ = some (.int .i64 x.block) ∧ u'.cell? ⟨q, 1, none⟩ = some (.slice (some ⟨b, off, none⟩) 64 cap) ∧ u'.rangeAt b off (bcells x.bytes)) := fun u u' hb h => ⟨cell_later hb h.1, cell_later hb h.2.1, cell_later hb h.2.2.1, fun j v hj => cell_later hb (h.2.2.2 j v hj)⟩
  refine wp_regionU (fun u => u.cell? ⟨p, 8320, none⟩ = some (.slice pa ws.length pc) ∧ u.cell? ⟨q, 0, none⟩ = some (.int .i64 x.block) ∧ u.cell? ⟨q, 1, none⟩ = some (.slice (some ⟨b, off, none⟩) 64 cap) ∧ u.rangeAt b off (bcells x.bytes)) 16 (by kernel_rfl) ⟨hD.d.ws, q0, q1, hRA⟩ (fun hS0 => ?_)
  refine anyU_take (i := 0) (v := ?_) rfl (by kernel_rfl) (by kernel_rfl) (by kernel_rfl) (by kernel_rfl) (fun _ _ _ h => h) (Or.inl ⟨by rfl, ?_⟩) hS0 ?_
  rotate_left
  · intro u hSu; obtain ⟨s0, s1, s2, s3⟩ := hSu; go_simp <;> with_reducible rfl
  simp only [Act.put, List.getElem_toArray, List.getElem_cons_zero, List.setIfInBounds_toArray, List.set_cons_zero, List.set_cons_succ]
  refine anyU_take (i := 1) (v := ?_) rfl (by kernel_rfl) (by kernel_rfl) (by kernel_rfl) (by kernel_rfl) (fun _ _ _ h => h) (Or.inl ⟨by rfl, ?_⟩) hS0 ?_
  rotate_left
  · intro u hSu; obtain ⟨s0, s1, s2, s3⟩ := hSu; go_simp <;> with_reducible rfl
  simp only [Act.put, List.getElem_toArray, List.getElem_cons_zero, List.getElem_cons_succ, List.setIfInBounds_toArray, List.set_cons_zero, List.set_cons_succ]
  refine anyU_take (i := 2) (v := ?_) rfl (by kernel_rfl) (by kernel_rfl) (by kernel_rfl) (by kernel_rfl) (fun _ _ _ h => h) (Or.inl ⟨by rfl, ?_⟩) hS0 ?_
  rotate_left
  · intro u hSu; obtain ⟨s0, s1, s2, s3⟩ := hSu; go_simp <;> with_reducible rfl
  simp only [Act.put, List.getElem_toArray, List.getElem_cons_zero, List.getElem_cons_succ, List.setIfInBounds_toArray, List.set_cons_zero, List.set_cons_succ]
  refine anyU_take (i := 3) (v := ?_) rfl (by kernel_rfl) (by kernel_rfl) (by kernel_rfl) (by kernel_rfl) (fun _ _ _ h => h) (Or.inl ⟨by rfl, ?_⟩) hS0 ?_
  rotate_left
  · intro u hSu; obtain ⟨s0, s1, s2, s3⟩ := hSu; go_simp <;> with_reducible rfl
  simp only [Act.put, List.getElem_toArray, List.getElem_cons_zero, List.getElem_cons_succ, List.setIfInBounds_toArray, List.set_cons_zero, List.set_cons_succ]
  refine anyU_take (i := 4) (v := ?_) rfl (by kernel_rfl) (by kernel_rfl) (by kernel_rfl) (by kernel_rfl) (fun _ _ _ h => h) (Or.inl ⟨by rfl, ?_⟩) hS0 ?_
  rotate_left
  · intro u hSu; obtain ⟨s0, s1, s2, s3⟩ := hSu; go_simp <;> with_reducible rfl
  simp only [Act.put, List.getElem_toArray, List.getElem_cons_zero, List.getElem_cons_succ, List.setIfInBounds_toArray, List.set_cons_zero, List.set_cons_succ]
  refine anyU_take (i := 5) (v := ?_) rfl (by kernel_rfl) (by kernel_rfl) (by kernel_rfl) (by kernel_rfl) (fun _ _ _ h => h) (Or.inl ⟨by rfl, ?_⟩) hS0 ?_
  rotate_left
  · intro u hSu; obtain ⟨s0, s1, s2, s3⟩ := hSu; go_simp <;> with_reducible rfl
  simp only [Act.put, List.getElem_toArray, List.getElem_cons_zero, List.getElem_cons_succ, List.setIfInBounds_toArray, List.set_cons_zero, List.set_cons_succ]
  refine anyU_take (i := 6) (v := ?_) rfl (by kernel_rfl) (by kernel_rfl) (by kernel_rfl) (by kernel_rfl) (fun _ _ _ h => h) (Or.inl ⟨by rfl, ?_⟩) hS0 ?_
  rotate_left
  · intro u hSu; obtain ⟨s0, s1, s2, s3⟩ := hSu; go_simp <;> with_reducible rfl
  simp only [Act.put, List.getElem_toArray, List.getElem_cons_zero, List.getElem_cons_succ, List.setIfInBounds_toArray, List.set_cons_zero, List.set_cons_succ]
  refine anyU_take (i := 7) (v := ?_) rfl (by kernel_rfl) (by kernel_rfl) (by kernel_rfl) (by kernel_rfl) (fun _ _ _ h => h) (Or.inl ⟨by rfl, ?_⟩) hS0 ?_
  rotate_left
  · intro u hSu; obtain ⟨s0, s1, s2, s3⟩ := hSu; go_simp <;> with_reducible rfl
  simp only [Act.put, List.getElem_toArray, List.getElem_cons_zero, List.getElem_cons_succ, List.setIfInBounds_toArray, List.set_cons_zero, List.set_cons_succ]
  refine anyU_take (i := 8) (v := ?_) rfl (by kernel_rfl) (by kernel_rfl) (by kernel_rfl) (by kernel_rfl) (fun _ _ _ h => h) (Or.inl ⟨by rfl, ?_⟩) hS0 ?_
  rotate_left
  · intro u hSu; obtain ⟨s0, s1, s2, s3⟩ := hSu; go_simp <;> with_reducible rfl
  simp only [Act.put, List.getElem_toArray, List.getElem_cons_zero, List.getElem_cons_succ, List.setIfInBounds_toArray, List.set_cons_zero, List.set_cons_succ]
  refine anyU_take (i := 9) (v := ?_) rfl (by kernel_rfl) (by kernel_rfl) (by kernel_rfl) (by kernel_rfl) (fun _ _ _ h => h) (Or.inl ⟨by rfl, ?_⟩) hS0 ?_
  rotate_left
  · intro u hSu; obtain ⟨s0, s1, s2, s3⟩ := hSu; go_simp <;> with_reducible rfl
  simp only [Act.put, List.getElem_toArray, List.getElem_cons_zero, List.getElem_cons_succ, List.setIfInBounds_toArray, List.set_cons_zero, List.set_cons_succ]
  refine anyU_take (i := 10) rfl (by kernel_rfl) (by kernel_rfl) (by kernel_rfl) (by kernel_rfl) (fun _ _ _ h => h) (yieldsIf_load_mid (by rfl) 121 (.tmp 13) rfl b off (by rfl) (bcells x.bytes) _ (fun _ hS => hS.2.2.2) Try.underlying121 rfl (by rw [size_content, bcells_length, hx])) hS0 ?_
  simp only [Act.put, List.getElem_toArray, List.getElem_cons_zero, List.getElem_cons_succ, List.setIfInBounds_toArray, List.set_cons_zero, List.set_cons_succ]
  refine anyU_take (i := 11) rfl (by kernel_rfl) (by kernel_rfl) (by kernel_rfl) (by kernel_rfl) (fun _ _ _ h => h) (yieldsIf_build (by rfl) 184 _ rfl x.pc.toArray (by simp only [List.map_toArray, List.map_cons, List.map_nil]; exact pend_built x hx)) hS0 ?_
  simp only [Act.put, List.getElem_toArray, List.getElem_cons_zero, List.getElem_cons_succ, List.setIfInBounds_toArray, List.set_cons_zero, List.set_cons_succ]
  refine anyU_one (i := 12) (by kernel_rfl) rfl (fun K hK => ?_)
  rw [if_pos (by rfl)]
  refine wp_buildSlice 123 184 1 _ rfl x.pc.toArray i0 _ Try.underlying123 hi hz0 (by rw [hz1]; omega) (by rw [hz1]; omega) (by rw [hz1]; simp only [List.map_toArray, List.map_cons, List.map_nil]; exact fill_whole x.pc.toArray _ _ 65 rfl (by simpa using pc_length hx) (by simp)) ?_
  have hB := gal (gre wA.drew) (.cells x.pc.toArray 184)
  have hD1 := hD.grow (gca (gdr (gre wA)) hB)
  have hS1 := hSk _ _ hB hS0
  have hnew := range_new wA.drew x.pc 184
  have hsz2 : (wA.drew.alloc (.cells x.pc.toArray 184)).heap.size = q + 2 := by simp [hsz]
  have hBA := gca hA' (gca (gdr (gre wA)) hB)
  refine hK.out _ _ hS1 ?_
  clear hK
  simp only [Act.put, List.getElem_toArray, List.getElem_cons_zero, List.getElem_cons_succ, List.setIfInBounds_toArray, List.set_cons_zero, List.set_cons_succ]
  have hq1 : wA.drew.heap.size = q + 1 := hsz
  rw [hq1] at hnew ⊢
  generalize wA.drew.alloc (.cells x.pc.toArray 184) = wB at hB hD1 hS1 hnew hsz2 hBA ⊢
  refine anyU_one (i := 13) (by kernel_rfl) rfl (fun K hK => ?_)
  refine step_append_lies _ (by rfl) (.tmp 8) (.tmp 16) 123 rfl (p + 1) 184 i0 _ 65 72 Try.underlying123 hi hz0 hz1 hz2 rfl (by decide) (.slice pa ws.length pc) ws.length (pCells ws) (by rfl) hD1.own ⟨q + 1, 0, none⟩ 1 1 x.pc (by rfl) (by rw [pc_length hx]) (fun j u hj => by rw [Addr.add_mid]; exact hnew j u hj) pc_one (by decide) (by unfold maxLen; omega) (by omega) (by omega) (q + 2) hsz2 ?_
  intro gg cc w3 hown3 hgrow3 hat3 hlt3
  have hK3 := Kept.of_grown hgrow3
  have hnb : ∀ z, (Value.slice pa ws.length pc).ownBlock = some z → p + 1 ≤ z ∧ z < q := fun z hz => by have := h.own.lt z hz; omega
  have hD3 := hD1.d.kept hK3 (fun e => by have := hnb _ e; omega)
  have hbp := hfar b off rfl
  have hS3 : w3.cell? ⟨p, 8320, none⟩ = some (.slice pa ws.length pc) ∧ w3.cell? ⟨q, 0, none⟩ = some (.int .i64 x.block) ∧ w3.cell? ⟨q, 1, none⟩ = some (.slice (some ⟨b, off, none⟩) 64 cap) ∧ w3.rangeAt b off (bcells x.bytes) := ⟨hD3.ws, hK3.cell hS1.2.1 (fun e => by have := hnb _ e; omega), hK3.cell hS1.2.2.1 (fun e => by have := hnb _ e; omega), fun j v hj => hK3.cell (hS1.2.2.2 j v hj) (fun e => by have := hnb _ e; omega)⟩
  refine hK.out _ _ hS3 ?_
  clear hK
  simp only [Act.put, List.getElem_toArray, List.getElem_cons_zero, List.getElem_cons_succ, List.setIfInBounds_toArray, List.set_cons_zero, List.set_cons_succ]
  refine anyU_one (i := 14) (by kernel_rfl) rfl (fun K hK => ?_)
  go_simp
  refine hK.out _ _ hS3 ?_
  clear hK
  refine anyU_one (i := 15) (by kernel_rfl) rfl (fun K hK => ?_)
  go_simp
  refine hK.out _ _ hS3 ?_
  clear hK
  have fz := hD3.frozen (o := 8320) (by decide)
  have c8 := hD3.ws
  refine anyU_last (by kernel_rfl) rfl (by kernel_rfl) (fun K hK => ?_)
  go_simp
  refine hK.out _ _ ?_
  clear hK
  have hown3' : w3.ownsRow (p + 1) 184 65 (.slice (some ⟨gg, 0, none⟩) (ws ++ [x]).length cc) (ws ++ [x]).length (pCells (ws ++ [x])) := by rw [pCells_snoc, List.length_append]; exact hown3
  have hK4 := (Kept.refl (fun z => z = p) w3).set (a := ⟨p, 8320, none⟩) (fun _ => rfl) (.slice (some ⟨gg, 0, none⟩) (ws.length + 1) cc)
  first | go_end0 | refine bodyPost_ret (results_none rfl _ _ _) rfl ?_
  refine ⟨rfl, some ⟨gg, 0, none⟩, cc, ⟨by rw [List.length_append]; exact hD3.setW _, hK4.owns hown3' (fun z hz e => by have := (hown3'.lt z hz).1; omega), fun y hy => ?_⟩, ?_⟩
  · rcases List.mem_append.1 hy with hy | hy
    · exact h.w64 y hy
    · obtain rfl : y = x := by simpa using hy
      exact hx
  · exact ((Kept.of_below hBA (fun z => z = p ∨ (Value.slice pa ws.length pc).ownBlock = some z)).trans hK3 (fun z _ hz => Or.inr hz)).trans hK4 (fun z _ hz => Or.inl hz)

theorem take_any (x : DW) (a : Option Addr) (cap p : Nat) (bl : List (List Nat)) (pa : Option Addr) (pc : Nat) (ws : List DW) (k : Value) (w : World) (hx : x.bytes.length = 64) (hw : ws.length ≤ 200) (ha : BytesAt w a x.bytes) (hfar : ∀ b off, a = some ⟨b, off, none⟩ → b < p) (h : Dr w p bl pa pc ws k) :
    Calls Try.prog 155 #[.pointer (some ⟨p, 0, none⟩), x.val a cap] w fun e w' => e = .returned (.tuple #[]) ∧ ∃ pa' pc', Dr w' p bl pa' pc' (ws ++ [x]) k ∧ Kept (fun b => p ≤ b) w w' :=
  (takeK_any x a cap p bl pa pc ws k w hx hw ha hfar h).mono fun _ _ ⟨he, pa', pc', hD, hK⟩ => ⟨he, pa', pc', hD, hK.mono (fun z _ e => by
    rcases e with e | e
    · omega
    · have := (h.own.lt z e).1; omega)⟩

end Go.Proofs.Ythjddpkegooobab
