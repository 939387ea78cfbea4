import Derived.Deep.RegionHeld
import Derived.Deep.Cut
import Derived.Lib.SliceRun
import Derived.Laws.AppendOwn
import Derived.Test.YtmdpmdmilgbfiaaGreatDoorPartB

/-
  DRVC: the drive takes a write. Own work.
-/
namespace Go.Proofs.YtmdpmdmilgbfiaaGreatDoor
open Go.RowKit

/-- a drive at work -/
structure Dr (w : World) (p : Nat) (bl : List (List Nat)) (pa : Option Addr) (pc : Nat) (ws : List DW) (k : Value) : Prop where
  d : Drv w p bl (.slice pa ws.length pc) k
  own : w.ownsRow (p + 1) 160 65 (.slice pa ws.length pc) ws.length (pCells ws)
  w64 : ∀ x, x ∈ ws → x.bytes.length = 64
theorem Dr.grow {w w' : World} {p : Nat} {bl : List (List Nat)} {pa : Option Addr} {pc : Nat} {ws : List DW} {k : Value} (h : Dr w p bl pa pc ws k) (hb : Below w.heap.size w w') : Dr w' p bl pa pc ws k :=
  ⟨h.d.grow hb, (Kept.of_below hb (fun _ => False)).owns h.own (fun _ _ e => e), h.w64⟩

set_option maxRecDepth 100000 in
theorem takeK_any (x : DW) (a : Option Addr) (cap p : Nat) (bl : List (List Nat)) (pa : Option Addr) (pc : Nat) (ws : List DW) (k : Value) (w : World) (hx : x.bytes.length = 64) (hw : ws.length ≤ 200) (ha : BytesAt w a x.bytes) (hfar : ∀ b off, a = some ⟨b, off, none⟩ → b < p) (h : Dr w p bl pa pc ws k) :
    Calls Tryz.prog 94 #[.pointer (some ⟨p, 0, none⟩), x.val a cap] w fun e w' => e = .returned (.tuple #[]) ∧ ∃ pa' pc', Dr w' p bl pa' pc' (ws ++ [x]) k ∧ Kept (fun z => z = p ∨ (Value.slice pa ws.length pc).ownBlock = some z) w w' := by
  obtain ⟨i0, hi, hz0, hz1, hz2⟩ := info_parts info_pending
  obtain ⟨b, off, rfl, _⟩ := ha 0 (by omega)
  have hAt := run_arrayAt
  have hR := range_bytes ha
  have hA' := gal (gre w) (.cells #[.int .i64 x.block, .slice (some ⟨b, off, none⟩) 64 cap] 125)
  have hD := h.grow hA'
  have hRA := World.rangeAt_alloc hR (.cells #[.int .i64 x.block, .slice (some ⟨b, off, none⟩) 64 cap] 125)
  have q0 : (w.alloc (.cells #[.int .i64 x.block, .slice (some ⟨b, off, none⟩) 64 cap] 125)).cell? ⟨w.heap.size, 0, none⟩ = some (.int .i64 x.block) := by simp
  have q1 : (w.alloc (.cells #[.int .i64 x.block, .slice (some ⟨b, off, none⟩) 64 cap] 125)).cell? ⟨w.heap.size, 1, none⟩ = some (.slice (some ⟨b, off, none⟩) 64 cap) := by simp
  have hsz : (w.alloc (.cells #[.int .i64 x.block, .slice (some ⟨b, off, none⟩) 64 cap] 125)).heap.size = w.heap.size + 1 := by simp
  have hp := h.d.lt
  go_enter Tryz.func94, Tryz.ntmps94
  go_wp2
  generalize w.alloc (.cells #[.int .i64 x.block, .slice (some ⟨b, off, none⟩) 64 cap] 125) = wA at hA' hD hRA q0 q1 hsz ⊢
  generalize hq : w.heap.size = q at q0 q1 hsz hp ⊢
  have hSk : ∀ (u u' : World), Below u.heap.size u u' → (u.cell? ⟨p, 8320, none⟩ = some (.slice pa ws.length pc) ∧ u.cell? ⟨q, 0, none⟩ = some (.int .i64 x.block) ∧ u.cell? ⟨q, 1, none⟩ = some (.slice (some ⟨b, off, none⟩) 64 cap) ∧ u.rangeAt b off (bcells x.bytes)) → (u'.cell? ⟨p, 8320, none⟩ = some (.slice pa ws.length pc) ∧ u'.cell? ⟨q, 0, none⟩ = some (.int .i64 x.block) ∧ u'.cell? ⟨q, 1, none⟩ = some (.slice (some ⟨b, off, none⟩) 64 cap) ∧ u'.rangeAt b off (bcells x.bytes)) := fun u u' hb h => ⟨cell_later hb h.1, cell_later hb h.2.1, cell_later hb h.2.2.1, fun j v hj => cell_later hb (h.2.2.2 j v hj)⟩
  refine wp_regionU (fun u => u.cell? ⟨p, 8320, none⟩ = some (.slice pa ws.length pc) ∧ u.cell? ⟨q, 0, none⟩ = some (.int .i64 x.block) ∧ u.cell? ⟨q, 1, none⟩ = some (.slice (some ⟨b, off, none⟩) 64 cap) ∧ u.rangeAt b off (bcells x.bytes)) 16 (by kernel_rfl) ⟨hD.d.ws, q0, q1, hRA⟩ (fun hS0 => ?_)
  refine anyU_take (i := 0) (v := ?_) rfl (by kernel_rfl) (by kernel_rfl) (by kernel_rfl) (by kernel_rfl) (fun _ _ _ h => h) (Or.inl ⟨by rfl, ?_⟩) hS0 ?_
  rotate_left
  · intro u hSu; obtain ⟨s0, s1, s2, s3⟩ := hSu; go_simp <;> with_reducible rfl
  simp only [Act.put, List.getElem_toArray, List.getElem_cons_zero, List.setIfInBounds_toArray, List.set_cons_zero, List.set_cons_succ]
  refine anyU_take (i := 1) (v := ?_) rfl (by kernel_rfl) (by kernel_rfl) (by kernel_rfl) (by kernel_rfl) (fun _ _ _ h => h) (Or.inl ⟨by rfl, ?_⟩) hS0 ?_
  rotate_left
  · intro u hSu; obtain ⟨s0, s1, s2, s3⟩ := hSu; go_simp <;> with_reducible rfl
  simp only [Act.put, List.getElem_toArray, List.getElem_cons_zero, List.getElem_cons_succ, List.setIfInBounds_toArray, List.set_cons_zero, List.set_cons_succ]
  refine anyU_take (i := 2) (v := ?_) rfl (by kernel_rfl) (by kernel_rfl) (by kernel_rfl) (by kernel_rfl) (fun _ _ _ h => h) (Or.inl ⟨by rfl, ?_⟩) hS0 ?_
  rotate_left
  · intro u hSu; obtain ⟨s0, s1, s2, s3⟩ := hSu; go_simp <;> with_reducible rfl
  simp only [Act.put, List.getElem_toArray, List.getElem_cons_zero, List.getElem_cons_succ, List.setIfInBounds_toArray, List.set_cons_zero, List.set_cons_succ]
  refine anyU_take (i := 3) (v := ?_) rfl (by kernel_rfl) (by kernel_rfl) (by kernel_rfl) (by kernel_rfl) (fun _ _ _ h => h) (Or.inl ⟨by rfl, ?_⟩) hS0 ?_
  rotate_left
  · intro u hSu; obtain ⟨s0, s1, s2, s3⟩ := hSu; go_simp <;> with_reducible rfl
  simp only [Act.put, List.getElem_toArray, List.getElem_cons_zero, List.getElem_cons_succ, List.setIfInBounds_toArray, List.set_cons_zero, List.set_cons_succ]
  refine anyU_take (i := 4) (v := ?_) rfl (by kernel_rfl) (by kernel_rfl) (by kernel_rfl) (by kernel_rfl) (fun _ _ _ h => h) (Or.inl ⟨by rfl, ?_⟩) hS0 ?_
  rotate_left
  · intro u hSu; obtain ⟨s0, s1, s2, s3⟩ := hSu; go_simp <;> with_reducible rfl
  simp only [Act.put, List.getElem_toArray, List.getElem_cons_zero, List.getElem_cons_succ, List.setIfInBounds_toArray, List.set_cons_zero, List.set_cons_succ]
  refine anyU_take (i := 5) (v := ?_) rfl (by kernel_rfl) (by kernel_rfl) (by kernel_rfl) (by kernel_rfl) (fun _ _ _ h => h) (Or.inl ⟨by rfl, ?_⟩) hS0 ?_
  rotate_left
  · intro u hSu; obtain ⟨s0, s1, s2, s3⟩ := hSu; go_simp <;> with_reducible rfl
  simp only [Act.put, List.getElem_toArray, List.getElem_cons_zero, List.getElem_cons_succ, List.setIfInBounds_toArray, List.set_cons_zero, List.set_cons_succ]
  refine anyU_take (i := 6) (v := ?_) rfl (by kernel_rfl) (by kernel_rfl) (by kernel_rfl) (by kernel_rfl) (fun _ _ _ h => h) (Or.inl ⟨by rfl, ?_⟩) hS0 ?_
  rotate_left
  · intro u hSu; obtain ⟨s0, s1, s2, s3⟩ := hSu; go_simp <;> with_reducible rfl
  simp only [Act.put, List.getElem_toArray, List.getElem_cons_zero, List.getElem_cons_succ, List.setIfInBounds_toArray, List.set_cons_zero, List.set_cons_succ]
  refine anyU_take (i := 7) (v := ?_) rfl (by kernel_rfl) (by kernel_rfl) (by kernel_rfl) (by kernel_rfl) (fun _ _ _ h => h) (Or.inl ⟨by rfl, ?_⟩) hS0 ?_
  rotate_left
  · intro u hSu; obtain ⟨s0, s1, s2, s3⟩ := hSu; go_simp <;> with_reducible rfl
  simp only [Act.put, List.getElem_toArray, List.getElem_cons_zero, List.getElem_cons_succ, List.setIfInBounds_toArray, List.set_cons_zero, List.set_cons_succ]
  refine anyU_take (i := 8) (v := ?_) rfl (by kernel_rfl) (by kernel_rfl) (by kernel_rfl) (by kernel_rfl) (fun _ _ _ h => h) (Or.inl ⟨by rfl, ?_⟩) hS0 ?_
  rotate_left
  · intro u hSu; obtain ⟨s0, s1, s2, s3⟩ := hSu; go_simp <;> with_reducible rfl
  simp only [Act.put, List.getElem_toArray, List.getElem_cons_zero, List.getElem_cons_succ, List.setIfInBounds_toArray, List.set_cons_zero, List.set_cons_succ]
  refine anyU_take (i := 9) (v := ?_) rfl (by kernel_rfl) (by kernel_rfl) (by kernel_rfl) (by kernel_rfl) (fun _ _ _ h => h) (Or.inl ⟨by rfl, ?_⟩) hS0 ?_
  rotate_left
  · intro u hSu; obtain ⟨s0, s1, s2, s3⟩ := hSu; go_simp <;> with_reducible rfl
  simp only [Act.put, List.getElem_toArray, List.getElem_cons_zero, List.getElem_cons_succ, List.setIfInBounds_toArray, List.set_cons_zero, List.set_cons_succ]
  refine anyU_take (i := 10) rfl (by kernel_rfl) (by kernel_rfl) (by kernel_rfl) (by kernel_rfl) (fun _ _ _ h => h) (yieldsIf_load_mid (by rfl) 106 (.tmp 13) rfl b off (by rfl) (bcells x.bytes) _ (fun _ hS => hS.2.2.2) Tryz.underlying106 rfl (by rw [size_content, bcells_length, hx])) hS0 ?_
  simp only [Act.put, List.getElem_toArray, List.getElem_cons_zero, List.getElem_cons_succ, List.setIfInBounds_toArray, List.set_cons_zero, List.set_cons_succ]
  refine anyU_take (i := 11) rfl (by kernel_rfl) (by kernel_rfl) (by kernel_rfl) (by kernel_rfl) (fun _ _ _ h => h) (yieldsIf_build (by rfl) 160 _ rfl x.pc.toArray (by simp only [List.map_toArray, List.map_cons, List.map_nil]; exact pend_built x hx)) hS0 ?_
  simp only [Act.put, List.getElem_toArray, List.getElem_cons_zero, List.getElem_cons_succ, List.setIfInBounds_toArray, List.set_cons_zero, List.set_cons_succ]
  refine anyU_one (i := 12) (by kernel_rfl) rfl (fun K hK => ?_)
  rw [if_pos (by rfl)]
  refine wp_buildSlice 108 160 1 _ rfl x.pc.toArray i0 _ Tryz.underlying108 hi hz0 (by rw [hz1]; omega) (by rw [hz1]; omega) (by rw [hz1]; simp only [List.map_toArray, List.map_cons, List.map_nil]; exact fill_whole x.pc.toArray _ _ 65 rfl (by simpa using pc_length hx) (by simp)) ?_
  have hB := gal (gre wA.drew) (.cells x.pc.toArray 160)
  have hD1 := hD.grow (gca (gdr (gre wA)) hB)
  have hS1 := hSk _ _ hB hS0
  have hnew := range_new wA.drew x.pc 160
  have hsz2 : (wA.drew.alloc (.cells x.pc.toArray 160)).heap.size = q + 2 := by simp [hsz]
  have hBA := gca hA' (gca (gdr (gre wA)) hB)
  refine hK.out _ _ hS1 ?_
  clear hK
  simp only [Act.put, List.getElem_toArray, List.getElem_cons_zero, List.getElem_cons_succ, List.setIfInBounds_toArray, List.set_cons_zero, List.set_cons_succ]
  have hq1 : wA.drew.heap.size = q + 1 := hsz
  rw [hq1] at hnew ⊢
  generalize wA.drew.alloc (.cells x.pc.toArray 160) = wB at hB hD1 hS1 hnew hsz2 hBA ⊢
  refine anyU_one (i := 13) (by kernel_rfl) rfl (fun K hK => ?_)
  refine step_append_lies _ (by rfl) (.tmp 8) (.tmp 16) 108 rfl (p + 1) 160 i0 _ 65 72 Tryz.underlying108 hi hz0 hz1 hz2 rfl (by decide) (.slice pa ws.length pc) ws.length (pCells ws) (by rfl) hD1.own ⟨q + 1, 0, none⟩ 1 1 x.pc (by rfl) (by rw [pc_length hx]) (fun j u hj => by rw [Addr.add_mid]; exact hnew j u hj) pc_one (by decide) (by unfold maxLen; omega) (by omega) (by omega) (q + 2) hsz2 ?_
  intro gg cc w3 hown3 hgrow3 hat3 hlt3
  have hK3 := Kept.of_grown hgrow3
  have hnb : ∀ z, (Value.slice pa ws.length pc).ownBlock = some z → p + 1 ≤ z ∧ z < q := fun z hz => by have := h.own.lt z hz; omega
  have hD3 := hD1.d.kept hK3 (fun e => by have := hnb _ e; omega)
  have hbp := hfar b off rfl
  have hS3 : w3.cell? ⟨p, 8320, none⟩ = some (.slice pa ws.length pc) ∧ w3.cell? ⟨q, 0, none⟩ = some (.int .i64 x.block) ∧ w3.cell? ⟨q, 1, none⟩ = some (.slice (some ⟨b, off, none⟩) 64 cap) ∧ w3.rangeAt b off (bcells x.bytes) := ⟨hD3.ws, hK3.cell hS1.2.1 (fun e => by have := hnb _ e; omega), hK3.cell hS1.2.2.1 (fun e => by have := hnb _ e; omega), fun j v hj => hK3.cell (hS1.2.2.2 j v hj) (fun e => by have := hnb _ e; omega)⟩
  refine hK.out _ _ hS3 ?_
  clear hK
  simp only [Act.put, List.getElem_toArray, List.getElem_cons_zero, List.getElem_cons_succ, List.setIfInBounds_toArray, List.set_cons_zero, List.set_cons_succ]
  refine anyU_one (i := 14) (by kernel_rfl) rfl (fun K hK => ?_)
  go_simp
  refine hK.out _ _ hS3 ?_
  clear hK
  refine anyU_one (i := 15) (by kernel_rfl) rfl (fun K hK => ?_)
  go_simp
  refine hK.out _ _ hS3 ?_
  clear hK
  have fz := hD3.frozen (o := 8320) (by decide)
  have c8 := hD3.ws
  refine anyU_last (by kernel_rfl) rfl (by kernel_rfl) (fun K hK => ?_)
  go_simp
  refine hK.out _ _ ?_
  clear hK
  have hown3' : w3.ownsRow (p + 1) 160 65 (.slice (some ⟨gg, 0, none⟩) (ws ++ [x]).length cc) (ws ++ [x]).length (pCells (ws ++ [x])) := by rw [pCells_snoc, List.length_append]; exact hown3
  have hK4 := (Kept.refl (fun z => z = p) w3).set (a := ⟨p, 8320, none⟩) (fun _ => rfl) (.slice (some ⟨gg, 0, none⟩) (ws.length + 1) cc)
  first | go_end0 | refine bodyPost_ret (results_none rfl _ _ _) rfl ?_
  refine ⟨rfl, some ⟨gg, 0, none⟩, cc, ⟨by rw [List.length_append]; exact hD3.setW _, hK4.owns hown3' (fun z hz e => by have := (hown3'.lt z hz).1; omega), fun y hy => ?_⟩, ?_⟩
  · rcases List.mem_append.1 hy with hy | hy
    · exact h.w64 y hy
    · obtain rfl : y = x := by simpa using hy
      exact hx
  · exact ((Kept.of_below hBA (fun z => z = p ∨ (Value.slice pa ws.length pc).ownBlock = some z)).trans hK3 (fun z _ hz => Or.inr hz)).trans hK4 (fun z _ hz => Or.inl hz)

theorem take_any (x : DW) (a : Option Addr) (cap p : Nat) (bl : List (List Nat)) (pa : Option Addr) (pc : Nat) (ws : List DW) (k : Value) (w : World) (hx : x.bytes.length = 64) (hw : ws.length ≤ 200) (ha : BytesAt w a x.bytes) (hfar : ∀ b off, a = some ⟨b, off, none⟩ → b < p) (h : Dr w p bl pa pc ws k) :
    Calls Tryz.prog 94 #[.pointer (some ⟨p, 0, none⟩), x.val a cap] w fun e w' => e = .returned (.tuple #[]) ∧ ∃ pa' pc', Dr w' p bl pa' pc' (ws ++ [x]) k ∧ Kept (fun b => p ≤ b) w w' :=
  (takeK_any x a cap p bl pa pc ws k w hx hw ha hfar h).mono fun _ _ ⟨he, pa', pc', hD, hK⟩ => ⟨he, pa', pc', hD, hK.mono (fun z _ e => by
    rcases e with e | e
    · omega
    · have := (h.own.lt z e).1; omega)⟩

end Go.Proofs.YtmdpmdmilgbfiaaGreatDoor

/-
  DRVD: a disk becomes a drive. Own work.
-/
namespace Go.Proofs.YtmdpmdmilgbfiaaGreatDoor
open Go.RowKit

abbrev driveZ : List Value := zeros 8320 ++ [Value.slice none 0 0, Value.nilFunc]
theorem zeros_get {n i : Nat} (h : i < n) : (zeros n)[i]? = some (.int .u8 0) := by simp [zeros, h]
theorem rep_get {n i : Nat} (x : List Nat) (h : i < n) : (List.replicate n x)[i]! = x := by
  rw [getElem!_pos _ i (by simpa using h)]; simp
theorem Drv.new (w : World) : Drv (w.alloc (.cells driveZ.toArray 110)) w.heap.size blankD.blocks (.slice none 0 0) .nilFunc := by
  have hz : (zeros 8320).length = 8320 := List.length_replicate
  have hr := range_new w driveZ 110
  have ht := there_new w driveZ 110
  have hlen : driveZ.length = 8322 := by rw [List.length_append, hz]; rfl
  refine ⟨by simp, by simp [blankD], fun i hi => by rw [blankD, rep_get _ hi]; simp, fun i hi => ?_, by rw [hlen] at ht; exact ht, ?_, ?_⟩
  · rw [blankD, rep_get _ hi]
    intro j v hj
    have hj64 : j < 64 := by have := (List.getElem?_eq_some_iff.1 hj).1; simpa [bcells] using this
    have := hr (i * 64 + j) (.int .u8 0) (by rw [List.getElem?_append_left (by omega)]; exact zeros_get (by omega))
    rw [Nat.zero_add] at this
    rw [this]
    simp only [bcells, List.map_replicate, List.getElem?_replicate, hj64, if_true] at hj
    simpa using hj
  · have := hr 8320 _ (by rw [List.getElem?_append_right (by omega), hz]; rfl)
    rwa [Nat.zero_add] at this
  · have := hr 8321 _ (by rw [List.getElem?_append_right (by omega), hz]; rfl)
    rwa [Nat.zero_add] at this

theorem owns_none (w : World) (base t size : Nat) : w.ownsRow base t size (.slice none 0 0) 0 [] := ⟨by simp, Or.inl ⟨rfl, rfl⟩⟩

theorem Kept.range {p : Nat → Prop} {w w' : World} {b o : Nat} {cs : List Value} (k : Kept p w w') (h : w.rangeAt b o cs) (hn : ¬ p b) : w'.rangeAt b o cs := fun j v hj => k.cell (h j v hj) hn

theorem range_grow {w w' : World} {b o : Nat} {cs : List Value} (h : w.rangeAt b o cs) (hb : Below w.heap.size w w') : w'.rangeAt b o cs := fun j v hj => cell_later hb (h j v hj)

set_option maxRecDepth 100000 in
theorem driveOf_any (d : DD) (l : DL) (w : World) (hd : d.Fit) (ha : DAt w l d) :
    Calls Tryz.prog 54 #[d.val l] w fun e w' => ∃ p pa pc, e = .returned (.pointer (some ⟨p, 0, none⟩)) ∧ w.heap.size ≤ p ∧ Dr w' p d.blocks pa pc d.waiting .nilFunc ∧ Below w.heap.size w w' := by
  obtain ⟨Z, hZ⟩ := hid_ex driveZ.toArray
  have hz : ∀ u, (zeroValue 110).run Tryz.prog u = .ok (.agg Z) u := by rw [hZ.out]; exact (zero_of_info zero_drive).1
  have hAt := run_arrayAt
  have hA := gal (gre w) (.cells #[.slice l.ba d.blocks.length l.bc, .slice l.wa d.waiting.length l.wc] 46)
  have hX := DBox.new w d l 46
  have hsz : (w.alloc (.cells #[.slice l.ba d.blocks.length l.bc, .slice l.wa d.waiting.length l.wc] 46)).heap.size = w.heap.size + 1 := by simp
  go_enter Tryz.func54, Tryz.ntmps54
  go_upto_region 2 with (refine wpList_alloc_big rfl 110 rfl Z hz ?_)
  have hN0 := Drv.new (w.alloc (.cells #[.slice l.ba d.blocks.length l.bc, .slice l.wa d.waiting.length l.wc] 46))
  rw [← hZ.out, hsz] at hN0
  have hA2 := gal hA (.cells Z 110)
  have hX2 := hX.grow (gal (gre _) (.cells Z 110))
  have hD0 : Dr _ (w.heap.size + 1) blankD.blocks none 0 [] .nilFunc := ⟨hN0, owns_none _ _ _ _, fun x hx => by cases hx⟩
  generalize (w.alloc (.cells #[.slice l.ba d.blocks.length l.bc, .slice l.wa d.waiting.length l.wc] 46)).alloc (.cells Z 110) = wA at hN0 hA2 hX2 hD0 ⊢
  clear hN0 hA hX hsz hz hZ
  obtain ⟨x, x0, x1⟩ := id hX2
  have hp : Hid (w.heap.size ≤ w.heap.size + 1) := Nat.le_succ _
  obtain ⟨p, hpe⟩ := hid_ex (w.heap.size + 1)
  rw [← hpe.out] at hD0 ⊢
  have hbl : Hid _ := hd.bl
  go_wp2
  go_loopw [12] (fun i wr => ∃ (k : Nat) (bl : List (List Nat)), k ≤ d.blocks.length ∧ i = .int .i64 k ∧ Dr wr p bl none 0 [] .nilFunc ∧ (∀ j, j < k → bl[j]! = d.blocks[j]!) ∧ Kept (fun b => b = p) wA wr) (fun i _ => d.blocks.length - (intOf i).toNat)
  case atStart => exact ⟨0, _, Nat.zero_le _, rfl, hD0, fun j hj => absurd hj (Nat.not_lt_zero _), Kept.refl _ _⟩
  case round =>
    obtain ⟨k, bl, hk, rfl, hD, hin, hK⟩ := hrel
    have hKb : Below w.heap.size wA wr := hK.below (by have := hX2.lt; omega) (fun z hz e => by have := hpe.out; omega)
    by_cases hlt : k < d.blocks.length
    · obtain ⟨n, b, off, av, cv, hvk, hvm, hba, c0, hva⟩ := ha.b.get hlt
      rw [hba]
      have hn64 := hd.bb n hvm
      obtain ⟨sb, so, rfl, hs0⟩ := hva 0 (by omega)
      have hsb : sb < p := by have := World.block_lt_of_cell? _ _ hs0; have := hpe.out; simp at *; omega
      have hB := hA2.trans hKb
      have hR : wr.rangeAt sb so (bcells n) := range_grow (range_bytes hva) hB
      have c0 := cell_later hB c0
      rw [hn64] at c0
      have hth := there_part hD.d.th (Nat.zero_le (k * 64)) (n' := 64) (by have := hbl.out; omega)
      have hlen : (bcells n).length = 64 := by rw [bcells_length, hn64]
      have hone := cells_u8 (bs := n)
      have hu := Tryz.underlying106
      have hi : (Tryz.prog.info? 106).map (·.size) = some (bcells n).length := by rw [size_content, hlen]
      have i0 : (0 : Int) ≤ (k : Int) := by omega
      have i1 : (k : Int) < (d.blocks.length : Int) := by omega
      have i2 : (k : Int) < 130 := by have := hbl.out; omega
      have hn64' : Hid _ := hn64
      clear hn64 hva hs0
      go_wp2
      go_region_held (fun w' => w'.rangeAt sb so (bcells n) ∧ w'.there p (k * 64) 64) (go_keep_ranges) (fail)
      go_wp2
      have hD2 := (hD.d.grow (gdr (gre wr))).setB (x := ⟨(k : Int), n⟩) (by show (0 : Int) ≤ (k : Int); omega) (by show (k : Int) < 130; omega) hn64'.out
      go_roundw
      case rel =>
        refine ⟨k + 1, setB bl ⟨(k : Int), n⟩, by omega, by go_num, ⟨hD2, owns_none _ _ _ _, fun x hx => by cases hx⟩, fun j hj => ?_, ?_⟩
        · rw [setB_get (by have := hD.d.len; have := hbl.out; omega)]
          show (if j = (k : Int).toNat then n else bl[j]!) = _
          rw [Int.toNat_natCast]
          split
          · rename_i e; rw [e, hvk.out]
          · exact hin j (by omega)
        · exact Kept.setCells _ _ hK.drew (fun _ => rfl)
      case measure => simp [intOf]; omega
    · obtain rfl : k = d.blocks.length := by omega
      have hble : bl = d.blocks := by
        have h1 := hD.d.len
        have h2 := hbl.out
        apply List.ext_getElem (by omega)
        intro i hi1 hi2
        have := hin i hi2
        rwa [getElem!_pos bl i hi1, getElem!_pos d.blocks i hi2] at this
      subst hble
      have hX3 := hX2.kept hK (fun e => by have := hpe.out; omega)
      have y0 := hX3.c0
      have y1 := hX3.c1
      have hB := hA2.trans hKb
      rename World => wB
      clear hK hKb hin hX2 x x0 x1 hD0 hX3
      go_wp2
      go_loopw [29] (fun i wr => ∃ (k : Nat) (pa : Option Addr) (pc : Nat), k ≤ d.waiting.length ∧ i = .int .i64 k ∧ Dr wr p d.blocks pa pc (d.waiting.take k) .nilFunc ∧ Below w.heap.size w wr) (fun i _ => d.waiting.length - (intOf i).toNat)
      case atStart => exact ⟨0, none, 0, Nat.zero_le _, rfl, hD, hB⟩
      case round =>
        obtain ⟨k, pa, pc, hk2, rfl, hD2, hB2⟩ := hrel
        by_cases hlt2 : k < d.waiting.length
        · obtain ⟨n, b, off, av, cv, hvk, hvm, hba, c0, c1, hva⟩ := ha.w.get hlt2
          rw [hba]
          have i0 : (0 : Int) ≤ (k : Int) := by omega
          have i1 : (k : Int) < (d.waiting.length : Int) := by omega
          have hn64 : Hid _ := (hd.wb n hvm).2.2
          have hwl := hd.wl
          have hfar : ∀ b off, av = some ⟨b, off, none⟩ → b < p := fun b off e => by
            subst e
            obtain ⟨b', off', e', hc'⟩ := hva 0 (by have := hn64.out; omega)
            have h1 := World.block_lt_of_cell? _ _ hc'
            have h2 := congrArg (fun q => q.map Addr.block) e'
            simp at h1 h2
            have := hpe.out
            omega
          have c0 := cell_later hB2 c0
          have c1 := cell_later hB2 c1
          have hva2 := hva.grow hB2
          have hDA := hD2.grow (gal (gre wr) (.cells #[.int .i64 n.block, .slice av n.bytes.length cv] 125))
          have hvA := hva2.grow (gal (gre wr) (.cells #[.int .i64 n.block, .slice av n.bytes.length cv] 125))
          have hwl2 : (d.waiting.take k).length ≤ 200 := by rw [List.length_take]; omega
          go_wp2_with (go_at_call 94; refine (take_any n av cv p d.blocks pa pc (d.waiting.take k) .nilFunc _ hn64.out hwl2 hvA hfar hDA).mono ?_; rintro e w2 ⟨rfl, pa2, pc2, hD3, hK3⟩)
          go_roundw
          case rel => exact ⟨k + 1, pa2, pc2, by omega, by go_num, by rw [take_snoc _ _ hlt2, ← hvk.out]; exact hD3, (gal hB2 _).trans (hK3.below (by have := hB2.size; simp; omega) (fun z hz e => by have := hpe.out; omega))⟩
          case measure => simp [intOf]; omega
        · obtain rfl : k = d.waiting.length := by omega
          rw [List.take_length] at hD2
          go_wp2
          go_ret
          exact ⟨p, pa, pc, rfl, by have := hpe.out; omega, hD2, hB2⟩

end Go.Proofs.YtmdpmdmilgbfiaaGreatDoor

/-
  CLONEB: the library's copy of bytes. Own work.
-/
namespace Go.Proofs.YtmdpmdmilgbfiaaGreatDoor
open Go.RowKit

theorem brow_owns {w : World} {base n cap G : Nat} {bs : List Nat} (h : w.ownsRow base 5 1 (.slice (some ⟨G, 0, none⟩) n cap) n (bcells bs)) (hn : bs.length = n) (h0 : 0 < n) : BRow w G cap bs ∧ base ≤ G := by
  rcases h.2 with ⟨_, e⟩ | ⟨g, cap', cur, hv, hb, hg, h1, h2, h3, h4⟩
  · omega
  · simp only [Value.slice.injEq] at hv
    obtain ⟨e1, _, rfl⟩ := hv
    have e2 := some_addr e1
    subst e2
    refine ⟨⟨cur, hg, by simpa using h3, by omega, fun i hi => ?_⟩, hb⟩
    have hc := h.cells (g := G) rfl i _ (bcells_get hi)
    rw [show ((⟨G, 0, none⟩ : Addr).add i) = ⟨G, i, none⟩ by unfold Addr.add; split <;> simp_all] at hc
    simpa [World.cell?, hg] using hc

set_option maxHeartbeats 2000000 in
set_option maxRecDepth 100000 in
theorem bytesClone_any (b off c : Nat) (bs : List Nat) (w : World) (h0 : 0 < bs.length) (hl : bs.length ≤ 1048576) (ha : BytesAt w (some ⟨b, off, none⟩) bs) :
    Calls Tryz.prog 95 #[.slice (some ⟨b, off, none⟩) bs.length c] w fun e w' => ∃ G cap, e = .returned (.slice (some ⟨G, 0, none⟩) bs.length cap) ∧ w.heap.size ≤ G ∧ BRow w' G cap bs ∧ Below w.heap.size w w' := by
  obtain ⟨i0, hi, hz0, hz1, hz2⟩ := info_parts info_u8
  have q22 : ∀ (w : World) (a : Option Addr) (n c n' c' : Nat), (binOp .eql 22 (.slice a n c) (.slice none n' c')).run Tryz.prog w = .ok (.bool a.isNone) w := fun w a n c n' c' => Lib.run_eql_slice_nil w _ _ a n c n' c' Tryz.underlying22
  have A : Hid (∀ j u, (bcells bs)[j]? = some u → w.cell? ((⟨b, off, none⟩ : Addr).add j) = some u) := fun j u hj => by
    have hjl : j < bs.length := by have := (List.getElem?_eq_some_iff.1 hj).1; rwa [bcells_length] at this
    obtain ⟨b', off', e, hc⟩ := ha j hjl
    have e' : b' = b ∧ off' = off := by
      have := Option.some.inj e
      exact ⟨(congrArg Addr.block this).symm, (congrArg Addr.off this).symm⟩
    obtain ⟨rfl, rfl⟩ := e'
    rw [show ((⟨b', off', none⟩ : Addr).add j) = ⟨b', off' + j, none⟩ by unfold Addr.add; split <;> simp_all, hc, ← bcells_get hjl, hj]
  clear ha
  go_enter Tryz.func95, Tryz.ntmps95
  go_wp2_with (at_builtin; refine wpList_append_own _ rfl _ _ 22 rfl w.heap.size 5 i0 (.int .u8 0) 1 1 Tryz.underlying22 hi hz0 hz1 hz2 rfl (by decide) _ _ _ rfl (World.ownsRow_made w #[] 0 (Nat.le_refl _) (Nat.zero_le _) rfl) ⟨b, off, none⟩ bs.length c (bcells bs) rfl ?qc1 ?qc2 ?qc3 ?qc4 ?qc5 ?qc6 ?_)
  case qc1 => rw [bcells_length, Nat.mul_one]
  case qc2 => exact fun j u hj => Lib.cell?_alloc_some _ (A.out j u hj)
  case qc3 => intro u hu; obtain ⟨x, _, rfl⟩ := List.mem_map.1 hu; rfl
  case qc4 => unfold maxLen; omega
  case qc5 => omega
  case qc6 => simp
  intro v' w1 hown hgrow hnil
  go_wp2
  go_ret
  have hown' : w1.ownsRow w.heap.size 5 1 v' bs.length (bcells bs) := by simpa using hown
  obtain ⟨G, cap, rfl, hG, _⟩ := hown'.form h0
  have hB := brow_owns hown' rfl h0
  exact ⟨G, cap, rfl, hB.2, hB.1, ((Below.refl _ w).alloc (Nat.le_refl _) _).grown hgrow (by simp) (by intro k hk; simp [Value.ownBlock] at hk; omega)⟩

end Go.Proofs.YtmdpmdmilgbfiaaGreatDoor

/-
  DRVE: what a drive's disk is made of. Own work.
-/
namespace Go.Proofs.YtmdpmdmilgbfiaaGreatDoor
open Go.RowKit

/-- all blocks' cells -/
def blCells (bl : List (List Nat)) : List Value := bl.flatMap bcells
theorem blCells_get : ∀ (bl : List (List Nat)) (i j : Nat), (∀ x, x ∈ bl → x.length = 64) → i < bl.length → j < 64 → (blCells bl)[i * 64 + j]? = (bcells bl[i]!)[j]?
  | [], _, _, _, hi, _ => absurd hi (Nat.not_lt_zero _)
  | x :: r, 0, j, hw, _, hj => by
    have : (bcells x).length = 64 := by rw [bcells_length]; exact hw x (List.mem_cons_self ..)
    rw [blCells, List.flatMap_cons, Nat.zero_mul, Nat.zero_add, List.getElem?_append_left (by omega)]
    rfl
  | x :: r, i + 1, j, hw, hi, hj => by
    have hx : (bcells x).length = 64 := by rw [bcells_length]; exact hw x (List.mem_cons_self ..)
    have hlt : i < r.length := by simpa using hi
    have ih := blCells_get r i j (fun y hy => hw y (List.mem_cons_of_mem _ hy)) hlt hj
    rw [blCells, List.flatMap_cons, List.getElem?_append_right (by rw [hx, Nat.add_mul]; omega), hx, show (i + 1) * 64 + j - 64 = i * 64 + j by rw [Nat.add_mul]; omega]
    rw [blCells] at ih
    rw [ih, getElem!_pos r i hlt, getElem!_pos (x :: r) (i + 1) hi]
    rfl
theorem blCells_length : ∀ (bl : List (List Nat)), (∀ x, x ∈ bl → x.length = 64) → (blCells bl).length = bl.length * 64
  | [], _ => rfl
  | x :: r, hw => by
    have hx : (bcells x).length = 64 := by rw [bcells_length]; exact hw x (List.mem_cons_self ..)
    have ih := blCells_length r (fun y hy => hw y (List.mem_cons_of_mem _ hy))
    rw [blCells] at ih
    rw [blCells, List.flatMap_cons, List.length_append, hx, ih, List.length_cons]
    omega
theorem Drv.all64 {w : World} {p : Nat} {bl : List (List Nat)} {s k : Value} (h : Drv w p bl s k) : ∀ x, x ∈ bl → x.length = 64 := fun x hx => by
  obtain ⟨i, hi, e⟩ := List.getElem_of_mem hx
  have := h.bb i (by have := h.len; omega)
  rwa [getElem!_pos bl i hi, e] at this
theorem Drv.whole {w : World} {p : Nat} {bl : List (List Nat)} {s k : Value} (h : Drv w p bl s k) : w.rangeAt p 0 (blCells bl) := fun m v hm => by
  have hlen := blCells_length bl h.all64
  have hb := h.len
  have hm1 : m < 8320 := by have := (List.getElem?_eq_some_iff.1 hm).1; omega
  have e : m / 64 * 64 + m % 64 = m := by omega
  have hg := blCells_get bl (m / 64) (m % 64) h.all64 (by omega) (by omega)
  rw [e, hm] at hg
  have := h.rng (m / 64) (by omega) (m % 64) v hg.symm
  rw [Nat.zero_add, ← this, e]
theorem blCells_part (bl : List (List Nat)) (hw : ∀ x, x ∈ bl → x.length = 64) (k : Nat) (hk : k < bl.length) : (blCells bl).toArray.extract (k * 64) (k * 64 + 64) = (bcells bl[k]!).toArray := by
  have hlen := blCells_length bl hw
  have hb : (bcells bl[k]!).length = 64 := by rw [bcells_length]; exact hw _ (mem_at hk)
  apply Array.ext_getElem?
  intro j
  by_cases hj : j < 64
  · rw [Array.getElem?_extract, if_pos (by simp only [List.size_toArray, hlen]; omega), List.getElem?_toArray, List.getElem?_toArray, blCells_get bl k j hw hk hj]
  · rw [Array.getElem?_eq_none (by simp only [Array.size_extract, List.size_toArray, hlen]; omega), Array.getElem?_eq_none (by simp only [List.size_toArray, hb]; omega)]

set_option maxRecDepth 100000 in
theorem run_index_contents (u : World) (cs : List Value) (k : Nat) (hk : k < 130) : (Instr.index 107 (.agg cs.toArray) (.int .i64 k)).run Tryz.prog u = .ok (.agg (cs.toArray.extract (k * 64) (k * 64 + 64))) u := by
  have h1 : (isAgg 106).run Tryz.prog u = .ok true u := by
    unfold isAgg
    rw [Sem.run_bind, run_underlying Tryz.underlying106]
    rfl
  have h2 : (sizeOf 106).run Tryz.prog u = .ok 64 u := by
    have := size_content
    cases hq : Tryz.prog.info? 106 with
    | none => simp [hq] at this
    | some i => simp [hq] at this; simp [sizeOf, typeInfo, hq, this]
  have h3 : 0 ≤ (k : Int) ∧ (k : Int) < (130 : Nat) := by omega
  simp only [Instr.index, asIntOf, Sem.run_bind, Sem.run_pure, Result.andThen_ok, run_underlying Tryz.underlying107, if_pos h3, h2, part, h1, if_true, Int.toNat_natCast]

theorem wpList_index_contents {ops : Array Oper} {rest : List Oper} {op : Oper} {a : Act} {w : World} {Q : Exit → Act → World → Prop} (hgd : op.guard = none) (x y : Operand) (ho : op.op = .index 107 x y) (bl : List (List Nat)) (k : Nat) (hx : a.eval x = .agg (blCells bl).toArray) (hy : a.eval y = .int .i64 k) (hk : k < 130) (hbl : bl.length = 130) (hw : ∀ x, x ∈ bl → x.length = 64)
    (h : wpList Tryz.prog ops Q rest (a.put op.dst (.agg (bcells bl[k]!).toArray)) w) : wpList Tryz.prog ops Q (op :: rest) a w :=
  wpList_plain hgd fun K hK => by
    unfold Oper.wp execOp
    simp only [ho, hx, hy, Sem.run_bind, run_index_contents w _ k hk, Result.andThen_ok]
    rw [blCells_part bl hw k (by omega)]
    exact hK _ _ h

set_option maxRecDepth 100000 in
theorem run_slice_content (u : World) (b o : Nat) : (Instr.sliceAt 106 (.pointer (some ⟨b, o, none⟩)) none none none).run Tryz.prog u = .ok (.slice (some ⟨b, o, none⟩) 64 64) u := by
  simp [Instr.sliceAt, run_underlying Tryz.underlying106, Instr.sureAddr, Instr.sliceBounds, go_sem, Addr.add]

/-- where the disk's blocks stand -/
structure DkB (w wr : World) (N V : Nat) (s : Value) (bl : List (List Nat)) (k : Nat) (f : Nat → Value) (bs cs : Nat → Nat) : Prop where
  row : wr.rowIs N 22 130 f
  fs : ∀ i, i < k → f i = .slice (some ⟨bs i, 0, none⟩) 64 (cs i) ∧ BRow wr (bs i) (cs i) bl[i]! ∧ V < bs i ∧ ∀ j, j < i → bs j < bs i
  v0 : wr.cell? ⟨V, 0, none⟩ = some (.slice (some ⟨N, 0, none⟩) 130 130)
  v1 : wr.cell? ⟨V, 1, none⟩ = some s
  vf : ∀ o, wr.frozen? ⟨V, o, none⟩ = false
  bel : Below w.heap.size w wr
  lo : w.heap.size ≤ N
  nv : N < V
theorem DkB.grow {w wr w' : World} {N V : Nat} {s : Value} {bl : List (List Nat)} {k : Nat} {f : Nat → Value} {bs cs : Nat → Nat} (h : DkB w wr N V s bl k f bs cs) (hb : Below wr.heap.size wr w') : DkB w w' N V s bl k f bs cs :=
  ⟨h.row.of_block (hb.block _ h.row.lt), fun i hi => let ⟨h1, h2, h3⟩ := h.fs i hi; ⟨h1, h2.of_block (hb.block _ h2.lt), h3⟩, cell_later hb h.v0, cell_later hb h.v1, fun o => (hb.frozen (p := ⟨V, o, none⟩) (World.block_lt_of_cell? wr ⟨V, 0, none⟩ h.v0)).trans (h.vf o), gca h.bel hb, h.lo, h.nv⟩
theorem DkB.step {w wr : World} {N V : Nat} {s : Value} {bl : List (List Nat)} {k : Nat} {f : Nat → Value} {bs cs : Nat → Nat} (h : DkB w wr N V s bl k f bs cs) {G cap : Nat} (hG : BRow wr G cap bl[k]!) (hV : V < G) (hbs : ∀ j, j < k → bs j < G) :
    DkB w (wr.setCell ⟨N, k, none⟩ (.slice (some ⟨G, 0, none⟩) 64 cap)) N V s bl (k + 1) (fun j => if j = k then .slice (some ⟨G, 0, none⟩) 64 cap else f j) (fun j => if j = k then G else bs j) (fun j => if j = k then cap else cs j) := by
  have hnv := h.nv
  have hlo := h.lo
  refine ⟨h.row.set _ _, fun i hi => ?_, (World.cell?_setCell_other _ _ _ _ (by simp <;> omega)).trans h.v0, (World.cell?_setCell_other _ _ _ _ (by simp <;> omega)).trans h.v1, fun o => by rw [World.frozen?_setCell]; exact h.vf o, gse h.bel hlo _, hlo, hnv⟩
  by_cases e : i = k
  · subst e
    simp only [if_true]
    refine ⟨trivial, hG.of_block (Deep.blk_setCell_other _ _ _ _ (by simp; omega)), hV, fun j hj => ?_⟩
    rw [if_neg (by omega)]; exact hbs j hj
  · obtain ⟨h1, h2, h3, h4⟩ := h.fs i (by omega)
    simp only [if_neg e]
    refine ⟨h1, h2.of_block (Deep.blk_setCell_other _ _ _ _ (by simp; omega)), h3, fun j hj => ?_⟩
    rw [if_neg (by omega)]; exact h4 j hj

end Go.Proofs.YtmdpmdmilgbfiaaGreatDoor

/-
  DRVG: where the disk's writes stand. Own work.
-/
namespace Go.Proofs.YtmdpmdmilgbfiaaGreatDoor
open Go.RowKit

/-- a write, and where its bytes lie -/
structure LW where
  x : DW
  a : Option Addr
  cap : Nat
  deriving Inhabited
def LW.two (y : LW) : List Value := [.int .i64 y.x.block, .slice y.a y.x.bytes.length y.cap]
theorem LW.two_length (y : LW) : y.two.length = 2 := rfl
def wCells (l : List LW) : List Value := l.flatMap LW.two
theorem wCells_snoc (l : List LW) (y : LW) : wCells (l ++ [y]) = wCells l ++ [.int .i64 y.x.block, .slice y.a y.x.bytes.length y.cap] := by simp [wCells, LW.two]
theorem wCells_get : ∀ (l : List LW) (i j : Nat), i < l.length → j < 2 → (wCells l)[i * 2 + j]? = (l[i]!.two)[j]?
  | [], _, _, hi, _ => absurd hi (Nat.not_lt_zero _)
  | x :: r, 0, j, _, hj => by
    rw [wCells, List.flatMap_cons, Nat.zero_mul, Nat.zero_add, List.getElem?_append_left (by rw [LW.two_length]; exact hj)]
    rfl
  | x :: r, i + 1, j, hi, hj => by
    have hlt : i < r.length := by simpa using hi
    have ih := wCells_get r i j hlt hj
    rw [wCells, List.flatMap_cons, List.getElem?_append_right (by rw [LW.two_length, Nat.add_mul]; omega), LW.two_length, show (i + 1) * 2 + j - 2 = i * 2 + j by rw [Nat.add_mul]; omega]
    rw [wCells] at ih
    rw [ih, getElem!_pos r i hlt, getElem!_pos (x :: r) (i + 1) hi]
    rfl

theorem owns_isW {w : World} {base size n cap : Nat} {a : Option Addr} {xs : List Value} (h : w.ownsRow base 125 size (.slice a n cap) n xs) {z : Nat} (hz : (Value.slice a n cap).ownBlock = some z) : IsW w z ∧ base ≤ z := by
  have ha := owns_addr h hz
  rcases h.2 with ⟨e, _⟩ | ⟨g, cap', cur, hv, hb, hg, _⟩
  · simp at e
    rw [e.1] at ha
    cases ha
  · simp only [Value.slice.injEq] at hv
    rw [ha] at hv
    obtain rfl := some_addr hv.1
    exact ⟨⟨cur, hg⟩, hb⟩
theorem owns_row {w : World} {base t size n cap : Nat} {a : Option Addr} {xs : List Value} (h : w.ownsRow base t size (.slice a n cap) n xs) (hn : 0 < n) : ∃ g f, a = some ⟨g, 0, none⟩ ∧ base ≤ g ∧ g < w.heap.size ∧ w.rowIs g t (cap * size) f ∧ n ≤ cap ∧ ∀ i u, xs[i]? = some u → f i = u := by
  have hc0 := h
  rcases h.2 with ⟨_, e⟩ | ⟨g, cap', cur, hv, hb, hg, h1, h2, h3, h4⟩
  · omega
  · simp only [Value.slice.injEq] at hv
    obtain ⟨rfl, _, rfl⟩ := hv
    refine ⟨g, fun i => cur[i]!, rfl, hb, (Array.getElem?_eq_some_iff.1 hg).1, ⟨cur, hg, h3, fun i hi => ?_⟩, h1, fun i u hu => ?_⟩
    · show cur[i]? = some cur[i]!
      rw [getElem!_pos cur i (by omega)]; exact Array.getElem?_eq_getElem (by omega)
    · obtain ⟨g', ha', _, _, hc⟩ := owns_cell hc0 hu
      obtain rfl := some_addr ha'
      have hc' : cur[i]? = some u := by simpa [World.cell?, hg] using hc
      show cur[i]! = u
      have hlt := (Array.getElem?_eq_some_iff.1 hc').1
      rw [getElem!_pos cur i hlt]
      rw [Array.getElem?_eq_getElem hlt] at hc'
      exact Option.some.inj hc'

/-- where the disk's writes stand -/
structure DkW (w wr : World) (N V : Nat) (bl : List (List Nat)) (f : Nat → Value) (bs cs : Nat → Nat) (va : Option Addr) (vc : Nat) (lw : List LW) (gs : Nat → Nat) : Prop where
  dk : DkB w wr N V (.slice va lw.length vc) bl 130 f bs cs
  own : wr.ownsRow (V + 1) 125 2 (.slice va lw.length vc) lw.length (wCells lw)
  byt : ∀ i, i < lw.length → lw[i]!.a = some ⟨gs i, 0, none⟩ ∧ BRow wr (gs i) lw[i]!.cap lw[i]!.x.bytes ∧ V < gs i ∧ (∀ j, j < 130 → bs j < gs i) ∧ ∀ j, j < i → gs j < gs i
theorem DkW.grow {w wr w' : World} {N V : Nat} {bl : List (List Nat)} {f : Nat → Value} {bs cs : Nat → Nat} {va : Option Addr} {vc : Nat} {lw : List LW} {gs : Nat → Nat} (h : DkW w wr N V bl f bs cs va vc lw gs) (hb : Below wr.heap.size wr w') : DkW w w' N V bl f bs cs va vc lw gs :=
  ⟨h.dk.grow hb, (Kept.of_below hb (fun _ => False)).owns h.own (fun _ _ e => e), fun i hi => let ⟨h1, h2, h3⟩ := h.byt i hi; ⟨h1, h2.of_block (hb.block _ h2.lt), h3⟩⟩
theorem snoc_at {α : Type} [Inhabited α] (l : List α) (y : α) (i : Nat) (hi : i < (l ++ [y]).length) : (l ++ [y])[i]! = if i = l.length then y else l[i]! := by
  have hi' : i < l.length + 1 := by simpa using hi
  rw [getElem!_pos _ i hi]
  by_cases h : i = l.length
  · subst h; simp
  · rw [if_neg h, List.getElem_append_left (by omega), getElem!_pos l i (by omega)]
theorem DkW.step {w wr w5 : World} {N V : Nat} {bl : List (List Nat)} {f : Nat → Value} {bs cs : Nat → Nat} {va : Option Addr} {vc : Nat} {lw : List LW} {gs : Nat → Nat} (h : DkW w wr N V bl f bs cs va vc lw gs)
    {G gcap gg cc : Nat} {x : DW} (hG : BRow wr G gcap x.bytes) (hVG : V < G) (hbs : ∀ j, j < 130 → bs j < G) (hgs : ∀ j, j < lw.length → gs j < G)
    (hown : w5.ownsRow (V + 1) 125 2 (.slice (some ⟨gg, 0, none⟩) (lw.length + 1) cc) (lw.length + 1) (wCells lw ++ [.int .i64 x.block, .slice (some ⟨G, 0, none⟩) x.bytes.length gcap])) (hgrow : wr.grownBy w5 (Value.slice va lw.length vc).ownBlock) :
    DkW w (w5.setCell ⟨V, 1, none⟩ (.slice (some ⟨gg, 0, none⟩) (lw.length + 1) cc)) N V bl f bs cs (some ⟨gg, 0, none⟩) cc (lw ++ [⟨x, some ⟨G, 0, none⟩, gcap⟩]) (fun i => if i = lw.length then G else gs i) := by
  have K1 := Kept.of_grown hgrow
  have hz : ∀ z, (Value.slice va lw.length vc).ownBlock = some z → IsW wr z ∧ V + 1 ≤ z := fun z hz => owns_isW h.own hz
  have hnv := h.dk.nv
  have hlo := h.dk.lo
  have K2 := (Kept.refl (fun b => b = V) w5).set (a := ⟨V, 1, none⟩) (fun _ => rfl) (.slice (some ⟨gg, 0, none⟩) (lw.length + 1) cc)
  have hB : ∀ {G' n' : Nat} {ys : List Nat}, BRow wr G' n' ys → V < G' → BRow (w5.setCell ⟨V, 1, none⟩ (.slice (some ⟨gg, 0, none⟩) (lw.length + 1) cc)) G' n' ys := fun hb hv => (hb.kept K1 (fun e => not_B_of_W (hz _ e).1 hb.isB)).kept K2 (fun e => by omega)
  have hVz : ¬ (Value.slice va lw.length vc).ownBlock = some V := fun e => by have := (hz V e).2; omega
  have hNz : ¬ (Value.slice va lw.length vc).ownBlock = some N := fun e => by have := (hz N e).2; omega
  have c1 := K1.cell h.dk.v1 hVz
  refine ⟨⟨K2.rowIs (K1.rowIs h.dk.row hNz) (by omega), fun i hi => ?_, (World.cell?_setCell_other _ _ _ _ (by simp)).trans (K1.cell h.dk.v0 hVz), ?_, fun o => ?_, ?_, hlo, hnv⟩, ?_, fun i hi => ?_⟩
  · obtain ⟨h1, h2, h3, h4⟩ := h.dk.fs i hi
    exact ⟨h1, hB h2 h3, h3, h4⟩
  · rw [List.length_append]; exact World.cell?_setCell_same _ _ _ c1
  · rw [World.frozen?_setCell]
    exact (World.frozen?_of_block (w := wr) (a := ⟨V, o, none⟩) (K1.block V (World.block_lt_of_cell? wr ⟨V, 0, none⟩ h.dk.v0) hVz)).trans (h.dk.vf o)
  · exact (h.dk.bel.trans (K1.below (Nat.le_trans h.dk.bel.size (Nat.le_refl _)) (fun k hk e => by have := (hz k e).2; omega))).trans (K2.below (by have := h.dk.bel.size; have := K1.size; omega) (fun k hk e => by omega))
  · rw [wCells_snoc, List.length_append]
    exact K2.owns hown (fun z hz2 e => by have := (hown.lt z hz2).1; omega)
  · rw [List.length_append] at hi
    rw [snoc_at _ _ _ (by rw [List.length_append]; exact hi)]
    by_cases e : i = lw.length
    · subst e
      simp only [if_true]
      refine ⟨trivial, hB hG hVG, hVG, hbs, fun j hj => ?_⟩
      rw [if_neg (by omega)]; exact hgs j hj
    · simp only [if_neg e]
      obtain ⟨h1, h2, h3, h4, h5⟩ := h.byt i (by simp at hi; omega)
      refine ⟨h1, hB h2 h3, h3, h4, fun j hj => ?_⟩
      rw [if_neg (by simp at hi; omega)]; exact h5 j hj

/-- the disk is done -/
theorem DkW.md {w wr : World} {N V : Nat} {bl : List (List Nat)} {f : Nat → Value} {bs cs : Nat → Nat} {va : Option Addr} {vc : Nat} {lw : List LW} {gs : Nat → Nat} (h : DkW w wr N V bl f bs cs va vc lw gs) (hlen : bl.length = 130) (h64 : ∀ x, x ∈ bl → x.length = 64) :
    MD wr w.heap.size wr.heap.size ⟨some ⟨N, 0, none⟩, 130, va, vc⟩ ⟨bl, lw.map (·.x)⟩ (fun i => some ⟨bs i, 0, none⟩) (fun i => lw[i]!.a) cs (fun i => lw[i]!.cap) := by
  have hnv := h.dk.nv
  have hlo := h.dk.lo
  have hmap : ∀ i, i < lw.length → (lw.map (·.x))[i]! = lw[i]!.x := fun i hi => by
    rw [getElem!_pos _ i (by simpa using hi), getElem!_pos lw i hi]; simp
  refine ⟨⟨fun _ => ⟨N, 130, f, rfl, hlo, h.dk.row.lt, h.dk.row, by show bl.length ≤ 130; omega, fun i hi => ?_⟩, fun i hi => ?_, fun i j hij hj => ?_⟩, ⟨fun hn => ?_, fun i hi => ?_, fun i j hij hj => ?_⟩, fun i j hi hj => ?_⟩
  · have hi' : i < bl.length := hi
    rw [(h.dk.fs i (by omega)).1, h64 _ (mem_at hi')]
  · have hi' : i < bl.length := hi
    obtain ⟨_, h2, h3, _⟩ := h.dk.fs i (by omega)
    exact Or.inr ⟨bs i, cs i, rfl, by omega, h2.lt, h2⟩
  · intro b e1 e2
    have hj' : j < bl.length := hj
    have := (h.dk.fs j (by omega)).2.2.2 i hij
    have := some_addr e1
    have := some_addr e2
    omega
  · have hn' : 0 < lw.length := by simpa using hn
    obtain ⟨g, f', h1, h2, h3, h4, h5, h6⟩ := owns_row h.own hn'
    refine ⟨g, vc * 2, f', h1, by omega, h3, h4, by simp; omega, fun i hi => ?_⟩
    have hi' : i < lw.length := by simpa using hi
    simp only [hmap i hi']
    exact ⟨h6 _ _ ((wCells_get lw i 0 hi' (by omega)).trans rfl), h6 _ _ ((wCells_get lw i 1 hi' (by omega)).trans rfl)⟩
  · have hi' : i < lw.length := by simpa using hi
    simp only [hmap i hi']
    obtain ⟨h1, h2, h3, _⟩ := h.byt i hi'
    exact Or.inr ⟨gs i, _, h1, by omega, h2.lt, h2⟩
  · have hj' : j < lw.length := by simpa using hj
    intro b e1 e2
    rw [(h.byt i (by omega)).1] at e1
    rw [(h.byt j hj').1] at e2
    have := (h.byt j hj').2.2.2.2 i hij
    have := some_addr e1
    have := some_addr e2
    omega
  · have hi' : i < bl.length := hi
    have hj' : j < lw.length := by simpa using hj
    intro b e1 e2
    rw [(h.byt j hj').1] at e2
    have := (h.byt j hj').2.2.2.1 i (by omega)
    have := some_addr e1
    have := some_addr e2
    omega

/-- the round of the writes -/
def GWInv (w wr : World) (N V : Nat) (bl : List (List Nat)) (f : Nat → Value) (bs cs : Nat → Nat) (ws : List DW) (k : Nat) : Prop :=
  ∃ (va : Option Addr) (vc : Nat) (lw : List LW) (gs : Nat → Nat), Hid (lw.length = k) ∧ Hid (lw.map (·.x) = ws.take k) ∧ DkW w wr N V bl f bs cs va vc lw gs

theorem MBs.mono {w : World} {lo hi lo' hi' : Nat} {a : Option Addr} {n : Nat} {F : Nat → List Nat} {fa : Nat → Option Addr} {fc : Nat → Nat} (h : MBs w lo hi a n F fa fc) (h1 : lo' ≤ lo) (h2 : hi ≤ hi') : MBs w lo' hi' a n F fa fc :=
  ⟨fun h0 => let ⟨g, m, f, a1, a2, a3, a4⟩ := h.row h0; ⟨g, m, f, a1, by omega, by omega, a4⟩, fun i hi => (h.byt i hi).mono h1 h2, h.far⟩
theorem MWs.mono {w : World} {lo hi lo' hi' : Nat} {a : Option Addr} {n : Nat} {B : Nat → Int} {F : Nat → List Nat} {fa : Nat → Option Addr} {fc : Nat → Nat} (h : MWs w lo hi a n B F fa fc) (h1 : lo' ≤ lo) (h2 : hi ≤ hi') : MWs w lo' hi' a n B F fa fc :=
  ⟨fun h0 => let ⟨g, m, f, a1, a2, a3, a4⟩ := h.row h0; ⟨g, m, f, a1, by omega, by omega, a4⟩, fun i hi => (h.byt i hi).mono h1 h2, h.far⟩
theorem MD.mono {w : World} {lo hi lo' hi' : Nat} {l : DL} {d : DD} {fa ga : Nat → Option Addr} {fc gc : Nat → Nat} (h : MD w lo hi l d fa ga fc gc) (h1 : lo' ≤ lo) (h2 : hi ≤ hi') : MD w lo' hi' l d fa ga fc gc := ⟨h.b.mono h1 h2, h.w.mono h1 h2, h.far⟩

end Go.Proofs.YtmdpmdmilgbfiaaGreatDoor
