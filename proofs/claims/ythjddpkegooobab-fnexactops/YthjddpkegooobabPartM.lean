import Derived.Deep.Cut
import Derived.Test.YthjddpkegooobabPartL

/-
  IIMAGE: the program's slots. Own work.
-/
namespace Go.Proofs.Ythjddpkegooobab
open Go.RowKit

set_option maxRecDepth 100000 in
theorem imageBegin_any (m : Nat) (w : World) (hm : m < 2) : Calls Try.prog 123 #[.int .i64 (m : Int)] w fun e w' => e = .returned (.int .i64 (firstOf m : Nat)) ∧ Below w.heap.size w w' := by
  go_enter Try.func123, Try.ntmps123
  go_wp2
  go_ret
  exact ⟨congrArg (fun z => Ending.returned (.int .i64 z)) (by simp only [firstOf]; first | omega | (unfold wrap64; omega)), gre _⟩

theorem run_slice_upto (u : World) (b k : Nat) (z : Int) (hz : z = (k : Int)) (hk : k ≤ 64) : (Instr.sliceAt 121 (.pointer (some ⟨b, 0, none⟩)) none (some (.int .i64 z)) none).run Try.prog u = .ok (.slice (some ⟨b, 0, none⟩) k 64) u := by
  subst hz
  have h1 : (k : Int) ≤ 64 := by omega
  simp [Instr.sliceAt, run_underlying Try.underlying121, Instr.sureAddr, Instr.sliceBounds, go_sem, Addr.add, h1]
/-- an image that is handed back -/
def ImgPost (n : Nat) (ys : List Nat) (w : World) (e : Ending) (w' : World) : Prop := ∃ oa c, e = .returned (.slice oa n c) ∧ MB w' w.heap.size oa ys ∧ Below w.heap.size w w'
theorem Dr.keptH {q : Nat → Prop} {w w' : World} {p : Nat} {bl : List (List Nat)} {pa : Option Addr} {pc : Nat} {ws : List DW} {k : Value} (h : Dr w p bl pa pc ws k) (K : Kept q w w') (hp : ¬ q p) (ho : ∀ b, (Value.slice pa ws.length pc).ownBlock = some b → ¬ q b) : Dr w' p bl pa pc ws k :=
  ⟨h.d.kept K hp, K.owns h.own (fun z hz e => ho z hz e), h.w64⟩
theorem MB.leH {w : World} {lo lo' : Nat} {oa : Option Addr} {ys : List Nat} (h : MB w lo oa ys) (hl : lo' ≤ lo) : MB w lo' oa ys := by
  rcases h with h | ⟨G, n, h1, h2, h3⟩
  · exact Or.inl h
  · exact Or.inr ⟨G, n, h1, by omega, h3⟩
theorem owns_madeH (u : World) (n : Nat) (h : n ≤ 4096) : (u.alloc (.cells (madeCells #[.int .u8 0] n) 5)).ownsRow u.heap.size 5 1 (.slice (some ⟨u.heap.size, 0, none⟩) 0 n) 0 (bcells []) :=
  ⟨rfl, Or.inr ⟨u.heap.size, n, _, rfl, Nat.le_refl _, heap_alloc_last u _, Nat.zero_le _, by unfold maxLen; omega, by rw [size_madeCells, Nat.mul_one], by simp [bcells]⟩⟩
theorem owns_mb {w : World} {base n c : Nat} {oa : Option Addr} {bs : List Nat} (h : w.ownsRow base 5 1 (.slice oa n c) n (bcells bs)) (hl : bs.length = n) : MB w base oa bs := by
  rcases h.2 with ⟨e, e2⟩ | ⟨g, cap, cur, hv, hb, hg, h1, h2, h3, h4⟩
  · exact Or.inl (List.eq_nil_of_length_eq_zero (by omega))
  · injection hv with e1 _ e3
    subst e1
    refine Or.inr ⟨g, cap, rfl, hb, cur, hg, by omega, by omega, fun i hi => ?_⟩
    have h5 : (cur.toList.take (n * 1))[i]? = (bcells bs)[i]? := by rw [h4]
    rw [List.getElem?_take_of_lt (by omega), Array.getElem?_toList, bcells_get hi] at h5
    exact h5

set_option maxHeartbeats 1000000 in
set_option maxRecDepth 100000 in
theorem image_any (p m n : Nat) (d : DD) (pa : Option Addr) (pc : Nat) (kv : Value) (w : World) (hm : m < 2) (hn : n ≤ 4096) (hf : d.Fit) (_ho : d.Ok) (hDr : Dr w p d.blocks pa pc d.waiting kv) :
    Calls Try.prog 160 #[.agg #[.pointer (some ⟨p, 0, none⟩), .int .i64 (m : Int)], .int .i64 (n : Int)] w (ImgPost n (d.img m n) w) := by
  have hz64 := (zero_of_info zero_content).1
  have hMe := method_drive p
  obtain ⟨i0, hi0, hz0, hz1, hz2⟩ := info_parts info_u8
  have hmk : ∀ u : World, (Instr.makeSlice 28 (.int .i64 0) (.int .i64 (n : Int))).run Try.prog u = .ok (.slice (some ⟨u.heap.size, 0, none⟩) 0 n) (u.alloc (.cells (madeCells #[.int .u8 0] n) 5)) := fun u => by
    have h := run_make (P := Try.prog) u 28 5 i0 _ Try.underlying28 hi0 hz0 .i64 .i64 0 (n : Int) (by omega) (by omega) (by rw [hz2]; omega) (by omega)
    simpa [hz1, Value.cells] using h
  have hS0 := SV.new w p m 141
  have hA := gal (gre w) (.cells #[.pointer (some ⟨p, 0, none⟩), .int .i64 (m : Int)] 141)
  go_enter Try.func160, Try.ntmps160
  go_wp2_with (go_at_call 123; refine (imageBegin_any m _ hm).mono ?_; rintro e w1 ⟨rfl, hb1⟩)
  have hS1 := (hS0.grow (gal (gre _) (.cells (madeCells #[.int .u8 0] n) 5))).grow hb1
  have hA1 := gca (gal hA (.cells (madeCells #[.int .u8 0] n) 5)) hb1
  have hD1 := hDr.grow hA1
  have hO1 : w1.ownsRow (w.heap.size + 1) 5 1 (.slice (some ⟨w.heap.size + 1, 0, none⟩) 0 n) 0 (bcells []) := by
    have hO := owns_madeH (w.alloc (.cells #[.pointer (some ⟨p, 0, none⟩), .int .i64 (m : Int)] 141)) n (by omega)
    rw [World.size_alloc] at hO
    exact (Kept.of_below hb1 (fun _ => False)).owns hO (fun _ _ e => e)
  have hSl1 := hS1.lt
  have hfo : firstOf m ≤ 66 := by unfold firstOf; omega
  clear hb1 hS0 hA hmk
  go_loopw [5, 6] (fun a k wr => ∃ (j g c : Nat), a = .slice (some ⟨g, 0, none⟩) (min (64 * j) n) c ∧ k = .int .i64 ((firstOf m + j : Nat) : Int) ∧ j ≤ 64 ∧ 64 * j < n + 64 ∧ wr.ownsRow (w.heap.size + 1) 5 1 (.slice (some ⟨g, 0, none⟩) (min (64 * j) n) c) (min (64 * j) n) (bcells ((d.cat (firstOf m) j).take n)) ∧ Dr wr p d.blocks pa pc d.waiting kv ∧ SV wr w.heap.size p m ∧ Below w.heap.size w wr) (fun _ k _ => 200 - (intOf k).toNat)
  case atStart => exact ⟨0, w.heap.size + 1, n, by simp, rfl, by omega, by omega, by simpa [DD.cat] using hO1, hD1, hS1, hA1⟩
  case round =>
    obtain ⟨j, g, c, rfl, rfl, hj, hjn, hO, hD, hS, hb⟩ := hrel
    obtain ⟨_, s0, s1⟩ := id hS
    by_cases hlt : 64 * j < n
    · obtain ⟨cu, hcu⟩ := hid_ex (min (64 * j) n)
      have hcj : Hid (cu = 64 * j) := by show _ = _; rw [hcu.out]; omega
      rw [← hcu.out] at hO ⊢
      have hd : (cu : Int) < (n : Int) := by have := hcj.out; omega
      obtain ⟨bs, hbs⟩ := hid_ex (d.rd (firstOf m + j))
      have hbl : Hid (bs.length = 64) := by show _ = _; rw [hbs.out]; exact DD.rd_len hf (m := firstOf m + j) (by unfold firstOf; omega)
      have hyl : Hid ((bcells bs).length = 64) := by show _ = _; rw [bcells_length, hbl.out]
      by_cases hm1 : (n : Int) - (cu : Int) < 64
      · obtain ⟨k, hk0'⟩ := hid_ex (n - cu)
        have hk : Hid (k = min 64 (n - cu)) := by show _ = _; rw [hk0'.out]; have := hcj.out; omega
        have hk64 : k ≤ 64 := by rw [hk.out]; omega
        have hSl := fun (u : World) (b : Nat) => run_slice_upto u b k ((n : Int) - (cu : Int)) (by rw [hk0'.out]; have := hcj.out; omega) hk64
        go_upto_region 6 with (first
          | (go_at_call 111; refine (read_any p d.blocks pa pc d.waiting kv ((firstOf m + j : Nat) : Int) _ (by omega) (by unfold firstOf; omega) (by have := hf.wl; omega) hD).mono ?_; rw [show readN d.blocks d.waiting ((firstOf m + j : Nat) : Int) d.waiting.length = bs from hbs.out.symm]; rintro e w3 ⟨rfl, hb3⟩)
          | (refine wpList_alloc_big rfl 121 rfl _ hz64 ?_)
          | (refine wpList_store_new rfl 121 _ _ rfl _ (bcells bs).toArray rfl rfl (by rw [size_content]; simp [hyl.out]) (by simp [zeros, hyl.out]) (all_oneCell_toArray cells_u8) ?_))
        have hrow := row_new w3 bs 121
        rw [hbl.out] at hrow
        have hb4 := gal hb3 (.cells (bcells bs).toArray 121)
        have hs4 : (w3.alloc (.cells (bcells bs).toArray 121)).heap.size = w3.heap.size + 1 := by simp
        generalize w3.alloc (.cells (bcells bs).toArray 121) = w4 at hrow hb4 hs4 ⊢
        have hO4 := (Kept.of_below hb4 (fun _ => False)).owns hO (fun _ _ e => e)
        have hS4 := hS.grow hb4
        have hD4 := hD.grow hb4
        have hB4 := gca hb hb4
        have hk0 : 0 < k := by rw [hk.out]; have := hcj.out; omega
        have htk : (bs.take k).length = k := by rw [List.length_take, hbl.out]; omega
        have hn4 := bytes_news (hrow.at_.takeH k)
        have hsB := hB4.size
        have hsS := hS4.lt
        generalize w3.heap.size = q at hrow hs4 hn4 ⊢
        have hs4' : Hid _ := hs4
        clear hs4 s0 s1
        go_wp2_with (at_builtin; refine wpList_append_lies _ rfl (.tmp 24) (.tmp 30) 28 rfl (w.heap.size + 1) 5 i0 (.int .u8 0) 1 1 Try.underlying28 hi0 hz0 hz1 hz2 rfl (by decide) _ _ _ rfl hO4 ⟨q, 0, none⟩ k 64 (bcells (bs.take k)) rfl (by rw [bcells_length, htk, Nat.mul_one]) hn4 cells_u8 hk0 (by have := hcj.out; unfold maxLen; omega) (by have := hcj.out; omega) (by omega) w4.heap.size rfl ?_; intro g5 c5 w5 hown5 hgrow5 hat5 hlt5)
        have K5 := Kept.of_grown hgrow5
        have hcat : (d.cat (firstOf m) j).take n ++ bs.take k = (d.cat (firstOf m) (j + 1)).take n := by
          have hcl := DD.cat_len hf (f := firstOf m) (j := j) (by unfold firstOf; omega)
          have h1 : (d.cat (firstOf m) j).take n = d.cat (firstOf m) j := List.take_of_length_le (by omega)
          have h2 : bs.take k = bs.take (n - 64 * j) := by
            have h3 := hcj.out
            by_cases h4 : 64 ≤ n - 64 * j
            · rw [List.take_of_length_le (by rw [hbl.out, hk.out]; omega), List.take_of_length_le (by rw [hbl.out]; omega)]
            · congr 1
              rw [hk.out]; omega
          rw [h1, h2]
          show _ = (d.cat (firstOf m) j ++ d.rd (firstOf m + j)).take n
          rw [List.take_append, ← hbs.out, hcl, h1]
        have hcu5 : cu + k = min (64 * (j + 1)) n := by have := hcj.out; rw [hk.out]; omega
        rw [← bcells_append, hcat, hcu5] at hown5
        have hown5' : Hid _ := hown5
        have hcu5' : Hid _ := hcu5
        clear hown5 hcu5
        go_roundw
        case rel =>
          refine ⟨j + 1, g5, c5, by rw [← hcu5'.out], congrArg (Value.int .i64) (by omega), by have := hcj.out; omega, by have := hcj.out; omega, hown5'.out, ?_, hS4.kept K5 (fun e => by have := (hO4.lt _ e).1; omega), hB4.trans (K5.below (B := w.heap.size) hB4.size (fun z hz e => by have := (hO4.lt _ e).1; omega))⟩
          exact hD4.keptH K5 (fun e => by have := (hO4.lt _ e).1; have := hDr.d.lt; omega) (fun b hb' e => by have := (hO4.lt _ e).1; have := (hDr.own.lt b hb').2; omega)
        case measure => simp [intOf]; omega
      · have hk : Hid (64 = min 64 (n - cu)) := by show _ = _; have := hcj.out; omega
        have hSl := fun (u : World) (b : Nat) => run_slice_upto u b 64 64 rfl (Nat.le_refl _)
        go_upto_region 6 with (first
          | (go_at_call 111; refine (read_any p d.blocks pa pc d.waiting kv ((firstOf m + j : Nat) : Int) _ (by omega) (by unfold firstOf; omega) (by have := hf.wl; omega) hD).mono ?_; rw [show readN d.blocks d.waiting ((firstOf m + j : Nat) : Int) d.waiting.length = bs from hbs.out.symm]; rintro e w3 ⟨rfl, hb3⟩)
          | (refine wpList_alloc_big rfl 121 rfl _ hz64 ?_)
          | (refine wpList_store_new rfl 121 _ _ rfl _ (bcells bs).toArray rfl rfl (by rw [size_content]; simp [hyl.out]) (by simp [zeros, hyl.out]) (all_oneCell_toArray cells_u8) ?_))
        have hrow := row_new w3 bs 121
        rw [hbl.out] at hrow
        have hb4 := gal hb3 (.cells (bcells bs).toArray 121)
        have hs4 : (w3.alloc (.cells (bcells bs).toArray 121)).heap.size = w3.heap.size + 1 := by simp
        generalize w3.alloc (.cells (bcells bs).toArray 121) = w4 at hrow hb4 hs4 ⊢
        have hO4 := (Kept.of_below hb4 (fun _ => False)).owns hO (fun _ _ e => e)
        have hS4 := hS.grow hb4
        have hD4 := hD.grow hb4
        have hB4 := gca hb hb4
        have hk0 : 0 < 64 := by decide
        have htk : (bs.take 64).length = 64 := by rw [List.length_take, hbl.out]; rfl
        have hn4 := bytes_news (hrow.at_.takeH 64)
        have hsB := hB4.size
        have hsS := hS4.lt
        generalize w3.heap.size = q at hrow hs4 hn4 ⊢
        have hs4' : Hid _ := hs4
        clear hs4 s0 s1
        go_wp2_with (at_builtin; refine wpList_append_lies _ rfl (.tmp 24) (.tmp 30) 28 rfl (w.heap.size + 1) 5 i0 (.int .u8 0) 1 1 Try.underlying28 hi0 hz0 hz1 hz2 rfl (by decide) _ _ _ rfl hO4 ⟨q, 0, none⟩ 64 64 (bcells (bs.take 64)) rfl (by rw [bcells_length, htk, Nat.mul_one]) hn4 cells_u8 hk0 (by have := hcj.out; unfold maxLen; omega) (by have := hcj.out; omega) (by omega) w4.heap.size rfl ?_; intro g5 c5 w5 hown5 hgrow5 hat5 hlt5)
        have K5 := Kept.of_grown hgrow5
        have hcat : (d.cat (firstOf m) j).take n ++ bs.take 64 = (d.cat (firstOf m) (j + 1)).take n := by
          have hcl := DD.cat_len hf (f := firstOf m) (j := j) (by unfold firstOf; omega)
          have h1 : (d.cat (firstOf m) j).take n = d.cat (firstOf m) j := List.take_of_length_le (by omega)
          have h2 : bs.take 64 = bs.take (n - 64 * j) := by
            have h3 := hcj.out
            by_cases h4 : 64 ≤ n - 64 * j
            · rw [List.take_of_length_le (by rw [hbl.out]; exact Nat.le_refl _), List.take_of_length_le (by rw [hbl.out]; omega)]
            · congr 1
              have := hk.out; omega
          rw [h1, h2]
          show _ = (d.cat (firstOf m) j ++ d.rd (firstOf m + j)).take n
          rw [List.take_append, ← hbs.out, hcl, h1]
        have hcu5 : cu + 64 = min (64 * (j + 1)) n := by have := hcj.out; have := hk.out; omega
        rw [← bcells_append, hcat, hcu5] at hown5
        have hown5' : Hid _ := hown5
        have hcu5' : Hid _ := hcu5
        clear hown5 hcu5
        go_roundw
        case rel =>
          refine ⟨j + 1, g5, c5, by rw [← hcu5'.out], congrArg (Value.int .i64) (by omega), by have := hcj.out; omega, by have := hcj.out; omega, hown5'.out, ?_, hS4.kept K5 (fun e => by have := (hO4.lt _ e).1; omega), hB4.trans (K5.below (B := w.heap.size) hB4.size (fun z hz e => by have := (hO4.lt _ e).1; omega))⟩
          exact hD4.keptH K5 (fun e => by have := (hO4.lt _ e).1; have := hDr.d.lt; omega) (fun b hb' e => by have := (hO4.lt _ e).1; have := (hDr.own.lt b hb').2; omega)
        case measure => simp [intOf]; omega
    · have hd : ¬ (((min (64 * j) n : Nat) : Int) < (n : Int)) := by omega
      have hmin : min (64 * j) n = n := by omega
      rw [hmin] at hO hd ⊢
      go_wp2
      go_ret
      have hil := DD.img_len hf hm hn
      have himg : (d.cat (firstOf m) j).take n = d.img m n := DD.img_part hf hm hj (by omega)
      rw [himg] at hO
      exact ⟨some ⟨g, 0, none⟩, c, rfl, (owns_mb hO hil).leH (by omega), hb⟩

end Go.Proofs.Ythjddpkegooobab

/-
  SOP: ops that are appended to, plain and in memory. Own work.
-/
namespace Go.Proofs.Ythjddpkegooobab
open Go.RowKit

/-- a block of an image -/
def cutOf (im : List Nat) (j : Nat) : List Nat := (im.drop (64 * j)).take 64
def blkOf (im : List Nat) (j : Nat) : List Nat := cutOf im j ++ List.replicate (64 - (cutOf im j).length) 0
theorem cutOf_len (im : List Nat) (j : Nat) : (cutOf im j).length ≤ 64 := by simp [cutOf]; omega
theorem blkOf_len (im : List Nat) (j : Nat) : (blkOf im j).length = 64 := by
  have := cutOf_len im j
  simp [blkOf]; omega
theorem blkOf_byte {im : List Nat} (h : ∀ x, x ∈ im → x < 256) (j : Nat) : ∀ x, x ∈ blkOf im j → x < 256 := fun x hx => by
  rcases List.mem_append.1 hx with e | e
  · exact h x (List.mem_of_mem_drop (List.mem_of_mem_take e))
  · rw [List.eq_of_mem_replicate e]; decide
/-- how many blocks an image has -/
def nBlk (im : List Nat) : Nat := (im.length + 63) / 64
/-- the slot that the newest is not in -/
def KK.other (k : KK) : Nat := if k.ok = true ∧ k.slot = 0 then 1 else 0
theorem KK.other_lt (k : KK) : k.other < 2 := by unfold KK.other; split <;> omega
/-- the first j writes of an image -/
def imgOps (s : Nat) (im : List Nat) (j : Nat) : List OP := (List.range j).map fun i => ⟨false, ((firstOf s + i : Nat) : Int), blkOf im i⟩
theorem imgOps_succ (s : Nat) (im : List Nat) (j : Nat) : imgOps s im (j + 1) = imgOps s im j ++ [⟨false, ((firstOf s + j : Nat) : Int), blkOf im j⟩] := by simp [imgOps, List.range_succ]
theorem imgOps_len (s : Nat) (im : List Nat) (j : Nat) : (imgOps s im j).length = j := by simp [imgOps]
def headO (k : KK) (im : List Nat) : OP := ⟨false, (k.other : Int), headB (k.gen + 1) (im.length : Int) (wrap64 (sumN im : Int))⟩
/-- what is done to lay an image down -/
def DD.lay (d : DD) (im : List Nat) : List OP := if d.newestOf.gen = 1000000000000 then [] else imgOps d.newestOf.other im (nBlk im) ++ [syncO, headO d.newestOf im, syncO]
def DD.ops (d : DD) (im : List Nat) : List OP := if d.ok = true ∧ d.waiting = [] ∧ im ≠ [] ∧ im.length ≤ 4096 then d.lay im else []

/-- an op, and where its bytes lie -/
structure LO where
  x : OP
  a : Option Addr
  cap : Nat
  deriving Inhabited
def LO.three (y : LO) : List Value := [.bool y.x.sync, .int .i64 y.x.block, .slice y.a y.x.bytes.length y.cap]
theorem LO.three_length (y : LO) : y.three.length = 3 := rfl
def oCells (l : List LO) : List Value := l.flatMap LO.three
theorem oCells_app (l m : List LO) : oCells (l ++ m) = oCells l ++ oCells m := by simp [oCells]
theorem oCells_snoc (l : List LO) (y : LO) : oCells (l ++ [y]) = oCells l ++ [.bool y.x.sync, .int .i64 y.x.block, .slice y.a y.x.bytes.length y.cap] := by simp [oCells, LO.three]
theorem oCells_get : ∀ (l : List LO) (i j : Nat), i < l.length → j < 3 → (oCells l)[i * 3 + j]? = (l[i]!.three)[j]?
  | [], i, j, h, _ => absurd h (Nat.not_lt_zero _)
  | y :: r, 0, j, _, hj => by
    rw [oCells, List.flatMap_cons, Nat.zero_mul, Nat.zero_add, List.getElem?_append_left (by rw [LO.three_length]; exact hj)]
    rfl
  | y :: r, i + 1, j, h, hj => by
    have hlt : i < r.length := by simpa using h
    have ih := oCells_get r i j hlt hj
    rw [oCells, List.flatMap_cons, List.getElem?_append_right (by rw [LO.three_length, Nat.add_mul]; omega), LO.three_length, show (i + 1) * 3 + j - 3 = i * 3 + j by rw [Nat.add_mul]; omega]
    rw [oCells] at ih
    rw [ih]
    simp

theorem owns_isO {w : World} {base size n cap : Nat} {a : Option Addr} {xs : List Value} (h : w.ownsRow base 151 size (.slice a n cap) n xs) {z : Nat} (hz : (Value.slice a n cap).ownBlock = some z) : IsO w z ∧ base ≤ z := by
  have ha := owns_addr h hz
  rcases h.2 with ⟨e, _⟩ | ⟨g, cap', cur, hv, hb, hg, _⟩
  · simp at e
    rw [e.1] at ha
    cases ha
  · simp only [Value.slice.injEq] at hv
    rw [ha] at hv
    obtain rfl := some_addr hv.1
    exact ⟨⟨cur, hg⟩, hb⟩

structure SO (base : Nat) (wr : World) (oa : Option Addr) (oc : Nat) (lo : List LO) : Prop where
  own : wr.ownsRow base 151 3 (.slice oa lo.length oc) lo.length (oCells lo)
  byt : ∀ y, y ∈ lo → MB wr base y.a y.x.bytes
  far : lo.Pairwise fun y z => y.x.bytes ≠ [] → z.x.bytes ≠ [] → Apart y.a z.a
theorem MB.keptO {p : Nat → Prop} {w w' : World} {lo : Nat} {oa : Option Addr} {ys : List Nat} (h : MB w lo oa ys) (k : Kept p w w') (hp : ∀ b, lo ≤ b → IsB w b → ¬ p b) : MB w' lo oa ys := by
  rcases h with rfl | ⟨G, n, rfl, hG, hB⟩
  · exact Or.inl rfl
  · exact Or.inr ⟨G, n, rfl, hG, hB.kept k (hp G hG hB.isB)⟩
theorem MB.growO {w w' : World} {lo : Nat} {oa : Option Addr} {ys : List Nat} (h : MB w lo oa ys) (hb : Below w.heap.size w w') : MB w' lo oa ys := h.keptO (Kept.of_below hb (fun _ => False)) (fun _ _ _ e => e)
theorem zrow_made (w : World) (M : Array Value) (hM : M = madeCells #[Value.int .u8 0] 64) : ZRow (w.alloc (.cells M 5)) w.heap.size 64 [] := by
  subst hM
  have h1 := rowIs_made_any w #[Value.int .u8 0] 64 5
  have e : (fun i => (#[Value.int .u8 0])[i % (#[Value.int .u8 0]).size]!) = (fun i : Nat => Value.int .u8 ((([] : List Nat)[i]! : Nat) : Int)) := by
    funext i
    have : i % (#[Value.int .u8 0]).size = 0 := by simp [Nat.mod_one]
    rw [this, getElem!_neg ([] : List Nat) i (by simp)]
    rfl
  rw [e] at h1
  exact ⟨by simp, h1⟩
theorem SO.kept {p : Nat → Prop} {base : Nat} {w w' : World} {oa : Option Addr} {oc : Nat} {lo : List LO} (h : SO base w oa oc lo) (K : Kept p w w') (hp : ∀ z, p z → base ≤ z → ¬ IsO w z ∧ ¬ IsB w z) : SO base w' oa oc lo :=
  ⟨K.owns h.own (fun z hz e => let r := owns_isO h.own hz; (hp z e r.2).1 r.1), fun y hy => (h.byt y hy).keptO K (fun z hz hB e => (hp z e hz).2 hB), h.far⟩
theorem SO.grow {base : Nat} {w w' : World} {oa : Option Addr} {oc : Nat} {lo : List LO} (h : SO base w oa oc lo) (hb : Below w.heap.size w w') : SO base w' oa oc lo := h.kept (Kept.of_below hb (fun _ => False)) (fun _ e => e.elim)
theorem SO.own_at {base : Nat} {w : World} {oa : Option Addr} {oc n : Nat} {lo : List LO} (h : SO base w oa oc lo) (hn : lo.length = n) : w.ownsRow base 151 3 (.slice oa n oc) n (oCells lo) := by subst hn; exact h.own
theorem SO.nil (base : Nat) (w : World) : SO base w none 0 [] := ⟨owns_none _ _ _ _, fun y hy => (by cases hy), List.Pairwise.nil⟩
theorem SO.le {base base' : Nat} {w : World} {oa : Option Addr} {oc : Nat} {lo : List LO} (h : SO base w oa oc lo) (hb : base' ≤ base) : SO base' w oa oc lo := ⟨owns_le h.own hb, fun y hy => (h.byt y hy).leH hb, h.far⟩
/-- some more ops -/
theorem SO.more {base : Nat} {w w5 : World} {oa : Option Addr} {oc : Nat} {lo ys : List LO} (h : SO base w oa oc lo) (hy : ∀ y, y ∈ ys → MB w base y.a y.x.bytes) (hfar : (lo ++ ys).Pairwise fun y z => y.x.bytes ≠ [] → z.x.bytes ≠ [] → Apart y.a z.a) {gg cc : Nat}
    (hown : w5.ownsRow base 151 3 (.slice (some ⟨gg, 0, none⟩) (lo.length + ys.length) cc) (lo.length + ys.length) (oCells lo ++ oCells ys)) (hgrow : w.grownBy w5 (Value.slice oa lo.length oc).ownBlock) : SO base w5 (some ⟨gg, 0, none⟩) cc (lo ++ ys) := by
  have K := Kept.of_grown hgrow
  refine ⟨by rw [oCells_app, List.length_append]; exact hown, fun x hx => ?_, hfar⟩
  have hb : ∀ {x : LO}, MB w base x.a x.x.bytes → MB w5 base x.a x.x.bytes := fun hx => hx.keptO K (fun z _ hB e => not_B_of_O (owns_isO h.own e).1 hB)
  rcases List.mem_append.1 hx with e | e
  · exact hb (h.byt x e)
  · exact hb (hy x e)
/-- one more, whose bytes lie in memory that is newer than the others' -/
theorem SO.far1 {base : Nat} {w : World} {oa : Option Addr} {oc : Nat} {lo : List LO} (h : SO base w oa oc lo) {y : LO} (hy : ∀ b, y.x.bytes ≠ [] → y.a = some ⟨b, 0, none⟩ → w.heap.size ≤ b) : (lo ++ [y]).Pairwise fun y z => y.x.bytes ≠ [] → z.x.bytes ≠ [] → Apart y.a z.a := by
  refine List.pairwise_append.2 ⟨h.far, List.pairwise_singleton _ _, fun x hx z hz n1 n2 b e1 e2 => ?_⟩
  obtain rfl : z = y := by simpa using hz
  have := hy b n2 e2
  rcases h.byt x hx with e | ⟨G, n, h1, _, h2⟩
  · exact n1 e
  · rw [e1] at h1
    obtain rfl := some_addr h1
    have := h2.lt
    omega
theorem SO.mo {base : Nat} {w : World} {oa : Option Addr} {oc : Nat} {lo : List LO} (h : SO base w oa oc lo) : MOs w base w.heap.size oa lo.length (fun i => (lo.map LO.x)[i]!.sync) (fun i => (lo.map LO.x)[i]!.block) (fun i => (lo.map LO.x)[i]!.bytes) (fun i => lo[i]!.a) (fun i => lo[i]!.cap) := by
  have ex : ∀ i, i < lo.length → (lo.map LO.x)[i]! = lo[i]!.x := fun i hi => by rw [getElem!_pos _ i (by simpa using hi), getElem!_pos lo i hi]; simp
  refine ⟨fun h0 => ?_, fun i hi => ?_, fun i j hij hj n1 n2 => ?_⟩
  · obtain ⟨g, f, h1, h2, h3, h4, h5, h6⟩ := owns_row h.own h0
    refine ⟨g, oc * 3, f, h1, h2, h3, h4, Nat.mul_le_mul_right 3 h5, fun i hi => ?_⟩
    rw [ex i hi]
    exact ⟨h6 _ _ ((oCells_get lo i 0 hi (by omega)).trans rfl), h6 _ _ ((oCells_get lo i 1 hi (by omega)).trans rfl), h6 _ _ ((oCells_get lo i 2 hi (by omega)).trans rfl)⟩
  · show BB w base w.heap.size lo[i]!.a (lo.map LO.x)[i]!.bytes
    rw [ex i hi]
    rcases h.byt _ (mem_at hi) with e | ⟨G, n, h1, h2, h3⟩
    · exact Or.inl e
    · exact Or.inr ⟨G, n, h1, h2, h3.lt, h3⟩
  · have hi : i < lo.length := by omega
    show Apart lo[i]!.a lo[j]!.a
    have m1 : lo[i]!.x.bytes ≠ [] := by rw [← ex i hi]; exact n1
    have m2 : lo[j]!.x.bytes ≠ [] := by rw [← ex j hj]; exact n2
    have := List.pairwise_iff_getElem.1 h.far i j hi hj hij
    rw [getElem!_pos lo i hi] at m1 ⊢
    rw [getElem!_pos lo j hj] at m2 ⊢
    exact this m1 m2
theorem SO.at_ {base : Nat} {w : World} {oa : Option Addr} {oc : Nat} {lo : List LO} (h : SO base w oa oc lo) : OpsAt w oa (lo.map LO.x) := by
  have := h.mo
  rw [← List.length_map (f := LO.x)] at this
  exact this.at_

/-- what ops' answers are -/
def OAns (ops : List OP) (w : World) (e : Ending) (w' : World) : Prop := ∃ oa oc lo, e = .returned (.slice oa ops.length oc) ∧ lo.map LO.x = ops ∧ SO w.heap.size w' oa oc lo ∧ Below w.heap.size w w'
theorem OAns.no {w w' : World} (h : Below w.heap.size w w') : OAns [] w (.returned (.slice none 0 0)) w' := ⟨none, 0, [], rfl, rfl, SO.nil _ _, h⟩

structure KK.Rng (k : KK) : Prop where
  g : 0 ≤ k.gen ∧ k.gen ≤ 1000000000000
  s : k.ok = true → k.slot = 0 ∨ k.slot = 1
theorem newest_rng {d : DD} (h : d.Fit) : d.newestOf.Rng := by
  have fine : ∀ (m : Nat) {k : KK}, m < 2 → k.Fine m → k.Rng := fun m k hm hk => by
    refine ⟨?_, fun e => by have := hk.slot e; omega⟩
    cases e : k.ok with
    | false => rw [hk.no e]; simp [noK]
    | true => have := hk.gen e; omega
  unfold DD.newestOf
  split
  · exact fine 1 (by decide) (DD.slot_fine h (by decide))
  · exact fine 0 (by decide) (DD.slot_fine h (by decide))
theorem cut_get {im : List Nat} {j t : Nat} (h : t < (cutOf im j).length) : 64 * j + t < im.length ∧ t < 64 ∧ (cutOf im j)[t]! = im[64 * j + t]! := by
  have h1 : t < 64 ∧ t < im.length - 64 * j := by simp [cutOf] at h; omega
  refine ⟨by omega, h1.1, ?_⟩
  rw [getElem!_pos _ t h, getElem!_pos im _ (by omega)]
  simp [cutOf]
theorem cut_len (im : List Nat) (j : Nat) : (cutOf im j).length = min 64 (im.length - 64 * j) := by simp [cutOf]
theorem wrapV {F : Nat} (h : F ≤ 200) : Value.int .i64 (wrap64 (F : Int)) = .int .i64 (F : Int) := by
  have e : wrap64 (F : Int) = (F : Int) := by unfold wrap64; omega
  rw [e]
theorem wrapI {F : Nat} (h : F ≤ 200) : Value.int .i64 (IntKind.i64.wrap (F : Int)) = .int .i64 (F : Int) := by
  have e : IntKind.i64.wrap (F : Int) = (F : Int) := by rw [IntKind.wrap_i64]; omega
  rw [e]
theorem nBlk_le {im : List Nat} (h : im.length ≤ 4096) : nBlk im ≤ 64 := by unfold nBlk; omega
theorem first_le {s j : Nat} (hs : s < 2) (hj : j ≤ 64) : firstOf s + j ≤ 200 := by unfold firstOf; omega
theorem nBlk_lt {im : List Nat} {j : Nat} : j < nBlk im ↔ 64 * j < im.length := by unfold nBlk; omega

end Go.Proofs.Ythjddpkegooobab

/-
  REGIONT: two operations that may come up. Own work.
-/
namespace Go.Proofs.Ythjddpkegooobab
open Go.RowKit

/-- two may come up, neither the last -/
theorem anyU_pair {P : Program} {ops : Array Oper} {Q : Exit → Act → World → Prop} {md : Region.Mode} {S : World → Prop} {lst : Nat} {fuel : Nat} {listed : Array Bool} {a : Act} {w : World} {i j : Nat} {oi oj : Oper} (hr : Region.ready md ops listed = [i, j]) (hoi : ops[i]? = some oi) (hoj : ops[j]? = some oj)
    (h1 : ∀ K : Act → World → Prop, Shut (∀ a w, S w → anyU P md ops Q S lst fuel (listed.setIfInBounds i true) a w → K a w) → if Region.wanted oi (yielded ops a.tmps) = true then Oper.wp P oi a w K Q else K (a.put oi.dst undef) w)
    (h2 : ∀ K : Act → World → Prop, Shut (∀ a w, S w → anyU P md ops Q S lst fuel (listed.setIfInBounds j true) a w → K a w) → if Region.wanted oj (yielded ops a.tmps) = true then Oper.wp P oj a w K Q else K (a.put oj.dst undef) w) :
    anyU P md ops Q S lst (fuel + 1) listed a w := by
  refine ⟨fun h0 => (by rw [hr] at h0; cases h0), fun k hk => ?_⟩
  rw [hr] at hk
  rcases List.mem_cons.1 hk with e | hk
  · subst e; exact wpOp_step hoi (fun K' hK => h1 K' (fun a w hS hW => hK a w ⟨fun _ => hS, hW⟩))
  · obtain rfl : k = j := by simpa using hk
    exact wpOp_step hoj (fun K' hK => h2 K' (fun a w hS hW => hK a w ⟨fun _ => hS, hW⟩))

end Go.Proofs.Ythjddpkegooobab

/-
  SOPS: the specification's ops. Own work.
-/
namespace Go.Proofs.Ythjddpkegooobab
open Go.RowKit

set_option maxHeartbeats 8000000 in
set_option maxRecDepth 100000 in
theorem l4ops_any (d : DD) (l : DL) (ia : Option Addr) (im : List Nat) (ic : Nat) (w : World) (hf : d.Fit) (ho : d.Ok) (ha : DAt w l d) (hia : BytesAt w ia im) (hib : ∀ x, x ∈ im → x < 256) (hil : im.length ≤ 4096) :
    Calls Try.prog 121 #[d.val l, .slice ia im.length ic] w (OAns (d.lay im) w) := by
  have hX0 := DBox.new w d l 50
  have hA0 := gal (gre w) (.cells #[.slice l.ba d.blocks.length l.bc, .slice l.wa d.waiting.length l.wc] 50)
  obtain ⟨k, hk⟩ := hid_ex d.newestOf
  have hr : k.Rng := by rw [hk.out]; exact newest_rng hf
  obtain ⟨hg0, hg1⟩ := hr.g
  obtain ⟨s, hs⟩ := hid_ex k.other
  have hs2 : s < 2 := by rw [hs.out]; exact k.other_lt
  obtain ⟨i0, hi, hz0, hz1, hz2⟩ := info_parts info_u8
  obtain ⟨M, hM⟩ := hid_ex (madeCells #[Value.int .u8 0] 64)
  have hmk : ∀ u : World, (Instr.makeSlice 28 (.int .i64 64) (.int .i64 64)).run Try.prog u = .ok (.slice (some ⟨u.heap.size, 0, none⟩) 64 64) (u.alloc (.cells M 5)) := fun u => by
    have h := run_make (P := Try.prog) u 28 5 i0 _ Try.underlying28 hi hz0 .i64 .i64 64 64 (by omega) (Int.le_refl _) (by rw [hz2]; omega) (by omega)
    rw [hM.out]
    simpa [hz1, Value.cells] using h
  have hways : (k.ok = false ∧ s = 0) ∨ (k.ok = true ∧ k.slot = 0 ∧ s = 1) ∨ (k.ok = true ∧ k.slot = 1 ∧ s = 0) := by
    rw [hs.out]
    cases e : k.ok with
    | false => exact Or.inl ⟨rfl, if_neg (fun h => by rw [e] at h; cases h.1)⟩
    | true =>
      rcases hr.s e with h | h
      · exact Or.inr (Or.inl ⟨rfl, h, if_pos ⟨e, h⟩⟩)
      · exact Or.inr (Or.inr ⟨rfl, h, if_neg (fun h2 => by rw [h] at h2; cases h2.2)⟩)
  obtain ⟨L, hL⟩ := hid_ex (d.lay im)
  rw [← hL.out]
  have hlay : Hid (L = if k.gen = 1000000000000 then [] else imgOps s im (nBlk im) ++ [syncO, headO k im, syncO]) := by show _ = _; rw [hL.out, hs.out, hk.out]; rfl
  go_enter Try.func121, Try.ntmps121
  go_upto_region 3 with (go_at_call 119; refine (l4newest_any d l _ hf ho (ha.grow hA0)).mono ?_; rw [← hk.out]; rintro e w1 ⟨oa1, c1, rfl, hB1, hn1, hb1⟩)
  have hV := V4.new_at w1 (.bool k.ok) (.int .i64 k.gen) (.int .i64 k.slot) (.slice oa1 k.bytes.length c1) 82 w1.heap.size rfl
  have hBV := gal (gca hA0 hb1) (.cells #[.bool k.ok, .int .i64 k.gen, .int .i64 k.slot, .slice oa1 k.bytes.length c1] 82)
  generalize w1.alloc (.cells #[.bool k.ok, .int .i64 k.gen, .int .i64 k.slot, .slice oa1 k.bytes.length c1] 82) = wV at hV hBV ⊢
  generalize w1.heap.size = R at hV ⊢
  clear hB1 hn1 hb1 hX0 hA0
  obtain ⟨_, q0, q1, q2, q3, qf⟩ := id hV
  obtain ⟨tb, htb⟩ := hid_ex (decide (s = 1))
  go_cut [20] from 14 (fun t wc => t = .bool tb ∧ wc = wV)
  case first =>
    rcases hways with ⟨k1, e1⟩ | ⟨k1, k2, e1⟩ | ⟨k1, k2, e1⟩
    · rw [k1] at q0
      go_wp2
      go_meet
      case rel => exact ⟨by rw [htb.out, e1]; rfl, rfl⟩
    · rw [k1] at q0
      rw [k2] at q2
      go_wp2
      go_meet
      case rel => exact ⟨by rw [htb.out, e1]; rfl, rfl⟩
    · rw [k1] at q0
      rw [k2] at q2
      go_wp2
      go_meet
      case rel => exact ⟨by rw [htb.out, e1]; rfl, rfl⟩
  case rest =>
    obtain ⟨rfl, hwc⟩ := hcut; obtain rfl := hwc.symm
    go_upto_if 20 with fail
    go_cut [6] from 14 (fun v wc => v = .int .i64 (s : Int) ∧ wc = wV)
    case first =>
      cases tb with
      | true =>
        have e1 : s = 1 := by simpa using htb.out.symm
        go_wp2
        go_meet
        case rel => exact ⟨by rw [e1]; rfl, rfl⟩
      | false =>
        have e1 : s = 0 := by have : s ≠ 1 := by simpa using htb.out.symm
                              omega
        go_wp2
        go_meet
        case rel => exact ⟨by rw [e1]; rfl, rfl⟩
    case rest =>
      obtain ⟨rfl, hwc⟩ := hcut; obtain rfl := hwc.symm
      clear hways htb
      by_cases hmax : k.gen = 1000000000000
      · have hLn : L = [] := by rw [hlay.out, if_pos hmax]
        have hmx : (k.gen == 1000000000000) = true := by rw [hmax]; rfl
        subst hLn
        go_wp2
        go_ret
        exact OAns.no hBV
      · have hLe : Hid (L = imgOps s im (nBlk im) ++ [syncO, headO k im, syncO]) := by show _ = _; rw [hlay.out, if_neg hmax]
        have hmx : (k.gen == 1000000000000) = false := by simp [hmax]
        clear hL hlay
        obtain ⟨j0, hj, hy0, hy1, hy2⟩ := info_parts info_implOp
        obtain ⟨bV, hbV⟩ := hid_ex wV.heap.size
        have hRV : R < bV := by rw [hbV.out]; exact hV.lt
        have hwV : w.heap.size ≤ bV := by rw [hbV.out]; exact hBV.size
        have hbV0 : bV ≤ wV.heap.size := by rw [hbV.out]; exact Nat.le_refl _
        go_wp2
        go_loopw [7, 8] (fun o a wr => ∃ (j : Nat) (oa : Option Addr) (oc : Nat) (lo : List LO), j ≤ nBlk im ∧ a = .int .i64 ((64 * j : Nat) : Int) ∧ o = .slice oa lo.length oc ∧ Hid (lo.map LO.x = imgOps s im j) ∧ SO bV wr oa oc lo ∧ V4 wr R (.bool k.ok) (.int .i64 k.gen) (.int .i64 k.slot) (.slice oa1 k.bytes.length c1) ∧ Below w.heap.size w wr ∧ bV ≤ wr.heap.size) (fun _ a _ => im.length + 64 - (intOf a).toNat)
        case atStart => exact ⟨0, none, 0, [], Nat.zero_le _, rfl, rfl, rfl, SO.nil _ _, hV, hBV, hbV0⟩
        case round =>
          obtain ⟨j, oa, oc, lo, hjn, rfl, rfl, hlo, hSO, hVr, hBr, hbr⟩ := hrel
          have hll : Hid (lo.length = j) := by show _ = _; have := congrArg List.length hlo.out; rw [List.length_map, imgOps_len] at this; exact this
          obtain ⟨p, hp⟩ := hid_ex (64 * j)
          rw [← hp.out]
          by_cases hlt : j < nBlk im
          · have hpl : (p : Int) < (im.length : Int) := by have := nBlk_lt.1 hlt; have := hp.out; omega
            have hZ0 := zrow_made wr M hM.out
            have hBm := gal (gre wr) (.cells M 5)
            obtain ⟨cu, hcu⟩ := hid_ex (cutOf im j)
            have hcl : Hid (cu.length = min 64 (im.length - p)) := by show _ = _; rw [hcu.out, hp.out]; exact cut_len im j
            go_wp2
            generalize wr.alloc (.cells M 5) = wB at hZ0 hBm ⊢
            obtain ⟨Bb, hBb⟩ := hid_ex wr.heap.size
            rw [← hBb.out] at hZ0 ⊢
            go_loopw [10] (fun i wi => ∃ t : Nat, t ≤ cu.length ∧ i = .int .i64 ((p + t : Nat) : Int) ∧ ZRow wi Bb 64 (cu.take t) ∧ Kept (fun z => z = Bb) wB wi) (fun i _ => p + 64 - (intOf i).toNat)
            case atStart => exact ⟨0, Nat.zero_le _, rfl, hZ0, Kept.refl _ _⟩
            case round =>
              obtain ⟨t, ht, rfl, hZ, hK⟩ := hrel
              obtain ⟨q, hq⟩ := hid_ex (p + t)
              rw [← hq.out]
              have hBi : Below w.heap.size w wr := (gca hBr hBm).trans (hK.below (B := w.heap.size) (gca hBr hBm).size (fun z hz e => by have := hBb.out; have := hBr.size; omega))
              have htl : Hid ((cu.take t).length = t) := by show _ = _; rw [List.length_take]; omega
              by_cases hlt2 : t < cu.length
              · have hc1 := hcl.out
                have hq1 := hq.out
                have w1' : (q : Int) < (im.length : Int) := by omega
                have w2' : (q : Int) < (p : Int) + 64 := by omega
                have w3' : (0 : Int) ≤ (q : Int) := by omega
                have hsub : (q : Int) - (p : Int) = (t : Int) := by omega
                have w4' : (0 : Int) ≤ (t : Int) := by omega
                have w5' : (t : Int) < 64 := by omega
                obtain ⟨x, b, off, hxk, hxm, hie, hc⟩ := (hia.grow hBi).get (k := q) (by omega)
                have d0 := hZ.2.cell (i := t) (by omega)
                have fz := hZ.2.frozen
                rw [hie]
                have hst : cu.take (t + 1) = cu.take t ++ [x] := by rw [take_snoc _ _ hlt2, hxk.out, hq.out, hcu.out, hp.out]; rw [hcu.out] at hlt2; rw [(cut_get hlt2).2.2]
                have hZp := hZ.push (by rw [htl.out]; omega) x
                rw [htl.out, ← hst] at hZp
                clear hc1 hq1
                go_wp2
                go_roundw
                case rel => exact ⟨t + 1, by omega, by rw [show p + (t + 1) = q + 1 by have := hq.out; omega]; go_num, hZp, hK.set (fun _ => rfl) _⟩
                case measure => simp [intOf]; have := hq.out; omega
              · have hte : t = cu.length := by omega
                subst hte
                rw [List.take_length] at hZ
                obtain ⟨bl, hbl⟩ := hid_ex (blkOf im j)
                have hble : cu ++ List.replicate (64 - cu.length) 0 = bl := by rw [hbl.out, hcu.out]; rfl
                have hcu64 : cu.length ≤ 64 := by rw [hcu.out]; exact cutOf_len im j
                have hfull : BRow wr Bb 64 bl := by rw [← hble]; exact hZ.full (n := 64 - cu.length) (Nat.add_sub_cancel' hcu64)
                have hbll : Hid (bl.length = 64) := by show _ = _; rw [hbl.out]; exact blkOf_len im j
                have hBoi := hBm.trans (hK.below (B := _) hBm.size (fun z hz e => by have := hBb.out; omega))
                have hSi := hSO.grow hBoi
                have hVi := hVr.grow hBoi
                have hq64 : (p : Int) / 64 = (j : Int) := by have := hp.out; omega
                obtain ⟨F, hF⟩ := hid_ex (firstOf s + j)
                have hF' : ((firstOf s : Nat) : Int) + (j : Int) = (F : Int) := by rw [hF.out]; omega
                have hFl : F ≤ 200 := by rw [hF.out]; exact first_le hs2 (Nat.le_of_lt (Nat.lt_of_lt_of_le hlt (nBlk_le hil)))
                have hFw := wrapV hFl
                have hends : ¬ ((q : Int) < (im.length : Int)) ∨ ((q : Int) < (im.length : Int) ∧ ¬ ((q : Int) < (p : Int) + 64)) := by have := hcl.out; have := hq.out; omega
                have hbri : bV ≤ wr.heap.size := by have := hK.size; have := hBm.size; omega
                have hlj : lo.length ≤ 64 := by rw [hll.out]; exact Nat.le_of_lt (Nat.lt_of_lt_of_le hlt (nBlk_le hil))
                rcases hends with w1' | ⟨w1', w2'⟩
                · go_wp2_with (first
                    | (go_at_call 161; refine (l4first_any s _ hs2).mono ?_; rintro e wl ⟨rfl, hbl1⟩; have hSl := hSi.grow hbl1; have hsl := hbl1.size)
                    | (at_builtin; refine wpList_append_lies _ rfl (.tmp 53) (.tmp 61) 86 rfl bV 151 j0 _ 3 40 Try.underlying86 hj hy0 hy1 hy2 rfl (by decide) _ _ _ rfl (hSl.own.alloc _) ⟨wl.heap.size, 0, none⟩ 1 1 [.bool false, .int .i64 (F : Int), .slice (some ⟨Bb, 0, none⟩) 64 64] rfl rfl (World.news_of_block (cs := #[.bool false, .int .i64 (F : Int), .slice (some ⟨Bb, 0, none⟩) 64 64]) (t := 151) (fr := (0, 0)) (blk_new_at _ _ _ (by simp))) (by simp [Value.oneCell']) (by decide) (by unfold maxLen; omega) (by omega) (by simp; omega) (wl.heap.size + 1) (by simp) ?_; intro g1 cc1 wa ho1 hg1 _ _))
                  have hSm := hSl.grow (gal (gre wl) (.cells #[.bool false, .int .i64 (F : Int), .slice (some ⟨Bb, 0, none⟩) 64 64] 151))
                  have hfu := hfull.kept (Kept.of_below (gca hbl1 (gal (gre wl) (.cells #[.bool false, .int .i64 (F : Int), .slice (some ⟨Bb, 0, none⟩) 64 64] 151))) (fun _ => False)) (fun e => e)
                  have hSO1 := hSm.more (ys := [⟨⟨false, (F : Int), bl⟩, some ⟨Bb, 0, none⟩, 64⟩]) (fun y hy => by rw [List.mem_singleton.1 hy]; exact Or.inr ⟨Bb, 64, rfl, by have := hBb.out; omega, hfu⟩) (hSO.far1 (fun b _ e => by have := some_addr e; have := hBb.out; omega)) (by simp only [oCells, LO.three, List.flatMap_cons, List.flatMap_nil, List.append_nil, hbll.out]; exact ho1) hg1
                  have hz1' : ∀ z, (Value.slice oa lo.length oc).ownBlock = some z → bV ≤ z := fun z e => (owns_isO hSm.own e).2
                  have hKa := Kept.of_grown hg1
                  have hVa := (hVi.grow (gca hbl1 (gal (gre wl) (.cells #[.bool false, .int .i64 (F : Int), .slice (some ⟨Bb, 0, none⟩) 64 64] 151)))).kept hKa (fun e => by have := hz1' _ e; omega)
                  have hBa := (gal (gca hBi hbl1) (.cells #[.bool false, .int .i64 (F : Int), .slice (some ⟨Bb, 0, none⟩) 64 64] 151)).trans (hKa.below (B := w.heap.size) (by have := hBi.size; simp; omega) (fun z hz e => by have := hz1' z e; omega))
                  have hsa : bV ≤ wa.heap.size := by have := hKa.size; simp at this; omega
                  go_roundw
                  case rel => exact ⟨j + 1, _, _, _, by omega, by have := hp.out; rw [show 64 * (j + 1) = p + 64 by omega]; go_num, by rw [List.length_append]; rfl, by show _ = _; rw [List.map_append, hlo.out, imgOps_succ, hF.out, hbl.out]; rfl, hSO1, hVa, hBa, hsa⟩
                  case measure => simp [intOf]; omega
                · go_wp2_with (first
                    | (go_at_call 161; refine (l4first_any s _ hs2).mono ?_; rintro e wl ⟨rfl, hbl1⟩; have hSl := hSi.grow hbl1; have hsl := hbl1.size)
                    | (at_builtin; refine wpList_append_lies _ rfl (.tmp 53) (.tmp 61) 86 rfl bV 151 j0 _ 3 40 Try.underlying86 hj hy0 hy1 hy2 rfl (by decide) _ _ _ rfl (hSl.own.alloc _) ⟨wl.heap.size, 0, none⟩ 1 1 [.bool false, .int .i64 (F : Int), .slice (some ⟨Bb, 0, none⟩) 64 64] rfl rfl (World.news_of_block (cs := #[.bool false, .int .i64 (F : Int), .slice (some ⟨Bb, 0, none⟩) 64 64]) (t := 151) (fr := (0, 0)) (blk_new_at _ _ _ (by simp))) (by simp [Value.oneCell']) (by decide) (by unfold maxLen; omega) (by omega) (by simp; omega) (wl.heap.size + 1) (by simp) ?_; intro g1 cc1 wa ho1 hg1 _ _))
                  have hSm := hSl.grow (gal (gre wl) (.cells #[.bool false, .int .i64 (F : Int), .slice (some ⟨Bb, 0, none⟩) 64 64] 151))
                  have hfu := hfull.kept (Kept.of_below (gca hbl1 (gal (gre wl) (.cells #[.bool false, .int .i64 (F : Int), .slice (some ⟨Bb, 0, none⟩) 64 64] 151))) (fun _ => False)) (fun e => e)
                  have hSO1 := hSm.more (ys := [⟨⟨false, (F : Int), bl⟩, some ⟨Bb, 0, none⟩, 64⟩]) (fun y hy => by rw [List.mem_singleton.1 hy]; exact Or.inr ⟨Bb, 64, rfl, by have := hBb.out; omega, hfu⟩) (hSO.far1 (fun b _ e => by have := some_addr e; have := hBb.out; omega)) (by simp only [oCells, LO.three, List.flatMap_cons, List.flatMap_nil, List.append_nil, hbll.out]; exact ho1) hg1
                  have hz1' : ∀ z, (Value.slice oa lo.length oc).ownBlock = some z → bV ≤ z := fun z e => (owns_isO hSm.own e).2
                  have hKa := Kept.of_grown hg1
                  have hVa := (hVi.grow (gca hbl1 (gal (gre wl) (.cells #[.bool false, .int .i64 (F : Int), .slice (some ⟨Bb, 0, none⟩) 64 64] 151)))).kept hKa (fun e => by have := hz1' _ e; omega)
                  have hBa := (gal (gca hBi hbl1) (.cells #[.bool false, .int .i64 (F : Int), .slice (some ⟨Bb, 0, none⟩) 64 64] 151)).trans (hKa.below (B := w.heap.size) (by have := hBi.size; simp; omega) (fun z hz e => by have := hz1' z e; omega))
                  have hsa : bV ≤ wa.heap.size := by have := hKa.size; simp at this; omega
                  go_roundw
                  case rel => exact ⟨j + 1, _, _, _, by omega, by have := hp.out; rw [show 64 * (j + 1) = p + 64 by omega]; go_num, by rw [List.length_append]; rfl, by show _ = _; rw [List.map_append, hlo.out, imgOps_succ, hF.out, hbl.out]; rfl, hSO1, hVa, hBa, hsa⟩
                  case measure => simp [intOf]; omega
          · have hpl : ¬ ((p : Int) < (im.length : Int)) := by have : ¬ 64 * j < im.length := fun e => hlt (nBlk_lt.2 e)
                                                               have := hp.out; omega
            obtain rfl : j = nBlk im := by omega
            have hn : nBlk im ≤ 64 := nBlk_le hil
            have hls : lo.length ≤ 64 := by rw [hll.out]; exact hn
            have hszr := hBr.size
            go_upto_region 18 with (at_builtin; refine wpList_append_lies _ rfl (.tmp 63) (.tmp 65) 86 rfl bV 151 j0 _ 3 40 Try.underlying86 hj hy0 hy1 hy2 rfl (by decide) _ _ _ rfl (hSO.own.alloc _) ⟨wr.heap.size, 0, none⟩ 1 1 [.bool true, .int .i64 0, .slice none 0 0] rfl rfl (World.news_of_block (cs := #[.bool true, .int .i64 0, .slice none 0 0]) (t := 151) (fr := (0, 0)) (blk_new_at _ _ _ (by simp))) (by simp [Value.oneCell']) (by decide) (by unfold maxLen; omega) (by omega) (by simp; omega) (wr.heap.size + 1) (by simp) ?_; intro g1 cc1 wa ho1 hg1 _ _)
            have hSa := hSO.grow (gal (gre wr) (.cells #[.bool true, .int .i64 0, .slice none 0 0] 151))
            have hSO1 := hSa.more (ys := [⟨syncO, none, 0⟩]) (fun y hy => Or.inl (by rw [List.mem_singleton.1 hy]; rfl)) (hSa.far1 (fun b hb => absurd rfl hb)) ho1 hg1
            have hz1' : ∀ z, (Value.slice oa lo.length oc).ownBlock = some z → bV ≤ z := fun z e => (owns_isO hSa.own e).2
            have hKa := Kept.of_grown hg1
            have hVa := (hVr.grow (gal (gre wr) (.cells #[.bool true, .int .i64 0, .slice none 0 0] 151))).kept hKa (fun e => by have := hz1' _ e; omega)
            have hBa := (gal hBr (.cells #[.bool true, .int .i64 0, .slice none 0 0] 151)).trans (hKa.below (B := w.heap.size) (by simp; omega) (fun z hz e => by have := hz1' z e; omega))
            have hsa : bV ≤ wa.heap.size := by have := hKa.size; simp at this; omega
            clear hg1 ho1 hSa hz1' hKa hSO
            obtain ⟨sm, hsm⟩ := hid_ex (sumN im)
            have ew1 : IntKind.i64.wrap (k.gen + 1) = k.gen + 1 := by rw [IntKind.wrap_i64]; omega
            have ew2 : IntKind.i64.wrap (sm : Int) = wrap64 (sm : Int) := by first | rfl | (rw [IntKind.wrap_i64]; unfold wrap64; omega)
            have hB : Below wa.heap.size wa wa.drew := gdr (gre _)
            have hSd := hVa.grow hB
            go_cut [11] from 67 (fun v wc => ∃ H, v = .pointer (some ⟨H, 0, none⟩) ∧ HBox wc H true (k.gen + 1) (im.length : Int) (wrap64 (sm : Int)) ∧ Below wa.heap.size wa wc)
            case first =>
              refine wp_regionU (fun u => V4 u R (.bool k.ok) (.int .i64 k.gen) (.int .i64 k.slot) (.slice oa1 k.bytes.length c1)) 99 (by kernel_rfl) hSd (fun _ => ?_)
              generalize wa.drew = wq at hB hSd ⊢
              refine anyU_take (i := 0) (v := ?_) rfl (by kernel_rfl) (by kernel_rfl) (by kernel_rfl) (by kernel_rfl) (fun _ _ _ h => h) (Or.inl ⟨by rfl, ?_⟩) hSd ?_
              rotate_left
              · intro u hSu; obtain ⟨_, s0, s1, s2, s3, sf⟩ := hSu; go_simp <;> with_reducible rfl
              simp only [Act.put, List.getElem_toArray, List.getElem_cons_zero, List.setIfInBounds_toArray, List.set_cons_zero, List.set_cons_succ]
              refine anyU_take (i := 1) (v := ?_) rfl (by kernel_rfl) (by kernel_rfl) (by kernel_rfl) (by kernel_rfl) (fun _ _ _ h => h) (Or.inl ⟨by rfl, ?_⟩) hSd ?_
              rotate_left
              · intro u hSu; obtain ⟨_, s0, s1, s2, s3, sf⟩ := hSu; go_simp <;> with_reducible rfl
              simp only [Act.put, List.getElem_toArray, List.getElem_cons_zero, List.getElem_cons_succ, List.setIfInBounds_toArray, List.set_cons_zero, List.set_cons_succ]
              refine anyU_take (i := 2) (v := ?_) rfl (by kernel_rfl) (by kernel_rfl) (by kernel_rfl) (by kernel_rfl) (fun _ _ _ h => h) (Or.inl ⟨by rfl, ?_⟩) hSd ?_
              rotate_left
              · intro u hSu; obtain ⟨_, s0, s1, s2, s3, sf⟩ := hSu; go_simp <;> with_reducible rfl
              simp only [Act.put, List.getElem_toArray, List.getElem_cons_zero, List.getElem_cons_succ, List.setIfInBounds_toArray, List.set_cons_zero, List.set_cons_succ]
              refine anyU_take (i := 3) (v := ?_) rfl (by kernel_rfl) (by kernel_rfl) (by kernel_rfl) (by kernel_rfl) (fun _ _ _ h => h) (Or.inl ⟨by rfl, ?_⟩) hSd ?_
              rotate_left
              · intro u hSu; obtain ⟨_, s0, s1, s2, s3, sf⟩ := hSu; go_simp <;> with_reducible rfl
              simp only [Act.put, List.getElem_toArray, List.getElem_cons_zero, List.getElem_cons_succ, List.setIfInBounds_toArray, List.set_cons_zero, List.set_cons_succ]
              refine anyU_take (i := 4) (v := ?_) rfl (by kernel_rfl) (by kernel_rfl) (by kernel_rfl) (by kernel_rfl) (fun _ _ _ h => h) (Or.inl ⟨by rfl, ?_⟩) hSd ?_
              rotate_left
              · intro u hSu; obtain ⟨_, s0, s1, s2, s3, sf⟩ := hSu; go_simp <;> with_reducible rfl
              simp only [Act.put, List.getElem_toArray, List.getElem_cons_zero, List.getElem_cons_succ, List.setIfInBounds_toArray, List.set_cons_zero, List.set_cons_succ]
              refine anyU_take (i := 5) (v := ?_) rfl (by kernel_rfl) (by kernel_rfl) (by kernel_rfl) (by kernel_rfl) (fun _ _ _ h => h) (Or.inl ⟨by rfl, ?_⟩) hSd ?_
              rotate_left
              · intro u hSu; obtain ⟨_, s0, s1, s2, s3, sf⟩ := hSu; go_simp <;> with_reducible rfl
              simp only [Act.put, List.getElem_toArray, List.getElem_cons_zero, List.getElem_cons_succ, List.setIfInBounds_toArray, List.set_cons_zero, List.set_cons_succ]
              refine anyU_pair (i := 6) (j := 9) (by kernel_rfl) rfl rfl (fun K hK => ?_) (fun K hK => ?_)
              · go_simp
                refine (l2sum_any ia im ic _ (hia.grow (gca hBa hB)) (by unfold maxLen; omega) hib).mono ?_
                rw [← hsm.out]
                rintro e w6 ⟨rfl, hb6⟩
                have hS6 := hSd.grow hb6
                refine hK.out _ _ hS6 ?_
                clear hK
                refine anyU_take (i := 7) (v := ?_) rfl (by kernel_rfl) (by kernel_rfl) (by kernel_rfl) (by kernel_rfl) (fun _ _ _ h => h) (Or.inl ⟨by rfl, ?_⟩) hS6 ?_
                rotate_left
                · intro u hSu; obtain ⟨_, s0, s1, s2, s3, sf⟩ := hSu; go_simp <;> with_reducible rfl
                simp only [Act.put, List.getElem_toArray, List.getElem_cons_zero, List.getElem_cons_succ, List.setIfInBounds_toArray, List.set_cons_zero, List.set_cons_succ]
                refine anyU_take (i := 8) (v := ?_) rfl (by kernel_rfl) (by kernel_rfl) (by kernel_rfl) (by kernel_rfl) (fun _ _ _ h => h) (Or.inl ⟨by rfl, ?_⟩) hS6 ?_
                rotate_left
                · intro u hSu; obtain ⟨_, s0, s1, s2, s3, sf⟩ := hSu; go_simp <;> with_reducible rfl
                simp only [Act.put, List.getElem_toArray, List.getElem_cons_zero, List.getElem_cons_succ, List.setIfInBounds_toArray, List.set_cons_zero, List.set_cons_succ]
                have hS7 := hS6.grow (gal (gre w6) (.cells #[.bool false, .int .i64 0, .int .i64 0, .int .i64 0] 74))
                refine anyU_one (i := 9) (by kernel_rfl) rfl (fun K hK => ?_)
                go_simp
                refine hK.out _ _ hS7 ?_
                clear hK
                refine anyU_one (i := 10) (by kernel_rfl) rfl (fun K hK => ?_)
                go_simp
                have hS8 := hS6.grow (gal (gre w6) (.cells #[.bool true, .int .i64 (k.gen + 1), .int .i64 (im.length : Int), .int .i64 (wrap64 (sm : Int))] 74))
                refine hK.out _ _ hS8 ?_
                clear hK
                refine anyU_done (by kernel_rfl) ?_
                go_wp2
                go_meet
                case rel => exact ⟨w6.heap.size, rfl, HBox.new w6 _ _ _ _ _, gal (gca hB hb6) _⟩
              · go_simp
                have hS6 := hSd.grow (gal (gre _) (.cells #[.bool false, .int .i64 0, .int .i64 0, .int .i64 0] 74))
                refine hK.out _ _ hS6 ?_
                clear hK
                have hHz := HV.new_at wq noH 74 wq.heap.size rfl
                have hbz := gal hB (.cells #[.bool false, .int .i64 0, .int .i64 0, .int .i64 0] 74)
                have hdz := hB.size
                have hRq := hSd.lt
                generalize wq.alloc (.cells #[.bool false, .int .i64 0, .int .i64 0, .int .i64 0] 74) = wz at hS6 hHz hbz ⊢
                generalize wq.heap.size = H at hHz hdz hRq ⊢
                refine anyU_one (i := 6) (by kernel_rfl) rfl (fun K hK => ?_)
                go_simp
                refine (l2sum_any ia im ic _ (hia.grow (gca hBa hbz)) (by unfold maxLen; omega) hib).mono ?_
                rw [← hsm.out]
                rintro e w6 ⟨rfl, hb6⟩
                have hS7 := hS6.grow hb6
                have hH7 := hHz.grow hb6
                refine hK.out _ _ hS7 ?_
                clear hK
                refine anyU_one (i := 7) (by kernel_rfl) rfl (fun K hK => ?_)
                go_simp
                refine hK.out _ _ hS7 ?_
                clear hK
                refine anyU_one (i := 8) (by kernel_rfl) rfl (fun K hK => ?_)
                go_simp
                refine hK.out _ _ hS7 ?_
                clear hK
                obtain ⟨⟨_, y0, y1, y2, y3⟩, yf⟩ := id hH7
                refine anyU_one (i := 10) (by kernel_rfl) rfl (fun K hK => ?_)
                go_simp
                obtain ⟨r0, r1, r2, r3, KR⟩ := ret4 hH7 (.bool true) (.int .i64 (k.gen + 1)) (.int .i64 (im.length : Int)) (.int .i64 (wrap64 (sm : Int)))
                have hS8 := hS7.kept KR (by omega)
                refine hK.out _ _ hS8 ?_
                clear hK
                refine anyU_done (by kernel_rfl) ?_
                go_wp2
                go_meet
                case rel => exact ⟨H, rfl, ⟨by have := KR.size; have := hH7.box.lt; omega, (World.cell?_setCell_other _ _ _ _ (by simp)).trans ((World.cell?_setCell_other _ _ _ _ (by simp)).trans ((World.cell?_setCell_other _ _ _ _ (by simp)).trans r0)), (World.cell?_setCell_other _ _ _ _ (by simp)).trans ((World.cell?_setCell_other _ _ _ _ (by simp)).trans r1), (World.cell?_setCell_other _ _ _ _ (by simp)).trans r2, r3⟩, (gca hbz hb6).trans (KR.below (B := wa.heap.size) (gca hbz hb6).size (fun z hz e => by omega))⟩
            case rest =>
              obtain ⟨H, rfl, hH, hbc⟩ := hcut
              obtain ⟨lo1, hlo1⟩ := hid_ex (lo ++ [⟨syncO, none, 0⟩])
              rw [← hlo1.out] at hSO1
              have hl1 : Hid (lo1.length = lo.length + 1) := by show _ = _; rw [hlo1.out, List.length_append]; rfl
              have hSc := hSO1.grow hbc
              have hBc := gca hBa hbc
              have hsc : bV ≤ wc.heap.size := by have := hbc.size; omega
              clear hSO1 hVa hB hSd hBa hsa hbc ew1 ew2
              obtain ⟨_, n0, n1, n2, n3⟩ := id hH
              obtain ⟨hb, hhb⟩ := hid_ex (headB (k.gen + 1) (im.length : Int) (wrap64 (sm : Int)))
              have hbl : hb.length ≤ 64 := by rw [hhb.out, headB_length]; omega
              go_upto_region 20 with (first
                | (go_at_call 117; refine (l4block_any true (k.gen + 1) (im.length : Int) (wrap64 (sm : Int)) _).mono ?_; rw [← hhb.out]; rintro e wd ⟨ob, cb, rfl, hOb, hbd⟩; have hSD := hSc.grow hbd; have hsd := hbd.size)
                | (at_builtin; refine wpList_append_lies _ rfl (.tmp 76) (.tmp 81) 86 rfl bV 151 j0 _ 3 40 Try.underlying86 hj hy0 hy1 hy2 rfl (by decide) _ _ _ rfl ((hSD.own_at hl1.out).alloc _) ⟨wd.heap.size, 0, none⟩ 1 1 [.bool false, .int .i64 (s : Int), .slice ob hb.length cb] rfl rfl (World.news_of_block (cs := #[.bool false, .int .i64 (s : Int), .slice ob hb.length cb]) (t := 151) (fr := (0, 0)) (blk_new_at _ _ _ (by simp))) (by simp [Value.oneCell']) (by decide) (by unfold maxLen; omega) (by omega) (by simp; omega) (wd.heap.size + 1) (by simp) ?_; intro g2 cc2 we ho2 hg2 _ _))
              have hMb := owns_mb hOb rfl
              have hfar2 := hSc.far1 (y := ⟨⟨false, (s : Int), hb⟩, ob, cb⟩) (fun b hne e => by rcases hMb with e0 | ⟨G, n, e1, e2, _⟩; exact absurd e0 hne; rw [e1] at e; have := some_addr e; omega)
              have hSe := hSD.grow (gal (gre wd) (.cells #[.bool false, .int .i64 (s : Int), .slice ob hb.length cb] 151))
              have hSO2 := hSe.more (ys := [⟨⟨false, (s : Int), hb⟩, ob, cb⟩]) (fun y hy => by rw [List.mem_singleton.1 hy]; exact (hMb.growO (gal (gre wd) _)).leH hsc) hfar2 (by rw [hl1.out]; exact ho2) (by rw [hl1.out]; exact hg2)
              have hz2' : ∀ z, (Value.slice (some ⟨g1, 0, none⟩) lo1.length cc1).ownBlock = some z → bV ≤ z := fun z e => (owns_isO hSe.own e).2
              rw [hl1.out] at hz2'
              have hKe := Kept.of_grown hg2
              have hBe := (gal (gca hBc hbd) (.cells #[.bool false, .int .i64 (s : Int), .slice ob hb.length cb] 151)).trans (hKe.below (B := w.heap.size) (by have := hbd.size; have := hBc.size; simp; omega) (fun z hz e => by have := hz2' z e; omega))
              have hse : bV ≤ we.heap.size := by have := hKe.size; simp at this; omega
              obtain ⟨lo2, hlo2⟩ := hid_ex (lo1 ++ [⟨⟨false, (s : Int), hb⟩, ob, cb⟩])
              rw [← hlo2.out] at hSO2
              have hl2 : Hid (lo2.length = lo.length + 1 + 1) := by show _ = _; rw [hlo2.out, List.length_append, hl1.out]; rfl
              clear ho2 hg2 hSe hz2' hKe hfar2 hMb hOb hSD hSc hBc hH n0 n1 n2 n3
              go_wp2_with (at_builtin; refine wpList_append_lies _ rfl (.tmp 83) (.tmp 85) 86 rfl bV 151 j0 _ 3 40 Try.underlying86 hj hy0 hy1 hy2 rfl (by decide) _ _ _ rfl ((hSO2.own_at hl2.out).alloc _) ⟨we.heap.size, 0, none⟩ 1 1 [.bool true, .int .i64 0, .slice none 0 0] rfl rfl (World.news_of_block (cs := #[.bool true, .int .i64 0, .slice none 0 0]) (t := 151) (fr := (0, 0)) (blk_new_at _ _ _ (by simp))) (by simp [Value.oneCell']) (by decide) (by unfold maxLen; omega) (by omega) (by simp; omega) (we.heap.size + 1) (by simp) ?_; intro g3 cc3 wf ho3 hg3 _ _)
              go_ret
              have hSf := hSO2.grow (gal (gre we) (.cells #[.bool true, .int .i64 0, .slice none 0 0] 151))
              have hSO3 := hSf.more (ys := [⟨syncO, none, 0⟩]) (fun y hy => Or.inl (by rw [List.mem_singleton.1 hy]; rfl)) (hSf.far1 (fun b hb => absurd rfl hb)) (by rw [hl2.out]; exact ho3) (by rw [hl2.out]; exact hg3)
              have hz3' : ∀ z, (Value.slice (some ⟨g2, 0, none⟩) lo2.length cc2).ownBlock = some z → bV ≤ z := fun z e => (owns_isO hSf.own e).2
              rw [hl2.out] at hz3'
              have hKf := Kept.of_grown hg3
              have hBf := (gal hBe (.cells #[.bool true, .int .i64 0, .slice none 0 0] 151)).trans (hKf.below (B := w.heap.size) (by have := hBe.size; simp; omega) (fun z hz e => by have := hz3' z e; omega))
              have hLl : L.length = lo.length + 1 + 1 + 1 := by rw [hLe.out, List.length_append, imgOps_len, hll.out]; rfl
              refine ⟨some ⟨g3, 0, none⟩, cc3, _, by rw [hLl]; rfl, ?_, hSO3.le hwV, hBf⟩
              rw [List.map_append, hlo2.out, List.map_append, hlo1.out, List.map_append, hlo.out, hLe.out, hhb.out, hsm.out, hs.out]
              simp [headO]

end Go.Proofs.Ythjddpkegooobab
