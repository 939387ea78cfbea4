import Derived.Laws.OwnMore
import Derived.Test.YthjddpkegooobaaPartW
import Derived.Test.YthjddpkegooobaaPartZA

/-
  L6F: the fullest graph. Own work.
-/
namespace Go.Proofs.Ythjddpkegooobaa
open Go.RowKit

def longL : List Nat := (List.range 1000).map fun j => j % 256
theorem longL_length : longL.length = 1000 := by simp [longL]
theorem longL_get {i : Nat} (h : i < 1000) : longL[i]! = i % 256 := by
  rw [getElem!_pos _ i (by rw [longL_length]; exact h)]
  simp [longL]
def tvOf (s : ByteArray) : GV := ⟨3, 0, s, 0⟩
def fullV (s : ByteArray) (k : Nat) : List GV := List.replicate k (tvOf s)
def fullG (vs : List GV) : GG := ⟨⟨4, 0, ⟨#[]⟩, 0⟩, [⟨0, vs⟩]⟩

theorem renVals_text {ord : List Nat} : ∀ {vs : List GV}, (∀ v, v ∈ vs → v.kind = 3) → renVals ord vs = vs
  | [], _ => rfl
  | v :: r, h => by
    have hv := h v (List.mem_cons_self ..)
    have e1 : renVal ord v = v := by unfold renVal; rw [if_neg (by rw [hv]; decide)]
    have e2 : renOrd ord v = ord := by unfold renOrd; rw [if_neg (by rw [hv]; simp)]
    rw [renVals, e1, e2, renVals_text (fun x hx => h x (List.mem_cons_of_mem _ hx))]
theorem canon_full {vs : List GV} (h : ∀ v, v ∈ vs → v.kind = 3) : canon (fullG vs) = fullG vs := by
  have e0 : renOrd [] (⟨4, 0, ⟨#[]⟩, 0⟩ : GV) = [0] := by simp [renOrd]
  have e1 : renVal [] (⟨4, 0, ⟨#[]⟩, 0⟩ : GV) = ⟨4, 0, ⟨#[]⟩, 0⟩ := by simp [renVal, e0]
  show (⟨renVal [] ⟨4, 0, ⟨#[]⟩, 0⟩, canonN [⟨0, vs⟩] (renOrd [] ⟨4, 0, ⟨#[]⟩, 0⟩) 1⟩ : GG) = _
  rw [e0, e1, canonN_succ]
  simp only [canonO, canonN, List.length_cons, List.length_nil]
  simp [fullG, renVals_text h]
theorem valsB_full (s : ByteArray) (hs : s.size = 1000) : ∀ k, (valsB (fullV s k)).length = 1003 * k
  | 0 => rfl
  | k + 1 => by
    have e : numB 1000 = [1000 % 128 + 128, 7] := by rw [numB_great (by decide), numB_small (by decide)]
    have ih := valsB_full s hs k
    show (valB (tvOf s) ++ valsB (fullV s k)).length = _
    rw [List.length_append, ih]
    simp [valB, tvOf, hs, e, bsOf_length]
    omega
theorem full4_length (s : ByteArray) (hs : s.size = 1000) : (imageB (fullG (fullV s 4))).length = 4027 := by
  have hk : ∀ v, v ∈ fullV s 4 → v.kind = 3 := fun v hv => by rw [List.eq_of_mem_replicate hv]; rfl
  have hl := valsB_full s hs 4
  have h1 : (lowB 8 (sumN (graphB (fullG (fullV s 4))))).length = 8 := by simp [lowB]
  unfold imageB formB
  rw [canon_full hk, List.length_append, h1]
  unfold graphB fullG
  simp only [nodesB, nodeB, List.length_append, List.append_nil]
  rw [hl]
  simp [valB, fullV, numB_small]

theorem BRow.at0 {w : World} {a n : Nat} {xs : List Nat} (h : BRow w a n xs) : BytesAt w (some ⟨a, 0, none⟩) xs := fun i hi => ⟨a, 0, rfl, by simpa using h.cell hi⟩

theorem fullV_length (s : ByteArray) (k : Nat) : (fullV s k).length = k := List.length_replicate
theorem fullV_snoc (s : ByteArray) (k : Nat) : fullV s k ++ [tvOf s] = fullV s (k + 1) := List.replicate_succ'.symm
theorem OwnG.one {w : World} {base : Nat} {tag : Int} {va : Option Addr} {vc : Nat} {vs : List GV} (h : w.ownsRow base 24 4 (.slice va vs.length vc) vs.length (valCells vs)) (hb : base ≤ w.heap.size) :
    OwnG (w.alloc (.cells #[.int .i64 tag, .slice va vs.length vc] 84)) base (some ⟨w.heap.size, 0, none⟩) 1 [⟨⟨tag, vs⟩, va, vc⟩] := by
  refine ⟨World.ownsRow_lit w _ 1 hb (by decide) rfl, fun x hx => ?_, fun x hx => ?_, fun i j hij hj => ?_⟩
  · obtain rfl := List.mem_singleton.1 hx
    exact h.alloc _
  · obtain rfl := List.mem_singleton.1 hx
    intro k hk e
    have h1 := h.lt k (by show (Value.slice va vs.length vc).ownBlock = _; rw [show va = some ⟨k, 0, none⟩ from hk]; rfl)
    have h2 := some_addr e
    omega
  · have : j < 1 := hj
    omega

/-- while the values are laid -/
def FInv (w : World) (b : Nat) (sa : Option Addr) (bs : List Nat) (cap at_ LB X k : Nat) (wr : World) : Prop :=
  ∃ (va : Option Addr) (vc : Nat), DVS w b sa bs cap 0 X wr at_ va vc (fullV (strB longL) k) ∧ BRow wr LB 1000 longL ∧ Five wr w.heap.size ⟨0, 0, ⟨#[]⟩, 0⟩ (.slice none 0 0)

set_option maxHeartbeats 8000000 in
set_option maxRecDepth 100000 in
theorem l6full_any (b : Nat) (sa : Option Addr) (bs : List Nat) (cap at_ : Nat) (w : World) (hc : DC w b sa bs cap at_) (hat : at_ + 16000 < 4611686018427387904) :
    Calls Try.prog 53 #[.pointer (some ⟨b, 0, none⟩)] w (GraphD w b sa bs cap at_) := by
  have hs0 := hc.lt
  obtain ⟨j0, hj, hy0, hy1, hy2⟩ := info_parts info_implNode
  obtain ⟨i0, hi, hz0, hz1, hz2⟩ := info_parts info_implVal
  obtain ⟨u0, hu, hu0, hu1, hu2⟩ := info_parts info_u8
  obtain ⟨M, hM⟩ := hid_ex (madeCells #[Value.int .u8 0] 1000)
  have hmk : ∀ u : World, (Instr.makeSlice 22 (.int .i64 1000) (.int .i64 1000)).run Try.prog u =
      .ok (.slice (some ⟨u.heap.size, 0, none⟩) 1000 1000) (u.alloc (.cells M 5)) := fun u => by
    have h := run_make (P := Try.prog) u 22 5 u0 _ Try.underlying22 hu hu0 .i64 .i64 (1000 : Int) (1000 : Int) (by omega) (Int.le_refl _) (by rw [hu2]; omega) (by omega)
    rw [hM.out]
    simpa [hu1, Value.cells] using h
  go_enter Try.func53, Try.ntmps53
  go_upto_region 2 with fail
  have hF0 := (Five.new_at w ⟨0, 0, ⟨#[]⟩, 0⟩ (.slice none 0 0) 27 w.heap.size rfl).kept ((Kept.refl (fun _ => False) _).alloc (.cells M 5)) (fun e => e)
  have hrow0 : ((w.alloc (.cells #[.int .i64 0, .int .i64 0, .string ⟨#[]⟩, .int .i64 0, .slice none 0 0] 27)).alloc (.cells M 5)).rowIs (w.heap.size + 1) 5 1000 (fun i => (#[Value.int .u8 0] : Array Value)[i % (#[Value.int .u8 0] : Array Value).size]!) := by
    have e1 : (w.alloc (.cells #[.int .i64 0, .int .i64 0, .string ⟨#[]⟩, .int .i64 0, .slice none 0 0] 27)).heap.size = w.heap.size + 1 := by simp
    have := rowIs_made_any (w.alloc (.cells #[.int .i64 0, .int .i64 0, .string ⟨#[]⟩, .int .i64 0, .slice none 0 0] 27)) #[Value.int .u8 0] 1000 5
    rw [← hM.out, e1] at this
    exact this
  have hK0 : Kept (fun _ => False) w ((w.alloc (.cells #[.int .i64 0, .int .i64 0, .string ⟨#[]⟩, .int .i64 0, .slice none 0 0] 27)).alloc (.cells M 5)) := ((Kept.refl _ w).alloc _).alloc _
  have hszA : ((w.alloc (.cells #[.int .i64 0, .int .i64 0, .string ⟨#[]⟩, .int .i64 0, .slice none 0 0] 27)).alloc (.cells M 5)).heap.size = w.heap.size + 1 + 1 := by simp
  generalize (w.alloc (.cells #[.int .i64 0, .int .i64 0, .string ⟨#[]⟩, .int .i64 0, .slice none 0 0] 27)).alloc (.cells M 5) = wA at hF0 hrow0 hK0 hszA ⊢
  obtain ⟨LB, hLB⟩ := hid_ex (w.heap.size + 1)
  rw [← hLB.out] at hrow0 ⊢
  clear hmk hM
  go_wp2
  go_loopw [11] (fun i wr => ∃ (k : Nat) (f : Nat → Value), k ≤ 1000 ∧ i = .int .i64 k ∧ wr.rowIs LB 5 1000 f ∧ (∀ j, j < k → f j = .int .u8 ((j % 256 : Nat) : Int)) ∧ Kept (fun z => z = LB) wA wr ∧ Hid (wr.heap.size = wA.heap.size)) (fun i _ => 1000 - (intOf i).toNat)
  case atStart => exact ⟨0, _, Nat.zero_le _, rfl, hrow0, fun i hi => absurd hi (Nat.not_lt_zero _), Kept.refl _ _, rfl⟩
  case round =>
    obtain ⟨k, f, hk, rfl, hrow, hin, hK, hsz⟩ := hrel
    by_cases hlt : k < 1000
    · have d0 := hrow.cell hlt
      have fz := hrow.frozen
      have e0 : (0 : Int) ≤ (k : Int) := by omega
      have e1 : (k : Int) < 1000 := by omega
      obtain ⟨x, hx⟩ := hid_ex (k % 256)
      have e2 : IntKind.u8.wrap (k : Int) = (x : Int) := by rw [hx.out, IntKind.wrap_u8']; omega
      go_wp2
      go_roundw
      case rel =>
        refine ⟨k + 1, _, by omega, by go_num, hrow.set _ _, fun j hj => ?_, hK.set (fun _ => rfl) _, by show _ = _; rw [← hsz.out]; simp [World.setCell]⟩
        show (if j = k then _ else _) = _
        split
        · rename_i e; rw [e, hx.out]
        · exact hin j (by omega)
      case measure => simp [intOf]; omega
    · have hk1 : k = 1000 := by omega
      have hd1 : ¬ ((k : Int) < 1000) := by omega
      have hBR : BRow wr LB 1000 longL := BRow.of_row hrow (by rw [longL_length]; exact Nat.le_refl _) (fun i hi => by rw [longL_length] at hi; rw [longL_get hi]; exact hin i (by omega))
      have hKw : Kept (fun k => k = b) w wr := (hK0.mono (fun _ _ e => e.elim)).trans hK (fun z hz e => by have := hLB.out; omega)
      have hDCr := (hc.kept hK0 (fun e => e) (fun _ _ _ e => e)).kept hK (by have := hLB.out; omega) (fun g off e e2 => by have := hc.sl g off e; have := hLB.out; omega)
      have hFr := hF0.kept hK (by have := hLB.out; omega)
      have hszr := hsz.out
      rw [hszA] at hszr
      clear hrow hin hK hrow0 hF0 hK0 hk1 hk hlt
      go_upto_region 8 with fail
      have hA2 : Kept (fun _ => False) wr (wr.alloc (.cells #[.int .i64 0, .slice none 0 0] 84)) := (Kept.refl _ wr).alloc _
      have hF2 : FInv w b sa bs cap at_ LB (w.heap.size + 1 + 1) 0 (wr.alloc (.cells #[.int .i64 0, .slice none 0 0] 84)) :=
        ⟨none, 0, ⟨hKw.trans hA2 (fun _ _ e => e.elim), ⟨hs0, by omega, by simp; omega⟩, hc.sl, Two.new_at wr 0 (.slice none 0 0) 84 _ hszr.symm, hDCr.kept hA2 (fun e => e) (fun _ _ _ e => e), World.ownsRow_nil _ _ _ _⟩, hBR.kept hA2 (fun e => e), hFr.kept hA2 (fun e => e)⟩
      have hLX : LB < w.heap.size + 1 + 1 := by have := hLB.out; omega
      have hLw : w.heap.size < LB := by have := hLB.out; omega
      generalize wr.alloc (.cells #[.int .i64 0, .slice none 0 0] 84) = w3 at hF2 ⊢
      have hXw : w.heap.size < w.heap.size + 1 + 1 := by omega
      generalize w.heap.size + 1 + 1 = X at hF2 hLX hXw ⊢
      clear hA2 hBR hKw hDCr hFr hszr hc
      go_wp2
      go_loopw [6] (fun i ws => ∃ k : Nat, i = .int .i64 (k : Int) ∧ k ≤ 4 ∧ FInv w b sa bs cap at_ LB X k ws) (fun i _ => 4 - (intOf i).toNat)
      case atStart => exact ⟨0, rfl, by omega, hF2⟩
      case round =>
        obtain ⟨k, rfl, hk4, va, vc, hV, hB, hR⟩ := hrel
        obtain ⟨p1, p2, p3⟩ := hV.blk
        obtain ⟨tz, t0, t1, tf, _⟩ := id hV.x
        by_cases hlt : k < 4
        · have hd : (k : Int) < 4 := by omega
          have hcv := conv_text (c := 1000) hB.at0 longL_length
          have hlen : Hid ((fullV (strB longL) k).length = k) := fullV_length _ _
          go_wp2_with (at_builtin; refine wpList_append_lies _ rfl (.tmp 25) (.tmp 29) 82 rfl (X + 1) 24 i0 _ 4 40 Try.underlying82 hi hz0 hz1 hz2 rfl (by decide) _ _ _ rfl (World.ownsRow.alloc hV.vals _) ⟨wr.heap.size, 0, none⟩ 1 1 (tvOf (strB longL)).four rfl rfl (World.news_of_block (cs := #[.int .i64 3, .int .i64 0, .string (strB longL), .int .i64 0]) (t := 24) (fr := (0, 0)) (blk_new_at _ _ _ rfl)) (by simp [GV.four, tvOf, Value.oneCell']) (by decide) (by have h7 := hlen.out; unfold maxLen; omega) (by have h7 := hlen.out; omega) (by simp; omega) (wr.heap.size + 1) (by simp) ?_; intro gg8 cc8 w8 hown8 hgrow8 hat8 hlt8; obtain ⟨ez8, e08, e18, ef8, _⟩ := (hV.x.kept ((Kept.refl (fun _ => False) wr).alloc (.cells #[.int .i64 3, .int .i64 0, .string (strB longL), .int .i64 0] 24)) (fun e => e)).kept (Kept.of_grown hgrow8) (fun hp => by have := (hV.vals.lt _ hp).1; omega))
          have hA8 : Kept (fun _ => False) wr (wr.alloc (.cells #[.int .i64 3, .int .i64 0, .string (strB longL), .int .i64 0] 24)) := (Kept.refl _ wr).alloc _
          have hG8 := Kept.of_grown hgrow8
          have hC8 := (Kept.refl (fun k => k = X) w8).set (a := ⟨X, 1, none⟩) (fun _ => rfl) (.slice (some ⟨gg8, 0, none⟩) ((fullV (strB longL) k).length + 1) cc8)
          have hfin := hV.step (v := tvOf (strB longL)) hV.rd (Kept.refl _ _) hown8 hgrow8
          rw [fullV_snoc] at hfin
          go_roundw
          case rel => exact ⟨k + 1, by go_num, by omega, some ⟨gg8, 0, none⟩, cc8, hfin, ((hB.kept hA8 (fun e => e)).kept hG8 (fun hp => by have := (hV.vals.lt _ hp).1; omega)).kept hC8 (by omega), ((hR.kept hA8 (fun e => e)).kept hG8 (fun hp => by have := (hV.vals.lt _ hp).1; omega)).kept hC8 (by omega)⟩
          case measure => simp [intOf]; omega
        · obtain rfl : k = 4 := by omega
          have hlen : Hid ((fullV (strB longL) 4).length = 4) := fullV_length _ _
          obtain ⟨vs, hvs⟩ := hid_ex (fullV (strB longL) 4)
          have hvk : ∀ v, v ∈ vs → v = tvOf (strB longL) := fun v hv => by rw [hvs.out] at hv; exact List.eq_of_mem_replicate hv
          have hls : (strB longL).size = 1000 := by rw [strB_size, longL_length]
          have hvo : ∀ n v, v ∈ vs → v.Ok ∧ okV n v = true := fun n v hv => by
            rw [hvk v hv]
            exact ⟨⟨by unfold I64 tvOf; dsimp only; omega, by unfold I64 tvOf; dsimp only; omega, by show (strB longL).size ≤ maxLen; rw [hls]; decide, by unfold I64 tvOf; dsimp only; omega⟩, by simp [okV, tvOf, hls]⟩
          have hvl : Hid (vs.length = 4) := by show _ = _; rw [hvs.out]; exact hlen.out
          have hgO : (fullG vs).Ok := ⟨⟨by show I64 4; unfold I64; omega, by show I64 0; unfold I64; omega, by show (0 : Nat) ≤ maxLen; decide, by show I64 0; unfold I64; omega⟩, by show 1 ≤ maxLen; decide, fun x hx => by obtain rfl := List.mem_singleton.1 hx; exact ⟨by show I64 0; unfold I64; omega, by show vs.length ≤ maxLen; rw [hvl.out]; decide, fun v hv => (hvo 1 v hv).1⟩⟩
          have hgok : okG (fullG vs) = true := by
            have := okN_of (n := 1) (x := ⟨0, vs⟩) (by show (0 : Int) ≤ 0; omega) (by show (0 : Int) ≤ 1000; omega) (by show vs.length ≤ 100; rw [hvl.out]; decide) (fun v hv => (hvo 1 v hv).2)
            simp [okG, fullG, okV, this]
          have hil : (imageB (fullG vs)).length = 4027 := by rw [hvs.out]; exact full4_length _ hls
          rw [← hvs.out] at hV t1
          have hOG := OwnG.one (tag := 0) hV.vals (by omega)
          have hat1 := hOG.at_
          go_upto_region 13 with (first
            | (go_at_call 72; refine (l2pack_any _ 1 (fullG vs) _ hgO hgok hat1).mono ?_; rintro e w5 ⟨oa, oc, he, ho5, hb5⟩; rw [hil] at he; subst he)
            | (go_at_call_of 52 ((3 : Int)); refine (l6pick_of b sa bs cap at_ 3 3 w5 rfl ((hV.rd.kept ((Kept.refl (fun _ => False) _).alloc _) (fun e => e) (fun _ _ _ e => e)).kept (Kept.of_below hb5 (fun _ => False)) (fun e => e) (fun _ _ _ e => e)) (by omega) (by omega) (by omega)).mono ?_; rintro e w6 ⟨y, at6, hy, ha6, rfl, hk6⟩))
          obtain ⟨r, hr, hr68⟩ : ∃ r : Nat, (66 + (y : Int)) = (r : Int) ∧ r ≤ 68 := ⟨66 + y, by omega, by omega⟩
          rw [hr]
          have hAw : Kept (fun k => k = b) wr (wr.alloc (.cells #[.int .i64 0, .slice va vs.length vc] 84)) := (Kept.refl _ wr).alloc _
          have hK7 : Kept (fun k => k = b) wr w6.drew := kk (hAw.trans (Kept.of_below hb5 (fun k => k = b)) (fun _ _ e => e)) (kk hk6.kept (Kept.refl (fun k => k = b) w6).drew)
          have hD7 : DC w6.drew b sa bs cap at6 := hk6.dc.kept ((Kept.refl (fun _ => False) w6).drew) (fun e => e) (fun _ _ _ e => e)
          have hX7 := hV.x.kept hK7 (by omega)
          have hB7 := hB.kept hK7 (by omega)
          have hR7 := hR.kept hK7 (by omega)
          have hv7 : Hid _ := hK7.owns hV.vals (fun k hk hp => by have := (hV.vals.lt k hk).1; omega)
          obtain ⟨_, _, x1, _, _⟩ := id hX7
          obtain ⟨tx, htx⟩ := hid_ex (strB (longL.take r))
          have hcvU : Hid (∀ u : World, BRow u LB 1000 longL → (convert 22 9 (.slice (some ⟨LB, 0, none⟩) r 1000)).run Try.prog u = .ok (.string tx) u) := fun u hu => by
            rw [htx.out]
            refine conv_text (w := u) (n := r) (c := 1000) (ys := longL.take r) (a := some ⟨LB, 0, none⟩) (fun i hi => ?_) (by rw [List.length_take, longL_length]; omega)
            have h1 : i < r := by rw [List.length_take] at hi; omega
            have h2 : i < longL.length := by rw [longL_length]; omega
            refine ⟨LB, 0, rfl, ?_⟩
            have h3 := hu.cell h2
            rw [getElem!_pos _ i hi, List.getElem_take, ← getElem!_pos longL i h2]
            simpa using h3
          have hts : tx.size ≤ 1000 := by rw [htx.out, strB_size, List.length_take, longL_length]; omega
          have hcv := hcvU.out _ hB7
          have hr0 : (0 : Int) ≤ (r : Int) := by omega
          have hr1 : (r : Int) ≤ 1000 := by omega
          have hr2 : r ≤ 1000 := by omega
          have hs7 := hK7.size
          refine wp_regionU (fun u => u.cell? ⟨X, 1, none⟩ = some (.slice va vs.length vc) ∧ (convert 22 9 (.slice (some ⟨LB, 0, none⟩) r 1000)).run Try.prog u = .ok (.string tx) u) 10 (by kernel_rfl) ⟨x1, hcv⟩ (fun hS0 => ?_)
          generalize w6.drew = w7 at hK7 hD7 hX7 hB7 hR7 hv7 x1 hcv hs7 hS0 ⊢
          clear t0 t1 tf
          refine anyU_take (i := 0) (v := ?_) rfl (by kernel_rfl) (by kernel_rfl) (by kernel_rfl) (by kernel_rfl) (fun _ _ _ h => h) (Or.inl ⟨by rfl, ?_⟩) hS0 ?_
          rotate_left
          · intro u hSu; obtain ⟨q0, q1⟩ := hSu; go_simp <;> with_reducible rfl
          simp only [Act.put, List.getElem_toArray, List.getElem_cons_zero, List.setIfInBounds_toArray, List.set_cons_zero, List.set_cons_succ]
          refine anyU_take (i := 1) (v := ?_) rfl (by kernel_rfl) (by kernel_rfl) (by kernel_rfl) (by kernel_rfl) (fun _ _ _ h => h) (Or.inl ⟨by rfl, ?_⟩) hS0 ?_
          rotate_left
          · intro u hSu; obtain ⟨q0, q1⟩ := hSu; go_simp <;> with_reducible rfl
          simp only [Act.put, List.getElem_toArray, List.getElem_cons_zero, List.getElem_cons_succ, List.setIfInBounds_toArray, List.set_cons_zero, List.set_cons_succ]
          refine anyU_take (i := 2) (v := ?_) rfl (by kernel_rfl) (by kernel_rfl) (by kernel_rfl) (by kernel_rfl) (fun _ _ _ h => h) (Or.inl ⟨by rfl, ?_⟩) hS0 ?_
          rotate_left
          · intro u hSu; obtain ⟨q0, q1⟩ := hSu; go_simp <;> with_reducible rfl
          simp only [Act.put, List.getElem_toArray, List.getElem_cons_zero, List.getElem_cons_succ, List.setIfInBounds_toArray, List.set_cons_zero, List.set_cons_succ]
          refine anyU_take (i := 3) (v := ?_) rfl (by kernel_rfl) (by kernel_rfl) (by kernel_rfl) (by kernel_rfl) (fun _ _ _ h => h) (Or.inl ⟨by rfl, ?_⟩) hS0 ?_
          rotate_left
          · intro u hSu; obtain ⟨q0, q1⟩ := hSu; go_simp <;> with_reducible rfl
          simp only [Act.put, List.getElem_toArray, List.getElem_cons_zero, List.getElem_cons_succ, List.setIfInBounds_toArray, List.set_cons_zero, List.set_cons_succ]
          refine anyU_take (i := 4) (v := ?_) rfl (by kernel_rfl) (by kernel_rfl) (by kernel_rfl) (by kernel_rfl) (fun _ _ _ h => h) (Or.inl ⟨by rfl, ?_⟩) hS0 ?_
          rotate_left
          · intro u hSu; obtain ⟨q0, q1⟩ := hSu; go_simp <;> with_reducible rfl
          simp only [Act.put, List.getElem_toArray, List.getElem_cons_zero, List.getElem_cons_succ, List.setIfInBounds_toArray, List.set_cons_zero, List.set_cons_succ]
          refine anyU_take (i := 5) (v := ?_) rfl (by kernel_rfl) (by kernel_rfl) (by kernel_rfl) (by kernel_rfl) (fun _ _ _ h => h) (Or.inl ⟨by rfl, ?_⟩) hS0 ?_
          rotate_left
          · intro u hSu; obtain ⟨q0, q1⟩ := hSu; go_simp <;> with_reducible rfl
          simp only [Act.put, List.getElem_toArray, List.getElem_cons_zero, List.getElem_cons_succ, List.setIfInBounds_toArray, List.set_cons_zero, List.set_cons_succ]
          refine anyU_take (i := 6) (v := ?_) rfl (by kernel_rfl) (by kernel_rfl) (by kernel_rfl) (by kernel_rfl) (fun _ _ _ h => h) (Or.inl ⟨by rfl, ?_⟩) hS0 ?_
          rotate_left
          · intro u hSu; obtain ⟨q0, q1⟩ := hSu; go_simp <;> with_reducible rfl
          simp only [Act.put, List.getElem_toArray, List.getElem_cons_zero, List.getElem_cons_succ, List.setIfInBounds_toArray, List.set_cons_zero, List.set_cons_succ]
          have hB8 := hB7.kept ((Kept.refl (fun _ => False) w7).alloc (.cells #[.int .i64 3, .int .i64 0, .string tx, .int .i64 0] 24)) (fun e => e)
          have hX8 := hX7.kept ((Kept.refl (fun _ => False) w7).alloc (.cells #[.int .i64 3, .int .i64 0, .string tx, .int .i64 0] 24)) (fun e => e)
          obtain ⟨_, _, x18, _, _⟩ := id hX8
          have hc8 : Hid _ := And.intro x18 (hcvU.out _ hB8)
          clear x18
          refine anyU_one (i := 7) (by kernel_rfl) rfl (fun K hK => ?_)
          go_simp
          refine hK.out _ _ hc8.out ?_
          clear hK
          refine anyU_one (i := 8) (by kernel_rfl) rfl (fun K hK => ?_)
          refine step_append_lies _ (by rfl) (.tmp 45) (.tmp 51) 82 rfl (X + 1) 24 i0 _ 4 40 Try.underlying82 hi hz0 hz1 hz2 rfl (by decide) (.slice va vs.length vc) vs.length (valCells vs) (by rfl) (World.ownsRow.alloc hv7.out _) ⟨w7.heap.size, 0, none⟩ 1 1 (tvOf tx).four (by rfl) rfl (World.news_of_block (cs := #[.int .i64 3, .int .i64 0, .string tx, .int .i64 0]) (t := 24) (fr := (0, 0)) (blk_new_at _ _ _ rfl)) (by simp [GV.four, tvOf, Value.oneCell']) (by decide) (by have h7 := hvl.out; unfold maxLen; omega) (by have h7 := hvl.out; omega) (by simp; omega) (w7.heap.size + 1) (by simp) ?_
          intro gg cc w9 hown9 hgrow9 hat9 hlt9
          have hG9 := Kept.of_grown hgrow9
          have hX9 := hX8.kept hG9 (fun hp => by have := (hV.vals.lt _ hp).1; omega)
          have hB9 := hB8.kept hG9 (fun hp => by have := (hV.vals.lt _ hp).1; omega)
          have hR9 := (hR7.kept ((Kept.refl (fun _ => False) w7).alloc _) (fun e => e)).kept hG9 (fun hp => by have := (hV.vals.lt _ hp).1; omega)
          obtain ⟨yz, y0, y1, yf, _⟩ := id hX9
          have hc9 : Hid _ := And.intro y1 (hcvU.out _ hB9)
          refine hK.out _ _ hc9.out ?_
          clear hK
          simp only [Act.put, List.getElem_toArray, List.getElem_cons_zero, List.getElem_cons_succ, List.setIfInBounds_toArray, List.set_cons_zero, List.set_cons_succ]
          refine anyU_one (i := 9) (by kernel_rfl) rfl (fun K hK => ?_)
          go_simp
          refine hK.out _ _ hc9.out ?_
          clear hK
          refine anyU_last (by kernel_rfl) rfl (by kernel_rfl) (fun K hK => ?_)
          go_simp
          refine hK.out _ _ ?_
          clear hK
          have hfin := hV.step (v := tvOf tx) hD7 hK7 hown9 hgrow9
          have hR10 := hR9.kept ((Kept.refl (fun k => k = X) w9).set (a := ⟨X, 1, none⟩) (fun _ => rfl) (.slice (some ⟨gg, 0, none⟩) (vs.length + 1) cc)) (by omega)
          generalize w9.setCell ⟨X, 1, none⟩ (.slice (some ⟨gg, 0, none⟩) (vs.length + 1) cc) = wF at hfin hR10 ⊢
          clear hX9 hB9 hR9 yz y0 y1 yf hc9 hc8 hX8 hB8 hS0 x1 hcv hX7 hB7 hR7
          obtain ⟨us, hus⟩ := hid_ex (vs ++ [tvOf tx])
          rw [← hus.out] at hfin
          have hlu : Hid (us.length = vs.length + 1) := by show _ = _; rw [hus.out]; simp
          rw [← hlu.out]
          have hwu : ∀ n v, v ∈ us → v.Ok ∧ okV n v = true := fun n v hv => by
            rw [hus.out] at hv
            rcases List.mem_append.1 hv with hv | hv
            · exact hvo n v hv
            · obtain rfl := List.mem_singleton.1 hv
              exact ⟨⟨by show I64 3; unfold I64; omega, by show I64 0; unfold I64; omega, by show tx.size ≤ maxLen; unfold maxLen; omega, by show I64 0; unfold I64; omega⟩, by simp [okV, tvOf]; omega⟩
          obtain ⟨f1, f2, f3⟩ := hfin.blk
          obtain ⟨fz, f0, f1', ff, _⟩ := id hfin.x
          have hOGF := OwnG.one (tag := 0) hfin.vals (by omega)
          have hRG := hR10.kept ((Kept.refl (fun _ => False) wF).alloc (.cells #[.int .i64 0, .slice (some ⟨gg, 0, none⟩) us.length cc] 84)) (fun e => e)
          obtain ⟨rz, r0, r1', r2, r3, r4, rf_⟩ := id hRG
          go_wp2
          have hRf := (hRG.rootS ⟨4, 0, ⟨#[]⟩, 0⟩).set (s' := .slice (some ⟨wF.heap.size, 0, none⟩) 1 1)
          have hAF : Kept (fun k => k = w.heap.size) wF (wF.alloc (.cells #[.int .i64 0, .slice (some ⟨gg, 0, none⟩) us.length cc] 84)) := (Kept.refl _ wF).alloc _
          have hKR := ((((((Kept.refl (fun k => k = w.heap.size) (wF.alloc (.cells #[.int .i64 0, .slice (some ⟨gg, 0, none⟩) us.length cc] 84))).set (a := ⟨w.heap.size, 0, none⟩) (fun _ => rfl) (.int .i64 4)).set (a := ⟨w.heap.size, 1, none⟩) (fun _ => rfl) (.int .i64 0)).set (a := ⟨w.heap.size, 2, none⟩) (fun _ => rfl) (.string ⟨#[]⟩)).set (a := ⟨w.heap.size, 3, none⟩) (fun _ => rfl) (.int .i64 0)).set (a := ⟨w.heap.size, 4, none⟩) (fun _ => rfl) (.slice (some ⟨wF.heap.size, 0, none⟩) 1 1))
          dsimp only at hRf
          generalize ((((((wF.alloc (.cells #[.int .i64 0, .slice (some ⟨gg, 0, none⟩) us.length cc] 84)).setCell ⟨w.heap.size, 0, none⟩ (.int .i64 4)).setCell ⟨w.heap.size, 1, none⟩ (.int .i64 0)).setCell ⟨w.heap.size, 2, none⟩ (.string ⟨#[]⟩)).setCell ⟨w.heap.size, 3, none⟩ (.int .i64 0)).setCell ⟨w.heap.size, 4, none⟩ (.slice (some ⟨wF.heap.size, 0, none⟩) 1 1)) = wG at hRf hKR ⊢
          obtain ⟨_, s0, s1, s2, s3, s4, _⟩ := hRf
          have hKK := hAF.trans hKR (fun _ _ e => e)
          have hgg := hfin.vals.lt gg rfl
          refine bodyPost_ret (v := (fullG us).val (some ⟨wF.heap.size, 0, none⟩) 1) (by simp [results, Try.results53, go_sem, s0, s1, s2, s3, s4, GG.val, fullG]) rfl ⟨fullG us, some ⟨wF.heap.size, 0, none⟩, 1, [⟨⟨0, us⟩, some ⟨gg, 0, none⟩, cc⟩], at6, rfl, rfl, ?_, ?_, ?_, by omega, ?_, ?_⟩
          · exact ⟨⟨by show I64 4; unfold I64; omega, by show I64 0; unfold I64; omega, by show (0 : Nat) ≤ maxLen; decide, by show I64 0; unfold I64; omega⟩, by show 1 ≤ maxLen; decide, fun x hx => by obtain rfl := List.mem_singleton.1 hx; exact ⟨by show I64 0; unfold I64; omega, by show us.length ≤ maxLen; rw [hlu.out, hvl.out]; decide, fun v hv => (hwu 1 v hv).1⟩⟩
          · have := okN_of (n := 1) (x := ⟨0, us⟩) (by show (0 : Int) ≤ 0; omega) (by show (0 : Int) ≤ 1000; omega) (by show us.length ≤ 100; rw [hlu.out, hvl.out]; decide) (fun v hv => (hwu 1 v hv).2)
            simp [okG, fullG, okV, this]
          · refine (hOGF.kept hKR (fun k e hp => ?_) (fun x hx k e hp => ?_)).le (by omega)
            · have := some_addr e; omega
            · obtain rfl := List.mem_singleton.1 hx
              have := some_addr e; omega
          · exact hfin.rd.kept hKK (by omega) (fun g off e hp => by have := hfin.low g off e; omega)
          · exact hfin.kept.trans hKK (fun k hk e => by omega)

end Go.Proofs.Ythjddpkegooobaa

/-
  L6D: a graph for a law, drawn. Own work.
-/
namespace Go.Proofs.Ythjddpkegooobaa
open Go.RowKit

theorem DC.new {w : World} {sa : Option Addr} {bs : List Nat} {cap : Nat} (t : Nat) (hb : BytesAt w sa bs) (hu : ∀ x, x ∈ bs → x < 256) (hl : bs.length ≤ maxLen) (hs : ∀ g off, sa = some ⟨g, off, none⟩ → g < w.heap.size) :
    DC (w.alloc (.cells #[.slice sa bs.length cap, .int .i64 0, .int .u64 0] t)) w.heap.size sa bs cap 0 := by
  refine ⟨by simp, ?_, ?_, ⟨0, by decide, ?_⟩, fun o => ?_, hb.kept ((Kept.refl (fun _ => False) w).alloc _) (fun _ _ _ e => e), fun g off e => ?_, hu, hl, fun g off e => ?_⟩
  · simp [go_sem]
  · simp [go_sem]
  · simp [go_sem]
  · simp
  · have := hs g off e; omega
  · have := hs g off e; simp; omega

/-- what a law's drawn graph is -/
def DrawnPost (w : World) (e : Ending) (w' : World) : Prop :=
  ∃ (g : GG) (na : Option Addr) (nc : Nat) (nl : List NL), e = .returned (g.val na nc) ∧ nl.map (·.n) = g.nodes ∧ g.Ok ∧ okG g = true ∧ OwnG w' w.heap.size na nc nl ∧ Below w.heap.size w w'

set_option maxHeartbeats 4000000 in
set_option maxRecDepth 100000 in
theorem drawn_any (sa : Option Addr) (bs : List Nat) (cap : Nat) (w : World) (hb : BytesAt w sa bs) (hu : ∀ x, x ∈ bs → x < 256) (hl : bs.length ≤ maxLen) (hs : ∀ g off, sa = some ⟨g, off, none⟩ → g < w.heap.size) :
    Calls Try.prog 11 #[.slice sa bs.length cap] w (DrawnPost w) := by
  obtain ⟨wA, hwA⟩ : ∃ wA, Hid (wA = w.alloc (.cells #[.int .i64 0, .int .i64 0, .string ⟨#[]⟩, .int .i64 0, .slice none 0 0] 27)) := ⟨_, rfl⟩
  have hsA : wA.heap.size = w.heap.size + 1 := by rw [hwA.out]; simp
  have hFA : Five wA w.heap.size ⟨0, 0, ⟨#[]⟩, 0⟩ (.slice none 0 0) := by rw [hwA.out]; exact Five.new_at w ⟨0, 0, ⟨#[]⟩, 0⟩ (.slice none 0 0) 27 w.heap.size rfl
  have hKA : Kept (fun _ => False) w wA := by rw [hwA.out]; exact (Kept.refl _ w).alloc _
  have hDC := DC.new (w := wA) (cap := cap) 75 (hb.kept hKA (fun _ _ _ e => e)) hu hl (fun g off e => by have := hs g off e; omega)
  rw [hsA] at hDC
  have hKB0 : Kept (fun _ => False) wA (wA.alloc (.cells #[.slice sa bs.length cap, .int .i64 0, .int .u64 0] 75)) := (Kept.refl _ wA).alloc _
  have hKB : Kept (fun _ => False) w (wA.alloc (.cells #[.slice sa bs.length cap, .int .i64 0, .int .u64 0] 75)) := hKA.trans hKB0 (fun _ _ e => e)
  have hFB := hFA.kept hKB0 (fun e => e)
  have hszB : (wA.alloc (.cells #[.slice sa bs.length cap, .int .i64 0, .int .u64 0] 75)).heap.size = w.heap.size + 1 + 1 := by simp [hsA]
  go_enter Try.func11, Try.ntmps11
  go_wp2_with (go_at_call_of 52 ((20 : Int)); rw [← hwA.out]; refine (l6pick_of (w.heap.size + 1) sa bs cap 0 20 20 _ rfl hDC (by omega) (by omega) (by omega)).mono ?_; rintro e w2 ⟨x, at2, hx, ha2, rfl, hk2⟩; have hF2 := hFB.kept hk2.kept (by omega); have hs2 := hk2.kept.size; rw [hszB] at hs2; obtain rfl | hx1 : x = 0 ∨ 1 ≤ x := by omega)
  · refine (l6full_any (w.heap.size + 1) sa bs cap at2 w2 hk2.dc (by omega)).mono ?_
    rintro e w3 ⟨g, na, nc, nl, at3, rfl, hn, hg, hok, hO, ha3, hk3⟩
    have hF3 := hF2.kept hk3.kept (by omega)
    obtain ⟨rz, r0, r1', r2, r3, r4, rf_⟩ := id hF3
    go_wp2
    have hRf := (hF3.rootS g.root).set (s' := .slice na g.nodes.length nc)
    have hKR : Kept (fun k => k = w.heap.size) w3 (((((w3.setCell ⟨w.heap.size, 0, none⟩ (.int .i64 g.root.kind)).setCell ⟨w.heap.size, 1, none⟩ (.int .i64 g.root.num)).setCell ⟨w.heap.size, 2, none⟩ (.string g.root.text)).setCell ⟨w.heap.size, 3, none⟩ (.int .i64 g.root.node)).setCell ⟨w.heap.size, 4, none⟩ (.slice na g.nodes.length nc)) := (((((Kept.refl (fun k => k = w.heap.size) w3).set (fun _ => rfl) _).set (fun _ => rfl) _).set (fun _ => rfl) _).set (fun _ => rfl) _).set (fun _ => rfl) _
    generalize ((((w3.setCell ⟨w.heap.size, 0, none⟩ (.int .i64 g.root.kind)).setCell ⟨w.heap.size, 1, none⟩ (.int .i64 g.root.num)).setCell ⟨w.heap.size, 2, none⟩ (.string g.root.text)).setCell ⟨w.heap.size, 3, none⟩ (.int .i64 g.root.node)).setCell ⟨w.heap.size, 4, none⟩ (.slice na g.nodes.length nc) = w9 at hRf hKR ⊢
    obtain ⟨_, s0, s1, s2, s3, s4, _⟩ := hRf
    have hs3 := hk3.kept.size
    refine bodyPost_ret (v := g.val na nc) (by simp [results, Try.results11, go_sem, s0, s1, s2, s3, s4, GG.val]) rfl ⟨g, na, nc, nl, rfl, hn, hg, hok, ?_, ?_⟩
    · refine (hO.kept hKR (fun k e hp => ?_) (fun x hx k e hp => ?_)).le (by omega)
      · have := (hO.nodes.lt k (by rw [e]; rfl)).1; omega
      · have := ((hO.vals x hx).lt k (by rw [e]; rfl)).1; omega
    · have hfin := ((hKB.trans hk2.kept (fun k hk e => by omega)).trans hk3.kept (fun k hk e => by omega)).trans hKR (fun k hk e => by omega)
      exact hfin.below (Nat.le_refl _) (fun k hk e => e)
  · have hx2 : ¬ ((x : Int) = 0) := by omega
    refine (l6graph_any (w.heap.size + 1) sa bs cap at2 w2 hk2.dc (by omega)).mono ?_
    rintro e w3 ⟨g, na, nc, nl, at3, rfl, hn, hg, hok, hO, ha3, hk3⟩
    have hF3 := hF2.kept hk3.kept (by omega)
    obtain ⟨rz, r0, r1', r2, r3, r4, rf_⟩ := id hF3
    go_wp2
    have hRf := (hF3.rootS g.root).set (s' := .slice na g.nodes.length nc)
    have hKR : Kept (fun k => k = w.heap.size) w3 (((((w3.setCell ⟨w.heap.size, 0, none⟩ (.int .i64 g.root.kind)).setCell ⟨w.heap.size, 1, none⟩ (.int .i64 g.root.num)).setCell ⟨w.heap.size, 2, none⟩ (.string g.root.text)).setCell ⟨w.heap.size, 3, none⟩ (.int .i64 g.root.node)).setCell ⟨w.heap.size, 4, none⟩ (.slice na g.nodes.length nc)) := (((((Kept.refl (fun k => k = w.heap.size) w3).set (fun _ => rfl) _).set (fun _ => rfl) _).set (fun _ => rfl) _).set (fun _ => rfl) _).set (fun _ => rfl) _
    generalize ((((w3.setCell ⟨w.heap.size, 0, none⟩ (.int .i64 g.root.kind)).setCell ⟨w.heap.size, 1, none⟩ (.int .i64 g.root.num)).setCell ⟨w.heap.size, 2, none⟩ (.string g.root.text)).setCell ⟨w.heap.size, 3, none⟩ (.int .i64 g.root.node)).setCell ⟨w.heap.size, 4, none⟩ (.slice na g.nodes.length nc) = w9 at hRf hKR ⊢
    obtain ⟨_, s0, s1, s2, s3, s4, _⟩ := hRf
    have hs3 := hk3.kept.size
    refine bodyPost_ret (v := g.val na nc) (by simp [results, Try.results11, go_sem, s0, s1, s2, s3, s4, GG.val]) rfl ⟨g, na, nc, nl, rfl, hn, hg, hok, ?_, ?_⟩
    · refine (hO.kept hKR (fun k e hp => ?_) (fun x hx k e hp => ?_)).le (by omega)
      · have := (hO.nodes.lt k (by rw [e]; rfl)).1; omega
      · have := ((hO.vals x hx).lt k (by rw [e]; rfl)).1; omega
    · have hfin := ((hKB.trans hk2.kept (fun k hk e => by omega)).trans hk3.kept (fun k hk e => by omega)).trans hKR (fun k hk e => by omega)
      exact hfin.below (Nat.le_refl _) (fun k hk e => e)

end Go.Proofs.Ythjddpkegooobaa

/-
  SHEAD2: the specification's HeadOf. Own work.
-/
namespace Go.Proofs.Ythjddpkegooobaa
open Go.RowKit

def DD.headOf (d : DD) (b : Int) : HH := if d.ok = true ∧ 0 ≤ b ∧ b < 2 then Go.Proofs.Ythjddpkegooobaa.headOf (d.rd b.toNat) else noH

end Go.Proofs.Ythjddpkegooobaa

/-
  SHEAD2: the specification's HeadOf. Own work.
-/
namespace Go.Proofs.Ythjddpkegooobaa
open Go.RowKit

set_option maxHeartbeats 1000000 in
set_option maxRecDepth 100000 in
theorem specHeadOf_any (d : DD) (l : DL) (b : Int) (w : World) (hd : d.Ok) (ha : DAt w l d) (hb : I64 b) :
    Calls Try.prog 153 #[d.val l, .int .i64 b] w fun e w' => e = .returned (d.headOf b).val ∧ Below w.heap.size w w' := by
  unfold I64 at hb
  have hA := gal (gal (gre w) (.cells #[.slice l.ba d.blocks.length l.bc, .slice l.wa d.waiting.length l.wc] 44)) (.cells #[.bool false, .int .i64 0, .int .i64 0, .int .i64 0] 55)
  have hX0 := (DBox.new w d l 44).grow (gal (gre _) (.cells #[.bool false, .int .i64 0, .int .i64 0, .int .i64 0] 55))
  have hR0 := HV.new_at (w.alloc (.cells #[.slice l.ba d.blocks.length l.bc, .slice l.wa d.waiting.length l.wc] 44)) noH 55 (w.heap.size + 1) (by simp)
  cases hok : d.ok with
  | false =>
    have hok' : Hid _ := hok
    rw [show d.headOf b = noH from if_neg (fun h => by rw [hok] at h; cases h.1)]
    clear hok
    go_enter Try.func153, Try.ntmps153
    go_upto_region 99 with (go_at_call 27; refine (specDiskOk_any d l _ hd (ha.grow hA)).mono ?_; rintro e w2 ⟨rfl, hb2⟩; rw [hok'.out]; have hR2 := hR0.grow hb2; obtain ⟨⟨_, z0, z1, z2, z3⟩, zf⟩ := id hR2)
    obtain ⟨c0, c1, c2, c3, K⟩ := ret4 hR2 (.bool false) (.int .i64 0) (.int .i64 0) (.int .i64 0)
    exact bodyPost_ret (v := noH.val) (by simp [results, Try.results153, go_sem, c0, c1, c2, c3]) rfl ⟨rfl, (gca hA hb2).trans (K.below (B := w.heap.size) (gca hA hb2).size (fun k hk e => by omega))⟩
  | true =>
    have hok' : Hid _ := hok
    by_cases g0 : b < 0
    · rw [show d.headOf b = noH from if_neg (fun h => by omega)]
      clear hok
      go_enter Try.func153, Try.ntmps153
      go_upto_region 99 with (go_at_call 27; refine (specDiskOk_any d l _ hd (ha.grow hA)).mono ?_; rintro e w2 ⟨rfl, hb2⟩; rw [hok'.out]; have hR2 := hR0.grow hb2; obtain ⟨⟨_, z0, z1, z2, z3⟩, zf⟩ := id hR2)
      obtain ⟨c0, c1, c2, c3, K⟩ := ret4 hR2 (.bool false) (.int .i64 0) (.int .i64 0) (.int .i64 0)
      exact bodyPost_ret (v := noH.val) (by simp [results, Try.results153, go_sem, c0, c1, c2, c3]) rfl ⟨rfl, (gca hA hb2).trans (K.below (B := w.heap.size) (gca hA hb2).size (fun k hk e => by omega))⟩
    · by_cases g1 : (1 : Int) < b
      · rw [show d.headOf b = noH from if_neg (fun h => by omega)]
        clear hok
        go_enter Try.func153, Try.ntmps153
        go_upto_region 99 with (go_at_call 27; refine (specDiskOk_any d l _ hd (ha.grow hA)).mono ?_; rintro e w2 ⟨rfl, hb2⟩; rw [hok'.out]; have hR2 := hR0.grow hb2; obtain ⟨⟨_, z0, z1, z2, z3⟩, zf⟩ := id hR2)
        obtain ⟨c0, c1, c2, c3, K⟩ := ret4 hR2 (.bool false) (.int .i64 0) (.int .i64 0) (.int .i64 0)
        exact bodyPost_ret (v := noH.val) (by simp [results, Try.results153, go_sem, c0, c1, c2, c3]) rfl ⟨rfl, (gca hA hb2).trans (K.below (B := w.heap.size) (gca hA hb2).size (fun k hk e => by omega))⟩
      · obtain ⟨m, rfl⟩ : ∃ m : Nat, b = (m : Int) := ⟨b.toNat, by omega⟩
        have hm : m < 130 := by omega
        rw [show d.headOf (m : Int) = Go.Proofs.Ythjddpkegooobaa.headOf (d.rd m) from (if_pos ⟨hok, by omega, by omega⟩).trans (by simp)]
        obtain ⟨h, hh⟩ := hid_ex (Go.Proofs.Ythjddpkegooobaa.headOf (d.rd m))
        rw [← hh.out]
        clear hok
        go_enter Try.func153, Try.ntmps153
        go_upto_region 99 with (first
          | (go_at_call 27; refine (specDiskOk_any d l _ hd (ha.grow hA)).mono ?_; rintro e w2 ⟨rfl, hb2⟩; rw [hok'.out]; obtain ⟨_, x0, x1⟩ := hX0.grow hb2)
          | (go_at_call 163; refine (l4head_any d l m _ (DD.fit hok'.out) hd (ha.grow (gca hA hb2)) hm).mono ?_; rw [← hh.out]; rintro e w3 ⟨rfl, hb3⟩; have hR3 := (hR0.grow hb2).grow hb3; obtain ⟨⟨_, z0, z1, z2, z3⟩, zf⟩ := id hR3))
        obtain ⟨c0, c1, c2, c3, K⟩ := ret4 hR3 (.bool h.ok) (.int .i64 h.gen) (.int .i64 h.len) (.int .i64 h.sum)
        exact bodyPost_ret (v := h.val) (by simp [results, Try.results153, go_sem, c0, c1, c2, c3]) rfl ⟨rfl, (gca (gca hA hb2) hb3).trans (K.below (B := w.heap.size) (gca (gca hA hb2) hb3).size (fun k hk e => by omega))⟩

end Go.Proofs.Ythjddpkegooobaa
