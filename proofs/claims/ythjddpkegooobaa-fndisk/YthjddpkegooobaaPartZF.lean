import Derived.Test.YthjddpkegooobaaPartZE

/-
  LBUSY: a disk with writes that wait, drawn. Own work.
-/
namespace Go.Proofs.Ythjddpkegooobaa
open Go.RowKit

theorem put_Ok {d : DD} {k : Int} {b : List Nat} (hd : d.Ok) (hok : d.ok = true) (hb : I64 k) (hk : BOk b) : (d.put k b).Ok := by
  have h := step_ok (o := ⟨false, k, b⟩) hd hok hb hk
  have e : d.step ⟨false, k, b⟩ = d.put k b := if_neg (show ¬ false = true by decide)
  rwa [e] at h
theorem brow_ownsD {w : World} {g base : Nat} {ys : List Nat} (h : BRow w g ys.length ys) (hb : base ≤ g) (hl : ys.length ≤ maxLen) : w.ownsRow base 5 1 (.slice (some ⟨g, 0, none⟩) ys.length ys.length) ys.length (bcells ys) := by
  obtain ⟨c, hc, hs, _, hx⟩ := h
  refine ⟨by simp [bcells], Or.inr ⟨g, ys.length, c, rfl, hb, hc, Nat.le_refl _, hl, by rw [hs, Nat.mul_one], ?_⟩⟩
  rw [Nat.mul_one, List.take_of_length_le (by simp [hs])]
  apply List.ext_getElem?
  intro i
  by_cases hi : i < ys.length
  · rw [bcells_get hi, ← hx i hi]; simp
  · rw [List.getElem?_eq_none (by simp [hs]; omega), List.getElem?_eq_none (by simp [bcells]; omega)]
def BusyD (w : World) (b : Nat) (sa : Option Addr) (bs : List Nat) (cap at_ : Nat) (e : Ending) (w' : World) : Prop :=
  ∃ (d : DD) (lb : List LB) (lw : List LW) (ba : Option Addr) (bc : Nat) (wa : Option Addr) (wc at' : Nat), e = .returned (d.val ⟨ba, bc, wa, wc⟩) ∧ d.ok = true ∧ d.Ok ∧ lb.map (·.l) = d.blocks ∧ lw.map (·.x) = d.waiting ∧ SB w.heap.size w' ba bc lb ∧ SW w.heap.size w' wa wc lw ∧ at' ≤ at_ + 80000 ∧ DK w w' b sa bs cap at'

set_option maxHeartbeats 8000000 in
set_option maxRecDepth 100000 in
theorem l6busy_any (b : Nat) (sa : Option Addr) (bs : List Nat) (cap at_ : Nat) (w : World) (hc : DC w b sa bs cap at_) (hat : at_ + 80000 < 4611686018427387904) :
    Calls Try.prog 130 #[.pointer (some ⟨b, 0, none⟩)] w (BusyD w b sa bs cap at_) := by
  have hbl := hc.lt
  have hsl := hc.sl
  obtain ⟨k0, hkk, hk0, hk1, hk2⟩ := info_parts info_implWrite
  obtain ⟨R, hR⟩ := hid_ex w.heap.size
  have hA0 := gal (gre w) (.cells #[.slice none 0 0, .slice none 0 0] 44)
  have hR0 := VB.new w (.slice none 0 0) (.slice none 0 0) 44
  have hRd0 : IsD (w.alloc (.cells #[.slice none 0 0, .slice none 0 0] 44)) w.heap.size := ⟨_, blk_new_at _ _ _ rfl⟩
  have hs0 : (w.alloc (.cells #[.slice none 0 0, .slice none 0 0] 44)).heap.size = w.heap.size + 1 := by simp
  have hD0 := (DK.mk hc (Kept.refl _ w)).grow hA0
  go_enter Try.func130, Try.ntmps130
  go_upto_region 1 with fail
  generalize w.alloc (.cells #[.slice none 0 0, .slice none 0 0] 44) = w0 at hA0 hR0 hRd0 hs0 hD0 ⊢
  rw [← hR.out] at hR0 hRd0 ⊢
  go_upto_region 2 with (go_at_call 152; refine (l6dsk_any b sa bs cap at_ _ hD0.dc (by omega)).mono ?_; rintro e w1 ⟨d, lb, lw, ba, bc, wa, wu, at1, rfl, hC, mb, mw, sb, sw, ha1, hk1⟩)
  have hAV := gal (gre w1) (.cells #[.slice ba d.blocks.length bc, .slice wa d.waiting.length wu] 44)
  have hV2 := VB.new w1 (.slice ba d.blocks.length bc) (.slice wa d.waiting.length wu) 44
  have hVd2 : IsD (w1.alloc (.cells #[.slice ba d.blocks.length bc, .slice wa d.waiting.length wu] 44)) w1.heap.size := ⟨_, blk_new_at _ _ _ rfl⟩
  have hs1 := hk1.kept.size
  obtain ⟨V, hV⟩ := hid_ex w1.heap.size
  have hRV : R < V := by have := hR.out; have := hV.out; omega
  have hRB : w.heap.size ≤ R := by have := hR.out; omega
  have hVB : w.heap.size ≤ V := by omega
  have hR1 := hR0.kept hk1.kept (by have := hR.out; omega)
  have hRd1 := hRd0.kept hk1.kept (by have := hR.out; omega)
  have hM2 : KM w.heap.size V R d lb lw ba bc wa wu (w1.alloc (.cells #[.slice ba d.blocks.length bc, .slice wa d.waiting.length wu] 44)) :=
    ⟨mb, mw, (sb.le (by omega)).grow hAV, (sw.le (by omega)).grow hAV, by rw [hV.out]; exact hV2, by rw [hV.out]; exact hVd2, hR1.grow hAV, hRd1.grow hAV⟩
  have hD2 := (hD0.trans hk1).grow hAV
  rw [← hV.out]
  generalize w1.alloc (.cells #[.slice ba d.blocks.length bc, .slice wa d.waiting.length wu] 44) = w2 at hM2 hD2 ⊢
  clear hAV hV2 hVd2 sb sw mb mw hR0 hRd0 hR1 hRd1 hA0 hs0 hs1 hV hR hD0 hk1
  go_upto_if 11 with (first
    | (go_at_call_of 52 ((5 : Int)); refine (l6pick_of b sa bs cap at1 5 5 _ rfl hD2.dc (by omega) (by omega) (by omega)).mono ?_; rintro e w3 ⟨n, at3, hn5, ha3, rfl, hk3⟩)
    | (go_at_call_of 52 ((20 : Int)); refine (l6pick_of b sa bs cap at3 20 20 _ rfl hk3.dc (by omega) (by omega) (by omega)).mono ?_; rintro e w4 ⟨x20, at4, hx20, ha4, rfl, hk4⟩))
  have hD4 := (hD2.trans hk3).trans hk4
  have hM4 := (hM2.kept hk3.kept (fun z e => by omega) hVB hRB).kept hk4.kept (fun z e => by omega) hVB hRB
  clear hM2 hD2 hk3 hk4
  go_cut [4] from 5 (fun v wc' => ∃ m : Nat, v = .int .i64 (m : Int) ∧ m ≤ 200 ∧ wc' = w4)
  case first =>
    by_cases hx0 : x20 = 0
    · subst hx0
      go_wp2
      go_meet
      case rel => exact ⟨200, rfl, Nat.le_refl _, rfl⟩
    · have hx1 : ¬ ((x20 : Int) = 0) := by omega
      go_wp2
      go_meet
      case rel => exact ⟨n, rfl, by omega, rfl⟩
  obtain ⟨m, rfl, hm200, hw4⟩ := hcut
  obtain rfl := hw4.symm
  have hwz : d.waiting.length = 0 := by rw [hC.w]; rfl
  have hok0 := hC.ok
  have hO0 := hC.o
  go_wp2
  go_loopw [4] (fun i wr => ∃ (j at' : Nat) (d : DD) (lb : List LB) (lw : List LW) (ba : Option Addr) (bc : Nat) (wa : Option Addr) (wc : Nat), j ≤ m ∧ i = .int .i64 (j : Int) ∧ Hid (d.ok = true) ∧ d.Ok ∧ d.waiting.length + j ≤ 200 ∧ at' + 70 * j ≤ at_ + 79000 ∧ KM w.heap.size V R d lb lw ba bc wa wc wr ∧ DK w wr b sa bs cap at') (fun i _ => (intOf i).toNat)
  case atStart => exact ⟨m, at4, d, lb, lw, ba, bc, wa, wu, Nat.le_refl _, rfl, hok0, hO0, by omega, by omega, hM4, hD4⟩
  case round =>
    clear hM4 hD4 hC hwz hok0 hO0
    obtain ⟨j, at5, d, lb, lw, ba, bc, wa, wu, hjm, rfl, hok, hO, hwl, ha5, hM, hD⟩ := hrel
    by_cases hlt : 0 < j
    case neg =>
      obtain rfl : j = 0 := by omega
      obtain ⟨v0, v1, vf⟩ := id hM.v
      obtain ⟨z0, z1, zf⟩ := id hM.r
      obtain ⟨c0, c1, K⟩ := ret2 (A := .slice ba d.blocks.length bc) (B := .slice wa d.waiting.length wu) z0 z1
      go_wp2
      refine bodyPost_ret (v := .agg #[.slice ba d.blocks.length bc, .slice wa d.waiting.length wu]) (by simp [results, Try.results130, go_sem, c0, c1]) rfl ⟨d, lb, lw, ba, bc, wa, wu, at5, rfl, hok.out, hO, hM.mb, hM.mw, ?_, ?_, by omega, hD.put K (fun z e => by omega) hbl hsl⟩
      · exact hM.sb.kept K (fun z e _ => by subst e; exact ⟨not_S_of_D hM.rd, not_B_of_D hM.rd⟩)
      · exact hM.sw.kept K (fun z e _ => by subst e; exact ⟨not_W_of_D hM.rd, not_B_of_D hM.rd⟩)
    have hjl : (0 : Int) < (j : Int) := by omega
    go_upto_region 7 with fail
    have hM := hM.grow (gdr (gre wr)) hVB hRB
    have hD := hD.grow (gdr (gre wr))
    refine wp_regionU (fun u => VB u V (.slice ba d.blocks.length bc) (.slice wa d.waiting.length wu)) 10 (by kernel_rfl) hM.v (fun _ => ?_)
    generalize wr.drew = w1 at hM hD ⊢
    refine anyU_tk (i := 0) rfl hM.v (fun u hSu => by obtain ⟨s0, s1, _⟩ := hSu; go_simp <;> with_reducible rfl) ?_
    simp only [Act.put, List.getElem_toArray, List.getElem_cons_zero, List.setIfInBounds_toArray, List.set_cons_zero, List.set_cons_succ]
    refine anyU_tk (i := 1) rfl hM.v (fun u hSu => by obtain ⟨s0, s1, _⟩ := hSu; go_simp <;> with_reducible rfl) ?_
    simp only [Act.put, List.getElem_toArray, List.getElem_cons_zero, List.getElem_cons_succ, List.setIfInBounds_toArray, List.set_cons_zero, List.set_cons_succ]
    refine anyU_tk (i := 2) rfl hM.v (fun u hSu => by obtain ⟨s0, s1, _⟩ := hSu; go_simp <;> with_reducible rfl) ?_
    simp only [Act.put, List.getElem_toArray, List.getElem_cons_zero, List.getElem_cons_succ, List.setIfInBounds_toArray, List.set_cons_zero, List.set_cons_succ]
    refine anyU_tk (i := 4) rfl hM.v (fun u hSu => by obtain ⟨s0, s1, _⟩ := hSu; go_simp <;> with_reducible rfl) ?_
    simp only [Act.put, List.getElem_toArray, List.getElem_cons_zero, List.getElem_cons_succ, List.setIfInBounds_toArray, List.set_cons_zero, List.set_cons_succ]
    refine anyU_one (i := 3) (by kernel_rfl) rfl (fun K hK => ?_)
    go_simp
    refine (l6pick_of b sa bs cap at5 5 5 _ rfl hD.dc (by omega) (by omega) (by omega)).mono ?_
    rintro e w2 ⟨x, at6, hx5, ha6, rfl, hk6⟩
    have hM := hM.kept hk6.kept (fun z e => by omega) hVB hRB
    have hD := hD.trans hk6
    refine hK.out _ _ hM.v ?_
    clear hK
    refine anyU_one (i := 5) (by kernel_rfl) rfl (fun K hK => ?_)
    go_simp
    refine (l6block_any b sa bs cap at6 _ hD.dc (by omega)).mono ?_
    rintro e w3 ⟨Gb, ys, at7, hyl, hyb, ha7, rfl, hGb, hBr, hk7⟩
    have hM := hM.kept hk7.kept (fun z e => by omega) hVB hRB
    have hsz := hD.kept.size
    have hD := hD.trans hk7
    rw [show (64 : Nat) = ys.length from hyl.out.symm]
    refine hK.out _ _ hM.v ?_
    clear hK
    have hy : w3.ownsRow w.heap.size 5 1 (.slice (some ⟨Gb, 0, none⟩) ys.length ys.length) ys.length (bcells ys) := brow_ownsD (by rw [hyl.out]; exact hBr) (by omega) (by rw [hyl.out]; decide)
    refine anyU_tk (i := 6) rfl hM.v (fun u hSu => by obtain ⟨s0, s1, _⟩ := hSu; go_simp <;> with_reducible rfl) ?_
    simp only [Act.put, List.getElem_toArray, List.getElem_cons_zero, List.getElem_cons_succ, List.setIfInBounds_toArray, List.set_cons_zero, List.set_cons_succ]
    refine anyU_one (i := 7) (by kernel_rfl) rfl (fun K hK => ?_)
    go_simp
    have hB2 := gal (gre w3) (.cells #[.int .i64 (x : Int), .slice (some ⟨Gb, 0, none⟩) ys.length ys.length] 104)
    have hM5 := hM.grow hB2 hVB hRB
    have hD5 := hD.grow hB2
    refine hK.out _ _ hM5.v ?_
    clear hK
    have hy2 := (Kept.of_below hB2 (fun _ => False)).owns hy (fun _ _ e => e)
    have hnew := World.news_of_block (cs := #[.int .i64 (x : Int), .slice (some ⟨Gb, 0, none⟩) ys.length ys.length]) (t := 104) (fr := (0, 0)) (blk_new_at w3 (.cells #[.int .i64 (x : Int), .slice (some ⟨Gb, 0, none⟩) ys.length ys.length] 104) _ rfl)
    have hs2 : (w3.alloc (.cells #[.int .i64 (x : Int), .slice (some ⟨Gb, 0, none⟩) ys.length ys.length] 104)).heap.size = w3.heap.size + 1 := by simp
    generalize w3.alloc (.cells #[.int .i64 (x : Int), .slice (some ⟨Gb, 0, none⟩) ys.length ys.length] 104) = w5 at hB2 hM5 hD5 hy2 hnew hs2 ⊢
    have hlwl : Hid (lw.length = d.waiting.length) := by show _ = _; rw [← hM.mw]; simp
    refine anyU_one (i := 8) (by kernel_rfl) rfl (fun K hK => ?_)
    refine step_append_lies _ (by rfl) (.tmp 17) (.tmp 23) 42 rfl w.heap.size 104 k0 _ 2 32 Try.underlying42 hkk hk0 hk1 hk2 rfl (by decide) (.slice wa d.waiting.length wu) d.waiting.length (wCells lw) (by rfl) (by have := hM5.sw.own; rw [hlwl.out] at this; exact this) ⟨w3.heap.size, 0, none⟩ 1 1 [.int .i64 (x : Int), .slice (some ⟨Gb, 0, none⟩) ys.length ys.length] (by rfl) rfl hnew (by simp [Value.oneCell']) (by decide) (by unfold maxLen; omega) (by omega) (by have := hD5.kept.size; omega) (w3.heap.size + 1) hs2 ?_
    intro gg cc w6 hown5 hgrow5 hat5 hlt5
    have K5 := Kept.of_grown hgrow5
    have hz5 : ∀ z, (Value.slice wa d.waiting.length wu).ownBlock = some z → IsW w5 z ∧ w.heap.size ≤ z := fun z e => by have h8 := hM5.sw.own; rw [hlwl.out] at h8; exact owns_isW h8 e
    have hW5 := hM5.sw.push (y := ⟨⟨(x : Int), ys⟩, (some ⟨Gb, 0, none⟩), ys.length⟩) hy2 (by rw [hlwl.out]; exact hown5) (by rw [hlwl.out]; exact hgrow5)
    have hL5 := hM5.sb.kept K5 (fun z e _ => ⟨fun hS => not_W_of_S hS (hz5 z e).1, not_B_of_W (hz5 z e).1⟩)
    have hV5 := hM5.v.kept K5 (fun e => not_W_of_D hM5.vd (hz5 _ e).1)
    have hR5 := hM5.r.kept K5 (fun e => not_W_of_D hM5.rd (hz5 _ e).1)
    have hVd5 := hM5.vd.kept K5 (fun e => not_W_of_D hM5.vd (hz5 _ e).1)
    have hRd5 := hM5.rd.kept K5 (fun e => not_W_of_D hM5.rd (hz5 _ e).1)
    have hD6 := hD5.put K5 (fun z e => (hz5 z e).2) hbl hsl
    refine hK.out _ _ hV5 ?_
    clear hK
    simp only [Act.put, List.getElem_toArray, List.getElem_cons_zero, List.getElem_cons_succ, List.setIfInBounds_toArray, List.set_cons_zero, List.set_cons_succ]
    refine anyU_one (i := 9) (by kernel_rfl) rfl (fun K hK => ?_)
    go_simp
    refine hK.out _ _ hV5 ?_
    clear hK
    have fz := hV5.vf
    have c8 := hV5.v1
    refine anyU_last (by kernel_rfl) rfl (by kernel_rfl) (fun K hK => ?_)
    go_simp
    refine hK.out _ _ ?_
    clear hK
    have K6 := Kept.one w6 V 1 (.slice (some ⟨gg, 0, none⟩) (d.waiting.length + 1) cc)
    have hM7 : KM w.heap.size V R ⟨d.blocks, d.waiting ++ [⟨(x : Int), ys⟩]⟩ lb (lw ++ [⟨⟨(x : Int), ys⟩, (some ⟨Gb, 0, none⟩), ys.length⟩]) ba bc (some ⟨gg, 0, none⟩) cc (w6.setCell ⟨V, 1, none⟩ (.slice (some ⟨gg, 0, none⟩) (d.waiting.length + 1) cc)) :=
      ⟨hM5.mb, by rw [List.map_append, hM5.mw]; rfl, hL5.kept K6 (fun z e _ => by subst e; exact ⟨not_S_of_D hVd5, not_B_of_D hVd5⟩), hW5.kept K6 (fun z e _ => by subst e; exact ⟨not_W_of_D hVd5, not_B_of_D hVd5⟩), by have h9 := hV5.set1 (.slice (some ⟨gg, 0, none⟩) (d.waiting.length + 1) cc); simpa using h9, blk_setType hVd5, hR5.kept K6 (by omega), hRd5.kept K6 (by omega)⟩
    have hD7 := hD6.put K6 (fun z e => by omega) hbl hsl
    generalize w6.setCell ⟨V, 1, none⟩ (.slice (some ⟨gg, 0, none⟩) (d.waiting.length + 1) cc) = w7 at hM7 hD7 ⊢
    clear K6 K5 hL5 hW5 hV5 hR5 hVd5 hRd5 hD6 hM5 hD5 fz c8 hown5 hgrow5 hat5 hlt5 hz5 hnew hy2
    have hw4 : wrOk ⟨(x : Int), ys⟩ = true := by simp only [wrOk, hyl.out]; simp; omega
    have hpy := put_yes hok.out hw4 (by omega)
    have hpr := (put_read hok.out hw4 (by omega)).1
    have hpO := put_Ok (k := (x : Int)) (b := ys) hO hok.out (small_i64 (by omega)) ⟨by rw [hyl.out]; decide, hyb⟩
    rw [hpy] at hpr hpO
    go_wp2
    go_roundw
    case rel => exact ⟨j - 1, at7, _, lb, _, ba, bc, _, cc, by omega, by rw [show ((j - 1 : Nat) : Int) = (j : Int) - 1 by omega], hpr, hpO, by simp; omega, by omega, hM7, hD7⟩
    case measure => simp [intOf]; omega

end Go.Proofs.Ythjddpkegooobaa

/-
  LSPOILA: one byte of memory is changed, plain. Own work.
-/
namespace Go.Proofs.Ythjddpkegooobaa
open Go.RowKit

/-- what a draw leaves that may write into memory from B on, but into no disk's variable -/
structure DKB (B : Nat) (w w' : World) (b : Nat) (sa : Option Addr) (bs : List Nat) (cap at_ : Nat) : Prop where
  dc : DC w' b sa bs cap at_
  kept : Kept (fun z => z = b ∨ (B ≤ z ∧ ¬ IsD w z)) w w'
theorem DKB.put {B : Nat} {w wk w' : World} {b : Nat} {sa : Option Addr} {bs : List Nat} {cap at_ : Nat} (h : DKB B w wk b sa bs cap at_) {p : Nat → Prop} (K : Kept p wk w') (hp : ∀ z, p z → z < w.heap.size → B ≤ z ∧ ¬ IsD wk z) (hb : b < B) (hs : ∀ g off, sa = some ⟨g, off, none⟩ → g < B) (hw : B ≤ w.heap.size) : DKB B w w' b sa bs cap at_ :=
  ⟨h.dc.kept K (fun e => by have := (hp _ e (by omega)).1; omega) (fun g off e e2 => by have h1 := hs g off e; have := (hp _ e2 (by omega)).1; omega), h.kept.trans K (fun z hz e => Or.inr ⟨(hp z e hz).1, fun hD => (hp z e hz).2 (hD.kept h.kept (fun e2 => by
    rcases e2 with e3 | e3
    · have := (hp z e hz).1; omega
    · exact e3.2 hD))⟩)⟩
theorem DKB.grow {B : Nat} {w wk w' : World} {b : Nat} {sa : Option Addr} {bs : List Nat} {cap at_ : Nat} (h : DKB B w wk b sa bs cap at_) (hb : Below wk.heap.size wk w') : DKB B w w' b sa bs cap at_ :=
  ⟨h.dc.kept (Kept.of_below hb (fun _ => False)) (fun e => e) (fun _ _ _ e => e), h.kept.trans (Kept.of_below hb (fun _ => False)) (fun _ _ e => e.elim)⟩
theorem DKB.trans {B : Nat} {w wk w' : World} {b : Nat} {sa : Option Addr} {bs : List Nat} {cap at_ at' : Nat} (h : DKB B w wk b sa bs cap at_) (k : DK wk w' b sa bs cap at') : DKB B w w' b sa bs cap at' := ⟨k.dc, h.kept.trans k.kept (fun _ _ e => Or.inl e)⟩

/-- one byte of memory is changed: what the rows of bytes are then -/
def flipL (g y v : Nat) (x : LB) : LB := if x.a = some ⟨g, 0, none⟩ then ⟨x.l.set y v, x.a, x.cap⟩ else x
def flipW (g y v : Nat) (x : LW) : LW := if x.a = some ⟨g, 0, none⟩ then ⟨⟨x.x.block, x.x.bytes.set y v⟩, x.a, x.cap⟩ else x
theorem SB.flipA {base : Nat} {w : World} {ba : Option Addr} {bc : Nat} {lb : List LB} (h : SB base w ba bc lb) {g y v : Nat} (hg : IsB w g) : SB base (w.setCell ⟨g, y, none⟩ (.int .u8 (v : Int))) ba bc (lb.map (flipL g y v)) := by
  have K := Kept.one w g y (.int .u8 (v : Int))
  refine ⟨?_, fun u hu => ?_⟩
  · have e : (lb.map (flipL g y v)).map LB.v = lb.map LB.v := by
      rw [List.map_map]
      refine List.map_congr_left (fun x _ => ?_)
      show LB.v (flipL g y v x) = LB.v x
      unfold flipL LB.v
      split <;> simp
    rw [e, List.length_map]
    exact K.owns h.own (fun z hz e => by subst e; exact not_B_of_S (owns_isS h.own hz).1 hg)
  · obtain ⟨x, hx, rfl⟩ := List.mem_map.1 hu
    have h1 := h.byt x hx
    unfold flipL
    by_cases e : x.a = some ⟨g, 0, none⟩
    · rw [if_pos e]
      dsimp only
      rw [e] at h1 ⊢
      have h2 := owns_set h1 y (.int .u8 (v : Int))
      rw [List.length_set]
      rwa [show bcells (x.l.set y v) = (bcells x.l).set y (.int .u8 (v : Int)) by unfold bcells; rw [List.map_set]]
    · rw [if_neg e]
      exact K.owns h1 (fun z hz ez => by subst ez; exact e (owns_addr h1 hz))
theorem SW.flipA {base : Nat} {w : World} {wa : Option Addr} {wc : Nat} {lw : List LW} (h : SW base w wa wc lw) {g y v : Nat} (hg : IsB w g) : SW base (w.setCell ⟨g, y, none⟩ (.int .u8 (v : Int))) wa wc (lw.map (flipW g y v)) := by
  have K := Kept.one w g y (.int .u8 (v : Int))
  refine ⟨?_, fun u hu => ?_⟩
  · have e : wCells (lw.map (flipW g y v)) = wCells lw := by
      unfold wCells
      rw [List.flatMap_map]
      congr 1
      funext x
      show LW.two (flipW g y v x) = LW.two x
      unfold flipW LW.two
      split <;> simp
    rw [e, List.length_map]
    exact K.owns h.own (fun z hz e => by subst e; exact not_B_of_W (owns_isW h.own hz).1 hg)
  · obtain ⟨x, hx, rfl⟩ := List.mem_map.1 hu
    have h1 := h.byt x hx
    unfold flipW
    by_cases e : x.a = some ⟨g, 0, none⟩
    · rw [if_pos e]
      dsimp only
      rw [e] at h1 ⊢
      have h2 := owns_set h1 y (.int .u8 (v : Int))
      rw [List.length_set]
      rwa [show bcells (x.x.bytes.set y v) = (bcells x.x.bytes).set y (.int .u8 (v : Int)) by unfold bcells; rw [List.map_set]]
    · rw [if_neg e]
      exact K.owns h1 (fun z hz ez => by subst ez; exact e (owns_addr h1 hz))
theorem set_BOk {b : List Nat} (h : BOk b) {y v : Nat} (hv : v < 256) : BOk (b.set y v) := ⟨by rw [List.length_set]; exact h.len, fun x hx => by
  rcases List.mem_or_eq_of_mem_set hx with e | e
  · exact h.byte x e
  · rw [e]; exact hv⟩
theorem flip_OkA {d : DD} {lb : List LB} {lw : List LW} (hO : d.Ok) (mb : lb.map (·.l) = d.blocks) (mw : lw.map (·.x) = d.waiting) {g y v : Nat} (hv : v < 256) : (DD.mk ((lb.map (flipL g y v)).map (·.l)) ((lw.map (flipW g y v)).map (·.x))).Ok := by
  have l1 : lb.length = d.blocks.length := by rw [← mb]; simp
  have l2 : lw.length = d.waiting.length := by rw [← mw]; simp
  refine ⟨by simp only [List.length_map]; rw [l1]; exact hO.bl, fun b hb => ?_, by simp only [List.length_map]; rw [l2]; exact hO.wl, fun x hx => ?_, fun x hx => ?_⟩
  · simp only [List.map_map, List.mem_map] at hb
    obtain ⟨x, hx, rfl⟩ := hb
    have h1 := hO.bb x.l (by rw [← mb]; exact List.mem_map_of_mem hx)
    show BOk (flipL g y v x).l
    unfold flipL
    split
    · exact set_BOk h1 hv
    · exact h1
  · simp only [List.map_map, List.mem_map] at hx
    obtain ⟨u, hu, rfl⟩ := hx
    have h1 := hO.wi u.x (by rw [← mw]; exact List.mem_map_of_mem hu)
    show I64 (flipW g y v u).x.block
    unfold flipW
    split <;> exact h1
  · simp only [List.map_map, List.mem_map] at hx
    obtain ⟨u, hu, rfl⟩ := hx
    have h1 := hO.wb u.x (by rw [← mw]; exact List.mem_map_of_mem hu)
    show BOk (flipW g y v u).x.bytes
    unfold flipW
    split
    · exact set_BOk h1 hv
    · exact h1
theorem owns_take {w : World} {base t n c m : Nat} {a : Option Addr} {xs : List Value} (h : w.ownsRow base t 1 (.slice a n c) n xs) (hn : 0 < n) (hm : m ≤ n) : w.ownsRow base t 1 (.slice a m c) m (xs.take m) := by
  have h1 := h.1
  rcases h.2 with ⟨_, e0⟩ | ⟨g, cap, cur, hv, hb, hg, h2, h3, h4, h5⟩
  · omega
  · injection hv with e1 _ e3
    subst e1 e3
    refine ⟨by rw [List.length_take, h1]; omega, Or.inr ⟨g, c, cur, rfl, hb, hg, by omega, h3, h4, ?_⟩⟩
    rw [← h5, List.take_take]
    congr 1
    omega
theorem SB.takeA {base : Nat} {w : World} {ba : Option Addr} {bc : Nat} {lb : List LB} (h : SB base w ba bc lb) (hn : 0 < lb.length) {m : Nat} (hm : m ≤ lb.length) : SB base w ba bc (lb.take m) := by
  refine ⟨?_, fun y hy => h.byt y (List.mem_of_mem_take hy)⟩
  have h1 := owns_take h.own hn hm
  rw [List.length_take, Nat.min_eq_left hm, List.map_take]
  exact h1

theorem app_OkA {d : DD} {k : Int} {ys : List Nat} (hO : d.Ok) (hw : d.waiting.length ≤ 200) (hk : I64 k) (hy : BOk ys) : (DD.mk d.blocks (d.waiting ++ [⟨k, ys⟩])).Ok := by
  refine ⟨hO.bl, hO.bb, by show (d.waiting ++ [(⟨k, ys⟩ : DW)]).length ≤ maxLen; rw [List.length_append]; unfold maxLen; simp; omega, fun x hx => ?_, fun x hx => ?_⟩
  · rcases List.mem_append.1 hx with e | e
    · exact hO.wi x e
    · rw [List.mem_singleton.1 e]; exact hk
  · rcases List.mem_append.1 hx with e | e
    · exact hO.wb x e
    · rw [List.mem_singleton.1 e]; exact hy


end Go.Proofs.Ythjddpkegooobaa
