import Derived.ArgAppend
import Derived.Lib.SlBytesConst
import Derived.Test.YthjddpkegooobaaPartZG

/-
  OB5: eight bytes appended to bytes that lie full (a constant's). Own work.
-/
namespace Go.Proofs.Ythjddpkegooobaa
open Go.RowKit

set_option maxHeartbeats 1000000 in
set_option maxRecDepth 100000 in
theorem l2eight_full (b off : Nat) (len : Nat) (xs : List Nat) (n : Nat) (z : Int) (w : World) (hlen : len = xs.length) (hz : z = (n : Int)) (hn : n < 18446744073709551616) (hl : xs.length ≤ 1000000) (ha : BytesAt w (some ⟨b, off, none⟩) xs) :
    Calls Try.prog 123 #[.slice (some ⟨b, off, none⟩) len len, .int .u64 z] w fun e w' => ∃ oa c, e = .returned (.slice oa (xs ++ lowB 8 n).length c) ∧ w'.ownsRow w.heap.size 5 1 (.slice oa (xs ++ lowB 8 n).length c) (xs ++ lowB 8 n).length (bcells (xs ++ lowB 8 n)) ∧ Below w.heap.size w w' := by
  subst hz hlen
  obtain ⟨i0, hi, hz0, hz1, hz2⟩ := info_parts info_u8
  have holds : ∀ j u, (bcells xs)[j]? = some u → w.cell? ⟨b, off + j, none⟩ = some u := fun j u hu => by
    have hj : j < xs.length := by
      have := (List.getElem?_eq_some_iff.1 hu).1
      simpa [bcells] using this
    obtain ⟨b', off', e, hc⟩ := ha j hj
    simp only [Option.some.injEq, Addr.mk.injEq, and_true] at e
    obtain ⟨rfl, rfl⟩ := e
    rw [bcells_get hj] at hu
    rw [hc, ← hu]
  go_enter Try.func123, Try.ntmps123
  go_wp2
  go_loopw [0, 1, 5] (fun o i c ws => ∃ (k m : Nat) (zs : List Nat) (oa1 : Option Addr) (cap1 : Nat), o = .slice oa1 zs.length cap1 ∧ i = .int .u64 m ∧ c = .int .i64 k ∧ k ≤ 8 ∧ Hid (zs = xs ++ lowB k n) ∧ Hid (m = n / 256 ^ k) ∧ zs.length ≤ xs.length + k ∧ m < 18446744073709551616 ∧ Hid (k = 0 ∧ zs = xs ∧ oa1 = some ⟨b, off, none⟩ ∧ cap1 = xs.length ∧ ws = w ∨ 0 < k ∧ ws.ownsRow w.heap.size 5 1 (.slice oa1 zs.length cap1) zs.length (bcells zs) ∧ Below w.heap.size w ws)) (fun _ _ c _ => 8 - (intOf c).toNat)
  case atStart => exact ⟨0, n, xs, some ⟨b, off, none⟩, xs.length, rfl, rfl, rfl, by omega, (List.append_nil _).symm, by show _ = _; simp, Nat.le_refl _, hn, Or.inl ⟨rfl, rfl, rfl, rfl, rfl⟩⟩
  case round =>
    obtain ⟨k, m, zs, oa1, cap1, rfl, rfl, rfl, hk, hzs, hm, hzl, hm64, hor⟩ := hrel
    by_cases hlt : k < 8
    · have hd : (k : Int) < 8 := by omega
      obtain ⟨x, hx⟩ : ∃ x, Hid (x = m % 256) := ⟨_, rfl⟩
      have e2 : IntKind.u8.wrap (m : Int) = (x : Int) := by rw [hx.out, IntKind.wrap_u8']; omega
      have hzs' : Hid (zs ++ [x] = xs ++ lowB (k + 1) n) := by show _ = _; rw [hzs.out, lowB_snoc, hx.out, hm.out, List.append_assoc]
      have hm' : Hid (m / 256 = n / 256 ^ (k + 1)) := by show _ = _; rw [hm.out, Nat.div_div_eq_div_mul, Nat.pow_succ]
      rcases hor.out with ⟨rfl, rfl, rfl, rfl, rfl⟩ | ⟨hk0, hO, hB⟩
      · clear hor
        have hAl := gal (gre wr) (.cells #[.int .u8 (x : Int)] 5)
        go_wp2_with (at_builtin; refine wpList_append_arg _ rfl (.tmp 10) (.tmp 13) 22 rfl 5 i0 (.int .u8 0) 1 1 Try.underlying22 hi hz0 hz1 hz2 rfl (by decide) b off zs.length zs.length (bcells zs) rfl (by simp [bcells]) (fun j u hu => cell_later hAl (holds j u hu)) ⟨wr.heap.size, 0, none⟩ 1 1 [.int .u8 (x : Int)] rfl rfl (World.news_of_block (cs := #[.int .u8 (x : Int)]) (t := 5) (fr := (0, 0)) (blk_new_at _ _ _ (by simp))) (by simp [Value.oneCell']) (fun h => absurd h (by omega)) (by unfold maxLen; omega) (by omega) (fun h => absurd h (by omega)) ?_; intro _ v' w' hown hgr)
        obtain ⟨g, cc, rfl, _, _⟩ := hown.form (by omega)
        have hB2 := (gre wr).trans ((hAl.trans ((Kept.of_grown hgr).below hAl.size (fun z _ e => by cases e))))
        have hO2 : w'.ownsRow wr.heap.size 5 1 (.slice (some ⟨g, 0, none⟩) (zs ++ [x]).length cc) (zs ++ [x]).length (bcells (zs ++ [x])) := by
          have h := owns_le hown (show wr.heap.size ≤ (wr.alloc (.cells #[.int .u8 (x : Int)] 5)).heap.size by simp)
          simpa [bcells_snoc] using h
        go_roundw
        case rel => exact ⟨0 + 1, m / 256, zs ++ [x], some ⟨g, 0, none⟩, cc, by simp, by go_num, by go_num, by omega, hzs', hm', by simp, by omega, Or.inr ⟨by omega, hO2, hB2⟩⟩
        case measure => simp [intOf]
      · clear hor
        have hsz := hB.size
        go_wp2_with (at_builtin; refine wpList_append_lies _ rfl (.tmp 10) (.tmp 13) 22 rfl w.heap.size 5 i0 (.int .u8 0) 1 1 Try.underlying22 hi hz0 hz1 hz2 rfl (by decide) _ _ _ rfl (hO.alloc _) ⟨wr.heap.size, 0, none⟩ 1 1 [.int .u8 (x : Int)] rfl rfl (World.news_of_block (cs := #[.int .u8 (x : Int)]) (t := 5) (fr := (0, 0)) (blk_new_at _ _ _ (by simp))) (by simp [Value.oneCell']) (by decide) (by unfold maxLen; omega) (by omega) (by simp; omega) (wr.heap.size + 1) (by simp) ?_; intro g2 cap2 w7 hown7 hgrow7 hat7 hlt7)
        have hG := Kept.of_grown hgrow7
        have hA7 : Kept (fun _ => False) wr (wr.alloc (.cells #[.int .u8 (x : Int)] 5)) := (Kept.refl _ wr).alloc _
        have hB7 : Below w.heap.size w w7 := hB.trans ((hA7.mono (q := fun z => w.heap.size ≤ z) (fun z _ e => e.elim)).trans hG (fun z _ e => (hO.lt z e).1) |>.below hsz (fun z hz e => by omega))
        go_roundw
        case rel => exact ⟨k + 1, m / 256, zs ++ [x], some ⟨g2, 0, none⟩, cap2, by simp, by go_num, by go_num, by omega, hzs', hm', by simp; omega, by omega, Or.inr ⟨by omega, by simpa [bcells_snoc] using hown7, hB7⟩⟩
        case measure => simp [intOf]; omega
    · obtain rfl : k = 8 := by omega
      go_wp2
      go_ret
      have e3 := hzs.out
      subst e3
      rcases hor.out with ⟨h0, _⟩ | ⟨_, hO, hB⟩
      · cases h0
      · exact ⟨_, _, rfl, hO, hB⟩

end Go.Proofs.Ythjddpkegooobaa

/-
  LTWINS: both slots of a disk get heads with one Gen, drawn. Own work.
-/
namespace Go.Proofs.Ythjddpkegooobaa
open Go.RowKit

def TwinsD (B : Nat) (w : World) (b : Nat) (sa : Option Addr) (bs : List Nat) (cap at_ : Nat) (e : Ending) (w' : World) : Prop :=
  ∃ (d : DD) (lb : List LB) (lw : List LW) (ba : Option Addr) (bc : Nat) (wa : Option Addr) (wc at' : Nat), e = .returned (d.val ⟨ba, bc, wa, wc⟩) ∧ d.ok = true ∧ d.Ok ∧ lb.map (·.l) = d.blocks ∧ lw.map (·.x) = d.waiting ∧ SB B w' ba bc lb ∧ SW B w' wa wc lw ∧ at' ≤ at_ + 10 ∧ DK w w' b sa bs cap at'
theorem low_app {xs : List Nat} (h : ∀ x, x ∈ xs → x < 256) (n : Nat) : ∀ x, x ∈ xs ++ lowB 8 n → x < 256 := fun x hx => (List.mem_append.1 hx).elim (h x) (lowB_byte _ _ _)
theorem owns_ge' {w : World} {base t size n c : Nat} {na : Option Addr} {xs : List Value} (h : w.ownsRow base t size (.slice na n c) n xs) {b : Nat} (e : na = some ⟨b, 0, none⟩) : base ≤ b := by
  rcases h.2 with ⟨h1, _⟩ | ⟨g, cap, cur, h1, hb, _⟩
  · injection h1 with h2; rw [e] at h2; cases h2
  · injection h1 with h2
    rw [e] at h2
    simp only [Option.some.injEq, Addr.mk.injEq, and_true] at h2
    omega
theorem set_ok {d : DD} (h : d.ok = true) (hO : d.Ok) {k : Nat} {ys : List Nat} (hl : ys.length = 64) (hy : ∀ x, x ∈ ys → x < 256) : (DD.mk (d.blocks.set k ys) d.waiting).ok = true ∧ (DD.mk (d.blocks.set k ys) d.waiting).Ok := by
  have hf := DD.fit h
  refine ⟨fit_okP ⟨by show (d.blocks.set k ys).length = 130; rw [List.length_set]; exact hf.bl, hf.wl, fun q hq => ?_, hf.wb⟩, ⟨by show (d.blocks.set k ys).length ≤ maxLen; rw [List.length_set]; exact hO.bl, fun q hq => ?_, hO.wl, hO.wi, hO.wb⟩⟩
  · rcases List.mem_or_eq_of_mem_set hq with e | e
    · exact hf.bb q e
    · rw [e]; exact hl
  · rcases List.mem_or_eq_of_mem_set hq with e | e
    · exact hO.bb q e
    · rw [e]; exact ⟨by rw [hl]; unfold maxLen; omega, hy⟩

set_option maxHeartbeats 4000000 in
set_option maxRecDepth 100000 in
theorem l6twins_any (B b : Nat) (sa : Option Addr) (bs : List Nat) (cap at_ : Nat) (d : DD) (lb : List LB) (lw : List LW) (ba : Option Addr) (bc : Nat) (wa : Option Addr) (wu : Nat) (w : World) (hc : DC w b sa bs cap at_) (hat : at_ + 200 < 4611686018427387904) (hbl : b < B) (hsl : ∀ g off, sa = some ⟨g, off, none⟩ → g < B) (hBw : B ≤ w.heap.size) (hok : Hid (d.ok = true)) (hO : d.Ok) (mb : lb.map (·.l) = d.blocks) (mw : lw.map (·.x) = d.waiting) (sb : SB B w ba bc lb) (sw : SW B w wa wu lw) :
    Calls Try.prog 131 #[.pointer (some ⟨b, 0, none⟩), d.val ⟨ba, bc, wa, wu⟩] w (TwinsD B w b sa bs cap at_) := by
  have hf := DD.fit hok.out
  have hsm : d.Small := ⟨by have := hf.bl; omega, fun b hb => by have := hf.bb b hb; omega, by have := hf.wl; omega, fun x hx => by have := (hf.wb x hx).2.2; omega⟩
  obtain ⟨i0, hi, hz0, hz1, hz2⟩ := info_parts info_u8
  have hA := gal (gal (gre w) (.cells #[.slice ba d.blocks.length bc, .slice wa d.waiting.length wu] 44)) (.cells #[.slice none 0 0, .slice none 0 0] 44)
  have hX0 := (VB.new w (.slice ba d.blocks.length bc) (.slice wa d.waiting.length wu) 44).grow (gal (gre _) (.cells #[.slice none 0 0, .slice none 0 0] 44))
  have hXd0 : IsD ((w.alloc (.cells #[.slice ba d.blocks.length bc, .slice wa d.waiting.length wu] 44)).alloc (.cells #[.slice none 0 0, .slice none 0 0] 44)) w.heap.size := IsD.grow (w := w.alloc (.cells #[.slice ba d.blocks.length bc, .slice wa d.waiting.length wu] 44)) ⟨_, blk_new_at _ _ _ rfl⟩ (gal (gre _) (.cells #[.slice none 0 0, .slice none 0 0] 44))
  have hR0 := VB.new_at (w.alloc (.cells #[.slice ba d.blocks.length bc, .slice wa d.waiting.length wu] 44)) (.slice none 0 0) (.slice none 0 0) 44 (w.heap.size + 1) (by simp)
  have hRd0 : IsD ((w.alloc (.cells #[.slice ba d.blocks.length bc, .slice wa d.waiting.length wu] 44)).alloc (.cells #[.slice none 0 0, .slice none 0 0] 44)) (w.heap.size + 1) := ⟨_, blk_new_at _ _ _ (by simp)⟩
  have hM0 : KM B w.heap.size (w.heap.size + 1) d lb lw ba bc wa wu ((w.alloc (.cells #[.slice ba d.blocks.length bc, .slice wa d.waiting.length wu] 44)).alloc (.cells #[.slice none 0 0, .slice none 0 0] 44)) := ⟨mb, mw, sb.grow hA, sw.grow hA, hX0, hXd0, hR0, hRd0⟩
  have hD0 : DK w ((w.alloc (.cells #[.slice ba d.blocks.length bc, .slice wa d.waiting.length wu] 44)).alloc (.cells #[.slice none 0 0, .slice none 0 0] 44)) b sa bs cap at_ := (DK.mk hc (Kept.refl _ w)).grow hA
  have hs0 : ((w.alloc (.cells #[.slice ba d.blocks.length bc, .slice wa d.waiting.length wu] 44)).alloc (.cells #[.slice none 0 0, .slice none 0 0] 44)).heap.size = w.heap.size + 1 + 1 := by simp
  have hdA := fun (u : World) (i : Int) (hu : DAt u ⟨ba, bc, wa, wu⟩ d) (hi : I64 i) => specHeadOf_any d ⟨ba, bc, wa, wu⟩ i u hO hu hi
  have hd0 := fun (u : World) (hu : DAt u ⟨ba, bc, wa, wu⟩ d) => hdA u 0 hu (small_i64 (by omega))
  have hd1 := fun (u : World) (hu : DAt u ⟨ba, bc, wa, wu⟩ d) => hdA u 1 hu (small_i64 (by omega))
  obtain ⟨xA, hxA⟩ := hid_ex (d.headOf 0)
  obtain ⟨xB, hxB⟩ := hid_ex (d.headOf 1)
  rw [← hxA.out] at hd0
  rw [← hxB.out] at hd1
  obtain ⟨oA, gA, lA, sA⟩ := xA
  obtain ⟨oB, gB, lB, sB⟩ := xB
  clear hxA hxB hdA
  go_enter Try.func131, Try.ntmps131
  go_upto_region 1 with fail
  generalize (w.alloc (.cells #[.slice ba d.blocks.length bc, .slice wa d.waiting.length wu] 44)).alloc (.cells #[.slice none 0 0, .slice none 0 0] 44) = w0 at hA hX0 hXd0 hR0 hRd0 hM0 hD0 hs0 ⊢
  obtain ⟨R, hR⟩ := hid_ex (w.heap.size + 1)
  obtain ⟨V, hV⟩ := hid_ex w.heap.size
  have hVR : R ≠ V := by have := hR.out; have := hV.out; omega
  have hRB : B ≤ R := by have := hR.out; omega
  have hVB : B ≤ V := by have := hV.out; omega
  have hwV : w.heap.size ≤ V := by have := hV.out; omega
  have hwR : w.heap.size ≤ R := by have := hR.out; omega
  rw [← hR.out] at hM0 ⊢
  rw [← hV.out] at hM0 ⊢
  clear hX0 hXd0 hR0 hRd0 hA sb sw mb mw hR hV
  obtain ⟨v0, v1, vf⟩ := id hM0.v
  go_upto_region 2 with (go_at_call 153; refine (hd0 _ hM0.at_).mono ?_; rintro e w1 ⟨rfl, hb1⟩)
  have hH2 := HBox.new w1 oA gA lA sA 55
  have hb2 := gal hb1 (.cells #[.bool oA, .int .i64 gA, .int .i64 lA, .int .i64 sA] 55)
  have hPw : w.heap.size ≤ w1.heap.size := Nat.le_trans hD0.kept.size hb1.size
  generalize w1.alloc (.cells #[.bool oA, .int .i64 gA, .int .i64 lA, .int .i64 sA] 55) = w2 at hH2 hb2 ⊢
  generalize w1.heap.size = P at hH2 hPw ⊢
  have hM2 := hM0.grow hb2 hVB hRB
  have hD2 := hD0.grow hb2
  clear v0 v1 vf hb1 hb2 hM0 hD0
  obtain ⟨v0, v1, vf⟩ := id hM2.v
  go_upto_region 3 with (go_at_call 153; refine (hd1 _ hM2.at_).mono ?_; rintro e w3 ⟨rfl, hb3⟩)
  have hH4 := HBox.new w3 oB gB lB sB 55
  have hb4 := gal hb3 (.cells #[.bool oB, .int .i64 gB, .int .i64 lB, .int .i64 sB] 55)
  have hQw : w.heap.size ≤ w3.heap.size := Nat.le_trans hD2.kept.size hb3.size
  generalize w3.alloc (.cells #[.bool oB, .int .i64 gB, .int .i64 lB, .int .i64 sB] 55) = w4 at hH4 hb4 ⊢
  generalize w3.heap.size = Q at hH4 hQw ⊢
  have hG4 := hH2.kept (Kept.of_below hb4 (fun _ => False)) (fun e => e)
  have hM4 := hM2.grow hb4 hVB hRB
  have hD4 := hD2.grow hb4
  clear v0 v1 vf hb3 hb4 hM2 hD2 hH2 hd0 hd1 hs0
  obtain ⟨v0, v1, vf⟩ := id hM4.v
  obtain ⟨z0, z1, zf⟩ := id hM4.r
  obtain ⟨_, p0, p1, p2, p3⟩ := id hG4
  obtain ⟨_, q0, q1, q2, q3⟩ := id hH4
  have hret : ∀ (K' : Kept (fun z => z = R) w4 ((w4.setCell ⟨R, 0, none⟩ (.slice ba d.blocks.length bc)).setCell ⟨R, 1, none⟩ (.slice wa d.waiting.length wu))), TwinsD B w b sa bs cap at_ (.returned (d.val ⟨ba, bc, wa, wu⟩)) ((w4.setCell ⟨R, 0, none⟩ (.slice ba d.blocks.length bc)).setCell ⟨R, 1, none⟩ (.slice wa d.waiting.length wu)) := fun K' =>
    ⟨d, lb, lw, ba, bc, wa, wu, at_, rfl, hok.out, hO, hM4.mb, hM4.mw, hM4.sb.kept K' (fun z e _ => by subst e; exact ⟨not_S_of_D hM4.rd, not_B_of_D hM4.rd⟩), hM4.sw.kept K' (fun z e _ => by subst e; exact ⟨not_W_of_D hM4.rd, not_B_of_D hM4.rd⟩), by omega, hD4.put K' (fun z e => by omega) (by omega) (fun g off e => by have := hsl g off e; omega)⟩
  obtain ⟨c0, c1, K⟩ := ret2 (A := .slice ba d.blocks.length bc) (B := .slice wa d.waiting.length wu) z0 z1
  cases oA with
  | false =>
    go_wp2
    exact bodyPost_ret (v := d.val ⟨ba, bc, wa, wu⟩) (by simp [results, Try.results131, go_sem, c0, c1, DD.val]) rfl (hret K)
  | true =>
  cases oB with
  | false =>
    go_wp2
    exact bodyPost_ret (v := d.val ⟨ba, bc, wa, wu⟩) (by simp [results, Try.results131, go_sem, c0, c1, DD.val]) rfl (hret K)
  | true =>
  clear hret c0 c1 K z0 z1 zf v0 v1 vf
  go_upto_if 30 with (first
    | (go_at_call_of 52 ((2 : Int)); refine (l6pick_of b sa bs cap at_ 2 2 _ rfl hD4.dc (by omega) (by omega) (by omega)).mono ?_; rintro e w5 ⟨k, at5, hk2, ha5, rfl, hk5⟩; have hG5 := hG4.kept hk5.kept (by omega); obtain ⟨_, p0, p1, p2, p3⟩ := id hG5)
    | (go_at_call_of 52 ((3 : Int)); refine (l6pick_of b sa bs cap at5 3 3 _ rfl hk5.dc (by omega) (by omega) (by omega)).mono ?_; rintro e w6 ⟨x3, at6, hx3, ha6, rfl, hk6⟩))
  have hD6 := (hD4.trans hk5).trans hk6
  have hM6 := (hM4.kept hk5.kept (fun z e => by omega) hVB hRB).kept hk6.kept (fun z e => by omega) hVB hRB
  have hG6 := hG5.kept hk6.kept (by omega)
  have hH6 := (hH4.kept hk5.kept (by omega)).kept hk6.kept (by omega)
  clear p0 p1 p2 p3 q0 q1 q2 q3 hD4 hM4 hG4 hH4 hk5 hk6 hG5
  go_cut [8] from 11 (fun v wc => ∃ (gg : Int) (at7 : Nat), v = .int .i64 gg ∧ at7 ≤ at6 + 2 ∧ DK w6 wc b sa bs cap at7)
  case first =>
    by_cases hx0 : x3 = 0
    · subst hx0
      go_wp2_with (go_at_call 52; refine (l6pick_of b sa bs cap at6 2 2 _ rfl hD6.dc (by omega) (by omega) (by omega)).mono ?_; rintro e w7 ⟨x2, at7, hx2, ha7, rfl, hk7⟩)
      go_meet
      case rel => exact ⟨_, at7, rfl, by omega, hk7⟩
    · have hx1 : ¬ ((x3 : Int) = 0) := by omega
      go_wp2
      go_meet
      case rel => exact ⟨gA, at6, rfl, by omega, ⟨hD6.dc, Kept.refl _ _⟩⟩
  obtain ⟨gg, at7, rfl, ha7, hk7⟩ := hcut
  generalize wc = w7 at hk7 ⊢
  have hD7 := hD6.trans hk7
  have hM7 := hM6.kept hk7.kept (fun z e => by omega) hVB hRB
  have hG7 := hG6.kept hk7.kept (by omega)
  have hH7 := hH6.kept hk7.kept (by omega)
  clear hD6 hM6 hG6 hH6 hk7
  obtain ⟨_, p0, p1, p2, p3⟩ := id hG7
  obtain ⟨_, q0, q1, q2, q3⟩ := id hH7
  go_upto_region 9 with fail
  go_cut [9] from 11 (fun v wc => ∃ (X : Nat) (g9 l9 s9 : Int), v = .pointer (some ⟨X, 0, none⟩) ∧ HBox wc X true g9 l9 s9 ∧ w7.heap.size ≤ X ∧ Below w7.heap.size w7 wc)
  case first =>
    have hk01 : k = 0 ∨ k = 1 := by omega
    rcases hk01 with rfl | rfl
    · go_wp2
      go_meet
      case rel => exact ⟨_, gA, lA, sA, rfl, ⟨by simp, by simp, by simp, by simp, by simp⟩, by simp, gal (gal (gre _) _) _⟩
    · go_wp2
      go_meet
      case rel => exact ⟨_, gB, lB, sB, rfl, ⟨by simp, by simp, by simp, by simp, by simp⟩, by simp, gal (gal (gre _) _) _⟩
  obtain ⟨X, g9, l9, s9, rfl, hX9, hXw, hb9⟩ := hcut
  generalize wc = w9 at hX9 hb9 ⊢
  have hD9 := hD7.grow hb9
  have hM9 := hM7.grow hb9 hVB hRB
  clear p0 p1 p2 p3 q0 q1 q2 q3 hD7 hM7 hG7 hH7
  have hXl : X < w9.heap.size := World.block_lt_of_cell? w9 ⟨X, 0, none⟩ (by obtain ⟨_, h, _⟩ := id hX9; exact h)
  have hK0 : Kept (fun _ => False) w9 (w9.alloc (.cells #[.int .u8 72, .int .u8 69, .int .u8 65, .int .u8 68] 5 (4, 5))) := (Kept.refl _ w9).alloc _
  have hH0 := hX9.kept hK0 (fun e => e)
  have hs0 : (w9.alloc (.cells #[.int .u8 72, .int .u8 69, .int .u8 65, .int .u8 68] 5 (4, 5))).heap.size = w9.heap.size + 1 := by simp
  have hBt : BytesAt (w9.alloc (.cells #[.int .u8 72, .int .u8 69, .int .u8 65, .int .u8 68] 5 (4, 5))) (some ⟨w9.heap.size, 0, none⟩) [72, 69, 65, 68] := fun i hi => by
    have hb := blk_new_at w9 (.cells #[.int .u8 72, .int .u8 69, .int .u8 65, .int .u8 68] 5 (4, 5)) w9.heap.size rfl
    refine ⟨w9.heap.size, 0, rfl, ?_⟩
    rw [Nat.zero_add, cell_of_row _ _ i _ _ _ hb]
    have h4 : i = 0 ∨ i = 1 ∨ i = 2 ∨ i = 3 := by simp at hi; omega
    rcases h4 with rfl | rfl | rfl | rfl <;> rfl
  have kc := fun (w : World) (C : Array Value) (n c : Nat) => Lib.run_convert_bytes_const (P := Try.prog) w 22 5 C n c Try.underlying22 Try.underlying5
  go_upto_region 11 with fail
  generalize w9.alloc (.cells #[.int .u8 72, .int .u8 69, .int .u8 65, .int .u8 68] 5 (4, 5)) = wB at hBt hH0 hK0 hs0 ⊢
  clear kc
  obtain ⟨nb, hnb⟩ := hid_ex w9.heap.size
  have g6 : IntKind.u64.wrap gg = ((u64n gg : Nat) : Int) := by rw [IntKind.wrap_u64]; unfold u64n; omega
  have l6 : IntKind.u64.wrap l9 = ((u64n l9 : Nat) : Int) := by rw [IntKind.wrap_u64]; unfold u64n; omega
  have s6 : IntKind.u64.wrap s9 = ((u64n s9 : Nat) : Int) := by rw [IntKind.wrap_u64]; unfold u64n; omega
  obtain ⟨zs, hzs⟩ := hid_ex ([72, 69, 65, 68] : List Nat)
  rw [← hnb.out] at hBt hs0 hXl ⊢
  rw [← hzs.out] at hBt
  have hz4 : Hid (zs.length = 4) := by show _ = _; rw [hzs.out]; rfl
  have hlow : ∀ n, (lowB 8 n).length = 8 := lowB_length 8
  obtain ⟨_, _, b1, b2, b3⟩ := id hH0
  have hz256 : ∀ x, x ∈ zs → x < 256 := by rw [hzs.out]; intro x hx; simp at hx; omega
  go_wp2_with (first
    | (go_at_call 123; refine (l2eight_any nb oa3 z3.length c3 z3 (sumN z3) _ u5 rfl rfl (sumN_lt z3) (by have := hb5.size; have := hQ3.kept.size; have := hQ2.kept.size; have := hQ1.kept.size; omega) (by have := hl3.out; omega) ((Kept.of_below hb5 (fun _ => False)).owns hQ3.own (fun _ _ e => e))).mono ?_; rintro e u6 ⟨oa4, c4, rfl, hQ4⟩; obtain ⟨z4, hz4'⟩ := hid_ex (z3 ++ lowB 8 (sumN z3)); rw [← hz4'.out] at hQ4 ⊢)
    | (go_at_call 108; refine (l2sum_any oa3 z3 c3 u4 (owns_atH hQ3.own) (by have := hl3.out; unfold maxLen; omega) hb3).mono ?_; rintro e u5 ⟨rfl, hb5⟩)
    | (go_at_call 123; refine (l2eight_any nb oa2 z2.length c2 z2 (u64n s9) _ u3 rfl (by first | rfl | exact s6) (u64n_lt s9) (by have := hQ2.kept.size; have := hQ1.kept.size; omega) (by have := hl2.out; omega) hQ2.own).mono ?_; rintro e u4 ⟨oa3, c3, rfl, hQ3⟩; obtain ⟨z3, hz3'⟩ := hid_ex (z2 ++ lowB 8 (u64n s9)); rw [← hz3'.out] at hQ3 ⊢; have hl3 : Hid (z3.length = 28) := (by show _ = _; rw [hz3'.out, List.length_append, hl2.out, hlow]); have hb3 : ∀ x, x ∈ z3 → x < 256 := (by rw [hz3'.out, hz2'.out, hz1'.out]; exact low_app (low_app (low_app hz256 _) _) _))
    | (go_at_call 123; refine (l2eight_any nb oa1 z1.length c1 z1 (u64n l9) _ u2 rfl (by first | rfl | exact l6) (u64n_lt l9) (by have := hQ1.kept.size; omega) (by have := hl1.out; omega) hQ1.own).mono ?_; rintro e u3 ⟨oa2, c2, rfl, hQ2⟩; obtain ⟨z2, hz2'⟩ := hid_ex (z1 ++ lowB 8 (u64n l9)); rw [← hz2'.out] at hQ2 ⊢; have hl2 : Hid (z2.length = 20) := (by show _ = _; rw [hz2'.out, List.length_append, hl1.out, hlow]); have hH3 := hH2.kept hQ2.kept (fun e => (by have := (hQ1.lt e).1; omega)); obtain ⟨_, _, d1, d2, d3⟩ := id hH3)
    | (go_at_call 123; refine (l2eight_full nb 0 4 zs (u64n gg) _ wB hz4.out.symm (by first | rfl | exact g6) (u64n_lt gg) (by have := hz4.out; omega) hBt).mono ?_; rintro e u2 ⟨oa1, c1, rfl, hO1, hbl1⟩; obtain ⟨z1, hz1'⟩ := hid_ex (zs ++ lowB 8 (u64n gg)); rw [← hz1'.out] at hO1 ⊢; have hQ1 : Ob wB nb none u2 oa1 c1 z1 := ⟨owns_le hO1 (by omega), fun k hk e => absurd (owns_ge' hO1 e) (by omega), Kept.of_below hbl1 _⟩; have hl1 : Hid (z1.length = 12) := (by show _ = _; rw [hz1'.out, List.length_append, hz4.out, hlow]); have hH2 := hH0.kept hQ1.kept (fun e => (by cases e)); obtain ⟨_, _, e1, e2, e3⟩ := id hH2))
  have hK6 : Kept (fun _ => False) w9 u6 := ((((hK0.trans hQ1.kept (fun k hk e => by cases e)).trans hQ2.kept (fun k hk e => by have := (hQ1.lt e).1; have := hnb.out; omega)).trans hQ3.kept (fun k hk e => by have := (hQ2.lt e).1; have := hnb.out; omega)).trans (Kept.of_below hb5 (fun _ => False)) (fun _ _ e => e)).trans hQ4.kept (fun k hk e => by have := (hQ3.lt e).1; have := hnb.out; omega)
  have hl4 : Hid (z4.length = 36) := by show _ = _; rw [hz4'.out, List.length_append, hl3.out, hlow]
  have hb4 : ∀ x, x ∈ z4 → x < 256 := by rw [hz4'.out]; exact low_app hb3 _
  have hO6 := hQ4.own
  clear hQ1 hQ2 hQ3 hQ4 hH0 hH2 hH3 hBt hK0 b1 b2 b3 d1 d2 d3 e1 e2 e3 g6 l6 s6
  go_loopw [10] (fun v ws => ∃ (j : Nat) (ys : List Nat) (oa : Option Addr) (c : Nat), v = .slice oa ys.length c ∧ ys.length + j = 64 ∧ (∀ x, x ∈ ys → x < 256) ∧ ws.ownsRow nb 5 1 (.slice oa ys.length c) ys.length (bcells ys) ∧ Hid (Kept (fun _ => False) w9 ws)) (fun v _ => 64 - sliceN v)
  case atStart => exact ⟨28, z4, oa4, c4, rfl, by have := hl4.out; omega, hb4, hO6, hK6⟩
  case round =>
    obtain ⟨j, ys, oa, c, rfl, hj, hyb, hOy, hKy⟩ := hrel
    have hsK := hKy.out.size
    rw [← hnb.out] at hsK
    by_cases hlt : ys.length < 64
    · have hd : (ys.length : Int) < 64 := by omega
      go_wp2_with (at_builtin; refine wpList_append_lies _ rfl (.tmp 63) (.tmp 64) 22 rfl nb 5 i0 (.int .u8 0) 1 1 Try.underlying22 hi hz0 hz1 hz2 rfl (by decide) _ _ _ rfl (hOy.alloc _) ⟨wr.heap.size, 0, none⟩ 1 1 [.int .u8 0] rfl rfl (World.news_of_block (cs := #[.int .u8 0]) (t := 5) (fr := (0, 0)) (blk_new_at _ _ _ (by simp))) (by simp [Value.oneCell']) (by decide) (by unfold maxLen; omega) (by omega) (by simp; omega) (wr.heap.size + 1) (by simp) ?_; intro g2 cap2 u7 hown7 hgrow7 hat7 hlt7)
      have hG := Kept.of_grown hgrow7
      have hA7 : Kept (fun _ => False) wr (wr.alloc (.cells #[.int .u8 0] 5)) := (Kept.refl _ wr).alloc _
      go_roundw
      case rel =>
        exact ⟨j - 1, ys ++ [0], some ⟨g2, 0, none⟩, cap2, by simp, by simp; omega, fun x hx => (List.mem_append.1 hx).elim (hyb x) (fun e => by rw [List.mem_singleton.1 e]; decide), by simpa [bcells_snoc] using hown7, (hKy.out.trans hA7 (fun _ _ e => e)).trans hG (fun k hk e => by have := (hOy.lt _ e).1; have := hnb.out; omega)⟩
      case measure => simp [sliceN]; omega
    · have hd : ¬ ((ys.length : Int) < 64) := by omega
      have hy64 : Hid (ys.length = 64) := by show _ = _; omega
      have hM := hM9.kept hKy.out (fun _ e => e.elim) hVB hRB
      have hD := hD9.put hKy.out (fun _ e => e.elim) (by omega) (fun g off e => by have := hsl g off e; omega)
      have hsw := hD.kept.size
      obtain ⟨v0, v1, vf⟩ := id hM.v
      go_upto_region 18 with (go_at_call 84; refine (l3copy_any d ⟨ba, bc, wa, wu⟩ _ hsm hM.at_).mono ?_; rintro e u8 ⟨lb2, lw2, ba2, bc2, wa2, wc2, rfl, mb2, mw2, sb2, sw2, hb8⟩; obtain ⟨y0, y1, yf⟩ := hM.v.grow hb8)
      obtain ⟨hM9', hK9'⟩ := (hM.grow hb8 hVB hRB).store hVR mb2 mw2 (sb2.le (by omega)) (sw2.le (by omega))
      have hD9' := (hD.grow hb8).put hK9' (fun z e => by omega) (by omega) (fun g off e => by have := hsl g off e; omega)
      have hO8 := (Kept.of_below hb8 (fun _ => False)).owns hOy (fun _ _ e => e)
      have hO9 := owns_le (hK9'.owns hO8 (fun z hz e => by subst e; exact not_B_of_D (hM.grow hb8 hVB hRB).vd (owns_isB hO8 hz).1)) (show B ≤ nb by have := hnb.out; have := hD9.kept.size; omega)
      generalize (u8.setCell ⟨V, 0, none⟩ (.slice ba2 d.blocks.length bc2)).setCell ⟨V, 1, none⟩ (.slice wa2 d.waiting.length wc2) = u9 at hM9' hK9' hD9' hO9 ⊢
      clear v0 v1 vf y0 y1 yf hM hD hO8
      have hl130 : lb2.length = 130 := by have h := hf.bl; rw [← mb2] at h; simpa using h
      obtain ⟨g2, rfl⟩ : ∃ g, ba2 = some ⟨g, 0, none⟩ := by
        obtain ⟨g, cp, e1, _, _⟩ := hM9'.sb.own.form (by omega)
        injection e1 with e2
        exact ⟨g, e2⟩
      obtain ⟨⟨cv, hcv⟩, hfz⟩ := owns_at hM9'.sb.own (j := k) (by omega)
      have hgS := (owns_isS hM9'.sb.own (z := g2) rfl)
      have hg2w : w.heap.size ≤ g2 := by have := owns_ge' sb2.own (b := g2) rfl; omega
      obtain ⟨v0, v1, vf⟩ := id hM9'.v
      have k0 : (0 : Int) ≤ (k : Int) := by omega
      have k1 : (k : Int) < (d.blocks.length : Int) := by rw [hf.bl]; omega
      go_upto_region 19 with fail
      have hS7 := hM9'.sb.setAt (y := ⟨ys, oa, c⟩) (j := k) (by omega) hO9
      have K6 := Kept.one u9 g2 k (.slice oa ys.length c)
      have hVg : V ≠ g2 := fun e => not_S_of_D hM9'.vd (by rw [e]; exact hgS.1)
      have hRg : R ≠ g2 := fun e => not_S_of_D hM9'.rd (by rw [e]; exact hgS.1)
      have hM7 : KM B V R ⟨d.blocks.set k ys, d.waiting⟩ (lb2.set k ⟨ys, oa, c⟩) lw2 (some ⟨g2, 0, none⟩) bc2 wa2 wc2 (u9.setCell ⟨g2, k, none⟩ (.slice oa ys.length c)) :=
        ⟨by rw [List.map_set, hM9'.mb], hM9'.mw, hS7, hM9'.sw.kept K6 (fun z e _ => by subst e; exact ⟨not_W_of_S hgS.1, not_B_of_S hgS.1⟩), by have h9 := hM9'.v.kept K6 hVg; rw [show (DD.mk (d.blocks.set k ys) d.waiting).blocks.length = d.blocks.length by show (d.blocks.set k ys).length = _; rw [List.length_set]]; exact h9, hM9'.vd.kept K6 hVg, hM9'.r.kept K6 hRg, hM9'.rd.kept K6 hRg⟩
      have hD7 := hD9'.put K6 (fun z e => by rw [e]; exact hg2w) (by omega) (fun g off e => by have := hsl g off e; omega)
      obtain ⟨ho7, hO7⟩ := set_ok (k := k) hok.out hO hy64.out hyb
      generalize u9.setCell ⟨g2, k, none⟩ (.slice oa ys.length c) = u10 at hM7 hD7 ⊢
      generalize DD.mk (d.blocks.set k ys) d.waiting = d7 at hM7 hO7 ho7 ⊢
      clear v0 v1 vf hcv hfz
      obtain ⟨v0, v1, vf⟩ := id hM7.v
      obtain ⟨z0, z1, zf⟩ := id hM7.r
      obtain ⟨c0, c1, K⟩ := ret2 (A := .slice (some ⟨g2, 0, none⟩) d7.blocks.length bc2) (B := .slice wa2 d7.waiting.length wc2) z0 z1
      go_wp2
      refine bodyPost_ret (v := .agg #[.slice (some ⟨g2, 0, none⟩) d7.blocks.length bc2, .slice wa2 d7.waiting.length wc2]) (by simp [results, Try.results131, go_sem, c0, c1]) rfl ⟨d7, _, lw2, some ⟨g2, 0, none⟩, bc2, wa2, wc2, at7, rfl, ho7, hO7, hM7.mb, hM7.mw, ?_, ?_, by omega, hD7.put K (fun z e => by omega) (by omega) (fun g off e => by have := hsl g off e; omega)⟩
      · exact hM7.sb.kept K (fun z e _ => by subst e; exact ⟨not_S_of_D hM7.rd, not_B_of_D hM7.rd⟩)
      · exact hM7.sw.kept K (fun z e _ => by subst e; exact ⟨not_W_of_D hM7.rd, not_B_of_D hM7.rd⟩)

end Go.Proofs.Ythjddpkegooobaa

/-
  LL6: a disk that may be spoilt, drawn; what Put is asked, drawn. Own work.
-/
namespace Go.Proofs.Ythjddpkegooobaa
open Go.RowKit

def L6D (w : World) (b : Nat) (sa : Option Addr) (bs : List Nat) (cap at_ : Nat) (e : Ending) (w' : World) : Prop :=
  ∃ (d : DD) (lb : List LB) (lw : List LW) (ba : Option Addr) (bc : Nat) (wa : Option Addr) (wc at' : Nat), e = .returned (d.val ⟨ba, bc, wa, wc⟩) ∧ d.Ok ∧ lb.map (·.l) = d.blocks ∧ lw.map (·.x) = d.waiting ∧ SB w.heap.size w' ba bc lb ∧ SW w.heap.size w' wa wc lw ∧ at' ≤ at_ + 82000 ∧ DK w w' b sa bs cap at'

set_option maxHeartbeats 4000000 in
set_option maxRecDepth 100000 in
theorem l6disk_any (b : Nat) (sa : Option Addr) (bs : List Nat) (cap at_ : Nat) (w : World) (hc : DC w b sa bs cap at_) (hat : at_ + 90000 < 4611686018427387904) :
    Calls Try.prog 78 #[.pointer (some ⟨b, 0, none⟩)] w (L6D w b sa bs cap at_) := by
  have hbl := hc.lt
  have hsl := hc.sl
  obtain ⟨R, hR⟩ := hid_ex w.heap.size
  have hA0 := gal (gre w) (.cells #[.slice none 0 0, .slice none 0 0] 44)
  have hR0 := VB.new w (.slice none 0 0) (.slice none 0 0) 44
  have hRd0 : IsD (w.alloc (.cells #[.slice none 0 0, .slice none 0 0] 44)) w.heap.size := ⟨_, blk_new_at _ _ _ rfl⟩
  have hs0 : (w.alloc (.cells #[.slice none 0 0, .slice none 0 0] 44)).heap.size = w.heap.size + 1 := by simp
  have hD0 := (DK.mk hc (Kept.refl _ w)).grow hA0
  go_enter Try.func78, Try.ntmps78
  go_upto_region 1 with fail
  generalize w.alloc (.cells #[.slice none 0 0, .slice none 0 0] 44) = w0 at hA0 hR0 hRd0 hs0 hD0 ⊢
  rw [← hR.out] at hR0 hRd0 ⊢
  go_upto_region 2 with (go_at_call 130; refine (l6busy_any b sa bs cap at_ _ hD0.dc (by omega)).mono ?_; rintro e w1 ⟨d, lb, lw, ba, bc, wa, wu, at1, rfl, hok, hO, mb, mw, sb, sw, ha1, hk1⟩)
  have hAV := gal (gre w1) (.cells #[.slice ba d.blocks.length bc, .slice wa d.waiting.length wu] 44)
  have hV2 := VB.new w1 (.slice ba d.blocks.length bc) (.slice wa d.waiting.length wu) 44
  have hVd2 : IsD (w1.alloc (.cells #[.slice ba d.blocks.length bc, .slice wa d.waiting.length wu] 44)) w1.heap.size := ⟨_, blk_new_at _ _ _ rfl⟩
  have hs1 := hk1.kept.size
  obtain ⟨V, hV⟩ := hid_ex w1.heap.size
  have hRV : R < V := by have := hR.out; have := hV.out; omega
  have hRB : w.heap.size ≤ R := by have := hR.out; omega
  have hVB : w.heap.size ≤ V := by omega
  have hR1 := hR0.kept hk1.kept (by have := hR.out; omega)
  have hRd1 := hRd0.kept hk1.kept (by have := hR.out; omega)
  have hM2 : KM w.heap.size V R d lb lw ba bc wa wu (w1.alloc (.cells #[.slice ba d.blocks.length bc, .slice wa d.waiting.length wu] 44)) :=
    ⟨mb, mw, (sb.le (by omega)).grow hAV, (sw.le (by omega)).grow hAV, by rw [hV.out]; exact hV2, by rw [hV.out]; exact hVd2, hR1.grow hAV, hRd1.grow hAV⟩
  have hD2 := (hD0.trans hk1).grow hAV
  rw [← hV.out]
  generalize w1.alloc (.cells #[.slice ba d.blocks.length bc, .slice wa d.waiting.length wu] 44) = w2 at hM2 hD2 ⊢
  have hok : Hid (d.ok = true) := hok
  clear hAV hV2 hVd2 sb sw mb mw hR0 hRd0 hR1 hRd1 hA0 hs0 hs1 hV hR hD0 hk1
  go_upto_if 8 with (go_at_call_of 52 ((6 : Int)); refine (l6pick_of b sa bs cap at1 6 6 _ rfl hD2.dc (by omega) (by omega) (by omega)).mono ?_; rintro e w3 ⟨x, at3, hx6, ha3, rfl, hk3⟩)
  have hD := hD2.trans hk3
  have hM := hM2.kept hk3.kept (fun z e => by omega) hVB hRB
  clear hM2 hD2 hk3
  go_cut [] from 4 (fun wc' => ∃ (d : DD) (lb : List LB) (lw : List LW) (ba : Option Addr) (bc : Nat) (wa : Option Addr) (wu at5 : Nat), Hid (d.ok = true) ∧ d.Ok ∧ at5 ≤ at3 + 10 ∧ KM w.heap.size V R d lb lw ba bc wa wu wc' ∧ DK w wc' b sa bs cap at5)
  case first =>
    by_cases hx0 : x = 0
    · subst hx0
      obtain ⟨v0, v1, vf⟩ := id hM.v
      go_wp2_with (go_at_call 131; refine (l6twins_any w.heap.size b sa bs cap at3 d lb lw ba bc wa wu _ hD.dc (by omega) hbl hsl hD.kept.size hok hO hM.mb hM.mw hM.sb hM.sw).mono ?_; rintro e w5 ⟨d2, lb2, lw2, ba2, bc2, wa2, wu2, at5, rfl, hok2, hO2, mb2, mw2, sb2, sw2, ha5, hk5⟩; obtain ⟨y0, y1, yf⟩ := (hM.kept hk5.kept (fun z e => by omega) hVB hRB).v)
      obtain ⟨hM6, hK6⟩ := (hM.kept hk5.kept (fun z e => by omega) hVB hRB).store (by omega) mb2 mw2 sb2 sw2
      have hD6 := (hD.trans hk5).put hK6 (fun z e => by omega) hbl hsl
      generalize (w5.setCell ⟨V, 0, none⟩ (.slice ba2 d2.blocks.length bc2)).setCell ⟨V, 1, none⟩ (.slice wa2 d2.waiting.length wu2) = w6 at hM6 hK6 hD6 ⊢
      go_meet
      case rel => exact ⟨d2, lb2, lw2, ba2, bc2, wa2, wu2, at5, hok2, hO2, ha5, hM6, hD6⟩
    · have hx1 : ¬ ((x : Int) = 0) := by omega
      go_wp2
      go_meet
      case rel => exact ⟨d, lb, lw, ba, bc, wa, wu, at3, hok, hO, by omega, hM, hD⟩
  clear hM hD hok hO
  obtain ⟨d, lb, lw, ba, bc, wa, wu, at5, hok, hO, ha5, hM5, hD5⟩ := hcut
  generalize wc = w5 at hM5 hD5 ⊢
  go_upto_if 14 with (go_at_call_of 52 ((6 : Int)); refine (l6pick_of b sa bs cap at5 6 6 _ rfl hD5.dc (by omega) (by omega) (by omega)).mono ?_; rintro e w7 ⟨x7, at7, hx7, ha7, rfl, hk7⟩)
  have hD := hD5.trans hk7
  have hM := hM5.kept hk7.kept (fun z e => by omega) hVB hRB
  clear hM5 hD5 hk7
  go_cut [] from 4 (fun wc' => ∃ (d : DD) (lb : List LB) (lw : List LW) (ba : Option Addr) (bc : Nat) (wa : Option Addr) (wu at9 : Nat), d.Ok ∧ at9 ≤ at7 + 100 ∧ KM w.heap.size V R d lb lw ba bc wa wu wc' ∧ DK w wc' b sa bs cap at9)
  case first =>
    by_cases hx0 : x7 = 0
    · subst hx0
      obtain ⟨v0, v1, vf⟩ := id hM.v
      go_wp2_with (go_at_call 132; refine (l6spoild_any w.heap.size b sa bs cap at7 d lb lw ba bc wa wu _ hD.dc (by omega) hbl hsl hD.kept.size hok.out hO hM.mb hM.mw hM.sb hM.sw).mono ?_; rintro e w8 ⟨d2, lb2, lw2, ba2, bc2, wa2, wu2, at8, rfl, hO2, mb2, mw2, sb2, sw2, ha8, hk8⟩; obtain ⟨y0, y1, yf⟩ := hM.v.kept hk8.kept (fun e => e.elim (fun e => by omega) (fun e => e.2 hM.vd)))
      have hM8 : KM w.heap.size V R d2 lb2 lw2 ba2 bc2 wa2 wu2 ((w8.setCell ⟨V, 0, none⟩ (.slice ba2 d2.blocks.length bc2)).setCell ⟨V, 1, none⟩ (.slice wa2 d2.waiting.length wu2)) ∧ Kept (fun z => z = V) w8 ((w8.setCell ⟨V, 0, none⟩ (.slice ba2 d2.blocks.length bc2)).setCell ⟨V, 1, none⟩ (.slice wa2 d2.waiting.length wu2)) := by
        have hVd := hM.vd.kept hk8.kept (fun e => e.elim (fun e => by omega) (fun e => e.2 hM.vd))
        have hRd := hM.rd.kept hk8.kept (fun e => e.elim (fun e => by omega) (fun e => e.2 hM.rd))
        have hVv := hM.v.kept hk8.kept (fun e => e.elim (fun e => by omega) (fun e => e.2 hM.vd))
        have hRv := hM.r.kept hk8.kept (fun e => e.elim (fun e => by omega) (fun e => e.2 hM.rd))
        have hD1 : IsD (w8.setCell ⟨V, 0, none⟩ (.slice ba2 d2.blocks.length bc2)) V := blk_setType hVd
        refine ⟨⟨mb2, mw2, ?_, ?_, ?_, blk_setType hD1, ?_, (hRd.kept (Kept.one w8 V 0 _) (by omega)).kept (Kept.one _ V 1 _) (by omega)⟩, (Kept.one w8 V 0 _).trans (Kept.one _ V 1 _) (fun _ _ e => e)⟩
        · exact (sb2.kept (Kept.one w8 V 0 _) (fun z e _ => by subst e; exact ⟨not_S_of_D hVd, not_B_of_D hVd⟩)).kept (Kept.one _ V 1 _) (fun z e _ => by subst e; exact ⟨not_S_of_D hD1, not_B_of_D hD1⟩)
        · exact (sw2.kept (Kept.one w8 V 0 _) (fun z e _ => by subst e; exact ⟨not_W_of_D hVd, not_B_of_D hVd⟩)).kept (Kept.one _ V 1 _) (fun z e _ => by subst e; exact ⟨not_W_of_D hD1, not_B_of_D hD1⟩)
        · exact (hVv.set0 _).set1 _
        · exact (hRv.kept (Kept.one w8 V 0 _) (by omega)).kept (Kept.one _ V 1 _) (by omega)
      obtain ⟨hM9, hK9⟩ := hM8
      have hD8 : DK w w8 b sa bs cap at8 := ⟨hk8.dc, hD.kept.trans hk8.kept (fun z hz e => e.elim id (fun e => by omega))⟩
      have hD9 := hD8.put hK9 (fun z e => by omega) hbl hsl
      generalize (w8.setCell ⟨V, 0, none⟩ (.slice ba2 d2.blocks.length bc2)).setCell ⟨V, 1, none⟩ (.slice wa2 d2.waiting.length wu2) = w9 at hM9 hK9 hD9 ⊢
      go_meet
      case rel => exact ⟨d2, lb2, lw2, ba2, bc2, wa2, wu2, at8, hO2, ha8, hM9, hD9⟩
    · have hx1 : ¬ ((x7 : Int) = 0) := by omega
      go_wp2
      go_meet
      case rel => exact ⟨d, lb, lw, ba, bc, wa, wu, at7, hO, by omega, hM, hD⟩
  clear hM hD hok hO
  obtain ⟨d, lb, lw, ba, bc, wa, wu, at9, hO, ha9, hM, hD⟩ := hcut
  generalize wc = w9 at hM hD ⊢
  obtain ⟨v0, v1, vf⟩ := id hM.v
  obtain ⟨z0, z1, zf⟩ := id hM.r
  obtain ⟨c0, c1, K⟩ := ret2 (A := .slice ba d.blocks.length bc) (B := .slice wa d.waiting.length wu) z0 z1
  go_wp2
  refine bodyPost_ret (v := .agg #[.slice ba d.blocks.length bc, .slice wa d.waiting.length wu]) (by simp [results, Try.results78, go_sem, c0, c1]) rfl ⟨d, lb, lw, ba, bc, wa, wu, at9, rfl, hO, hM.mb, hM.mw, ?_, ?_, by omega, hD.put K (fun z e => by omega) hbl hsl⟩
  · exact hM.sb.kept K (fun z e _ => by subst e; exact ⟨not_S_of_D hM.rd, not_B_of_D hM.rd⟩)
  · exact hM.sw.kept K (fun z e _ => by subst e; exact ⟨not_W_of_D hM.rd, not_B_of_D hM.rd⟩)

end Go.Proofs.Ythjddpkegooobaa
