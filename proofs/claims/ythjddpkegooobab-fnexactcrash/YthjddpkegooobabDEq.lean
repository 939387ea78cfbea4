/-
  DEQ: the laws' comparisons of disks, where both are the same. Own work.
-/
import Derived.Test.YthjddpkegooobabBytesA
import Derived.Test.YthjddpkegooobabDPlain
import Derived.Deep.RegionHeld3
namespace Go.Proofs.Ythjddpkegooobab
open Go.RowKit

set_option maxRecDepth 100000 in
theorem eqByteSS_same (a a' : Option Addr) (cap cap' : Nat) (ns : List (List Nat)) (w : World) (hl : ns.length ≤ maxLen) (hv : ∀ n, n ∈ ns → n.length ≤ maxLen) (ha : BlksAt w a ns) (ha' : BlksAt w a' ns) :
    Calls Try.prog 91 #[.slice a ns.length cap, .slice a' ns.length cap'] w fun e w' => e = .returned (.bool true) ∧ Below w.heap.size w w' := by
  unfold maxLen at hl
  have hne : ((ns.length : Int) != (ns.length : Int)) = false := by simp
  go_enter Try.func91, Try.ntmps91
  go_wp2
  go_loopw [5] (fun i wr => ∃ k : Nat, k ≤ ns.length ∧ i = .int .i64 k ∧ Below w.heap.size w wr) (fun i _ => ns.length - (intOf i).toNat)
  case atStart => exact ⟨0, Nat.zero_le _, rfl, Below.refl _ _⟩
  case round =>
    obtain ⟨k, hk, rfl, hb⟩ := hrel
    by_cases hlt : k < ns.length
    · obtain ⟨n, b, off, av, cv, hvk, hvm, rfl, c0, hva⟩ := (ha.grow hb).get hlt
      obtain ⟨n', b', off', av', cv', hvk', hvm', rfl, d0, hva'⟩ := (ha'.grow hb).get hlt
      have e : n' = n := by rw [hvk.out, hvk'.out]
      subst e
      have i0 : (0 : Int) ≤ (k : Int) := by omega
      have i1 : (k : Int) < (ns.length : Int) := by omega
      have hvl := hv n' hvm
      have hv1 : BytesAt wr.drew av n' := hva.grow (gdr (gre _))
      have hv2 : BytesAt wr.drew av' n' := hva'.grow (gdr (gre _))
      clear ha ha' hvk hvk' hva hva'
      go_wp2
      go_region_held3 (fun w' => w'.cell? ⟨b, off + k, none⟩ = some (.slice av n'.length cv) ∧ w'.cell? ⟨b', off' + k, none⟩ = some (.slice av' n'.length cv')) (first | go_keep | (go_split_ands; refine ⟨?_, ?_⟩ <;> exact cell_later hb' (by assumption))) ((go_at_call 19; refine (eqByteS_same av av' n' cv cv' _ hvl hv1 hv2).mono ?_; rintro e w' ⟨rfl, hb'⟩))
      go_wp2
      go_roundw
      case rel => exact ⟨k + 1, by omega, by go_num, gca (gdr hb) hb'⟩
      case measure => simp [intOf]; omega
    · go_wp2
      go_ret
      exact ⟨rfl, hb⟩

set_option maxRecDepth 100000 in
theorem eqWrite_same (x : DW) (a a' : Option Addr) (cap cap' : Nat) (w : World) (hl : x.bytes.length ≤ maxLen) (ha : BytesAt w a x.bytes) (ha' : BytesAt w a' x.bytes) :
    Calls Try.prog 151 #[x.val a cap, x.val a' cap'] w fun e w' => e = .returned (.bool true) ∧ Below w.heap.size w w' := by
  have hne : ((x.block : Int) != (x.block : Int)) = false := by simp
  go_enter Try.func151, Try.ntmps151
  go_wp2_with (go_at_call 19; refine (eqByteS_same a a' x.bytes cap cap' _ hl (ha.grow (gal (gal (gre _) _) _)) (ha'.grow (gal (gal (gre _) _) _))).mono ?_; rintro e w' ⟨rfl, hb'⟩)
  go_ret
  exact ⟨rfl, gca (gal (gal (gre _) _) _) hb'⟩

set_option maxRecDepth 100000 in
theorem eqWriteS_same (a a' : Option Addr) (cap cap' : Nat) (ns : List DW) (w : World) (hl : ns.length ≤ maxLen) (hv : ∀ n, n ∈ ns → n.bytes.length ≤ maxLen) (ha : WrsAt w a ns) (ha' : WrsAt w a' ns) :
    Calls Try.prog 92 #[.slice a ns.length cap, .slice a' ns.length cap'] w fun e w' => e = .returned (.bool true) ∧ Below w.heap.size w w' := by
  unfold maxLen at hl
  have hne : ((ns.length : Int) != (ns.length : Int)) = false := by simp
  go_enter Try.func92, Try.ntmps92
  go_wp2
  go_loopw [5] (fun i wr => ∃ k : Nat, k ≤ ns.length ∧ i = .int .i64 k ∧ Below w.heap.size w wr) (fun i _ => ns.length - (intOf i).toNat)
  case atStart => exact ⟨0, Nat.zero_le _, rfl, Below.refl _ _⟩
  case round =>
    obtain ⟨k, hk, rfl, hb⟩ := hrel
    by_cases hlt : k < ns.length
    · obtain ⟨n, b, off, av, cv, hvk, hvm, rfl, c0, c1, hva⟩ := (ha.grow hb).get hlt
      obtain ⟨n', b', off', av', cv', hvk', hvm', rfl, d0, d1, hva'⟩ := (ha'.grow hb).get hlt
      have e : n' = n := by rw [hvk.out, hvk'.out]
      subst e
      have i0 : (0 : Int) ≤ (k : Int) := by omega
      have i1 : (k : Int) < (ns.length : Int) := by omega
      have hvl := hv n' hvm
      have hv1 : BytesAt wr.drew av n'.bytes := hva.grow (gdr (gre _))
      have hv2 : BytesAt wr.drew av' n'.bytes := hva'.grow (gdr (gre _))
      clear ha ha' hvk hvk' hva hva'
      go_wp2
      go_region_held3 (fun w' => w'.cell? ⟨b, off + k * 2, none⟩ = some (.int .i64 n'.block) ∧ w'.cell? ⟨b, off + k * 2 + 1, none⟩ = some (.slice av n'.bytes.length cv) ∧ w'.cell? ⟨b', off' + k * 2, none⟩ = some (.int .i64 n'.block) ∧ w'.cell? ⟨b', off' + k * 2 + 1, none⟩ = some (.slice av' n'.bytes.length cv')) (first | go_keep | (go_split_ands; refine ⟨?_, ?_, ?_, ?_⟩ <;> exact cell_later hb' (by assumption))) ((go_at_call 151; refine (eqWrite_same n' av av' cv cv' _ hvl hv1 hv2).mono ?_; rintro e w' ⟨rfl, hb'⟩))
      go_wp2
      go_roundw
      case rel => exact ⟨k + 1, by omega, by go_num, gca (gdr hb) hb'⟩
      case measure => simp [intOf]; omega
    · go_wp2
      go_ret
      exact ⟨rfl, hb⟩

set_option maxRecDepth 100000 in
theorem eqDisk_same (d : DD) (l l' : DL) (w : World) (hd : d.Ok) (ha : DAt w l d) (ha' : DAt w l' d) :
    Calls Try.prog 32 #[d.val l, d.val l'] w fun e w' => e = .returned (.bool true) ∧ Below w.heap.size w w' := by
  have hA := gal (gal (gre w) (.cells #[.slice l.ba d.blocks.length l.bc, .slice l.wa d.waiting.length l.wc] 50)) (.cells #[.slice l'.ba d.blocks.length l'.bc, .slice l'.wa d.waiting.length l'.wc] 50)
  go_enter Try.func32, Try.ntmps32
  go_wp2_with (first
    | (go_at_call 91; refine (eqByteSS_same l.ba l'.ba l.bc l'.bc d.blocks _ hd.bl (fun n hn => (hd.bb n hn).len) (ha.b.grow hA) (ha'.b.grow hA)).mono ?_; rintro e w' ⟨rfl, hb'⟩; obtain ⟨hc, hf⟩ := bcell hb')
    | (go_at_call 92; refine (eqWriteS_same l.wa l'.wa l.wc l'.wc d.waiting _ hd.wl (fun n hn => (hd.wb n hn).len) (ha.w.grow (gca hA hb')) (ha'.w.grow (gca hA hb'))).mono ?_; rintro e w'' ⟨rfl, hb''⟩))
  go_ret
  exact ⟨rfl, gca (gca hA hb') hb''⟩

end Go.Proofs.Ythjddpkegooobab
