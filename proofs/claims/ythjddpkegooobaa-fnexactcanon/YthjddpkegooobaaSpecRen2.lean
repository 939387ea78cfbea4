/-
  SPECREN2: the specification's renaming, of whatever value that is well made. Own work.
-/
import Derived.Test.YthjddpkegooobaaSpecRen
namespace Go.Proofs.Ythjddpkegooobaa
open Go.RowKit

theorem l1renamed_any (base n : Nat) (ord : List Nat) (v : GV) (wb : Nat) (oa : Option Addr) (ocap : Nat) (w : World) (hv : okV n v = true) (hinv : InvO n ord) (hn : n ≤ 300) (hwb : wb < base) (hbase : base ≤ w.heap.size)
    (hw : w.rowIs wb 3 n (fun i => .int .i64 (whereOf ord i))) (ho : w.ownsRow base 3 1 (.slice oa ord.length ocap) ord.length (ints ord)) :
    Calls Try.prog 114 #[v.val, .slice (some ⟨wb, 0, none⟩) n n, .slice oa ord.length ocap] w (RenPost base n wb ord v oa w) := by
  by_cases hk : v.kind = 4
  · have hb := okV_node hv hk
    obtain ⟨k, m, t, x⟩ := v
    obtain rfl : k = 4 := hk
    obtain ⟨y, rfl⟩ := Int.eq_ofNat_of_zero_le hb.1
    have hy : y < n := by have := hb.2; simpa using this
    by_cases hm : y ∈ ord
    · exact l1renamed_old base n ord m t y wb oa ocap w hm hy hn hw ho
    · exact l1renamed_new base n ord m t y wb oa ocap w hm hy hn (Nat.le_trans hinv.le hn) hwb hbase hw ho
  · exact l1renamed_not base n ord v wb oa ocap w hk hw ho

end Go.Proofs.Ythjddpkegooobaa
