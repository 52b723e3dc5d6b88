/- libraryref01.size over texts -/
import Derived.Test.YtjfeckccmfbkhaaDoorRDecT
import Derived.Test.YtjfeckccmfbkhaaDoorRSize
namespace Go.Proofs.YtjfeckccmfbkhaaDoor
open Go.RowKit

theorem size_refT (cs : List Nat) (h : OKs cs) (hz : (T cs).size ≤ 1000000) (k : Nat) (hk : k < cs.length) (w : World) :
    Calls Tryd.prog 52 #[.string (T cs), .int .i64 (off cs k)] w fun e w' => e = .returned (.int .i64 (wid cs[k])) ∧ Below w.heap.size w w' := by
  have := size_ref (T cs) (off cs k) (off_lt cs k hk) hz w
  rw [refDec_T cs h k hk] at this
  have hw := wid_pos cs[k]
  rw [show max ((cs[k], wid cs[k]) : Nat × Nat).2 1 = wid cs[k] from by simp only; omega] at this
  exact this

end Go.Proofs.YtjfeckccmfbkhaaDoor
