/- A range over a text: what the iterator hands out at each character. -/
import Derived.Test.YtjfdolmcecgdgaaDoorPlain
import Derived.Test.YtjfdolmcecgdgaaDoorProg
import Derived.Lib.OthersKept
import Derived.Lib.Hide
import Derived.WalkKit
import Derived.WalkLawsBesides
namespace Go.Proofs.YtjfdolmcecgdgaaDoor
open Go.RowKit

theorem next_T {P : Program} (w : World) (k : Nat) (cs : List Nat) (h : OKs cs) (j : Nat) (hk : w.heap[k]? = some (.stringIter (T cs) (off cs j))) (hj : j < cs.length) (ty : TypeId) :
    (Instr.next (.pointer (some ⟨k, 0, none⟩)) true ty).run P w = .ok (.tuple #[.bool true, .int .i64 (off cs j), .int .i32 (cs[j] : Nat)]) (w.iterAt k (T cs) (off cs (j + 1))) := by
  have := Lib.run_next_any_at (P := P) w k (T cs) (off cs j) ty hk (off_lt cs j hj)
  rw [decode_T cs h j hj] at this
  rw [this, off_succ cs j hj]

theorem end_T {P : Program} (w : World) (k : Nat) (cs : List Nat) (j : Nat) (hk : w.heap[k]? = some (.stringIter (T cs) (off cs j))) (hj : j = cs.length) (ty : TypeId) :
    (Instr.next (.pointer (some ⟨k, 0, none⟩)) true ty).run P w = .ok (.tuple #[.bool false]) w := by
  refine Lib.run_next_end_at (P := P) w k (T cs) (off cs j) ty hk ?_
  rw [hj, T_off]; omega

theorem pos_T (w : World) (k : Nat) (s : ByteArray) (p : Nat) (hk : w.heap[k]? = some (.stringIter s p)) : w.iterPos k = p := by
  simp [World.iterPos, hk]

theorem okc_le {c : Nat} (h : okc c) : c ≤ 65535 := by unfold okc at h; omega

end Go.Proofs.YtjfdolmcecgdgaaDoor
