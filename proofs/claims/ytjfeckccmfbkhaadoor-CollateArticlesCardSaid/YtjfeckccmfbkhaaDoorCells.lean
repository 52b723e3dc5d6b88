/- The cells of a builder's bytes, for texts. -/
import Derived.Test.YtjfeckccmfbkhaaDoorPlain
import Derived.Lib.AppendStr
import Derived.Lib.UnsafeStr
namespace Go.Proofs.YtjfeckccmfbkhaaDoor
open Go.RowKit

theorem cells_snoc (out : List Nat) (c : Nat) : Lib.byteCells (enc (out ++ [c])) = Lib.byteCells (enc out) ++ Lib.runeCells (c : Int) := by
  rw [enc_append, enc_one, Lib.byteCells_append, Lib.byteCells_encodeRune]

theorem cells_32 (out : List Nat) : Lib.byteCells (enc (out ++ [32])) = Lib.byteCells (enc out) ++ [.int .u8 32] := by
  rw [enc_append, Lib.byteCells_append]; rfl

theorem cells_T (out x : List Nat) : Lib.byteCells (enc (out ++ x)) = Lib.byteCells (enc out) ++ Lib.strCells (T x) := by
  rw [enc_append, Lib.byteCells_append, Lib.strCells_eq, T_list]

theorem cells_len (out : List Nat) : (Lib.byteCells (enc out)).length ≤ 4 * out.length := by
  rw [Lib.byteCells_length]; exact enc_le out

end Go.Proofs.YtjfeckccmfbkhaaDoor
