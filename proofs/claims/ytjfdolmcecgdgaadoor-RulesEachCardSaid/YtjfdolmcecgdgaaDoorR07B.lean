/- libraryref07: Tag, Get. -/
import Derived.Test.YtjfdolmcecgdgaaDoorR07A
namespace Go.Proofs.YtjfdolmcecgdgaaDoor
open Go.RowKit Go.PlainAid

/-- A text of three digits or so, against 010. -/
theorem less_three (l : List UInt8) (h3 : l.length = 3) (h0 : 48 ≤ (l.getD 0 0).toNat) (h1 : 48 ≤ (l.getD 1 0).toNat) (h2 : 48 ≤ (l.getD 2 0).toNat) : Op.bytesLess l [48, 49, 48] = (decide (l.getD 0 0 = 48) && decide (l.getD 1 0 = 48)) := by
  match l, h3 with
  | [a, b, c], _ =>
    have g0 : 48 ≤ a.toNat := h0
    have g1 : 48 ≤ b.toNat := h1
    have g2 : 48 ≤ c.toNat := h2
    have na : ¬ a < 48 := fun k => by have := UInt8.lt_iff_toNat_lt.1 k; simp at this; omega
    have nc : ¬ c < 48 := fun k => by have := UInt8.lt_iff_toNat_lt.1 k; simp at this; omega
    have nb : (b < 49) ↔ b = 48 := by
      rw [UInt8.lt_iff_toNat_lt, ← UInt8.toNat_inj]
      simp
      omega
    show (decide (a < 48) || (a == 48 && (decide (b < 49) || (b == 49 && (decide (c < 48) || (c == 48 && false)))))) = _
    rw [decide_eq_false na, decide_eq_false nc]
    simp [nb]
    rw [show (a == 48) = decide (a = 48) from rfl]

end Go.Proofs.YtjfdolmcecgdgaaDoor
