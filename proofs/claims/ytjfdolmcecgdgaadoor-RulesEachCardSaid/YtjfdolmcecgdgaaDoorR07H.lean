/- libraryref01.Join over any slice of texts; libraryref07: Plain. -/
import Derived.Test.YtjfdolmcecgdgaaDoorR07D
namespace Go.Proofs.YtjfdolmcecgdgaaDoor
open Go.RowKit Go.PlainAid

/-- The first k texts with these bytes between them. -/
def joinK (c : List UInt8) (L : List (List UInt8)) : Nat → List UInt8
  | 0 => []
  | k + 1 => if k = 0 then L.getD 0 [] else joinK c L k ++ c ++ L.getD k []
theorem joinK_le (c : List UInt8) (L : List (List UInt8)) (hc : c.length ≤ 1000) (hL : ∀ i, (L.getD i []).length ≤ 1000000) : ∀ k, (joinK c L k).length ≤ k * 1001000
  | 0 => Nat.le_refl _
  | k + 1 => by
    have h := joinK_le c L hc hL k
    have h0 := hL 0
    have hk := hL k
    rw [joinK]
    by_cases h1 : k = 0
    · rw [if_pos h1]; omega
    · rw [if_neg h1, List.length_append, List.length_append]; omega
def plainL (subs : List Sub) (codes : List UInt8) : List UInt8 := joinK [32] (allL subs codes) (allL subs codes).length

end Go.Proofs.YtjfdolmcecgdgaaDoor
