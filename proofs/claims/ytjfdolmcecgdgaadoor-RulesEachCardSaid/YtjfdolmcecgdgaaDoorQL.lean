/- Slices of subfields: wherever they lie (QL). A field's value (FV). -/
import Derived.Test.YtjfdolmcecgdgaaDoorPlain07
import Derived.Laws.AppendOwn
namespace Go.Proofs.YtjfdolmcecgdgaaDoor
open Go.RowKit

/-- A slice of these subfields. -/
def QL (v : Value) (L : List Sub) (w : World) : Prop :=
  ∃ a cap, v = .slice a L.length cap ∧ L.length ≤ cap ∧ cap ≤ maxLen ∧ (a = none → cap = 0) ∧ ∀ i, i < L.length → ∃ g o, a = some ⟨g, o, none⟩ ∧ g < w.heap.size ∧
    w.cell? ⟨g, o + i * 2, none⟩ = some (.int .u8 ((L.getD i sub0).1.toNat : Int)) ∧ w.cell? ⟨g, o + i * 2 + 1, none⟩ = some (.string (S (L.getD i sub0).2))
theorem QL.after {v : Value} {L : List Sub} {w w' : World} (h : QL v L w) (hb : Below w.heap.size w w') : QL v L w' := by
  obtain ⟨a, cap, rfl, hc, hm, hn, hx⟩ := h
  refine ⟨a, cap, rfl, hc, hm, hn, fun i hi => ?_⟩
  obtain ⟨g, o, rfl, hg, h1, h2⟩ := hx i hi
  exact ⟨g, o, rfl, Nat.lt_of_lt_of_le hg hb.size, (hb.cell (p := ⟨g, o + i * 2, none⟩) hg).trans h1, (hb.cell (p := ⟨g, o + i * 2 + 1, none⟩) hg).trans h2⟩
theorem QL.length {v : Value} {L : List Sub} {w : World} (h : QL v L w) : ∃ a cap, v = .slice a L.length cap ∧ L.length ≤ cap ∧ cap ≤ maxLen := by
  obtain ⟨a, cap, h1, h2, h3, _⟩ := h
  exact ⟨a, cap, h1, h2, h3⟩
/-- A field. -/
def FV (f : Fld) (u : Value) : Value := .agg #[.string (S f.tag), .string (S f.ind), u, .int .i64 f.auth]
end Go.Proofs.YtjfdolmcecgdgaaDoor
