/- Merged: Box15. -/
import Derived.Test.YtfjfpefpdlecbaaGreatDoorQ43
import Derived.Test.YtfjfpefpdlecbaaGreatDoorQ29
namespace Go.Proofs.YtfjfpefpdlecbaaGreatDoor

section
open Go.RowKit Go.PlainAid
def zR15 : Array Value := #[.int .i64 0, .int .i64 0, .int .i64 0, .string ⟨#[]⟩, .slice none 0 0]
abbrev setR15 (w : World) (b : Nat) (x0 x1 x2 x3 x4 : Value) : World := ((((w.setCell ⟨b, 0, none⟩ x0).setCell ⟨b, 1, none⟩ x1).setCell ⟨b, 2, none⟩ x2).setCell ⟨b, 3, none⟩ x3).setCell ⟨b, 4, none⟩ x4
theorem setR15_at {w : World} {b : Nat} {t : TypeId} {c0 c1 c2 c3 c4 x0 x1 x2 x3 x4 : Value} (h : w.heap[b]? = some (.cells #[c0, c1, c2, c3, c4] t (0, 0))) :
    (setR15 w b x0 x1 x2 x3 x4).heap[b]? = some (.cells #[x0, x1, x2, x3, x4] t (0, 0)) := by
  simp [setR15, World.setCell, Array.getElem?_modify, h]
theorem setR15_ne (w : World) (b g : Nat) (x0 x1 x2 x3 x4 : Value) (h : g ≠ b) : (setR15 w b x0 x1 x2 x3 x4).heap[g]? = w.heap[g]? := by
  rw [setR15, heap_setn15 _ _ _ h, heap_setn15 _ _ _ h, heap_setn15 _ _ _ h, heap_setn15 _ _ _ h, heap_setn15 _ _ _ h]
theorem setR15_below {w0 w : World} {b B : Nat} (h : Below B w0 w) (hb : B ≤ b) (x0 x1 x2 x3 x4 : Value) : Below B w0 (setR15 w b x0 x1 x2 x3 x4) :=
  ((((h.setCell (p := ⟨b, 0, none⟩) hb x0).setCell (p := ⟨b, 1, none⟩) hb x1).setCell (p := ⟨b, 2, none⟩) hb x2).setCell (p := ⟨b, 3, none⟩) hb x3).setCell (p := ⟨b, 4, none⟩) hb x4
structure Bx (N : Nat) (W0 : World) (A : Array Value) (d : Nat → Bool) (vs : Nat → Value) (w : World) : Prop where
  low : Below N W0 w
  size : N ≤ w.heap.size
  a : d 8 = true → ∃ b, vs 8 = .pointer (some ⟨b, 0, none⟩) ∧ N ≤ b ∧ w.heap[b]? = some (.cells (if d 10 = true then A else zR15) 33 (0, 0))
  b : d 9 = true → ∃ b, vs 9 = .pointer (some ⟨b, 0, none⟩) ∧ N ≤ b ∧ w.heap[b]? = some (.cells zR15 33 (0, 0))
  ne : d 8 = true → d 9 = true → vs 8 ≠ vs 9
section
variable {N : Nat} {W0 : World} {A : Array Value} {d : Nat → Bool} {vs : Nat → Value} {w : World}
theorem Bx.init (h : Below N W0 w) (hs : N ≤ w.heap.size) (vs : Nat → Value) : Bx N W0 A (fun _ => false) vs w := ⟨h, hs, (fun h => by cases h), (fun h => by cases h), (fun h => by cases h)⟩
theorem Bx.below (h : Bx N W0 A d vs w) {w' : World} (hb : Below w.heap.size w w') : Bx N W0 A d vs w' := by
  refine ⟨h.low.trans (hb.mono h.size), Nat.le_trans h.size hb.size, fun h1 => ?_, fun h1 => ?_, h.ne⟩
  · obtain ⟨b, h2, h3, h4⟩ := h.a h1
    exact ⟨b, h2, h3, (hb.block b (Array.getElem?_eq_some_iff.1 h4).1).trans h4⟩
  · obtain ⟨b, h2, h3, h4⟩ := h.b h1
    exact ⟨b, h2, h3, (hb.block b (Array.getElem?_eq_some_iff.1 h4).1).trans h4⟩
theorem Bx.other (h : Bx N W0 A d vs w) (i : Nat) (v : Value) (n0 : 8 ≠ i) (n1 : 9 ≠ i) (n2 : 10 ≠ i) : Bx N W0 A (updB d i) (upd vs i v) w := by
  constructor <;> (try simp only [updB_ne _ _ _ n0, updB_ne _ _ _ n1, updB_ne _ _ _ n2, upd_ne _ _ _ _ n0, upd_ne _ _ _ _ n1])
  · exact h.low
  · exact h.size
  · exact h.a
  · exact h.b
  · exact h.ne
theorem Bx.s8 (h : Bx N W0 A d vs w) (h10 : d 10 = false) : Bx N W0 A (updB d 8) (upd vs 8 (.pointer (some ⟨w.heap.size, 0, none⟩))) (w.alloc (.cells zR15 33)) := by
  have g := h.below ((Below.refl w.heap.size w).alloc (Nat.le_refl _) (.cells zR15 33))
  constructor <;> (try simp only [updB_at, upd_at, updB_ne d 8 9 (by decide), updB_ne d 8 10 (by decide), upd_ne vs 8 9 _ (by decide)])
  · exact g.low
  · exact g.size
  · intro _
    rw [h10]
    exact ⟨w.heap.size, rfl, h.size, heap_alloc_new w _⟩
  · exact g.b
  · intro _ h9 e
    obtain ⟨b, h2, -, h4⟩ := h.b h9
    rw [h2] at e
    have hl := (Array.getElem?_eq_some_iff.1 h4).1
    simp only [Value.pointer.injEq, Option.some.injEq, Addr.mk.injEq, and_true] at e
    omega
theorem Bx.s9 (h : Bx N W0 A d vs w) : Bx N W0 A (updB d 9) (upd vs 9 (.pointer (some ⟨w.heap.size, 0, none⟩))) (w.alloc (.cells zR15 33)) := by
  have g := h.below ((Below.refl w.heap.size w).alloc (Nat.le_refl _) (.cells zR15 33))
  constructor <;> (try simp only [updB_at, upd_at, updB_ne d 9 8 (by decide), updB_ne d 9 10 (by decide), upd_ne vs 9 8 _ (by decide)])
  · exact g.low
  · exact g.size
  · exact g.a
  · intro _
    exact ⟨w.heap.size, rfl, h.size, heap_alloc_new w _⟩
  · intro h8 _ e
    obtain ⟨b, h2, -, h4⟩ := h.a h8
    rw [h2] at e
    have hl := (Array.getElem?_eq_some_iff.1 h4).1
    simp only [Value.pointer.injEq, Option.some.injEq, Addr.mk.injEq, and_true] at e
    omega
theorem Bx.s10 {x0 x1 x2 x3 x4 : Value} (h : Bx N W0 #[x0, x1, x2, x3, x4] d vs w) {b : Nat} (h8 : vs 8 = .pointer (some ⟨b, 0, none⟩)) (hN : N ≤ b) (hb : w.heap[b]? = some (.cells zR15 33 (0, 0))) (hd8 : d 8 = true) (v : Value) :
    Bx N W0 #[x0, x1, x2, x3, x4] (updB d 10) (upd vs 10 v) (setR15 w b x0 x1 x2 x3 x4) := by
  constructor <;> (try simp only [updB_at, updB_ne d 10 8 (by decide), updB_ne d 10 9 (by decide), upd_ne vs 10 8 _ (by decide), upd_ne vs 10 9 _ (by decide)])
  · exact setR15_below h.low hN _ _ _ _ _
  · simpa [setR15, World.setCell] using h.size
  · intro _
    exact ⟨b, h8, hN, by rw [if_pos trivial]; exact setR15_at hb⟩
  · intro h9
    obtain ⟨b', h2, h3, h4⟩ := h.b h9
    refine ⟨b', h2, h3, ?_⟩
    rw [setR15_ne _ _ _ _ _ _ _ _ (fun e => h.ne hd8 h9 (by rw [h8, h2, e]))]
    exact h4
  · exact h.ne
end
end

end Go.Proofs.YtfjfpefpdlecbaaGreatDoor
