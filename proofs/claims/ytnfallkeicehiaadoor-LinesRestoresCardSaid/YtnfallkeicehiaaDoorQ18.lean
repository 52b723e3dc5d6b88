/- Merged: R11G, R11H, R11I. -/
import Derived.Test.YtnfallkeicehiaaDoorQ14
import Derived.Test.YtnfallkeicehiaaDoorQ17
import Derived.BigRegion
import Derived.Deep.RegionLaw
import Derived.RegionTactic
namespace Go.Proofs.YtnfallkeicehiaaDoor

section
open Go.RowKit Go.PlainAid
theorem results_three {P : Program} {fn : Func} {p q u : Tmp} {tp tq : TypeId} (h : fn.results = #[.cell p tp, .cell q tq, .tmp u]) (tmps : Array Value) (w : World) (g k : Nat) (tg tk : TypeId) (cs ds : Array Value) (fr fs : Nat × Nat) (d d' : TypeDesc)
    (hp : tmps.getD p undef = .pointer (some ⟨g, 0, none⟩)) (hq : tmps.getD q undef = .pointer (some ⟨k, 0, none⟩)) (hg : w.heap[g]? = some (.cells cs tg fr)) (hk : w.heap[k]? = some (.cells ds tk fs))
    (hu : P.underlying tp = some d) (hd : (match d with | .struct _ | .array _ _ => true | _ => false) = true) (hi : (P.info? tp).map (·.size) = some cs.size)
    (hu' : P.underlying tq = some d') (hd' : (match d' with | .struct _ | .array _ _ => true | _ => false) = true) (hi' : (P.info? tq).map (·.size) = some ds.size) :
    (results fn tmps).run P w = .ok (.tuple #[.agg cs, .agg ds, tmps.getD u undef]) w := by
  have e1 : (results fn tmps).run P w = ((asAddr (tmps.getD p undef)).run P w).andThen fun a w1 => ((loadVar tp a).run P w1).andThen fun v w2 => ((asAddr (tmps.getD q undef)).run P w2).andThen fun a' w3 => ((loadVar tq a').run P w3).andThen fun v' w4 => .ok (.tuple #[v, v', tmps.getD u undef]) w4 := by
    simp only [results, h]
    simp [Sem.run_bind, Result.andThen]
  rw [e1, hp, hq]
  simp [asAddr, run_loadVar_row w g tg tp cs fr d hg hu hd hi, run_loadVar_row w k tk tq ds fs d' hk hu' hd' hi', Result.andThen]

def PCells (N : Nat) (x y : Int) (wr : World) : Prop :=
  (wr.cell? ⟨N, 0, none⟩ = some (.int .i64 x) ∧ wr.cell? ⟨N, 1, none⟩ = some (.int .i64 y)) ∧ (wr.frozen? ⟨N, 0, none⟩ = false ∧ wr.frozen? ⟨N, 1, none⟩ = false)
def setP2 (w : World) (b : Nat) (x y : Value) : World := (w.setCell ⟨b, 0, none⟩ x).setCell ⟨b, 1, none⟩ y
theorem pl_other {w : World} {b : Nat} {x y : Value} (i : Nat) (h : i ≠ b) : (setP2 w b x y).heap[i]? = w.heap[i]? :=
  (heap_setn _ _ _ _ h).trans (heap_setn _ _ _ _ h)
theorem pl_size {w : World} {b : Nat} {x y : Value} : (setP2 w b x y).heap.size = w.heap.size := by simp [setP2, World.setCell]
theorem pl_below {w W : World} {B b : Nat} {x y : Value} (h : Below B w W) (hb : B ≤ b) : Below B w (setP2 W b x y) :=
  (h.setCell (p := ⟨b, 0, none⟩) hb x).setCell (p := ⟨b, 1, none⟩) hb y
theorem rec_belowB {w W : World} {B b : Nat} {x0 x1 x2 x3 x4 : Value} (h : Below B w W) (hb : B ≤ b) : Below B w (setR5 W b x0 x1 x2 x3 x4) :=
  ((((h.setCell (p := ⟨b, 0, none⟩) hb x0).setCell (p := ⟨b, 1, none⟩) hb x1).setCell (p := ⟨b, 2, none⟩) hb x2).setCell (p := ⟨b, 3, none⟩) hb x3).setCell (p := ⟨b, 4, none⟩) hb x4

section
variable {w wr w3 : World} {x y : Int}
end
theorem rec_put4 {w : World} {g : Nat} {a b c d e : Value} (h : w.heap[g]? = some (.cells #[a, b, c, d, e] 24 (0, 0))) (x : Value) : (w.setCell ⟨g, 4, none⟩ x).heap[g]? = some (.cells #[a, b, c, d, x] 24 (0, 0)) := by simp [World.setCell, Array.getElem?_modify, h]
section
variable {w wr w3 : World} {bx : Nat} {q : Rec} {x y : Int} {fv : Value} {F : List Fld}
end
theorem encF_one (f : Fld) (u : Value) (h : u.oneCell' = true) : ∀ x ∈ encF f u, x.oneCell' = true := by
  intro x hx
  simp only [encF, List.mem_cons, List.not_mem_nil, or_false] at hx
  rcases hx with rfl | rfl | rfl | rfl
  · rfl
  · rfl
  · exact h
  · rfl
end

section
open Go.RowKit Go.PlainAid

end

section
open Go.RowKit Go.PlainAid
theorem results_cell_two {P : Program} {fn : Func} {p u v : Tmp} {tp : TypeId} (h : fn.results = #[.cell p tp, .tmp u, .tmp v]) (tmps : Array Value) (w : World) (g : Nat) (tg : TypeId) (cs : Array Value) (fr : Nat × Nat) (d : TypeDesc)
    (hp : tmps.getD p undef = .pointer (some ⟨g, 0, none⟩)) (hg : w.heap[g]? = some (.cells cs tg fr))
    (hu : P.underlying tp = some d) (hd : (match d with | .struct _ | .array _ _ => true | _ => false) = true) (hi : (P.info? tp).map (·.size) = some cs.size) :
    (results fn tmps).run P w = .ok (.tuple #[.agg cs, tmps.getD u undef, tmps.getD v undef]) w := by
  have e1 : (results fn tmps).run P w = ((asAddr (tmps.getD p undef)).run P w).andThen fun a w1 => ((loadVar tp a).run P w1).andThen fun x w2 => .ok (.tuple #[x, tmps.getD u undef, tmps.getD v undef]) w2 := by
    simp only [results, h]
    simp [Sem.run_bind, Result.andThen]
  rw [e1, hp]
  simp [asAddr, run_loadVar_row w g tg tp cs fr d hg hu hd hi, Result.andThen]
theorem rec_drew {w W : World} {c0 c1 c2 c3 c4 : Value} (hR : W.heap[w.heap.size]? = some (.cells #[.int .i64 0, .int .i64 0, .int .i64 0, .string ⟨#[]⟩, .slice none 0 0] 24 (0, 0))) (hB : Below w.heap.size w W) :
    (setR5 W w.heap.size c0 c1 c2 c3 c4).drew.heap[w.heap.size]? = some (.cells #[c0, c1, c2, c3, c4] 24 (0, 0)) ∧ Below w.heap.size w (setR5 W w.heap.size c0 c1 c2 c3 c4).drew := by
  have h1 := rec_set5 (x0 := c0) (x1 := c1) (x2 := c2) (x3 := c3) (x4 := c4) hR
  have h2 := rec_below (x0 := c0) (x1 := c1) (x2 := c2) (x3 := c3) (x4 := c4) hB
  generalize setR5 W w.heap.size c0 c1 c2 c3 c4 = V at h1 h2 ⊢
  exact ⟨h1, h2.drew⟩
end

end Go.Proofs.YtnfallkeicehiaaDoor
