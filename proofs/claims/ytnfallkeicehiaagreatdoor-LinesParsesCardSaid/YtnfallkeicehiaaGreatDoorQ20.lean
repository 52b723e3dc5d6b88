/- Merged: R11G. -/
import Derived.Test.YtnfallkeicehiaaGreatDoorQ16
import Derived.Test.YtnfallkeicehiaaGreatDoorQ19
import Derived.BigRegion
namespace Go.Proofs.YtnfallkeicehiaaGreatDoor

section
open Go.RowKit Go.PlainAid
theorem results_three {P : Program} {fn : Func} {p q u : Tmp} {tp tq : TypeId} (h : fn.results = #[.cell p tp, .cell q tq, .tmp u]) (tmps : Array Value) (w : World) (g k : Nat) (tg tk : TypeId) (cs ds : Array Value) (fr fs : Nat × Nat) (d d' : TypeDesc)
    (hp : tmps.getD p undef = .pointer (some ⟨g, 0, none⟩)) (hq : tmps.getD q undef = .pointer (some ⟨k, 0, none⟩)) (hg : w.heap[g]? = some (.cells cs tg fr)) (hk : w.heap[k]? = some (.cells ds tk fs))
    (hu : P.underlying tp = some d) (hd : (match d with | .struct _ | .array _ _ => true | _ => false) = true) (hi : (P.info? tp).map (·.size) = some cs.size)
    (hu' : P.underlying tq = some d') (hd' : (match d' with | .struct _ | .array _ _ => true | _ => false) = true) (hi' : (P.info? tq).map (·.size) = some ds.size) :
    (results fn tmps).run P w = .ok (.tuple #[.agg cs, .agg ds, tmps.getD u undef]) w := by
  have e1 : (results fn tmps).run P w = ((asAddr (tmps.getD p undef)).run P w).andThen fun a w1 => ((loadVar tp a).run P w1).andThen fun v w2 => ((asAddr (tmps.getD q undef)).run P w2).andThen fun a' w3 => ((loadVar tq a').run P w3).andThen fun v' w4 => .ok (.tuple #[v, v', tmps.getD u undef]) w4 := by
    simp only [results, h]
    simp [Sem.run_bind, Result.andThen]
  rw [e1, hp, hq]
  simp [asAddr, run_loadVar_row w g tg tp cs fr d hg hu hd hi, run_loadVar_row w k tk tq ds fs d' hk hu' hd' hi', Result.andThen]

def PCells (N : Nat) (x y : Int) (wr : World) : Prop :=
  (wr.cell? ⟨N, 0, none⟩ = some (.int .i64 x) ∧ wr.cell? ⟨N, 1, none⟩ = some (.int .i64 y)) ∧ (wr.frozen? ⟨N, 0, none⟩ = false ∧ wr.frozen? ⟨N, 1, none⟩ = false)
theorem pcells {N : Nat} {x y : Int} {wr : World} (h : wr.heap[N]? = some (.cells #[.int .i64 x, .int .i64 y] 67 (0, 0))) : PCells N x y wr := by
  refine ⟨⟨?_, ?_⟩, Lib.frozen_of_heap h 0, Lib.frozen_of_heap h 1⟩ <;> (rw [Lib.cell_of_heap h]; rfl)
def setP2 (w : World) (b : Nat) (x y : Value) : World := (w.setCell ⟨b, 0, none⟩ x).setCell ⟨b, 1, none⟩ y
theorem pl_set2 {w : World} {b : Nat} {c0 c1 x y : Value} (h : w.heap[b]? = some (.cells #[c0, c1] 67 (0, 0))) :
    (setP2 w b x y).heap[b]? = some (.cells #[x, y] 67 (0, 0)) := by
  simp [setP2, World.setCell, Array.getElem?_modify, h]
theorem pl_other {w : World} {b : Nat} {x y : Value} (i : Nat) (h : i ≠ b) : (setP2 w b x y).heap[i]? = w.heap[i]? :=
  (heap_setn _ _ _ _ h).trans (heap_setn _ _ _ _ h)
theorem pl_size {w : World} {b : Nat} {x y : Value} : (setP2 w b x y).heap.size = w.heap.size := by simp [setP2, World.setCell]
theorem pl_below {w W : World} {B b : Nat} {x y : Value} (h : Below B w W) (hb : B ≤ b) : Below B w (setP2 W b x y) :=
  (h.setCell (p := ⟨b, 0, none⟩) hb x).setCell (p := ⟨b, 1, none⟩) hb y
theorem rec_belowB {w W : World} {B b : Nat} {x0 x1 x2 x3 x4 : Value} (h : Below B w W) (hb : B ≤ b) : Below B w (setR5 W b x0 x1 x2 x3 x4) :=
  ((((h.setCell (p := ⟨b, 0, none⟩) hb x0).setCell (p := ⟨b, 1, none⟩) hb x1).setCell (p := ⟨b, 2, none⟩) hb x2).setCell (p := ⟨b, 3, none⟩) hb x3).setCell (p := ⟨b, 4, none⟩) hb x4

/-- The place that came in, and the places of the results. -/
structure PZ (w : World) (x y : Int) (wr : World) : Prop where
  p : wr.heap[w.heap.size]? = some (.cells #[.int .i64 x, .int .i64 y] 67 (0, 0))
  z : wr.heap[w.heap.size + 1]? = some (.cells #[.int .i64 0, .int .i64 0, .int .i64 0, .string ⟨#[]⟩, .slice none 0 0] 24 (0, 0))
  q : wr.heap[w.heap.size + 2]? = some (.cells #[.int .i64 0, .int .i64 0] 67 (0, 0))
  size : w.heap.size + 3 ≤ wr.heap.size
  bel : Below w.heap.size w wr
section
variable {w wr w3 : World} {x y : Int}
theorem PZ.first (w : World) (x y : Int) : PZ w x y (((w.alloc (.cells #[.int .i64 x, .int .i64 y] 67)).alloc (.cells #[.int .i64 0, .int .i64 0, .int .i64 0, .string ⟨#[]⟩, .slice none 0 0] 24)).alloc (.cells #[.int .i64 0, .int .i64 0] 67)) := by
  refine ⟨?_, ?_, ?_, by simp, (((Below.refl w.heap.size w).alloc (Nat.le_refl _) _).alloc (by simp) _).alloc (by simp; omega) _⟩
  · exact (Below.heap_alloc _ _ _ (by simp; omega)).trans ((Below.heap_alloc _ _ _ (by simp)).trans (heap_alloc_new w _))
  · have := heap_alloc_new (w.alloc (.cells #[.int .i64 x, .int .i64 y] 67)) (.cells #[.int .i64 0, .int .i64 0, .int .i64 0, .string ⟨#[]⟩, .slice none 0 0] 24)
    rw [show (w.alloc (.cells #[.int .i64 x, .int .i64 y] 67)).heap.size = w.heap.size + 1 by simp] at this
    exact (Below.heap_alloc _ _ _ (by simp)).trans this
  · have := heap_alloc_new ((w.alloc (.cells #[.int .i64 x, .int .i64 y] 67)).alloc (.cells #[.int .i64 0, .int .i64 0, .int .i64 0, .string ⟨#[]⟩, .slice none 0 0] 24)) (.cells #[.int .i64 0, .int .i64 0] 67)
    rw [show ((w.alloc (.cells #[.int .i64 x, .int .i64 y] 67)).alloc (.cells #[.int .i64 0, .int .i64 0, .int .i64 0, .string ⟨#[]⟩, .slice none 0 0] 24)).heap.size = w.heap.size + 2 by simp] at this
    exact this
theorem PZ.after (h : PZ w x y wr) (hb : Below wr.heap.size wr w3) : PZ w x y w3 :=
  have hs := h.size
  ⟨(hb.block _ (by omega)).trans h.p, (hb.block _ (by omega)).trans h.z, (hb.block _ (by omega)).trans h.q, Nat.le_trans hs hb.size, h.bel.trans (hb.mono h.bel.size)⟩
theorem PZ.move (h : PZ w x y wr) (x' y' : Int) : PZ w x' y' (setP2 wr w.heap.size (.int .i64 x') (.int .i64 y')) :=
  ⟨pl_set2 h.p, (pl_other _ (by omega)).trans h.z, (pl_other _ (by omega)).trans h.q, by rw [pl_size]; exact h.size, pl_below h.bel (Nat.le_refl _)⟩
/-- The results' places filled, in either order. -/
theorem PZ.finA (h : PZ w x y wr) (c0 c1 c2 c3 c4 a b : Value) :
    (setP2 (setR5 wr (w.heap.size + 1) c0 c1 c2 c3 c4) (w.heap.size + 2) a b).heap[w.heap.size + 1]? = some (.cells #[c0, c1, c2, c3, c4] 24 (0, 0)) ∧
    (setP2 (setR5 wr (w.heap.size + 1) c0 c1 c2 c3 c4) (w.heap.size + 2) a b).heap[w.heap.size + 2]? = some (.cells #[a, b] 67 (0, 0)) ∧
    Below w.heap.size w (setP2 (setR5 wr (w.heap.size + 1) c0 c1 c2 c3 c4) (w.heap.size + 2) a b) ∧
    ∀ P, New (w.heap.size + 3) P wr → New w.heap.size P (setP2 (setR5 wr (w.heap.size + 1) c0 c1 c2 c3 c4) (w.heap.size + 2) a b) :=
  ⟨(pl_other _ (by omega)).trans (rec_set5 h.z), pl_set2 ((rec_other _ (by omega)).trans h.q), pl_below (rec_belowB h.bel (by omega)) (by omega),
    fun P hP => (hP.on (by rw [pl_size, rec_size]; exact Nat.le_refl _) (fun i hi _ => (pl_other i (by omega)).trans (rec_other i (by omega)))).mono (by omega)⟩
theorem PZ.finB (h : PZ w x y wr) (c0 c1 c2 c3 c4 a b : Value) :
    (setR5 (setP2 wr (w.heap.size + 2) a b) (w.heap.size + 1) c0 c1 c2 c3 c4).heap[w.heap.size + 1]? = some (.cells #[c0, c1, c2, c3, c4] 24 (0, 0)) ∧
    (setR5 (setP2 wr (w.heap.size + 2) a b) (w.heap.size + 1) c0 c1 c2 c3 c4).heap[w.heap.size + 2]? = some (.cells #[a, b] 67 (0, 0)) ∧
    Below w.heap.size w (setR5 (setP2 wr (w.heap.size + 2) a b) (w.heap.size + 1) c0 c1 c2 c3 c4) ∧
    ∀ P, New (w.heap.size + 3) P wr → New w.heap.size P (setR5 (setP2 wr (w.heap.size + 2) a b) (w.heap.size + 1) c0 c1 c2 c3 c4) :=
  ⟨rec_set5 ((pl_other _ (by omega)).trans h.z), (rec_other _ (by omega)).trans (pl_set2 h.q), rec_belowB (pl_below h.bel (by omega)) (by omega),
    fun P hP => (hP.on (by rw [rec_size, pl_size]; exact Nat.le_refl _) (fun i hi _ => (rec_other i (by omega)).trans (pl_other i (by omega)))).mono (by omega)⟩
/-- The results' places filled, by a region that draws. -/
theorem PZ.finD (h : PZ w x y wr) (c0 c1 c2 c3 c4 a b : Value) :
    (setP2 (setR5 wr (w.heap.size + 1) c0 c1 c2 c3 c4) (w.heap.size + 1 + 1) a b).drew.heap[w.heap.size + 1]? = some (.cells #[c0, c1, c2, c3, c4] 24 (0, 0)) ∧
    (setP2 (setR5 wr (w.heap.size + 1) c0 c1 c2 c3 c4) (w.heap.size + 1 + 1) a b).drew.heap[w.heap.size + 1 + 1]? = some (.cells #[a, b] 67 (0, 0)) ∧
    Below w.heap.size w (setP2 (setR5 wr (w.heap.size + 1) c0 c1 c2 c3 c4) (w.heap.size + 1 + 1) a b).drew ∧
    ∀ P, New (w.heap.size + 3) P wr → New w.heap.size P (setP2 (setR5 wr (w.heap.size + 1) c0 c1 c2 c3 c4) (w.heap.size + 1 + 1) a b).drew := by
  have e2 : w.heap.size + 2 = w.heap.size + 1 + 1 := rfl
  have hh := h.finA c0 c1 c2 c3 c4 a b
  rw [e2] at hh
  generalize setP2 (setR5 wr (w.heap.size + 1) c0 c1 c2 c3 c4) (w.heap.size + 1 + 1) a b = V at hh ⊢
  obtain ⟨h1, h2, h3, h4⟩ := hh
  exact ⟨h1, h2, h3.drew, fun P hP => (h4 P hP).on (Nat.le_refl _) (fun _ _ _ => rfl)⟩
end
theorem rec_put4 {w : World} {g : Nat} {a b c d e : Value} (h : w.heap[g]? = some (.cells #[a, b, c, d, e] 24 (0, 0))) (x : Value) : (w.setCell ⟨g, 4, none⟩ x).heap[g]? = some (.cells #[a, b, c, d, x] 24 (0, 0)) := by simp [World.setCell, Array.getElem?_modify, h]
/-- What lies in memory while the lines of fields are read: the place, the results' places, the record's box, and a row of fields behind it. -/
structure PL (w : World) (bx : Nat) (q : Rec) (x y : Int) (fv : Value) (F : List Fld) (wr : World) : Prop where
  z : PZ w x y wr
  f : wr.heap[bx]? = some (.cells #[.int .i64 q.id, .int .i64 q.ver, .int .i64 q.kind, .string (S q.lang), fv] 24 (0, 0))
  hb : w.heap.size + 3 ≤ bx
  row : FN (bx + 1) fv F wr
section
variable {w wr w3 : World} {bx : Nat} {q : Rec} {x y : Int} {fv : Value} {F : List Fld}
theorem PL.lt (h : PL w bx q x y fv F wr) : bx + 1 ≤ wr.heap.size := (Array.getElem?_eq_some_iff.1 h.f).1
theorem PL.after (h : PL w bx q x y fv F wr) (hb : Below wr.heap.size wr w3) : PL w bx q x y fv F w3 :=
  ⟨h.z.after hb, (hb.block _ h.lt).trans h.f, h.hb, h.row.on hb.size (fun i _ hi => hb.block i hi)⟩
theorem PL.move (h : PL w bx q x y fv F wr) (x' y' : Int) : PL w bx q x' y' fv F (setP2 wr w.heap.size (.int .i64 x') (.int .i64 y')) :=
  have hb := h.hb
  ⟨h.z.move x' y', (pl_other _ (by omega)).trans h.f, hb, h.row.on (by rw [pl_size]; exact Nat.le_refl _) (fun i hi _ => pl_other i (by omega))⟩
theorem PL.push {f : Fld} {fv2 : Value} (h : PL w bx q x y fv F wr) (hg : wr.grownBy w3 fv.ownBlock) (hrow : FN (bx + 1) fv2 (F ++ [f]) w3) :
    PL w bx q x y fv2 (F ++ [f]) (w3.setCell ⟨bx, 4, none⟩ fv2) ∧ w3.heap[bx]? = some (.cells #[.int .i64 q.id, .int .i64 q.ver, .int .i64 q.kind, .string (S q.lang), fv] 24 (0, 0)) := by
  have hb := h.hb
  have hl := h.lt
  obtain ⟨us, _, hown, _⟩ := h.row
  have ho := fun k hk => (World.ownsRow.lt hown k hk).1
  have hk : ∀ i, i ≤ bx → w3.heap[i]? = wr.heap[i]? := fun i hi => hg.block i (by omega) (fun e => by have := ho _ e.symm; omega)
  have hf := (hk bx (Nat.le_refl _)).trans h.f
  refine ⟨⟨⟨?_, ?_, ?_, ?_, ?_⟩, rec_put4 hf _, hb, hrow.on (by simp) (fun i hi _ => heap_setn w3 _ _ _ (by show i ≠ bx; omega))⟩, hf⟩
  · exact (heap_setn w3 _ _ _ (by show w.heap.size ≠ bx; omega)).trans ((hk _ (by omega)).trans h.z.p)
  · exact (heap_setn w3 _ _ _ (by show w.heap.size + 1 ≠ bx; omega)).trans ((hk _ (by omega)).trans h.z.z)
  · exact (heap_setn w3 _ _ _ (by show w.heap.size + 2 ≠ bx; omega)).trans ((hk _ (by omega)).trans h.z.q)
  · have := hg.size
    have := h.z.size
    simp
    omega
  · exact (h.z.bel.grown hg (by omega) (fun k hk => by have := ho k hk; omega)).setCell (p := ⟨bx, 4, none⟩) (by show w.heap.size ≤ bx; omega) _
theorem PL.newF (h : PL w bx q x y fv F wr) : New (w.heap.size + 3) (FL fv F) wr := h.row.new.mono (by have := h.hb; omega)
end
theorem encF_one (f : Fld) (u : Value) (h : u.oneCell' = true) : ∀ x ∈ encF f u, x.oneCell' = true := by
  intro x hx
  simp only [encF, List.mem_cons, List.not_mem_nil, or_false] at hx
  rcases hx with rfl | rfl | rfl | rfl
  · rfl
  · rfl
  · exact h
  · rfl
end

end Go.Proofs.YtnfallkeicehiaaGreatDoor
