/- Merged: R07L, R07M, R07N. -/
import Derived.Test.YtnfallkeicehiaaDoorQ14
import Derived.RegionTactic
import Derived.BigRegion
import Derived.Test.YtnfallkeicehiaaDoorQ09
import Derived.Laws.ResultCell
import Derived.Deep.RegionLaw
import Derived.Deep.AppendLies
import Derived.Deep.CutBlock
import Derived.Deep.DeepCutAuto
namespace Go.Proofs.YtnfallkeicehiaaDoor

section
open Go.RowKit Go.PlainAid
theorem texts_ext (A B : List (List UInt8)) (hl : A.length = B.length) (h : ∀ i, i < A.length → A.getD i [] = B.getD i []) : A = B := by
  refine List.ext_getElem hl fun i h1 h2 => ?_
  have := h i h1
  rwa [List.getD_eq_getElem?_getD, List.getD_eq_getElem?_getD, List.getElem?_eq_getElem h1, List.getElem?_eq_getElem h2] at this

/-- A field of moderate size. -/
def smallB (f : Fld) : Bool := decide (f.subs.length ≤ 30) && decide (f.tag.length ≤ 300) && decide (f.ind.length ≤ 300) && (List.range f.subs.length).all fun i => decide ((f.subs.getD i sub0).2.length ≤ 300)
theorem small_of (f : Fld) (h : smallB f = true) : f.subs.length ≤ 30 ∧ f.tag.length ≤ 300 ∧ f.ind.length ≤ 300 ∧ ∀ i, i < f.subs.length → (f.subs.getD i sub0).2.length ≤ 300 := by
  unfold smallB at h
  simp only [Bool.and_eq_true, decide_eq_true_eq, List.all_eq_true, List.mem_range] at h
  exact ⟨h.1.1.1, h.1.1.2, h.1.2, h.2⟩
end

section
open Go.RowKit Go.PlainAid
theorem results_row_tmp {P : Program} {fn : Func} {p u : Tmp} {ty : TypeId} (h : fn.results = #[.cell p ty, .tmp u]) (tmps : Array Value) (w : World) (g : Nat) (t : TypeId) (cs : Array Value) (fr : Nat × Nat) (d : TypeDesc)
    (hp : tmps.getD p undef = .pointer (some ⟨g, 0, none⟩)) (hg : w.heap[g]? = some (.cells cs t fr))
    (hu : P.underlying ty = some d) (hd : (match d with | .struct _ | .array _ _ => true | _ => false) = true) (hi : (P.info? ty).map (·.size) = some cs.size) :
    (results fn tmps).run P w = .ok (.tuple #[.agg cs, tmps.getD u undef]) w := by
  rw [results_cell_tmp h, hp]
  simp [asAddr, run_loadVar_row w g t ty cs fr d hg hu hd hi, Result.andThen]

/-- What lies in memory while a line is read: the field, the result's place, the subfields so far. -/
structure RS (w : World) (tg ix : ByteArray) (sv : Value) (au : Int) (L : List Sub) (wr : World) : Prop where
  f : wr.heap[w.heap.size + 1]? = some (.cells #[.string tg, .string ix, sv, .int .i64 au] 43 (0, 0))
  r : wr.heap[w.heap.size]? = some (.cells #[.string ⟨#[]⟩, .string ⟨#[]⟩, .slice none 0 0, .int .i64 0] 43 (0, 0))
  own : wr.ownsRow (w.heap.size + 2) 45 2 sv L.length (cellsL L)
  bel : Below w.heap.size w wr
/-- The cells that the walk meets. -/
def RC (b : Nat) (tg ix : ByteArray) (sv : Value) (au : Int) (wr : World) : Prop :=
  (wr.cell? ⟨b + 1, 0, none⟩ = some (.string tg) ∧ wr.cell? ⟨b + 1, 1, none⟩ = some (.string ix) ∧ wr.cell? ⟨b + 1, 2, none⟩ = some sv ∧ wr.cell? ⟨b + 1, 3, none⟩ = some (.int .i64 au)) ∧
  (wr.frozen? ⟨b + 1, 0, none⟩ = false ∧ wr.frozen? ⟨b + 1, 1, none⟩ = false ∧ wr.frozen? ⟨b + 1, 2, none⟩ = false ∧ wr.frozen? ⟨b + 1, 3, none⟩ = false) ∧
  (wr.cell? ⟨b, 0, none⟩ = some (.string ⟨#[]⟩) ∧ wr.cell? ⟨b, 1, none⟩ = some (.string ⟨#[]⟩) ∧ wr.cell? ⟨b, 2, none⟩ = some (.slice none 0 0) ∧ wr.cell? ⟨b, 3, none⟩ = some (.int .i64 0)) ∧
  (wr.frozen? ⟨b, 0, none⟩ = false ∧ wr.frozen? ⟨b, 1, none⟩ = false ∧ wr.frozen? ⟨b, 2, none⟩ = false ∧ wr.frozen? ⟨b, 3, none⟩ = false)
theorem RS.cells {w wr : World} {tg ix : ByteArray} {sv : Value} {au : Int} {L : List Sub} (h : RS w tg ix sv au L wr) : RC w.heap.size tg ix sv au wr := by
  have zF := h.f
  have zR := h.r
  refine ⟨⟨?_, ?_, ?_, ?_⟩, ⟨Lib.frozen_of_heap zF 0, Lib.frozen_of_heap zF 1, Lib.frozen_of_heap zF 2, Lib.frozen_of_heap zF 3⟩, ⟨?_, ?_, ?_, ?_⟩, ⟨Lib.frozen_of_heap zR 0, Lib.frozen_of_heap zR 1, Lib.frozen_of_heap zR 2, Lib.frozen_of_heap zR 3⟩⟩
  · rw [Lib.cell_of_heap zF]; rfl
  · rw [Lib.cell_of_heap zF]; rfl
  · rw [Lib.cell_of_heap zF]; rfl
  · rw [Lib.cell_of_heap zF]; rfl
  · rw [Lib.cell_of_heap zR]; rfl
  · rw [Lib.cell_of_heap zR]; rfl
  · rw [Lib.cell_of_heap zR]; rfl
  · rw [Lib.cell_of_heap zR]; rfl

theorem RS.first (w : World) : RS w ⟨#[]⟩ ⟨#[]⟩ (.slice none 0 0) 0 [] ((w.alloc (.cells #[.string ⟨#[]⟩, .string ⟨#[]⟩, .slice none 0 0, .int .i64 0] 43)).alloc (.cells #[.string ⟨#[]⟩, .string ⟨#[]⟩, .slice none 0 0, .int .i64 0] 43)) := by
  refine ⟨?_, ?_, World.ownsRow_nil _ _ _ _, ((Below.refl w.heap.size w).alloc (Nat.le_refl _) _).alloc (by simp) _⟩
  · have := heap_alloc_new (w.alloc (.cells #[.string ⟨#[]⟩, .string ⟨#[]⟩, .slice none 0 0, .int .i64 0] 43)) (.cells #[.string ⟨#[]⟩, .string ⟨#[]⟩, .slice none 0 0, .int .i64 0] 43)
    simpa using this
  · exact (Below.heap_alloc _ _ _ (by simp)).trans (heap_alloc_new w _)
theorem RS.lt {w wr : World} {tg ix : ByteArray} {sv : Value} {au : Int} {L : List Sub} (h : RS w tg ix sv au L wr) : w.heap.size + 2 ≤ wr.heap.size := by
  have := (Array.getElem?_eq_some_iff.1 h.f).1
  omega
theorem RS.drew {w wr : World} {tg ix : ByteArray} {sv : Value} {au : Int} {L : List Sub} (h : RS w tg ix sv au L wr) : RS w tg ix sv au L wr.drew := ⟨h.f, h.r, h.own, h.bel.drew⟩
theorem RS.alloc {w wr : World} {tg ix : ByteArray} {sv : Value} {au : Int} {L : List Sub} (h : RS w tg ix sv au L wr) (o : Obj) : RS w tg ix sv au L (wr.alloc o) :=
  have hl := h.lt
  ⟨(Below.heap_alloc wr o _ (by omega)).trans h.f, (Below.heap_alloc wr o _ (by omega)).trans h.r, h.own.alloc o, h.bel.alloc (by omega) o⟩
theorem heap_set_ne (w : World) (p : Addr) (v : Value) (g : Nat) (h : g ≠ p.block) : (w.setCell p v).heap[g]? = w.heap[g]? := by
  simp only [World.setCell, Array.getElem?_modify]
  rw [if_neg (fun e => h e.symm)]
theorem own_set_ne {w : World} {B e size n : Nat} {v : Value} {xs : List Value} (h : w.ownsRow B e size v n xs) (p : Addr) (u : Value) (hp : v.ownBlock ≠ some p.block) : (w.setCell p u).ownsRow B e size v n xs := by
  refine ⟨h.1, ?_⟩
  rcases h.2 with hn | ⟨g, cap, cur, rfl, hB', hg, rest⟩
  · exact .inl hn
  · exact .inr ⟨g, cap, cur, rfl, hB', (heap_set_ne w p u g (fun e => hp (by rw [← e]; rfl))).trans hg, rest⟩
theorem RS.setOther {w wr : World} {tg ix : ByteArray} {sv : Value} {au : Int} {L : List Sub} (h : RS w tg ix sv au L wr) (p : Addr) (u : Value) (hp : w.heap.size + 2 ≤ p.block) (hne : sv.ownBlock ≠ some p.block) : RS w tg ix sv au L (wr.setCell p u) :=
  ⟨(heap_set_ne wr p u _ (by omega)).trans h.f, (heap_set_ne wr p u _ (by omega)).trans h.r, own_set_ne h.own p u hne, h.bel.setCell (p := p) (by omega) u⟩
theorem RS.setTag {w wr : World} {tg ix : ByteArray} {sv : Value} {au : Int} {L : List Sub} (h : RS w tg ix sv au L wr) (x : ByteArray) : RS w x ix sv au L (wr.setCell ⟨w.heap.size + 1, 0, none⟩ (.string x)) :=
  ⟨by simp [World.setCell, Array.getElem?_modify, h.f], (heap_set_ne wr _ _ _ (by simp)).trans h.r, own_setCell h.own (p := ⟨w.heap.size + 1, 0, none⟩) (Nat.lt_succ_self _) _, h.bel.setCell (p := ⟨w.heap.size + 1, 0, none⟩) (Nat.le_succ _) _⟩
theorem RS.setInd {w wr : World} {tg ix : ByteArray} {sv : Value} {au : Int} {L : List Sub} (h : RS w tg ix sv au L wr) (x : ByteArray) : RS w tg x sv au L (wr.setCell ⟨w.heap.size + 1, 1, none⟩ (.string x)) :=
  ⟨by simp [World.setCell, Array.getElem?_modify, h.f], (heap_set_ne wr _ _ _ (by simp)).trans h.r, own_setCell h.own (p := ⟨w.heap.size + 1, 1, none⟩) (Nat.lt_succ_self _) _, h.bel.setCell (p := ⟨w.heap.size + 1, 1, none⟩) (Nat.le_succ _) _⟩
theorem RS.setAuth {w wr : World} {tg ix : ByteArray} {sv : Value} {au : Int} {L : List Sub} (h : RS w tg ix sv au L wr) (x : Int) : RS w tg ix sv x L (wr.setCell ⟨w.heap.size + 1, 3, none⟩ (.int .i64 x)) :=
  ⟨by simp [World.setCell, Array.getElem?_modify, h.f], (heap_set_ne wr _ _ _ (by simp)).trans h.r, own_setCell h.own (p := ⟨w.heap.size + 1, 3, none⟩) (Nat.lt_succ_self _) _, h.bel.setCell (p := ⟨w.heap.size + 1, 3, none⟩) (Nat.le_succ _) _⟩
theorem RS.keepF {w wr w3 : World} {tg ix : ByteArray} {sv : Value} {au : Int} {L : List Sub} (h : RS w tg ix sv au L wr) (hg : wr.grownBy w3 sv.ownBlock) :
    w3.cell? ⟨w.heap.size + 1, 2, none⟩ = some sv ∧ w3.frozen? ⟨w.heap.size + 1, 2, none⟩ = false := by
  have hl := h.lt
  have hb := fun k hk => (h.own.lt k hk).1
  have zf := (hg.block (w.heap.size + 1) (by omega) (fun e => by have := hb _ e.symm; omega)).trans h.f
  exact ⟨by rw [Lib.cell_of_heap zf]; rfl, Lib.frozen_of_heap zf 2⟩
/-- A subfield is appended. -/
theorem RS.push {w wr w3 : World} {tg ix : ByteArray} {sv sv3 : Value} {au : Int} {L : List Sub} {x : Sub} (h : RS w tg ix sv au L wr) (hg : wr.grownBy w3 sv.ownBlock) (ho : w3.ownsRow (w.heap.size + 2) 45 2 sv3 (L.length + 1) (cellsL L ++ encS x)) :
    RS w tg ix sv3 au (L ++ [x]) (w3.setCell ⟨w.heap.size + 1, 2, none⟩ sv3) := by
  have hl := h.lt
  have hb := fun k hk => (h.own.lt k hk).1
  have zf := (hg.block (w.heap.size + 1) (by omega) (fun e => by have := hb _ e.symm; omega)).trans h.f
  have zr := (hg.block w.heap.size (by omega) (fun e => by have := hb _ e.symm; omega)).trans h.r
  refine ⟨by simp [World.setCell, Array.getElem?_modify, zf], (heap_set_ne w3 _ _ _ (by simp)).trans zr, own_setCell ?_ (p := ⟨w.heap.size + 1, 2, none⟩) (Nat.lt_succ_self _) _, (h.bel.grown hg (by omega) (fun k hk => by have := hb _ hk; omega)).setCell (p := ⟨w.heap.size + 1, 2, none⟩) (Nat.le_succ _) _⟩
  rw [cellsL_snoc, List.length_append]
  exact ho
/-- What the function's return meets, and where it ends. -/
theorem RS.ret {w wz : World} {tg ix : ByteArray} {sv : Value} {au : Int} {L : List Sub} (h : RS w tg ix sv au L wz) :
    RowKit.Hid (((((wz.setCell ⟨w.heap.size, 0, none⟩ (.string tg)).setCell ⟨w.heap.size, 1, none⟩ (.string ix)).setCell ⟨w.heap.size, 2, none⟩ sv).setCell ⟨w.heap.size, 3, none⟩ (.int .i64 au)).heap[w.heap.size]? = some (.cells #[.string tg, .string ix, sv, .int .i64 au] 43 (0, 0))) ∧
    RowKit.Hid (World.ownsRow ((((wz.setCell ⟨w.heap.size, 0, none⟩ (.string tg)).setCell ⟨w.heap.size, 1, none⟩ (.string ix)).setCell ⟨w.heap.size, 2, none⟩ sv).setCell ⟨w.heap.size, 3, none⟩ (.int .i64 au)) (w.heap.size + 2) 45 2 sv L.length (cellsL L)) ∧
    RowKit.Hid (Below w.heap.size w ((((wz.setCell ⟨w.heap.size, 0, none⟩ (.string tg)).setCell ⟨w.heap.size, 1, none⟩ (.string ix)).setCell ⟨w.heap.size, 2, none⟩ sv).setCell ⟨w.heap.size, 3, none⟩ (.int .i64 au))) := by
  refine ⟨?_, ?_, ?_⟩
  · show ((((wz.setCell ⟨w.heap.size, 0, none⟩ (.string tg)).setCell ⟨w.heap.size, 1, none⟩ (.string ix)).setCell ⟨w.heap.size, 2, none⟩ sv).setCell ⟨w.heap.size, 3, none⟩ (.int .i64 au)).heap[w.heap.size]? = _
    simp [World.setCell, Array.getElem?_modify, h.r]
  · exact (own_setCell (own_setCell (own_setCell (own_setCell h.own (p := ⟨w.heap.size, 0, none⟩) (by show w.heap.size < _; omega) _) (p := ⟨w.heap.size, 1, none⟩) (by show w.heap.size < _; omega) _) (p := ⟨w.heap.size, 2, none⟩) (by show w.heap.size < _; omega) _) (p := ⟨w.heap.size, 3, none⟩) (by show w.heap.size < _; omega) _)
  · exact (((h.bel.setCell (p := ⟨w.heap.size, 0, none⟩) (Nat.le_refl _) _).setCell (p := ⟨w.heap.size, 1, none⟩) (Nat.le_refl _) _).setCell (p := ⟨w.heap.size, 2, none⟩) (Nat.le_refl _) _).setCell (p := ⟨w.heap.size, 3, none⟩) (Nat.le_refl _) _
end

section
open Go.RowKit Go.PlainAid
/-- What read returns: a field, and whether the line could be one. -/
def ReadEnd (w : World) (s : List UInt8) (e : Ending) (w' : World) : Prop :=
  ∃ tg ix ao n cp au b, e = .returned (.tuple #[.agg #[.string tg, .string ix, .slice ao n cp, .int .i64 au], .bool b]) ∧ Below w.heap.size w w' ∧
    (readL s = none → b = false) ∧ (∀ f, readL s = some f → b = true ∧ tg = S f.tag ∧ ix = S f.ind ∧ au = f.auth ∧ w'.ownsRow (w.heap.size + 2) 45 2 (.slice ao n cp) f.subs.length (cellsL f.subs))
end

end Go.Proofs.YtnfallkeicehiaaDoor
