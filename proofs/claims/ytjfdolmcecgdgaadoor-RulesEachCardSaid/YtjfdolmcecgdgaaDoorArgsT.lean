/- Arguments that came in: a slice of rules. -/
import Derived.Test.YtjfdolmcecgdgaaDoorArgsQ
import Derived.Test.YtjfdolmcecgdgaaDoorUS09
namespace Go.Proofs.YtjfdolmcecgdgaaDoor
open Go.RowKit Go.Lib Go.ChangeShapes Go.WideShapes

theorem cells_rule : Tryd.prog.cellsOf 25 = 7 := by kernel_rfl
theorem cells_bool1 : Tryd.prog.cellsOf 4 = 1 := by kernel_rfl
/-- What a rule reads as. -/
def dataT {H : Type} (t : Rul) : DataW H := .agg [.lit (.string t.tag), .lit (.bool t.rep), .lit (.bool t.must), .lit (.string t.codes), .lit (.string t.once), .lit (.string t.needs), .lit (.int .i64 t.auth)]
set_option maxRecDepth 100000 in
/-- A rule's seven cells. -/
theorem open_rul7 {H : Type} {enc : TypeId × Value → H} {W : World} {spare : Nat → Bool} {held : Bool} {base fuel : Nat} {cs : List Value} {x : DataW H × List MemPlace} (hl : cs.length = 7)
    (hf : DataW.trod enc Tryd.prog W base spare held fuel 25 cs = some x) : ∃ t : Rul, cs = [.string (S t.tag), .bool t.rep, .bool t.must, .string (S t.codes), .string (S t.once), .string (S t.needs), .int .i64 t.auth] ∧ x.1 = dataT t := by
  obtain ⟨c0, c1, c2, c3, c4, c5, c6, rfl⟩ : ∃ c0 c1 c2 c3 c4 c5 c6, cs = [c0, c1, c2, c3, c4, c5, c6] := by
    match cs, hl with
    | [c0, c1, c2, c3, c4, c5, c6], _ => exact ⟨c0, c1, c2, c3, c4, c5, c6, rfl⟩
  obtain ⟨xs, n, hn1, hx, hn2, hxl, hfl⟩ := DataW.trod_struct Tryd.underlying25 hf
  have hxl7 : xs.length = 7 := hxl.trans rfl
  obtain ⟨y0, y1, y2, y3, y4, y5, y6, rfl⟩ : ∃ y0 y1 y2 y3 y4 y5 y6, xs = [y0, y1, y2, y3, y4, y5, y6] := by
    match xs, hxl7 with
    | [y0, y1, y2, y3, y4, y5, y6], _ => exact ⟨y0, y1, y2, y3, y4, y5, y6, rfl⟩
  have f0 := hfl 0 _ rfl
  have f1 := hfl 1 _ rfl
  have f2 := hfl 2 _ rfl
  have f3 := hfl 3 _ rfl
  have f4 := hfl 4 _ rfl
  have f5 := hfl 5 _ rfl
  have f6 := hfl 6 _ rfl
  change DataW.trod enc Tryd.prog W base spare held n 9 (([c0, c1, c2, c3, c4, c5, c6].drop 0).take (Tryd.prog.cellsOf 9)) = some y0 at f0
  rw [cells_string] at f0
  change DataW.trod enc Tryd.prog W base spare held n 4 (([c0, c1, c2, c3, c4, c5, c6].drop 1).take (Tryd.prog.cellsOf 4)) = some y1 at f1
  rw [cells_bool1] at f1
  change DataW.trod enc Tryd.prog W base spare held n 4 (([c0, c1, c2, c3, c4, c5, c6].drop 2).take (Tryd.prog.cellsOf 4)) = some y2 at f2
  rw [cells_bool1] at f2
  change DataW.trod enc Tryd.prog W base spare held n 9 (([c0, c1, c2, c3, c4, c5, c6].drop 3).take (Tryd.prog.cellsOf 9)) = some y3 at f3
  rw [cells_string] at f3
  change DataW.trod enc Tryd.prog W base spare held n 9 (([c0, c1, c2, c3, c4, c5, c6].drop 4).take (Tryd.prog.cellsOf 9)) = some y4 at f4
  rw [cells_string] at f4
  change DataW.trod enc Tryd.prog W base spare held n 9 (([c0, c1, c2, c3, c4, c5, c6].drop 5).take (Tryd.prog.cellsOf 9)) = some y5 at f5
  rw [cells_string] at f5
  change DataW.trod enc Tryd.prog W base spare held n 3 (([c0, c1, c2, c3, c4, c5, c6].drop 6).take (Tryd.prog.cellsOf 3)) = some y6 at f6
  rw [cells_int1] at f6
  obtain ⟨s0, a0, e0, _⟩ := DataW.trod_string Tryd.underlying9 f0
  obtain ⟨s1, a1, e1⟩ := DataW.trod_bool Tryd.underlying4 f1
  obtain ⟨s2, a2, e2⟩ := DataW.trod_bool Tryd.underlying4 f2
  obtain ⟨s3, a3, e3, _⟩ := DataW.trod_string Tryd.underlying9 f3
  obtain ⟨s4, a4, e4, _⟩ := DataW.trod_string Tryd.underlying9 f4
  obtain ⟨s5, a5, e5, _⟩ := DataW.trod_string Tryd.underlying9 f5
  obtain ⟨s6, a6, e6, _⟩ := DataW.trod_int Tryd.underlying3 f6
  simp at a0 a1 a2 a3 a4 a5 a6
  refine ⟨⟨s0.data.toList, s1, s2, s3.data.toList, s4.data.toList, s5.data.toList, s6⟩, by rw [a0, a1, a2, a3, a4, a5, a6]; rfl, ?_⟩
  rw [hx, e0, e1, e2, e3, e4, e5, e6]
  rfl

set_option maxRecDepth 100000 in
/-- A slice of rules. -/
theorem open_tl {H : Type} {enc : TypeId × Value → H} {W : World} {c : Value} {fuel : Nat} {x : DataW H × List MemPlace}
    (hf : DataW.trod enc Tryd.prog W 0 (fun _ => true) true fuel 22 [c] = some x) : ∃ L : List Rul, TL c L W := by
  rcases DataW.trod_slice Tryd.underlying22 hf with ⟨hcs, _⟩ | ⟨a, len, cap, elems, rest, n, _, hcs, _, _, hl, hm, hlen, hel, _, _⟩
  · simp only [List.cons.injEq, and_true] at hcs
    subst hcs
    exact ⟨[], none, 0, rfl, Nat.le_refl _, Nat.zero_le _, fun _ => rfl, fun i hi => by cases hi⟩
  · simp only [List.cons.injEq, and_true] at hcs
    subst hcs
    obtain ⟨b, off, spot⟩ := a
    have each : ∀ i, i < len → ∃ t : Rul, W.cell? ((⟨b, off, spot⟩ : Addr).add (i * 7)) = some (.string (S t.tag)) ∧ W.cell? (((⟨b, off, spot⟩ : Addr).add (i * 7)).add 1) = some (.bool t.rep) ∧ W.cell? (((⟨b, off, spot⟩ : Addr).add (i * 7)).add 2) = some (.bool t.must) ∧
        W.cell? (((⟨b, off, spot⟩ : Addr).add (i * 7)).add 3) = some (.string (S t.codes)) ∧ W.cell? (((⟨b, off, spot⟩ : Addr).add (i * 7)).add 4) = some (.string (S t.once)) ∧ W.cell? (((⟨b, off, spot⟩ : Addr).add (i * 7)).add 5) = some (.string (S t.needs)) ∧ W.cell? (((⟨b, off, spot⟩ : Addr).add (i * 7)).add 6) = some (.int .i64 t.auth) := by
      intro i hi
      have h := hel i hi
      rw [cells_rule] at h
      have hsome : ∃ y, elems[i]? = some y := ⟨elems[i]'(by omega), List.getElem?_eq_getElem (by omega)⟩
      obtain ⟨y, hy⟩ := hsome
      rw [hy, Option.bind_eq_some_iff] at h
      obtain ⟨cs', hcs, hy'⟩ := h
      obtain ⟨_, hl2, hat⟩ := World.cells?_some hcs
      obtain ⟨t, hs, _⟩ := open_rul7 hl2 hy'
      subst hs
      have a0 := hat 0 (by decide)
      have a1 := hat 1 (by decide)
      have a2 := hat 2 (by decide)
      have a3 := hat 3 (by decide)
      have a4 := hat 4 (by decide)
      have a5 := hat 5 (by decide)
      have a6 := hat 6 (by decide)
      have e0 : ((⟨b, off, spot⟩ : Addr).add (i * 7)).add 0 = (⟨b, off, spot⟩ : Addr).add (i * 7) := by
        unfold Addr.add
        split <;> simp_all
      rw [e0] at a0
      exact ⟨t, a0, a1, a2, a3, a4, a5, a6⟩
    obtain ⟨F, hF⟩ : ∃ F : Nat → Rul, ∀ i, i < len → W.cell? ((⟨b, off, spot⟩ : Addr).add (i * 7)) = some (.string (S (F i).tag)) ∧ W.cell? (((⟨b, off, spot⟩ : Addr).add (i * 7)).add 1) = some (.bool (F i).rep) ∧ W.cell? (((⟨b, off, spot⟩ : Addr).add (i * 7)).add 2) = some (.bool (F i).must) ∧
        W.cell? (((⟨b, off, spot⟩ : Addr).add (i * 7)).add 3) = some (.string (S (F i).codes)) ∧ W.cell? (((⟨b, off, spot⟩ : Addr).add (i * 7)).add 4) = some (.string (S (F i).once)) ∧ W.cell? (((⟨b, off, spot⟩ : Addr).add (i * 7)).add 5) = some (.string (S (F i).needs)) ∧ W.cell? (((⟨b, off, spot⟩ : Addr).add (i * 7)).add 6) = some (.int .i64 (F i).auth) :=
      ⟨fun i => if h : i < len then (each i h).choose else rul0, fun i hi => by
        have := (each i hi).choose_spec
        simp only [dif_pos hi]
        exact this⟩
    have hl2 : ((List.range len).map F).length = len := by simp
    refine ⟨(List.range len).map F, some ⟨b, off, spot⟩, cap, by rw [hl2], by omega, hm, (fun h => by cases h), fun i hi => ?_⟩
    rw [hl2] at hi
    have hspot : spot = none := by simpa [Addr.add] using World.cell?_spot (hF 0 (by omega)).1
    subst hspot
    have hg : ((List.range len).map F).getD i rul0 = F i := by
      rw [List.getD_eq_getElem?_getD, List.getElem?_map, List.getElem?_range hi]
      rfl
    obtain ⟨c0, c1, c2, c3, c4, c5, c6⟩ := hF i hi
    have hadd : (⟨b, off, none⟩ : Addr).add (i * 7) = ⟨b, off + i * 7, none⟩ := by unfold Addr.add; split <;> simp_all
    have hadd2 : ∀ k, (⟨b, off + i * 7, none⟩ : Addr).add k = ⟨b, off + i * 7 + k, none⟩ := fun k => by unfold Addr.add; split <;> simp_all
    rw [hadd] at c0 c1 c2 c3 c4 c5 c6
    rw [hadd2] at c1 c2 c3 c4 c5 c6
    rw [hg]
    refine ⟨b, off, rfl, ?_, c0, c1, c2, c3, c4, c5, c6⟩
    rcases Nat.lt_or_ge b W.heap.size with hh | hh
    · exact hh
    · simp [World.cell?, Array.getElem?_eq_none hh] at c0
end Go.Proofs.YtjfdolmcecgdgaaDoor
