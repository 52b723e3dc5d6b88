/- Merged: ArgsB, ArgsN. -/
import Derived.Test.YtjfbbpppdlaapaaDoorQ11
import Derived.Test.YtjfbbpppdlaapaaDoorRows
import Derived.SliceStrings
import Derived.Lib.SmallJoins
import Derived.Carry
import Derived.Test.YtjfbbpppdlaapaaDoorQ27
namespace Go.Proofs.YtjfbbpppdlaapaaDoor

section
open Go.RowKit Go.Lib Go.ChangeShapes Go.WideShapes
theorem laidOut : laidOutB Tryd.prog = true := by kernel_rfl
theorem cells_string : Tryd.prog.cellsOf 9 = 1 := by kernel_rfl
theorem open_bl {H : Type} {enc : TypeId × Value → H} {W : World} {c : Value} {fuel : Nat} {x : DataW H × List MemPlace}
    (hf : DataW.trod enc Tryd.prog W 0 (fun _ => true) true fuel 25 [c] = some x) : ∃ L : List (List UInt8), BL c L W := by
  rcases open_strings Tryd.underlying25 Tryd.underlying9 cells_string hf with ⟨hcs, _⟩ | ⟨a, len, cap, ss, hcs, _, hl, hm, hz, _, hcell, _⟩
  · simp only [List.cons.injEq, and_true] at hcs
    subst hcs
    exact ⟨[], none, 0, rfl, Nat.le_refl _, Nat.zero_le _, fun _ => rfl, fun i hi => by cases hi⟩
  · simp only [List.cons.injEq, and_true] at hcs
    subst hcs
    simp only [if_true] at hz
    obtain ⟨b, off, spot⟩ := a
    have hlen : ((ss.take len).map fun s => s.data.toList).length = len := by simp; omega
    refine ⟨(ss.take len).map fun s => s.data.toList, some ⟨b, off, spot⟩, cap, by rw [hlen], by omega, hm, (fun h => by cases h), fun i hi => ?_⟩
    rw [hlen] at hi
    have hspot : spot = none := by simpa [Addr.add] using World.cell?_spot (hcell 0 (by omega))
    subst hspot
    have hc := hcell i (by omega)
    have hadd : (⟨b, off, none⟩ : Addr).add i = ⟨b, off + i, none⟩ := by unfold Addr.add; split <;> simp_all
    rw [hadd] at hc
    refine ⟨b, off, rfl, ?_, ?_⟩
    · rcases Nat.lt_or_ge b W.heap.size with hh | hh
      · exact hh
      · simp [World.cell?, Array.getElem?_eq_none hh] at hc
    · have hi2 : i < ss.length := by omega
      have e1 : ss.getD i ByteArray.empty = ss[i] := by rw [List.getD_eq_getElem?_getD, List.getElem?_eq_getElem hi2]; rfl
      have e2 : ((ss.take len).map fun s => s.data.toList).getD i [] = ss[i].data.toList := by
        rw [List.getD_eq_getElem?_getD, List.getElem?_map, List.getElem?_take_of_lt hi, List.getElem?_eq_getElem hi2]
        rfl
      rw [hc, e1, e2]
      rfl
end

section
open Go.RowKit Go.Lib Go.ChangeShapes Go.WideShapes
set_option maxRecDepth 100000 in
/-- A name. -/
theorem open_nm {H : Type} {enc : TypeId × Value → H} {W : World} {base : Nat} {v : Value} {d : DataW H} {p : List MemPlace} (hv : Value.okWide Tryd.prog W .any base 34 v)
    (h : DataW.Trod enc Tryd.prog W 0 (fun _ => true) true 34 v d p) : ∃ n : Nm, v = NV n := by
  have hv2 : ∃ cs, v = .agg cs ∧ cs.size = Tryd.prog.cellsOf 34 := by
    unfold Value.okWide at hv
    rw [Tryd.underlying34] at hv
    obtain ⟨cs, h1, h2, _⟩ := hv
    exact ⟨cs, h1, h2⟩
  obtain ⟨cs, rfl, hsz⟩ := hv2
  have hsz3 : cs.size = 3 := hsz.trans (by kernel_rfl)
  obtain ⟨c0, c1, c2, rfl⟩ : ∃ c0 c1 c2, cs = #[c0, c1, c2] := by
    obtain ⟨l⟩ := cs
    match l, hsz3 with
    | [c0, c1, c2], _ => exact ⟨c0, c1, c2, rfl⟩
  obtain ⟨fuel, hf⟩ := h
  obtain ⟨xs, n, _, _, _, hxl, hfl⟩ := DataW.trod_struct Tryd.underlying34 hf
  have key : ∀ j, j < 3 → ∃ y, xs[j]? = some y := by
    intro j hj
    have hxl3 : xs.length = 3 := hxl.trans rfl
    exact ⟨xs[j]'(by omega), List.getElem?_eq_getElem (by omega)⟩
  have f0 := hfl 0 _ rfl
  have f1 := hfl 1 _ rfl
  have f2 := hfl 2 _ rfl
  obtain ⟨y0, e0⟩ := key 0 (by decide)
  obtain ⟨y1, e1⟩ := key 1 (by decide)
  obtain ⟨y2, e2⟩ := key 2 (by decide)
  rw [e0] at f0
  rw [e1] at f1
  rw [e2] at f2
  change DataW.trod enc Tryd.prog W 0 (fun _ => true) true n 9 (([c0, c1, c2].drop 0).take (Tryd.prog.cellsOf 9)) = some y0 at f0
  rw [cells_string] at f0
  change DataW.trod enc Tryd.prog W 0 (fun _ => true) true n 9 (([c0, c1, c2].drop 1).take (Tryd.prog.cellsOf 9)) = some y1 at f1
  rw [cells_string] at f1
  change DataW.trod enc Tryd.prog W 0 (fun _ => true) true n 9 (([c0, c1, c2].drop 2).take (Tryd.prog.cellsOf 9)) = some y2 at f2
  rw [cells_string] at f2
  obtain ⟨s0, a0, _, _⟩ := DataW.trod_string Tryd.underlying9 f0
  obtain ⟨s1, a1, _, _⟩ := DataW.trod_string Tryd.underlying9 f1
  obtain ⟨s2, a2, _, _⟩ := DataW.trod_string Tryd.underlying9 f2
  simp at a0 a1 a2
  exact ⟨(s0.data.toList, s1.data.toList, s2.data.toList), by rw [a0, a1, a2]; rfl⟩
end

end Go.Proofs.YtjfbbpppdlaapaaDoor
