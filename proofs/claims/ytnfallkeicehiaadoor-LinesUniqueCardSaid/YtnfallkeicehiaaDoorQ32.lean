/- Merged: ArgsQ, ArgsR, ArgsL. -/
import Derived.Test.YtnfallkeicehiaaDoorQ01
import Derived.Test.YtnfallkeicehiaaDoorRows
import Derived.SliceStrings
import Derived.Lib.SmallJoins
import Derived.Carry
import Derived.Test.YtnfallkeicehiaaDoorQ12
import Derived.Test.YtnfallkeicehiaaDoorQ13
namespace Go.Proofs.YtnfallkeicehiaaDoor

section
open Go.RowKit Go.Lib Go.ChangeShapes Go.WideShapes
theorem laidOut : laidOutB Tryd.prog = true := by kernel_rfl
theorem cells_string : Tryd.prog.cellsOf 9 = 1 := by kernel_rfl
theorem cells_byte : Tryd.prog.cellsOf 5 = 1 := by kernel_rfl
theorem cells_int1 : Tryd.prog.cellsOf 3 = 1 := by kernel_rfl
theorem cells_slice1 : Tryd.prog.cellsOf 41 = 1 := by kernel_rfl
theorem cells_sub : Tryd.prog.cellsOf 45 = 2 := by kernel_rfl

set_option maxRecDepth 100000 in
/-- A subfield's two cells. -/
theorem open_sub {H : Type} {enc : TypeId × Value → H} {W : World} {fuel : Nat} {cs : List Value} {x : DataW H × List MemPlace}
    (hf : DataW.trod enc Tryd.prog W 0 (fun _ => true) true fuel 45 cs = some x) : ∃ s : Sub, cs.take 2 = [.int .u8 (s.1.toNat : Int), .string (S s.2)] := by
  obtain ⟨xs, n, _, _, _, hxl, hfl⟩ := DataW.trod_struct Tryd.underlying45 hf
  have key : ∀ j, j < 2 → ∃ y, xs[j]? = some y := by
    intro j hj
    have hxl2 : xs.length = 2 := hxl.trans rfl
    exact ⟨xs[j]'(by omega), List.getElem?_eq_getElem (by omega)⟩
  have f0 := hfl 0 _ rfl
  have f1 := hfl 1 _ rfl
  obtain ⟨y0, e0⟩ := key 0 (by decide)
  obtain ⟨y1, e1⟩ := key 1 (by decide)
  rw [e0] at f0
  rw [e1] at f1
  change DataW.trod enc Tryd.prog W 0 (fun _ => true) true n 5 ((cs.drop 0).take (Tryd.prog.cellsOf 5)) = some y0 at f0
  rw [cells_byte] at f0
  change DataW.trod enc Tryd.prog W 0 (fun _ => true) true n 9 ((cs.drop 1).take (Tryd.prog.cellsOf 9)) = some y1 at f1
  rw [cells_string] at f1
  obtain ⟨z, a0, _, hw⟩ := DataW.trod_int Tryd.underlying5 f0
  obtain ⟨s1, a1, _, _⟩ := DataW.trod_string Tryd.underlying9 f1
  have hz : 0 ≤ z ∧ z ≤ 255 := by simpa [Lit.wf, IntKind.min, IntKind.max, IntKind.signed, IntKind.bits] using hw
  refine ⟨(UInt8.ofNat z.toNat, s1.data.toList), ?_⟩
  have ez : ((UInt8.ofNat z.toNat).toNat : Int) = z := by
    rw [UInt8.toNat_ofNat']
    omega
  show cs.take 2 = [.int .u8 ((UInt8.ofNat z.toNat).toNat : Int), .string (S s1.data.toList)]
  rw [ez, show S s1.data.toList = s1 from rfl]
  match cs, a0, a1 with
  | [], a0, _ => simp at a0
  | [_], _, a1 => simp at a1
  | c0 :: c1 :: r, a0, a1 =>
    simp at a0 a1
    simp [a0, a1]

set_option maxRecDepth 100000 in
/-- A slice of subfields. -/
theorem open_ql {H : Type} {enc : TypeId × Value → H} {W : World} {c : Value} {fuel : Nat} {x : DataW H × List MemPlace}
    (hf : DataW.trod enc Tryd.prog W 0 (fun _ => true) true fuel 41 [c] = some x) : ∃ L : List Sub, QL c L W := by
  rcases DataW.trod_slice Tryd.underlying41 hf with ⟨hcs, _⟩ | ⟨a, len, cap, elems, rest, n, _, hcs, _, _, hl, hm, hlen, hel, _, _⟩
  · simp only [List.cons.injEq, and_true] at hcs
    subst hcs
    exact ⟨[], none, 0, rfl, Nat.le_refl _, Nat.zero_le _, fun _ => rfl, fun i hi => by cases hi⟩
  · simp only [List.cons.injEq, and_true] at hcs
    subst hcs
    obtain ⟨b, off, spot⟩ := a
    have each : ∀ i, i < len → ∃ s : Sub, W.cell? ((⟨b, off, spot⟩ : Addr).add (i * 2)) = some (.int .u8 (s.1.toNat : Int)) ∧ W.cell? (((⟨b, off, spot⟩ : Addr).add (i * 2)).add 1) = some (.string (S s.2)) := by
      intro i hi
      have h := hel i hi
      rw [cells_sub] at h
      have hsome : ∃ y, elems[i]? = some y := ⟨elems[i]'(by omega), List.getElem?_eq_getElem (by omega)⟩
      obtain ⟨y, hy⟩ := hsome
      rw [hy, Option.bind_eq_some_iff] at h
      obtain ⟨cs', hcs, hy'⟩ := h
      obtain ⟨_, hl2, hat⟩ := World.cells?_some hcs
      obtain ⟨s, hs⟩ := open_sub hy'
      rw [List.take_of_length_le (by omega)] at hs
      subst hs
      have a0 := hat 0 (by decide)
      have a1 := hat 1 (by decide)
      have e0 : ((⟨b, off, spot⟩ : Addr).add (i * 2)).add 0 = (⟨b, off, spot⟩ : Addr).add (i * 2) := by
        unfold Addr.add
        split <;> simp_all
      rw [e0] at a0
      exact ⟨s, a0, a1⟩
    obtain ⟨F, hF⟩ : ∃ F : Nat → Sub, ∀ i, i < len → W.cell? ((⟨b, off, spot⟩ : Addr).add (i * 2)) = some (.int .u8 ((F i).1.toNat : Int)) ∧ W.cell? (((⟨b, off, spot⟩ : Addr).add (i * 2)).add 1) = some (.string (S (F i).2)) :=
      ⟨fun i => if h : i < len then (each i h).choose else sub0, fun i hi => by
        have := (each i hi).choose_spec
        simp only [dif_pos hi]
        exact this⟩
    have hl2 : ((List.range len).map F).length = len := by simp
    refine ⟨(List.range len).map F, some ⟨b, off, spot⟩, cap, by rw [hl2], by omega, hm, (fun h => by cases h), fun i hi => ?_⟩
    rw [hl2] at hi
    have hspot : spot = none := by simpa [Addr.add] using World.cell?_spot (hF 0 (by omega)).1
    subst hspot
    have hg : ((List.range len).map F).getD i sub0 = F i := by
      rw [List.getD_eq_getElem?_getD, List.getElem?_map, List.getElem?_range hi]
      rfl
    obtain ⟨c0, c1⟩ := hF i hi
    have hadd : (⟨b, off, none⟩ : Addr).add (i * 2) = ⟨b, off + i * 2, none⟩ := by unfold Addr.add; split <;> simp_all
    have hadd2 : (⟨b, off + i * 2, none⟩ : Addr).add 1 = ⟨b, off + i * 2 + 1, none⟩ := by unfold Addr.add; split <;> simp_all
    rw [hadd] at c0 c1
    rw [hadd2] at c1
    refine ⟨b, off, rfl, ?_, by rw [hg]; exact c0, by rw [hg]; exact c1⟩
    rcases Nat.lt_or_ge b W.heap.size with hh | hh
    · exact hh
    · simp [World.cell?, Array.getElem?_eq_none hh] at c0

set_option maxRecDepth 100000 in
/-- A field. -/
theorem open_field {H : Type} {enc : TypeId × Value → H} {W : World} {base : Nat} {v : Value} {d : DataW H} {p : List MemPlace} (hv : Value.okWide Tryd.prog W .any base 43 v)
    (h : DataW.Trod enc Tryd.prog W 0 (fun _ => true) true 43 v d p) : ∃ (f : Fld) (u : Value), v = FV f u ∧ QL u f.subs W := by
  have hv2 : ∃ cs, v = .agg cs ∧ cs.size = Tryd.prog.cellsOf 43 := by
    unfold Value.okWide at hv
    rw [Tryd.underlying43] at hv
    obtain ⟨cs, h1, h2, _⟩ := hv
    exact ⟨cs, h1, h2⟩
  obtain ⟨cs, rfl, hsz⟩ := hv2
  have hsz4 : cs.size = 4 := hsz.trans (by kernel_rfl)
  obtain ⟨c0, c1, c2, c3, rfl⟩ : ∃ c0 c1 c2 c3, cs = #[c0, c1, c2, c3] := by
    obtain ⟨l⟩ := cs
    match l, hsz4 with
    | [c0, c1, c2, c3], _ => exact ⟨c0, c1, c2, c3, rfl⟩
  obtain ⟨fuel, hf⟩ := h
  obtain ⟨xs, n, _, _, _, hxl, hfl⟩ := DataW.trod_struct Tryd.underlying43 hf
  have key : ∀ j, j < 4 → ∃ y, xs[j]? = some y := by
    intro j hj
    have hxl4 : xs.length = 4 := hxl.trans rfl
    exact ⟨xs[j]'(by omega), List.getElem?_eq_getElem (by omega)⟩
  have f0 := hfl 0 _ rfl
  have f1 := hfl 1 _ rfl
  have f2 := hfl 2 _ rfl
  have f3 := hfl 3 _ rfl
  obtain ⟨y0, e0⟩ := key 0 (by decide)
  obtain ⟨y1, e1⟩ := key 1 (by decide)
  obtain ⟨y2, e2⟩ := key 2 (by decide)
  obtain ⟨y3, e3⟩ := key 3 (by decide)
  rw [e0] at f0
  rw [e1] at f1
  rw [e2] at f2
  rw [e3] at f3
  change DataW.trod enc Tryd.prog W 0 (fun _ => true) true n 9 (([c0, c1, c2, c3].drop 0).take (Tryd.prog.cellsOf 9)) = some y0 at f0
  rw [cells_string] at f0
  change DataW.trod enc Tryd.prog W 0 (fun _ => true) true n 9 (([c0, c1, c2, c3].drop 1).take (Tryd.prog.cellsOf 9)) = some y1 at f1
  rw [cells_string] at f1
  change DataW.trod enc Tryd.prog W 0 (fun _ => true) true n 41 (([c0, c1, c2, c3].drop 2).take (Tryd.prog.cellsOf 41)) = some y2 at f2
  rw [cells_slice1] at f2
  change DataW.trod enc Tryd.prog W 0 (fun _ => true) true n 3 (([c0, c1, c2, c3].drop 3).take (Tryd.prog.cellsOf 3)) = some y3 at f3
  rw [cells_int1] at f3
  obtain ⟨s0, a0, _, _⟩ := DataW.trod_string Tryd.underlying9 f0
  obtain ⟨s1, a1, _, _⟩ := DataW.trod_string Tryd.underlying9 f1
  obtain ⟨z3, a3, _, _⟩ := DataW.trod_int Tryd.underlying3 f3
  obtain ⟨L, hL⟩ := open_ql (c := c2) f2
  simp at a0 a1 a3
  exact ⟨⟨s0.data.toList, s1.data.toList, L, z3⟩, c2, by rw [a0, a1, a3]; rfl, hL⟩
end

section
open Go.RowKit Go.Lib Go.ChangeShapes Go.WideShapes
theorem cells_field : Tryd.prog.cellsOf 43 = 4 := by kernel_rfl
theorem cells_slicef : Tryd.prog.cellsOf 22 = 1 := by kernel_rfl

set_option maxRecDepth 100000 in
/-- A field's four cells. -/
theorem open_fld4 {H : Type} {enc : TypeId × Value → H} {W : World} {fuel : Nat} {cs : List Value} {x : DataW H × List MemPlace} (hl : cs.length = 4)
    (hf : DataW.trod enc Tryd.prog W 0 (fun _ => true) true fuel 43 cs = some x) : ∃ (f : Fld) (u : Value), cs = [.string (S f.tag), .string (S f.ind), u, .int .i64 f.auth] ∧ QL u f.subs W := by
  obtain ⟨c0, c1, c2, c3, rfl⟩ : ∃ c0 c1 c2 c3, cs = [c0, c1, c2, c3] := by
    match cs, hl with
    | [c0, c1, c2, c3], _ => exact ⟨c0, c1, c2, c3, rfl⟩
  obtain ⟨xs, n, _, _, _, hxl, hfl⟩ := DataW.trod_struct Tryd.underlying43 hf
  have key : ∀ j, j < 4 → ∃ y, xs[j]? = some y := by
    intro j hj
    have hxl4 : xs.length = 4 := hxl.trans rfl
    exact ⟨xs[j]'(by omega), List.getElem?_eq_getElem (by omega)⟩
  have f0 := hfl 0 _ rfl
  have f1 := hfl 1 _ rfl
  have f2 := hfl 2 _ rfl
  have f3 := hfl 3 _ rfl
  obtain ⟨y0, e0⟩ := key 0 (by decide)
  obtain ⟨y1, e1⟩ := key 1 (by decide)
  obtain ⟨y2, e2⟩ := key 2 (by decide)
  obtain ⟨y3, e3⟩ := key 3 (by decide)
  rw [e0] at f0
  rw [e1] at f1
  rw [e2] at f2
  rw [e3] at f3
  change DataW.trod enc Tryd.prog W 0 (fun _ => true) true n 9 (([c0, c1, c2, c3].drop 0).take (Tryd.prog.cellsOf 9)) = some y0 at f0
  rw [cells_string] at f0
  change DataW.trod enc Tryd.prog W 0 (fun _ => true) true n 9 (([c0, c1, c2, c3].drop 1).take (Tryd.prog.cellsOf 9)) = some y1 at f1
  rw [cells_string] at f1
  change DataW.trod enc Tryd.prog W 0 (fun _ => true) true n 41 (([c0, c1, c2, c3].drop 2).take (Tryd.prog.cellsOf 41)) = some y2 at f2
  rw [cells_slice1] at f2
  change DataW.trod enc Tryd.prog W 0 (fun _ => true) true n 3 (([c0, c1, c2, c3].drop 3).take (Tryd.prog.cellsOf 3)) = some y3 at f3
  rw [cells_int1] at f3
  obtain ⟨s0, a0, _, _⟩ := DataW.trod_string Tryd.underlying9 f0
  obtain ⟨s1, a1, _, _⟩ := DataW.trod_string Tryd.underlying9 f1
  obtain ⟨z3, a3, _, _⟩ := DataW.trod_int Tryd.underlying3 f3
  obtain ⟨L, hL⟩ := open_ql (c := c2) f2
  simp at a0 a1 a3
  exact ⟨⟨s0.data.toList, s1.data.toList, L, z3⟩, c2, by rw [a0, a1, a3]; rfl, hL⟩

set_option maxRecDepth 100000 in
/-- A slice of fields. -/
theorem open_fl {H : Type} {enc : TypeId × Value → H} {W : World} {c : Value} {fuel : Nat} {x : DataW H × List MemPlace}
    (hf : DataW.trod enc Tryd.prog W 0 (fun _ => true) true fuel 22 [c] = some x) : ∃ L : List Fld, FL c L W := by
  rcases DataW.trod_slice Tryd.underlying22 hf with ⟨hcs, _⟩ | ⟨a, len, cap, elems, rest, n, _, hcs, _, _, hl, hm, hlen, hel, _, _⟩
  · simp only [List.cons.injEq, and_true] at hcs
    subst hcs
    exact ⟨[], none, 0, rfl, Nat.le_refl _, Nat.zero_le _, fun _ => rfl, fun i hi => by cases hi⟩
  · simp only [List.cons.injEq, and_true] at hcs
    subst hcs
    obtain ⟨b, off, spot⟩ := a
    have each : ∀ i, i < len → ∃ s : Fld × Value, (W.cell? ((⟨b, off, spot⟩ : Addr).add (i * 4)) = some (.string (S s.1.tag)) ∧ W.cell? (((⟨b, off, spot⟩ : Addr).add (i * 4)).add 1) = some (.string (S s.1.ind)) ∧
        W.cell? (((⟨b, off, spot⟩ : Addr).add (i * 4)).add 2) = some s.2 ∧ W.cell? (((⟨b, off, spot⟩ : Addr).add (i * 4)).add 3) = some (.int .i64 s.1.auth)) ∧ QL s.2 s.1.subs W := by
      intro i hi
      have h := hel i hi
      rw [cells_field] at h
      have hsome : ∃ y, elems[i]? = some y := ⟨elems[i]'(by omega), List.getElem?_eq_getElem (by omega)⟩
      obtain ⟨y, hy⟩ := hsome
      rw [hy, Option.bind_eq_some_iff] at h
      obtain ⟨cs', hcs, hy'⟩ := h
      obtain ⟨_, hl2, hat⟩ := World.cells?_some hcs
      obtain ⟨f, u, hs, hq⟩ := open_fld4 hl2 hy'
      subst hs
      have a0 := hat 0 (by decide)
      have a1 := hat 1 (by decide)
      have a2 := hat 2 (by decide)
      have a3 := hat 3 (by decide)
      have e0 : ((⟨b, off, spot⟩ : Addr).add (i * 4)).add 0 = (⟨b, off, spot⟩ : Addr).add (i * 4) := by
        unfold Addr.add
        split <;> simp_all
      rw [e0] at a0
      exact ⟨(f, u), ⟨a0, a1, a2, a3⟩, hq⟩
    obtain ⟨F, hF⟩ : ∃ F : Nat → Fld × Value, ∀ i, i < len → (W.cell? ((⟨b, off, spot⟩ : Addr).add (i * 4)) = some (.string (S (F i).1.tag)) ∧ W.cell? (((⟨b, off, spot⟩ : Addr).add (i * 4)).add 1) = some (.string (S (F i).1.ind)) ∧
        W.cell? (((⟨b, off, spot⟩ : Addr).add (i * 4)).add 2) = some (F i).2 ∧ W.cell? (((⟨b, off, spot⟩ : Addr).add (i * 4)).add 3) = some (.int .i64 (F i).1.auth)) ∧ QL (F i).2 (F i).1.subs W :=
      ⟨fun i => if h : i < len then (each i h).choose else (fd0, .nilIface), fun i hi => by
        have := (each i hi).choose_spec
        simp only [dif_pos hi]
        exact this⟩
    have hl2 : ((List.range len).map fun i => (F i).1).length = len := by simp
    refine ⟨(List.range len).map fun i => (F i).1, some ⟨b, off, spot⟩, cap, by rw [hl2], by omega, hm, (fun h => by cases h), fun i hi => ?_⟩
    rw [hl2] at hi
    have hspot : spot = none := by simpa [Addr.add] using World.cell?_spot (hF 0 (by omega)).1.1
    subst hspot
    have hg : ((List.range len).map fun i => (F i).1).getD i fd0 = (F i).1 := by
      rw [List.getD_eq_getElem?_getD, List.getElem?_map, List.getElem?_range hi]
      rfl
    obtain ⟨⟨c0, c1, c2, c3⟩, hq⟩ := hF i hi
    have hadd : (⟨b, off, none⟩ : Addr).add (i * 4) = ⟨b, off + i * 4, none⟩ := by unfold Addr.add; split <;> simp_all
    have hadd2 : ∀ k, (⟨b, off + i * 4, none⟩ : Addr).add k = ⟨b, off + i * 4 + k, none⟩ := fun k => by unfold Addr.add; split <;> simp_all
    rw [hadd] at c0 c1 c2 c3
    rw [hadd2] at c1 c2 c3
    rw [hg]
    refine ⟨b, off, _, rfl, ?_, c0, c1, c2, c3, hq⟩
    rcases Nat.lt_or_ge b W.heap.size with hh | hh
    · exact hh
    · simp [World.cell?, Array.getElem?_eq_none hh] at c0

set_option maxRecDepth 100000 in
/-- A record, and the bound of its language. -/
theorem open_record_l {H : Type} {enc : TypeId × Value → H} {W : World} {base : Nat} {v : Value} {d : DataW H} {p : List MemPlace} (hv : Value.okWide Tryd.prog W .any base 24 v)
    (h : DataW.Trod enc Tryd.prog W 0 (fun _ => true) true 24 v d p) : ∃ (r : Rec) (u : Value), v = RV r u ∧ FL u r.fields W ∧ r.lang.length ≤ maxLen := by
  have hv2 : ∃ cs, v = .agg cs ∧ cs.size = Tryd.prog.cellsOf 24 := by
    unfold Value.okWide at hv
    rw [Tryd.underlying24] at hv
    obtain ⟨cs, h1, h2, _⟩ := hv
    exact ⟨cs, h1, h2⟩
  obtain ⟨cs, rfl, hsz⟩ := hv2
  have hsz5 : cs.size = 5 := hsz.trans (by kernel_rfl)
  obtain ⟨c0, c1, c2, c3, c4, rfl⟩ : ∃ c0 c1 c2 c3 c4, cs = #[c0, c1, c2, c3, c4] := by
    obtain ⟨l⟩ := cs
    match l, hsz5 with
    | [c0, c1, c2, c3, c4], _ => exact ⟨c0, c1, c2, c3, c4, rfl⟩
  obtain ⟨fuel, hf⟩ := h
  obtain ⟨xs, n, _, _, _, hxl, hfl⟩ := DataW.trod_struct Tryd.underlying24 hf
  have key : ∀ j, j < 5 → ∃ y, xs[j]? = some y := by
    intro j hj
    have hxl5 : xs.length = 5 := hxl.trans rfl
    exact ⟨xs[j]'(by omega), List.getElem?_eq_getElem (by omega)⟩
  have f0 := hfl 0 _ rfl
  have f1 := hfl 1 _ rfl
  have f2 := hfl 2 _ rfl
  have f3 := hfl 3 _ rfl
  have f4 := hfl 4 _ rfl
  obtain ⟨y0, e0⟩ := key 0 (by decide)
  obtain ⟨y1, e1⟩ := key 1 (by decide)
  obtain ⟨y2, e2⟩ := key 2 (by decide)
  obtain ⟨y3, e3⟩ := key 3 (by decide)
  obtain ⟨y4, e4⟩ := key 4 (by decide)
  rw [e0] at f0
  rw [e1] at f1
  rw [e2] at f2
  rw [e3] at f3
  rw [e4] at f4
  change DataW.trod enc Tryd.prog W 0 (fun _ => true) true n 3 (([c0, c1, c2, c3, c4].drop 0).take (Tryd.prog.cellsOf 3)) = some y0 at f0
  rw [cells_int1] at f0
  change DataW.trod enc Tryd.prog W 0 (fun _ => true) true n 3 (([c0, c1, c2, c3, c4].drop 1).take (Tryd.prog.cellsOf 3)) = some y1 at f1
  rw [cells_int1] at f1
  change DataW.trod enc Tryd.prog W 0 (fun _ => true) true n 3 (([c0, c1, c2, c3, c4].drop 2).take (Tryd.prog.cellsOf 3)) = some y2 at f2
  rw [cells_int1] at f2
  change DataW.trod enc Tryd.prog W 0 (fun _ => true) true n 9 (([c0, c1, c2, c3, c4].drop 3).take (Tryd.prog.cellsOf 9)) = some y3 at f3
  rw [cells_string] at f3
  change DataW.trod enc Tryd.prog W 0 (fun _ => true) true n 22 (([c0, c1, c2, c3, c4].drop 4).take (Tryd.prog.cellsOf 22)) = some y4 at f4
  rw [cells_slicef] at f4
  obtain ⟨z0, a0, _, _⟩ := DataW.trod_int Tryd.underlying3 f0
  obtain ⟨z1, a1, _, _⟩ := DataW.trod_int Tryd.underlying3 f1
  obtain ⟨z2, a2, _, _⟩ := DataW.trod_int Tryd.underlying3 f2
  obtain ⟨s3, a3, _, m3⟩ := DataW.trod_string Tryd.underlying9 f3
  obtain ⟨L, hL⟩ := open_fl (c := c4) f4
  simp at a0 a1 a2 a3
  exact ⟨⟨z0, z1, z2, s3.data.toList, L⟩, c4, by rw [a0, a1, a2, a3]; rfl, hL, by rw [Array.length_toList]; exact m3⟩

set_option maxRecDepth 100000 in
/-- A record. -/
theorem open_record {H : Type} {enc : TypeId × Value → H} {W : World} {base : Nat} {v : Value} {d : DataW H} {p : List MemPlace} (hv : Value.okWide Tryd.prog W .any base 24 v)
    (h : DataW.Trod enc Tryd.prog W 0 (fun _ => true) true 24 v d p) : ∃ (r : Rec) (u : Value), v = RV r u ∧ FL u r.fields W := by
  have hh := open_record_l hv h
  exact hh.elim fun r h1 => h1.elim fun u h2 => ⟨r, u, h2.1, h2.2.1⟩
end

section
open Go.RowKit Go.Lib Go.ChangeShapes Go.WideShapes
theorem cells_record : Tryd.prog.cellsOf 24 = 5 := by kernel_rfl
set_option maxRecDepth 100000 in
/-- A record's five cells, and the bound of its language. -/
theorem open_rec5 {H : Type} {enc : TypeId × Value → H} {W : World} {fuel : Nat} {cs : List Value} {x : DataW H × List MemPlace} (hl : cs.length = 5)
    (hf : DataW.trod enc Tryd.prog W 0 (fun _ => true) true fuel 24 cs = some x) : ∃ (r : Rec) (u : Value), cs = [.int .i64 r.id, .int .i64 r.ver, .int .i64 r.kind, .string (S r.lang), u] ∧ FL u r.fields W ∧ r.lang.length ≤ maxLen := by
  obtain ⟨c0, c1, c2, c3, c4, rfl⟩ : ∃ c0 c1 c2 c3 c4, cs = [c0, c1, c2, c3, c4] := by
    match cs, hl with
    | [c0, c1, c2, c3, c4], _ => exact ⟨c0, c1, c2, c3, c4, rfl⟩
  obtain ⟨xs, n, _, _, _, hxl, hfl⟩ := DataW.trod_struct Tryd.underlying24 hf
  have key : ∀ j, j < 5 → ∃ y, xs[j]? = some y := by
    intro j hj
    have hxl5 : xs.length = 5 := hxl.trans rfl
    exact ⟨xs[j]'(by omega), List.getElem?_eq_getElem (by omega)⟩
  have f0 := hfl 0 _ rfl
  have f1 := hfl 1 _ rfl
  have f2 := hfl 2 _ rfl
  have f3 := hfl 3 _ rfl
  have f4 := hfl 4 _ rfl
  obtain ⟨y0, e0⟩ := key 0 (by decide)
  obtain ⟨y1, e1⟩ := key 1 (by decide)
  obtain ⟨y2, e2⟩ := key 2 (by decide)
  obtain ⟨y3, e3⟩ := key 3 (by decide)
  obtain ⟨y4, e4⟩ := key 4 (by decide)
  rw [e0] at f0
  rw [e1] at f1
  rw [e2] at f2
  rw [e3] at f3
  rw [e4] at f4
  change DataW.trod enc Tryd.prog W 0 (fun _ => true) true n 3 (([c0, c1, c2, c3, c4].drop 0).take (Tryd.prog.cellsOf 3)) = some y0 at f0
  rw [cells_int1] at f0
  change DataW.trod enc Tryd.prog W 0 (fun _ => true) true n 3 (([c0, c1, c2, c3, c4].drop 1).take (Tryd.prog.cellsOf 3)) = some y1 at f1
  rw [cells_int1] at f1
  change DataW.trod enc Tryd.prog W 0 (fun _ => true) true n 3 (([c0, c1, c2, c3, c4].drop 2).take (Tryd.prog.cellsOf 3)) = some y2 at f2
  rw [cells_int1] at f2
  change DataW.trod enc Tryd.prog W 0 (fun _ => true) true n 9 (([c0, c1, c2, c3, c4].drop 3).take (Tryd.prog.cellsOf 9)) = some y3 at f3
  rw [cells_string] at f3
  change DataW.trod enc Tryd.prog W 0 (fun _ => true) true n 22 (([c0, c1, c2, c3, c4].drop 4).take (Tryd.prog.cellsOf 22)) = some y4 at f4
  rw [cells_slicef] at f4
  obtain ⟨z0, a0, _, _⟩ := DataW.trod_int Tryd.underlying3 f0
  obtain ⟨z1, a1, _, _⟩ := DataW.trod_int Tryd.underlying3 f1
  obtain ⟨z2, a2, _, _⟩ := DataW.trod_int Tryd.underlying3 f2
  obtain ⟨s3, a3, _, m3⟩ := DataW.trod_string Tryd.underlying9 f3
  obtain ⟨L, hL⟩ := open_fl (c := c4) f4
  simp at a0 a1 a2 a3
  exact ⟨⟨z0, z1, z2, s3.data.toList, L⟩, c4, by rw [a0, a1, a2, a3]; rfl, hL, by rw [Array.length_toList]; exact m3⟩

set_option maxRecDepth 100000 in
/-- A slice of records, and the bounds of their languages. -/
theorem open_rl {H : Type} {enc : TypeId × Value → H} {W : World} {c : Value} {fuel : Nat} {x : DataW H × List MemPlace}
    (hf : DataW.trod enc Tryd.prog W 0 (fun _ => true) true fuel 33 [c] = some x) : ∃ L : List Rec, RL c L W ∧ ∀ r ∈ L, r.lang.length ≤ maxLen := by
  rcases DataW.trod_slice Tryd.underlying33 hf with ⟨hcs, _⟩ | ⟨a, len, cap, elems, rest, n, _, hcs, _, _, hl, hm, hlen, hel, _, _⟩
  · simp only [List.cons.injEq, and_true] at hcs
    subst hcs
    exact ⟨[], RL.nil W, fun r hr => by cases hr⟩
  · simp only [List.cons.injEq, and_true] at hcs
    subst hcs
    obtain ⟨b, off, spot⟩ := a
    have each : ∀ i, i < len → ∃ s : Rec × Value, ((W.cell? ((⟨b, off, spot⟩ : Addr).add (i * 5)) = some (.int .i64 s.1.id) ∧ W.cell? (((⟨b, off, spot⟩ : Addr).add (i * 5)).add 1) = some (.int .i64 s.1.ver) ∧
        W.cell? (((⟨b, off, spot⟩ : Addr).add (i * 5)).add 2) = some (.int .i64 s.1.kind) ∧ W.cell? (((⟨b, off, spot⟩ : Addr).add (i * 5)).add 3) = some (.string (S s.1.lang)) ∧ W.cell? (((⟨b, off, spot⟩ : Addr).add (i * 5)).add 4) = some s.2) ∧ FL s.2 s.1.fields W) ∧ s.1.lang.length ≤ maxLen := by
      intro i hi
      have h := hel i hi
      rw [cells_record] at h
      have hsome : ∃ y, elems[i]? = some y := ⟨elems[i]'(by omega), List.getElem?_eq_getElem (by omega)⟩
      obtain ⟨y, hy⟩ := hsome
      rw [hy, Option.bind_eq_some_iff] at h
      obtain ⟨cs', hcs, hy'⟩ := h
      obtain ⟨_, hl2, hat⟩ := World.cells?_some hcs
      obtain ⟨f, u, hs, hq, hlm⟩ := open_rec5 hl2 hy'
      subst hs
      have a0 := hat 0 (by decide)
      have a1 := hat 1 (by decide)
      have a2 := hat 2 (by decide)
      have a3 := hat 3 (by decide)
      have a4 := hat 4 (by decide)
      have e0 : ((⟨b, off, spot⟩ : Addr).add (i * 5)).add 0 = (⟨b, off, spot⟩ : Addr).add (i * 5) := by
        unfold Addr.add
        split <;> simp_all
      rw [e0] at a0
      exact ⟨(f, u), ⟨⟨a0, a1, a2, a3, a4⟩, hq⟩, hlm⟩
    obtain ⟨F, hF⟩ : ∃ F : Nat → Rec × Value, ∀ i, i < len → ((W.cell? ((⟨b, off, spot⟩ : Addr).add (i * 5)) = some (.int .i64 (F i).1.id) ∧ W.cell? (((⟨b, off, spot⟩ : Addr).add (i * 5)).add 1) = some (.int .i64 (F i).1.ver) ∧
        W.cell? (((⟨b, off, spot⟩ : Addr).add (i * 5)).add 2) = some (.int .i64 (F i).1.kind) ∧ W.cell? (((⟨b, off, spot⟩ : Addr).add (i * 5)).add 3) = some (.string (S (F i).1.lang)) ∧ W.cell? (((⟨b, off, spot⟩ : Addr).add (i * 5)).add 4) = some (F i).2) ∧ FL (F i).2 (F i).1.fields W) ∧ (F i).1.lang.length ≤ maxLen :=
      ⟨fun i => if h : i < len then (each i h).choose else (rec0, .nilIface), fun i hi => by
        have := (each i hi).choose_spec
        simp only [dif_pos hi]
        exact this⟩
    have hl2 : ((List.range len).map fun i => (F i).1).length = len := by simp
    refine ⟨(List.range len).map fun i => (F i).1, ⟨some ⟨b, off, spot⟩, cap, by rw [hl2], by omega, hm, (fun h => by cases h), fun i hi => ?_⟩, fun r hr => ?_⟩
    · rw [hl2] at hi
      have hspot : spot = none := by simpa [Addr.add] using World.cell?_spot (hF 0 (by omega)).1.1.1
      subst hspot
      have hg : ((List.range len).map fun i => (F i).1).getD i rec0 = (F i).1 := by
        rw [List.getD_eq_getElem?_getD, List.getElem?_map, List.getElem?_range hi]
        rfl
      obtain ⟨⟨⟨c0, c1, c2, c3, c4⟩, hq⟩, -⟩ := hF i hi
      have hadd : (⟨b, off, none⟩ : Addr).add (i * 5) = ⟨b, off + i * 5, none⟩ := by unfold Addr.add; split <;> simp_all
      have hadd2 : ∀ k, (⟨b, off + i * 5, none⟩ : Addr).add k = ⟨b, off + i * 5 + k, none⟩ := fun k => by unfold Addr.add; split <;> simp_all
      rw [hadd] at c0 c1 c2 c3 c4
      rw [hadd2] at c1 c2 c3 c4
      rw [hg]
      refine ⟨b, off, _, rfl, ?_, c0, c1, c2, c3, c4, hq⟩
      rcases Nat.lt_or_ge b W.heap.size with hh | hh
      · exact hh
      · simp [World.cell?, Array.getElem?_eq_none hh] at c0
    · obtain ⟨i, hi, rfl⟩ := List.mem_map.1 hr
      exact (hF i (List.mem_range.1 hi)).2
end

end Go.Proofs.YtnfallkeicehiaaDoor
