/- Merged: ArgsR, ArgsL, LA10. -/
import Derived.Test.YtiledacfdaenbaaDoorQ31
import Derived.Test.YtiledacfdaenbaaDoorQ15
import Derived.Test.YtiledacfdaenbaaDoorQ24
namespace Go.Proofs.YtiledacfdaenbaaDoor

section
open Go.RowKit Go.Lib Go.ChangeShapes Go.WideShapes
theorem cells_field : Tryd.prog.cellsOf 49 = 4 := by kernel_rfl
theorem cells_slicef : Tryd.prog.cellsOf 22 = 1 := by kernel_rfl

set_option maxRecDepth 100000 in
/-- A field's four cells. -/
theorem open_fld4 {H : Type} {enc : TypeId × Value → H} {W : World} {fuel : Nat} {cs : List Value} {x : DataW H × List MemPlace} (hl : cs.length = 4)
    (hf : DataW.trod enc Tryd.prog W 0 (fun _ => true) true fuel 49 cs = some x) : ∃ (f : Fld) (u : Value), cs = [.string (S f.tag), .string (S f.ind), u, .int .i64 f.auth] ∧ QL u f.subs W := by
  obtain ⟨c0, c1, c2, c3, rfl⟩ : ∃ c0 c1 c2 c3, cs = [c0, c1, c2, c3] := by
    match cs, hl with
    | [c0, c1, c2, c3], _ => exact ⟨c0, c1, c2, c3, rfl⟩
  obtain ⟨xs, n, _, _, _, hxl, hfl⟩ := DataW.trod_struct Tryd.underlying49 hf
  have key : ∀ j, j < 4 → ∃ y, xs[j]? = some y := by
    intro j hj
    have hxl4 : xs.length = 4 := hxl.trans rfl
    exact ⟨xs[j]'(by omega), List.getElem?_eq_getElem (by omega)⟩
  have f0 := hfl 0 _ rfl
  have f1 := hfl 1 _ rfl
  have f2 := hfl 2 _ rfl
  have f3 := hfl 3 _ rfl
  obtain ⟨y0, e0⟩ := key 0 (by decide)
  obtain ⟨y1, e1⟩ := key 1 (by decide)
  obtain ⟨y2, e2⟩ := key 2 (by decide)
  obtain ⟨y3, e3⟩ := key 3 (by decide)
  rw [e0] at f0
  rw [e1] at f1
  rw [e2] at f2
  rw [e3] at f3
  change DataW.trod enc Tryd.prog W 0 (fun _ => true) true n 9 (([c0, c1, c2, c3].drop 0).take (Tryd.prog.cellsOf 9)) = some y0 at f0
  rw [cells_string] at f0
  change DataW.trod enc Tryd.prog W 0 (fun _ => true) true n 9 (([c0, c1, c2, c3].drop 1).take (Tryd.prog.cellsOf 9)) = some y1 at f1
  rw [cells_string] at f1
  change DataW.trod enc Tryd.prog W 0 (fun _ => true) true n 47 (([c0, c1, c2, c3].drop 2).take (Tryd.prog.cellsOf 47)) = some y2 at f2
  rw [cells_slice1] at f2
  change DataW.trod enc Tryd.prog W 0 (fun _ => true) true n 3 (([c0, c1, c2, c3].drop 3).take (Tryd.prog.cellsOf 3)) = some y3 at f3
  rw [cells_int1] at f3
  obtain ⟨s0, a0, _, _⟩ := DataW.trod_string Tryd.underlying9 f0
  obtain ⟨s1, a1, _, _⟩ := DataW.trod_string Tryd.underlying9 f1
  obtain ⟨z3, a3, _, _⟩ := DataW.trod_int Tryd.underlying3 f3
  obtain ⟨L, hL⟩ := open_ql (c := c2) f2
  simp at a0 a1 a3
  exact ⟨⟨s0.data.toList, s1.data.toList, L, z3⟩, c2, by rw [a0, a1, a3]; rfl, hL⟩

set_option maxRecDepth 100000 in
/-- A slice of fields. -/
theorem open_fl {H : Type} {enc : TypeId × Value → H} {W : World} {c : Value} {fuel : Nat} {x : DataW H × List MemPlace}
    (hf : DataW.trod enc Tryd.prog W 0 (fun _ => true) true fuel 22 [c] = some x) : ∃ L : List Fld, FL c L W := by
  rcases DataW.trod_slice Tryd.underlying22 hf with ⟨hcs, _⟩ | ⟨a, len, cap, elems, rest, n, _, hcs, _, _, hl, hm, hlen, hel, _, _⟩
  · simp only [List.cons.injEq, and_true] at hcs
    subst hcs
    exact ⟨[], none, 0, rfl, Nat.le_refl _, Nat.zero_le _, fun _ => rfl, fun i hi => by cases hi⟩
  · simp only [List.cons.injEq, and_true] at hcs
    subst hcs
    obtain ⟨b, off, spot⟩ := a
    have each : ∀ i, i < len → ∃ s : Fld × Value, (W.cell? ((⟨b, off, spot⟩ : Addr).add (i * 4)) = some (.string (S s.1.tag)) ∧ W.cell? (((⟨b, off, spot⟩ : Addr).add (i * 4)).add 1) = some (.string (S s.1.ind)) ∧
        W.cell? (((⟨b, off, spot⟩ : Addr).add (i * 4)).add 2) = some s.2 ∧ W.cell? (((⟨b, off, spot⟩ : Addr).add (i * 4)).add 3) = some (.int .i64 s.1.auth)) ∧ QL s.2 s.1.subs W := by
      intro i hi
      have h := hel i hi
      rw [cells_field] at h
      have hsome : ∃ y, elems[i]? = some y := ⟨elems[i]'(by omega), List.getElem?_eq_getElem (by omega)⟩
      obtain ⟨y, hy⟩ := hsome
      rw [hy, Option.bind_eq_some_iff] at h
      obtain ⟨cs', hcs, hy'⟩ := h
      obtain ⟨_, hl2, hat⟩ := World.cells?_some hcs
      obtain ⟨f, u, hs, hq⟩ := open_fld4 hl2 hy'
      subst hs
      have a0 := hat 0 (by decide)
      have a1 := hat 1 (by decide)
      have a2 := hat 2 (by decide)
      have a3 := hat 3 (by decide)
      have e0 : ((⟨b, off, spot⟩ : Addr).add (i * 4)).add 0 = (⟨b, off, spot⟩ : Addr).add (i * 4) := by
        unfold Addr.add
        split <;> simp_all
      rw [e0] at a0
      exact ⟨(f, u), ⟨a0, a1, a2, a3⟩, hq⟩
    obtain ⟨F, hF⟩ : ∃ F : Nat → Fld × Value, ∀ i, i < len → (W.cell? ((⟨b, off, spot⟩ : Addr).add (i * 4)) = some (.string (S (F i).1.tag)) ∧ W.cell? (((⟨b, off, spot⟩ : Addr).add (i * 4)).add 1) = some (.string (S (F i).1.ind)) ∧
        W.cell? (((⟨b, off, spot⟩ : Addr).add (i * 4)).add 2) = some (F i).2 ∧ W.cell? (((⟨b, off, spot⟩ : Addr).add (i * 4)).add 3) = some (.int .i64 (F i).1.auth)) ∧ QL (F i).2 (F i).1.subs W :=
      ⟨fun i => if h : i < len then (each i h).choose else (fd0, .nilIface), fun i hi => by
        have := (each i hi).choose_spec
        simp only [dif_pos hi]
        exact this⟩
    have hl2 : ((List.range len).map fun i => (F i).1).length = len := by simp
    refine ⟨(List.range len).map fun i => (F i).1, some ⟨b, off, spot⟩, cap, by rw [hl2], by omega, hm, (fun h => by cases h), fun i hi => ?_⟩
    rw [hl2] at hi
    have hspot : spot = none := by simpa [Addr.add] using World.cell?_spot (hF 0 (by omega)).1.1
    subst hspot
    have hg : ((List.range len).map fun i => (F i).1).getD i fd0 = (F i).1 := by
      rw [List.getD_eq_getElem?_getD, List.getElem?_map, List.getElem?_range hi]
      rfl
    obtain ⟨⟨c0, c1, c2, c3⟩, hq⟩ := hF i hi
    have hadd : (⟨b, off, none⟩ : Addr).add (i * 4) = ⟨b, off + i * 4, none⟩ := by unfold Addr.add; split <;> simp_all
    have hadd2 : ∀ k, (⟨b, off + i * 4, none⟩ : Addr).add k = ⟨b, off + i * 4 + k, none⟩ := fun k => by unfold Addr.add; split <;> simp_all
    rw [hadd] at c0 c1 c2 c3
    rw [hadd2] at c1 c2 c3
    rw [hg]
    refine ⟨b, off, _, rfl, ?_, c0, c1, c2, c3, hq⟩
    rcases Nat.lt_or_ge b W.heap.size with hh | hh
    · exact hh
    · simp [World.cell?, Array.getElem?_eq_none hh] at c0

set_option maxRecDepth 100000 in
/-- A record, and the bound of its language. -/
theorem open_record_l {H : Type} {enc : TypeId × Value → H} {W : World} {base : Nat} {v : Value} {d : DataW H} {p : List MemPlace} (hv : Value.okWide Tryd.prog W .any base 24 v)
    (h : DataW.Trod enc Tryd.prog W 0 (fun _ => true) true 24 v d p) : ∃ (r : Rec) (u : Value), v = RV r u ∧ FL u r.fields W ∧ r.lang.length ≤ maxLen := by
  have hv2 : ∃ cs, v = .agg cs ∧ cs.size = Tryd.prog.cellsOf 24 := by
    unfold Value.okWide at hv
    rw [Tryd.underlying24] at hv
    obtain ⟨cs, h1, h2, _⟩ := hv
    exact ⟨cs, h1, h2⟩
  obtain ⟨cs, rfl, hsz⟩ := hv2
  have hsz5 : cs.size = 5 := hsz.trans (by kernel_rfl)
  obtain ⟨c0, c1, c2, c3, c4, rfl⟩ : ∃ c0 c1 c2 c3 c4, cs = #[c0, c1, c2, c3, c4] := by
    obtain ⟨l⟩ := cs
    match l, hsz5 with
    | [c0, c1, c2, c3, c4], _ => exact ⟨c0, c1, c2, c3, c4, rfl⟩
  obtain ⟨fuel, hf⟩ := h
  obtain ⟨xs, n, _, _, _, hxl, hfl⟩ := DataW.trod_struct Tryd.underlying24 hf
  have key : ∀ j, j < 5 → ∃ y, xs[j]? = some y := by
    intro j hj
    have hxl5 : xs.length = 5 := hxl.trans rfl
    exact ⟨xs[j]'(by omega), List.getElem?_eq_getElem (by omega)⟩
  have f0 := hfl 0 _ rfl
  have f1 := hfl 1 _ rfl
  have f2 := hfl 2 _ rfl
  have f3 := hfl 3 _ rfl
  have f4 := hfl 4 _ rfl
  obtain ⟨y0, e0⟩ := key 0 (by decide)
  obtain ⟨y1, e1⟩ := key 1 (by decide)
  obtain ⟨y2, e2⟩ := key 2 (by decide)
  obtain ⟨y3, e3⟩ := key 3 (by decide)
  obtain ⟨y4, e4⟩ := key 4 (by decide)
  rw [e0] at f0
  rw [e1] at f1
  rw [e2] at f2
  rw [e3] at f3
  rw [e4] at f4
  change DataW.trod enc Tryd.prog W 0 (fun _ => true) true n 3 (([c0, c1, c2, c3, c4].drop 0).take (Tryd.prog.cellsOf 3)) = some y0 at f0
  rw [cells_int1] at f0
  change DataW.trod enc Tryd.prog W 0 (fun _ => true) true n 3 (([c0, c1, c2, c3, c4].drop 1).take (Tryd.prog.cellsOf 3)) = some y1 at f1
  rw [cells_int1] at f1
  change DataW.trod enc Tryd.prog W 0 (fun _ => true) true n 3 (([c0, c1, c2, c3, c4].drop 2).take (Tryd.prog.cellsOf 3)) = some y2 at f2
  rw [cells_int1] at f2
  change DataW.trod enc Tryd.prog W 0 (fun _ => true) true n 9 (([c0, c1, c2, c3, c4].drop 3).take (Tryd.prog.cellsOf 9)) = some y3 at f3
  rw [cells_string] at f3
  change DataW.trod enc Tryd.prog W 0 (fun _ => true) true n 22 (([c0, c1, c2, c3, c4].drop 4).take (Tryd.prog.cellsOf 22)) = some y4 at f4
  rw [cells_slicef] at f4
  obtain ⟨z0, a0, _, _⟩ := DataW.trod_int Tryd.underlying3 f0
  obtain ⟨z1, a1, _, _⟩ := DataW.trod_int Tryd.underlying3 f1
  obtain ⟨z2, a2, _, _⟩ := DataW.trod_int Tryd.underlying3 f2
  obtain ⟨s3, a3, _, m3⟩ := DataW.trod_string Tryd.underlying9 f3
  obtain ⟨L, hL⟩ := open_fl (c := c4) f4
  simp at a0 a1 a2 a3
  exact ⟨⟨z0, z1, z2, s3.data.toList, L⟩, c4, by rw [a0, a1, a2, a3]; rfl, hL, by rw [Array.length_toList]; exact m3⟩

set_option maxRecDepth 100000 in
/-- A record. -/
theorem open_record {H : Type} {enc : TypeId × Value → H} {W : World} {base : Nat} {v : Value} {d : DataW H} {p : List MemPlace} (hv : Value.okWide Tryd.prog W .any base 24 v)
    (h : DataW.Trod enc Tryd.prog W 0 (fun _ => true) true 24 v d p) : ∃ (r : Rec) (u : Value), v = RV r u ∧ FL u r.fields W := by
  have hh := open_record_l hv h
  exact hh.elim fun r h1 => h1.elim fun u h2 => ⟨r, u, h2.1, h2.2.1⟩
end

section
open Go.RowKit Go.Lib Go.ChangeShapes Go.WideShapes
theorem cells_record : Tryd.prog.cellsOf 24 = 5 := by kernel_rfl
set_option maxRecDepth 100000 in
/-- A record's five cells, and the bound of its language. -/
theorem open_rec5 {H : Type} {enc : TypeId × Value → H} {W : World} {fuel : Nat} {cs : List Value} {x : DataW H × List MemPlace} (hl : cs.length = 5)
    (hf : DataW.trod enc Tryd.prog W 0 (fun _ => true) true fuel 24 cs = some x) : ∃ (r : Rec) (u : Value), cs = [.int .i64 r.id, .int .i64 r.ver, .int .i64 r.kind, .string (S r.lang), u] ∧ FL u r.fields W ∧ r.lang.length ≤ maxLen := by
  obtain ⟨c0, c1, c2, c3, c4, rfl⟩ : ∃ c0 c1 c2 c3 c4, cs = [c0, c1, c2, c3, c4] := by
    match cs, hl with
    | [c0, c1, c2, c3, c4], _ => exact ⟨c0, c1, c2, c3, c4, rfl⟩
  obtain ⟨xs, n, _, _, _, hxl, hfl⟩ := DataW.trod_struct Tryd.underlying24 hf
  have key : ∀ j, j < 5 → ∃ y, xs[j]? = some y := by
    intro j hj
    have hxl5 : xs.length = 5 := hxl.trans rfl
    exact ⟨xs[j]'(by omega), List.getElem?_eq_getElem (by omega)⟩
  have f0 := hfl 0 _ rfl
  have f1 := hfl 1 _ rfl
  have f2 := hfl 2 _ rfl
  have f3 := hfl 3 _ rfl
  have f4 := hfl 4 _ rfl
  obtain ⟨y0, e0⟩ := key 0 (by decide)
  obtain ⟨y1, e1⟩ := key 1 (by decide)
  obtain ⟨y2, e2⟩ := key 2 (by decide)
  obtain ⟨y3, e3⟩ := key 3 (by decide)
  obtain ⟨y4, e4⟩ := key 4 (by decide)
  rw [e0] at f0
  rw [e1] at f1
  rw [e2] at f2
  rw [e3] at f3
  rw [e4] at f4
  change DataW.trod enc Tryd.prog W 0 (fun _ => true) true n 3 (([c0, c1, c2, c3, c4].drop 0).take (Tryd.prog.cellsOf 3)) = some y0 at f0
  rw [cells_int1] at f0
  change DataW.trod enc Tryd.prog W 0 (fun _ => true) true n 3 (([c0, c1, c2, c3, c4].drop 1).take (Tryd.prog.cellsOf 3)) = some y1 at f1
  rw [cells_int1] at f1
  change DataW.trod enc Tryd.prog W 0 (fun _ => true) true n 3 (([c0, c1, c2, c3, c4].drop 2).take (Tryd.prog.cellsOf 3)) = some y2 at f2
  rw [cells_int1] at f2
  change DataW.trod enc Tryd.prog W 0 (fun _ => true) true n 9 (([c0, c1, c2, c3, c4].drop 3).take (Tryd.prog.cellsOf 9)) = some y3 at f3
  rw [cells_string] at f3
  change DataW.trod enc Tryd.prog W 0 (fun _ => true) true n 22 (([c0, c1, c2, c3, c4].drop 4).take (Tryd.prog.cellsOf 22)) = some y4 at f4
  rw [cells_slicef] at f4
  obtain ⟨z0, a0, _, _⟩ := DataW.trod_int Tryd.underlying3 f0
  obtain ⟨z1, a1, _, _⟩ := DataW.trod_int Tryd.underlying3 f1
  obtain ⟨z2, a2, _, _⟩ := DataW.trod_int Tryd.underlying3 f2
  obtain ⟨s3, a3, _, m3⟩ := DataW.trod_string Tryd.underlying9 f3
  obtain ⟨L, hL⟩ := open_fl (c := c4) f4
  simp at a0 a1 a2 a3
  exact ⟨⟨z0, z1, z2, s3.data.toList, L⟩, c4, by rw [a0, a1, a2, a3]; rfl, hL, by rw [Array.length_toList]; exact m3⟩

set_option maxRecDepth 100000 in
/-- A slice of records, and the bounds of their languages. -/
theorem open_rl {H : Type} {enc : TypeId × Value → H} {W : World} {c : Value} {fuel : Nat} {x : DataW H × List MemPlace}
    (hf : DataW.trod enc Tryd.prog W 0 (fun _ => true) true fuel 34 [c] = some x) : ∃ L : List Rec, RL c L W ∧ ∀ r ∈ L, r.lang.length ≤ maxLen := by
  rcases DataW.trod_slice Tryd.underlying34 hf with ⟨hcs, _⟩ | ⟨a, len, cap, elems, rest, n, _, hcs, _, _, hl, hm, hlen, hel, _, _⟩
  · simp only [List.cons.injEq, and_true] at hcs
    subst hcs
    exact ⟨[], RL.nil W, fun r hr => by cases hr⟩
  · simp only [List.cons.injEq, and_true] at hcs
    subst hcs
    obtain ⟨b, off, spot⟩ := a
    have each : ∀ i, i < len → ∃ s : Rec × Value, ((W.cell? ((⟨b, off, spot⟩ : Addr).add (i * 5)) = some (.int .i64 s.1.id) ∧ W.cell? (((⟨b, off, spot⟩ : Addr).add (i * 5)).add 1) = some (.int .i64 s.1.ver) ∧
        W.cell? (((⟨b, off, spot⟩ : Addr).add (i * 5)).add 2) = some (.int .i64 s.1.kind) ∧ W.cell? (((⟨b, off, spot⟩ : Addr).add (i * 5)).add 3) = some (.string (S s.1.lang)) ∧ W.cell? (((⟨b, off, spot⟩ : Addr).add (i * 5)).add 4) = some s.2) ∧ FL s.2 s.1.fields W) ∧ s.1.lang.length ≤ maxLen := by
      intro i hi
      have h := hel i hi
      rw [cells_record] at h
      have hsome : ∃ y, elems[i]? = some y := ⟨elems[i]'(by omega), List.getElem?_eq_getElem (by omega)⟩
      obtain ⟨y, hy⟩ := hsome
      rw [hy, Option.bind_eq_some_iff] at h
      obtain ⟨cs', hcs, hy'⟩ := h
      obtain ⟨_, hl2, hat⟩ := World.cells?_some hcs
      obtain ⟨f, u, hs, hq, hlm⟩ := open_rec5 hl2 hy'
      subst hs
      have a0 := hat 0 (by decide)
      have a1 := hat 1 (by decide)
      have a2 := hat 2 (by decide)
      have a3 := hat 3 (by decide)
      have a4 := hat 4 (by decide)
      have e0 : ((⟨b, off, spot⟩ : Addr).add (i * 5)).add 0 = (⟨b, off, spot⟩ : Addr).add (i * 5) := by
        unfold Addr.add
        split <;> simp_all
      rw [e0] at a0
      exact ⟨(f, u), ⟨⟨a0, a1, a2, a3, a4⟩, hq⟩, hlm⟩
    obtain ⟨F, hF⟩ : ∃ F : Nat → Rec × Value, ∀ i, i < len → ((W.cell? ((⟨b, off, spot⟩ : Addr).add (i * 5)) = some (.int .i64 (F i).1.id) ∧ W.cell? (((⟨b, off, spot⟩ : Addr).add (i * 5)).add 1) = some (.int .i64 (F i).1.ver) ∧
        W.cell? (((⟨b, off, spot⟩ : Addr).add (i * 5)).add 2) = some (.int .i64 (F i).1.kind) ∧ W.cell? (((⟨b, off, spot⟩ : Addr).add (i * 5)).add 3) = some (.string (S (F i).1.lang)) ∧ W.cell? (((⟨b, off, spot⟩ : Addr).add (i * 5)).add 4) = some (F i).2) ∧ FL (F i).2 (F i).1.fields W) ∧ (F i).1.lang.length ≤ maxLen :=
      ⟨fun i => if h : i < len then (each i h).choose else (rec0, .nilIface), fun i hi => by
        have := (each i hi).choose_spec
        simp only [dif_pos hi]
        exact this⟩
    have hl2 : ((List.range len).map fun i => (F i).1).length = len := by simp
    refine ⟨(List.range len).map fun i => (F i).1, ⟨some ⟨b, off, spot⟩, cap, by rw [hl2], by omega, hm, (fun h => by cases h), fun i hi => ?_⟩, fun r hr => ?_⟩
    · rw [hl2] at hi
      have hspot : spot = none := by simpa [Addr.add] using World.cell?_spot (hF 0 (by omega)).1.1.1
      subst hspot
      have hg : ((List.range len).map fun i => (F i).1).getD i rec0 = (F i).1 := by
        rw [List.getD_eq_getElem?_getD, List.getElem?_map, List.getElem?_range hi]
        rfl
      obtain ⟨⟨⟨c0, c1, c2, c3, c4⟩, hq⟩, -⟩ := hF i hi
      have hadd : (⟨b, off, none⟩ : Addr).add (i * 5) = ⟨b, off + i * 5, none⟩ := by unfold Addr.add; split <;> simp_all
      have hadd2 : ∀ k, (⟨b, off + i * 5, none⟩ : Addr).add k = ⟨b, off + i * 5 + k, none⟩ := fun k => by unfold Addr.add; split <;> simp_all
      rw [hadd] at c0 c1 c2 c3 c4
      rw [hadd2] at c1 c2 c3 c4
      rw [hg]
      refine ⟨b, off, _, rfl, ?_, c0, c1, c2, c3, c4, hq⟩
      rcases Nat.lt_or_ge b W.heap.size with hh | hh
      · exact hh
      · simp [World.cell?, Array.getElem?_eq_none hh] at c0
    · obtain ⟨i, hi, rfl⟩ := List.mem_map.1 hr
      exact (hF i (List.mem_range.1 hi)).2
end

section
open Go.RowKit Go.PlainAid
set_option maxHeartbeats 8000000 in
set_option maxRecDepth 100000 in
theorem lsame_eq (L : List Rec) (u v : Value) (w : World) (hu : RL u L w) (hv : RL v L w) (hr : ∀ r : Rec, sameRB r r = true) :
    Calls Tryd.prog 20 #[u, v] w fun e w' => e = .returned (.bool true) ∧ Below w.heap.size w w' := by
  have HU := Lib.hid hu
  have HV := Lib.hid hv
  have HRr := Lib.hid hr
  obtain ⟨a, ca, rfl, hc1, hc2⟩ := hu.length
  obtain ⟨b, cb, rfl, -, -⟩ := hv.length
  obtain ⟨n, hn⟩ : ∃ n, L.length = n := ⟨_, rfl⟩
  rw [hn] at HU HV hc1 ⊢
  have hnb : n ≤ 9223372036854775807 := by unfold maxLen at hc2; omega
  have HN := Lib.hid hn
  clear hu hv hn hr hc1 hc2
  go_enter Tryd.func20, Tryd.ntmps20
  go_wp2
  go_loopw [5] (fun i wr => ∃ k : Nat, i = .int .i64 (k : Int) ∧ k ≤ n ∧ RowKit.Hid (Below w.heap.size w wr)) (fun i _ => n - (intOf i).toNat)
  case atStart => exact ⟨0, rfl, Nat.zero_le _, Below.refl _ _⟩
  case round =>
    obtain ⟨k, rfl, hk, HB⟩ := hrel
    by_cases hkn : k < n
    · have i1 : (0 : Int) ≤ (k : Int) := by omega
      have i2 : (k : Int) < (n : Int) := by omega
      obtain ⟨g, o, ca', x, he, hg, c0, c1, c2, c3, c4, hq⟩ := (HU.out.after HB.out).at k (by rw [HN.out]; exact hkn)
      obtain ⟨ha, -, hcp⟩ := Value.slice.inj he
      subst ha hcp
      obtain ⟨g2, o2, cb', y, he2, hg2, d0, d1, d2, d3, d4, hq2⟩ := (HV.out.after HB.out).at k (by rw [HN.out]; exact hkn)
      obtain ⟨hb, -, hcp2⟩ := Value.slice.inj he2
      subst hb hcp2
      obtain ⟨r, hre⟩ : ∃ r, L.getD k rec0 = r := ⟨_, rfl⟩
      rw [hre] at c0 c1 c2 c3 hq d0 d1 d2 d3 hq2
      have cS := fun W h1 h2 => refSame08_any r r x y W h1 h2 true (HRr.out r)
      obtain ⟨ua, uc, rfl, -, -⟩ := hq.length
      obtain ⟨va, vc, rfl, -, -⟩ := hq2.length
      obtain ⟨ul, hul⟩ : ∃ m, r.fields.length = m := ⟨_, rfl⟩
      rw [hul] at hq hq2 c4 d4 cS
      unfold RV at cS
      have H1 : RowKit.Hid (∀ W, Below wr.heap.size wr W → (W.cell? ⟨g, o + k * 5, none⟩ = some (.int .i64 r.id) ∧ W.cell? ⟨g, o + k * 5 + 1, none⟩ = some (.int .i64 r.ver) ∧ W.cell? ⟨g, o + k * 5 + 2, none⟩ = some (.int .i64 r.kind) ∧ W.cell? ⟨g, o + k * 5 + 3, none⟩ = some (.string (S r.lang)) ∧ W.cell? ⟨g, o + k * 5 + 4, none⟩ = some (.slice ua ul uc)) ∧ FL (.slice ua ul uc) r.fields W) := fun W hW =>
        ⟨⟨(hW.cell (p := ⟨g, o + k * 5, none⟩) hg).trans c0, (hW.cell (p := ⟨g, o + k * 5 + 1, none⟩) hg).trans c1, (hW.cell (p := ⟨g, o + k * 5 + 2, none⟩) hg).trans c2, (hW.cell (p := ⟨g, o + k * 5 + 3, none⟩) hg).trans c3, (hW.cell (p := ⟨g, o + k * 5 + 4, none⟩) hg).trans c4⟩, hq.after hW⟩
      have H2 : RowKit.Hid (∀ W, Below wr.heap.size wr W → (W.cell? ⟨g2, o2 + k * 5, none⟩ = some (.int .i64 r.id) ∧ W.cell? ⟨g2, o2 + k * 5 + 1, none⟩ = some (.int .i64 r.ver) ∧ W.cell? ⟨g2, o2 + k * 5 + 2, none⟩ = some (.int .i64 r.kind) ∧ W.cell? ⟨g2, o2 + k * 5 + 3, none⟩ = some (.string (S r.lang)) ∧ W.cell? ⟨g2, o2 + k * 5 + 4, none⟩ = some (.slice va ul vc)) ∧ FL (.slice va ul vc) r.fields W) := fun W hW =>
        ⟨⟨(hW.cell (p := ⟨g2, o2 + k * 5, none⟩) hg2).trans d0, (hW.cell (p := ⟨g2, o2 + k * 5 + 1, none⟩) hg2).trans d1, (hW.cell (p := ⟨g2, o2 + k * 5 + 2, none⟩) hg2).trans d2, (hW.cell (p := ⟨g2, o2 + k * 5 + 3, none⟩) hg2).trans d3, (hW.cell (p := ⟨g2, o2 + k * 5 + 4, none⟩) hg2).trans d4⟩, hq2.after hW⟩
      replace cS := Lib.hid cS
      clear he he2 hre hul c0 c1 c2 c3 c4 d0 d1 d2 d3 d4 hq hq2 hg hg2
      go_upto_region 6 with fail
      apply wp_region_rel (R := fun u v => Below u.heap.size u v) (V := [SPR.eq _ (.slice (some ⟨g, o, none⟩) n ca), SPR.eq _ (.int .i64 (k : Int)), SPR.eq _ (.pointer (some ⟨g, o + k * 5, none⟩)), SPR.eq _ (.agg #[.int .i64 r.id, .int .i64 r.ver, .int .i64 r.kind, .string (S r.lang), .slice ua ul uc]), SPR.eq _ (.slice (some ⟨g2, o2, none⟩) n cb), SPR.eq _ (.int .i64 (k : Int)), SPR.eq _ (.pointer (some ⟨g2, o2 + k * 5, none⟩)), SPR.eq _ (.agg #[.int .i64 r.id, .int .i64 r.ver, .int .i64 r.kind, .string (S r.lang), .slice va ul vc]), SPR.eq _ (.bool true), SPR.eq _ (.bool false)])
      case htrans => exact fun _ _ _ h k => h.trans (k.mono h.size)
      case hdrew => exact (Below.refl _ _).drew
      case hm => kernel_rfl
      case hd => kernel_rfl
      case hb => kernel_rfl
      case hA =>
        intro vs
        simp only [puts, Act.put, List.setIfInBounds_toArray, List.set_cons_zero, List.set_cons_succ]
        exact rfl
      case hob =>
        refine ObsR.cons _ _ _ _ _ _ _ ?o0 (ObsR.cons _ _ _ _ _ _ _ ?o1 (ObsR.cons _ _ _ _ _ _ _ ?o2 (ObsR.cons _ _ _ _ _ _ _ ?o3 (ObsR.cons _ _ _ _ _ _ _ ?o4 (ObsR.cons _ _ _ _ _ _ _ ?o5 (ObsR.cons _ _ _ _ _ _ _ ?o6 (ObsR.cons _ _ _ _ _ _ _ ?o7 (ObsR.cons _ _ _ _ _ _ _ ?o8 (ObsR.cons _ _ _ _ _ _ _ ?o9 (ObsR.nil _ _ _ _ _ _ _))))))))))
        case o0 =>
          intro vs W hw hd K hK
          go_simp
          exact hK.out _ _ rfl (Below.refl _ _)
        case o1 =>
          intro vs W hw hd K hK
          go_simp
          exact hK.out _ _ rfl (Below.refl _ _)
        case o2 =>
          intro vs W hw hd K hK
          have h0 : vs 0 = .slice (some ⟨g, o, none⟩) n ca := hd 0 (by kernel_rfl)
          have h1 : vs 1 = .int .i64 (k : Int) := hd 1 (by kernel_rfl)
          simp only [Nat.reduceAdd, h0, h1] at hK ⊢
          go_simp
          exact hK.out _ _ rfl (Below.refl _ _)
        case o3 =>
          intro vs W hw hd K hK
          have h2 : vs 2 = .pointer (some ⟨g, o + k * 5, none⟩) := hd 2 (by kernel_rfl)
          obtain ⟨⟨k0, k1, k2, k3, k4⟩, -⟩ := H1.out W hw
          simp only [Nat.reduceAdd, h2] at hK ⊢
          go_simp
          exact hK.out _ _ rfl (Below.refl _ _)
        case o4 =>
          intro vs W hw hd K hK
          go_simp
          exact hK.out _ _ rfl (Below.refl _ _)
        case o5 =>
          intro vs W hw hd K hK
          go_simp
          exact hK.out _ _ rfl (Below.refl _ _)
        case o6 =>
          intro vs W hw hd K hK
          have h4 : vs 4 = .slice (some ⟨g2, o2, none⟩) n cb := hd 4 (by kernel_rfl)
          have h5 : vs 5 = .int .i64 (k : Int) := hd 5 (by kernel_rfl)
          simp only [Nat.reduceAdd, h4, h5] at hK ⊢
          go_simp
          exact hK.out _ _ rfl (Below.refl _ _)
        case o7 =>
          intro vs W hw hd K hK
          have h6 : vs 6 = .pointer (some ⟨g2, o2 + k * 5, none⟩) := hd 6 (by kernel_rfl)
          obtain ⟨⟨k0, k1, k2, k3, k4⟩, -⟩ := H2.out W hw
          simp only [Nat.reduceAdd, h6] at hK ⊢
          go_simp
          exact hK.out _ _ rfl (Below.refl _ _)
        case o8 =>
          intro vs W hw hd K hK
          have h3 : vs 3 = .agg #[.int .i64 r.id, .int .i64 r.ver, .int .i64 r.kind, .string (S r.lang), .slice ua ul uc] := hd 3 (by kernel_rfl)
          have h7 : vs 7 = .agg #[.int .i64 r.id, .int .i64 r.ver, .int .i64 r.kind, .string (S r.lang), .slice va ul vc] := hd 7 (by kernel_rfl)
          simp only [Nat.reduceAdd, h3, h7] at hK ⊢
          go_simp
          refine (cS.out W (H1.out W hw).2 (H2.out W hw).2).mono ?_
          rintro e W' ⟨rfl, hb'⟩
          exact hK.out _ _ rfl hb'
        case o9 =>
          intro vs W hw hd K hK
          have h8 : vs 8 = .bool true := hd 8 (by kernel_rfl)
          simp only [Nat.reduceAdd, h8] at hK ⊢
          go_simp
          exact hK.out _ _ rfl (Below.refl _ _)
      case hfin =>
        intro vs W hw hv'
        have e9 : vs 9 = .bool false := hv' 9 (by decide)
        simp only [Nat.reduceAdd, e9]
        have HB2 := Lib.hid (HB.out.trans (hw.mono HB.out.size))
        clear hv' hw e9
        go_wp2
        go_roundw
        case rel => exact ⟨k + 1, by go_num, by omega, HB2⟩
        case measure => simp [intOf]; omega
    · obtain rfl : k = n := by omega
      go_wp2
      go_ret
      exact ⟨rfl, HB.out⟩
end

end Go.Proofs.YtiledacfdaenbaaDoor
