/- Merged: ArgsR, ArgsL, EnvTab, RT14, RD14. -/
import Derived.Test.YthjdopnoophigaaGreatDoorQ40
import Derived.Test.YthjdopnoophigaaGreatDoorQ21
import Derived.Test.YthjdopnoophigaaGreatDoorRows
import Derived.Test.YthjdopnoophigaaGreatDoorQ16
import Derived.Shelf.Vars
import Derived.Lib.LaidU8T
import Derived.Lib.LaidU8
import Derived.PinnedBridge
import Derived.Stop.LaidErr
import Derived.LaidMore
import Derived.LaidLaws
import Derived.Test.YthjdopnoophigaaGreatDoorQ38
import Derived.Test.YthjdopnoophigaaGreatDoorQ03
import Derived.Test.YthjdopnoophigaaGreatDoorQ24
import Derived.Test.YthjdopnoophigaaGreatDoorQ23
import Derived.Test.YthjdopnoophigaaGreatDoorQ11
namespace Go.Proofs.YthjdopnoophigaaGreatDoor

section
open Go.RowKit Go.Lib Go.ChangeShapes Go.WideShapes
theorem cells_field : Tryz.prog.cellsOf 24 = 4 := by kernel_rfl
theorem cells_slicef : Tryz.prog.cellsOf 31 = 1 := by kernel_rfl

set_option maxRecDepth 100000 in
/-- A field's four cells. -/
theorem open_fld4 {H : Type} {enc : TypeId × Value → H} {W : World} {fuel : Nat} {cs : List Value} {x : DataW H × List MemPlace} (hl : cs.length = 4)
    (hf : DataW.trod enc Tryz.prog W 0 (fun _ => true) true fuel 24 cs = some x) : ∃ (f : Fld) (u : Value), cs = [.string (S f.tag), .string (S f.ind), u, .int .i64 f.auth] ∧ QL u f.subs W := by
  obtain ⟨c0, c1, c2, c3, rfl⟩ : ∃ c0 c1 c2 c3, cs = [c0, c1, c2, c3] := by
    match cs, hl with
    | [c0, c1, c2, c3], _ => exact ⟨c0, c1, c2, c3, rfl⟩
  obtain ⟨xs, n, _, _, _, hxl, hfl⟩ := DataW.trod_struct Tryz.underlying24 hf
  have key : ∀ j, j < 4 → ∃ y, xs[j]? = some y := by
    intro j hj
    have hxl4 : xs.length = 4 := hxl.trans rfl
    exact ⟨xs[j]'(by omega), List.getElem?_eq_getElem (by omega)⟩
  have f0 := hfl 0 _ rfl
  have f1 := hfl 1 _ rfl
  have f2 := hfl 2 _ rfl
  have f3 := hfl 3 _ rfl
  obtain ⟨y0, e0⟩ := key 0 (by decide)
  obtain ⟨y1, e1⟩ := key 1 (by decide)
  obtain ⟨y2, e2⟩ := key 2 (by decide)
  obtain ⟨y3, e3⟩ := key 3 (by decide)
  rw [e0] at f0
  rw [e1] at f1
  rw [e2] at f2
  rw [e3] at f3
  change DataW.trod enc Tryz.prog W 0 (fun _ => true) true n 9 (([c0, c1, c2, c3].drop 0).take (Tryz.prog.cellsOf 9)) = some y0 at f0
  rw [cells_string] at f0
  change DataW.trod enc Tryz.prog W 0 (fun _ => true) true n 9 (([c0, c1, c2, c3].drop 1).take (Tryz.prog.cellsOf 9)) = some y1 at f1
  rw [cells_string] at f1
  change DataW.trod enc Tryz.prog W 0 (fun _ => true) true n 22 (([c0, c1, c2, c3].drop 2).take (Tryz.prog.cellsOf 22)) = some y2 at f2
  rw [cells_slice1] at f2
  change DataW.trod enc Tryz.prog W 0 (fun _ => true) true n 3 (([c0, c1, c2, c3].drop 3).take (Tryz.prog.cellsOf 3)) = some y3 at f3
  rw [cells_int1] at f3
  obtain ⟨s0, a0, _, _⟩ := DataW.trod_string Tryz.underlying9 f0
  obtain ⟨s1, a1, _, _⟩ := DataW.trod_string Tryz.underlying9 f1
  obtain ⟨z3, a3, _, _⟩ := DataW.trod_int Tryz.underlying3 f3
  obtain ⟨L, hL⟩ := open_ql (c := c2) f2
  simp at a0 a1 a3
  exact ⟨⟨s0.data.toList, s1.data.toList, L, z3⟩, c2, by rw [a0, a1, a3]; rfl, hL⟩

set_option maxRecDepth 100000 in
/-- A slice of fields. -/
theorem open_fl {H : Type} {enc : TypeId × Value → H} {W : World} {c : Value} {fuel : Nat} {x : DataW H × List MemPlace}
    (hf : DataW.trod enc Tryz.prog W 0 (fun _ => true) true fuel 31 [c] = some x) : ∃ L : List Fld, FL c L W := by
  rcases DataW.trod_slice Tryz.underlying31 hf with ⟨hcs, _⟩ | ⟨a, len, cap, elems, rest, n, _, hcs, _, _, hl, hm, hlen, hel, _, _⟩
  · simp only [List.cons.injEq, and_true] at hcs
    subst hcs
    exact ⟨[], none, 0, rfl, Nat.le_refl _, Nat.zero_le _, fun _ => rfl, fun i hi => by cases hi⟩
  · simp only [List.cons.injEq, and_true] at hcs
    subst hcs
    obtain ⟨b, off, spot⟩ := a
    have each : ∀ i, i < len → ∃ s : Fld × Value, (W.cell? ((⟨b, off, spot⟩ : Addr).add (i * 4)) = some (.string (S s.1.tag)) ∧ W.cell? (((⟨b, off, spot⟩ : Addr).add (i * 4)).add 1) = some (.string (S s.1.ind)) ∧
        W.cell? (((⟨b, off, spot⟩ : Addr).add (i * 4)).add 2) = some s.2 ∧ W.cell? (((⟨b, off, spot⟩ : Addr).add (i * 4)).add 3) = some (.int .i64 s.1.auth)) ∧ QL s.2 s.1.subs W := by
      intro i hi
      have h := hel i hi
      rw [cells_field] at h
      have hsome : ∃ y, elems[i]? = some y := ⟨elems[i]'(by omega), List.getElem?_eq_getElem (by omega)⟩
      obtain ⟨y, hy⟩ := hsome
      rw [hy, Option.bind_eq_some_iff] at h
      obtain ⟨cs', hcs, hy'⟩ := h
      obtain ⟨_, hl2, hat⟩ := World.cells?_some hcs
      obtain ⟨f, u, hs, hq⟩ := open_fld4 hl2 hy'
      subst hs
      have a0 := hat 0 (by decide)
      have a1 := hat 1 (by decide)
      have a2 := hat 2 (by decide)
      have a3 := hat 3 (by decide)
      have e0 : ((⟨b, off, spot⟩ : Addr).add (i * 4)).add 0 = (⟨b, off, spot⟩ : Addr).add (i * 4) := by
        unfold Addr.add
        split <;> simp_all
      rw [e0] at a0
      exact ⟨(f, u), ⟨a0, a1, a2, a3⟩, hq⟩
    obtain ⟨F, hF⟩ : ∃ F : Nat → Fld × Value, ∀ i, i < len → (W.cell? ((⟨b, off, spot⟩ : Addr).add (i * 4)) = some (.string (S (F i).1.tag)) ∧ W.cell? (((⟨b, off, spot⟩ : Addr).add (i * 4)).add 1) = some (.string (S (F i).1.ind)) ∧
        W.cell? (((⟨b, off, spot⟩ : Addr).add (i * 4)).add 2) = some (F i).2 ∧ W.cell? (((⟨b, off, spot⟩ : Addr).add (i * 4)).add 3) = some (.int .i64 (F i).1.auth)) ∧ QL (F i).2 (F i).1.subs W :=
      ⟨fun i => if h : i < len then (each i h).choose else (fd0, .nilIface), fun i hi => by
        have := (each i hi).choose_spec
        simp only [dif_pos hi]
        exact this⟩
    have hl2 : ((List.range len).map fun i => (F i).1).length = len := by simp
    refine ⟨(List.range len).map fun i => (F i).1, some ⟨b, off, spot⟩, cap, by rw [hl2], by omega, hm, (fun h => by cases h), fun i hi => ?_⟩
    rw [hl2] at hi
    have hspot : spot = none := by simpa [Addr.add] using World.cell?_spot (hF 0 (by omega)).1.1
    subst hspot
    have hg : ((List.range len).map fun i => (F i).1).getD i fd0 = (F i).1 := by
      rw [List.getD_eq_getElem?_getD, List.getElem?_map, List.getElem?_range hi]
      rfl
    obtain ⟨⟨c0, c1, c2, c3⟩, hq⟩ := hF i hi
    have hadd : (⟨b, off, none⟩ : Addr).add (i * 4) = ⟨b, off + i * 4, none⟩ := by unfold Addr.add; split <;> simp_all
    have hadd2 : ∀ k, (⟨b, off + i * 4, none⟩ : Addr).add k = ⟨b, off + i * 4 + k, none⟩ := fun k => by unfold Addr.add; split <;> simp_all
    rw [hadd] at c0 c1 c2 c3
    rw [hadd2] at c1 c2 c3
    rw [hg]
    refine ⟨b, off, _, rfl, ?_, c0, c1, c2, c3, hq⟩
    rcases Nat.lt_or_ge b W.heap.size with hh | hh
    · exact hh
    · simp [World.cell?, Array.getElem?_eq_none hh] at c0

set_option maxRecDepth 100000 in
/-- A record, and the bound of its language. -/
theorem open_record_l {H : Type} {enc : TypeId × Value → H} {W : World} {base : Nat} {v : Value} {d : DataW H} {p : List MemPlace} (hv : Value.okWide Tryz.prog W .any base 33 v)
    (h : DataW.Trod enc Tryz.prog W 0 (fun _ => true) true 33 v d p) : ∃ (r : Rec) (u : Value), v = RV r u ∧ FL u r.fields W ∧ r.lang.length ≤ maxLen := by
  have hv2 : ∃ cs, v = .agg cs ∧ cs.size = Tryz.prog.cellsOf 33 := by
    unfold Value.okWide at hv
    rw [Tryz.underlying33] at hv
    obtain ⟨cs, h1, h2, _⟩ := hv
    exact ⟨cs, h1, h2⟩
  obtain ⟨cs, rfl, hsz⟩ := hv2
  have hsz5 : cs.size = 5 := hsz.trans (by kernel_rfl)
  obtain ⟨c0, c1, c2, c3, c4, rfl⟩ : ∃ c0 c1 c2 c3 c4, cs = #[c0, c1, c2, c3, c4] := by
    obtain ⟨l⟩ := cs
    match l, hsz5 with
    | [c0, c1, c2, c3, c4], _ => exact ⟨c0, c1, c2, c3, c4, rfl⟩
  obtain ⟨fuel, hf⟩ := h
  obtain ⟨xs, n, _, _, _, hxl, hfl⟩ := DataW.trod_struct Tryz.underlying33 hf
  have key : ∀ j, j < 5 → ∃ y, xs[j]? = some y := by
    intro j hj
    have hxl5 : xs.length = 5 := hxl.trans rfl
    exact ⟨xs[j]'(by omega), List.getElem?_eq_getElem (by omega)⟩
  have f0 := hfl 0 _ rfl
  have f1 := hfl 1 _ rfl
  have f2 := hfl 2 _ rfl
  have f3 := hfl 3 _ rfl
  have f4 := hfl 4 _ rfl
  obtain ⟨y0, e0⟩ := key 0 (by decide)
  obtain ⟨y1, e1⟩ := key 1 (by decide)
  obtain ⟨y2, e2⟩ := key 2 (by decide)
  obtain ⟨y3, e3⟩ := key 3 (by decide)
  obtain ⟨y4, e4⟩ := key 4 (by decide)
  rw [e0] at f0
  rw [e1] at f1
  rw [e2] at f2
  rw [e3] at f3
  rw [e4] at f4
  change DataW.trod enc Tryz.prog W 0 (fun _ => true) true n 3 (([c0, c1, c2, c3, c4].drop 0).take (Tryz.prog.cellsOf 3)) = some y0 at f0
  rw [cells_int1] at f0
  change DataW.trod enc Tryz.prog W 0 (fun _ => true) true n 3 (([c0, c1, c2, c3, c4].drop 1).take (Tryz.prog.cellsOf 3)) = some y1 at f1
  rw [cells_int1] at f1
  change DataW.trod enc Tryz.prog W 0 (fun _ => true) true n 3 (([c0, c1, c2, c3, c4].drop 2).take (Tryz.prog.cellsOf 3)) = some y2 at f2
  rw [cells_int1] at f2
  change DataW.trod enc Tryz.prog W 0 (fun _ => true) true n 9 (([c0, c1, c2, c3, c4].drop 3).take (Tryz.prog.cellsOf 9)) = some y3 at f3
  rw [cells_string] at f3
  change DataW.trod enc Tryz.prog W 0 (fun _ => true) true n 31 (([c0, c1, c2, c3, c4].drop 4).take (Tryz.prog.cellsOf 31)) = some y4 at f4
  rw [cells_slicef] at f4
  obtain ⟨z0, a0, _, _⟩ := DataW.trod_int Tryz.underlying3 f0
  obtain ⟨z1, a1, _, _⟩ := DataW.trod_int Tryz.underlying3 f1
  obtain ⟨z2, a2, _, _⟩ := DataW.trod_int Tryz.underlying3 f2
  obtain ⟨s3, a3, _, m3⟩ := DataW.trod_string Tryz.underlying9 f3
  obtain ⟨L, hL⟩ := open_fl (c := c4) f4
  simp at a0 a1 a2 a3
  exact ⟨⟨z0, z1, z2, s3.data.toList, L⟩, c4, by rw [a0, a1, a2, a3]; rfl, hL, by rw [Array.length_toList]; exact m3⟩

set_option maxRecDepth 100000 in
/-- A record. -/
theorem open_record {H : Type} {enc : TypeId × Value → H} {W : World} {base : Nat} {v : Value} {d : DataW H} {p : List MemPlace} (hv : Value.okWide Tryz.prog W .any base 33 v)
    (h : DataW.Trod enc Tryz.prog W 0 (fun _ => true) true 33 v d p) : ∃ (r : Rec) (u : Value), v = RV r u ∧ FL u r.fields W := by
  have hh := open_record_l hv h
  exact hh.elim fun r h1 => h1.elim fun u h2 => ⟨r, u, h2.1, h2.2.1⟩
end

section
open Go.RowKit Go.Lib Go.ChangeShapes Go.WideShapes
theorem cells_record : Tryz.prog.cellsOf 33 = 5 := by kernel_rfl
set_option maxRecDepth 100000 in
/-- A record's five cells, and the bound of its language. -/
theorem open_rec5 {H : Type} {enc : TypeId × Value → H} {W : World} {fuel : Nat} {cs : List Value} {x : DataW H × List MemPlace} (hl : cs.length = 5)
    (hf : DataW.trod enc Tryz.prog W 0 (fun _ => true) true fuel 33 cs = some x) : ∃ (r : Rec) (u : Value), cs = [.int .i64 r.id, .int .i64 r.ver, .int .i64 r.kind, .string (S r.lang), u] ∧ FL u r.fields W ∧ r.lang.length ≤ maxLen := by
  obtain ⟨c0, c1, c2, c3, c4, rfl⟩ : ∃ c0 c1 c2 c3 c4, cs = [c0, c1, c2, c3, c4] := by
    match cs, hl with
    | [c0, c1, c2, c3, c4], _ => exact ⟨c0, c1, c2, c3, c4, rfl⟩
  obtain ⟨xs, n, _, _, _, hxl, hfl⟩ := DataW.trod_struct Tryz.underlying33 hf
  have key : ∀ j, j < 5 → ∃ y, xs[j]? = some y := by
    intro j hj
    have hxl5 : xs.length = 5 := hxl.trans rfl
    exact ⟨xs[j]'(by omega), List.getElem?_eq_getElem (by omega)⟩
  have f0 := hfl 0 _ rfl
  have f1 := hfl 1 _ rfl
  have f2 := hfl 2 _ rfl
  have f3 := hfl 3 _ rfl
  have f4 := hfl 4 _ rfl
  obtain ⟨y0, e0⟩ := key 0 (by decide)
  obtain ⟨y1, e1⟩ := key 1 (by decide)
  obtain ⟨y2, e2⟩ := key 2 (by decide)
  obtain ⟨y3, e3⟩ := key 3 (by decide)
  obtain ⟨y4, e4⟩ := key 4 (by decide)
  rw [e0] at f0
  rw [e1] at f1
  rw [e2] at f2
  rw [e3] at f3
  rw [e4] at f4
  change DataW.trod enc Tryz.prog W 0 (fun _ => true) true n 3 (([c0, c1, c2, c3, c4].drop 0).take (Tryz.prog.cellsOf 3)) = some y0 at f0
  rw [cells_int1] at f0
  change DataW.trod enc Tryz.prog W 0 (fun _ => true) true n 3 (([c0, c1, c2, c3, c4].drop 1).take (Tryz.prog.cellsOf 3)) = some y1 at f1
  rw [cells_int1] at f1
  change DataW.trod enc Tryz.prog W 0 (fun _ => true) true n 3 (([c0, c1, c2, c3, c4].drop 2).take (Tryz.prog.cellsOf 3)) = some y2 at f2
  rw [cells_int1] at f2
  change DataW.trod enc Tryz.prog W 0 (fun _ => true) true n 9 (([c0, c1, c2, c3, c4].drop 3).take (Tryz.prog.cellsOf 9)) = some y3 at f3
  rw [cells_string] at f3
  change DataW.trod enc Tryz.prog W 0 (fun _ => true) true n 31 (([c0, c1, c2, c3, c4].drop 4).take (Tryz.prog.cellsOf 31)) = some y4 at f4
  rw [cells_slicef] at f4
  obtain ⟨z0, a0, _, _⟩ := DataW.trod_int Tryz.underlying3 f0
  obtain ⟨z1, a1, _, _⟩ := DataW.trod_int Tryz.underlying3 f1
  obtain ⟨z2, a2, _, _⟩ := DataW.trod_int Tryz.underlying3 f2
  obtain ⟨s3, a3, _, m3⟩ := DataW.trod_string Tryz.underlying9 f3
  obtain ⟨L, hL⟩ := open_fl (c := c4) f4
  simp at a0 a1 a2 a3
  exact ⟨⟨z0, z1, z2, s3.data.toList, L⟩, c4, by rw [a0, a1, a2, a3]; rfl, hL, by rw [Array.length_toList]; exact m3⟩

set_option maxRecDepth 100000 in
/-- A slice of records, and the bounds of their languages. -/
theorem open_rl {H : Type} {enc : TypeId × Value → H} {W : World} {c : Value} {fuel : Nat} {x : DataW H × List MemPlace}
    (hf : DataW.trod enc Tryz.prog W 0 (fun _ => true) true fuel 34 [c] = some x) : ∃ L : List Rec, RL c L W ∧ ∀ r ∈ L, r.lang.length ≤ maxLen := by
  rcases DataW.trod_slice Tryz.underlying34 hf with ⟨hcs, _⟩ | ⟨a, len, cap, elems, rest, n, _, hcs, _, _, hl, hm, hlen, hel, _, _⟩
  · simp only [List.cons.injEq, and_true] at hcs
    subst hcs
    exact ⟨[], RL.nil W, fun r hr => by cases hr⟩
  · simp only [List.cons.injEq, and_true] at hcs
    subst hcs
    obtain ⟨b, off, spot⟩ := a
    have each : ∀ i, i < len → ∃ s : Rec × Value, ((W.cell? ((⟨b, off, spot⟩ : Addr).add (i * 5)) = some (.int .i64 s.1.id) ∧ W.cell? (((⟨b, off, spot⟩ : Addr).add (i * 5)).add 1) = some (.int .i64 s.1.ver) ∧
        W.cell? (((⟨b, off, spot⟩ : Addr).add (i * 5)).add 2) = some (.int .i64 s.1.kind) ∧ W.cell? (((⟨b, off, spot⟩ : Addr).add (i * 5)).add 3) = some (.string (S s.1.lang)) ∧ W.cell? (((⟨b, off, spot⟩ : Addr).add (i * 5)).add 4) = some s.2) ∧ FL s.2 s.1.fields W) ∧ s.1.lang.length ≤ maxLen := by
      intro i hi
      have h := hel i hi
      rw [cells_record] at h
      have hsome : ∃ y, elems[i]? = some y := ⟨elems[i]'(by omega), List.getElem?_eq_getElem (by omega)⟩
      obtain ⟨y, hy⟩ := hsome
      rw [hy, Option.bind_eq_some_iff] at h
      obtain ⟨cs', hcs, hy'⟩ := h
      obtain ⟨_, hl2, hat⟩ := World.cells?_some hcs
      obtain ⟨f, u, hs, hq, hlm⟩ := open_rec5 hl2 hy'
      subst hs
      have a0 := hat 0 (by decide)
      have a1 := hat 1 (by decide)
      have a2 := hat 2 (by decide)
      have a3 := hat 3 (by decide)
      have a4 := hat 4 (by decide)
      have e0 : ((⟨b, off, spot⟩ : Addr).add (i * 5)).add 0 = (⟨b, off, spot⟩ : Addr).add (i * 5) := by
        unfold Addr.add
        split <;> simp_all
      rw [e0] at a0
      exact ⟨(f, u), ⟨⟨a0, a1, a2, a3, a4⟩, hq⟩, hlm⟩
    obtain ⟨F, hF⟩ : ∃ F : Nat → Rec × Value, ∀ i, i < len → ((W.cell? ((⟨b, off, spot⟩ : Addr).add (i * 5)) = some (.int .i64 (F i).1.id) ∧ W.cell? (((⟨b, off, spot⟩ : Addr).add (i * 5)).add 1) = some (.int .i64 (F i).1.ver) ∧
        W.cell? (((⟨b, off, spot⟩ : Addr).add (i * 5)).add 2) = some (.int .i64 (F i).1.kind) ∧ W.cell? (((⟨b, off, spot⟩ : Addr).add (i * 5)).add 3) = some (.string (S (F i).1.lang)) ∧ W.cell? (((⟨b, off, spot⟩ : Addr).add (i * 5)).add 4) = some (F i).2) ∧ FL (F i).2 (F i).1.fields W) ∧ (F i).1.lang.length ≤ maxLen :=
      ⟨fun i => if h : i < len then (each i h).choose else (rec0, .nilIface), fun i hi => by
        have := (each i hi).choose_spec
        simp only [dif_pos hi]
        exact this⟩
    have hl2 : ((List.range len).map fun i => (F i).1).length = len := by simp
    refine ⟨(List.range len).map fun i => (F i).1, ⟨some ⟨b, off, spot⟩, cap, by rw [hl2], by omega, hm, (fun h => by cases h), fun i hi => ?_⟩, fun r hr => ?_⟩
    · rw [hl2] at hi
      have hspot : spot = none := by simpa [Addr.add] using World.cell?_spot (hF 0 (by omega)).1.1.1
      subst hspot
      have hg : ((List.range len).map fun i => (F i).1).getD i rec0 = (F i).1 := by
        rw [List.getD_eq_getElem?_getD, List.getElem?_map, List.getElem?_range hi]
        rfl
      obtain ⟨⟨⟨c0, c1, c2, c3, c4⟩, hq⟩, -⟩ := hF i hi
      have hadd : (⟨b, off, none⟩ : Addr).add (i * 5) = ⟨b, off + i * 5, none⟩ := by unfold Addr.add; split <;> simp_all
      have hadd2 : ∀ k, (⟨b, off + i * 5, none⟩ : Addr).add k = ⟨b, off + i * 5 + k, none⟩ := fun k => by unfold Addr.add; split <;> simp_all
      rw [hadd] at c0 c1 c2 c3 c4
      rw [hadd2] at c1 c2 c3 c4
      rw [hg]
      refine ⟨b, off, _, rfl, ?_, c0, c1, c2, c3, c4, hq⟩
      rcases Nat.lt_or_ge b W.heap.size with hh | hh
      · exact hh
      · simp [World.cell?, Array.getElem?_eq_none hh] at c0
    · obtain ⟨i, hi, rfl⟩ := List.mem_map.1 hr
      exact (hF i (List.mem_range.1 hi)).2
end

section
open Go.RowKit Go.Lib
/-- What every row of this seat lists. -/
def laid3 : List (String × DataW Unit) := Rows.controlMovesRow.laid
theorem std_eq : Rows.laid_library_rules_standard (H := Unit) = .agg (stdL.map dataT) := by kernel_rfl
theorem dataT_inj {H : Type} {a b : Rul} (h : (dataT a : DataW H) = dataT b) : a = b := by
  cases a; cases b
  simp only [dataT, DataW.agg.injEq, List.cons.injEq, DataW.lit.injEq, Lit.string.injEq, Lit.bool.injEq, Lit.int.injEq, and_true, true_and] at h
  obtain ⟨h1, h2, h3, h4, h5, h6, h7⟩ := h
  simp only [Rul.mk.injEq]
  exact ⟨h1, h2, h3, h4, h5, h6, h7⟩
theorem cells_pieces : ∀ (L : List Rul) (cs : List Value), cs.length = L.length * 7 → (∀ i, i < L.length → (cs.drop (i * 7)).take 7 = [.string (S (L.getD i rul0).tag), .bool (L.getD i rul0).rep, .bool (L.getD i rul0).must, .string (S (L.getD i rul0).codes), .string (S (L.getD i rul0).once), .string (S (L.getD i rul0).needs), .int .i64 (L.getD i rul0).auth]) → cs = cellsT L
  | [], cs, hl, _ => List.eq_nil_of_length_eq_zero (by simpa using hl)
  | t :: s, cs, hl, h => by
    have h0 := h 0 (by simp)
    have hr := cells_pieces s (cs.drop 7) (by rw [List.length_drop, hl, List.length_cons]; omega) (fun i hi => by
      have := h (i + 1) (by simpa using hi)
      rw [show (i + 1) * 7 = 7 + i * 7 by omega, ← List.drop_drop] at this
      exact this)
    have e : cs = cs.take 7 ++ cs.drop 7 := (List.take_append_drop 7 cs).symm
    rw [Nat.zero_mul, List.drop_zero] at h0
    rw [e, h0, hr]
    rfl
theorem st_of {W : World} (r : Lib.VarReads Tryz.prog W "library/rules.standard" Rows.laid_library_rules_standard) : ST W := by
  rw [std_eq] at r
  obtain ⟨g, t, cs, fuel, p, hg, ht, hv, hd⟩ := r
  obtain rfl : g = 0 := Option.some.inj (hg.symm.trans (show _ = some 0 by kernel_rfl))
  obtain rfl : t = 109 := Option.some.inj (ht.symm.trans (show _ = some 109 by kernel_rfl))
  obtain ⟨xs, m, _, hx, hlen, hxl, hel⟩ := DataW.trod_array Tryz.underlying109 hd
  have hx1 : xs.map (·.1) = stdL.map dataT := by
    have := congrArg Prod.fst hx
    simpa using this.symm
  have hlen2 : cs.toList.length = 175 := hlen.trans (by kernel_rfl)
  have hc : cs.toList = cellsT stdL := by
    refine cells_pieces stdL cs.toList (by rw [hlen2]; rfl) fun i hi => ?_
    have hi25 : i < 25 := hi
    have h := hel i hi25
    rw [cells_rule] at h
    obtain ⟨y, hy⟩ : ∃ y, xs[i]? = some y := ⟨xs[i]'(by omega), List.getElem?_eq_getElem (by omega)⟩
    rw [hy] at h
    have hl7 : ((cs.toList.drop (i * 7)).take 7).length = 7 := by
      rw [List.length_take, List.length_drop, hlen2]
      omega
    obtain ⟨t, e1, e2⟩ := open_rul7 hl7 h
    have e3 : (xs.map (·.1))[i]? = some (dataT t) := by rw [List.getElem?_map, hy, Option.map_some, e2]
    rw [hx1, List.getElem?_map, List.getElem?_eq_getElem hi, Option.map_some, Option.some.injEq] at e3
    have e4 := dataT_inj e3
    rw [e1, List.getD_eq_getElem?_getD, List.getElem?_eq_getElem hi, Option.getD_some, e4]
  unfold World.var? at hv
  rw [hg] at hv
  simp only [Option.bind_some] at hv
  split at hv
  · rename_i cs' ty fr hh
    obtain rfl := Option.some.inj hv
    exact ⟨_, _, _, hh, hc⟩
  · cases hv
/-- The listed table of folded forms is the chapter's. -/
theorem accents_eq : Rows.laid_library_text_accents (H := Unit) = .agg (accL.map fun x => .lit (.string (enc x))) := by kernel_rfl
theorem accents_type : (Tryz.prog.globals[5]?).map (·.type) = some 198 := by kernel_rfl

theorem acc_of {W : World} (h2 : Lib.VarReads Tryz.prog W "library/text.accents" Rows.laid_library_text_accents) : Acc W := by
  rw [accents_eq] at h2
  have hcells : ∀ i, i < 64 → W.cell? ⟨5, i, none⟩ = some (.string (T (accL.getD i []))) := by
    intro i hi
    obtain ⟨g, t, cs, fuel, p, hg, hty, hvar, hd⟩ := h2
    obtain rfl : g = 5 := Option.some.inj (hg.symm.trans (show _ = some 5 by kernel_rfl))
    obtain rfl := Option.some.inj (accents_type.symm.trans hty)
    obtain ⟨fuel', d, q, hdi, he⟩ := array_elem Tryz.underlying198 hd i hi
    rw [cells_string] at he
    have hl : i < accL.length := hi
    rw [List.getElem?_map, List.getElem?_eq_getElem hl] at hdi
    simp only [Option.map_some, Option.some.injEq] at hdi
    obtain ⟨s, e1, e2, _⟩ := DataW.trod_string Tryz.underlying9 he
    rw [← hdi] at e2
    simp only [Prod.mk.injEq, DataW.lit.injEq, Lit.string.injEq] at e2
    have es : s = T accL[i] := eq_T e2.1.symm
    have e0 := congrArg (·[0]?) e1
    simp only [List.getElem?_take, List.getElem?_drop] at e0
    rw [World.var?_cell hg hvar i, ← Array.getElem?_toList]
    simp only [Nat.mul_one, Nat.add_zero] at e0
    rw [show accL.getD i [] = accL[i] by simp [List.getD, hl]]
    rw [← es]
    simpa using e0
  refine ⟨?_, hcells⟩
  have hc := hcells 0 (by decide)
  rcases Nat.lt_or_ge 5 W.heap.size with hh | hh
  · exact hh
  · simp [World.cell?, Array.getElem?_eq_none hh] at hc
theorem accept_eq : Rows.laid_unicode_utf8_acceptRanges (H := Unit) = acceptData := by kernel_rfl
theorem first_eq : Rows.laid_unicode_utf8_first = firstData := Pinned.utf8First_eq
theorem pows_eq : Rows.laid_internal_strconv_uint64pow10 (H := Unit) = tabData .u64 pow10Tab := by kernel_rfl
theorem key_lt {W : World} {b o : Nat} {v : Value} (hv : W.cell? ⟨b, o, none⟩ = some v) : b < W.heap.size := by
  rcases Nat.lt_or_ge b W.heap.size with hh | hh
  · exact hh
  · simp [World.cell?, Array.getElem?_eq_none hh] at hv
theorem env_of {W : World} (h : laidMet Tryz.prog laid3 W) (hs : W.ShapedOpen Tryz.prog) : Env W := by
  have h3 : laidMet Tryz.prog (("internal/strconv.uint64pow10", Rows.laid_internal_strconv_uint64pow10) :: _) W := laidMet.tail (laidMet.tail h)
  have h4 : laidMet Tryz.prog (("unicode/utf8.acceptRanges", Rows.laid_unicode_utf8_acceptRanges) :: _) W := laidMet.tail h3
  have h5 : laidMet Tryz.prog (("library/rules.standard", Rows.laid_library_rules_standard) :: _) W := laidMet.tail h4
  have h6 : laidMet Tryz.prog (("library/text.accents", Rows.laid_library_text_accents) :: _) W := laidMet.tail h5
  have h7 : laidMet Tryz.prog (("unicode/utf8.first", Rows.laid_unicode_utf8_first) :: _) W := laidMet.tail h6
  have r4 := Lib.laidMet.reads h4 (.head _)
  have r7 := Lib.laidMet.reads h7 (.head _)
  rw [pows_eq] at h3
  rw [accept_eq] at r4
  rw [first_eq] at r7
  have htab : Lib.Utf8Tabs 2 3 W :=
    utf8Tabs_of_readsT (U8Types.of196 Tryz.lays196) ⟨by kernel_rfl, by kernel_rfl, by kernel_rfl, by kernel_rfl, by kernel_rfl, by kernel_rfl, by kernel_rfl⟩ r7 r4
  exact ⟨⟨⟨key_lt (htab.1 0 (by decide)), key_lt (htab.2 0 (by decide)).1⟩, htab⟩, acc_of (Lib.laidMet.reads h6 (.head _)),
    cell_of_shapedOpen_int (P := Tryz.prog) (g := 1) (t := 3) (zero := #[.int .i64 0]) hs (of_decide_eq_true (by kernel_rfl)) (by kernel_rfl) rfl (by kernel_rfl) (by kernel_rfl) Tryz.underlying3,
    tabIs_of_head (g := 4) (t := 190) (e := 139) (n := 20) (by kernel_rfl) (by kernel_rfl) Tryz.underlying190 Tryz.underlying139 (by kernel_rfl) (by kernel_rfl) h3,
    st_of (Lib.laidMet.reads h5 (.head _))⟩
theorem env_ofH {W : World} (h : laidMetH Tryz.prog laid3 W) (hs : W.ShapedOpen Tryz.prog) : Env W := by
  rw [MakeChecks.laidMetH_plain _ _ _ (by kernel_rfl)] at h
  exact env_of h hs
end

section
open Go.RowKit Go.PlainAid
/-- A row of fields whose subfields lie in V is these fields wherever V's blocks and its own stand. -/
theorem FQ.newx {V : World} {B : Nat} {v : Value} {L : List Fld} {w : World} {og : Option Nat} (h : FQ V B v L w) (hV : Below V.heap.size V w) (ho : ∀ k, og = some k → V.heap.size ≤ k ∧ k < B) : NewX 0 og (FL v L) w := by
  intro w' hs hb
  have hbel : Below V.heap.size V { w' with os := V.os, tape := V.tape, output := V.output } :=
    ⟨rfl, rfl, rfl, Nat.le_trans hV.size hs, fun i hi => (hb i (Nat.zero_le _) (Nat.lt_of_lt_of_le hi hV.size) (fun e => by have := ho i e.symm; omega)).trans (hV.block i hi)⟩
  obtain ⟨us, h1, h2, h3⟩ := h
  have h4 : FQ V B v L { w' with os := V.os, tape := V.tape, output := V.output } := ⟨us, h1, own_same h2 (fun i hi hl => hb i (Nat.zero_le _) hl (fun e => by have := ho i e.symm; omega)), h3⟩
  exact h4.fl hbel

def RT (B : Nat) (v : Value) (L : List Rec) (w : World) : Prop :=
  ∃ us : List Value, us.length = L.length ∧ w.ownsRow B 33 5 v L.length (cellsR L us) ∧ ∀ i, i < L.length → NewX 0 v.ownBlock (FL (us.getD i .nilIface) (L.getD i rec0).fields) w
theorem RT.empty (B : Nat) (w : World) (h : B ≤ w.heap.size) : RT B (.slice (some ⟨w.heap.size, 0, none⟩) 0 0) [] (w.alloc (.cells #[] 33)) :=
  ⟨[], rfl, ⟨rfl, .inr ⟨w.heap.size, 0, #[], rfl, h, heap_alloc_new w _, Nat.le_refl _, Nat.zero_le _, rfl, rfl⟩⟩, fun i hi => by cases hi⟩
theorem RT.after {B : Nat} {v : Value} {L : List Rec} {w w' : World} (h : RT B v L w) (hb : Below w.heap.size w w') : RT B v L w' := by
  obtain ⟨us, h1, h2, h3⟩ := h
  exact ⟨us, h1, own_after h2 hb, fun i hi => (h3 i hi).on hb.size (fun j _ hj _ => hb.block j hj)⟩
theorem RT.rl {B : Nat} {v : Value} {L : List Rec} {w : World} (h : RT B v L w) : RL v L w := by
  obtain ⟨us, hl, hown, hq⟩ := h
  exact row_rl hl hown fun i hi => (hq i hi) w (Nat.le_refl _) (fun _ _ _ _ => rfl)
theorem RT.lt {B : Nat} {v : Value} {L : List Rec} {w : World} (h : RT B v L w) : ∀ k, v.ownBlock = some k → B ≤ k ∧ k < w.heap.size := by
  obtain ⟨us, hl, hown, hq⟩ := h
  exact fun k hk => hown.lt k hk
theorem RT.form {B : Nat} {v : Value} {L : List Rec} {w : World} (h : RT B v L w) : ∃ ao cp, v = .slice ao L.length cp := by
  obtain ⟨us, hl, hown, hq⟩ := h
  exact own_form hown
/-- append of one record that has just been laid to such a row. -/
theorem append_rt {ops : Array Oper} {rest : List Oper} {o : Oper} {a : Act} {Q : Exit → Act → World → Prop} (w : World) (hgd : o.guard = none) (s x : Operand)
    (ho : o.op = .call { callee := .builtin .append, args := #[s, x], argTypes := #[34, 34] })
    (B : Nat) (v : Value) (L : List Rec) (r : Rec) (u : Value) (hs : a.eval s = v) (h : RT B v L w) (hX : NewX 0 v.ownBlock (FL u r.fields) w) (hx : a.eval x = .slice (some ⟨w.heap.size, 0, none⟩) 1 1) (hz : L.length ≤ 100000) (hB : B ≤ w.heap.size)
    (N : Nat) (W1 : World) (hNB : N ≤ B) (hb : Below N W1 w)
    (hk : ∀ v' w', RT B v' (L ++ [r]) w' → Below N W1 w' → B ≤ w'.heap.size → wpList Tryz.prog ops Q rest (a.put o.dst v') w') : wpList Tryz.prog ops Q (o :: rest) a (w.alloc (.cells #[.int .i64 r.id, .int .i64 r.ver, .int .i64 r.kind, .string (S r.lang), u] 33)) := by
  obtain ⟨i0, hi, hz0, hz1, hz2⟩ := info_rec
  obtain ⟨us, hl, hown, hq⟩ := h
  have hb1 : Below w.heap.size w (w.alloc (.cells #[.int .i64 r.id, .int .i64 r.ver, .int .i64 r.kind, .string (S r.lang), u] 33)) := (Below.refl _ _).alloc (Nat.le_refl _) _
  have hu : u.oneCell' = true := (hX w (Nat.le_refl _) (fun _ _ _ _ => rfl)).one
  have hown1 := World.ownsRow.alloc hown (.cells #[.int .i64 r.id, .int .i64 r.ver, .int .i64 r.kind, .string (S r.lang), u] 33)
  refine wpList_append_two _ hgd s x 34 ho B 33 i0 (.agg #[.int .i64 0, .int .i64 0, .int .i64 0, .string ⟨#[]⟩, .slice none 0 0]) 5 64 Tryz.underlying34 hi hz0 hz1 hz2 rfl (by decide) v L.length _ hs hown1 ⟨w.heap.size, 0, none⟩ 1 1 [.int .i64 r.id, .int .i64 r.ver, .int .i64 r.kind, .string (S r.lang), u] hx rfl (cells_five w _ _ _ _ _ _) (encR_one r u hu) (by decide) (by unfold maxLen; omega) (by omega) (by simp; omega) ?_
  intro v2 w2 hown2 hg2 hn2 hob
  have hs1 : (w.alloc (.cells #[.int .i64 r.id, .int .i64 r.ver, .int .i64 r.kind, .string (S r.lang), u] 33)).heap.size = w.heap.size + 1 := by simp
  have hmv : ∀ {P : World → Prop}, NewX 0 v.ownBlock P w → NewX 0 v2.ownBlock P w2 := fun hp =>
    (hp.on hb1.size (fun j _ hj _ => hb1.block j hj)).move hg2.size (fun j _ hk hne => hg2.block j hk hne) (hob.imp id fun h => ⟨_, h, Nat.le_refl _⟩)
  refine hk v2 w2 ⟨us ++ [u], by rw [List.length_append, List.length_append, hl]; rfl, ?_, fun i hi => ?_⟩ ?_ (Nat.le_trans (by omega) hg2.size)
  · rw [cellsR_snoc L us r u hl, List.length_append]
    exact hown2
  · rw [getD_app, getD_appR, hl]
    by_cases h1 : i < L.length
    · rw [if_pos h1, if_pos h1]; exact hmv (hq i h1)
    · have : i = L.length := by rw [List.length_append] at hi; simp at hi; omega
      subst this
      rw [if_neg h1, if_neg h1, Nat.sub_self]
      exact hmv hX
  · exact (hb.alloc (by omega) _).grown hg2 (by omega) (fun j hj => Nat.le_trans hNB (hown1.lt j hj).1)
end

section
open Go.RowKit Go.PlainAid
theorem FL.one14 (w : World) (f : Fld) (x : Value) (hq : QL x f.subs w) (W : World) : NW w (some ⟨W.heap.size, 0, none⟩) [f] (W.alloc (.cells #[.string (S f.tag), .string (S f.ind), x, .int .i64 f.auth] 24)) := by
  refine ⟨(fun h => by cases h), fun ad had => ⟨[x], rfl, fun i hi => ?_, fun j u hj => ?_⟩⟩
  · obtain rfl : i = 0 := by simpa using hi
    exact hq
  · obtain rfl := Option.some.inj had
    exact cells_four W _ _ _ _ _ j u hj

theorem map_take {α β : Type} (c : α → β) (d : α) (L : List α) (k : Nat) (hk : k < L.length) : (L.take (k + 1)).map c = (L.take k).map c ++ [c (L.getD k d)] := by
  rw [List.take_succ_eq_append_getElem hk, List.map_append, List.getD_eq_getElem?_getD, List.getElem?_eq_getElem hk]
  rfl
set_option maxHeartbeats 32000000 in
set_option maxRecDepth 100000 in
theorem refTurn_any (a b : Int) (L : List Rec) (u : Value) (w : World) (hu : RL u L w) (hz : L.length ≤ 1000) (hsz : ∀ r ∈ L, r.fields.length ≤ 1000) :
    Calls Tryz.prog 22 #[u, .int .i64 a, .int .i64 b] w fun e w' => ∃ v', e = .returned v' ∧ RL v' (L.map (mapRec (turnX a b))) w' ∧ Below w.heap.size w w' := by
  obtain ⟨Q, hQ⟩ : ∃ Q, (fun (e : Ending) (w' : World) => ∃ v', e = .returned v' ∧ RL v' (L.map (mapRec (turnX a b))) w' ∧ Below w.heap.size w w') = Q := ⟨_, rfl⟩
  rw [hQ]
  have HQ : RowKit.Hid (∀ v' W, RL v' (L.map (mapRec (turnX a b))) W → Below w.heap.size w W → Q (.returned v') W) := by
    rw [← hQ]
    exact fun v' W h1 h2 => ⟨v', rfl, h1, h2⟩
  have HU0 := Lib.hid hu
  have HR0 := Lib.hid (RT.empty w.heap.size w (Nat.le_refl _))
  have HB0 := Lib.hid ((Below.refl w.heap.size w).alloc (Nat.le_refl _) (.cells #[] 33))
  obtain ⟨ua, uc, hua, hcap, hmax⟩ := hu.length
  unfold maxLen at hmax
  subst hua
  have HSz := Lib.hid hsz
  clear hQ hu hsz
  obtain ⟨c, hc⟩ : ∃ c, mapRec (turnX a b) = c := ⟨_, rfl⟩
  have HC := Lib.hid (fun (r : Rec) => (by rw [← hc]; rfl : c r = { r with fields := r.fields.map (turnX a b) }))
  rw [hc] at HQ
  clear hc
  generalize hn : L.length = n at *
  have HN := Lib.hid hn
  clear hn
  have HM0 : RowKit.Hid ((L.take 0).map c = []) := rfl
  go_enter Tryz.func22, Tryz.ntmps22
  go_wp2
  go_loopw [7, 8] (fun s7 s8 wr => ∃ k : Nat, s8 = .int .i64 (k : Int) ∧ k ≤ n ∧ RowKit.Hid (RT w.heap.size s7 ((L.take k).map c) wr) ∧ RowKit.Hid (Below w.heap.size w wr)) (fun _ s8 _ => n - (intOf s8).toNat)
  case atStart => exact ⟨0, rfl, Nat.zero_le _, by rw [HM0.out]; exact HR0.out, HB0.out⟩
  case round =>
    obtain ⟨k, rfl, hk, HR, HB⟩ := hrel
    clear HR0 HB0 HM0
    by_cases hkn : k < n
    · have i1 : (0 : Int) ≤ (k : Int) := by omega
      have i2 : (k : Int) < (n : Int) := by omega
      obtain ⟨wo, hwo⟩ : ∃ wo, wr = wo := ⟨_, rfl⟩
      rw [hwo] at HR HB ⊢
      clear hwo
      obtain ⟨g, o, cap', x, he, hg, c0, c1, c2, c3, c4, hq⟩ := HU0.out.at k (by rw [HN.out]; exact hkn)
      obtain ⟨rfl, -, hcp⟩ := Value.slice.inj he
      subst hcp
      have hmem : L.getD k rec0 ∈ L := by
        rw [List.getD_eq_getElem?_getD, List.getElem?_eq_getElem (by rw [HN.out]; exact hkn)]
        exact List.getElem_mem _
      have hst := map_take c rec0 L k (by rw [HN.out]; exact hkn)
      have hlen : ((L.take k).map c).length ≤ 1000 := by rw [List.length_map, List.length_take]; omega
      obtain ⟨r, hr⟩ : ∃ r, L.getD k rec0 = r := ⟨_, rfl⟩
      rw [hr] at c0 c1 c2 c3 hq hst hmem
      have hm := HSz.out r hmem
      have HCells := Lib.hid (fun (W : World) (h : Below w.heap.size w W) => (⟨(h.cell (p := ⟨g, o + k * 5, none⟩) hg).trans c0, (h.cell (p := ⟨g, o + k * 5 + 1, none⟩) hg).trans c1, (h.cell (p := ⟨g, o + k * 5 + 2, none⟩) hg).trans c2, (h.cell (p := ⟨g, o + k * 5 + 3, none⟩) hg).trans c3, (h.cell (p := ⟨g, o + k * 5 + 4, none⟩) hg).trans c4⟩ :
        W.cell? ⟨g, o + k * 5, none⟩ = some (.int .i64 r.id) ∧ W.cell? ⟨g, o + k * 5 + 1, none⟩ = some (.int .i64 r.ver) ∧ W.cell? ⟨g, o + k * 5 + 2, none⟩ = some (.int .i64 r.kind) ∧ W.cell? ⟨g, o + k * 5 + 3, none⟩ = some (.string (S r.lang)) ∧ W.cell? ⟨g, o + k * 5 + 4, none⟩ = some x))
      have hcr := HC.out r
      obtain ⟨cr, hcc⟩ : ∃ cr, c r = cr := ⟨_, rfl⟩
      rw [hcc] at hcr hst
      have HFq := Lib.hid hq
      obtain ⟨ax, cx, hxv, hfc, hfm⟩ := hq.length
      unfold maxLen at hfm
      subst hxv
      obtain ⟨M, hM⟩ : ∃ M, (L.take k).map c = M := ⟨_, rfl⟩
      rw [hM] at hst hlen HR
      have HSt := Lib.hid hst
      have HLen := Lib.hid hlen
      have HCr := Lib.hid hcr
      obtain ⟨F, hF⟩ : ∃ F, r.fields = F := ⟨_, rfl⟩
      have HCf : RowKit.Hid (cr.fields = F.map (turnX a b)) := by unfold RowKit.Hid; rw [hcr, ← hF]
      have HCi : RowKit.Hid (cr.id = r.id ∧ cr.ver = r.ver ∧ cr.kind = r.kind ∧ cr.lang = r.lang) := by unfold RowKit.Hid; rw [hcr]; exact ⟨rfl, rfl, rfl, rfl⟩
      rw [hF] at HCells HFq hm hfc
      have hcW := fun (a' : Option Addr) (n' c' : Nat) (W : World) => refWith_any r ax a' F.length cx n' c' W
      obtain ⟨e1, e2, e3, e4⟩ := HCi.out
      unfold RV at hcW
      simp only [← e1, ← e2, ← e3, ← e4] at hcW
      rw [← e1, ← e2, ← e3, ← e4] at HCells
      have cW := Lib.hid hcW
      clear hcW e1 e2 e3 e4 HCi
      clear he hg c0 c1 c2 c3 c4 hq hst hmem hr hM hlen hcr hcc hF
      generalize hmm : F.length = m at *
      have HMm := Lib.hid hmm
      clear hmm
      have HF0 := Lib.hid (FQ.empty w wo wo.heap.size (Nat.le_refl _))
      have HBo := Lib.hid ((Below.refl wo.heap.size wo).alloc (Nat.le_refl _) (.cells #[] 24))
      have HT0 : RowKit.Hid ((F.take 0).map (turnX a b) = []) := rfl
      go_wp2
      go_loopw [9, 10] (fun s9 s10 wi => ∃ j : Nat, s10 = .int .i64 (j : Int) ∧ j ≤ m ∧ RowKit.Hid (FQ w wo.heap.size s9 ((F.take j).map (turnX a b)) wi) ∧ RowKit.Hid (Below wo.heap.size wo wi)) (fun _ s10 _ => m - (intOf s10).toNat)
      case atStart => exact ⟨0, rfl, Nat.zero_le _, by rw [HT0.out]; exact HF0.out, HBo.out⟩
      case round =>
        obtain ⟨j, rfl, hj, HF, HI⟩ := hrel
        clear HF0 HBo HT0
        have HIw := Lib.hid (HB.out.trans (HI.out.mono HB.out.size))
        obtain ⟨d0, d1, d2, d3, d4⟩ := HCells.out wr HIw.out
        by_cases hjm : j < m
        · have j1 : (0 : Int) ≤ (j : Int) := by omega
          have j2 : (j : Int) < (m : Int) := by omega
          obtain ⟨gf, of, capf, y, hef, hgf, f0, f1, f2, f3, hqf⟩ := HFq.out.at j (by rw [HMm.out]; exact hjm)
          obtain ⟨rfl, -, hcpf⟩ := Value.slice.inj hef
          have f0 := (HIw.out.cell (p := ⟨gf, of + j * 4, none⟩) hgf).trans f0
          have f1 := (HIw.out.cell (p := ⟨gf, of + j * 4 + 1, none⟩) hgf).trans f1
          have f2 := (HIw.out.cell (p := ⟨gf, of + j * 4 + 2, none⟩) hgf).trans f2
          have f3 := (HIw.out.cell (p := ⟨gf, of + j * 4 + 3, none⟩) hgf).trans f3
          have hsn := map_take (turnX a b) fd0 F j (by rw [HMm.out]; exact hjm)
          have hln : ((F.take j).map (turnX a b)).length ≤ 1000 := by rw [List.length_map, List.length_take]; omega
          obtain ⟨f, hf⟩ : ∃ f, F.getD j fd0 = f := ⟨_, rfl⟩
          rw [hf] at f0 f1 f3 hqf hsn
          have hsub : (turnX a b f).subs = f.subs := by unfold turnX; split <;> rfl
          have htag : (turnX a b f).tag = f.tag := by unfold turnX; split <;> rfl
          have hind : (turnX a b f).ind = f.ind := by unfold turnX; split <;> rfl
          have haut : (turnX a b f).auth = if 0 < a ∧ f.auth = a then b else f.auth := by unfold turnX; split <;> rfl
          obtain ⟨t, ht⟩ : ∃ t, turnX a b f = t := ⟨_, rfl⟩
          rw [ht] at hsub htag hind haut hsn
          rw [← hsub] at hqf
          rw [← htag] at f0
          rw [← hind] at f1
          obtain ⟨ay, cy, hyv, -, -⟩ := hqf.length
          obtain ⟨N, hN⟩ : ∃ N, (F.take j).map (turnX a b) = N := ⟨_, rfl⟩
          rw [hN] at hsn hln HF
          have HSn := Lib.hid hsn
          have HLn := Lib.hid hln
          have HAu := Lib.hid haut
          have HOne := Lib.hid (fun W => FL.one14 w t _ hqf W)
          obtain ⟨wb, hwb⟩ : ∃ W, wr.alloc (.cells #[.string (S t.tag), .string (S t.ind), y, .int .i64 f.auth] 24) = W := ⟨_, rfl⟩
          have bb : Below wr.heap.size wr wb := by rw [← hwb]; exact (Below.refl _ _).alloc (Nat.le_refl _) _
          have hFx : wb.heap[wr.heap.size]? = some (.cells #[.string (S t.tag), .string (S t.ind), y, .int .i64 f.auth] 24 (0, 0)) := by rw [← hwb]; exact heap_alloc_new wr _
          have HWb := Lib.hid hwb
          subst hyv
          obtain ⟨bx, hbx⟩ : ∃ b, wr.heap.size = b := ⟨_, rfl⟩
          rw [hbx] at hFx
          clear hef hcpf hgf hf hsn hln haut hwb hqf hsub htag hind ht hN
          go_upto_region 10 with fail
          rw [HWb.out]
          obtain ⟨⟨q0, q1, q2, q3⟩, z0, z1, z2, z3⟩ := fcells4 hFx
          by_cases ha : 0 < a ∧ f.auth = a
          · have hau := HAu.out
            rw [if_pos ha] at hau
            have d5 : decide (0 < a) = true := decide_eq_true ha.1
            have d6 : (f.auth == a) = true := by simpa using ha.2
            obtain ⟨W9, hW9⟩ : ∃ W, setF4 wb bx (.string (S t.tag)) (.string (S t.ind)) (.slice ay t.subs.length cy) (.int .i64 b) = W := ⟨_, rfl⟩
            have b9 : Below wr.heap.size wr W9 := by rw [← hW9]; exact setF4_below bb (by omega) _ _ _ _
            have hX9 : W9.heap[bx]? = some (.cells #[.string (S t.tag), .string (S t.ind), .slice ay t.subs.length cy, .int .i64 t.auth] 24 (0, 0)) := by rw [← hW9, hau]; exact setF4_heap hFx
            have HW9 := Lib.hid hW9
            unfold setF4 at HW9
            clear ha hW9 hFx HWb HAu hau bb
            go_upto_region 12 with fail
            try rw [hbx]
            rw [HW9.out]
            clear HW9 q0 q1 q2 q3 z0 z1 z2 z3 d5 d6 hbx
            obtain ⟨⟨y0, y1, y2, y3⟩, -⟩ := fcells4 hX9
            have bc := b9.alloc b9.size (.cells #[.string (S t.tag), .string (S t.ind), .slice ay t.subs.length cy, .int .i64 t.auth] 24)
            have HFc := Lib.hid (HF.out.after bc)
            have HBc := Lib.hid (HI.out.trans (bc.mono HI.out.size))
            have HNW := Lib.hid (HOne.out W9)
            have HL1 : RowKit.Hid (N.length + [t].length ≤ 100000) := by have := HLn.out; unfold RowKit.Hid; rw [List.length_singleton]; omega
            clear HF HI HIw hX9 b9 bc d0 d1 d2 d3 d4 f0 f1 f2 f3
            generalize t.subs.length = tn at *
            generalize S t.tag = t0 at *
            generalize S t.ind = t1 at *
            generalize t.auth = t3 at *
            go_wp2_with (at_builtin; refine append_fr _ rfl _ _ rfl w wo.heap.size u9 N rfl HFc.out (some ⟨W9.heap.size, 0, none⟩) [t] 1 1 rfl rfl (fun h => by cases h) HNW.out HL1.out HBc.out.size wo.heap.size wo (Nat.le_refl _) HBc.out ?_; intro v2 w2 hfr2 hb2 hB2 hn2)
            have HFR2 := Lib.hid hfr2
            have HB2 := Lib.hid hb2
            clear hfr2 hb2 hB2 hn2 HFc HBc HNW
            go_wp2
            go_roundw
            case rel => exact ⟨j + 1, by go_num, by omega, by rw [HSn.out]; exact HFR2.out, HB2.out⟩
            case measure => simp [intOf]; omega
          · have hau := HAu.out
            rw [if_neg ha] at hau
            obtain ⟨W9, hW9⟩ : ∃ W, wb = W := ⟨_, rfl⟩
            have b9 : Below wr.heap.size wr W9 := by rw [← hW9]; exact bb
            have hX9 : W9.heap[bx]? = some (.cells #[.string (S t.tag), .string (S t.ind), .slice ay t.subs.length cy, .int .i64 t.auth] 24 (0, 0)) := by rw [← hW9, hau]; exact hFx
            by_cases h0 : 0 < a
            · have d5 : decide (0 < a) = true := decide_eq_true h0
              have d6 : (f.auth == a) = false := by
                have : ¬ f.auth = a := fun h => ha ⟨h0, h⟩
                simpa using this
              have HW9 := Lib.hid hW9
              clear ha h0 hW9 hFx HWb HAu hau bb
              go_upto_region 12 with fail
              try rw [hbx]
              rw [HW9.out]
              clear HW9 q0 q1 q2 q3 z0 z1 z2 z3 d5 d6 hbx
              obtain ⟨⟨y0, y1, y2, y3⟩, -⟩ := fcells4 hX9
              have bc := b9.alloc b9.size (.cells #[.string (S t.tag), .string (S t.ind), .slice ay t.subs.length cy, .int .i64 t.auth] 24)
              have HFc := Lib.hid (HF.out.after bc)
              have HBc := Lib.hid (HI.out.trans (bc.mono HI.out.size))
              have HNW := Lib.hid (HOne.out W9)
              have HL1 : RowKit.Hid (N.length + [t].length ≤ 100000) := by have := HLn.out; unfold RowKit.Hid; rw [List.length_singleton]; omega
              clear HF HI HIw hX9 b9 bc d0 d1 d2 d3 d4 f0 f1 f2 f3
              generalize t.subs.length = tn at *
              generalize S t.tag = t0 at *
              generalize S t.ind = t1 at *
              generalize t.auth = t3 at *
              go_wp2_with (at_builtin; refine append_fr _ rfl _ _ rfl w wo.heap.size u9 N rfl HFc.out (some ⟨W9.heap.size, 0, none⟩) [t] 1 1 rfl rfl (fun h => by cases h) HNW.out HL1.out HBc.out.size wo.heap.size wo (Nat.le_refl _) HBc.out ?_; intro v2 w2 hfr2 hb2 hB2 hn2)
              have HFR2 := Lib.hid hfr2
              have HB2 := Lib.hid hb2
              clear hfr2 hb2 hB2 hn2 HFc HBc HNW
              go_wp2
              go_roundw
              case rel => exact ⟨j + 1, by go_num, by omega, by rw [HSn.out]; exact HFR2.out, HB2.out⟩
              case measure => simp [intOf]; omega
            · have d5 : decide (0 < a) = false := decide_eq_false h0
              have HW9 := Lib.hid hW9
              clear ha h0 hW9 hFx HWb HAu hau bb
              go_upto_region 12 with fail
              try rw [hbx]
              rw [HW9.out]
              clear HW9 q0 q1 q2 q3 z0 z1 z2 z3 d5 hbx
              obtain ⟨⟨y0, y1, y2, y3⟩, -⟩ := fcells4 hX9
              have bc := b9.alloc b9.size (.cells #[.string (S t.tag), .string (S t.ind), .slice ay t.subs.length cy, .int .i64 t.auth] 24)
              have HFc := Lib.hid (HF.out.after bc)
              have HBc := Lib.hid (HI.out.trans (bc.mono HI.out.size))
              have HNW := Lib.hid (HOne.out W9)
              have HL1 : RowKit.Hid (N.length + [t].length ≤ 100000) := by have := HLn.out; unfold RowKit.Hid; rw [List.length_singleton]; omega
              clear HF HI HIw hX9 b9 bc d0 d1 d2 d3 d4 f0 f1 f2 f3
              generalize t.subs.length = tn at *
              generalize S t.tag = t0 at *
              generalize S t.ind = t1 at *
              generalize t.auth = t3 at *
              go_wp2_with (at_builtin; refine append_fr _ rfl _ _ rfl w wo.heap.size u9 N rfl HFc.out (some ⟨W9.heap.size, 0, none⟩) [t] 1 1 rfl rfl (fun h => by cases h) HNW.out HL1.out HBc.out.size wo.heap.size wo (Nat.le_refl _) HBc.out ?_; intro v2 w2 hfr2 hb2 hB2 hn2)
              have HFR2 := Lib.hid hfr2
              have HB2 := Lib.hid hb2
              clear hfr2 hb2 hB2 hn2 HFc HBc HNW
              go_wp2
              go_roundw
              case rel => exact ⟨j + 1, by go_num, by omega, by rw [HSn.out]; exact HFR2.out, HB2.out⟩
              case measure => simp [intOf]; omega
        · obtain rfl : j = m := by omega
          have hT : F.take j = F := by rw [← HMm.out, List.take_length]
          rw [hT] at HF
          obtain ⟨us, hul, hown, -⟩ := id HF.out
          obtain ⟨af, cf, hu9⟩ := own_form hown
          have hml : (F.map (turnX a b)).length = j := by rw [List.length_map]; exact HMm.out
          rw [hml] at hu9
          subst hu9
          have cw := Lib.hid (cW.out af j cf wr)
          clear hT hul hown hml
          go_wp2_with fail
          refine cw.out.mono ?_
          rintro e w6 ⟨rfl, hb6⟩
          have HB6 := Lib.hid (HI.out.trans (hb6.mono HI.out.size))
          have hbw6 := HIw.out.trans (hb6.mono HIw.out.size)
          have HX6 : RowKit.Hid (NewX 0 u7.ownBlock (FL (.slice af j cf) cr.fields) w6) := by
            rw [HCf.out]
            exact (HF.out.after hb6).newx hbw6 HR.out.lt
          have HR6 := Lib.hid (HR.out.after HB6.out)
          have HW6 := Lib.hid hbw6
          clear hb6 hbw6 cw HF HI HIw HR d0 d1 d2 d3 d4
          go_wp2_with (at_builtin; refine append_rt _ rfl _ _ rfl w.heap.size u7 M cr (.slice af j cf) rfl HR6.out HX6.out rfl (by have := HLen.out; omega) HW6.out.size w.heap.size w (Nat.le_refl _) HW6.out ?_; intro v2 w2 hr2 hb2 hB2)
          have HR2 := Lib.hid hr2
          have HB2 := Lib.hid hb2
          clear hr2 hb2 hB2 HR6 HX6 HW6 HB6
          go_wp2
          go_roundw
          case rel => exact ⟨k + 1, by go_num, by omega, by rw [HSt.out]; exact HR2.out, HB2.out⟩
          case measure => simp [intOf]; omega
    · obtain rfl : k = n := by omega
      have hT : L.take k = L := by rw [← HN.out, List.take_length]
      rw [hT] at HR
      have HG := Lib.hid (HQ.out _ wr HR.out.rl HB.out)
      clear HR HB HQ
      go_wp2
      first | exact HG.out | (go_ret; exact HG.out)
end

end Go.Proofs.YthjdopnoophigaaGreatDoor
