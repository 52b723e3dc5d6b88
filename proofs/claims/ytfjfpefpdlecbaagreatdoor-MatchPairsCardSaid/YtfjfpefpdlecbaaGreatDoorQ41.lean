/- Merged: ArgsL, ArgsM, EnvTab, LC15. -/
import Derived.Test.YtfjfpefpdlecbaaGreatDoorQ40
import Derived.Test.YtfjfpefpdlecbaaGreatDoorQ16
import Derived.Test.YtfjfpefpdlecbaaGreatDoorQ15
import Derived.Test.YtfjfpefpdlecbaaGreatDoorRows
import Derived.Test.YtfjfpefpdlecbaaGreatDoorQ22
import Derived.Shelf.Vars
import Derived.Lib.LaidU8T
import Derived.Lib.LaidU8
import Derived.PinnedBridge
import Derived.Stop.LaidErr
import Derived.LaidMore
import Derived.LaidLaws
namespace Go.Proofs.YtfjfpefpdlecbaaGreatDoor

section
open Go.RowKit Go.Lib Go.ChangeShapes Go.WideShapes
theorem cells_record : Tryz.prog.cellsOf 33 = 5 := by kernel_rfl
set_option maxRecDepth 100000 in
/-- A record's five cells, and the bound of its language. -/
theorem open_rec5 {H : Type} {enc : TypeId × Value → H} {W : World} {fuel : Nat} {cs : List Value} {x : DataW H × List MemPlace} (hl : cs.length = 5)
    (hf : DataW.trod enc Tryz.prog W 0 (fun _ => true) true fuel 33 cs = some x) : ∃ (r : Rec) (u : Value), cs = [.int .i64 r.id, .int .i64 r.ver, .int .i64 r.kind, .string (S r.lang), u] ∧ FL u r.fields W ∧ r.lang.length ≤ maxLen := by
  obtain ⟨c0, c1, c2, c3, c4, rfl⟩ : ∃ c0 c1 c2 c3 c4, cs = [c0, c1, c2, c3, c4] := by
    match cs, hl with
    | [c0, c1, c2, c3, c4], _ => exact ⟨c0, c1, c2, c3, c4, rfl⟩
  obtain ⟨xs, n, _, _, _, hxl, hfl⟩ := DataW.trod_struct Tryz.underlying33 hf
  have key : ∀ j, j < 5 → ∃ y, xs[j]? = some y := by
    intro j hj
    have hxl5 : xs.length = 5 := hxl.trans rfl
    exact ⟨xs[j]'(by omega), List.getElem?_eq_getElem (by omega)⟩
  have f0 := hfl 0 _ rfl
  have f1 := hfl 1 _ rfl
  have f2 := hfl 2 _ rfl
  have f3 := hfl 3 _ rfl
  have f4 := hfl 4 _ rfl
  obtain ⟨y0, e0⟩ := key 0 (by decide)
  obtain ⟨y1, e1⟩ := key 1 (by decide)
  obtain ⟨y2, e2⟩ := key 2 (by decide)
  obtain ⟨y3, e3⟩ := key 3 (by decide)
  obtain ⟨y4, e4⟩ := key 4 (by decide)
  rw [e0] at f0
  rw [e1] at f1
  rw [e2] at f2
  rw [e3] at f3
  rw [e4] at f4
  change DataW.trod enc Tryz.prog W 0 (fun _ => true) true n 3 (([c0, c1, c2, c3, c4].drop 0).take (Tryz.prog.cellsOf 3)) = some y0 at f0
  rw [cells_int1] at f0
  change DataW.trod enc Tryz.prog W 0 (fun _ => true) true n 3 (([c0, c1, c2, c3, c4].drop 1).take (Tryz.prog.cellsOf 3)) = some y1 at f1
  rw [cells_int1] at f1
  change DataW.trod enc Tryz.prog W 0 (fun _ => true) true n 3 (([c0, c1, c2, c3, c4].drop 2).take (Tryz.prog.cellsOf 3)) = some y2 at f2
  rw [cells_int1] at f2
  change DataW.trod enc Tryz.prog W 0 (fun _ => true) true n 9 (([c0, c1, c2, c3, c4].drop 3).take (Tryz.prog.cellsOf 9)) = some y3 at f3
  rw [cells_string] at f3
  change DataW.trod enc Tryz.prog W 0 (fun _ => true) true n 31 (([c0, c1, c2, c3, c4].drop 4).take (Tryz.prog.cellsOf 31)) = some y4 at f4
  rw [cells_slicef] at f4
  obtain ⟨z0, a0, _, _⟩ := DataW.trod_int Tryz.underlying3 f0
  obtain ⟨z1, a1, _, _⟩ := DataW.trod_int Tryz.underlying3 f1
  obtain ⟨z2, a2, _, _⟩ := DataW.trod_int Tryz.underlying3 f2
  obtain ⟨s3, a3, _, m3⟩ := DataW.trod_string Tryz.underlying9 f3
  obtain ⟨L, hL⟩ := open_fl (c := c4) f4
  simp at a0 a1 a2 a3
  exact ⟨⟨z0, z1, z2, s3.data.toList, L⟩, c4, by rw [a0, a1, a2, a3]; rfl, hL, by rw [Array.length_toList]; exact m3⟩

set_option maxRecDepth 100000 in
/-- A slice of records, and the bounds of their languages. -/
theorem open_rl {H : Type} {enc : TypeId × Value → H} {W : World} {c : Value} {fuel : Nat} {x : DataW H × List MemPlace}
    (hf : DataW.trod enc Tryz.prog W 0 (fun _ => true) true fuel 43 [c] = some x) : ∃ L : List Rec, RL c L W ∧ ∀ r ∈ L, r.lang.length ≤ maxLen := by
  rcases DataW.trod_slice Tryz.underlying43 hf with ⟨hcs, _⟩ | ⟨a, len, cap, elems, rest, n, _, hcs, _, _, hl, hm, hlen, hel, _, _⟩
  · simp only [List.cons.injEq, and_true] at hcs
    subst hcs
    exact ⟨[], RL.nil W, fun r hr => by cases hr⟩
  · simp only [List.cons.injEq, and_true] at hcs
    subst hcs
    obtain ⟨b, off, spot⟩ := a
    have each : ∀ i, i < len → ∃ s : Rec × Value, ((W.cell? ((⟨b, off, spot⟩ : Addr).add (i * 5)) = some (.int .i64 s.1.id) ∧ W.cell? (((⟨b, off, spot⟩ : Addr).add (i * 5)).add 1) = some (.int .i64 s.1.ver) ∧
        W.cell? (((⟨b, off, spot⟩ : Addr).add (i * 5)).add 2) = some (.int .i64 s.1.kind) ∧ W.cell? (((⟨b, off, spot⟩ : Addr).add (i * 5)).add 3) = some (.string (S s.1.lang)) ∧ W.cell? (((⟨b, off, spot⟩ : Addr).add (i * 5)).add 4) = some s.2) ∧ FL s.2 s.1.fields W) ∧ s.1.lang.length ≤ maxLen := by
      intro i hi
      have h := hel i hi
      rw [cells_record] at h
      have hsome : ∃ y, elems[i]? = some y := ⟨elems[i]'(by omega), List.getElem?_eq_getElem (by omega)⟩
      obtain ⟨y, hy⟩ := hsome
      rw [hy, Option.bind_eq_some_iff] at h
      obtain ⟨cs', hcs, hy'⟩ := h
      obtain ⟨_, hl2, hat⟩ := World.cells?_some hcs
      obtain ⟨f, u, hs, hq, hlm⟩ := open_rec5 hl2 hy'
      subst hs
      have a0 := hat 0 (by decide)
      have a1 := hat 1 (by decide)
      have a2 := hat 2 (by decide)
      have a3 := hat 3 (by decide)
      have a4 := hat 4 (by decide)
      have e0 : ((⟨b, off, spot⟩ : Addr).add (i * 5)).add 0 = (⟨b, off, spot⟩ : Addr).add (i * 5) := by
        unfold Addr.add
        split <;> simp_all
      rw [e0] at a0
      exact ⟨(f, u), ⟨⟨a0, a1, a2, a3, a4⟩, hq⟩, hlm⟩
    obtain ⟨F, hF⟩ : ∃ F : Nat → Rec × Value, ∀ i, i < len → ((W.cell? ((⟨b, off, spot⟩ : Addr).add (i * 5)) = some (.int .i64 (F i).1.id) ∧ W.cell? (((⟨b, off, spot⟩ : Addr).add (i * 5)).add 1) = some (.int .i64 (F i).1.ver) ∧
        W.cell? (((⟨b, off, spot⟩ : Addr).add (i * 5)).add 2) = some (.int .i64 (F i).1.kind) ∧ W.cell? (((⟨b, off, spot⟩ : Addr).add (i * 5)).add 3) = some (.string (S (F i).1.lang)) ∧ W.cell? (((⟨b, off, spot⟩ : Addr).add (i * 5)).add 4) = some (F i).2) ∧ FL (F i).2 (F i).1.fields W) ∧ (F i).1.lang.length ≤ maxLen :=
      ⟨fun i => if h : i < len then (each i h).choose else (rec0, .nilIface), fun i hi => by
        have := (each i hi).choose_spec
        simp only [dif_pos hi]
        exact this⟩
    have hl2 : ((List.range len).map fun i => (F i).1).length = len := by simp
    refine ⟨(List.range len).map fun i => (F i).1, ⟨some ⟨b, off, spot⟩, cap, by rw [hl2], by omega, hm, (fun h => by cases h), fun i hi => ?_⟩, fun r hr => ?_⟩
    · rw [hl2] at hi
      have hspot : spot = none := by simpa [Addr.add] using World.cell?_spot (hF 0 (by omega)).1.1.1
      subst hspot
      have hg : ((List.range len).map fun i => (F i).1).getD i rec0 = (F i).1 := by
        rw [List.getD_eq_getElem?_getD, List.getElem?_map, List.getElem?_range hi]
        rfl
      obtain ⟨⟨⟨c0, c1, c2, c3, c4⟩, hq⟩, -⟩ := hF i hi
      have hadd : (⟨b, off, none⟩ : Addr).add (i * 5) = ⟨b, off + i * 5, none⟩ := by unfold Addr.add; split <;> simp_all
      have hadd2 : ∀ k, (⟨b, off + i * 5, none⟩ : Addr).add k = ⟨b, off + i * 5 + k, none⟩ := fun k => by unfold Addr.add; split <;> simp_all
      rw [hadd] at c0 c1 c2 c3 c4
      rw [hadd2] at c1 c2 c3 c4
      rw [hg]
      refine ⟨b, off, _, rfl, ?_, c0, c1, c2, c3, c4, hq⟩
      rcases Nat.lt_or_ge b W.heap.size with hh | hh
      · exact hh
      · simp [World.cell?, Array.getElem?_eq_none hh] at c0
    · obtain ⟨i, hi, rfl⟩ := List.mem_map.1 hr
      exact (hF i (List.mem_range.1 hi)).2
end

section
open Go.RowKit Go.Lib Go.ChangeShapes Go.WideShapes
theorem cells_key : Tryz.prog.cellsOf 39 = 4 := by kernel_rfl
theorem cells_slicek : Tryz.prog.cellsOf 22 = 1 := by kernel_rfl

set_option maxRecDepth 100000 in
/-- A key's four cells. -/
theorem open_key4 {H : Type} {enc : TypeId × Value → H} {W : World} {fuel : Nat} {cs : List Value} {x : DataW H × List MemPlace} (hl : cs.length = 4)
    (hf : DataW.trod enc Tryz.prog W 0 (fun _ => true) true fuel 39 cs = some x) : ∃ k : MKey, cs = [.string (S k.tag), .int .u8 (k.code.toNat : Int), .int .i64 k.norm, .int .i64 k.weight] := by
  obtain ⟨c0, c1, c2, c3, rfl⟩ : ∃ c0 c1 c2 c3, cs = [c0, c1, c2, c3] := by
    match cs, hl with
    | [c0, c1, c2, c3], _ => exact ⟨c0, c1, c2, c3, rfl⟩
  obtain ⟨xs, n, _, _, _, hxl, hfl⟩ := DataW.trod_struct Tryz.underlying39 hf
  have key : ∀ j, j < 4 → ∃ y, xs[j]? = some y := by
    intro j hj
    have hxl4 : xs.length = 4 := hxl.trans rfl
    exact ⟨xs[j]'(by omega), List.getElem?_eq_getElem (by omega)⟩
  have f0 := hfl 0 _ rfl
  have f1 := hfl 1 _ rfl
  have f2 := hfl 2 _ rfl
  have f3 := hfl 3 _ rfl
  obtain ⟨y0, e0⟩ := key 0 (by decide)
  obtain ⟨y1, e1⟩ := key 1 (by decide)
  obtain ⟨y2, e2⟩ := key 2 (by decide)
  obtain ⟨y3, e3⟩ := key 3 (by decide)
  rw [e0] at f0
  rw [e1] at f1
  rw [e2] at f2
  rw [e3] at f3
  change DataW.trod enc Tryz.prog W 0 (fun _ => true) true n 9 (([c0, c1, c2, c3].drop 0).take (Tryz.prog.cellsOf 9)) = some y0 at f0
  rw [cells_string] at f0
  change DataW.trod enc Tryz.prog W 0 (fun _ => true) true n 5 (([c0, c1, c2, c3].drop 1).take (Tryz.prog.cellsOf 5)) = some y1 at f1
  rw [cells_byte] at f1
  change DataW.trod enc Tryz.prog W 0 (fun _ => true) true n 3 (([c0, c1, c2, c3].drop 2).take (Tryz.prog.cellsOf 3)) = some y2 at f2
  rw [cells_int1] at f2
  change DataW.trod enc Tryz.prog W 0 (fun _ => true) true n 3 (([c0, c1, c2, c3].drop 3).take (Tryz.prog.cellsOf 3)) = some y3 at f3
  rw [cells_int1] at f3
  obtain ⟨s0, a0, _, _⟩ := DataW.trod_string Tryz.underlying9 f0
  obtain ⟨z, a1, _, hw⟩ := DataW.trod_int Tryz.underlying5 f1
  obtain ⟨z2, a2, _, _⟩ := DataW.trod_int Tryz.underlying3 f2
  obtain ⟨z3, a3, _, _⟩ := DataW.trod_int Tryz.underlying3 f3
  have hz : 0 ≤ z ∧ z ≤ 255 := by simpa [Lit.wf, IntKind.min, IntKind.max, IntKind.signed, IntKind.bits] using hw
  have ez : ((UInt8.ofNat z.toNat).toNat : Int) = z := by
    rw [UInt8.toNat_ofNat']
    omega
  simp at a0 a1 a2 a3
  refine ⟨⟨s0.data.toList, UInt8.ofNat z.toNat, z2, z3⟩, ?_⟩
  show [c0, c1, c2, c3] = [.string (S s0.data.toList), .int .u8 ((UInt8.ofNat z.toNat).toNat : Int), .int .i64 z2, .int .i64 z3]
  rw [ez, a0, a1, a2, a3]
  rfl

set_option maxRecDepth 100000 in
/-- A slice of keys. -/
theorem open_kl {H : Type} {enc : TypeId × Value → H} {W : World} {c : Value} {fuel : Nat} {x : DataW H × List MemPlace}
    (hf : DataW.trod enc Tryz.prog W 0 (fun _ => true) true fuel 22 [c] = some x) : ∃ L : List MKey, KL c L W := by
  rcases DataW.trod_slice Tryz.underlying22 hf with ⟨hcs, _⟩ | ⟨a, len, cap, elems, rest, n, _, hcs, _, _, hl, hm, hlen, hel, _, _⟩
  · simp only [List.cons.injEq, and_true] at hcs
    subst hcs
    exact ⟨[], none, 0, rfl, Nat.le_refl _, Nat.zero_le _, fun _ => rfl, fun i hi => by cases hi⟩
  · simp only [List.cons.injEq, and_true] at hcs
    subst hcs
    obtain ⟨b, off, spot⟩ := a
    have each : ∀ i, i < len → ∃ k : MKey, W.cell? ((⟨b, off, spot⟩ : Addr).add (i * 4)) = some (.string (S k.tag)) ∧ W.cell? (((⟨b, off, spot⟩ : Addr).add (i * 4)).add 1) = some (.int .u8 (k.code.toNat : Int)) ∧
        W.cell? (((⟨b, off, spot⟩ : Addr).add (i * 4)).add 2) = some (.int .i64 k.norm) ∧ W.cell? (((⟨b, off, spot⟩ : Addr).add (i * 4)).add 3) = some (.int .i64 k.weight) := by
      intro i hi
      have h := hel i hi
      rw [cells_key] at h
      have hsome : ∃ y, elems[i]? = some y := ⟨elems[i]'(by omega), List.getElem?_eq_getElem (by omega)⟩
      obtain ⟨y, hy⟩ := hsome
      rw [hy, Option.bind_eq_some_iff] at h
      obtain ⟨cs', hcs, hy'⟩ := h
      obtain ⟨_, hl2, hat⟩ := World.cells?_some hcs
      obtain ⟨s, hs⟩ := open_key4 hl2 hy'
      subst hs
      have a0 := hat 0 (by decide)
      have a1 := hat 1 (by decide)
      have a2 := hat 2 (by decide)
      have a3 := hat 3 (by decide)
      have e0 : ((⟨b, off, spot⟩ : Addr).add (i * 4)).add 0 = (⟨b, off, spot⟩ : Addr).add (i * 4) := by
        unfold Addr.add
        split <;> simp_all
      rw [e0] at a0
      exact ⟨s, a0, a1, a2, a3⟩
    obtain ⟨F, hF⟩ : ∃ F : Nat → MKey, ∀ i, i < len → W.cell? ((⟨b, off, spot⟩ : Addr).add (i * 4)) = some (.string (S (F i).tag)) ∧ W.cell? (((⟨b, off, spot⟩ : Addr).add (i * 4)).add 1) = some (.int .u8 ((F i).code.toNat : Int)) ∧
        W.cell? (((⟨b, off, spot⟩ : Addr).add (i * 4)).add 2) = some (.int .i64 (F i).norm) ∧ W.cell? (((⟨b, off, spot⟩ : Addr).add (i * 4)).add 3) = some (.int .i64 (F i).weight) :=
      ⟨fun i => if h : i < len then (each i h).choose else key0, fun i hi => by
        have := (each i hi).choose_spec
        simp only [dif_pos hi]
        exact this⟩
    have hl2 : ((List.range len).map F).length = len := by simp
    refine ⟨(List.range len).map F, some ⟨b, off, spot⟩, cap, by rw [hl2], by omega, hm, (fun h => by cases h), fun i hi => ?_⟩
    rw [hl2] at hi
    have hspot : spot = none := by simpa [Addr.add] using World.cell?_spot (hF 0 (by omega)).1
    subst hspot
    have hg : ((List.range len).map F).getD i key0 = F i := by
      rw [List.getD_eq_getElem?_getD, List.getElem?_map, List.getElem?_range hi]
      rfl
    obtain ⟨c0, c1, c2, c3⟩ := hF i hi
    have hadd : (⟨b, off, none⟩ : Addr).add (i * 4) = ⟨b, off + i * 4, none⟩ := by unfold Addr.add; split <;> simp_all
    have h1 : (⟨b, off + i * 4, none⟩ : Addr).add 1 = ⟨b, off + i * 4 + 1, none⟩ := by unfold Addr.add; split <;> simp_all
    have h2 : (⟨b, off + i * 4, none⟩ : Addr).add 2 = ⟨b, off + i * 4 + 2, none⟩ := by unfold Addr.add; split <;> simp_all
    have h3 : (⟨b, off + i * 4, none⟩ : Addr).add 3 = ⟨b, off + i * 4 + 3, none⟩ := by unfold Addr.add; split <;> simp_all
    rw [hadd] at c0 c1 c2 c3
    rw [h1] at c1
    rw [h2] at c2
    rw [h3] at c3
    refine ⟨b, off, rfl, ?_, by rw [hg]; exact c0, by rw [hg]; exact c1, by rw [hg]; exact c2, by rw [hg]; exact c3⟩
    rcases Nat.lt_or_ge b W.heap.size with hh | hh
    · exact hh
    · simp [World.cell?, Array.getElem?_eq_none hh] at c0

set_option maxRecDepth 100000 in
/-- A rule. -/
theorem open_rule {H : Type} {enc : TypeId × Value → H} {W : World} {base : Nat} {v : Value} {d : DataW H} {p : List MemPlace} (hv : Value.okWide Tryz.prog W .any base 24 v)
    (h : DataW.Trod enc Tryz.prog W 0 (fun _ => true) true 24 v d p) : ∃ (m : MRule) (u : Value), v = MV m u ∧ KL u m.keys W := by
  have hv2 : ∃ cs, v = .agg cs ∧ cs.size = Tryz.prog.cellsOf 24 := by
    unfold Value.okWide at hv
    rw [Tryz.underlying24] at hv
    obtain ⟨cs, h1, h2, _⟩ := hv
    exact ⟨cs, h1, h2⟩
  obtain ⟨cs, rfl, hsz⟩ := hv2
  have hsz2 : cs.size = 2 := hsz.trans (by kernel_rfl)
  obtain ⟨c0, c1, rfl⟩ : ∃ c0 c1, cs = #[c0, c1] := by
    obtain ⟨l⟩ := cs
    match l, hsz2 with
    | [c0, c1], _ => exact ⟨c0, c1, rfl⟩
  obtain ⟨fuel, hf⟩ := h
  obtain ⟨xs, n, _, _, _, hxl, hfl⟩ := DataW.trod_struct Tryz.underlying24 hf
  have key : ∀ j, j < 2 → ∃ y, xs[j]? = some y := by
    intro j hj
    have hxl2 : xs.length = 2 := hxl.trans rfl
    exact ⟨xs[j]'(by omega), List.getElem?_eq_getElem (by omega)⟩
  have f0 := hfl 0 _ rfl
  have f1 := hfl 1 _ rfl
  obtain ⟨y0, e0⟩ := key 0 (by decide)
  obtain ⟨y1, e1⟩ := key 1 (by decide)
  rw [e0] at f0
  rw [e1] at f1
  change DataW.trod enc Tryz.prog W 0 (fun _ => true) true n 22 (([c0, c1].drop 0).take (Tryz.prog.cellsOf 22)) = some y0 at f0
  rw [cells_slicek] at f0
  change DataW.trod enc Tryz.prog W 0 (fun _ => true) true n 3 (([c0, c1].drop 1).take (Tryz.prog.cellsOf 3)) = some y1 at f1
  rw [cells_int1] at f1
  obtain ⟨z1, a1, _, _⟩ := DataW.trod_int Tryz.underlying3 f1
  obtain ⟨L, hL⟩ := open_kl (c := c0) f0
  simp at a1
  exact ⟨⟨L, z1⟩, c0, by rw [a1]; rfl, hL⟩
end

section
open Go.RowKit Go.Lib
/-- What every row of this seat lists. -/
def laid3 : List (String × DataW Unit) := Rows.matchRightRow.laid
/-- The listed table of folded forms is the chapter's. -/
theorem accents_eq : Rows.laid_library_text_accents (H := Unit) = .agg (accL.map fun x => .lit (.string (enc x))) := by kernel_rfl
theorem accents_type : (Tryz.prog.globals[1]?).map (·.type) = some 167 := by kernel_rfl

theorem acc_of {W : World} (h2 : Lib.VarReads Tryz.prog W "library/text.accents" Rows.laid_library_text_accents) : Acc W := by
  rw [accents_eq] at h2
  have hcells : ∀ i, i < 64 → W.cell? ⟨1, i, none⟩ = some (.string (T (accL.getD i []))) := by
    intro i hi
    obtain ⟨g, t, cs, fuel, p, hg, hty, hvar, hd⟩ := h2
    obtain rfl : g = 1 := Option.some.inj (hg.symm.trans (show _ = some 1 by kernel_rfl))
    obtain rfl := Option.some.inj (accents_type.symm.trans hty)
    obtain ⟨fuel', d, q, hdi, he⟩ := array_elem Tryz.underlying167 hd i hi
    rw [cells_string] at he
    have hl : i < accL.length := hi
    rw [List.getElem?_map, List.getElem?_eq_getElem hl] at hdi
    simp only [Option.map_some, Option.some.injEq] at hdi
    obtain ⟨s, e1, e2, _⟩ := DataW.trod_string Tryz.underlying9 he
    rw [← hdi] at e2
    simp only [Prod.mk.injEq, DataW.lit.injEq, Lit.string.injEq] at e2
    have es : s = T accL[i] := eq_T e2.1.symm
    have e0 := congrArg (·[0]?) e1
    simp only [List.getElem?_take, List.getElem?_drop] at e0
    rw [World.var?_cell hg hvar i, ← Array.getElem?_toList]
    simp only [Nat.mul_one, Nat.add_zero] at e0
    rw [show accL.getD i [] = accL[i] by simp [List.getD, hl]]
    rw [← es]
    simpa using e0
  refine ⟨?_, hcells⟩
  have hc := hcells 0 (by decide)
  rcases Nat.lt_or_ge 1 W.heap.size with hh | hh
  · exact hh
  · simp [World.cell?, Array.getElem?_eq_none hh] at hc
theorem accept_eq : Rows.laid_unicode_utf8_acceptRanges (H := Unit) = acceptData := by kernel_rfl
theorem first_eq : Rows.laid_unicode_utf8_first = firstData := Pinned.utf8First_eq
theorem pows_eq : Rows.laid_internal_strconv_uint64pow10 (H := Unit) = tabData .u64 pow10Tab := by kernel_rfl
theorem key_lt {W : World} {b o : Nat} {v : Value} (hv : W.cell? ⟨b, o, none⟩ = some v) : b < W.heap.size := by
  rcases Nat.lt_or_ge b W.heap.size with hh | hh
  · exact hh
  · simp [World.cell?, Array.getElem?_eq_none hh] at hv
theorem env_of {W : World} (h : laidMet Tryz.prog laid3 W) (hs : W.ShapedOpen Tryz.prog) : Env W := by
  have h3 : laidMet Tryz.prog (("internal/strconv.uint64pow10", Rows.laid_internal_strconv_uint64pow10) :: _) W := laidMet.tail (laidMet.tail h)
  have h4 : laidMet Tryz.prog (("unicode/utf8.acceptRanges", Rows.laid_unicode_utf8_acceptRanges) :: _) W := laidMet.tail h3
  have h6 : laidMet Tryz.prog (("library/text.accents", Rows.laid_library_text_accents) :: _) W := laidMet.tail h4
  have h7 : laidMet Tryz.prog (("unicode/utf8.first", Rows.laid_unicode_utf8_first) :: _) W := laidMet.tail h6
  have r4 := Lib.laidMet.reads h4 (.head _)
  have r7 := Lib.laidMet.reads h7 (.head _)
  rw [pows_eq] at h3
  rw [accept_eq] at r4
  rw [first_eq] at r7
  have htab : Lib.Utf8Tabs 2 3 W :=
    utf8Tabs_of_readsT (U8Types.of196 Tryz.lays196) ⟨by kernel_rfl, by kernel_rfl, by kernel_rfl, by kernel_rfl, by kernel_rfl, by kernel_rfl, by kernel_rfl⟩ r7 r4
  exact ⟨⟨⟨key_lt (htab.1 0 (by decide)), key_lt (htab.2 0 (by decide)).1⟩, htab⟩, acc_of (Lib.laidMet.reads h6 (.head _)),
    cell_of_shapedOpen_int (P := Tryz.prog) (g := 0) (t := 3) (zero := #[.int .i64 0]) hs (of_decide_eq_true (by kernel_rfl)) (by kernel_rfl) rfl (by kernel_rfl) (by kernel_rfl) Tryz.underlying3,
    tabIs_of_head (g := 4) (t := 191) (e := 127) (n := 20) (by kernel_rfl) (by kernel_rfl) Tryz.underlying191 Tryz.underlying127 (by kernel_rfl) (by kernel_rfl) h3⟩
theorem env_ofH {W : World} (h : laidMetH Tryz.prog laid3 W) (hs : W.ShapedOpen Tryz.prog) : Env W := by
  rw [MakeChecks.laidMetH_plain _ _ _ (by kernel_rfl)] at h
  exact env_of h hs
end

section
open Go.RowKit Go.PlainAid
set_option maxHeartbeats 32000000 in
set_option maxRecDepth 100000 in
theorem lawKeys15_any (m : MRule) (mv : Value) (a : Rec) (ua : Value) (w : World) (hE : Env w) (hm : KL mv m.keys w) (hau : FL ua a.fields w) :
    Calls Tryz.prog 4 #[MV m mv, RV a ua] w fun e w' => e = .returned (.bool true) ∧ Below w.heap.size w w' := by
  obtain ⟨U0, hU0⟩ : ∃ W0, w.alloc (.cells #[mv, .int .i64 m.need] 24) = W0 := ⟨_, rfl⟩
  have hu0 : U0.heap[w.heap.size]? = some (.cells #[mv, .int .i64 m.need] 24 (0, 0)) := by rw [← hU0]; exact heap_alloc_new w _
  have su0 : U0.heap.size = w.heap.size + 1 := by rw [← hU0]; simp
  have bu0 : Below w.heap.size w U0 := by rw [← hU0]; exact (Below.refl w.heap.size w).alloc (Nat.le_refl _) _
  obtain ⟨W0, hW0⟩ : ∃ W0, U0.alloc (.cells #[.int .i64 a.id, .int .i64 a.ver, .int .i64 a.kind, .string (S a.lang), ua] 33) = W0 := ⟨_, rfl⟩
  have hu1 : W0.heap[w.heap.size + 1]? = some (.cells #[.int .i64 a.id, .int .i64 a.ver, .int .i64 a.kind, .string (S a.lang), ua] 33 (0, 0)) := by rw [← hW0, ← su0]; exact heap_alloc_new U0 _
  have su1 : W0.heap.size = w.heap.size + 1 + 1 := by rw [← hW0]; simp [su0]
  have bu1 : Below U0.heap.size U0 W0 := by rw [← hW0]; exact (Below.refl U0.heap.size U0).alloc (Nat.le_refl _) _
  have b0 : Below w.heap.size w W0 := bu0.trans (bu1.mono bu0.size)
  have hm0 : W0.heap[w.heap.size]? = some (.cells #[mv, .int .i64 m.need] 24 (0, 0)) := (bu1.block _ (by omega)).trans hu0
  have HMx := Lib.hid (fun (W : World) (h : Below W0.heap.size W0 W) => (h.block w.heap.size (by omega)).trans hm0)
  have HAx := Lib.hid (fun (W : World) (h : Below W0.heap.size W0 W) => (h.block (w.heap.size + 1) (by omega)).trans hu1)
  have hWw := fun (W : World) (h : Below W0.heap.size W0 W) => b0.trans (h.mono b0.size)
  have c1 := Lib.hid (lalive15_any W0 (hE.after b0))
  have cR0 := Lib.hid (fun (W : World) (h : Below W0.heap.size W0 W) => refRight15_any m mv W (hm.after (hWw W h)))
  obtain ⟨va, hva⟩ : ∃ x, validR a = x := ⟨_, rfl⟩
  have cVa0 := Lib.hid (fun (W : World) (h : Below W0.heap.size W0 W) => lvalid_any a ua W (hau.after (hWw W h)) va hva)
  have cPq := Lib.hid (fun (hr : rightM m = 0) (h1 : va = true) (k : MKey) (hk : k ∈ m.keys) (W : World) (h : Below W0.heap.size W0 W) => show Calls Tryz.prog 17 #[KV k, RV a ua] W (fun e w' => ∃ v, e = .returned v ∧ BL v (keysM k a) w' ∧ Below W.heap.size W w') from
    (pKeys_any k (okN_of m hr k hk).1 (okN_of m hr k hk).2 a ua W (hE.after (hWw W h)) (hau.after (hWw W h)) (validR_ok a (hva.trans h1))).mono fun _ _ ⟨v, h1, h2, h3⟩ => ⟨v, h1, h2.bl, h3⟩)
  have cRq := Lib.hid (fun (h1 : va = true) (k : MKey) (W : World) (h : Below W0.heap.size W0 W) => show Calls Tryz.prog 18 #[KV k, RV a ua] W (fun e w' => ∃ v, e = .returned v ∧ BL v (keysM k a) w' ∧ Below W.heap.size W w') from
    (refKeys_any k a ua W (hau.after (hWw W h)) (validR_ok a (hva.trans h1))).mono fun _ _ ⟨v, h1, h2, h3⟩ => ⟨v, h1, h2.bl, h3⟩)
  have HBw0 := Lib.hid hWw
  obtain ⟨x, cap, g, o, hv, hc, hmx, hga, hxa⟩ := hm.opened
  obtain ⟨aa, ac, hvA, -, -⟩ := hau.length
  have hW : (w.alloc (.cells #[mv, .int .i64 m.need] 24)).alloc (.cells #[.int .i64 a.id, .int .i64 a.ver, .int .i64 a.kind, .string (S a.lang), ua] 33) = W0 := by rw [hU0, hW0]
  unfold maxLen at hmx
  have HX := Lib.hid hxa
  have HMem := Lib.hid (fun i (h : i < m.keys.length) => show m.keys.getD i key0 ∈ m.keys by
    rw [List.getD_eq_getElem?_getD, List.getElem?_eq_getElem h]
    exact List.getElem_mem h)
  have cTq := Lib.hid (fun (K : List (List UInt8)) (p q : Value) (W : World) (h1 : BL p K W) (h2 : BL q K W) => refTexts_any K K p q W h1 h2 true (by simp))
  unfold MV RV at *
  subst hv hvA
  have HW0 := Lib.hid hW
  clear hU0 hu0 su0 bu0 hW0 hu1 su1 bu1 b0 hm0 hWw hva hm hau hE hW hxa
  generalize m.need = need at *
  generalize hrr : rightM m = rr at *
  clear hrr
  generalize hKs : m.keys = Ks at *
  clear hKs
  generalize Ks.length = n at *
  generalize a.fields.length = an at *
  generalize S a.lang = alg at *
  generalize a.id = aid at *
  generalize a.ver = aver at *
  generalize a.kind = akind at *
  go_enter Tryz.func4, Tryz.ntmps4
  go_upto_region 1 with fail
  rw [HW0.out]
  clear HW0
  go_wp2_with fail
  refine c1.out.mono ?_
  rintro e w1 ⟨rfl, hb1⟩
  have B1 := Lib.hid hb1
  have cR1 := Lib.hid (cR0.out w1 hb1)
  obtain ⟨m0, m1⟩ := mcells2 (HMx.out w1 hb1)
  clear hb1 c1 cR0
  go_wp2_with fail
  refine cR1.out.mono ?_
  rintro e w2 ⟨rfl, hb2⟩
  have B2 := Lib.hid (B1.out.trans (hb2.mono B1.out.size))
  clear hb2 cR1 B1 m0 m1
  by_cases hr : rr = 0
  · subst hr
    have cV1 := Lib.hid (cVa0.out w2 B2.out)
    obtain ⟨x0, x1, x2, x3, x4⟩ := rcells5 (HAx.out w2 B2.out)
    clear cVa0
    go_wp2_with fail
    refine cV1.out.mono ?_
    rintro e w3 ⟨rfl, hb3⟩
    have B3 := Lib.hid (B2.out.trans (hb3.mono B2.out.size))
    clear hb3 cV1 B2 x0 x1 x2 x3 x4
    cases va with
    | false =>
      have HF := Lib.hid (HBw0.out w3 B3.out)
      clear cPq cRq
      go_wp2
      first | exact ⟨rfl, HF.out⟩ | (go_ret; exact ⟨rfl, HF.out⟩)
    | true =>
    have cPa := Lib.hid (cPq.out (by simp) rfl)
    have cRa := Lib.hid (cRq.out rfl)
    clear cPq cRq
    go_wp2
    go_loopw [5] (fun s5 wr => ∃ i : Nat, s5 = .int .i64 (i : Int) ∧ i ≤ n ∧ RowKit.Hid (Below W0.heap.size W0 wr)) (fun s5 _ => n - (intOf s5).toNat)
    case atStart => exact ⟨0, rfl, Nat.zero_le _, B3.out⟩
    case round =>
      obtain ⟨i, rfl, hi, HB⟩ := hrel
      clear B3
      obtain ⟨wq, hwq⟩ : ∃ wq, wr = wq := ⟨_, rfl⟩
      rw [hwq] at HB ⊢
      clear hwq
      obtain ⟨m0, m1⟩ := mcells2 (HMx.out wq HB.out)
      by_cases hin : i < n
      · have i1 : (0 : Int) ≤ (i : Int) := by omega
        have i2 : (i : Int) < (n : Int) := by omega
        obtain rfl := hga (by omega)
        have hmem := HMem.out i hin
        have hx := fun W (h : Below w.heap.size w W) => HX.out W h i hin
        have cP1 := cPa.out _ hmem
        have cR1 := cRa.out (Ks.getD i key0)
        unfold KV at cP1 cR1
        obtain ⟨KK, hKK⟩ : ∃ K, keysM (Ks.getD i key0) a = K := ⟨_, rfl⟩
        rw [hKK] at cP1 cR1
        have HMq := Lib.hid (fun (W : World) (h : Below wq.heap.size wq W) => HMx.out W (HB.out.trans (h.mono HB.out.size)))
        have HAq := Lib.hid (fun (W : World) (h : Below wq.heap.size wq W) => HAx.out W (HB.out.trans (h.mono HB.out.size)))
        have HCk := Lib.hid (fun (W : World) (h : Below wq.heap.size wq W) => hx W (HBw0.out W (HB.out.trans (h.mono HB.out.size))))
        have cP := Lib.hid (fun (W : World) (h : Below wq.heap.size wq W) => cP1 W (HB.out.trans (h.mono HB.out.size)))
        have cR := Lib.hid (fun (W : World) (h : Below wq.heap.size wq W) => cR1 W (HB.out.trans (h.mono HB.out.size)))
        have cT := Lib.hid (cTq.out KK)
        clear hmem hx cP1 cR1 hKK
        generalize S (Ks.getD i key0).tag = kt at *
        generalize ((Ks.getD i key0).code.toNat : Int) = kc at *
        generalize (Ks.getD i key0).norm = kn at *
        generalize (Ks.getD i key0).weight = kw at *
        go_upto_region 8 with fail
        clear m0 m1
        apply wp_region_inv (V := [.eq (.pointer (some ⟨w.heap.size, 0, none⟩)), .eq (.slice (some ⟨g, o, none⟩) n cap), .eq (.int .i64 (i : Int)), .eq (.pointer (some ⟨g, o + i * 4, none⟩)), .eq (.agg #[.string kt, .int .u8 kc, .int .i64 kn, .int .i64 kw]), .eq (.agg #[.int .i64 aid, .int .i64 aver, .int .i64 akind, .string alg, .slice aa an ac]), .bl15 KK, .eq (.pointer (some ⟨w.heap.size, 0, none⟩)), .eq (.slice (some ⟨g, o, none⟩) n cap), .eq (.int .i64 (i : Int)), .eq (.pointer (some ⟨g, o + i * 4, none⟩)), .eq (.agg #[.string kt, .int .u8 kc, .int .i64 kn, .int .i64 kw]), .eq (.agg #[.int .i64 aid, .int .i64 aver, .int .i64 akind, .string alg, .slice aa an ac]), .bl15 KK, .eq (.bool true), .eq (.bool false)])
        case hm => kernel_rfl
        case hd => kernel_rfl
        case hb => kernel_rfl
        case hA =>
          intro vs
          simp only [puts, Act.put, List.setIfInBounds_toArray, List.set_cons_zero, List.set_cons_succ]
          exact rfl
        case hob =>
          refine Obs.cons _ _ _ _ _ _ ?o0 (Obs.cons _ _ _ _ _ _ ?o1 (Obs.cons _ _ _ _ _ _ ?o2 (Obs.cons _ _ _ _ _ _ ?o3 (Obs.cons _ _ _ _ _ _ ?o4 (Obs.cons _ _ _ _ _ _ ?o5 (Obs.cons _ _ _ _ _ _ ?o6 (Obs.cons _ _ _ _ _ _ ?o7 (Obs.cons _ _ _ _ _ _ ?o8 (Obs.cons _ _ _ _ _ _ ?o9 (Obs.cons _ _ _ _ _ _ ?o10 (Obs.cons _ _ _ _ _ _ ?o11 (Obs.cons _ _ _ _ _ _ ?o12 (Obs.cons _ _ _ _ _ _ ?o13 (Obs.cons _ _ _ _ _ _ ?o14 (Obs.cons _ _ _ _ _ _ ?o15 (Obs.nil _ _ _ _ _ _))))))))))))))))
          case o0 =>
            intro vs W hw hd K hK
            go_simp
            exact hK.out _ _ rfl (Below.refl _ _)
          case o1 =>
            intro vs W hw hd K hK
            have h0 : vs 0 = .pointer (some ⟨w.heap.size, 0, none⟩) := hd 0 (by kernel_rfl)
            obtain ⟨m0, m1⟩ := mcells2 (HMq.out W hw)
            simp only [Nat.reduceAdd, h0] at hK ⊢
            go_simp
            exact hK.out _ _ rfl (Below.refl _ _)
          case o2 =>
            intro vs W hw hd K hK
            go_simp
            exact hK.out _ _ rfl (Below.refl _ _)
          case o3 =>
            intro vs W hw hd K hK
            have h1 : vs 1 = .slice (some ⟨g, o, none⟩) n cap := hd 1 (by kernel_rfl)
            have h2 : vs 2 = .int .i64 (i : Int) := hd 2 (by kernel_rfl)
            simp only [Nat.reduceAdd, h1, h2] at hK ⊢
            go_simp
            exact hK.out _ _ rfl (Below.refl _ _)
          case o4 =>
            intro vs W hw hd K hK
            have h3 : vs 3 = .pointer (some ⟨g, o + i * 4, none⟩) := hd 3 (by kernel_rfl)
            obtain ⟨c0, c1, c2, c3⟩ := HCk.out W hw
            simp only [Nat.reduceAdd, h3] at hK ⊢
            go_simp
            exact hK.out _ _ rfl (Below.refl _ _)
          case o5 =>
            intro vs W hw hd K hK
            obtain ⟨x0, x1, x2, x3, x4⟩ := rcells5 (HAq.out W hw)
            go_simp
            exact hK.out _ _ rfl (Below.refl _ _)
          case o6 =>
            intro vs W hw hd K hK
            have h4 : vs 4 = .agg #[.string kt, .int .u8 kc, .int .i64 kn, .int .i64 kw] := hd 4 (by kernel_rfl)
            have h5 : vs 5 = .agg #[.int .i64 aid, .int .i64 aver, .int .i64 akind, .string alg, .slice aa an ac] := hd 5 (by kernel_rfl)
            simp only [Nat.reduceAdd, h4, h5] at hK ⊢
            go_simp
            refine (cP.out W hw).mono ?_
            rintro e W' ⟨v', rfl, hbl, hb'⟩
            exact hK.out _ _ hbl hb'
          case o7 =>
            intro vs W hw hd K hK
            go_simp
            exact hK.out _ _ rfl (Below.refl _ _)
          case o8 =>
            intro vs W hw hd K hK
            have h7 : vs 7 = .pointer (some ⟨w.heap.size, 0, none⟩) := hd 7 (by kernel_rfl)
            obtain ⟨m0, m1⟩ := mcells2 (HMq.out W hw)
            simp only [Nat.reduceAdd, h7] at hK ⊢
            go_simp
            exact hK.out _ _ rfl (Below.refl _ _)
          case o9 =>
            intro vs W hw hd K hK
            go_simp
            exact hK.out _ _ rfl (Below.refl _ _)
          case o10 =>
            intro vs W hw hd K hK
            have h8 : vs 8 = .slice (some ⟨g, o, none⟩) n cap := hd 8 (by kernel_rfl)
            have h9 : vs 9 = .int .i64 (i : Int) := hd 9 (by kernel_rfl)
            simp only [Nat.reduceAdd, h8, h9] at hK ⊢
            go_simp
            exact hK.out _ _ rfl (Below.refl _ _)
          case o11 =>
            intro vs W hw hd K hK
            have h10 : vs 10 = .pointer (some ⟨g, o + i * 4, none⟩) := hd 10 (by kernel_rfl)
            obtain ⟨c0, c1, c2, c3⟩ := HCk.out W hw
            simp only [Nat.reduceAdd, h10] at hK ⊢
            go_simp
            exact hK.out _ _ rfl (Below.refl _ _)
          case o12 =>
            intro vs W hw hd K hK
            obtain ⟨x0, x1, x2, x3, x4⟩ := rcells5 (HAq.out W hw)
            go_simp
            exact hK.out _ _ rfl (Below.refl _ _)
          case o13 =>
            intro vs W hw hd K hK
            have h11 : vs 11 = .agg #[.string kt, .int .u8 kc, .int .i64 kn, .int .i64 kw] := hd 11 (by kernel_rfl)
            have h12 : vs 12 = .agg #[.int .i64 aid, .int .i64 aver, .int .i64 akind, .string alg, .slice aa an ac] := hd 12 (by kernel_rfl)
            simp only [Nat.reduceAdd, h11, h12] at hK ⊢
            go_simp
            refine (cR.out W hw).mono ?_
            rintro e W' ⟨v', rfl, hbl, hb'⟩
            exact hK.out _ _ hbl hb'
          case o14 =>
            intro vs W hw hd K hK
            have q6 : BL (vs 6) KK W := hd 6 (by kernel_rfl)
            have q13 : BL (vs 13) KK W := hd 13 (by kernel_rfl)
            simp only [Nat.reduceAdd] at hK ⊢
            go_simp
            refine (cT.out (vs 6) (vs 13) W q6 q13).mono ?_
            rintro e W' ⟨rfl, hb'⟩
            exact hK.out _ _ rfl hb'
          case o15 =>
            intro vs W hw hd K hK
            have h14 : vs 14 = .bool true := hd 14 (by kernel_rfl)
            simp only [Nat.reduceAdd, h14] at hK ⊢
            go_simp
            exact hK.out _ _ rfl (Below.refl _ _)
        case hfin =>
          intro vs W hw hd
          have h15 : vs 15 = .bool false := hd 15 (by decide)
          simp only [Nat.reduceAdd, h15]
          have HF := Lib.hid (HB.out.trans (hw.mono HB.out.size))
          clear hd hw HB
          go_wp2
          go_roundw
          case rel => exact ⟨i + 1, by go_num, by omega, HF.out⟩
          case measure => simp [intOf]; omega
      · obtain rfl : i = n := by omega
        have HF := Lib.hid (HBw0.out wq HB.out)
        go_wp2
        first | exact ⟨rfl, HF.out⟩ | (go_ret; exact ⟨rfl, HF.out⟩)
  · have hrb : (rr != 0) = true := by simpa using hr
    have HF := Lib.hid (HBw0.out w2 B2.out)
    clear cPq cRq cVa0
    go_wp2
    first | exact ⟨rfl, HF.out⟩ | (go_ret; exact ⟨rfl, HF.out⟩)
end

end Go.Proofs.YtfjfpefpdlecbaaGreatDoor
