/- Merged: ShapedSz, ArgsB, ArgsA. -/
import Derived.Test.YtmcolapcmjdoeaaGreatDoorProg
import Derived.Handed
import Derived.Test.YtmcolapcmjdoeaaGreatDoorQ01
import Derived.Test.YtmcolapcmjdoeaaGreatDoorRows
import Derived.SliceStrings
import Derived.Lib.SmallJoins
import Derived.Carry
import Derived.Test.YtmcolapcmjdoeaaGreatDoorQ04
import Derived.SizedLaws
namespace Go.Proofs.YtmcolapcmjdoeaaGreatDoor

section
theorem lift_sized {H : Type} {enc : TypeId × Value → H} {a : Assume} {C : Checked} {os : Os} {f : FuncId} {fn : Func} {s : ChangeSpec} {apart fresh handsOn again : Bool} {X : World → Array Value → Prop}
    (hX : ∀ (w w' : World) (args : Array Value), w.heap = w'.heap → X w args → X w' args)
    (own : ownKnob C.prog.godebug = none) (started : os.Started) (noInit : C.prog.inits.idxOf? f = none) (hfn : C.prog.funcs[f]? = some fn)
    (witness : ∃ (w : World) (tape : Tape) (i : Input), w.os = os ∧ (w.forCall tape i).Shaped C.prog ∧ i.vars = [] ∧ Input.okWide C.prog (w.forCall tape i) .any w.heap.size f i ∧
      ((s.pre enc C.prog fn [] apart (w.forCall tape i).memory i.args ∧ X (w.forCall tape i).memory i.args) ∧ sizedMet enc C.prog fn (OpenSpec.ofChange s) apart (w.forCall tape i).memory i.args) ∧ a.holds C.prog (lone (Frame.enter C.prog f i.args .normal) [] (w.forCall tape i)))
    (contract : ∀ (W : World) (base : Nat) (args : Array Value) (ds gs : List (DataW H)) (before : List MemPlace),
      (∀ (j : Nat) t v, fn.params[j]? = some t → args[j]? = some v → Value.okWide C.prog W .any base t v) →
      DataW.Whole enc C.prog fn.params.toList s.vars apart W args.toList ds gs before → (DataW.weightsEach C.prog (fn.params.toList ++ (OpenSpec.ofChange s).bare.plain.varTypes C.prog) (ds ++ gs)).all (· ≤ reachBytes) = true → X W args → W.ShapedOpen C.prog →
      Calls C.prog f args W fun e W' => ∃ v, e = .returned v ∧ s.post enc C.prog fn apart fresh handsOn again W args v W') :
    ReturnsInHanded a C os f .any (fun w args => (s.pre enc C.prog fn [] apart w args ∧ X w args) ∧ sizedMet enc C.prog fn (OpenSpec.ofChange s) apart w args) (s.post enc C.prog fn apart fresh handsOn again) := by
  refine returnsInHanded_of_calls own started noInit witness ?_
  intro w tape i _ hsh _ hok hpre _
  obtain ⟨_, _, _, fn2, hfn2, _, _, _, _, hval⟩ := hok
  obtain rfl : fn2 = fn := Option.some.inj (hfn2.symm.trans hfn)
  obtain ⟨⟨⟨ds, gs, before, hw, _⟩, hx⟩, hz⟩ := hpre
  refine (contract (w.forCall tape i) w.heap.size i.args ds gs before hval (DataW.Whole.of_heap (by rfl) hw) (hz.weights hw) (hX _ _ _ (by rfl) hx) hsh).mono fun e W' hh => ?_
  obtain ⟨v, rfl, hp⟩ := hh
  exact ChangeSpec.post_blind hp
end

section
open Go.RowKit Go.Lib Go.ChangeShapes Go.WideShapes
theorem laidOut : laidOutB Tryz.prog = true := by kernel_rfl
theorem cells_string : Tryz.prog.cellsOf 9 = 1 := by kernel_rfl
theorem open_bl {H : Type} {enc : TypeId × Value → H} {W : World} {c : Value} {fuel : Nat} {x : DataW H × List MemPlace}
    (hf : DataW.trod enc Tryz.prog W 0 (fun _ => true) true fuel 28 [c] = some x) : ∃ L : List (List UInt8), BL c L W := by
  rcases open_strings Tryz.underlying28 Tryz.underlying9 cells_string hf with ⟨hcs, _⟩ | ⟨a, len, cap, ss, hcs, _, hl, hm, hz, _, hcell, _⟩
  · simp only [List.cons.injEq, and_true] at hcs
    subst hcs
    exact ⟨[], none, 0, rfl, Nat.le_refl _, Nat.zero_le _, fun _ => rfl, fun i hi => by cases hi⟩
  · simp only [List.cons.injEq, and_true] at hcs
    subst hcs
    simp only [if_true] at hz
    obtain ⟨b, off, spot⟩ := a
    have hlen : ((ss.take len).map fun s => s.data.toList).length = len := by simp; omega
    refine ⟨(ss.take len).map fun s => s.data.toList, some ⟨b, off, spot⟩, cap, by rw [hlen], by omega, hm, (fun h => by cases h), fun i hi => ?_⟩
    rw [hlen] at hi
    have hspot : spot = none := by simpa [Addr.add] using World.cell?_spot (hcell 0 (by omega))
    subst hspot
    have hc := hcell i (by omega)
    have hadd : (⟨b, off, none⟩ : Addr).add i = ⟨b, off + i, none⟩ := by unfold Addr.add; split <;> simp_all
    rw [hadd] at hc
    refine ⟨b, off, rfl, ?_, ?_⟩
    · rcases Nat.lt_or_ge b W.heap.size with hh | hh
      · exact hh
      · simp [World.cell?, Array.getElem?_eq_none hh] at hc
    · have hi2 : i < ss.length := by omega
      have e1 : ss.getD i ByteArray.empty = ss[i] := by rw [List.getD_eq_getElem?_getD, List.getElem?_eq_getElem hi2]; rfl
      have e2 : ((ss.take len).map fun s => s.data.toList).getD i [] = ss[i].data.toList := by
        rw [List.getD_eq_getElem?_getD, List.getElem?_map, List.getElem?_take_of_lt hi, List.getElem?_eq_getElem hi2]
        rfl
      rw [hc, e1, e2]
      rfl
end

section
open Go.RowKit Go.Lib Go.ChangeShapes Go.WideShapes
theorem cells_int13a : Tryz.prog.cellsOf 3 = 1 := by kernel_rfl
theorem cells_authority : Tryz.prog.cellsOf 31 = 5 := by kernel_rfl
theorem cells_strs13 : Tryz.prog.cellsOf 28 = 1 := by kernel_rfl
theorem cells_ints13 : Tryz.prog.cellsOf 29 = 1 := by kernel_rfl
theorem bytes_string13 : Tryz.prog.bytesOf 9 = 16 := by kernel_rfl
theorem weightsAll_mem13 {H : Type} {P : Program} {e : TypeId} {d : DataW H} : ∀ {l : List (DataW H)}, d ∈ l → ∀ n ∈ d.weights P e, n ∈ DataW.weightsAll P e l
  | [], h, _, _ => by cases h
  | x :: r, h, n, hn => by
    simp only [DataW.weightsAll, List.mem_append]
    rcases List.mem_cons.1 h with rfl | h
    · exact Or.inl hn
    · exact Or.inr (weightsAll_mem13 h n hn)
theorem open_il13 {H : Type} {enc : TypeId × Value → H} {W : World} {a0 : Option Addr} {len cap fuel : Nat} {x : DataW H × List MemPlace}
    (hf : DataW.trod enc Tryz.prog W 0 (fun _ => true) true fuel 29 [.slice a0 len cap] = some x) :
    ∃ l : List Int, IL (.slice a0 len cap) l W ∧ l.length ≤ 9223372036854775807 := by
  rcases open_ints Tryz.underlying29 Tryz.underlying3 cells_int13a hf with ⟨hcs, hx⟩ | ⟨a, len', cap', zs, hcs, _, hl, hm, hz, hx, hcell, _⟩
  · simp at hcs
    obtain ⟨rfl, rfl, rfl⟩ := hcs
    exact ⟨[], ⟨none, 0, rfl, Nat.le_refl _, fun i x hi => by simp at hi⟩, Nat.zero_le _⟩
  · simp at hcs
    obtain ⟨rfl, rfl, rfl⟩ := hcs
    simp only [if_true] at hz
    obtain ⟨b, off, spot⟩ := a
    have hlen : (zs.take len).length = len := by simp; omega
    refine ⟨zs.take len, ⟨some ⟨b, off, spot⟩, cap, by rw [hlen], by omega, fun i X hX => ?_⟩, by rw [hlen]; unfold maxLen at hm; omega⟩
    have hj : i < len := by
      have := (List.getElem?_eq_some_iff.1 hX).1
      simp at this
      omega
    have hspot : spot = none := by simpa [Addr.add] using World.cell?_spot (hcell 0 (by omega))
    subst hspot
    have hX' : zs.getD i 0 = X := by
      rw [List.getElem?_take_of_lt hj] at hX
      simp [List.getD, hX]
    have hc := hcell i (by omega)
    have hadd : (⟨b, off, none⟩ : Addr).add i = ⟨b, off + i, none⟩ := by unfold Addr.add; split <;> simp_all
    rw [hadd, hX'] at hc
    refine ⟨b, off, rfl, ?_, hc⟩
    rcases Nat.lt_or_ge b W.heap.size with hh | hh
    · exact hh
    · simp [World.cell?, Array.getElem?_eq_none hh] at hc
theorem open_ilv13 {H : Type} {enc : TypeId × Value → H} {W : World} {c : Value} {fuel : Nat} {x : DataW H × List MemPlace}
    (hf : DataW.trod enc Tryz.prog W 0 (fun _ => true) true fuel 29 [c] = some x) : ∃ l : List Int, IL c l W := by
  rcases DataW.trod_slice Tryz.underlying29 hf with ⟨hcs, _⟩ | ⟨a, len, cap, elems, rest, n, _, hcs, _⟩
  · simp only [List.cons.injEq, and_true] at hcs
    subst hcs
    exact ⟨[], IL.nil W⟩
  · simp only [List.cons.injEq, and_true] at hcs
    subst hcs
    obtain ⟨l, h, _⟩ := open_il13 hf
    exact ⟨l, h⟩
theorem open_bls13 {H : Type} {enc : TypeId × Value → H} {W : World} {c : Value} {fuel : Nat} {x : DataW H × List MemPlace}
    (hf : DataW.trod enc Tryz.prog W 0 (fun _ => true) true fuel 28 [c] = some x) (hw : ∀ k ∈ x.1.weights Tryz.prog 28, k ≤ reachBytes) : ∃ L : List (List UInt8), BL c L W ∧ L.length * 16 ≤ 140737488351232 := by
  obtain ⟨L, hL⟩ := open_bl hf
  refine ⟨L, hL, ?_⟩
  obtain ⟨a', cap', hv, _, _⟩ := hL.length
  rcases DataW.trod_slice Tryz.underlying28 hf with ⟨hcs, _⟩ | ⟨a, len, cap, elems, rest, n, _, hcs, hx, _, _, _, hlen, _⟩
  · simp only [List.cons.injEq, and_true] at hcs
    rw [hcs] at hv
    have := (Value.slice.inj hv).2.1
    omega
  · simp only [List.cons.injEq, and_true] at hcs
    rw [hcs] at hv
    have h1 := (Value.slice.inj hv).2.1
    have h2 := hw ((elems.length + rest.length) * 16) (by rw [hx]; simp [DataW.weights, Tryz.underlying28, bytes_string13])
    unfold reachBytes at h2
    omega
set_option maxRecDepth 100000 in
/-- An authority's five cells. -/
theorem open_au5 {H : Type} {enc : TypeId × Value → H} {W : World} {fuel : Nat} {cs : List Value} {x : DataW H × List MemPlace} (hl : cs.length = 5)
    (hf : DataW.trod enc Tryz.prog W 0 (fun _ => true) true fuel 31 cs = some x) (hw : ∀ k ∈ x.1.weights Tryz.prog 31, k ≤ reachBytes) :
    ∃ (a : Au) (s t : Value), cs = [.int .i64 a.id, .int .i64 a.kind, .string (S a.heading), s, t] ∧ AN a s t W ∧ a.see.length * 16 ≤ 140737488351232 := by
  obtain ⟨c0, c1, c2, c3, c4, rfl⟩ : ∃ c0 c1 c2 c3 c4, cs = [c0, c1, c2, c3, c4] := by
    match cs, hl with
    | [c0, c1, c2, c3, c4], _ => exact ⟨c0, c1, c2, c3, c4, rfl⟩
  obtain ⟨xs, n, _, hx, _, hxl, hfl⟩ := DataW.trod_struct Tryz.underlying31 hf
  have key : ∀ j, j < 5 → ∃ y, xs[j]? = some y := by
    intro j hj
    have hxl5 : xs.length = 5 := hxl.trans rfl
    exact ⟨xs[j]'(by omega), List.getElem?_eq_getElem (by omega)⟩
  have f0 := hfl 0 _ rfl
  have f1 := hfl 1 _ rfl
  have f2 := hfl 2 _ rfl
  have f3 := hfl 3 _ rfl
  have f4 := hfl 4 _ rfl
  obtain ⟨y0, e0⟩ := key 0 (by decide)
  obtain ⟨y1, e1⟩ := key 1 (by decide)
  obtain ⟨y2, e2⟩ := key 2 (by decide)
  obtain ⟨y3, e3⟩ := key 3 (by decide)
  obtain ⟨y4, e4⟩ := key 4 (by decide)
  rw [e0] at f0
  rw [e1] at f1
  rw [e2] at f2
  rw [e3] at f3
  rw [e4] at f4
  change DataW.trod enc Tryz.prog W 0 (fun _ => true) true n 3 (([c0, c1, c2, c3, c4].drop 0).take (Tryz.prog.cellsOf 3)) = some y0 at f0
  rw [cells_int13a] at f0
  change DataW.trod enc Tryz.prog W 0 (fun _ => true) true n 3 (([c0, c1, c2, c3, c4].drop 1).take (Tryz.prog.cellsOf 3)) = some y1 at f1
  rw [cells_int13a] at f1
  change DataW.trod enc Tryz.prog W 0 (fun _ => true) true n 9 (([c0, c1, c2, c3, c4].drop 2).take (Tryz.prog.cellsOf 9)) = some y2 at f2
  rw [cells_string] at f2
  change DataW.trod enc Tryz.prog W 0 (fun _ => true) true n 28 (([c0, c1, c2, c3, c4].drop 3).take (Tryz.prog.cellsOf 28)) = some y3 at f3
  rw [cells_strs13] at f3
  change DataW.trod enc Tryz.prog W 0 (fun _ => true) true n 29 (([c0, c1, c2, c3, c4].drop 4).take (Tryz.prog.cellsOf 29)) = some y4 at f4
  rw [cells_ints13] at f4
  obtain ⟨z0, a0, _, _⟩ := DataW.trod_int Tryz.underlying3 f0
  obtain ⟨z1, a1, _, _⟩ := DataW.trod_int Tryz.underlying3 f1
  obtain ⟨s2, a2, _, _⟩ := DataW.trod_string Tryz.underlying9 f2
  have hw3 : ∀ k ∈ y3.1.weights Tryz.prog 28, k ≤ reachBytes := fun k hk => hw k (by
    rw [hx]
    simp only [DataW.weights, Tryz.underlying31]
    exact DataW.weights_mem_each (j := 3) rfl (by rw [List.getElem?_map, e3]; rfl) k hk)
  obtain ⟨L, hL, hz⟩ := open_bls13 (c := c3) f3 hw3
  obtain ⟨l, hI⟩ := open_ilv13 (c := c4) f4
  simp at a0 a1 a2
  exact ⟨⟨z0, z1, s2.data.toList, L, l⟩, c3, c4, by rw [a0, a1, a2]; rfl, ⟨hL, hI⟩, hz⟩
set_option maxRecDepth 100000 in
/-- A slice of authorities. -/
theorem open_al {H : Type} {enc : TypeId × Value → H} {W : World} {c : Value} {fuel : Nat} {x : DataW H × List MemPlace}
    (hf : DataW.trod enc Tryz.prog W 0 (fun _ => true) true fuel 22 [c] = some x) (hw : ∀ k ∈ x.1.weights Tryz.prog 22, k ≤ reachBytes) :
    ∃ L : List Au, AL c L W ∧ ∀ a ∈ L, a.see.length * 16 ≤ 140737488351232 := by
  rcases DataW.trod_slice Tryz.underlying22 hf with ⟨hcs, _⟩ | ⟨a, len, cap, elems, rest, n, _, hcs, hx, _, hl, hm, hlen, hel, _, _⟩
  · simp only [List.cons.injEq, and_true] at hcs
    subst hcs
    exact ⟨[], AL.nil W, fun r hr => by cases hr⟩
  · simp only [List.cons.injEq, and_true] at hcs
    subst hcs
    obtain ⟨b, off, spot⟩ := a
    have each : ∀ i, i < len → ∃ s : Au × Value × Value, ((W.cell? ((⟨b, off, spot⟩ : Addr).add (i * 5)) = some (.int .i64 s.1.id) ∧ W.cell? (((⟨b, off, spot⟩ : Addr).add (i * 5)).add 1) = some (.int .i64 s.1.kind) ∧
        W.cell? (((⟨b, off, spot⟩ : Addr).add (i * 5)).add 2) = some (.string (S s.1.heading)) ∧ W.cell? (((⟨b, off, spot⟩ : Addr).add (i * 5)).add 3) = some s.2.1 ∧ W.cell? (((⟨b, off, spot⟩ : Addr).add (i * 5)).add 4) = some s.2.2) ∧ AN s.1 s.2.1 s.2.2 W) ∧ s.1.see.length * 16 ≤ 140737488351232 := by
      intro i hi
      have h := hel i hi
      rw [cells_authority] at h
      have hsome : ∃ y, elems[i]? = some y := ⟨elems[i]'(by omega), List.getElem?_eq_getElem (by omega)⟩
      obtain ⟨y, hy⟩ := hsome
      rw [hy, Option.bind_eq_some_iff] at h
      obtain ⟨cs', hcs, hy'⟩ := h
      obtain ⟨_, hl2, hat⟩ := World.cells?_some hcs
      have hwy : ∀ k ∈ y.1.weights Tryz.prog 31, k ≤ reachBytes := fun k hk => hw k (by
        rw [hx]
        simp only [DataW.weights, Tryz.underlying22, List.mem_cons, List.mem_append]
        exact Or.inr (Or.inl (weightsAll_mem13 (List.mem_map.2 ⟨y, List.mem_of_getElem? hy, rfl⟩) k hk)))
      obtain ⟨f, u, t, hs, hq, hlm⟩ := open_au5 hl2 hy' hwy
      subst hs
      have a0 := hat 0 (by decide)
      have a1 := hat 1 (by decide)
      have a2 := hat 2 (by decide)
      have a3 := hat 3 (by decide)
      have a4 := hat 4 (by decide)
      have e0 : ((⟨b, off, spot⟩ : Addr).add (i * 5)).add 0 = (⟨b, off, spot⟩ : Addr).add (i * 5) := by
        unfold Addr.add
        split <;> simp_all
      rw [e0] at a0
      exact ⟨(f, u, t), ⟨⟨a0, a1, a2, a3, a4⟩, hq⟩, hlm⟩
    obtain ⟨F, hF⟩ : ∃ F : Nat → Au × Value × Value, ∀ i, i < len → ((W.cell? ((⟨b, off, spot⟩ : Addr).add (i * 5)) = some (.int .i64 (F i).1.id) ∧ W.cell? (((⟨b, off, spot⟩ : Addr).add (i * 5)).add 1) = some (.int .i64 (F i).1.kind) ∧
        W.cell? (((⟨b, off, spot⟩ : Addr).add (i * 5)).add 2) = some (.string (S (F i).1.heading)) ∧ W.cell? (((⟨b, off, spot⟩ : Addr).add (i * 5)).add 3) = some (F i).2.1 ∧ W.cell? (((⟨b, off, spot⟩ : Addr).add (i * 5)).add 4) = some (F i).2.2) ∧ AN (F i).1 (F i).2.1 (F i).2.2 W) ∧ (F i).1.see.length * 16 ≤ 140737488351232 :=
      ⟨fun i => if h : i < len then (each i h).choose else (au0, .nilIface, .nilIface), fun i hi => by
        have := (each i hi).choose_spec
        simp only [dif_pos hi]
        exact this⟩
    have hl2 : ((List.range len).map fun i => (F i).1).length = len := by simp
    refine ⟨(List.range len).map fun i => (F i).1, ⟨some ⟨b, off, spot⟩, cap, by rw [hl2], by omega, hm, (fun h => by cases h), fun i hi => ?_⟩, fun r hr => ?_⟩
    · rw [hl2] at hi
      have hspot : spot = none := by simpa [Addr.add] using World.cell?_spot (hF 0 (by omega)).1.1.1
      subst hspot
      have hg : ((List.range len).map fun i => (F i).1).getD i au0 = (F i).1 := by
        rw [List.getD_eq_getElem?_getD, List.getElem?_map, List.getElem?_range hi]
        rfl
      obtain ⟨⟨⟨c0, c1, c2, c3, c4⟩, hq⟩, -⟩ := hF i hi
      have hadd : (⟨b, off, none⟩ : Addr).add (i * 5) = ⟨b, off + i * 5, none⟩ := by unfold Addr.add; split <;> simp_all
      have hadd2 : ∀ k, (⟨b, off + i * 5, none⟩ : Addr).add k = ⟨b, off + i * 5 + k, none⟩ := fun k => by unfold Addr.add; split <;> simp_all
      rw [hadd] at c0 c1 c2 c3 c4
      rw [hadd2] at c1 c2 c3 c4
      rw [hg]
      refine ⟨b, off, _, _, rfl, ?_, c0, c1, c2, c3, c4, hq⟩
      rcases Nat.lt_or_ge b W.heap.size with hh | hh
      · exact hh
      · simp [World.cell?, Array.getElem?_eq_none hh] at c0
    · obtain ⟨i, hi, rfl⟩ := List.mem_map.1 hr
      exact (hF i (List.mem_range.1 hi)).2
set_option maxRecDepth 100000 in
/-- An authority. -/
theorem open_au {H : Type} {enc : TypeId × Value → H} {W : World} {base : Nat} {v : Value} {d : DataW H} {p : List MemPlace} (hv : Value.okWide Tryz.prog W .any base 31 v)
    (h : DataW.Trod enc Tryz.prog W 0 (fun _ => true) true 31 v d p) (hw : ∀ k ∈ d.weights Tryz.prog 31, k ≤ reachBytes) :
    ∃ (a : Au) (s t : Value), v = AV a s t ∧ AN a s t W ∧ a.see.length * 16 ≤ 140737488351232 := by
  have hv2 : ∃ cs, v = .agg cs ∧ cs.size = Tryz.prog.cellsOf 31 := by
    unfold Value.okWide at hv
    rw [Tryz.underlying31] at hv
    obtain ⟨cs, h1, h2, _⟩ := hv
    exact ⟨cs, h1, h2⟩
  obtain ⟨cs, rfl, hsz⟩ := hv2
  rw [cells_authority] at hsz
  obtain ⟨fuel, hf⟩ := h
  obtain ⟨a, s, t, hc, hq, hz⟩ := open_au5 (cs := cs.toList) (by simpa using hsz) (by simpa [Value.cells] using hf) hw
  refine ⟨a, s, t, ?_, hq, hz⟩
  unfold AV
  rw [show cs = cs.toList.toArray by simp, hc]
end

end Go.Proofs.YtmcolapcmjdoeaaGreatDoor
