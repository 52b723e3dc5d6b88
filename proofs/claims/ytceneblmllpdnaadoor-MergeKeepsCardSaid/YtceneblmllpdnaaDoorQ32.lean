/- Merged: LA16, ShapedAnd, ArgsQ. -/
import Derived.Test.YtceneblmllpdnaaDoorQ31
import Derived.Test.YtceneblmllpdnaaDoorQ09
import Derived.Test.YtceneblmllpdnaaDoorQ25
import Derived.Laws.StructEq
import Derived.Test.YtceneblmllpdnaaDoorProg
import Derived.Handed
import Derived.Test.YtceneblmllpdnaaDoorQ01
import Derived.Test.YtceneblmllpdnaaDoorRows
import Derived.SliceStrings
import Derived.Lib.SmallJoins
import Derived.Carry
namespace Go.Proofs.YtceneblmllpdnaaDoor

section
open Go.RowKit Go.PlainAid
set_option maxHeartbeats 16000000 in
set_option maxRecDepth 20000 in
theorem lkeeps16_any (l : List Kp) (v : Value) (t : List UInt8) (w : World) (hE : Env w) (hv : KpL v l w) :
    Calls Tryd.prog 3 #[v, .string (S t)] w fun e w' => e = .returned (.bool true) ∧ Below w.heap.size w w' := by
  have HE := Lib.hid hE
  have HV := Lib.hid hv
  obtain ⟨a, ca, g, o, rfl, hca, hm, hga, hxa⟩ := hv.opened
  unfold maxLen at hm
  have HR := Lib.hid (Below.refl w.heap.size w)
  have htl : (S t).size = t.length := by simp [S, ByteArray.size]
  have pK := Lib.hid (fun (W : World) (h : Below w.heap.size w W) => pHow16_any l _ t W (HV.out.after h))
  have rK := Lib.hid (fun (W : World) (h : Below w.heap.size w W) => refHow16_any l _ t W (HV.out.after h))
  have pS := Lib.hid (fun (kv : Value) (W : World) (h : KpL kv stdK W) => pHow16_any stdK kv t W h)
  have rS := Lib.hid (fun (kv : Value) (W : World) (h : KpL kv stdK W) => refHow16_any stdK kv t W h)
  obtain ⟨h1, hh1⟩ : ∃ x, howK l t = x := ⟨_, rfl⟩
  obtain ⟨h2, hh2⟩ : ∃ x, howK stdK t = x := ⟨_, rfl⟩
  rw [hh1] at pK rK
  rw [hh2] at pS rS
  obtain ⟨n, hn⟩ : ∃ x, l.length = x := ⟨_, rfl⟩
  obtain ⟨tn, htn⟩ : ∃ x, t.length = x := ⟨_, rfl⟩
  obtain ⟨st, hst⟩ : ∃ x, S t = x := ⟨_, rfl⟩
  rw [hn] at pK rK hca ⊢
  rw [hst] at pK rK pS rS htl ⊢
  rw [htn] at htl
  clear hE hv hga hxa hh1 hh2 hn htn hst HV
  go_enter Tryd.func3, Tryd.ntmps3
  by_cases q1 : (40 : Int) < (n : Int)
  · go_wp2_with fail
    refine (lalive16_any w HE.out).mono ?_
    rintro e w1 ⟨rfl, hb1⟩
    have HB := Lib.hid hb1
    clear hb1
    go_wp2
    first | exact ⟨rfl, HB.out⟩ | (go_ret; exact ⟨rfl, HB.out⟩)
  have q1' : (n : Int) ≤ 40 := by omega
  by_cases q2 : (100 : Int) < (tn : Int)
  · go_wp2_with fail
    refine (lalive16_any w HE.out).mono ?_
    rintro e w1 ⟨rfl, hb1⟩
    have HB := Lib.hid hb1
    clear hb1
    go_wp2
    first | exact ⟨rfl, HB.out⟩ | (go_ret; exact ⟨rfl, HB.out⟩)
  have q2' : (tn : Int) ≤ 100 := by omega
  go_wp2_with fail
  refine (pStandard16_any w).mono ?_
  rintro e w1 ⟨v1, rfl, hk1, hb1⟩
  obtain ⟨a1, c1, g1, o1, rfl, hc1, hm1, hg1, hx1⟩ := hk1.opened
  obtain rfl := hg1 (by decide)
  have HK1 := Lib.hid hk1
  have HX1 := Lib.hid hx1
  have HB1 := Lib.hid hb1
  clear hk1 hg1 hb1 hx1
  rw [show stdK.length = 10 from rfl] at hc1 HK1 ⊢
  go_wp2_with fail
  refine (refStandard16_any w1).mono ?_
  rintro e w2 ⟨v2, rfl, hk2, hb2⟩
  obtain ⟨a2, c2, g2, o2, rfl, hc2, hm2, hg2, hx2⟩ := hk2.opened
  obtain rfl := hg2 (by decide)
  have HK2 := Lib.hid (HK1.out.after hb2)
  have HX2 := Lib.hid hx2
  have HB2 := Lib.hid hb2
  have HBw := Lib.hid (HB1.out.trans (hb2.mono HB1.out.size))
  clear hk2 hg2 hb2 hx2 HK1
  rw [show stdK.length = 10 from rfl] at hc2 ⊢
  unfold maxLen at hm1 hm2
  have HR2 := Lib.hid (Below.refl w2.heap.size w2)
  go_wp2
  go_loopw [7] (fun s7 wr => ∃ k : Nat, s7 = .int .i64 (k : Int) ∧ k ≤ 10 ∧ RowKit.Hid (Below w2.heap.size w2 wr)) (fun s7 _ => 10 - (intOf s7).toNat)
  case atStart => exact ⟨0, rfl, Nat.zero_le _, HR2.out⟩
  case round =>
    obtain ⟨k, rfl, hk, HB⟩ := hrel
    have i1 : (0 : Int) ≤ (k : Int) := by omega
    by_cases hkn : k < 10
    · have i2 : (k : Int) < 10 := by omega
      obtain ⟨y1, y2⟩ := HX1.out wr (HB2.out.trans (HB.out.mono HB2.out.size)) k hkn
      obtain ⟨z1, z2⟩ := HX2.out wr HB.out k hkn
      generalize S (stdK.getD k kp0).1 = ys at *
      generalize (stdK.getD k kp0).2 = yh at *
      have HBd : RowKit.Hid (Below w2.heap.size w2 wr.drew) := HB.out.drew
      go_wp2_with (go_region)
      go_roundw
      case rel => exact ⟨k + 1, by go_num, by omega, HBd.out⟩
      case measure => simp [intOf]; omega
    · obtain rfl : k = 10 := by omega
      go_wp2_with fail
      refine (lalive16_any _ (HE.out.after (HBw.out.trans (HB.out.mono HBw.out.size)))).mono ?_
      rintro e w3 ⟨rfl, hb3⟩
      have h3w := HBw.out.trans ((HB.out.trans (hb3.mono HB.out.size)).mono HBw.out.size)
      have h32 := HB.out.trans (hb3.mono HB.out.size)
      have HB3 := Lib.hid h3w
      have HB32 := Lib.hid h32
      have cA := Lib.hid (pK.out w3 h3w)
      have HK3 := Lib.hid (HK2.out.after h32)
      clear hb3 h3w h32 HB HX1 HX2
      go_wp2_with fail
      refine cA.out.mono ?_
      rintro e w4 ⟨rfl, hb4⟩
      have HB4 := Lib.hid (HB3.out.trans (hb4.mono HB3.out.size))
      have HK4 := Lib.hid (HK3.out.after hb4)
      have cB := Lib.hid (rK.out w4 HB4.out)
      clear hb4 cA
      go_wp2_with fail
      refine cB.out.mono ?_
      rintro e w5 ⟨rfl, hb5⟩
      have HB5 := Lib.hid (HB4.out.trans (hb5.mono HB4.out.size))
      have HK5 := Lib.hid (HK4.out.after hb5)
      have cC := Lib.hid (pS.out _ w5 HK5.out)
      clear hb5 cB
      go_wp2_with fail
      refine cC.out.mono ?_
      rintro e w6 ⟨rfl, hb6⟩
      have HB6 := Lib.hid (HB5.out.trans (hb6.mono HB5.out.size))
      have HK6 := Lib.hid (HK5.out.after hb6)
      have cD := Lib.hid (rS.out _ w6 HK6.out)
      clear hb6 cC
      go_wp2_with fail
      refine cD.out.mono ?_
      rintro e w7 ⟨rfl, hb7⟩
      have HB7 := Lib.hid (HB6.out.trans (hb7.mono HB6.out.size))
      clear hb7 cD
      go_wp2
      first | exact ⟨rfl, HB7.out⟩ | (go_ret; exact ⟨rfl, HB7.out⟩)
end

section
theorem lift_shaped {H : Type} {enc : TypeId × Value → H} {a : Assume} {C : Checked} {os : Os} {f : FuncId} {fn : Func} {s : ChangeSpec} {apart fresh handsOn again : Bool} {X : World → Array Value → Prop}
    (hX : ∀ (w w' : World) (args : Array Value), w.heap = w'.heap → X w args → X w' args)
    (own : ownKnob C.prog.godebug = none) (started : os.Started) (noInit : C.prog.inits.idxOf? f = none) (hfn : C.prog.funcs[f]? = some fn)
    (witness : ∃ (w : World) (tape : Tape) (i : Input), w.os = os ∧ (w.forCall tape i).Shaped C.prog ∧ i.vars = [] ∧ Input.okWide C.prog (w.forCall tape i) .any w.heap.size f i ∧
      ((s.pre enc C.prog fn [] apart (w.forCall tape i).memory i.args ∧ X (w.forCall tape i).memory i.args) ∧ sizedMet enc C.prog fn (OpenSpec.ofChange s) apart (w.forCall tape i).memory i.args) ∧ a.holds C.prog (lone (Frame.enter C.prog f i.args .normal) [] (w.forCall tape i)))
    (contract : ∀ (W : World) (base : Nat) (args : Array Value) (ds gs : List (DataW H)) (before : List MemPlace),
      (∀ (j : Nat) t v, fn.params[j]? = some t → args[j]? = some v → Value.okWide C.prog W .any base t v) →
      DataW.Whole enc C.prog fn.params.toList s.vars apart W args.toList ds gs before → X W args → W.ShapedOpen C.prog →
      Calls C.prog f args W fun e W' => ∃ v, e = .returned v ∧ s.post enc C.prog fn apart fresh handsOn again W args v W') :
    ReturnsInHanded a C os f .any (fun w args => (s.pre enc C.prog fn [] apart w args ∧ X w args) ∧ sizedMet enc C.prog fn (OpenSpec.ofChange s) apart w args) (s.post enc C.prog fn apart fresh handsOn again) := by
  refine returnsInHanded_of_calls own started noInit witness ?_
  intro w tape i _ hsh _ hok hpre _
  obtain ⟨_, _, _, fn2, hfn2, _, _, _, _, hval⟩ := hok
  obtain rfl : fn2 = fn := Option.some.inj (hfn2.symm.trans hfn)
  obtain ⟨⟨⟨ds, gs, before, hw, _⟩, hx⟩, _⟩ := hpre
  refine (contract (w.forCall tape i) w.heap.size i.args ds gs before hval (DataW.Whole.of_heap (by rfl) hw) (hX _ _ _ (by rfl) hx) hsh).mono fun e W' hh => ?_
  obtain ⟨v, rfl, hp⟩ := hh
  exact ChangeSpec.post_blind hp
end

section
open Go.RowKit Go.Lib Go.ChangeShapes Go.WideShapes
theorem laidOut : laidOutB Tryd.prog = true := by kernel_rfl
theorem cells_string : Tryd.prog.cellsOf 9 = 1 := by kernel_rfl
theorem cells_byte : Tryd.prog.cellsOf 5 = 1 := by kernel_rfl
theorem cells_int1 : Tryd.prog.cellsOf 3 = 1 := by kernel_rfl
theorem cells_slice1 : Tryd.prog.cellsOf 43 = 1 := by kernel_rfl
theorem cells_sub : Tryd.prog.cellsOf 65 = 2 := by kernel_rfl

set_option maxRecDepth 100000 in
/-- A subfield's two cells. -/
theorem open_sub {H : Type} {enc : TypeId × Value → H} {W : World} {fuel : Nat} {cs : List Value} {x : DataW H × List MemPlace}
    (hf : DataW.trod enc Tryd.prog W 0 (fun _ => true) true fuel 65 cs = some x) : ∃ s : Sub, cs.take 2 = [.int .u8 (s.1.toNat : Int), .string (S s.2)] := by
  obtain ⟨xs, n, _, _, _, hxl, hfl⟩ := DataW.trod_struct Tryd.underlying65 hf
  have key : ∀ j, j < 2 → ∃ y, xs[j]? = some y := by
    intro j hj
    have hxl2 : xs.length = 2 := hxl.trans rfl
    exact ⟨xs[j]'(by omega), List.getElem?_eq_getElem (by omega)⟩
  have f0 := hfl 0 _ rfl
  have f1 := hfl 1 _ rfl
  obtain ⟨y0, e0⟩ := key 0 (by decide)
  obtain ⟨y1, e1⟩ := key 1 (by decide)
  rw [e0] at f0
  rw [e1] at f1
  change DataW.trod enc Tryd.prog W 0 (fun _ => true) true n 5 ((cs.drop 0).take (Tryd.prog.cellsOf 5)) = some y0 at f0
  rw [cells_byte] at f0
  change DataW.trod enc Tryd.prog W 0 (fun _ => true) true n 9 ((cs.drop 1).take (Tryd.prog.cellsOf 9)) = some y1 at f1
  rw [cells_string] at f1
  obtain ⟨z, a0, _, hw⟩ := DataW.trod_int Tryd.underlying5 f0
  obtain ⟨s1, a1, _, _⟩ := DataW.trod_string Tryd.underlying9 f1
  have hz : 0 ≤ z ∧ z ≤ 255 := by simpa [Lit.wf, IntKind.min, IntKind.max, IntKind.signed, IntKind.bits] using hw
  refine ⟨(UInt8.ofNat z.toNat, s1.data.toList), ?_⟩
  have ez : ((UInt8.ofNat z.toNat).toNat : Int) = z := by
    rw [UInt8.toNat_ofNat']
    omega
  show cs.take 2 = [.int .u8 ((UInt8.ofNat z.toNat).toNat : Int), .string (S s1.data.toList)]
  rw [ez, show S s1.data.toList = s1 from rfl]
  match cs, a0, a1 with
  | [], a0, _ => simp at a0
  | [_], _, a1 => simp at a1
  | c0 :: c1 :: r, a0, a1 =>
    simp at a0 a1
    simp [a0, a1]

set_option maxRecDepth 100000 in
/-- A slice of subfields. -/
theorem open_ql {H : Type} {enc : TypeId × Value → H} {W : World} {c : Value} {fuel : Nat} {x : DataW H × List MemPlace}
    (hf : DataW.trod enc Tryd.prog W 0 (fun _ => true) true fuel 43 [c] = some x) : ∃ L : List Sub, QL c L W := by
  rcases DataW.trod_slice Tryd.underlying43 hf with ⟨hcs, _⟩ | ⟨a, len, cap, elems, rest, n, _, hcs, _, _, hl, hm, hlen, hel, _, _⟩
  · simp only [List.cons.injEq, and_true] at hcs
    subst hcs
    exact ⟨[], none, 0, rfl, Nat.le_refl _, Nat.zero_le _, fun _ => rfl, fun i hi => by cases hi⟩
  · simp only [List.cons.injEq, and_true] at hcs
    subst hcs
    obtain ⟨b, off, spot⟩ := a
    have each : ∀ i, i < len → ∃ s : Sub, W.cell? ((⟨b, off, spot⟩ : Addr).add (i * 2)) = some (.int .u8 (s.1.toNat : Int)) ∧ W.cell? (((⟨b, off, spot⟩ : Addr).add (i * 2)).add 1) = some (.string (S s.2)) := by
      intro i hi
      have h := hel i hi
      rw [cells_sub] at h
      have hsome : ∃ y, elems[i]? = some y := ⟨elems[i]'(by omega), List.getElem?_eq_getElem (by omega)⟩
      obtain ⟨y, hy⟩ := hsome
      rw [hy, Option.bind_eq_some_iff] at h
      obtain ⟨cs', hcs, hy'⟩ := h
      obtain ⟨_, hl2, hat⟩ := World.cells?_some hcs
      obtain ⟨s, hs⟩ := open_sub hy'
      rw [List.take_of_length_le (by omega)] at hs
      subst hs
      have a0 := hat 0 (by decide)
      have a1 := hat 1 (by decide)
      have e0 : ((⟨b, off, spot⟩ : Addr).add (i * 2)).add 0 = (⟨b, off, spot⟩ : Addr).add (i * 2) := by
        unfold Addr.add
        split <;> simp_all
      rw [e0] at a0
      exact ⟨s, a0, a1⟩
    obtain ⟨F, hF⟩ : ∃ F : Nat → Sub, ∀ i, i < len → W.cell? ((⟨b, off, spot⟩ : Addr).add (i * 2)) = some (.int .u8 ((F i).1.toNat : Int)) ∧ W.cell? (((⟨b, off, spot⟩ : Addr).add (i * 2)).add 1) = some (.string (S (F i).2)) :=
      ⟨fun i => if h : i < len then (each i h).choose else sub0, fun i hi => by
        have := (each i hi).choose_spec
        simp only [dif_pos hi]
        exact this⟩
    have hl2 : ((List.range len).map F).length = len := by simp
    refine ⟨(List.range len).map F, some ⟨b, off, spot⟩, cap, by rw [hl2], by omega, hm, (fun h => by cases h), fun i hi => ?_⟩
    rw [hl2] at hi
    have hspot : spot = none := by simpa [Addr.add] using World.cell?_spot (hF 0 (by omega)).1
    subst hspot
    have hg : ((List.range len).map F).getD i sub0 = F i := by
      rw [List.getD_eq_getElem?_getD, List.getElem?_map, List.getElem?_range hi]
      rfl
    obtain ⟨c0, c1⟩ := hF i hi
    have hadd : (⟨b, off, none⟩ : Addr).add (i * 2) = ⟨b, off + i * 2, none⟩ := by unfold Addr.add; split <;> simp_all
    have hadd2 : (⟨b, off + i * 2, none⟩ : Addr).add 1 = ⟨b, off + i * 2 + 1, none⟩ := by unfold Addr.add; split <;> simp_all
    rw [hadd] at c0 c1
    rw [hadd2] at c1
    refine ⟨b, off, rfl, ?_, by rw [hg]; exact c0, by rw [hg]; exact c1⟩
    rcases Nat.lt_or_ge b W.heap.size with hh | hh
    · exact hh
    · simp [World.cell?, Array.getElem?_eq_none hh] at c0

set_option maxRecDepth 100000 in
/-- A field. -/
theorem open_field {H : Type} {enc : TypeId × Value → H} {W : World} {base : Nat} {v : Value} {d : DataW H} {p : List MemPlace} (hv : Value.okWide Tryd.prog W .any base 45 v)
    (h : DataW.Trod enc Tryd.prog W 0 (fun _ => true) true 45 v d p) : ∃ (f : Fld) (u : Value), v = FV f u ∧ QL u f.subs W := by
  have hv2 : ∃ cs, v = .agg cs ∧ cs.size = Tryd.prog.cellsOf 45 := by
    unfold Value.okWide at hv
    rw [Tryd.underlying45] at hv
    obtain ⟨cs, h1, h2, _⟩ := hv
    exact ⟨cs, h1, h2⟩
  obtain ⟨cs, rfl, hsz⟩ := hv2
  have hsz4 : cs.size = 4 := hsz.trans (by kernel_rfl)
  obtain ⟨c0, c1, c2, c3, rfl⟩ : ∃ c0 c1 c2 c3, cs = #[c0, c1, c2, c3] := by
    obtain ⟨l⟩ := cs
    match l, hsz4 with
    | [c0, c1, c2, c3], _ => exact ⟨c0, c1, c2, c3, rfl⟩
  obtain ⟨fuel, hf⟩ := h
  obtain ⟨xs, n, _, _, _, hxl, hfl⟩ := DataW.trod_struct Tryd.underlying45 hf
  have key : ∀ j, j < 4 → ∃ y, xs[j]? = some y := by
    intro j hj
    have hxl4 : xs.length = 4 := hxl.trans rfl
    exact ⟨xs[j]'(by omega), List.getElem?_eq_getElem (by omega)⟩
  have f0 := hfl 0 _ rfl
  have f1 := hfl 1 _ rfl
  have f2 := hfl 2 _ rfl
  have f3 := hfl 3 _ rfl
  obtain ⟨y0, e0⟩ := key 0 (by decide)
  obtain ⟨y1, e1⟩ := key 1 (by decide)
  obtain ⟨y2, e2⟩ := key 2 (by decide)
  obtain ⟨y3, e3⟩ := key 3 (by decide)
  rw [e0] at f0
  rw [e1] at f1
  rw [e2] at f2
  rw [e3] at f3
  change DataW.trod enc Tryd.prog W 0 (fun _ => true) true n 9 (([c0, c1, c2, c3].drop 0).take (Tryd.prog.cellsOf 9)) = some y0 at f0
  rw [cells_string] at f0
  change DataW.trod enc Tryd.prog W 0 (fun _ => true) true n 9 (([c0, c1, c2, c3].drop 1).take (Tryd.prog.cellsOf 9)) = some y1 at f1
  rw [cells_string] at f1
  change DataW.trod enc Tryd.prog W 0 (fun _ => true) true n 43 (([c0, c1, c2, c3].drop 2).take (Tryd.prog.cellsOf 43)) = some y2 at f2
  rw [cells_slice1] at f2
  change DataW.trod enc Tryd.prog W 0 (fun _ => true) true n 3 (([c0, c1, c2, c3].drop 3).take (Tryd.prog.cellsOf 3)) = some y3 at f3
  rw [cells_int1] at f3
  obtain ⟨s0, a0, _, _⟩ := DataW.trod_string Tryd.underlying9 f0
  obtain ⟨s1, a1, _, _⟩ := DataW.trod_string Tryd.underlying9 f1
  obtain ⟨z3, a3, _, _⟩ := DataW.trod_int Tryd.underlying3 f3
  obtain ⟨L, hL⟩ := open_ql (c := c2) f2
  simp at a0 a1 a3
  exact ⟨⟨s0.data.toList, s1.data.toList, L, z3⟩, c2, by rw [a0, a1, a3]; rfl, hL⟩
end

end Go.Proofs.YtceneblmllpdnaaDoor
