/- Merged: LA15, ShapedAnd, ArgsQ, ArgsR. -/
import Derived.Test.YtfjfpefpdlecbaaGreatDoorQ15
import Derived.Test.YtfjfpefpdlecbaaGreatDoorQ16
import Derived.Test.YtfjfpefpdlecbaaGreatDoorQ39
import Derived.Test.YtfjfpefpdlecbaaGreatDoorQ14
import Derived.Test.YtfjfpefpdlecbaaGreatDoorProg
import Derived.Handed
import Derived.Test.YtfjfpefpdlecbaaGreatDoorQ03
import Derived.Test.YtfjfpefpdlecbaaGreatDoorRows
import Derived.SliceStrings
import Derived.Lib.SmallJoins
import Derived.Carry
namespace Go.Proofs.YtfjfpefpdlecbaaGreatDoor

section
open Go.RowKit Go.PlainAid
theorem okN_of (m : MRule) (h : rightM m = 0) : okN m := fun k hk => by
  have := (right_key m h).2.2.1 k hk
  exact ⟨this.2.2.1, this.2.2.2.1⟩
def SP.mv15 : SP := ⟨fun v w => ∃ x, v = MV standardM x ∧ KL x standardM.keys w, fun _ _ _ h hb => by obtain ⟨x, h1, h2⟩ := h; exact ⟨x, h1, h2.after hb⟩⟩
set_option maxHeartbeats 16000000 in
set_option maxRecDepth 100000 in
theorem lawRight15_any (m : MRule) (mv : Value) (w : World) (hE : Env w) (hm : KL mv m.keys w) :
    Calls Tryz.prog 3 #[MV m mv] w fun e w' => e = .returned (.bool true) ∧ Below w.heap.size w w' := by
  obtain ⟨W0, hW0⟩ : ∃ W0, w.alloc (.cells #[mv, .int .i64 m.need] 24) = W0 := ⟨_, rfl⟩
  have b0 : Below w.heap.size w W0 := by rw [← hW0]; exact (Below.refl w.heap.size w).alloc (Nat.le_refl _) _
  have hX : W0.heap[w.heap.size]? = some (.cells #[mv, .int .i64 m.need] 24 (0, 0)) := by rw [← hW0]; exact heap_alloc_new w _
  have hlt : w.heap.size < W0.heap.size := by rw [← hW0]; simp
  have HMx := Lib.hid (fun (W : World) (h : Below W0.heap.size W0 W) => (h.block w.heap.size hlt).trans hX)
  have HBw := Lib.hid (fun (W : World) (h : Below W0.heap.size W0 W) => b0.trans (h.mono b0.size))
  have cA := Lib.hid (fun (W : World) (h : Below W0.heap.size W0 W) => lalive15_any W (hE.after (HBw.out W h)))
  have cP := Lib.hid (fun (W : World) (h : Below W0.heap.size W0 W) => pRight15_any m mv W (hE.after (HBw.out W h)) (hm.after (HBw.out W h)))
  have cR := Lib.hid (fun (W : World) (h : Below W0.heap.size W0 W) => refRight15_any m mv W (hm.after (HBw.out W h)))
  have cSp := Lib.hid pStd15_any
  have cSr := Lib.hid refStd15_any
  have cSame := Lib.hid (fun (p q : Value) (W : World) (h1 : SP.mv15.p p W) (h2 : SP.mv15.p q W) => show Calls Tryz.prog 12 #[p, q] W (fun e w' => e = .returned (.bool true) ∧ Below W.heap.size W w') from by
    obtain ⟨x, rfl, k1⟩ := h1
    obtain ⟨y, rfl, k2⟩ := h2
    exact refSameRule_eq standardM x y W k1 k2)
  obtain ⟨ma, mc, hv⟩ : ∃ a cap, mv = .slice a m.keys.length cap := by
    obtain ⟨a, cap, h, -⟩ := hm
    exact ⟨a, cap, h⟩
  unfold MV at cP cR ⊢
  subst hv
  have HW0 := Lib.hid hW0
  clear hW0 hX hlt b0 hm hE
  generalize m.keys.length = mn at *
  generalize m.need = need at *
  generalize rightM m = rr at *
  go_enter Tryz.func3, Tryz.ntmps3
  go_upto_region 1 with fail
  rw [HW0.out]
  clear HW0
  apply wp_region_inv (V := [.eq (.bool true), .eq (.bool true), .eq (.agg #[.slice ma mn mc, .int .i64 need]), .eq (.int .i64 rr), .eq (.agg #[.slice ma mn mc, .int .i64 need]), .eq (.int .i64 rr), .eq (.bool true), .eq (.bool true), .eq (.bool true), .mv15, .mv15, .eq (.bool true), .eq (.bool true), .eq (.bool true)])
  case hm => kernel_rfl
  case hd => kernel_rfl
  case hb => kernel_rfl
  case hA =>
    intro vs
    simp only [puts, Act.put, List.setIfInBounds_toArray, List.set_cons_zero, List.set_cons_succ]
    exact rfl
  case hob =>
    refine Obs.cons _ _ _ _ _ _ ?o0 (Obs.cons _ _ _ _ _ _ ?o1 (Obs.cons _ _ _ _ _ _ ?o2 (Obs.cons _ _ _ _ _ _ ?o3 (Obs.cons _ _ _ _ _ _ ?o4 (Obs.cons _ _ _ _ _ _ ?o5 (Obs.cons _ _ _ _ _ _ ?o6 (Obs.cons _ _ _ _ _ _ ?o7 (Obs.cons _ _ _ _ _ _ ?o8 (Obs.cons _ _ _ _ _ _ ?o9 (Obs.cons _ _ _ _ _ _ ?o10 (Obs.cons _ _ _ _ _ _ ?o11 (Obs.cons _ _ _ _ _ _ ?o12 (Obs.cons _ _ _ _ _ _ ?o13 (Obs.nil _ _ _ _ _ _))))))))))))))
    case o0 =>
      intro vs W hw hd K hK
      go_simp
      refine (cA.out W hw).mono ?_
      rintro e W' ⟨rfl, hb'⟩
      exact hK.out _ _ rfl hb'
    case o1 =>
      intro vs W hw hd K hK
      have h0 : vs 0 = .bool true := hd 0 (by kernel_rfl)
      simp only [Nat.reduceAdd, h0] at hK ⊢
      go_simp
      exact hK.out _ _ rfl (Below.refl _ _)
    case o2 =>
      intro vs W hw hd K hK
      have h1 : vs 1 = .bool true := hd 1 (by kernel_rfl)
      obtain ⟨m0, m1⟩ := mcells2 (HMx.out W hw)
      simp only [Nat.reduceAdd, h1] at hK ⊢
      go_simp
      exact hK.out _ _ rfl (Below.refl _ _)
    case o3 =>
      intro vs W hw hd K hK
      have h1 : vs 1 = .bool true := hd 1 (by kernel_rfl)
      have h2 : vs 2 = .agg #[.slice ma mn mc, .int .i64 need] := hd 2 (by kernel_rfl)
      simp only [Nat.reduceAdd, h1, h2] at hK ⊢
      go_simp
      refine (cP.out W hw).mono ?_
      rintro e W' ⟨rfl, hb'⟩
      exact hK.out _ _ rfl hb'
    case o4 =>
      intro vs W hw hd K hK
      have h1 : vs 1 = .bool true := hd 1 (by kernel_rfl)
      obtain ⟨m0, m1⟩ := mcells2 (HMx.out W hw)
      simp only [Nat.reduceAdd, h1] at hK ⊢
      go_simp
      exact hK.out _ _ rfl (Below.refl _ _)
    case o5 =>
      intro vs W hw hd K hK
      have h1 : vs 1 = .bool true := hd 1 (by kernel_rfl)
      have h4 : vs 4 = .agg #[.slice ma mn mc, .int .i64 need] := hd 4 (by kernel_rfl)
      simp only [Nat.reduceAdd, h1, h4] at hK ⊢
      go_simp
      refine (cR.out W hw).mono ?_
      rintro e W' ⟨rfl, hb'⟩
      exact hK.out _ _ rfl hb'
    case o6 =>
      intro vs W hw hd K hK
      have h1 : vs 1 = .bool true := hd 1 (by kernel_rfl)
      have h3 : vs 3 = .int .i64 rr := hd 3 (by kernel_rfl)
      have h5 : vs 5 = .int .i64 rr := hd 5 (by kernel_rfl)
      simp only [Nat.reduceAdd, h1, h3, h5] at hK ⊢
      go_simp
      exact hK.out _ _ rfl (Below.refl _ _)
    case o7 =>
      intro vs W hw hd K hK
      have h1 : vs 1 = .bool true := hd 1 (by kernel_rfl)
      have h6 : vs 6 = .bool true := hd 6 (by kernel_rfl)
      simp only [Nat.reduceAdd, h1, h6] at hK ⊢
      go_simp
      exact hK.out _ _ rfl (Below.refl _ _)
    case o8 =>
      intro vs W hw hd K hK
      have h7 : vs 7 = .bool true := hd 7 (by kernel_rfl)
      simp only [Nat.reduceAdd, h7] at hK ⊢
      go_simp
      exact hK.out _ _ rfl (Below.refl _ _)
    case o9 =>
      intro vs W hw hd K hK
      have h8 : vs 8 = .bool true := hd 8 (by kernel_rfl)
      simp only [Nat.reduceAdd, h8] at hK ⊢
      go_simp
      refine (cSp.out W).mono ?_
      rintro e W' ⟨v', rfl, hkl, hb'⟩
      exact hK.out _ _ ⟨v', rfl, hkl⟩ hb'
    case o10 =>
      intro vs W hw hd K hK
      have h8 : vs 8 = .bool true := hd 8 (by kernel_rfl)
      simp only [Nat.reduceAdd, h8] at hK ⊢
      go_simp
      refine (cSr.out W).mono ?_
      rintro e W' ⟨v', rfl, hkl, hb'⟩
      exact hK.out _ _ ⟨v', rfl, hkl⟩ hb'
    case o11 =>
      intro vs W hw hd K hK
      have h8 : vs 8 = .bool true := hd 8 (by kernel_rfl)
      have q9 : SP.mv15.p (vs 9) W := hd 9 (by kernel_rfl)
      have q10 : SP.mv15.p (vs 10) W := hd 10 (by kernel_rfl)
      simp only [Nat.reduceAdd, h8] at hK ⊢
      go_simp
      refine (cSame.out (vs 9) (vs 10) W q9 q10).mono ?_
      rintro e W' ⟨rfl, hb'⟩
      exact hK.out _ _ rfl hb'
    case o12 =>
      intro vs W hw hd K hK
      have h8 : vs 8 = .bool true := hd 8 (by kernel_rfl)
      have h11 : vs 11 = .bool true := hd 11 (by kernel_rfl)
      simp only [Nat.reduceAdd, h8, h11] at hK ⊢
      go_simp
      exact hK.out _ _ rfl (Below.refl _ _)
    case o13 =>
      intro vs W hw hd K hK
      have h12 : vs 12 = .bool true := hd 12 (by kernel_rfl)
      simp only [Nat.reduceAdd, h12] at hK ⊢
      go_simp
      exact hK.out _ _ rfl (Below.refl _ _)
  case hfin =>
    intro vs W hw hd
    have h13 : vs 13 = .bool true := hd 13 (by decide)
    simp only [Nat.reduceAdd, h13]
    have HF := Lib.hid (HBw.out W hw)
    clear hd hw
    go_wp2
    first | exact ⟨rfl, HF.out⟩ | (go_ret; exact ⟨rfl, HF.out⟩)
end

section
theorem lift_shaped {H : Type} {enc : TypeId × Value → H} {a : Assume} {C : Checked} {os : Os} {f : FuncId} {fn : Func} {s : ChangeSpec} {apart fresh handsOn again : Bool} {X : World → Array Value → Prop}
    (hX : ∀ (w w' : World) (args : Array Value), w.heap = w'.heap → X w args → X w' args)
    (own : ownKnob C.prog.godebug = none) (started : os.Started) (noInit : C.prog.inits.idxOf? f = none) (hfn : C.prog.funcs[f]? = some fn)
    (witness : ∃ (w : World) (tape : Tape) (i : Input), w.os = os ∧ (w.forCall tape i).Shaped C.prog ∧ i.vars = [] ∧ Input.okWide C.prog (w.forCall tape i) .any w.heap.size f i ∧
      ((s.pre enc C.prog fn [] apart (w.forCall tape i).memory i.args ∧ X (w.forCall tape i).memory i.args) ∧ sizedMet enc C.prog fn (OpenSpec.ofChange s) apart (w.forCall tape i).memory i.args) ∧ a.holds C.prog (lone (Frame.enter C.prog f i.args .normal) [] (w.forCall tape i)))
    (contract : ∀ (W : World) (base : Nat) (args : Array Value) (ds gs : List (DataW H)) (before : List MemPlace),
      (∀ (j : Nat) t v, fn.params[j]? = some t → args[j]? = some v → Value.okWide C.prog W .any base t v) →
      DataW.Whole enc C.prog fn.params.toList s.vars apart W args.toList ds gs before → X W args → W.ShapedOpen C.prog →
      Calls C.prog f args W fun e W' => ∃ v, e = .returned v ∧ s.post enc C.prog fn apart fresh handsOn again W args v W') :
    ReturnsInHanded a C os f .any (fun w args => (s.pre enc C.prog fn [] apart w args ∧ X w args) ∧ sizedMet enc C.prog fn (OpenSpec.ofChange s) apart w args) (s.post enc C.prog fn apart fresh handsOn again) := by
  refine returnsInHanded_of_calls own started noInit witness ?_
  intro w tape i _ hsh _ hok hpre _
  obtain ⟨_, _, _, fn2, hfn2, _, _, _, _, hval⟩ := hok
  obtain rfl : fn2 = fn := Option.some.inj (hfn2.symm.trans hfn)
  obtain ⟨⟨⟨ds, gs, before, hw, _⟩, hx⟩, _⟩ := hpre
  refine (contract (w.forCall tape i) w.heap.size i.args ds gs before hval (DataW.Whole.of_heap (by rfl) hw) (hX _ _ _ (by rfl) hx) hsh).mono fun e W' hh => ?_
  obtain ⟨v, rfl, hp⟩ := hh
  exact ChangeSpec.post_blind hp
end

section
open Go.RowKit Go.Lib Go.ChangeShapes Go.WideShapes
theorem laidOut : laidOutB Tryz.prog = true := by kernel_rfl
theorem cells_string : Tryz.prog.cellsOf 9 = 1 := by kernel_rfl
theorem cells_byte : Tryz.prog.cellsOf 5 = 1 := by kernel_rfl
theorem cells_int1 : Tryz.prog.cellsOf 3 = 1 := by kernel_rfl
theorem cells_slice1 : Tryz.prog.cellsOf 55 = 1 := by kernel_rfl
theorem cells_sub : Tryz.prog.cellsOf 70 = 2 := by kernel_rfl

set_option maxRecDepth 100000 in
/-- A subfield's two cells. -/
theorem open_sub {H : Type} {enc : TypeId × Value → H} {W : World} {fuel : Nat} {cs : List Value} {x : DataW H × List MemPlace}
    (hf : DataW.trod enc Tryz.prog W 0 (fun _ => true) true fuel 70 cs = some x) : ∃ s : Sub, cs.take 2 = [.int .u8 (s.1.toNat : Int), .string (S s.2)] := by
  obtain ⟨xs, n, _, _, _, hxl, hfl⟩ := DataW.trod_struct Tryz.underlying70 hf
  have key : ∀ j, j < 2 → ∃ y, xs[j]? = some y := by
    intro j hj
    have hxl2 : xs.length = 2 := hxl.trans rfl
    exact ⟨xs[j]'(by omega), List.getElem?_eq_getElem (by omega)⟩
  have f0 := hfl 0 _ rfl
  have f1 := hfl 1 _ rfl
  obtain ⟨y0, e0⟩ := key 0 (by decide)
  obtain ⟨y1, e1⟩ := key 1 (by decide)
  rw [e0] at f0
  rw [e1] at f1
  change DataW.trod enc Tryz.prog W 0 (fun _ => true) true n 5 ((cs.drop 0).take (Tryz.prog.cellsOf 5)) = some y0 at f0
  rw [cells_byte] at f0
  change DataW.trod enc Tryz.prog W 0 (fun _ => true) true n 9 ((cs.drop 1).take (Tryz.prog.cellsOf 9)) = some y1 at f1
  rw [cells_string] at f1
  obtain ⟨z, a0, _, hw⟩ := DataW.trod_int Tryz.underlying5 f0
  obtain ⟨s1, a1, _, _⟩ := DataW.trod_string Tryz.underlying9 f1
  have hz : 0 ≤ z ∧ z ≤ 255 := by simpa [Lit.wf, IntKind.min, IntKind.max, IntKind.signed, IntKind.bits] using hw
  refine ⟨(UInt8.ofNat z.toNat, s1.data.toList), ?_⟩
  have ez : ((UInt8.ofNat z.toNat).toNat : Int) = z := by
    rw [UInt8.toNat_ofNat']
    omega
  show cs.take 2 = [.int .u8 ((UInt8.ofNat z.toNat).toNat : Int), .string (S s1.data.toList)]
  rw [ez, show S s1.data.toList = s1 from rfl]
  match cs, a0, a1 with
  | [], a0, _ => simp at a0
  | [_], _, a1 => simp at a1
  | c0 :: c1 :: r, a0, a1 =>
    simp at a0 a1
    simp [a0, a1]

set_option maxRecDepth 100000 in
/-- A slice of subfields. -/
theorem open_ql {H : Type} {enc : TypeId × Value → H} {W : World} {c : Value} {fuel : Nat} {x : DataW H × List MemPlace}
    (hf : DataW.trod enc Tryz.prog W 0 (fun _ => true) true fuel 55 [c] = some x) : ∃ L : List Sub, QL c L W := by
  rcases DataW.trod_slice Tryz.underlying55 hf with ⟨hcs, _⟩ | ⟨a, len, cap, elems, rest, n, _, hcs, _, _, hl, hm, hlen, hel, _, _⟩
  · simp only [List.cons.injEq, and_true] at hcs
    subst hcs
    exact ⟨[], none, 0, rfl, Nat.le_refl _, Nat.zero_le _, fun _ => rfl, fun i hi => by cases hi⟩
  · simp only [List.cons.injEq, and_true] at hcs
    subst hcs
    obtain ⟨b, off, spot⟩ := a
    have each : ∀ i, i < len → ∃ s : Sub, W.cell? ((⟨b, off, spot⟩ : Addr).add (i * 2)) = some (.int .u8 (s.1.toNat : Int)) ∧ W.cell? (((⟨b, off, spot⟩ : Addr).add (i * 2)).add 1) = some (.string (S s.2)) := by
      intro i hi
      have h := hel i hi
      rw [cells_sub] at h
      have hsome : ∃ y, elems[i]? = some y := ⟨elems[i]'(by omega), List.getElem?_eq_getElem (by omega)⟩
      obtain ⟨y, hy⟩ := hsome
      rw [hy, Option.bind_eq_some_iff] at h
      obtain ⟨cs', hcs, hy'⟩ := h
      obtain ⟨_, hl2, hat⟩ := World.cells?_some hcs
      obtain ⟨s, hs⟩ := open_sub hy'
      rw [List.take_of_length_le (by omega)] at hs
      subst hs
      have a0 := hat 0 (by decide)
      have a1 := hat 1 (by decide)
      have e0 : ((⟨b, off, spot⟩ : Addr).add (i * 2)).add 0 = (⟨b, off, spot⟩ : Addr).add (i * 2) := by
        unfold Addr.add
        split <;> simp_all
      rw [e0] at a0
      exact ⟨s, a0, a1⟩
    obtain ⟨F, hF⟩ : ∃ F : Nat → Sub, ∀ i, i < len → W.cell? ((⟨b, off, spot⟩ : Addr).add (i * 2)) = some (.int .u8 ((F i).1.toNat : Int)) ∧ W.cell? (((⟨b, off, spot⟩ : Addr).add (i * 2)).add 1) = some (.string (S (F i).2)) :=
      ⟨fun i => if h : i < len then (each i h).choose else sub0, fun i hi => by
        have := (each i hi).choose_spec
        simp only [dif_pos hi]
        exact this⟩
    have hl2 : ((List.range len).map F).length = len := by simp
    refine ⟨(List.range len).map F, some ⟨b, off, spot⟩, cap, by rw [hl2], by omega, hm, (fun h => by cases h), fun i hi => ?_⟩
    rw [hl2] at hi
    have hspot : spot = none := by simpa [Addr.add] using World.cell?_spot (hF 0 (by omega)).1
    subst hspot
    have hg : ((List.range len).map F).getD i sub0 = F i := by
      rw [List.getD_eq_getElem?_getD, List.getElem?_map, List.getElem?_range hi]
      rfl
    obtain ⟨c0, c1⟩ := hF i hi
    have hadd : (⟨b, off, none⟩ : Addr).add (i * 2) = ⟨b, off + i * 2, none⟩ := by unfold Addr.add; split <;> simp_all
    have hadd2 : (⟨b, off + i * 2, none⟩ : Addr).add 1 = ⟨b, off + i * 2 + 1, none⟩ := by unfold Addr.add; split <;> simp_all
    rw [hadd] at c0 c1
    rw [hadd2] at c1
    refine ⟨b, off, rfl, ?_, by rw [hg]; exact c0, by rw [hg]; exact c1⟩
    rcases Nat.lt_or_ge b W.heap.size with hh | hh
    · exact hh
    · simp [World.cell?, Array.getElem?_eq_none hh] at c0

set_option maxRecDepth 100000 in
/-- A field. -/
theorem open_field {H : Type} {enc : TypeId × Value → H} {W : World} {base : Nat} {v : Value} {d : DataW H} {p : List MemPlace} (hv : Value.okWide Tryz.prog W .any base 57 v)
    (h : DataW.Trod enc Tryz.prog W 0 (fun _ => true) true 57 v d p) : ∃ (f : Fld) (u : Value), v = FV f u ∧ QL u f.subs W := by
  have hv2 : ∃ cs, v = .agg cs ∧ cs.size = Tryz.prog.cellsOf 57 := by
    unfold Value.okWide at hv
    rw [Tryz.underlying57] at hv
    obtain ⟨cs, h1, h2, _⟩ := hv
    exact ⟨cs, h1, h2⟩
  obtain ⟨cs, rfl, hsz⟩ := hv2
  have hsz4 : cs.size = 4 := hsz.trans (by kernel_rfl)
  obtain ⟨c0, c1, c2, c3, rfl⟩ : ∃ c0 c1 c2 c3, cs = #[c0, c1, c2, c3] := by
    obtain ⟨l⟩ := cs
    match l, hsz4 with
    | [c0, c1, c2, c3], _ => exact ⟨c0, c1, c2, c3, rfl⟩
  obtain ⟨fuel, hf⟩ := h
  obtain ⟨xs, n, _, _, _, hxl, hfl⟩ := DataW.trod_struct Tryz.underlying57 hf
  have key : ∀ j, j < 4 → ∃ y, xs[j]? = some y := by
    intro j hj
    have hxl4 : xs.length = 4 := hxl.trans rfl
    exact ⟨xs[j]'(by omega), List.getElem?_eq_getElem (by omega)⟩
  have f0 := hfl 0 _ rfl
  have f1 := hfl 1 _ rfl
  have f2 := hfl 2 _ rfl
  have f3 := hfl 3 _ rfl
  obtain ⟨y0, e0⟩ := key 0 (by decide)
  obtain ⟨y1, e1⟩ := key 1 (by decide)
  obtain ⟨y2, e2⟩ := key 2 (by decide)
  obtain ⟨y3, e3⟩ := key 3 (by decide)
  rw [e0] at f0
  rw [e1] at f1
  rw [e2] at f2
  rw [e3] at f3
  change DataW.trod enc Tryz.prog W 0 (fun _ => true) true n 9 (([c0, c1, c2, c3].drop 0).take (Tryz.prog.cellsOf 9)) = some y0 at f0
  rw [cells_string] at f0
  change DataW.trod enc Tryz.prog W 0 (fun _ => true) true n 9 (([c0, c1, c2, c3].drop 1).take (Tryz.prog.cellsOf 9)) = some y1 at f1
  rw [cells_string] at f1
  change DataW.trod enc Tryz.prog W 0 (fun _ => true) true n 55 (([c0, c1, c2, c3].drop 2).take (Tryz.prog.cellsOf 55)) = some y2 at f2
  rw [cells_slice1] at f2
  change DataW.trod enc Tryz.prog W 0 (fun _ => true) true n 3 (([c0, c1, c2, c3].drop 3).take (Tryz.prog.cellsOf 3)) = some y3 at f3
  rw [cells_int1] at f3
  obtain ⟨s0, a0, _, _⟩ := DataW.trod_string Tryz.underlying9 f0
  obtain ⟨s1, a1, _, _⟩ := DataW.trod_string Tryz.underlying9 f1
  obtain ⟨z3, a3, _, _⟩ := DataW.trod_int Tryz.underlying3 f3
  obtain ⟨L, hL⟩ := open_ql (c := c2) f2
  simp at a0 a1 a3
  exact ⟨⟨s0.data.toList, s1.data.toList, L, z3⟩, c2, by rw [a0, a1, a3]; rfl, hL⟩
end

section
open Go.RowKit Go.Lib Go.ChangeShapes Go.WideShapes
theorem cells_field : Tryz.prog.cellsOf 57 = 4 := by kernel_rfl
theorem cells_slicef : Tryz.prog.cellsOf 31 = 1 := by kernel_rfl

set_option maxRecDepth 100000 in
/-- A field's four cells. -/
theorem open_fld4 {H : Type} {enc : TypeId × Value → H} {W : World} {fuel : Nat} {cs : List Value} {x : DataW H × List MemPlace} (hl : cs.length = 4)
    (hf : DataW.trod enc Tryz.prog W 0 (fun _ => true) true fuel 57 cs = some x) : ∃ (f : Fld) (u : Value), cs = [.string (S f.tag), .string (S f.ind), u, .int .i64 f.auth] ∧ QL u f.subs W := by
  obtain ⟨c0, c1, c2, c3, rfl⟩ : ∃ c0 c1 c2 c3, cs = [c0, c1, c2, c3] := by
    match cs, hl with
    | [c0, c1, c2, c3], _ => exact ⟨c0, c1, c2, c3, rfl⟩
  obtain ⟨xs, n, _, _, _, hxl, hfl⟩ := DataW.trod_struct Tryz.underlying57 hf
  have key : ∀ j, j < 4 → ∃ y, xs[j]? = some y := by
    intro j hj
    have hxl4 : xs.length = 4 := hxl.trans rfl
    exact ⟨xs[j]'(by omega), List.getElem?_eq_getElem (by omega)⟩
  have f0 := hfl 0 _ rfl
  have f1 := hfl 1 _ rfl
  have f2 := hfl 2 _ rfl
  have f3 := hfl 3 _ rfl
  obtain ⟨y0, e0⟩ := key 0 (by decide)
  obtain ⟨y1, e1⟩ := key 1 (by decide)
  obtain ⟨y2, e2⟩ := key 2 (by decide)
  obtain ⟨y3, e3⟩ := key 3 (by decide)
  rw [e0] at f0
  rw [e1] at f1
  rw [e2] at f2
  rw [e3] at f3
  change DataW.trod enc Tryz.prog W 0 (fun _ => true) true n 9 (([c0, c1, c2, c3].drop 0).take (Tryz.prog.cellsOf 9)) = some y0 at f0
  rw [cells_string] at f0
  change DataW.trod enc Tryz.prog W 0 (fun _ => true) true n 9 (([c0, c1, c2, c3].drop 1).take (Tryz.prog.cellsOf 9)) = some y1 at f1
  rw [cells_string] at f1
  change DataW.trod enc Tryz.prog W 0 (fun _ => true) true n 55 (([c0, c1, c2, c3].drop 2).take (Tryz.prog.cellsOf 55)) = some y2 at f2
  rw [cells_slice1] at f2
  change DataW.trod enc Tryz.prog W 0 (fun _ => true) true n 3 (([c0, c1, c2, c3].drop 3).take (Tryz.prog.cellsOf 3)) = some y3 at f3
  rw [cells_int1] at f3
  obtain ⟨s0, a0, _, _⟩ := DataW.trod_string Tryz.underlying9 f0
  obtain ⟨s1, a1, _, _⟩ := DataW.trod_string Tryz.underlying9 f1
  obtain ⟨z3, a3, _, _⟩ := DataW.trod_int Tryz.underlying3 f3
  obtain ⟨L, hL⟩ := open_ql (c := c2) f2
  simp at a0 a1 a3
  exact ⟨⟨s0.data.toList, s1.data.toList, L, z3⟩, c2, by rw [a0, a1, a3]; rfl, hL⟩

set_option maxRecDepth 100000 in
/-- A slice of fields. -/
theorem open_fl {H : Type} {enc : TypeId × Value → H} {W : World} {c : Value} {fuel : Nat} {x : DataW H × List MemPlace}
    (hf : DataW.trod enc Tryz.prog W 0 (fun _ => true) true fuel 31 [c] = some x) : ∃ L : List Fld, FL c L W := by
  rcases DataW.trod_slice Tryz.underlying31 hf with ⟨hcs, _⟩ | ⟨a, len, cap, elems, rest, n, _, hcs, _, _, hl, hm, hlen, hel, _, _⟩
  · simp only [List.cons.injEq, and_true] at hcs
    subst hcs
    exact ⟨[], none, 0, rfl, Nat.le_refl _, Nat.zero_le _, fun _ => rfl, fun i hi => by cases hi⟩
  · simp only [List.cons.injEq, and_true] at hcs
    subst hcs
    obtain ⟨b, off, spot⟩ := a
    have each : ∀ i, i < len → ∃ s : Fld × Value, (W.cell? ((⟨b, off, spot⟩ : Addr).add (i * 4)) = some (.string (S s.1.tag)) ∧ W.cell? (((⟨b, off, spot⟩ : Addr).add (i * 4)).add 1) = some (.string (S s.1.ind)) ∧
        W.cell? (((⟨b, off, spot⟩ : Addr).add (i * 4)).add 2) = some s.2 ∧ W.cell? (((⟨b, off, spot⟩ : Addr).add (i * 4)).add 3) = some (.int .i64 s.1.auth)) ∧ QL s.2 s.1.subs W := by
      intro i hi
      have h := hel i hi
      rw [cells_field] at h
      have hsome : ∃ y, elems[i]? = some y := ⟨elems[i]'(by omega), List.getElem?_eq_getElem (by omega)⟩
      obtain ⟨y, hy⟩ := hsome
      rw [hy, Option.bind_eq_some_iff] at h
      obtain ⟨cs', hcs, hy'⟩ := h
      obtain ⟨_, hl2, hat⟩ := World.cells?_some hcs
      obtain ⟨f, u, hs, hq⟩ := open_fld4 hl2 hy'
      subst hs
      have a0 := hat 0 (by decide)
      have a1 := hat 1 (by decide)
      have a2 := hat 2 (by decide)
      have a3 := hat 3 (by decide)
      have e0 : ((⟨b, off, spot⟩ : Addr).add (i * 4)).add 0 = (⟨b, off, spot⟩ : Addr).add (i * 4) := by
        unfold Addr.add
        split <;> simp_all
      rw [e0] at a0
      exact ⟨(f, u), ⟨a0, a1, a2, a3⟩, hq⟩
    obtain ⟨F, hF⟩ : ∃ F : Nat → Fld × Value, ∀ i, i < len → (W.cell? ((⟨b, off, spot⟩ : Addr).add (i * 4)) = some (.string (S (F i).1.tag)) ∧ W.cell? (((⟨b, off, spot⟩ : Addr).add (i * 4)).add 1) = some (.string (S (F i).1.ind)) ∧
        W.cell? (((⟨b, off, spot⟩ : Addr).add (i * 4)).add 2) = some (F i).2 ∧ W.cell? (((⟨b, off, spot⟩ : Addr).add (i * 4)).add 3) = some (.int .i64 (F i).1.auth)) ∧ QL (F i).2 (F i).1.subs W :=
      ⟨fun i => if h : i < len then (each i h).choose else (fd0, .nilIface), fun i hi => by
        have := (each i hi).choose_spec
        simp only [dif_pos hi]
        exact this⟩
    have hl2 : ((List.range len).map fun i => (F i).1).length = len := by simp
    refine ⟨(List.range len).map fun i => (F i).1, some ⟨b, off, spot⟩, cap, by rw [hl2], by omega, hm, (fun h => by cases h), fun i hi => ?_⟩
    rw [hl2] at hi
    have hspot : spot = none := by simpa [Addr.add] using World.cell?_spot (hF 0 (by omega)).1.1
    subst hspot
    have hg : ((List.range len).map fun i => (F i).1).getD i fd0 = (F i).1 := by
      rw [List.getD_eq_getElem?_getD, List.getElem?_map, List.getElem?_range hi]
      rfl
    obtain ⟨⟨c0, c1, c2, c3⟩, hq⟩ := hF i hi
    have hadd : (⟨b, off, none⟩ : Addr).add (i * 4) = ⟨b, off + i * 4, none⟩ := by unfold Addr.add; split <;> simp_all
    have hadd2 : ∀ k, (⟨b, off + i * 4, none⟩ : Addr).add k = ⟨b, off + i * 4 + k, none⟩ := fun k => by unfold Addr.add; split <;> simp_all
    rw [hadd] at c0 c1 c2 c3
    rw [hadd2] at c1 c2 c3
    rw [hg]
    refine ⟨b, off, _, rfl, ?_, c0, c1, c2, c3, hq⟩
    rcases Nat.lt_or_ge b W.heap.size with hh | hh
    · exact hh
    · simp [World.cell?, Array.getElem?_eq_none hh] at c0

set_option maxRecDepth 100000 in
/-- A record, and the bound of its language. -/
theorem open_record_l {H : Type} {enc : TypeId × Value → H} {W : World} {base : Nat} {v : Value} {d : DataW H} {p : List MemPlace} (hv : Value.okWide Tryz.prog W .any base 33 v)
    (h : DataW.Trod enc Tryz.prog W 0 (fun _ => true) true 33 v d p) : ∃ (r : Rec) (u : Value), v = RV r u ∧ FL u r.fields W ∧ r.lang.length ≤ maxLen := by
  have hv2 : ∃ cs, v = .agg cs ∧ cs.size = Tryz.prog.cellsOf 33 := by
    unfold Value.okWide at hv
    rw [Tryz.underlying33] at hv
    obtain ⟨cs, h1, h2, _⟩ := hv
    exact ⟨cs, h1, h2⟩
  obtain ⟨cs, rfl, hsz⟩ := hv2
  have hsz5 : cs.size = 5 := hsz.trans (by kernel_rfl)
  obtain ⟨c0, c1, c2, c3, c4, rfl⟩ : ∃ c0 c1 c2 c3 c4, cs = #[c0, c1, c2, c3, c4] := by
    obtain ⟨l⟩ := cs
    match l, hsz5 with
    | [c0, c1, c2, c3, c4], _ => exact ⟨c0, c1, c2, c3, c4, rfl⟩
  obtain ⟨fuel, hf⟩ := h
  obtain ⟨xs, n, _, _, _, hxl, hfl⟩ := DataW.trod_struct Tryz.underlying33 hf
  have key : ∀ j, j < 5 → ∃ y, xs[j]? = some y := by
    intro j hj
    have hxl5 : xs.length = 5 := hxl.trans rfl
    exact ⟨xs[j]'(by omega), List.getElem?_eq_getElem (by omega)⟩
  have f0 := hfl 0 _ rfl
  have f1 := hfl 1 _ rfl
  have f2 := hfl 2 _ rfl
  have f3 := hfl 3 _ rfl
  have f4 := hfl 4 _ rfl
  obtain ⟨y0, e0⟩ := key 0 (by decide)
  obtain ⟨y1, e1⟩ := key 1 (by decide)
  obtain ⟨y2, e2⟩ := key 2 (by decide)
  obtain ⟨y3, e3⟩ := key 3 (by decide)
  obtain ⟨y4, e4⟩ := key 4 (by decide)
  rw [e0] at f0
  rw [e1] at f1
  rw [e2] at f2
  rw [e3] at f3
  rw [e4] at f4
  change DataW.trod enc Tryz.prog W 0 (fun _ => true) true n 3 (([c0, c1, c2, c3, c4].drop 0).take (Tryz.prog.cellsOf 3)) = some y0 at f0
  rw [cells_int1] at f0
  change DataW.trod enc Tryz.prog W 0 (fun _ => true) true n 3 (([c0, c1, c2, c3, c4].drop 1).take (Tryz.prog.cellsOf 3)) = some y1 at f1
  rw [cells_int1] at f1
  change DataW.trod enc Tryz.prog W 0 (fun _ => true) true n 3 (([c0, c1, c2, c3, c4].drop 2).take (Tryz.prog.cellsOf 3)) = some y2 at f2
  rw [cells_int1] at f2
  change DataW.trod enc Tryz.prog W 0 (fun _ => true) true n 9 (([c0, c1, c2, c3, c4].drop 3).take (Tryz.prog.cellsOf 9)) = some y3 at f3
  rw [cells_string] at f3
  change DataW.trod enc Tryz.prog W 0 (fun _ => true) true n 31 (([c0, c1, c2, c3, c4].drop 4).take (Tryz.prog.cellsOf 31)) = some y4 at f4
  rw [cells_slicef] at f4
  obtain ⟨z0, a0, _, _⟩ := DataW.trod_int Tryz.underlying3 f0
  obtain ⟨z1, a1, _, _⟩ := DataW.trod_int Tryz.underlying3 f1
  obtain ⟨z2, a2, _, _⟩ := DataW.trod_int Tryz.underlying3 f2
  obtain ⟨s3, a3, _, m3⟩ := DataW.trod_string Tryz.underlying9 f3
  obtain ⟨L, hL⟩ := open_fl (c := c4) f4
  simp at a0 a1 a2 a3
  exact ⟨⟨z0, z1, z2, s3.data.toList, L⟩, c4, by rw [a0, a1, a2, a3]; rfl, hL, by rw [Array.length_toList]; exact m3⟩

set_option maxRecDepth 100000 in
/-- A record. -/
theorem open_record {H : Type} {enc : TypeId × Value → H} {W : World} {base : Nat} {v : Value} {d : DataW H} {p : List MemPlace} (hv : Value.okWide Tryz.prog W .any base 33 v)
    (h : DataW.Trod enc Tryz.prog W 0 (fun _ => true) true 33 v d p) : ∃ (r : Rec) (u : Value), v = RV r u ∧ FL u r.fields W := by
  have hh := open_record_l hv h
  exact hh.elim fun r h1 => h1.elim fun u h2 => ⟨r, u, h2.1, h2.2.1⟩
end

end Go.Proofs.YtfjfpefpdlecbaaGreatDoor
