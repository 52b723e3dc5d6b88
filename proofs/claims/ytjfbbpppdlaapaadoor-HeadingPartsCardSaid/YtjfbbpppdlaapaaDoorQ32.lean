/- Merged: LC12, ShapedAnd. -/
import Derived.Test.YtjfbbpppdlaapaaDoorQ31
import Derived.Test.YtjfbbpppdlaapaaDoorProg
import Derived.Handed
namespace Go.Proofs.YtjfbbpppdlaapaaDoor

section
open Go.RowKit Go.PlainAid
set_option maxHeartbeats 16000000 in
set_option maxRecDepth 100000 in
theorem lawParts12_any (a : List UInt8) (w : World) (hE : Env w) :
    Calls Tryd.prog 3 #[.string (S a)] w fun e w' => e = .returned (.bool true) ∧ Below w.heap.size w w' := by
  obtain ⟨Q, hQ⟩ : ∃ Q, (fun (e : Ending) (w' : World) => e = .returned (.bool true) ∧ Below w.heap.size w w') = Q := ⟨_, rfl⟩
  rw [hQ]
  have HQ : RowKit.Hid (∀ e w', (e = .returned (.bool true) ∧ Below w.heap.size w w') → Q e w') := by rw [← hQ]; exact fun _ _ h => h
  clear hQ
  have HE := Lib.hid hE
  have B0 := Lib.hid (Below.refl w.heap.size w)
  have cA := Lib.hid (fun W hW => lalive12_any W hW)
  have cT := Lib.hid (fun W => ltext12_any a W)
  have cN := Lib.hid (fun (h : okT a = true) W hW => pParts12_any a (okT_out a h).2 (Nat.le_trans (okT_out a h).1 (by decide)) W hW)
  have cM := Lib.hid (fun (h : okT a = true) W => refParts_any a (okT_out a h).2 (Nat.le_trans (okT_out a h).1 (by decide)) W)
  obtain ⟨ka, hka⟩ : ∃ k, okT a = k := ⟨_, rfl⟩
  rw [hka] at cT cN cM
  clear hka hE
  generalize partsX a = L at *
  generalize S a = sa at *
  go_enter Tryd.func3, Tryd.ntmps3
  go_wp2_with fail
  refine (cA.out w HE.out).mono ?_
  rintro e w1 ⟨rfl, hb1⟩
  have B1 := Lib.hid (B0.out.trans (hb1.mono B0.out.size))
  clear hb1
  go_wp2_with fail
  refine (cT.out w1).mono ?_
  rintro e w2 ⟨rfl, hb2⟩
  have B2 := Lib.hid (B1.out.trans (hb2.mono B1.out.size))
  clear hb2
  cases ka with
  | false =>
    go_wp2
    first | exact HQ.out _ _ ⟨rfl, B2.out⟩ | (go_ret; exact HQ.out _ _ ⟨rfl, B2.out⟩)
  | true =>
    have hn := cN.out (by simp)
    have hm := cM.out (by simp)
    replace hn := Lib.hid hn
    replace hm := Lib.hid hm
    clear cN cM cT cA
    go_wp2_with fail
    refine (hn.out w2 (HE.out.after B2.out)).mono ?_
    rintro e w3 ⟨v3, rfl, hr3, hb3⟩
    have B3 := Lib.hid (B2.out.trans (hb3.mono B2.out.size))
    obtain ⟨a3, p3, rfl, -, -⟩ := hr3.length
    have H3 := Lib.hid hr3
    clear hb3 hr3 hn
    go_wp2_with fail
    refine (hm.out w3).mono ?_
    rintro e w4 ⟨v4, rfl, hr4, hb4⟩
    have B4 := Lib.hid (B3.out.trans (hb4.mono B3.out.size))
    have c := Lib.hid (refSameList_eq L _ v4 w4 (H3.out.after hb4) hr4.bl)
    obtain ⟨a4, p4, rfl, -, -⟩ := hr4.bl.length
    clear hb4 hr4 hm H3
    go_wp2_with fail
    refine c.out.mono ?_
    rintro e w5 ⟨rfl, hb5⟩
    have B5 := Lib.hid (B4.out.trans (hb5.mono B4.out.size))
    clear hb5
    go_wp2
    first | exact HQ.out _ _ ⟨rfl, B5.out⟩ | (go_ret; exact HQ.out _ _ ⟨rfl, B5.out⟩)
set_option maxHeartbeats 16000000 in
set_option maxRecDepth 100000 in
theorem lawAbove12_any (a : List UInt8) (w : World) (hE : Env w) :
    Calls Tryd.prog 6 #[.string (S a)] w fun e w' => e = .returned (.bool true) ∧ Below w.heap.size w w' := by
  obtain ⟨Q, hQ⟩ : ∃ Q, (fun (e : Ending) (w' : World) => e = .returned (.bool true) ∧ Below w.heap.size w w') = Q := ⟨_, rfl⟩
  rw [hQ]
  have HQ : RowKit.Hid (∀ e w', (e = .returned (.bool true) ∧ Below w.heap.size w w') → Q e w') := by rw [← hQ]; exact fun _ _ h => h
  clear hQ
  have HE := Lib.hid hE
  have B0 := Lib.hid (Below.refl w.heap.size w)
  have cA := Lib.hid (fun W hW => lalive12_any W hW)
  have cT := Lib.hid (fun W => ltext12_any a W)
  have cN := Lib.hid (fun (h : okT a = true) W hW => pAbove12_any a (okT_out a h).2 (Nat.le_trans (okT_out a h).1 (by decide)) W hW)
  have cM := Lib.hid (fun (h : okT a = true) W => refAbove_any a (okT_out a h).2 (Nat.le_trans (okT_out a h).1 (by decide)) W)
  obtain ⟨ka, hka⟩ : ∃ k, okT a = k := ⟨_, rfl⟩
  rw [hka] at cT cN cM
  clear hka hE
  generalize aboveX a = L at *
  generalize S a = sa at *
  go_enter Tryd.func6, Tryd.ntmps6
  go_wp2_with fail
  refine (cA.out w HE.out).mono ?_
  rintro e w1 ⟨rfl, hb1⟩
  have B1 := Lib.hid (B0.out.trans (hb1.mono B0.out.size))
  clear hb1
  go_wp2_with fail
  refine (cT.out w1).mono ?_
  rintro e w2 ⟨rfl, hb2⟩
  have B2 := Lib.hid (B1.out.trans (hb2.mono B1.out.size))
  clear hb2
  cases ka with
  | false =>
    go_wp2
    first | exact HQ.out _ _ ⟨rfl, B2.out⟩ | (go_ret; exact HQ.out _ _ ⟨rfl, B2.out⟩)
  | true =>
    have hn := cN.out (by simp)
    have hm := cM.out (by simp)
    replace hn := Lib.hid hn
    replace hm := Lib.hid hm
    clear cN cM cT cA
    go_wp2_with fail
    refine (hn.out w2 (HE.out.after B2.out)).mono ?_
    rintro e w3 ⟨v3, rfl, hr3, hb3⟩
    have B3 := Lib.hid (B2.out.trans (hb3.mono B2.out.size))
    obtain ⟨a3, p3, rfl, -, -⟩ := hr3.length
    have H3 := Lib.hid hr3
    clear hb3 hr3 hn
    go_wp2_with fail
    refine (hm.out w3).mono ?_
    rintro e w4 ⟨v4, rfl, hr4, hb4⟩
    have B4 := Lib.hid (B3.out.trans (hb4.mono B3.out.size))
    have c := Lib.hid (refSameList_eq L _ v4 w4 (H3.out.after hb4) hr4.bl)
    obtain ⟨a4, p4, rfl, -, -⟩ := hr4.bl.length
    clear hb4 hr4 hm H3
    go_wp2_with fail
    refine c.out.mono ?_
    rintro e w5 ⟨rfl, hb5⟩
    have B5 := Lib.hid (B4.out.trans (hb5.mono B4.out.size))
    clear hb5
    go_wp2
    first | exact HQ.out _ _ ⟨rfl, B5.out⟩ | (go_ret; exact HQ.out _ _ ⟨rfl, B5.out⟩)
set_option maxHeartbeats 16000000 in
set_option maxRecDepth 100000 in
theorem lawJoins12_any (v : Value) (L : List (List UInt8)) (w : World) (hE : Env w) (hv : BL v L w) :
    Calls Tryd.prog 5 #[v] w fun e w' => e = .returned (.bool true) ∧ Below w.heap.size w w' := by
  obtain ⟨Q, hQ⟩ : ∃ Q, (fun (e : Ending) (w' : World) => e = .returned (.bool true) ∧ Below w.heap.size w w') = Q := ⟨_, rfl⟩
  rw [hQ]
  have HQ : RowKit.Hid (∀ e w', (e = .returned (.bool true) ∧ Below w.heap.size w w') → Q e w') := by rw [← hQ]; exact fun _ _ h => h
  clear hQ
  have HE := Lib.hid hE
  have B0 := Lib.hid (Below.refl w.heap.size w)
  have cA := Lib.hid (fun W hW => lalive12_any W hW)
  have HV := Lib.hid hv
  obtain ⟨va, vc, hve, hc1, hc2⟩ := hv.length
  have cS := Lib.hid (fun W h => lshort12_any L v W h)
  obtain ⟨h, er, hj⟩ : ∃ h e, joinX L = (h, e) := ⟨_, _, rfl⟩
  have cJ := Lib.hid (fun (q : shortOk L) W hW hb => pJoin12_any L v W hW hb (Nat.le_trans q.1 (by decide)) (fun x hx => Nat.le_trans (q.2 x hx) (by decide)) h er hj)
  have cR := Lib.hid (fun (q : shortOk L) W hb => refJoin12_any L v W hb (Nat.le_trans q.1 (by decide)) (fun x hx => Nat.le_trans (q.2 x hx) (by decide)) h er hj)
  subst hve
  obtain ⟨n, hn⟩ : ∃ n, L.length = n := ⟨_, rfl⟩
  rw [hn] at HV hc1 cS cJ cR ⊢
  clear hj hv hE hn
  generalize S h = hS at *
  go_enter Tryd.func5, Tryd.ntmps5
  go_wp2_with fail
  refine (cA.out w HE.out).mono ?_
  rintro e w1 ⟨rfl, hb1⟩
  have B1 := Lib.hid (B0.out.trans (hb1.mono B0.out.size))
  clear hb1
  go_wp2_with fail
  refine (cS.out w1 (HV.out.after B1.out)).mono ?_
  rintro e w1' ⟨b, rfl, hb, hww⟩
  rw [hww]
  have HSh := Lib.hid hb
  clear hb hww cS
  cases b with
  | false =>
    clear cJ cR
    go_wp2
    first | exact HQ.out _ _ ⟨rfl, B1.out⟩ | (go_ret; exact HQ.out _ _ ⟨rfl, B1.out⟩)
  | true =>
    have hsh := HSh.out (by simp)
    have c1 := Lib.hid (cJ.out hsh w1 (HE.out.after B1.out) (HV.out.after B1.out))
    have c2 := Lib.hid (cR.out hsh)
    clear cJ cR hsh HSh
    go_wp2_with fail
    refine c1.out.mono ?_
    rintro e w2 ⟨rfl, hb2⟩
    have B2 := Lib.hid (B1.out.trans (hb2.mono B1.out.size))
    clear hb2
    go_wp2_with fail
    refine (c2.out w2 (HV.out.after B2.out)).mono ?_
    rintro e w3 ⟨rfl, hb3⟩
    have B3 := Lib.hid (B2.out.trans (hb3.mono B2.out.size))
    clear hb3
    go_wp2
    first | exact HQ.out _ _ ⟨rfl, B3.out⟩ | (go_ret; exact HQ.out _ _ ⟨rfl, B3.out⟩)
set_option maxHeartbeats 16000000 in
set_option maxRecDepth 100000 in
theorem lawNames12_any (a : List UInt8) (w : World) (hE : Env w) :
    Calls Tryd.prog 7 #[.string (S a)] w fun e w' => e = .returned (.bool true) ∧ Below w.heap.size w w' := by
  obtain ⟨Q, hQ⟩ : ∃ Q, (fun (e : Ending) (w' : World) => e = .returned (.bool true) ∧ Below w.heap.size w w') = Q := ⟨_, rfl⟩
  rw [hQ]
  have HQ : RowKit.Hid (∀ e w', (e = .returned (.bool true) ∧ Below w.heap.size w w') → Q e w') := by rw [← hQ]; exact fun _ _ h => h
  clear hQ
  have HE := Lib.hid hE
  have B0 := Lib.hid (Below.refl w.heap.size w)
  have cA := Lib.hid (fun W hW => lalive12_any W hW)
  obtain ⟨nm, f, hm⟩ : ∃ n e, nameX a = (n, e) := ⟨_, _, rfl⟩
  have cN := Lib.hid (fun (q : a.length ≤ 1000) W hW => pName12_any a (Nat.le_trans q (by decide)) nm f hm W hW)
  have cM := Lib.hid (fun (q : a.length ≤ 1000) W => refName_any a (Nat.le_trans q (by decide)) nm f hm W)
  have hsz := S_size a
  obtain ⟨sl, hsl⟩ : ∃ k, a.length = k := ⟨_, rfl⟩
  rw [hsl] at cN cM hsz
  have hEn := fun W => eqIn_nm nm nm W
  rw [decide_eq_true rfl] at hEn
  unfold NV at cN cM hEn
  clear hm hsl hE
  generalize S a = sa at *
  generalize S nm.1 = x at *
  generalize S nm.2.1 = y at *
  generalize S nm.2.2 = z at *
  go_enter Tryd.func7, Tryd.ntmps7
  go_wp2_with fail
  refine (cA.out w HE.out).mono ?_
  rintro e w1 ⟨rfl, hb1⟩
  have B1 := Lib.hid (B0.out.trans (hb1.mono B0.out.size))
  clear hb1
  by_cases hz : sl ≤ 1000
  · have t1 : decide ((1000 : Int) < (sl : Int)) = false := decide_eq_false (by omega)
    have c1 := Lib.hid (cN.out hz)
    have c2 := Lib.hid (cM.out hz)
    clear cN cM hz cA
    go_wp2_with fail
    refine (c1.out w1 (HE.out.after B1.out)).mono ?_
    rintro e w2 ⟨rfl, hb2⟩
    have B2 := Lib.hid (B1.out.trans (hb2.mono B1.out.size))
    have hA3 := (Below.refl w2.heap.size w2).alloc (Nat.le_refl _) (.cells #[.string x, .string y, .string z] 34)
    have hN3 := heap_alloc_new w2 (.cells #[.string x, .string y, .string z] 34)
    obtain ⟨w3, hw3⟩ : ∃ W, w2.alloc (.cells #[.string x, .string y, .string z] 34) = W := ⟨_, rfl⟩
    have hs3 : w2.heap.size < w3.heap.size := by rw [← hw3]; simp
    rw [hw3] at hA3 hN3
    have B3 := Lib.hid (B2.out.trans (hA3.mono B2.out.size))
    have HB3 := Lib.hid (fun (W : World) (h : Below w3.heap.size w3 W) => (h.block w2.heap.size hs3).trans hN3)
    have HW3 := Lib.hid hw3
    clear hA3 hw3 hb2 hs3 hN3 c1
    go_upto_region 6 with fail
    rw [HW3.out]
    clear HW3
    obtain ⟨b2, hb2⟩ : ∃ b, w2.heap.size = b := ⟨_, rfl⟩
    rw [hb2] at HB3 ⊢
    clear hb2
    go_wp2_with fail
    refine (c2.out w3).mono ?_
    rintro e w4 ⟨rfl, hb4⟩
    have B4 := Lib.hid (B3.out.trans (hb4.mono B3.out.size))
    have hA5 := (Below.refl w4.heap.size w4).alloc (Nat.le_refl _) (.cells #[.string x, .string y, .string z] 34)
    have hN5 := heap_alloc_new w4 (.cells #[.string x, .string y, .string z] 34)
    have h35 := HB3.out _ (hb4.trans (hA5.mono hb4.size))
    obtain ⟨w5, hw5⟩ : ∃ W, w4.alloc (.cells #[.string x, .string y, .string z] 34) = W := ⟨_, rfl⟩
    rw [hw5] at hA5 hN5 h35
    have B5 := Lib.hid (B4.out.trans (hA5.mono B4.out.size))
    have HW5 := Lib.hid hw5
    clear hA5 hw5 hb4 c2 HB3
    go_upto_region 7 with fail
    rw [HW5.out]
    clear HW5
    obtain ⟨b4, hb4⟩ : ∃ b, w4.heap.size = b := ⟨_, rfl⟩
    rw [hb4] at hN5 ⊢
    clear hb4
    obtain ⟨⟨x0, x1, x2⟩, -⟩ := ncells h35
    obtain ⟨⟨y0, y1, y2⟩, -⟩ := ncells hN5
    clear h35 hN5
    go_wp2_with fail
    exact HQ.out _ _ ⟨rfl, B5.out⟩
  · have t1 : decide ((1000 : Int) < (sl : Int)) = true := decide_eq_true (by omega)
    clear cN cM
    go_wp2
    first | exact HQ.out _ _ ⟨rfl, B1.out⟩ | (go_ret; exact HQ.out _ _ ⟨rfl, B1.out⟩)
end

section
theorem lift_shaped {H : Type} {enc : TypeId × Value → H} {a : Assume} {C : Checked} {os : Os} {f : FuncId} {fn : Func} {s : ChangeSpec} {apart fresh handsOn again : Bool} {X : World → Array Value → Prop}
    (hX : ∀ (w w' : World) (args : Array Value), w.heap = w'.heap → X w args → X w' args)
    (own : ownKnob C.prog.godebug = none) (started : os.Started) (noInit : C.prog.inits.idxOf? f = none) (hfn : C.prog.funcs[f]? = some fn)
    (witness : ∃ (w : World) (tape : Tape) (i : Input), w.os = os ∧ (w.forCall tape i).Shaped C.prog ∧ i.vars = [] ∧ Input.okWide C.prog (w.forCall tape i) .any w.heap.size f i ∧
      ((s.pre enc C.prog fn [] apart (w.forCall tape i).memory i.args ∧ X (w.forCall tape i).memory i.args) ∧ sizedMet enc C.prog fn (OpenSpec.ofChange s) apart (w.forCall tape i).memory i.args) ∧ a.holds C.prog (lone (Frame.enter C.prog f i.args .normal) [] (w.forCall tape i)))
    (contract : ∀ (W : World) (base : Nat) (args : Array Value) (ds gs : List (DataW H)) (before : List MemPlace),
      (∀ (j : Nat) t v, fn.params[j]? = some t → args[j]? = some v → Value.okWide C.prog W .any base t v) →
      DataW.Whole enc C.prog fn.params.toList s.vars apart W args.toList ds gs before → X W args → W.ShapedOpen C.prog →
      Calls C.prog f args W fun e W' => ∃ v, e = .returned v ∧ s.post enc C.prog fn apart fresh handsOn again W args v W') :
    ReturnsInHanded a C os f .any (fun w args => (s.pre enc C.prog fn [] apart w args ∧ X w args) ∧ sizedMet enc C.prog fn (OpenSpec.ofChange s) apart w args) (s.post enc C.prog fn apart fresh handsOn again) := by
  refine returnsInHanded_of_calls own started noInit witness ?_
  intro w tape i _ hsh _ hok hpre _
  obtain ⟨_, _, _, fn2, hfn2, _, _, _, _, hval⟩ := hok
  obtain rfl : fn2 = fn := Option.some.inj (hfn2.symm.trans hfn)
  obtain ⟨⟨⟨ds, gs, before, hw, _⟩, hx⟩, _⟩ := hpre
  refine (contract (w.forCall tape i) w.heap.size i.args ds gs before hval (DataW.Whole.of_heap (by rfl) hw) (hX _ _ _ (by rfl) hx) hsh).mono fun e W' hh => ?_
  obtain ⟨v, rfl, hp⟩ := hh
  exact ChangeSpec.post_blind hp
end

end Go.Proofs.YtjfbbpppdlaapaaDoor
