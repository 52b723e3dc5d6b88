/- The statements RulesStandard, RulesRight, RulesFind of layer 9 over this translation: they return true. -/
import Derived.Test.YtjfdolmcecgdgaaDoorAl09
import Derived.Test.YtjfdolmcecgdgaaDoorRD09
import Derived.Test.YtjfdolmcecgdgaaDoorRE09
namespace Go.Proofs.YtjfdolmcecgdgaaDoor
open Go.RowKit Go.PlainAid

theorem std_small (i : Nat) (hi : i < stdL.length) : smallT (stdL.getD i rul0) := by
  have key : ∀ t ∈ stdL, t.tag.length ≤ 1000000 ∧ t.codes.length ≤ 1000000 ∧ t.once.length ≤ 1000000 ∧ t.needs.length ≤ 1000000 := by decide
  rw [List.getD_eq_getElem?_getD, List.getElem?_eq_getElem hi]
  exact key _ (List.getElem_mem hi)
theorem std_right : rightL stdL = 0 := by kernel_rfl
theorem bnd_small {l : List Rul} {fs : List Fld} (h : Bnd l fs) (i : Nat) (hi : i < l.length) : smallT (l.getD i rul0) := by
  obtain ⟨h0, h1, h2, h3⟩ := h.lt i hi
  exact ⟨by omega, by omega, by omega, by omega⟩
theorem small0_any (l : List Rul) (v : Value) (W : World) (hv : TL v l W) : Calls Tryd.prog 17 #[v, .agg #[.int .i64 0, .int .i64 0, .int .i64 0, .string ⟨#[]⟩, .slice none 0 0]] W fun e w' => ∃ b, e = .returned (.bool b) ∧ (b = true → Bnd l []) ∧ Below W.heap.size W w' :=
  refSmall9_any l v rec0 (.slice none 0 0) W hv ⟨none, 0, rfl, Nat.le_refl _, Nat.zero_le _, fun _ => rfl, fun i hi => by cases hi⟩

set_option maxHeartbeats 16000000 in
set_option maxRecDepth 100000 in
theorem lawStandard_any (g : List UInt8) (w : World) (hS : ST w) :
    Calls Tryd.prog 3 #[.string (S g)] w fun e w' => e = .returned (.bool true) ∧ Below w.heap.size w w' := by
  have HS := Lib.hid (fun W (h : Below w.heap.size w W) => hS.after h)
  have C0 := Lib.hid uStandard_any
  have CR := Lib.hid refStandard_any
  have CA := Lib.hid alive_any
  obtain ⟨t, b, hfind⟩ : ∃ t b, findR stdL g = (t, b) := ⟨_, _, rfl⟩
  have CF := Lib.hid (fun v W (h : TL v stdL W) => uFind_any stdL v g W h t b hfind)
  have CG := Lib.hid (fun v W (h : TL v stdL W) => refFind_any stdL v g W h t b hfind)
  have CS := Lib.hid (fun x y W hx hy => refSameT_any stdL x y W hx hy)
  have CRt := Lib.hid (fun v W (h : TL v stdL W) => uRight_any stdL v W h std_small 0 std_right)
  have CN := Lib.hid (fun w => UB.new t w)
  have CU := Lib.hid (fun b W (h : UB b t W) => h.cells)
  have hE := fun W => eqIn_rul t t W
  rw [(sameRul_iff t t).2 rfl] at hE
  have hg : Tryd.prog.eqGuardType Tryd.prog.depth 25 = false := by kernel_rfl
  have b0 := Below.refl w.heap.size w
  unfold UV at CF CG hE
  clear hfind hS
  generalize S g = sg at *
  obtain ⟨st, hst⟩ : ∃ s, S t.tag = s := ⟨_, rfl⟩
  obtain ⟨sc, hsc⟩ : ∃ s, S t.codes = s := ⟨_, rfl⟩
  obtain ⟨so, hso⟩ : ∃ s, S t.once = s := ⟨_, rfl⟩
  obtain ⟨sn, hsn⟩ : ∃ s, S t.needs = s := ⟨_, rfl⟩
  obtain ⟨va, hva⟩ : ∃ v, t.auth = v := ⟨_, rfl⟩
  obtain ⟨vr, hvr⟩ : ∃ v, t.rep = v := ⟨_, rfl⟩
  obtain ⟨vm, hvm⟩ : ∃ v, t.must = v := ⟨_, rfl⟩
  rw [hst, hsc, hso, hsn, hva, hvr, hvm] at CF CG CN CU hE
  clear hst hsc hso hsn hva hvr hvm
  go_enter Tryd.func3, Tryd.ntmps3
  go_wp2_with fail
  refine (C0.out w (HS.out w b0)).mono ?_
  rintro e w1 ⟨v, rfl, hT, c⟩
  have b1 := b0.trans (c.mono b0.size)
  obtain ⟨a, cp, rfl, _, _⟩ := hT.length
  rw [show stdL.length = 25 from rfl] at hT ⊢
  clear b0 c
  go_wp2_with fail
  refine (CF.out _ w1 hT).mono ?_
  rintro e w2 ⟨rfl, c⟩
  have b2 := b1.trans (c.mono b1.size)
  have hT2 := hT.after c
  have hA := (Below.refl w2.heap.size w2).alloc (Nat.le_refl _) (.cells #[.string st, .bool vr, .bool vm, .string sc, .string so, .string sn, .int .i64 va] 25)
  have hU := CN.out w2
  obtain ⟨w3, hw3⟩ : ∃ w3, w2.alloc (.cells #[.string st, .bool vr, .bool vm, .string sc, .string so, .string sn, .int .i64 va] 25) = w3 := ⟨_, rfl⟩
  rw [hw3] at hA hU
  have b3 := b2.trans (hA.mono b2.size)
  have hT3 := hT2.after hA
  have HW3 := Lib.hid hw3
  clear hw3 hA hT hT2 b1 b2 c
  go_upto_region 3 with fail
  rw [HW3.out]
  clear HW3
  obtain ⟨x1, hx1⟩ : ∃ b, w2.heap.size = b := ⟨_, rfl⟩
  rw [hx1] at hU ⊢
  clear hx1
  go_wp2_with fail
  refine (CR.out w3).mono ?_
  rintro e w4 ⟨v2, rfl, hV, c⟩
  have b4 := b3.trans (c.mono b3.size)
  have hT4 := hT3.after c
  have hU4 := hU.after c
  obtain ⟨a2, cp2, rfl, _, _⟩ := hV.length
  rw [show stdL.length = 25 from rfl] at hV ⊢
  clear c hT3 hU b3
  go_wp2_with fail
  refine (CG.out _ w4 hV).mono ?_
  rintro e w5 ⟨rfl, c⟩
  have b5 := b4.trans (c.mono b4.size)
  have hT5 := hT4.after c
  have hU5 := hU4.after c
  have hA := (Below.refl w5.heap.size w5).alloc (Nat.le_refl _) (.cells #[.string st, .bool vr, .bool vm, .string sc, .string so, .string sn, .int .i64 va] 25)
  have hX := CN.out w5
  obtain ⟨w6, hw6⟩ : ∃ w6, w5.alloc (.cells #[.string st, .bool vr, .bool vm, .string sc, .string so, .string sn, .int .i64 va] 25) = w6 := ⟨_, rfl⟩
  rw [hw6] at hA hX
  have b6 := b5.trans (hA.mono b5.size)
  have hT6 := hT5.after hA
  have hU6 := hU5.after hA
  have HW6 := Lib.hid hw6
  clear hw6 hA hT4 hT5 hU4 hU5 b4 b5 c hV
  go_upto_region 4 with fail
  rw [HW6.out]
  clear HW6
  obtain ⟨x2, hx2⟩ : ∃ b, w5.heap.size = b := ⟨_, rfl⟩
  rw [hx2] at hX ⊢
  clear hx2
  go_wp2_with fail
  refine (CA.out w6 (HS.out w6 b6)).mono ?_
  rintro e w7 ⟨rfl, c⟩
  have b7 := b6.trans (c.mono b6.size)
  have hT7 := hT6.after c
  have hU7 := hU6.after c
  have hX7 := hX.after c
  clear c hT6 hU6 hX b6
  go_wp2_with fail
  refine (CR.out w7).mono ?_
  rintro e w8 ⟨v2, rfl, hV, c⟩
  have b8 := b7.trans (c.mono b7.size)
  have hT8 := hT7.after c
  have hU8 := hU7.after c
  have hX8 := hX7.after c
  obtain ⟨a2, cp2, rfl, _, _⟩ := hV.length
  rw [show stdL.length = 25 from rfl] at hV ⊢
  clear c hT7 hU7 hX7 b7
  go_wp2_with fail
  refine (CS.out _ _ w8 hT8 hV).mono ?_
  rintro e w9 ⟨rfl, c⟩
  have b9 := b8.trans (c.mono b8.size)
  have hT9 := hT8.after c
  have hU9 := hU8.after c
  have hX9 := hX8.after c
  clear c hT8 hU8 hX8 b8 hV
  go_wp2_with fail
  refine (CRt.out _ w9 hT9).mono ?_
  rintro e w10 ⟨rfl, c⟩
  have b10 := b9.trans (c.mono b9.size)
  have hU10 := hU9.after c
  have hX10 := hX9.after c
  clear c hT9 hU9 hX9 b9
  obtain ⟨y0, y1, y2, y3, y4, y5, y6⟩ := CU.out _ _ hU10
  obtain ⟨z0, z1, z2, z3, z4, z5, z6⟩ := CU.out _ _ hX10
  cases b
  all_goals
    go_wp2
    go_ret
    exact ⟨rfl, b10⟩

set_option maxHeartbeats 16000000 in
set_option maxRecDepth 100000 in
theorem lawRight_any (v : Value) (l : List Rul) (w : World) (hS : ST w) (hv : TL v l w) :
    Calls Tryd.prog 4 #[v] w fun e w' => e = .returned (.bool true) ∧ Below w.heap.size w w' := by
  have CA := Lib.hid (alive_any w hS)
  have CSm := Lib.hid (fun W (h : TL v l W) => small0_any l v W h)
  obtain ⟨er, her⟩ : ∃ er, rightL l = er := ⟨_, rfl⟩
  have CU := Lib.hid (fun (hb : Bnd l []) W (h : TL v l W) => uRight_any l v W h (fun i hi => bnd_small hb i hi) er her)
  have CR := Lib.hid (fun (hb : Bnd l []) W (h : TL v l W) => refRight9_any l v W h (fun i hi => bnd_small hb i hi) er her)
  obtain ⟨a, cp, rfl, _, _⟩ := hv.length
  clear her hS
  generalize l.length = n at *
  go_enter Tryd.func4, Tryd.ntmps4
  go_wp2_with fail
  refine CA.out.mono ?_
  rintro e w1 ⟨rfl, b1⟩
  have hT1 := hv.after b1
  go_wp2_with fail
  refine (CSm.out w1 hT1).mono ?_
  rintro e w2 ⟨b, rfl, hb, c⟩
  have b2 := b1.trans (c.mono b1.size)
  have hT2 := hT1.after c
  have HB := Lib.hid hb
  clear b1 c hT1 hb hv
  cases b
  · go_wp2
    go_ret
    exact ⟨rfl, b2⟩
  · have CU := Lib.hid (CU.out (HB.out (by trivial)))
    have CR := Lib.hid (CR.out (HB.out (by trivial)))
    go_wp2_with fail
    refine (CU.out w2 hT2).mono ?_
    rintro e w3 ⟨rfl, c⟩
    have b3 := b2.trans (c.mono b2.size)
    have hT3 := hT2.after c
    clear b2 c hT2
    go_wp2_with fail
    refine (CR.out w3 hT3).mono ?_
    rintro e w4 ⟨rfl, c⟩
    have b4 := b3.trans (c.mono b3.size)
    clear b3 c hT3
    go_wp2
    go_ret
    exact ⟨rfl, b4⟩

set_option maxHeartbeats 16000000 in
set_option maxRecDepth 100000 in
theorem lawFind_any (v : Value) (l : List Rul) (g : List UInt8) (w : World) (hS : ST w) (hv : TL v l w) :
    Calls Tryd.prog 5 #[v, .string (S g)] w fun e w' => e = .returned (.bool true) ∧ Below w.heap.size w w' := by
  have CA := Lib.hid (alive_any w hS)
  have CSm := Lib.hid (fun W (h : TL v l W) => small0_any l v W h)
  obtain ⟨t, b, hfind⟩ : ∃ t b, findR l g = (t, b) := ⟨_, _, rfl⟩
  have CF := Lib.hid (fun W (h : TL v l W) => uFind_any l v g W h t b hfind)
  have CG := Lib.hid (fun W (h : TL v l W) => refFind_any l v g W h t b hfind)
  have CN := Lib.hid (fun w => UB.new t w)
  have CU := Lib.hid (fun b W (h : UB b t W) => h.cells)
  have hE := fun W => eqIn_rul t t W
  rw [(sameRul_iff t t).2 rfl] at hE
  have hg : Tryd.prog.eqGuardType Tryd.prog.depth 25 = false := by kernel_rfl
  obtain ⟨a, cp, rfl, _, _⟩ := hv.length
  unfold UV at CF CG hE
  clear hfind hS
  generalize l.length = n at *
  generalize S g = sg at *
  obtain ⟨st, hst⟩ : ∃ s, S t.tag = s := ⟨_, rfl⟩
  obtain ⟨sc, hsc⟩ : ∃ s, S t.codes = s := ⟨_, rfl⟩
  obtain ⟨so, hso⟩ : ∃ s, S t.once = s := ⟨_, rfl⟩
  obtain ⟨sn, hsn⟩ : ∃ s, S t.needs = s := ⟨_, rfl⟩
  obtain ⟨va, hva⟩ : ∃ v, t.auth = v := ⟨_, rfl⟩
  obtain ⟨vr, hvr⟩ : ∃ v, t.rep = v := ⟨_, rfl⟩
  obtain ⟨vm, hvm⟩ : ∃ v, t.must = v := ⟨_, rfl⟩
  rw [hst, hsc, hso, hsn, hva, hvr, hvm] at CF CG CN CU hE
  clear hst hsc hso hsn hva hvr hvm
  go_enter Tryd.func5, Tryd.ntmps5
  go_wp2_with fail
  refine CA.out.mono ?_
  rintro e w1 ⟨rfl, b1⟩
  have hT1 := hv.after b1
  go_wp2_with fail
  refine (CSm.out w1 hT1).mono ?_
  rintro e w2 ⟨sb, rfl, hb, c⟩
  have b2 := b1.trans (c.mono b1.size)
  have hT2 := hT1.after c
  clear b1 c hT1 hb hv
  cases sb
  · go_wp2
    go_ret
    exact ⟨rfl, b2⟩
  go_wp2_with fail
  refine (CF.out w2 hT2).mono ?_
  rintro e w3 ⟨rfl, c⟩
  have b3 := b2.trans (c.mono b2.size)
  have hT3 := hT2.after c
  have hA := (Below.refl w3.heap.size w3).alloc (Nat.le_refl _) (.cells #[.string st, .bool vr, .bool vm, .string sc, .string so, .string sn, .int .i64 va] 25)
  have hU := CN.out w3
  obtain ⟨w4, hw4⟩ : ∃ w4, w3.alloc (.cells #[.string st, .bool vr, .bool vm, .string sc, .string so, .string sn, .int .i64 va] 25) = w4 := ⟨_, rfl⟩
  rw [hw4] at hA hU
  have b4 := b3.trans (hA.mono b3.size)
  have hT4 := hT3.after hA
  have HW4 := Lib.hid hw4
  clear hw4 hA hT2 hT3 b2 b3 c
  go_upto_region 6 with fail
  rw [HW4.out]
  clear HW4
  obtain ⟨x1, hx1⟩ : ∃ b, w3.heap.size = b := ⟨_, rfl⟩
  rw [hx1] at hU ⊢
  clear hx1
  go_wp2_with fail
  refine (CG.out w4 hT4).mono ?_
  rintro e w5 ⟨rfl, c⟩
  have b5 := b4.trans (c.mono b4.size)
  have hU5 := hU.after c
  have hA := (Below.refl w5.heap.size w5).alloc (Nat.le_refl _) (.cells #[.string st, .bool vr, .bool vm, .string sc, .string so, .string sn, .int .i64 va] 25)
  have hX := CN.out w5
  obtain ⟨w6, hw6⟩ : ∃ w6, w5.alloc (.cells #[.string st, .bool vr, .bool vm, .string sc, .string so, .string sn, .int .i64 va] 25) = w6 := ⟨_, rfl⟩
  rw [hw6] at hA hX
  have b6 := b5.trans (hA.mono b5.size)
  have hU6 := hU5.after hA
  have HW6 := Lib.hid hw6
  clear hw6 hA hT4 hU hU5 b4 b5 c
  go_upto_region 7 with fail
  rw [HW6.out]
  clear HW6
  obtain ⟨x2, hx2⟩ : ∃ b, w5.heap.size = b := ⟨_, rfl⟩
  rw [hx2] at hX ⊢
  clear hx2
  obtain ⟨y0, y1, y2, y3, y4, y5, y6⟩ := CU.out _ _ hU6
  obtain ⟨z0, z1, z2, z3, z4, z5, z6⟩ := CU.out _ _ hX
  cases b
  all_goals
    go_wp2
    go_ret
    exact ⟨rfl, b6⟩
end Go.Proofs.YtjfdolmcecgdgaaDoor
