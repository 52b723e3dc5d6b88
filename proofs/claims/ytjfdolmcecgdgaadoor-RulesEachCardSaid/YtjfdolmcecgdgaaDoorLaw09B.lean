/- The statements RulesChecks, RulesEmpty of layer 9 over this translation: they return true. -/
import Derived.Test.YtjfdolmcecgdgaaDoorLaw09A
import Derived.Test.YtjfdolmcecgdgaaDoorRI09
namespace Go.Proofs.YtjfdolmcecgdgaaDoor
open Go.RowKit Go.PlainAid

/-- A record in its box. -/
structure RB9 (b : Nat) (r : Rec) (u : Value) (W : World) : Prop where
  bx : W.heap[b]? = some (.cells #[.int .i64 r.id, .int .i64 r.ver, .int .i64 r.kind, .string (S r.lang), u] 36 (0, 0))
  q : FL u r.fields W
theorem RB9.lt {b : Nat} {r : Rec} {u : Value} {W : World} (h : RB9 b r u W) : b < W.heap.size := (Array.getElem?_eq_some_iff.1 h.bx).1
theorem RB9.after {b : Nat} {r : Rec} {u : Value} {W W' : World} (h : RB9 b r u W) (hb : Below W.heap.size W W') : RB9 b r u W' := ⟨(hb.block _ h.lt).trans h.bx, h.q.after hb⟩
theorem RB9.new {r : Rec} {u : Value} {w : World} (h : FL u r.fields w) : RB9 w.heap.size r u (w.alloc (.cells #[.int .i64 r.id, .int .i64 r.ver, .int .i64 r.kind, .string (S r.lang), u] 36)) :=
  ⟨heap_alloc_new w _, h.after ((Below.refl w.heap.size w).alloc (Nat.le_refl _) _)⟩
theorem RB9.cells {b : Nat} {r : Rec} {u : Value} {W : World} (h : RB9 b r u W) : W.cell? ⟨b, 0, none⟩ = some (.int .i64 r.id) ∧ W.cell? ⟨b, 1, none⟩ = some (.int .i64 r.ver) ∧ W.cell? ⟨b, 2, none⟩ = some (.int .i64 r.kind) ∧ W.cell? ⟨b, 3, none⟩ = some (.string (S r.lang)) ∧ W.cell? ⟨b, 4, none⟩ = some u := by
  refine ⟨?_, ?_, ?_, ?_, ?_⟩ <;> (rw [Lib.cell_of_heap h.bx]; rfl)

set_option maxHeartbeats 16000000 in
set_option maxRecDepth 100000 in
theorem lawChecks_any (v : Value) (l : List Rul) (r : Rec) (u : Value) (w : World) (hS : ST w) (hv : TL v l w) (hu : FL u r.fields w) :
    Calls Tryd.prog 6 #[v, RV r u] w fun e w' => e = .returned (.bool true) ∧ Below w.heap.size w w' := by
  have b0 := (Below.refl w.heap.size w).alloc (Nat.le_refl _) (.cells #[.int .i64 r.id, .int .i64 r.ver, .int .i64 r.kind, .string (S r.lang), u] 36)
  have hX := RB9.new hu
  have hv0 := hv.after b0
  have hS0 := hS.after b0
  have CA := Lib.hid alive_any
  have CSm := Lib.hid (fun W (h : TL v l W) (h2 : FL u r.fields W) => refSmall9_any l v r u W h h2)
  obtain ⟨er, her⟩ : ∃ er, rightL l = er := ⟨_, rfl⟩
  have CR := Lib.hid (fun (hb : Bnd l r.fields) W (h : TL v l W) => refRight9_any l v W h (fun i hi => bnd_small hb i hi) er her)
  have CK := Lib.hid (fun (hb : Bnd l r.fields) W (h : TL v l W) (h2 : FL u r.fields W) => refCheck_any l v r u W h h2 hb)
  have CU := Lib.hid (fun (hb : Bnd l r.fields) W (h : TL v l W) (h2 : FL u r.fields W) => uCheck_any l v r u W h h2 hb.fits)
  obtain ⟨P, hP⟩ : ∃ P, checkL l r.fields = P := ⟨_, rfl⟩
  obtain ⟨sb, hsb⟩ : ∃ sb, decide (P.length = 0) = sb := ⟨_, rfl⟩
  have CS := Lib.hid (fun (hb : Bnd l r.fields) W (h : TL v l W) (h2 : FL u r.fields W) => uSound_any l v r u W h h2 hb.fits sb (by rw [hP]; exact hsb))
  have CSP := Lib.hid (fun x y W hx hy => refSameP_any P P x y W hx hy true ⟨fun _ => rfl, fun _ => rfl⟩)
  have HC := Lib.hid (fun b W (h : RB9 b r u W) => h.cells)
  rw [hP] at CK CU
  have hsb2 : ((P.length : Int) == 0) = sb := by
    rw [← hsb, Bool.eq_iff_iff, beq_iff_eq, decide_eq_true_iff]
    omega
  obtain ⟨a, cp, rfl, _, _⟩ := hv.length
  obtain ⟨au, cu, rfl, _, _⟩ := hu.length
  unfold RV at CSm CK CU CS ⊢
  obtain ⟨W0, hW0⟩ : ∃ W0, w.alloc (.cells #[.int .i64 r.id, .int .i64 r.ver, .int .i64 r.kind, .string (S r.lang), .slice au r.fields.length cu] 36) = W0 := ⟨_, rfl⟩
  rw [hW0] at b0 hX hv0 hS0
  have HW0 := Lib.hid hW0
  obtain ⟨m, hm⟩ : ∃ m, P.length = m := ⟨_, rfl⟩
  have HM := Lib.hid hm
  rw [hm] at hsb2
  obtain ⟨k0, k1, k2, k3, k4⟩ := hX.cells
  clear hW0 her hP hsb hm hv hu hS
  generalize r.id = vi at *
  generalize r.ver = vv at *
  generalize r.kind = vk at *
  generalize S r.lang = vl at *
  generalize r.fields.length = n at *
  generalize l.length = nl at *
  go_enter Tryd.func6, Tryd.ntmps6
  go_wp2_with fail
  rw [HW0.out]
  clear HW0
  refine (CA.out W0 hS0).mono ?_
  rintro e w1 ⟨rfl, c⟩
  have b1 := b0.trans (c.mono b0.size)
  have hT1 := hv0.after c
  have hX1 := hX.after c
  clear b0 c hv0 hX hS0 k0 k1 k2 k3 k4 CA
  obtain ⟨k0, k1, k2, k3, k4⟩ := HC.out _ _ hX1
  go_wp2_with fail
  refine (CSm.out w1 hT1 hX1.q).mono ?_
  rintro e w2 ⟨b, rfl, hb, c⟩
  have b2 := b1.trans (c.mono b1.size)
  have hT2 := hT1.after c
  have hX2 := hX1.after c
  have HB := Lib.hid hb
  clear b1 c hT1 hX1 hb k0 k1 k2 k3 k4 CSm
  cases b
  · go_wp2
    go_ret
    exact ⟨rfl, b2⟩
  have CR2 := Lib.hid (CR.out (HB.out (by trivial)))
  have CK2 := Lib.hid (CK.out (HB.out (by trivial)))
  have CU2 := Lib.hid (CU.out (HB.out (by trivial)))
  have CS2 := Lib.hid (CS.out (HB.out (by trivial)))
  clear CR CK CU CS HB
  go_wp2_with fail
  refine (CR2.out w2 hT2).mono ?_
  rintro e w3 ⟨rfl, c⟩
  have b3 := b2.trans (c.mono b2.size)
  have hT3 := hT2.after c
  have hX3 := hX2.after c
  clear b2 c hT2 hX2 CR2
  by_cases h0 : er = 0
  rotate_left
  · have t0 : (er != 0) = true := by simpa using h0
    clear h0
    go_wp2
    go_ret
    exact ⟨rfl, b3⟩
  subst h0
  obtain ⟨k0, k1, k2, k3, k4⟩ := HC.out _ _ hX3
  go_wp2_with fail
  refine (CK2.out w3 hT3 hX3.q).mono ?_
  rintro e w4 ⟨x, rfl, hP, c⟩
  have b4 := b3.trans (c.mono b3.size)
  have hT4 := hT3.after c
  have hX4 := hX3.after c
  obtain ⟨ap, cq, rfl, _, _⟩ := hP.length
  rw [HM.out] at hP ⊢
  clear b3 c hT3 hX3 k0 k1 k2 k3 k4 CK2
  obtain ⟨k0, k1, k2, k3, k4⟩ := HC.out _ _ hX4
  go_wp2_with fail
  refine (CU2.out w4 hT4 hX4.q).mono ?_
  rintro e w5 ⟨y, rfl, hQ, c⟩
  have b5 := b4.trans (c.mono b4.size)
  have hT5 := hT4.after c
  have hX5 := hX4.after c
  have hP5 := hP.after c
  obtain ⟨aq, cr, rfl, _, _⟩ := hQ.length
  rw [HM.out] at hQ ⊢
  clear b4 c hT4 hX4 hP k0 k1 k2 k3 k4 CU2
  go_wp2_with fail
  refine (CSP.out _ _ w5 hQ hP5).mono ?_
  rintro e w6 ⟨rfl, c⟩
  have b6 := b5.trans (c.mono b5.size)
  have hT6 := hT5.after c
  have hX6 := hX5.after c
  clear b5 c hT5 hX5 hP5 hQ CSP
  obtain ⟨k0, k1, k2, k3, k4⟩ := HC.out _ _ hX6
  go_wp2_with fail
  refine (CS2.out w6 hT6 hX6.q).mono ?_
  rintro e w7 ⟨rfl, c⟩
  have b7 := b6.trans (c.mono b6.size)
  clear b6 c hT6 hX6 k0 k1 k2 k3 k4 CS2
  cases sb
  all_goals
    go_wp2
    go_ret
    exact ⟨rfl, b7⟩

theorem empty_check (l : List Rul) : checkL l [] = mustGL (fun _ => false) l := by
  show mustL l [] ++ [] = _
  rw [List.append_nil]
  rfl

set_option maxHeartbeats 16000000 in
set_option maxRecDepth 100000 in
theorem lawEmpty_any (v : Value) (l : List Rul) (w : World) (hS : ST w) (hv : TL v l w) :
    Calls Tryd.prog 8 #[v] w fun e w' => e = .returned (.bool true) ∧ Below w.heap.size w w' := by
  have CA := Lib.hid (alive_any w hS)
  have CSm := Lib.hid (fun W (h : TL v l W) => small0_any l v W h)
  obtain ⟨er, her⟩ : ∃ er, rightL l = er := ⟨_, rfl⟩
  have CR := Lib.hid (fun (hb : Bnd l []) W (h : TL v l W) => refRight9_any l v W h (fun i hi => bnd_small hb i hi) er her)
  obtain ⟨P, hP⟩ : ∃ P, mustGL (fun _ => false) l = P := ⟨_, rfl⟩
  have hck : checkL l rec0.fields = P := (empty_check l).trans hP
  have hnil : ∀ W, FL (.slice none 0 0) rec0.fields W := fun W => ⟨none, 0, rfl, Nat.le_refl _, Nat.zero_le _, fun _ => rfl, fun i hi => by cases hi⟩
  obtain ⟨sb, hsb⟩ : ∃ sb, decide (P.length = 0) = sb := ⟨_, rfl⟩
  have CU : RowKit.Hid (∀ (hb : Bnd l []) W (h : TL v l W), Calls Tryd.prog 21 #[v, .agg #[.int .i64 0, .int .i64 0, .int .i64 0, .string ⟨#[]⟩, .slice none 0 0]] W fun e w' => ∃ v', e = .returned v' ∧ PL v' P w' ∧ Below W.heap.size W w') := fun hb W h => by
    have := uCheck_any l v rec0 (.slice none 0 0) W h (hnil W) hb.fits
    rw [hck] at this
    exact this
  have CS : RowKit.Hid (∀ (hb : Bnd l []) W (h : TL v l W), Calls Tryd.prog 22 #[v, .agg #[.int .i64 0, .int .i64 0, .int .i64 0, .string ⟨#[]⟩, .slice none 0 0]] W fun e w' => e = .returned (.bool sb) ∧ Below W.heap.size W w') := fun hb W h =>
    uSound_any l v rec0 (.slice none 0 0) W h (hnil W) hb.fits sb (by rw [hck]; exact hsb)
  have CSP := Lib.hid (fun x y W hx hy => refSameP_any P P x y W hx hy true ⟨fun _ => rfl, fun _ => rfl⟩)
  have hsb2 : ((P.length : Int) == 0) = sb := by
    rw [← hsb, Bool.eq_iff_iff, beq_iff_eq, decide_eq_true_iff]
    omega
  have HStep := Lib.hid (mustGL_succ (fun _ => false) l)
  have HLe := Lib.hid (fun k => Nat.le_trans (mustGL_le (fun _ => false) (l.take k)) (List.length_take_le k l))
  have HTake : RowKit.Hid (mustGL (fun _ => false) (l.take l.length) = P) := by
    unfold RowKit.Hid
    rw [List.take_length]; exact hP
  have HMP : RowKit.Hid (∀ t, mustG (fun _ => false) t = if t.must = true then [⟨1, -1, t.tag, 0⟩] else []) := fun t => by
    unfold mustG
    cases t.must <;> rfl
  have HBl := Lib.hid (fun (hb : Bnd l []) => hb.ln)
  obtain ⟨a, cp, rfl, hcap, hmax⟩ := hv.length
  unfold maxLen at hmax
  obtain ⟨m, hm⟩ : ∃ m, P.length = m := ⟨_, rfl⟩
  have HM := Lib.hid hm
  rw [hm] at hsb2
  obtain ⟨n, hn⟩ : ∃ n, l.length = n := ⟨_, rfl⟩
  have HN := Lib.hid hn
  rw [hn] at hcap hv CSm CR CU CS HStep HTake HBl ⊢
  clear her hP hsb hm hS hck hnil hn
  go_enter Tryd.func8, Tryd.ntmps8
  go_wp2_with fail
  refine CA.out.mono ?_
  rintro e w1 ⟨rfl, b1⟩
  have hT1 := hv.after b1
  go_wp2_with fail
  refine (CSm.out w1 hT1).mono ?_
  rintro e w2 ⟨b, rfl, hb, c⟩
  have b2 := b1.trans (c.mono b1.size)
  have hT2 := hT1.after c
  have HB := Lib.hid hb
  clear b1 c hT1 hb hv CA CSm
  cases b
  · go_wp2
    go_ret
    exact ⟨rfl, b2⟩
  have CR2 := Lib.hid (CR.out (HB.out (by trivial)))
  have CU2 := Lib.hid (CU.out (HB.out (by trivial)))
  have CS2 := Lib.hid (CS.out (HB.out (by trivial)))
  have hn60 := HBl.out (HB.out (by trivial))
  clear CR CU CS HB HBl
  go_wp2_with fail
  refine (CR2.out w2 hT2).mono ?_
  rintro e w3 ⟨rfl, c⟩
  have b3 := b2.trans (c.mono b2.size)
  have hT3 := hT2.after c
  clear b2 c hT2 CR2
  by_cases h0 : er = 0
  rotate_left
  · have t0 : (er != 0) = true := by simpa using h0
    clear h0
    go_wp2
    go_ret
    exact ⟨rfl, b3⟩
  subst h0
  have HPE := Lib.hid (PR.empty w3 w3.heap.size (Nat.le_refl _))
  have HEA := Lib.hid ((Below.refl w3.heap.size w3).alloc (Nat.le_refl _) (.cells #[] 44))
  have HT3 := Lib.hid hT3
  have HB3 := Lib.hid b3
  clear hT3 b3
  go_wp2
  go_loopw [3, 4] (fun s i wr => ∃ k : Nat, k ≤ n ∧ i = .int .i64 (k : Int) ∧ PR w3.heap.size s (mustGL (fun _ => false) (l.take k)) wr ∧ Below w3.heap.size w3 wr) (fun _ i _ => n - (intOf i).toNat)
  case atStart => exact ⟨0, Nat.zero_le _, rfl, HPE.out, HEA.out⟩
  case round =>
    obtain ⟨k, hk, rfl, hpr, hbw⟩ := hrel
    obtain ⟨ao, cq, hs⟩ := own_form9 hpr
    subst hs
    by_cases hkn : k < n
    · obtain ⟨g', o, cap', he, hg, hR⟩ := (HT3.out.after hbw).at k (by rw [HN.out]; exact hkn)
      have he' := he
      rw [HN.out] at he'
      obtain ⟨ha, -, hcp⟩ := Value.slice.inj he'
      subst ha hcp
      clear he he'
      obtain ⟨c0, c1, c2, c3, c4, c5, c6⟩ := hR
      have i1 : (0 : Int) ≤ (k : Int) := by omega
      have i2 : (k : Int) < (n : Int) := by omega
      have hst := HStep.out k hkn
      have hle : (mustGL (fun _ => false) (l.take k)).length ≤ n := Nat.le_trans (HLe.out k) (by have := HN.out; omega)
      obtain ⟨t, htk⟩ : ∃ t, l.getD k rul0 = t := ⟨_, rfl⟩
      rw [htk] at c0 c1 c2 c3 c4 c5 c6 hst
      rw [HMP.out t] at hst
      have HPR := Lib.hid hpr
      have HBw := Lib.hid hbw
      obtain ⟨mn, hmn⟩ : ∃ m, (mustGL (fun _ => false) (l.take k)).length = m := ⟨_, rfl⟩
      have HMn := Lib.hid hmn
      rw [hmn] at HPR hle ⊢
      obtain ⟨vm, hvm⟩ : ∃ v, t.must = v := ⟨_, rfl⟩
      rw [hvm] at c2 hst
      have HSt := Lib.hid hst
      clear htk hpr hbw hmn hvm hst
      cases vm
      · have HE : RowKit.Hid (mustGL (fun _ => false) (l.take (k + 1)) = mustGL (fun _ => false) (l.take k)) := by
          unfold RowKit.Hid
          have h := HSt.out
          simpa using h
        go_wp2
        go_roundw
        case rel => exact ⟨k + 1, by omega, by go_num, by rw [HE.out]; exact HPR.out, HBw.out⟩
        case measure => simp [intOf]; omega
      · have HE : RowKit.Hid (mustGL (fun _ => false) (l.take (k + 1)) = mustGL (fun _ => false) (l.take k) ++ [⟨1, -1, t.tag, 0⟩]) := HSt.out
        have hOne := PL.one wr ⟨1, -1, t.tag, 0⟩
        have hRow := HPR.out.after ((Below.refl wr.heap.size wr).alloc (Nat.le_refl _) (.cells #[.int .i64 1, .int .i64 (-1), .string (S t.tag), .int .u8 ((0 : UInt8).toNat : Int)] 44))
        have hBx := HBw.out.alloc HBw.out.size (.cells #[.int .i64 1, .int .i64 (-1), .string (S t.tag), .int .u8 ((0 : UInt8).toNat : Int)] 44)
        rw [show (((0 : UInt8).toNat : Nat) : Int) = 0 from rfl] at hOne hRow hBx
        have HOne := Lib.hid hOne
        have HRow := Lib.hid hRow
        have HBx := Lib.hid hBx
        clear hOne hRow hBx
        go_wp2_with (at_builtin; refine append_pr _ rfl _ _ rfl w3.heap.size _ (mustGL (fun _ => false) (l.take k)) rfl HRow.out _ [⟨1, -1, t.tag, 0⟩] rfl HOne.out (by rw [HMn.out]; simp; omega) HBx.out.size w3.heap.size w3 (Nat.le_refl _) HBx.out ?_; intro v3 w4 hown3 hb4 hs3 hs4)
        go_roundw
        case rel => exact ⟨k + 1, by omega, by go_num, by rw [HE.out]; exact hown3, hb4⟩
        case measure => simp [intOf]; omega
    · obtain rfl : k = n := by omega
      rw [HTake.out] at hpr
      rw [HTake.out]
      have hPw := hpr.pl
      have hT4 := HT3.out.after hbw
      have b4 := HB3.out.trans (hbw.mono HB3.out.size)
      rw [HM.out] at hPw ⊢
      clear hpr hbw HT3 HB3 HPE HEA
      go_wp2_with fail
      refine (CU2.out wr hT4).mono ?_
      rintro e w5 ⟨y, rfl, hQ, c⟩
      have b5 := b4.trans (c.mono b4.size)
      have hT5 := hT4.after c
      have hP5 := hPw.after c
      obtain ⟨aq, cr, rfl, _, _⟩ := hQ.length
      rw [HM.out] at hQ ⊢
      clear b4 c hT4 hPw CU2
      go_wp2_with fail
      refine (CSP.out _ _ w5 hQ hP5).mono ?_
      rintro e w6 ⟨rfl, c⟩
      have b6 := b5.trans (c.mono b5.size)
      have hT6 := hT5.after c
      clear b5 c hT5 hP5 hQ CSP
      go_wp2_with fail
      refine (CS2.out w6 hT6).mono ?_
      rintro e w7 ⟨rfl, c⟩
      have b7 := b6.trans (c.mono b6.size)
      clear b6 c hT6 CS2
      cases sb
      all_goals
        go_wp2
        go_ret
        exact ⟨rfl, b7⟩
end Go.Proofs.YtjfdolmcecgdgaaDoor
