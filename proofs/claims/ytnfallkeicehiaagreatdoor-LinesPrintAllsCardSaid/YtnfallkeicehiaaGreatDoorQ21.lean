/- Merged: R11H. -/
import Derived.Test.YtnfallkeicehiaaGreatDoorQ20
import Derived.Deep.RegionLaw
import Derived.RegionTactic
namespace Go.Proofs.YtnfallkeicehiaaGreatDoor

section
open Go.RowKit Go.PlainAid
set_option maxHeartbeats 16000000 in
set_option maxRecDepth 100000 in
theorem refOne_any (l : List UInt8) (hl : l.length ≤ 1000000) (i k : Nat) (hi : i ≤ l.length) (hk : k ≤ 1000000000) (q : Rec) (t : List UInt8) (m : Nat) (er : Int) (ho : oneP (l.drop i) k = (q, t, m, er)) (w : World) :
    Calls Tryz.prog 31 #[.string (S l), .agg #[.int .i64 (i : Int), .int .i64 (k : Int)]] w fun e w' => ∃ (u : Value) (n : Nat), e = .returned (.tuple #[RV q u, .agg #[.int .i64 (n : Int), .int .i64 (m : Int)], .int .i64 er]) ∧ New w.heap.size (FL u q.fields) w' ∧ Below w.heap.size w w' ∧ n ≤ l.length ∧ l.drop n = t := by
  obtain ⟨Q, hQ⟩ : ∃ Q, (fun (e : Ending) (w' : World) => ∃ (u : Value) (n : Nat), e = .returned (.tuple #[RV q u, .agg #[.int .i64 (n : Int), .int .i64 (m : Int)], .int .i64 er]) ∧ New w.heap.size (FL u q.fields) w' ∧ Below w.heap.size w w' ∧ n ≤ l.length ∧ l.drop n = t) = Q := ⟨_, rfl⟩
  rw [hQ]
  -- an error: the place of the wrong line
  have HErr : RowKit.Hid (∀ (n a : Nat) (e : Int), n ≤ l.length → oneP (l.drop i) k = (rec0, l.drop n, a, e) → ∀ W, Below w.heap.size w W → Q (.returned (.tuple #[.agg #[.int .i64 0, .int .i64 0, .int .i64 0, .string ⟨#[]⟩, .slice none 0 0], .agg #[.int .i64 (n : Int), .int .i64 (a : Int)], .int .i64 e])) W) := by
    intro n a e hn h W hW
    rw [h] at ho
    obtain ⟨rfl, h2⟩ := Prod.mk.inj ho
    obtain ⟨rfl, h3⟩ := Prod.mk.inj h2
    obtain ⟨rfl, rfl⟩ := Prod.mk.inj h3
    rw [← hQ]
    exact ⟨.slice none 0 0, n, rfl, fl_none _ _, hW, hn, rfl⟩
  have HYes : RowKit.Hid (∀ (r : Rec) (n a : Nat) (u : Value), n ≤ l.length → oneP (l.drop i) k = (r, l.drop n, a, 0) → ∀ W, New w.heap.size (FL u r.fields) W → Below w.heap.size w W → Q (.returned (.tuple #[.agg #[.int .i64 r.id, .int .i64 r.ver, .int .i64 r.kind, .string (S r.lang), u], .agg #[.int .i64 (n : Int), .int .i64 (a : Int)], .int .i64 0])) W) := by
    intro r n a u hn h W hN hW
    rw [h] at ho
    obtain ⟨rfl, h2⟩ := Prod.mk.inj ho
    obtain ⟨rfl, h3⟩ := Prod.mk.inj h2
    obtain ⟨rfl, rfl⟩ := Prod.mk.inj h3
    rw [← hQ]
    exact ⟨u, n, rfl, hN, hW, hn, rfl⟩
  clear ho hQ
  obtain ⟨W0, hW0⟩ : ∃ W0, ((w.alloc (.cells #[.int .i64 (i : Int), .int .i64 (k : Int)] 67)).alloc (.cells #[.int .i64 0, .int .i64 0, .int .i64 0, .string ⟨#[]⟩, .slice none 0 0] 24)).alloc (.cells #[.int .i64 0, .int .i64 0] 67) = W0 := ⟨_, rfl⟩
  have hP0 := PZ.first w (i : Int) (k : Int)
  rw [hW0] at hP0
  have HP0 := Lib.hid hP0
  have HW0 := Lib.hid hW0
  have cL := Lib.hid (fun (n : Nat) (hn : n ≤ l.length) W => refLine_any l (by omega) n hn W)
  obtain ⟨q0, b0, hq0⟩ : ∃ q0 b0, hdrV (lnL (l.drop i)) = (q0, b0) := ⟨_, _, rfl⟩
  have hll : ∀ n, (lnL (l.drop n)).length ≤ l.length := by
    intro n
    cases e : lnE (l.drop n)
    · rw [(ln_no _ e).1, List.length_drop]; omega
    · have := ln_len _ e
      rw [List.length_drop] at this
      omega
  have cH := Lib.hid (fun W => refHdr_any (lnL (l.drop i)) (by have := hll i; omega) q0 b0 hq0 W)
  have HLL := Lib.hid hll
  have HQ0 := Lib.hid hq0
  obtain ⟨z, hz⟩ : ∃ z, l.length = z := ⟨_, rfl⟩
  have HZ := Lib.hid hz
  rw [hz] at hl hi
  clear hP0 hW0 hll hq0 hz
  have c1 := Lib.hid (cL.out i (by rw [HZ.out]; exact hi) W0)
  obtain ⟨⟨p0, p1⟩, -⟩ := pcells HP0.out.p
  obtain ⟨st, hst⟩ : ∃ x, S l = x := ⟨_, rfl⟩
  rw [hst] at c1 cL ⊢
  clear hst
  go_enter Tryz.func31, Tryz.ntmps31
  go_upto_region 1 with fail
  rw [HW0.out]
  go_wp2_with fail
  refine c1.out.mono ?_
  rintro e w1 ⟨hw1, n1, rfl, hn1, hn2, hn3⟩
  rw [hw1]
  clear hw1 c1
  go_wp2_with fail
  refine (cH.out W0).mono ?_
  rintro e w2 ⟨rfl, hb2⟩
  unfold RV
  have hbx := heap_alloc_new w2 (.cells #[.int .i64 q0.id, .int .i64 q0.ver, .int .i64 q0.kind, .string (S q0.lang), .slice none 0 0] 24)
  have hA := (Below.refl w2.heap.size w2).alloc (Nat.le_refl _) (.cells #[.int .i64 q0.id, .int .i64 q0.ver, .int .i64 q0.kind, .string (S q0.lang), .slice none 0 0] 24)
  obtain ⟨W2, hW2⟩ : ∃ W, w2.alloc (.cells #[.int .i64 q0.id, .int .i64 q0.ver, .int .i64 q0.kind, .string (S q0.lang), .slice none 0 0] 24) = W := ⟨_, rfl⟩
  rw [hW2] at hbx hA
  have hP2 := (HP0.out.after hb2).after hA
  have hs2 := (HP0.out.after hb2).size
  obtain ⟨bx, hbb⟩ : ∃ b, w2.heap.size = b := ⟨_, rfl⟩
  rw [hbb] at hbx hs2
  have HP2 := Lib.hid hP2
  have HBx := Lib.hid hbx
  have HW2 := Lib.hid hW2
  have HBb := Lib.hid hbb
  clear hb2 hbx hA hP2 hW2 hbb p0 p1 cH
  go_upto_region 3 with fail
  rw [HW2.out, HBb.out]
  by_cases hb : b0 = false ∨ lnE (l.drop i) = false
  · have hone : oneP (l.drop i) k = (rec0, l.drop i, k, 3) := by
      unfold oneP
      rcases hb with h | h
      · have h2 := HQ0.out
        rw [h] at h2
        unfold hdrV at h2
        cases e : hdrO (lnL (l.drop i)) with
        | none => rfl
        | some r => rw [e] at h2; cases h2
      · cases e : hdrO (lnL (l.drop i)) with
        | none => rfl
        | some r =>
          show (if lnE (l.drop i) = false then _ else _) = _
          rw [if_pos h]
    have HOne := Lib.hid hone
    have hcase : (b0 = false) ∨ (b0 = true ∧ lnE (l.drop i) = false) := by
      cases b0
      · exact .inl rfl
      · rcases hb with h | h
        · cases h
        · exact .inr ⟨rfl, h⟩
    clear hone hb
    generalize lnE (l.drop i) = e0 at *
    rcases hcase with rfl | ⟨rfl, rfl⟩
    · have hno := HErr.out i k 3 (by rw [HZ.out]; exact hi) HOne.out
      have hP := HP2.out
      have fA := hP.finD (.int .i64 0) (.int .i64 0) (.int .i64 0) (.string ⟨#[]⟩) (.slice Option.none 0 0) (.int .i64 (i : Int)) (.int .i64 (k : Int))
      obtain ⟨fA1, fA2, fA3, fA4⟩ := fA
      have FA1 := Lib.hid fA1
      have FA2 := Lib.hid fA2
      have FA3 := Lib.hid fA3
      have FA4 := Lib.hid fA4
      unfold setR5 setP2 at FA1 FA2 FA3 FA4
      have hq2 := hP.q
      rw [show w.heap.size + 2 = w.heap.size + 1 + 1 from rfl] at hq2
      obtain ⟨⟨p0, p1⟩, pz0, pz1⟩ := pcells hP.p
      obtain ⟨⟨s0, s1⟩, sz0, sz1⟩ := pcells hq2
      obtain ⟨⟨r0, r1, r2, r3, r4⟩, rz0, rz1, rz2, rz3, rz4⟩ := rcells hP.z
      clear fA1 fA2 fA3 fA4 hP hq2
      go_upto_region 4 with fail
      go_region
      go_wp2
      (try simp only [Exit.inBlock, Exit.then])
      refine bodyPost_ret (results_three rfl _ _ (w.heap.size + 1) (w.heap.size + 1 + 1) _ _ _ _ _ _ _ _ rfl rfl FA1.out FA2.out Tryz.underlying24 rfl (by kernel_rfl) Tryz.underlying67 rfl (by kernel_rfl)) rfl ?_
      exact hno _ FA3.out
    · have hno := HErr.out i k 3 (by rw [HZ.out]; exact hi) HOne.out
      have hP := HP2.out
      have fA := hP.finD (.int .i64 0) (.int .i64 0) (.int .i64 0) (.string ⟨#[]⟩) (.slice Option.none 0 0) (.int .i64 (i : Int)) (.int .i64 (k : Int))
      obtain ⟨fA1, fA2, fA3, fA4⟩ := fA
      have FA1 := Lib.hid fA1
      have FA2 := Lib.hid fA2
      have FA3 := Lib.hid fA3
      have FA4 := Lib.hid fA4
      unfold setR5 setP2 at FA1 FA2 FA3 FA4
      have hq2 := hP.q
      rw [show w.heap.size + 2 = w.heap.size + 1 + 1 from rfl] at hq2
      obtain ⟨⟨p0, p1⟩, pz0, pz1⟩ := pcells hP.p
      obtain ⟨⟨s0, s1⟩, sz0, sz1⟩ := pcells hq2
      obtain ⟨⟨r0, r1, r2, r3, r4⟩, rz0, rz1, rz2, rz3, rz4⟩ := rcells hP.z
      clear fA1 fA2 fA3 fA4 hP hq2
      go_upto_region 4 with fail
      go_region
      go_wp2
      (try simp only [Exit.inBlock, Exit.then])
      refine bodyPost_ret (results_three rfl _ _ (w.heap.size + 1) (w.heap.size + 1 + 1) _ _ _ _ _ _ _ _ rfl rfl FA1.out FA2.out Tryz.underlying24 rfl (by kernel_rfl) Tryz.underlying67 rfl (by kernel_rfl)) rfl ?_
      exact hno _ FA3.out
  · have hbt : b0 = true ∧ lnE (l.drop i) = true := by
      constructor
      · cases b0
        · exact absurd (.inl rfl) hb
        · rfl
      · cases e : lnE (l.drop i)
        · exact absurd (.inr e) hb
        · rfl
    obtain ⟨rfl, he0⟩ := hbt
    have hhd : hdrO (lnL (l.drop i)) = some q0 := by
      have h2 := HQ0.out
      unfold hdrV at h2
      cases e : hdrO (lnL (l.drop i)) with
      | none => rw [e] at h2; cases h2
      | some r => rw [e] at h2; rw [(Prod.mk.inj h2).1]
    have HOne : RowKit.Hid (oneP (l.drop i) k = oneF q0 (fldsP (l.drop n1) [] (k + 1))) := by
      unfold RowKit.Hid
      unfold oneP
      rw [hhd]
      show (if lnE (l.drop i) = false then _ else _) = _
      rw [he0, if_neg (by decide), hn1]
    have hne := hn3 he0
    have HPL : RowKit.Hid (PL w bx q0 (i : Int) (k : Int) (.slice none 0 0) [] W2) := ⟨HP2.out, HBx.out, hs2, FN.nil _ _⟩
    rw [HZ.out] at hn2
    rw [he0]
    clear hhd he0 hb hn1 hn3 HP2 HBx HQ0
    go_wp2
    go_loopw [8] (fun nv wr => ∃ (n c a : Nat) (F : List Fld) (ao : Option Addr) (cp : Nat) (x : Int), nv = .int .i64 (n : Int) ∧ n ≤ z ∧ F.length = c ∧ c ≤ 64 ∧ a ≤ k + n ∧ RowKit.Hid (oneP (l.drop i) k = oneF q0 (fldsP (l.drop n) F (a + 1))) ∧ RowKit.Hid (PL w bx q0 x (a : Int) (.slice ao c cp) F wr)) (fun nv _ => z - (intOf nv).toNat)
    case atStart => exact ⟨n1, 0, k, [], none, 0, (i : Int), rfl, hn2, rfl, by omega, by omega, HOne, HPL⟩
    case round =>
      obtain ⟨n, c, a, F, ao, cp, x, rfl, hn, hFc, hc64, hak, HO, HL⟩ := hrel
      clear HPL HOne
      have hmv := HL.out.move (n : Int) ((a : Int) + 1)
      obtain ⟨⟨p0, p1⟩, pz0, pz1⟩ := pcells HL.out.z.p
      unfold setP2 at hmv
      obtain ⟨V, hV⟩ : ∃ V, (wr.setCell ⟨w.heap.size, 0, none⟩ (.int .i64 (n : Int))).setCell ⟨w.heap.size, 1, none⟩ (.int .i64 ((a : Int) + 1)) = V := ⟨_, rfl⟩
      rw [hV] at hmv
      have HV := Lib.hid hV
      have HM := Lib.hid hmv
      have i1 : (0 : Int) ≤ (a : Int) := by omega
      have i2 : (a : Int) ≤ 2000000000 := by omega
      clear hV hmv
      go_upto_region 6 with fail
      rw [HV.out]
      clear p0 p1 pz0 pz1 HL HV
      obtain ⟨⟨p0, p1⟩, -⟩ := pcells HM.out.z.p
      go_wp2_with fail
      refine (cL.out n (by rw [HZ.out]; exact hn) V).mono ?_
      rintro e w4 ⟨hw4, n2, rfl, g1, g2, g3⟩
      rw [hw4]
      clear hw4 p0 p1
      rw [HZ.out] at g2
      have hlx := HLL.out n
      rw [HZ.out] at hlx
      have HLong := Lib.hid (fun h1 h2 => flds_long (l.drop n) F (a + 1) h1 h2)
      have HCut := Lib.hid (fun h1 h2 => flds_cut (l.drop n) F (a + 1) h1 h2)
      have HEnd := Lib.hid (fun h1 h2 => flds_end (l.drop n) F (a + 1) h1 h2)
      have HBad := Lib.hid (fun h1 h2 h3 h4 => flds_bad (l.drop n) F (a + 1) h1 h2 h3 h4)
      have HGo := Lib.hid (fun h1 h2 h3 f h4 => flds_go (l.drop n) F (a + 1) h1 h2 h3 f h4)
      rw [hFc] at HLong HCut HBad HGo
      rw [← g1] at HEnd HGo
      obtain ⟨Lx, hLx⟩ : ∃ x, lnL (l.drop n) = x := ⟨_, rfl⟩
      obtain ⟨e2, he2⟩ : ∃ x, lnE (l.drop n) = x := ⟨_, rfl⟩
      rw [hLx] at HLong HCut HEnd HBad HGo hlx ⊢
      rw [he2] at HCut HEnd HBad HGo g3 ⊢
      clear hLx he2 g1
      obtain ⟨⟨f0, f1, f2, f3, f4⟩, -⟩ := rcells HM.out.f
      have ec : (((a + 1 : Nat)) : Int) = (a : Int) + 1 := by omega
      by_cases hL0 : Lx = []
      · subst hL0
        have e0 : S [] = (⟨#[]⟩ : ByteArray) := rfl
        rw [e0]
        cases e2 with
        | false =>
          have HN : RowKit.Hid (oneP (l.drop i) k = (rec0, l.drop n, a + 1, 3)) := by
            unfold RowKit.Hid
            rw [HO.out, HCut.out (fun h => h.1 rfl) rfl]
            rfl
          clear HLong HCut HEnd HBad HGo HO
          skip
          have hno := HErr.out n (a + 1) 3 (by rw [HZ.out]; exact hn) HN.out
          rw [ec] at hno
          have hP := HM.out.z
          have fA := hP.finD (.int .i64 0) (.int .i64 0) (.int .i64 0) (.string ⟨#[]⟩) (.slice Option.none 0 0) (.int .i64 (n : Int)) (.int .i64 ((a : Int) + 1))
          obtain ⟨fA1, fA2, fA3, fA4⟩ := fA
          have FA1 := Lib.hid fA1
          have FA2 := Lib.hid fA2
          have FA3 := Lib.hid fA3
          have FA4 := Lib.hid fA4
          unfold setR5 setP2 at FA1 FA2 FA3 FA4
          have hq2 := hP.q
          rw [show w.heap.size + 2 = w.heap.size + 1 + 1 from rfl] at hq2
          obtain ⟨⟨p0, p1⟩, pz0, pz1⟩ := pcells hP.p
          obtain ⟨⟨s0, s1⟩, sz0, sz1⟩ := pcells hq2
          obtain ⟨⟨r0, r1, r2, r3, r4⟩, rz0, rz1, rz2, rz3, rz4⟩ := rcells hP.z
          clear fA1 fA2 fA3 fA4 hP hq2
          go_upto_region 10 with fail
          go_region
          go_wp2
          (try simp only [Exit.inBlock, Exit.then])
          refine bodyPost_ret (results_three rfl _ _ (w.heap.size + 1) (w.heap.size + 1 + 1) _ _ _ _ _ _ _ _ rfl rfl FA1.out FA2.out Tryz.underlying24 rfl (by kernel_rfl) Tryz.underlying67 rfl (by kernel_rfl)) rfl ?_
          exact hno _ FA3.out
        | true =>
          have HN : RowKit.Hid (oneP (l.drop i) k = (⟨q0.id, q0.ver, q0.kind, q0.lang, F⟩, l.drop n2, a + 1 + 1, 0)) := by
            unfold RowKit.Hid
            rw [HO.out, HEnd.out rfl rfl]
            rfl
          have ec2 : (((a + 1 + 1 : Nat)) : Int) = (a : Int) + 1 + 1 := by omega
          have hyes := HYes.out ⟨q0.id, q0.ver, q0.kind, q0.lang, F⟩ n2 (a + 1 + 1) (.slice ao c cp) (by rw [HZ.out]; exact g2) HN.out
          rw [ec2] at hyes
          have HNw := Lib.hid HM.out.newF
          clear HLong HCut HEnd HBad HGo HO
          have hP := HM.out.z
          have fA := hP.finD (.int .i64 q0.id) (.int .i64 q0.ver) (.int .i64 q0.kind) (.string (S q0.lang)) (.slice ao c cp) (.int .i64 (n2 : Int)) (.int .i64 ((a : Int) + 1 + 1))
          obtain ⟨fA1, fA2, fA3, fA4⟩ := fA
          have FA1 := Lib.hid fA1
          have FA2 := Lib.hid fA2
          have FA3 := Lib.hid fA3
          have FA4 := Lib.hid fA4
          unfold setR5 setP2 at FA1 FA2 FA3 FA4
          have hq2 := hP.q
          rw [show w.heap.size + 2 = w.heap.size + 1 + 1 from rfl] at hq2
          obtain ⟨⟨p0, p1⟩, pz0, pz1⟩ := pcells hP.p
          obtain ⟨⟨s0, s1⟩, sz0, sz1⟩ := pcells hq2
          obtain ⟨⟨r0, r1, r2, r3, r4⟩, rz0, rz1, rz2, rz3, rz4⟩ := rcells hP.z
          clear fA1 fA2 fA3 fA4 hP hq2
          go_upto_region 12 with fail
          go_region
          go_wp2
          (try simp only [Exit.inBlock, Exit.then])
          refine bodyPost_ret (results_three rfl _ _ (w.heap.size + 1) (w.heap.size + 1 + 1) _ _ _ _ _ _ _ _ rfl rfl FA1.out FA2.out Tryz.underlying24 rfl (by kernel_rfl) Tryz.underlying67 rfl (by kernel_rfl)) rfl ?_
          exact hyes _ (FA4.out _ HNw.out) FA3.out
      · obtain ⟨s1, s2⟩ := S_facts Lx hL0
        by_cases hc : 64 ≤ c
        · have t1 : decide ((64 : Int) ≤ (c : Int)) = true := decide_eq_true (by omega)
          have t1n : decide (64 ≤ c) = true := decide_eq_true hc
          have HN : RowKit.Hid (oneP (l.drop i) k = (rec0, l.drop n, a + 1, 4)) := by
            unfold RowKit.Hid
            rw [HO.out, HLong.out hL0 hc]
            rfl
          clear HLong HCut HEnd HBad HGo HO hc hL0
          have hno := HErr.out n (a + 1) 4 (by rw [HZ.out]; exact hn) HN.out
          rw [ec] at hno
          have hP := HM.out.z
          have fA := hP.finD (.int .i64 0) (.int .i64 0) (.int .i64 0) (.string ⟨#[]⟩) (.slice Option.none 0 0) (.int .i64 (n : Int)) (.int .i64 ((a : Int) + 1))
          obtain ⟨fA1, fA2, fA3, fA4⟩ := fA
          have FA1 := Lib.hid fA1
          have FA2 := Lib.hid fA2
          have FA3 := Lib.hid fA3
          have FA4 := Lib.hid fA4
          unfold setR5 setP2 at FA1 FA2 FA3 FA4
          have hq2 := hP.q
          rw [show w.heap.size + 2 = w.heap.size + 1 + 1 from rfl] at hq2
          obtain ⟨⟨p0, p1⟩, pz0, pz1⟩ := pcells hP.p
          obtain ⟨⟨s0, s1⟩, sz0, sz1⟩ := pcells hq2
          obtain ⟨⟨r0, r1, r2, r3, r4⟩, rz0, rz1, rz2, rz3, rz4⟩ := rcells hP.z
          clear fA1 fA2 fA3 fA4 hP hq2
          go_upto_region 8 with fail
          go_region
          go_wp2
          (try simp only [Exit.inBlock, Exit.then])
          refine bodyPost_ret (results_three rfl _ _ (w.heap.size + 1) (w.heap.size + 1 + 1) _ _ _ _ _ _ _ _ rfl rfl FA1.out FA2.out Tryz.underlying24 rfl (by kernel_rfl) Tryz.underlying67 rfl (by kernel_rfl)) rfl ?_
          exact hno _ FA3.out
        have t1 : decide ((64 : Int) ≤ (c : Int)) = false := decide_eq_false (by omega)
        have t1n : decide (64 ≤ c) = false := decide_eq_false hc
        cases e2 with
        | false =>
          have HN : RowKit.Hid (oneP (l.drop i) k = (rec0, l.drop n, a + 1, 3)) := by
            unfold RowKit.Hid
            rw [HO.out, HCut.out (fun h => hc h.2) rfl]
            rfl
          clear HLong HCut HEnd HBad HGo HO hc hL0
          have hno := HErr.out n (a + 1) 3 (by rw [HZ.out]; exact hn) HN.out
          rw [ec] at hno
          have hP := HM.out.z
          have fA := hP.finD (.int .i64 0) (.int .i64 0) (.int .i64 0) (.string ⟨#[]⟩) (.slice Option.none 0 0) (.int .i64 (n : Int)) (.int .i64 ((a : Int) + 1))
          obtain ⟨fA1, fA2, fA3, fA4⟩ := fA
          have FA1 := Lib.hid fA1
          have FA2 := Lib.hid fA2
          have FA3 := Lib.hid fA3
          have FA4 := Lib.hid fA4
          unfold setR5 setP2 at FA1 FA2 FA3 FA4
          have hq2 := hP.q
          rw [show w.heap.size + 2 = w.heap.size + 1 + 1 from rfl] at hq2
          obtain ⟨⟨p0, p1⟩, pz0, pz1⟩ := pcells hP.p
          obtain ⟨⟨s0, s1⟩, sz0, sz1⟩ := pcells hq2
          obtain ⟨⟨r0, r1, r2, r3, r4⟩, rz0, rz1, rz2, rz3, rz4⟩ := rcells hP.z
          clear fA1 fA2 fA3 fA4 hP hq2
          go_upto_region 10 with fail
          go_region
          go_wp2
          (try simp only [Exit.inBlock, Exit.then])
          refine bodyPost_ret (results_three rfl _ _ (w.heap.size + 1) (w.heap.size + 1 + 1) _ _ _ _ _ _ _ _ rfl rfl FA1.out FA2.out Tryz.underlying24 rfl (by kernel_rfl) Tryz.underlying67 rfl (by kernel_rfl)) rfl ?_
          exact hno _ FA3.out
        | true =>
          have hlx6 : Lx.length ≤ 1000000 := by omega
          have hnn := g3 rfl
          have hcl : c < 64 := by omega
          obtain ⟨f, pe, hpf⟩ : ∃ f pe, parseR Lx = (f, pe) := ⟨_, _, rfl⟩
          have cP := Lib.hid (refParseN_any Lx hlx6 V f pe hpf)
          have hcase : (pe = 3 ∧ parseO Lx = none) ∨ (pe = 0 ∧ parseO Lx = some f) := by
            unfold parseR at hpf
            cases e : parseO Lx with
            | none => rw [e] at hpf; exact .inl ⟨(Prod.mk.inj hpf).2.symm, rfl⟩
            | some g => rw [e] at hpf; exact .inr ⟨(Prod.mk.inj hpf).2.symm, by rw [(Prod.mk.inj hpf).1]⟩
          have HBad2 := Lib.hid (HBad.out hL0 hcl rfl)
          have HGo2 := Lib.hid (HGo.out hL0 hcl rfl)
          clear HLong HCut HEnd HBad HGo hL0 hpf hlx6 hc
          go_wp2_with fail
          refine cP.out.mono ?_
          rintro e w5 ⟨v, rfl, hnv, hb5⟩
          obtain ⟨va, vc, rfl, -, -⟩ := hnv.here.length
          unfold FV
          have hbf := heap_alloc_new w5 (.cells #[.string (S f.tag), .string (S f.ind), .slice va f.subs.length vc, .int .i64 f.auth] 44)
          have hA5 := (Below.refl w5.heap.size w5).alloc (Nat.le_refl _) (.cells #[.string (S f.tag), .string (S f.ind), .slice va f.subs.length vc, .int .i64 f.auth] 44)
          obtain ⟨V5, hV5⟩ : ∃ W, w5.alloc (.cells #[.string (S f.tag), .string (S f.ind), .slice va f.subs.length vc, .int .i64 f.auth] 44) = W := ⟨_, rfl⟩
          rw [hV5] at hbf hA5
          have HM5 := Lib.hid ((HM.out.after hb5).after hA5)
          have HNv := Lib.hid (hnv.after hA5)
          have hBs := HM.out.lt
          obtain ⟨us0, _, hown0, _⟩ := HM.out.row
          have hnx : NewX (bx + 1) (Value.slice ao c cp).ownBlock (QL (.slice va f.subs.length vc) f.subs) V5 := NewX.of HNv.out hBs (fun j hj => (hown0.lt j hj).2)
          have HNx := Lib.hid hnx
          obtain ⟨bf, hbf2⟩ : ∃ b, w5.heap.size = b := ⟨_, rfl⟩
          rw [hbf2] at hbf
          have HV5 := Lib.hid hV5
          have HBf2 := Lib.hid hbf2
          have HBf := Lib.hid hbf
          clear hbf hA5 hV5 hbf2 hnv hb5 hown0 hnx f0 f1 f2 f3 f4 cP HM s1 s2 hBs
          go_upto_region 14 with fail
          rw [HV5.out, HBf2.out]
          rcases hcase with ⟨rfl, hno2⟩ | ⟨rfl, hso⟩
          · have HN : RowKit.Hid (oneP (l.drop i) k = (rec0, l.drop n, a + 1, 3)) := by
              unfold RowKit.Hid
              rw [HO.out, HBad2.out hno2]
              rfl
            clear HBad2 HGo2 HO hno2 HNx HNv HBf
            have hno := HErr.out n (a + 1) 3 (by rw [HZ.out]; exact hn) HN.out
            rw [ec] at hno
            have hP := HM5.out.z
            have fA := hP.finD (.int .i64 0) (.int .i64 0) (.int .i64 0) (.string ⟨#[]⟩) (.slice Option.none 0 0) (.int .i64 (n : Int)) (.int .i64 ((a : Int) + 1))
            obtain ⟨fA1, fA2, fA3, fA4⟩ := fA
            have FA1 := Lib.hid fA1
            have FA2 := Lib.hid fA2
            have FA3 := Lib.hid fA3
            have FA4 := Lib.hid fA4
            unfold setR5 setP2 at FA1 FA2 FA3 FA4
            have hq2 := hP.q
            rw [show w.heap.size + 2 = w.heap.size + 1 + 1 from rfl] at hq2
            obtain ⟨⟨p0, p1⟩, pz0, pz1⟩ := pcells hP.p
            obtain ⟨⟨s0, s1⟩, sz0, sz1⟩ := pcells hq2
            obtain ⟨⟨r0, r1, r2, r3, r4⟩, rz0, rz1, rz2, rz3, rz4⟩ := rcells hP.z
            clear fA1 fA2 fA3 fA4 hP hq2
            go_upto_region 15 with fail
            go_region
            go_wp2
            (try simp only [Exit.inBlock, Exit.then])
            refine bodyPost_ret (results_three rfl _ _ (w.heap.size + 1) (w.heap.size + 1 + 1) _ _ _ _ _ _ _ _ rfl rfl FA1.out FA2.out Tryz.underlying24 rfl (by kernel_rfl) Tryz.underlying67 rfl (by kernel_rfl)) rfl ?_
            exact hno _ FA3.out
          · have HO2 : RowKit.Hid (oneP (l.drop i) k = oneF q0 (fldsP (l.drop n2) (F ++ [f]) (a + 1 + 1))) := by
              unfold RowKit.Hid
              rw [HO.out, HGo2.out f hso]
            clear HBad2 HGo2 HO hso HNv
            obtain ⟨⟨x0, x1, x2, x3⟩, -⟩ := field_cells HBf.out
            have hPL3 := HM5.out.after ((Below.refl V5.heap.size V5).alloc (Nat.le_refl _) (.cells (encF f (.slice va f.subs.length vc)).toArray 44))
            have hnx3 := HNx.out.on (w' := V5.alloc (.cells (encF f (.slice va f.subs.length vc)).toArray 44)) (by simp) (fun i _ hi _ => Below.heap_alloc _ _ _ hi)
            obtain ⟨xs, hxs, hpush⟩ := hPL3.row.open
            have HPush := Lib.hid (fun v' w' => hpush f (.slice va f.subs.length vc) v' w' hnx3)
            rw [hFc] at hxs
            have HXs := Lib.hid hxs
            have HPL3 := Lib.hid hPL3
            obtain ⟨fi0, hfi, hfz0, hfz1, hfz2⟩ := info_fld
            have HFI := Lib.hid hfi
            have HFZ0 := Lib.hid hfz0
            have HFZ1 := Lib.hid hfz1
            have HFZ2 := Lib.hid hfz2
            have HOneC := Lib.hid (encF_one f (.slice va f.subs.length vc) rfl)
            obtain ⟨⟨f0, f1, f2, f3, f4⟩, z0, z1, z2, z3, z4⟩ := rcells HM5.out.f
            have hszw : bx + 1 ≤ V5.heap.size := HM5.out.lt
            clear hPL3 hnx3 hxs hpush hfi hfz0 hfz1 hfz2 HNx HBf
            go_wp2_with (at_builtin; go_loud (refine wpList_append_two _ rfl _ _ 22 rfl (bx + 1) 44 fi0 (.agg #[.string ⟨#[]⟩, .string ⟨#[]⟩, .slice none 0 0, .int .i64 0]) 4 64 Tryz.underlying22 HFI.out HFZ0.out HFZ1.out HFZ2.out rfl (by decide) _ _ _ rfl HXs.out ⟨V5.heap.size, 0, none⟩ 1 1 (encF f (.slice va f.subs.length vc)) rfl rfl (cells_four _ _ _ _ _ _) HOneC.out (by decide) (by unfold maxLen; omega) (by omega) (by simp; omega) ?_))
            intro fv2 w6 hown3 hg3 hnn3 hob3
            have hFN := HPush.out fv2 w6 hg3 (by rw [show (V5.alloc (.cells (encF f (.slice va f.subs.length vc)).toArray 44)).heap.size = V5.heap.size + 1 by simp]; exact hob3) (by rw [hFc]; exact hown3)
            obtain ⟨hK4, hf4⟩ := HPL3.out.push (f := f) hg3 hFN
            obtain ⟨⟨y0, y1, y2, y3, y4⟩, s0, s1, s2, s3, s4⟩ := rcells hf4
            rw [← ec] at hK4
            obtain ⟨ao2, cp2, rfl⟩ := own_form hown3
            have HK4 := Lib.hid hK4
            clear hFN hown3 hg3 hnn3 hob3 hK4 hf4 HPush HXs HOneC HPL3 x0 x1 x2 x3 f0 f1 f2 f3 f4 z0 z1 z2 z3 z4
            go_wp2
            go_roundw
            case rel => exact ⟨n2, c + 1, a + 1, F ++ [f], _, _, (n : Int), by first | rfl | trivial, g2, by rw [List.length_append, hFc]; rfl, by omega, by omega, HO2, HK4⟩
            case measure => simp [intOf]; omega
end

end Go.Proofs.YtnfallkeicehiaaGreatDoor
