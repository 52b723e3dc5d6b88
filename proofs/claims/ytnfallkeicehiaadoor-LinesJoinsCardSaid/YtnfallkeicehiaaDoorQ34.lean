/- Merged: LF11. -/
import Derived.Test.YtnfallkeicehiaaDoorQ31
namespace Go.Proofs.YtnfallkeicehiaaDoor

section
open Go.RowKit Go.PlainAid
/-- append of a whole slice of records that lies in W0 to a row of one's own whose fields lie in W0. -/
theorem append_rr {ops : Array Oper} {rest : List Oper} {o : Oper} {a : Act} {Q : Exit → Act → World → Prop} (w : World) (hgd : o.guard = none) (s x : Operand)
    (ho : o.op = .call { callee := .builtin .append, args := #[s, x], argTypes := #[33, 33] })
    (W0 : World) (B : Nat) (v : Value) (L : List Rec) (hs : a.eval s = v) (hfr : RR W0 B v L w) (vx : Value) (M : List Rec) (hx : a.eval x = vx) (hM : RL vx M W0)
    (hz : L.length + M.length ≤ 100000) (hB : B ≤ w.heap.size) (hWB : W0.heap.size ≤ B) (N : Nat) (W1 : World) (hNB : N ≤ B) (hb : Below W0.heap.size W0 w) (hb1 : Below N W1 w)
    (h : ∀ v' w', RR W0 B v' (L ++ M) w' → Below W0.heap.size W0 w' → Below N W1 w' → B ≤ w'.heap.size → wpList Tryd.prog ops Q rest (a.put o.dst v') w') : wpList Tryd.prog ops Q (o :: rest) a w := by
  obtain ⟨i0, hi, hz0, hz1, hz2⟩ := info_rec
  obtain ⟨xs, hrow, hpush⟩ := hfr.open
  obtain ⟨ao, c, us, rfl, hc1, hc2, hc3, hl, hq, hcell⟩ := hM.vals
  cases ao with
  | none =>
    obtain rfl := hc3 rfl
    obtain rfl : M = [] := List.eq_nil_of_length_eq_zero (by omega)
    refine wpList_append_own_none hgd s x _ ho B _ i0 5 Tryd.underlying33 hi v L.length xs hs hrow hx (h v w ?_ hb hb1 hB)
    rw [List.append_nil]; exact hfr
  | some ad =>
    refine wpList_append_own w hgd s x _ ho B _ i0 (.agg #[.int .i64 0, .int .i64 0, .int .i64 0, .string ⟨#[]⟩, .slice none 0 0]) 5 64 Tryd.underlying33 hi hz0 hz1 hz2 rfl (by decide) v L.length xs hs hrow ad M.length c (cellsR M us) hx
      (cellsR_length M us hl) (fun j u hu => ?_) (cellsR_one M us fun u hu => ?_) (by unfold maxLen; omega) (by omega) hB fun v' w' hown' hgrow _ => h v' w' ?_ ?_ ?_ ?_
    · obtain ⟨g, o', sp⟩ := ad
      by_cases hne : M = []
      · subst hne
        simp [cellsR] at hu
      · obtain ⟨rfl, hg, hcl⟩ := hcell g o' sp rfl hne
        have hadd : (⟨g, o', none⟩ : Addr).add j = ⟨g, o' + j, none⟩ := by unfold Addr.add; split <;> simp_all
        rw [hadd]
        exact (hb.cell (p := ⟨g, o' + j, none⟩) hg).trans (hcl j u hu)
    · obtain ⟨i, hi, rfl⟩ := List.mem_iff_getElem.1 hu
      have := (hq i (by omega)).one
      rwa [List.getD_eq_getElem?_getD, List.getElem?_eq_getElem hi] at this
    · exact hpush M us v' w' hl hq hown'
    · exact hb.grown hgrow (by omega) (fun j hj => Nat.le_trans hWB (hrow.lt j hj).1)
    · exact hb1.grown hgrow (by omega) (fun j hj => Nat.le_trans hNB (hrow.lt j hj).1)
    · exact Nat.le_trans hB hgrow.size

theorem RR.empty (w : World) : RR w w.heap.size (.slice (some ⟨w.heap.size, 0, none⟩) 0 0) [] (w.alloc (.cells #[] 24)) :=
  ⟨[], rfl, World.ownsRow_made w #[] 0 (Nat.le_refl _) (Nat.zero_le _) rfl, fun i hi => by cases hi⟩
set_option maxHeartbeats 16000000 in
set_option maxRecDepth 100000 in
theorem lawJoins_any (va : Value) (A : List Rec) (vb : Value) (C : List Rec) (w : World) (hE : Env w) (hva : RL va A w) (hza : ∀ r ∈ A, r.lang.length ≤ maxLen) (hvb : RL vb C w) (hzb : ∀ r ∈ C, r.lang.length ≤ maxLen) :
    Calls Tryd.prog 5 #[va, vb] w fun e w' => e = .returned (.bool true) ∧ Below w.heap.size w w' := by
  obtain ⟨Q, hQ⟩ : ∃ Q, (fun (e : Ending) (w' : World) => e = .returned (.bool true) ∧ Below w.heap.size w w') = Q := ⟨_, rfl⟩
  rw [hQ]
  have HQ : RowKit.Hid (∀ e w', (e = .returned (.bool true) ∧ Below w.heap.size w w') → Q e w') := by rw [← hQ]; exact fun _ _ h => h
  clear hQ
  have cA := Lib.hid (fun W hW => lalive11_any W hW)
  have HE := Lib.hid hE
  have HVa := Lib.hid hva
  have HVb := Lib.hid hvb
  obtain ⟨s, er, hs⟩ : ∃ s er, prnA A = (s, er) := ⟨_, _, rfl⟩
  obtain ⟨t, fr, ht⟩ : ∃ t fr, prnA C = (t, fr) := ⟨_, _, rfl⟩
  have cPa := Lib.hid (fun W hE hW hok => pPrintAll_any A va W hE hW hok s er hs)
  have cPb := Lib.hid (fun W hE hW hok => pPrintAll_any C vb W hE hW hok t fr ht)
  have cSa := Lib.hid (fun W hW => refSmallRecords_any A va 30 (by decide) W hW)
  have cSb := Lib.hid (fun W hW => refSmallRecords_any C vb 30 (by decide) W hW)
  have HJ : RowKit.Hid (er = 0 → fr = 0 → A.length + C.length ≤ 64 → s.length + t.length ≤ 65536 → prnA (A ++ C) = (s ++ t, 0)) := by
    intro h1 h2 h3 h4
    subst h1 h2
    exact prnA_join A C s t hs ht h3 h4
  have hsl : s.length ≤ 65536 := by
    by_cases h : er = 0
    · subst h
      exact (prnA_ok A s hs).2.2.2
    · rw [prnA_no A s er hs h]
      exact Nat.zero_le _
  have htl : t.length ≤ 65536 := by
    by_cases h : fr = 0
    · subst h
      exact (prnA_ok C t ht).2.2.2
    · rw [prnA_no C t fr ht h]
      exact Nat.zero_le _
  have HOka : RowKit.Hid ((∀ i, i < A.length → smallRB (A.getD i rec0) = true) → ∀ r ∈ A, r.lang.length ≤ maxLen ∧ okZ r) := fun h r hr => ⟨hza r hr, small11_ok h r hr⟩
  have HOkb : RowKit.Hid ((∀ i, i < C.length → smallRB (C.getD i rec0) = true) → ∀ r ∈ C, r.lang.length ≤ maxLen ∧ okZ r) := fun h r hr => ⟨hzb r hr, small11_ok h r hr⟩
  obtain ⟨aa, ca, rfl, -, -⟩ := hva.length
  obtain ⟨ab, cb, rfl, -, -⟩ := hvb.length
  obtain ⟨na, hna⟩ : ∃ n, A.length = n := ⟨_, rfl⟩
  obtain ⟨nb, hnb⟩ : ∃ n, C.length = n := ⟨_, rfl⟩
  rw [hna] at HVa cPa cSa HJ ⊢
  rw [hnb] at HVb cPb cSb HJ ⊢
  have HNa := Lib.hid hna
  have HNb := Lib.hid hnb
  have hss := S_size s
  have hts := S_size t
  have HST := Lib.hid (S_append s t)
  obtain ⟨sl, hsl2⟩ : ∃ n, s.length = n := ⟨_, rfl⟩
  obtain ⟨tl, htl2⟩ : ∃ n, t.length = n := ⟨_, rfl⟩
  rw [hsl2] at hss hsl HJ
  rw [htl2] at hts htl HJ
  have HStl : RowKit.Hid ((s ++ t).length = sl + tl) := by
    unfold RowKit.Hid
    rw [List.length_append, hsl2, htl2]
  have B0 := Lib.hid (Below.refl w.heap.size w)
  clear hva hvb hza hzb hs ht hna hnb hE hsl2 htl2
  go_enter Tryd.func5, Tryd.ntmps5
  go_wp2_with fail
  refine (cSa.out w HVa.out).mono ?_
  rintro e w1 ⟨ba, rfl, hb1, hsma⟩
  have B1 := Lib.hid hb1
  have HSma := Lib.hid hsma
  clear hb1 hsma cSa B0
  cases ba with
  | false =>
    clear HSma HOka HOkb cPa cPb cSb HJ HST HStl
    go_wp2_with fail
    refine (cA.out w1 (HE.out.after B1.out)).mono ?_
    rintro e wz ⟨rfl, hbz⟩
    have BF := Lib.hid (B1.out.trans (hbz.mono B1.out.size))
    clear hbz cA
    go_wp2
    first | exact HQ.out _ _ ⟨rfl, BF.out⟩ | (go_ret; exact HQ.out _ _ ⟨rfl, BF.out⟩)
  | true =>
  have hoka := Lib.hid (HOka.out (by rw [HNa.out]; exact (HSma.out rfl).2))
  have hn30 : na ≤ 30 := (HSma.out rfl).1
  clear HSma HOka
  go_wp2_with fail
  refine (cSb.out w1 (HVb.out.after B1.out)).mono ?_
  rintro e w2 ⟨bb, rfl, hb2, hsmb⟩
  have B2 := Lib.hid (B1.out.trans (hb2.mono B1.out.size))
  have HSmb := Lib.hid hsmb
  clear hb2 hsmb cSb B1
  cases bb with
  | false =>
    clear HSmb HOkb cPa cPb HJ HST HStl
    go_wp2_with fail
    refine (cA.out w2 (HE.out.after B2.out)).mono ?_
    rintro e wz ⟨rfl, hbz⟩
    have BF := Lib.hid (B2.out.trans (hbz.mono B2.out.size))
    clear hbz cA
    go_wp2
    first | exact HQ.out _ _ ⟨rfl, BF.out⟩ | (go_ret; exact HQ.out _ _ ⟨rfl, BF.out⟩)
  | true =>
  have hokb := Lib.hid (HOkb.out (by rw [HNb.out]; exact (HSmb.out rfl).2))
  have hm30 : nb ≤ 30 := (HSmb.out rfl).1
  clear HSmb HOkb
  go_wp2_with fail
  refine (cPa.out w2 (HE.out.after B2.out) (HVa.out.after B2.out) hoka.out).mono ?_
  rintro e w3 ⟨rfl, hb3⟩
  have B3 := Lib.hid (B2.out.trans (hb3.mono B2.out.size))
  clear hb3 cPa B2
  go_wp2_with fail
  refine (cPb.out w3 (HE.out.after B3.out) (HVb.out.after B3.out) hokb.out).mono ?_
  rintro e w4 ⟨rfl, hb4⟩
  have B4 := Lib.hid (B3.out.trans (hb4.mono B3.out.size))
  clear hb4 cPb B3
  by_cases h1 : er = 0
  case neg =>
    have t0 : (er != 0) = true := by simpa using h1
    clear h1 HJ HST HStl
    generalize S s = st at *
    generalize S t = tt at *
    go_wp2_with fail
    refine (cA.out w4 (HE.out.after B4.out)).mono ?_
    rintro e wz ⟨rfl, hbz⟩
    have BF := Lib.hid (B4.out.trans (hbz.mono B4.out.size))
    clear hbz cA
    go_wp2
    first | exact HQ.out _ _ ⟨rfl, BF.out⟩ | (go_ret; exact HQ.out _ _ ⟨rfl, BF.out⟩)
  by_cases h2 : fr = 0
  case neg =>
    subst h1
    have t0 : (fr != 0) = true := by simpa using h2
    clear h2 HJ HST HStl
    generalize S s = st at *
    generalize S t = tt at *
    go_wp2_with fail
    refine (cA.out w4 (HE.out.after B4.out)).mono ?_
    rintro e wz ⟨rfl, hbz⟩
    have BF := Lib.hid (B4.out.trans (hbz.mono B4.out.size))
    clear hbz cA
    go_wp2
    first | exact HQ.out _ _ ⟨rfl, BF.out⟩ | (go_ret; exact HQ.out _ _ ⟨rfl, BF.out⟩)
  subst h1 h2
  by_cases h6 : 65536 < sl + tl
  case pos =>
    have t6 : decide ((65536 : Int) < (sl : Int) + (tl : Int)) = true := decide_eq_true (by omega)
    have t6n : decide (65536 < sl + tl) = true := decide_eq_true h6
    clear h6 HJ HST HStl
    generalize S s = st at *
    generalize S t = tt at *
    go_wp2_with fail
    refine (cA.out w4 (HE.out.after B4.out)).mono ?_
    rintro e wz ⟨rfl, hbz⟩
    have BF := Lib.hid (B4.out.trans (hbz.mono B4.out.size))
    clear hbz cA
    go_wp2
    first | exact HQ.out _ _ ⟨rfl, BF.out⟩ | (go_ret; exact HQ.out _ _ ⟨rfl, BF.out⟩)
  have t6 : decide ((65536 : Int) < (sl : Int) + (tl : Int)) = false := decide_eq_false (by omega)
  have t6n : decide (65536 < sl + tl) = false := decide_eq_false h6
  have HJ2 := Lib.hid (HJ.out rfl rfl (by omega) (by omega))
  have HVa4 := Lib.hid (HVa.out.after B4.out)
  have HVb4 := Lib.hid (HVb.out.after B4.out)
  have hst6 : (s ++ t).length ≤ 65536 := by rw [HStl.out]; omega
  have HLst := Lib.hid hst6
  clear h6 HJ HStl hst6 HVa HVb
  have hb0 : Below w4.heap.size w4 (w4.alloc (.cells #[] 24)) := (Below.refl _ _).alloc (Nat.le_refl _) _
  have HR0 := Lib.hid (RR.empty w4)
  have HB0 := Lib.hid hb0
  clear hb0
  generalize S s = st at *
  generalize S t = tt at *
  go_wp2_with (at_builtin; go_loud (refine append_rr _ rfl _ _ rfl w4 w4.heap.size _ [] rfl HR0.out (.slice aa na ca) A rfl HVa4.out (by rw [HNa.out]; show 0 + na ≤ _; omega) HB0.out.size (Nat.le_refl _) w4.heap.size w4 (Nat.le_refl _) HB0.out HB0.out ?_))
  intro v1 w5 hr5 hb5 _
  have HR5 : RowKit.Hid (RR w4 w4.heap.size v1 A w5) := hr5
  have HB5 := Lib.hid hb5
  clear hr5 hb5 HR0 HB0
  go_wp2_with (at_builtin; go_loud (refine append_rr _ rfl _ _ rfl w4 w4.heap.size _ A rfl HR5.out (.slice ab nb cb) C rfl HVb4.out (by rw [HNa.out, HNb.out]; omega) HB5.out.size (Nat.le_refl _) w4.heap.size w4 (Nat.le_refl _) HB5.out HB5.out ?_))
  intro v2 w6 hr6 hb6 _
  have HRl := Lib.hid (hr6.rl hb6)
  have B6 := Lib.hid (B4.out.trans (hb6.mono B4.out.size))
  clear hr6 hb6 HR5 HB5
  obtain ⟨av, cv, hav, -, -⟩ := HRl.out.length
  obtain ⟨nv, hnv⟩ : ∃ n, (A ++ C).length = n := ⟨_, rfl⟩
  rw [hnv] at hav
  subst hav
  have c5 := Lib.hid (pPrintAll_any (A ++ C) (.slice av nv cv) w6 (HE.out.after B6.out) HRl.out (fun r hr => by
    rcases List.mem_append.1 hr with hr | hr
    · exact hoka.out r hr
    · exact hokb.out r hr) (s ++ t) 0 HJ2.out)
  have cQ := Lib.hid (fun W hW => pParseAll_any (s ++ t) (by have := HLst.out; omega) (A ++ C) 0 0 (parA_back _ _ HJ2.out) W hW)
  have cM := Lib.hid (fun x y W hx hy => refSameRecords_eq (A ++ C) x y W hx hy (fun r => (sameRB_iff r r).2 rfl))
  rw [← HST.out] at c5 cQ
  clear HJ2 HLst HST hoka hokb HVa4 HVb4
  have hbig : ¬ 9223372036854775807 < sl + tl := by omega
  go_wp2_with fail
  refine c5.out.mono ?_
  rintro e w7 ⟨rfl, hb7⟩
  have HRl7 := Lib.hid (HRl.out.after hb7)
  have B7 := Lib.hid (B6.out.trans (hb7.mono B6.out.size))
  clear hb7 c5 HRl
  go_wp2_with fail
  refine (cQ.out w7 (HE.out.after B7.out)).mono ?_
  rintro e w8 ⟨v8, rfl, hn8, hb8⟩
  have HRl8 := Lib.hid (HRl7.out.after hb8)
  have H8 := Lib.hid hn8.here
  obtain ⟨a8, c8, hv8, -, -⟩ := hn8.here.length
  rw [hnv] at hv8
  subst hv8
  have B8 := Lib.hid (B7.out.trans (hb8.mono B7.out.size))
  have c9 := Lib.hid (cM.out _ _ w8 H8.out HRl8.out)
  clear hn8 hb8 cQ HRl7 HRl8 H8 cM
  go_wp2_with fail
  refine c9.out.mono ?_
  rintro e w9 ⟨rfl, hb9⟩
  have B9 := Lib.hid (B8.out.trans (hb9.mono B8.out.size))
  clear hb9 c9
  go_wp2_with fail
  refine (cA.out w9 (HE.out.after B9.out)).mono ?_
  rintro e wz ⟨rfl, hbz⟩
  have BF := Lib.hid (B9.out.trans (hbz.mono B9.out.size))
  clear hbz cA
  go_wp2
  first | exact HQ.out _ _ ⟨rfl, BF.out⟩ | (go_ret; exact HQ.out _ _ ⟨rfl, BF.out⟩)
end

end Go.Proofs.YtnfallkeicehiaaDoor
