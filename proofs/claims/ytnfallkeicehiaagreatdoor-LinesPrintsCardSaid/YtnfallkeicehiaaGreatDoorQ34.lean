/- Merged: Am11, LA11, LB11. -/
import Derived.Test.YtnfallkeicehiaaGreatDoorQ33
namespace Go.Proofs.YtnfallkeicehiaaGreatDoor

section
open Go.RowKit Go.PlainAid
set_option maxHeartbeats 16000000 in
set_option maxRecDepth 100000 in
theorem lalive11_any (w : World) (hE : Env w) :
    Calls Tryz.prog 8 #[] w fun e w' => e = .returned (.bool true) ∧ Below w.heap.size w w' := by
  obtain ⟨Q, hQ⟩ : ∃ Q, (fun (e : Ending) (w' : World) => e = .returned (.bool true) ∧ Below w.heap.size w w') = Q := ⟨_, rfl⟩
  rw [hQ]
  have HQ : RowKit.Hid (∀ e w', (e = .returned (.bool true) ∧ Below w.heap.size w w') → Q e w') := by rw [← hQ]; exact fun _ _ h => h
  clear hQ
  obtain ⟨N, hN⟩ : ∃ N, w.heap.size = N := ⟨_, rfl⟩
  obtain ⟨Wa, hWa⟩ : ∃ W, w.alloc (.cells #[.int .u8 97, .string ⟨#[68, 111, 103, 115]⟩] 46) = W := ⟨_, rfl⟩
  obtain ⟨Wb, hWb⟩ : ∃ W, Wa.alloc (.cells #[.string ⟨#[50, 52, 53]⟩, .string ⟨#[49, 48]⟩, .slice (some ⟨w.heap.size, 0, none⟩) 1 1, .int .i64 0] 44) = W := ⟨_, rfl⟩
  obtain ⟨W0, hW0⟩ : ∃ W, Wb.alloc (.cells #[.int .i64 1, .int .i64 3, .int .i64 1, .string ⟨#[101, 110, 103]⟩, .slice (some ⟨w.heap.size + 1, 0, none⟩) 1 1] 24) = W := ⟨_, rfl⟩
  have hsa : Wa.heap.size = w.heap.size + 1 := by rw [← hWa]; simp
  have hsb : Wb.heap.size = w.heap.size + 2 := by rw [← hWb]; simp [hsa]
  have ba : Below w.heap.size w Wa := by rw [← hWa]; exact (Below.refl _ _).alloc (Nat.le_refl _) _
  have bb : Below Wa.heap.size Wa Wb := by rw [← hWb]; exact (Below.refl _ _).alloc (Nat.le_refl _) _
  have b0 : Below Wb.heap.size Wb W0 := by rw [← hW0]; exact (Below.refl _ _).alloc (Nat.le_refl _) _
  have h1 : Wa.heap[w.heap.size]? = some (.cells #[.int .u8 97, .string ⟨#[68, 111, 103, 115]⟩] 46 (0, 0)) := by rw [← hWa]; exact heap_alloc_new w _
  have h2 : Wb.heap[w.heap.size + 1]? = some (.cells #[.string ⟨#[50, 52, 53]⟩, .string ⟨#[49, 48]⟩, .slice (some ⟨w.heap.size, 0, none⟩) 1 1, .int .i64 0] 44 (0, 0)) := by
    rw [← hWb, ← hsa]; exact heap_alloc_new Wa _
  have h3 : W0.heap[w.heap.size + 1 + 1]? = some (.cells #[.int .i64 1, .int .i64 3, .int .i64 1, .string ⟨#[101, 110, 103]⟩, .slice (some ⟨w.heap.size + 1, 0, none⟩) 1 1] 24 (0, 0)) := by
    rw [← hW0, show w.heap.size + 1 + 1 = Wb.heap.size by omega]; exact heap_alloc_new Wb _
  have hq : QL (.slice (some ⟨w.heap.size, 0, none⟩) 1 1) [(97, [68, 111, 103, 115])] Wa := by
    refine ⟨_, 1, rfl, Nat.le_refl _, by unfold maxLen; omega, (fun h => by cases h), fun i hi => ?_⟩
    have : i = 0 := by simp at hi; omega
    subst this
    exact ⟨w.heap.size, 0, rfl, by omega, by rw [Lib.cell_of_heap h1]; rfl, by rw [Lib.cell_of_heap h1]; rfl⟩
  have hqb := (hq.after bb).after b0
  have h2b := (b0.block _ (by omega)).trans h2
  have hf : FL (.slice (some ⟨w.heap.size + 1, 0, none⟩) 1 1) al1R.fields W0 := by
    refine ⟨_, 1, rfl, Nat.le_refl _, by unfold maxLen; omega, (fun h => by cases h), fun i hi => ?_⟩
    have : i = 0 := by
      have : i < 1 := hi
      omega
    subst this
    exact ⟨w.heap.size + 1, 0, .slice (some ⟨w.heap.size, 0, none⟩) 1 1, rfl, by have := b0.size; omega, by rw [Lib.cell_of_heap h2b]; rfl, by rw [Lib.cell_of_heap h2b]; rfl, by rw [Lib.cell_of_heap h2b]; rfl, by rw [Lib.cell_of_heap h2b]; rfl, hqb⟩
  have B0 := Lib.hid (ba.trans ((bb.trans (b0.mono bb.size)).mono ba.size))
  have cP : RowKit.Hid (Calls Tryz.prog 9 #[.agg #[.int .i64 1, .int .i64 3, .int .i64 1, .string ⟨#[101, 110, 103]⟩, .slice (some ⟨w.heap.size + 1, 0, none⟩) 1 1]] W0 fun e w' => e = .returned (.tuple #[.string ⟨#[61, 49, 32, 51, 32, 98, 111, 111, 107, 32, 101, 110, 103, 10, 50, 52, 53, 32, 49, 48, 32, 36, 97, 68, 111, 103, 115, 10, 10]⟩, .int .i64 0]) ∧ Below W0.heap.size W0 w') :=
    pPrint11_any al1R _ W0 (hE.after B0.out) hf (by decide) (fun i hi j hj => by
      have h : i = 0 := by have : i < 1 := hi; omega
      subst h
      have h : j = 0 := by have : j < 1 := hj; omega
      subst h
      decide) al1S 0 al1_prn
  have cA : RowKit.Hid (∀ W, Env W → Calls Tryz.prog 11 #[.string ⟨#[61, 49, 32, 51, 32, 98, 111, 111, 107, 32, 101, 110, 103, 10, 50, 52, 53, 32, 49, 48, 32, 36, 97, 68, 111, 103, 115, 10]⟩] W fun e w' => ∃ a c, e = .returned (.tuple #[.agg #[.int .i64 0, .int .i64 0, .int .i64 0, .string ⟨#[]⟩, .slice a 0 c], .int .i64 3, .int .i64 3]) ∧ Below W.heap.size W w') := by
    intro W hW
    refine (pParse11_any _ (by decide) rec0 3 3 al1_a W hW).mono ?_
    rintro e w' ⟨u, rfl, hn, hb⟩
    obtain ⟨a, c, rfl, -, -⟩ := hn.here.length
    exact ⟨a, c, rfl, hb⟩
  have cB : RowKit.Hid (∀ W, Env W → Calls Tryz.prog 11 #[.string ⟨#[61, 49, 32, 51, 32, 98, 111, 111, 107, 32, 101, 110, 103, 10, 50, 52, 53, 32, 49, 48, 32, 36, 97, 68, 111, 103, 115]⟩] W fun e w' => ∃ a c, e = .returned (.tuple #[.agg #[.int .i64 0, .int .i64 0, .int .i64 0, .string ⟨#[]⟩, .slice a 0 c], .int .i64 2, .int .i64 3]) ∧ Below W.heap.size W w') := by
    intro W hW
    refine (pParse11_any _ (by decide) rec0 2 3 al1_b W hW).mono ?_
    rintro e w' ⟨u, rfl, hn, hb⟩
    obtain ⟨a, c, rfl, -, -⟩ := hn.here.length
    exact ⟨a, c, rfl, hb⟩
  have cC : RowKit.Hid (∀ W, Env W → Calls Tryz.prog 11 #[.string ⟨#[61, 49, 32, 51, 32, 98, 111, 111, 107, 32, 101, 110, 103, 10, 10, 120]⟩] W fun e w' => ∃ a c, e = .returned (.tuple #[.agg #[.int .i64 0, .int .i64 0, .int .i64 0, .string ⟨#[]⟩, .slice a 0 c], .int .i64 3, .int .i64 3]) ∧ Below W.heap.size W w') := by
    intro W hW
    refine (pParse11_any _ (by decide) rec0 3 3 al1_c W hW).mono ?_
    rintro e w' ⟨u, rfl, hn, hb⟩
    obtain ⟨a, c, rfl, -, -⟩ := hn.here.length
    exact ⟨a, c, rfl, hb⟩
  have cD : RowKit.Hid (∀ W, Env W → Calls Tryz.prog 11 #[.string ⟨#[61, 48, 49, 32, 51, 32, 98, 111, 111, 107, 32, 101, 110, 103, 10, 10]⟩] W fun e w' => ∃ a c, e = .returned (.tuple #[.agg #[.int .i64 0, .int .i64 0, .int .i64 0, .string ⟨#[]⟩, .slice a 0 c], .int .i64 1, .int .i64 3]) ∧ Below W.heap.size W w') := by
    intro W hW
    refine (pParse11_any _ (by decide) rec0 1 3 al1_d W hW).mono ?_
    rintro e w' ⟨u, rfl, hn, hb⟩
    obtain ⟨a, c, rfl, -, -⟩ := hn.here.length
    exact ⟨a, c, rfl, hb⟩
  have cT : RowKit.Hid (∀ W, Env W → Calls Tryz.prog 17 #[.string (⟨#[61, 49, 32, 51, 32, 98, 111, 111, 107, 32, 101, 110, 103, 10, 50, 52, 53, 32, 49, 48, 32, 36, 97, 68, 111, 103, 115, 10, 10]⟩ ++ ⟨#[61, 49, 32, 51, 32, 98, 111, 111, 107, 32, 101, 110, 103, 10, 50, 52, 53, 32, 49, 48, 32, 36, 97, 68, 111, 103, 115, 10, 10]⟩)] W fun e w' => ∃ a c, e = .returned (.tuple #[.slice a 2 c, .int .i64 0, .int .i64 0]) ∧ Below W.heap.size W w') := by
    intro W hW
    have c := pParseAll_any (al1S ++ al1S) (by decide) _ 0 0 al1_two W hW
    rw [← S_append] at c
    refine Calls.mono (show Calls _ _ _ _ _ from c) ?_
    rintro e w' ⟨v, rfl, hn, hb⟩
    obtain ⟨a, c, rfl, -, -⟩ := hn.here.length
    exact ⟨a, c, rfl, hb⟩
  have cU : RowKit.Hid (∀ W, Env W → Calls Tryz.prog 17 #[.string (⟨#[61, 49, 32, 51, 32, 98, 111, 111, 107, 32, 101, 110, 103, 10, 50, 52, 53, 32, 49, 48, 32, 36, 97, 68, 111, 103, 115, 10, 10]⟩ ++ ⟨#[61, 49]⟩)] W fun e w' => ∃ a c, e = .returned (.tuple #[.slice a 0 c, .int .i64 4, .int .i64 3]) ∧ Below W.heap.size W w') := by
    intro W hW
    have c := pParseAll_any (al1S ++ [61, 49]) (by decide) _ 4 3 al1_cut W hW
    rw [← S_append] at c
    refine Calls.mono (show Calls _ _ _ _ _ from c) ?_
    rintro e w' ⟨v, rfl, hn, hb⟩
    obtain ⟨a, c, rfl, -, -⟩ := hn.here.length
    exact ⟨a, c, rfl, hb⟩
  have HW : RowKit.Hid (((w.alloc (.cells #[.int .u8 97, .string ⟨#[68, 111, 103, 115]⟩] 46)).alloc (.cells #[.string ⟨#[50, 52, 53]⟩, .string ⟨#[49, 48]⟩, .slice (some ⟨w.heap.size, 0, none⟩) 1 1, .int .i64 0] 44)).alloc (.cells #[.int .i64 1, .int .i64 3, .int .i64 1, .string ⟨#[101, 110, 103]⟩, .slice (some ⟨w.heap.size + 1, 0, none⟩) 1 1] 24) = W0) := by
    unfold RowKit.Hid
    rw [hWa, hWb, hW0]
  have H3 := Lib.hid h3
  have HE := Lib.hid hE
  clear hWa hWb hW0 hsa hsb ba bb b0 h1 h2 h3 hq hqb h2b hf hE hN N
  go_enter Tryz.func8, Tryz.ntmps8
  obtain ⟨⟨r0, r1, r2, r3, r4⟩, -⟩ := rcells H3.out
  go_upto_region 2 with fail
  rw [HW.out]
  clear HW
  go_wp2_with fail
  refine cP.out.mono ?_
  rintro e w1 ⟨rfl, hb1⟩
  have B1 := Lib.hid (B0.out.trans (hb1.mono B0.out.size))
  clear hb1 r0 r1 r2 r3 r4 cP H3
  go_wp2_with fail
  refine (cA.out w1 (HE.out.after B1.out)).mono ?_
  rintro e w2 ⟨a2, p2, rfl, hb2⟩
  have hA2 := (Below.refl w2.heap.size w2).alloc (Nat.le_refl _) (.cells #[.int .i64 0, .int .i64 0, .int .i64 0, .string ⟨#[]⟩, .slice a2 0 p2] 24)
  obtain ⟨V2, hV2⟩ : ∃ W, w2.alloc (.cells #[.int .i64 0, .int .i64 0, .int .i64 0, .string ⟨#[]⟩, .slice a2 0 p2] 24) = W := ⟨_, rfl⟩
  rw [hV2] at hA2
  have B2 := Lib.hid (B1.out.trans ((hb2.trans (hA2.mono hb2.size)).mono B1.out.size))
  have HV2 := Lib.hid hV2
  clear hb2 hA2 hV2 cA
  go_upto_region 6 with fail
  rw [HV2.out]
  go_wp2_with fail
  refine (cB.out V2 (HE.out.after B2.out)).mono ?_
  rintro e w3 ⟨a3, p3, rfl, hb3⟩
  have hA3 := (Below.refl w3.heap.size w3).alloc (Nat.le_refl _) (.cells #[.int .i64 0, .int .i64 0, .int .i64 0, .string ⟨#[]⟩, .slice a3 0 p3] 24)
  obtain ⟨V3, hV3⟩ : ∃ W, w3.alloc (.cells #[.int .i64 0, .int .i64 0, .int .i64 0, .string ⟨#[]⟩, .slice a3 0 p3] 24) = W := ⟨_, rfl⟩
  rw [hV3] at hA3
  have B3 := Lib.hid (B2.out.trans ((hb3.trans (hA3.mono hb3.size)).mono B2.out.size))
  have HV3 := Lib.hid hV3
  clear hb3 hA3 hV3 cB
  go_upto_region 7 with fail
  rw [HV3.out]
  go_wp2_with fail
  refine (cC.out V3 (HE.out.after B3.out)).mono ?_
  rintro e w4 ⟨a4, p4, rfl, hb4⟩
  have hA4 := (Below.refl w4.heap.size w4).alloc (Nat.le_refl _) (.cells #[.int .i64 0, .int .i64 0, .int .i64 0, .string ⟨#[]⟩, .slice a4 0 p4] 24)
  obtain ⟨V4, hV4⟩ : ∃ W, w4.alloc (.cells #[.int .i64 0, .int .i64 0, .int .i64 0, .string ⟨#[]⟩, .slice a4 0 p4] 24) = W := ⟨_, rfl⟩
  rw [hV4] at hA4
  have B4 := Lib.hid (B3.out.trans ((hb4.trans (hA4.mono hb4.size)).mono B3.out.size))
  have HV4 := Lib.hid hV4
  clear hb4 hA4 hV4 cC
  go_upto_region 8 with fail
  rw [HV4.out]
  go_wp2_with fail
  refine (cD.out V4 (HE.out.after B4.out)).mono ?_
  rintro e w5 ⟨a5, p5, rfl, hb5⟩
  have hA5 := (Below.refl w5.heap.size w5).alloc (Nat.le_refl _) (.cells #[.int .i64 0, .int .i64 0, .int .i64 0, .string ⟨#[]⟩, .slice a5 0 p5] 24)
  obtain ⟨V5, hV5⟩ : ∃ W, w5.alloc (.cells #[.int .i64 0, .int .i64 0, .int .i64 0, .string ⟨#[]⟩, .slice a5 0 p5] 24) = W := ⟨_, rfl⟩
  rw [hV5] at hA5
  have B5 := Lib.hid (B4.out.trans ((hb5.trans (hA5.mono hb5.size)).mono B4.out.size))
  have HV5 := Lib.hid hV5
  clear hb5 hA5 hV5 cD
  go_upto_region 9 with fail
  rw [HV5.out]
  go_wp2_with fail
  refine (cT.out V5 (HE.out.after B5.out)).mono ?_
  rintro e w6 ⟨a6, p6, rfl, hb6⟩
  have B6 := Lib.hid (B5.out.trans (hb6.mono B5.out.size))
  clear hb6 cT
  go_wp2_with fail
  refine (cU.out w6 (HE.out.after B6.out)).mono ?_
  rintro e w7 ⟨a7, p7, rfl, hb7⟩
  have B7 := Lib.hid (B6.out.trans (hb7.mono B6.out.size))
  clear hb7 cU
  go_wp2
  first | exact HQ.out _ _ ⟨rfl, B7.out⟩ | (go_ret; exact HQ.out _ _ ⟨rfl, B7.out⟩)
end

section
open Go.RowKit Go.PlainAid
theorem getD11_le (L : List Sub) (n : Nat) (h : ∀ s ∈ L, s.2.length ≤ n) (i : Nat) : (L.getD i sub0).2.length ≤ n := by
  rw [List.getD_eq_getElem?_getD]
  rcases Nat.lt_or_ge i L.length with h1 | h1
  · rw [List.getElem?_eq_getElem h1]
    exact h _ (List.getElem_mem h1)
  · rw [List.getElem?_eq_none h1]
    exact Nat.zero_le _
theorem small11F (f : Fld) (h : smallFB f = true) : f.subs.length ≤ 20 ∧ ∀ i, (f.subs.getD i sub0).2.length ≤ 300 := by
  unfold smallFB at h
  rw [Bool.and_eq_true, decide_eq_true_iff, List.all_eq_true] at h
  exact ⟨h.1, getD11_le _ _ (fun s hs => of_decide_eq_true (h.2 s hs))⟩
theorem small11R (r : Rec) (h : smallRB r = true) : r.fields.length ≤ 70 ∧ ∀ f ∈ r.fields, f.subs.length ≤ 20 ∧ ∀ i, (f.subs.getD i sub0).2.length ≤ 300 := by
  unfold smallRB at h
  rw [Bool.and_eq_true, decide_eq_true_iff, List.all_eq_true] at h
  exact ⟨h.1, fun f hf => small11F f (h.2 f hf)⟩
theorem mem11_at (L : List Fld) (i : Nat) (h : i < L.length) : L.getD i fd0 ∈ L := by
  rw [List.getD_eq_getElem?_getD, List.getElem?_eq_getElem h]
  exact List.getElem_mem h
theorem small11_hz (r : Rec) (h : smallRB r = true) : ∀ i, i < r.fields.length → ∀ j, j < (r.fields.getD i fd0).subs.length → ((r.fields.getD i fd0).subs.getD j sub0).2.length ≤ 1000000 :=
  fun i hi j _ => Nat.le_trans (((small11R r h).2 _ (mem11_at _ i hi)).2 j) (by decide)

theorem small11_ok {L : List Rec} (h : ∀ i, i < L.length → smallRB (L.getD i rec0) = true) : ∀ r ∈ L, okZ r := by
  intro r hr
  obtain ⟨i, hi, rfl⟩ := List.mem_iff_getElem.1 hr
  have := small11_hz _ (h i hi)
  rw [List.getD_eq_getElem?_getD, List.getElem?_eq_getElem hi] at this
  exact this
set_option maxHeartbeats 16000000 in
set_option maxRecDepth 100000 in
theorem lawPrintAlls_any (v : Value) (L : List Rec) (w : World) (hE : Env w) (hv : RL v L w) (hlz : ∀ r ∈ L, r.lang.length ≤ maxLen) :
    Calls Tryz.prog 5 #[v] w fun e w' => e = .returned (.bool true) ∧ Below w.heap.size w w' := by
  obtain ⟨Q, hQ⟩ : ∃ Q, (fun (e : Ending) (w' : World) => e = .returned (.bool true) ∧ Below w.heap.size w w') = Q := ⟨_, rfl⟩
  rw [hQ]
  have HQ : RowKit.Hid (∀ e w', (e = .returned (.bool true) ∧ Below w.heap.size w w') → Q e w') := by rw [← hQ]; exact fun _ _ h => h
  clear hQ
  have cA := Lib.hid (fun W hW => lalive11_any W hW)
  have HE := Lib.hid hE
  have HV := Lib.hid hv
  have HLz := Lib.hid hlz
  obtain ⟨s, er, hs⟩ : ∃ s er, prnA L = (s, er) := ⟨_, _, rfl⟩
  have cP := Lib.hid (fun W hE hW hok => pPrintAll_any L v W hE hW hok s er hs)
  have cR := Lib.hid (fun W hW hok => refPrintAll_any L v W hW hok s er hs)
  have cS := Lib.hid (refSmallRecords_any L v 70 (by decide) w hv)
  obtain ⟨a, cap, rfl, -, -⟩ := hv.length
  obtain ⟨n, hn⟩ : ∃ n, L.length = n := ⟨_, rfl⟩
  rw [hn] at HV cP cR cS ⊢
  have HN := Lib.hid hn
  clear hv hlz hs hn hE
  generalize S s = st at *
  go_enter Tryz.func5, Tryz.ntmps5
  go_wp2_with fail
  refine cS.out.mono ?_
  rintro e w1 ⟨b, rfl, hb1, hsm⟩
  have B1 := Lib.hid hb1
  have HSm := Lib.hid hsm
  clear hb1 hsm cS
  cases b with
  | false =>
    clear HSm cP cR
    go_wp2_with fail
    refine (cA.out w1 (HE.out.after B1.out)).mono ?_
    rintro e w2 ⟨rfl, hb2⟩
    have BF := Lib.hid (B1.out.trans (hb2.mono B1.out.size))
    clear hb2 cA
    go_wp2
    first | exact HQ.out _ _ ⟨rfl, BF.out⟩ | (go_ret; exact HQ.out _ _ ⟨rfl, BF.out⟩)
  | true =>
    have hok : ∀ r ∈ L, okZ r := small11_ok (by rw [HN.out]; exact (HSm.out rfl).2)
    have c1 := Lib.hid (cP.out w1 (HE.out.after B1.out) (HV.out.after B1.out) (fun r hr => ⟨HLz.out r hr, hok r hr⟩))
    have c2 := Lib.hid (fun W hW => cR.out W hW hok)
    clear HSm cP cR hok
    go_wp2_with fail
    refine c1.out.mono ?_
    rintro e w2 ⟨rfl, hb2⟩
    have B2 := Lib.hid (B1.out.trans (hb2.mono B1.out.size))
    clear hb2 c1
    go_wp2_with fail
    refine (c2.out w2 (HV.out.after B2.out)).mono ?_
    rintro e w3 ⟨rfl, hb3⟩
    have B3 := Lib.hid (B2.out.trans (hb3.mono B2.out.size))
    clear hb3 c2
    go_wp2_with fail
    refine (cA.out w3 (HE.out.after B3.out)).mono ?_
    rintro e w4 ⟨rfl, hb4⟩
    have BF := Lib.hid (B3.out.trans (hb4.mono B3.out.size))
    clear hb4 cA
    go_wp2
    first | exact HQ.out _ _ ⟨rfl, BF.out⟩ | (go_ret; exact HQ.out _ _ ⟨rfl, BF.out⟩)

set_option maxHeartbeats 16000000 in
set_option maxRecDepth 100000 in
theorem lawParseAlls_any (l : List UInt8) (w : World) (hE : Env w) :
    Calls Tryz.prog 6 #[.string (S l)] w fun e w' => e = .returned (.bool true) ∧ Below w.heap.size w w' := by
  obtain ⟨Q, hQ⟩ : ∃ Q, (fun (e : Ending) (w' : World) => e = .returned (.bool true) ∧ Below w.heap.size w w') = Q := ⟨_, rfl⟩
  rw [hQ]
  have HQ : RowKit.Hid (∀ e w', (e = .returned (.bool true) ∧ Below w.heap.size w w') → Q e w') := by rw [← hQ]; exact fun _ _ h => h
  clear hQ
  have cA := Lib.hid (fun W hW => lalive11_any W hW)
  have HE := Lib.hid hE
  have hsz := S_size l
  obtain ⟨z, hz⟩ : ∃ z, l.length = z := ⟨_, rfl⟩
  rw [hz] at hsz
  obtain ⟨L, m, er, hp⟩ : ∃ L m er, parA l = (L, m, er) := ⟨_, _, _, rfl⟩
  have HP := Lib.hid (fun (h : z ≤ 70000) W hW => pParseAll_any l (by omega) L m er hp W hW)
  have HR := Lib.hid (fun (h : z ≤ 70000) W => refParseAll_any l (by omega) L m er hp W)
  have cM := Lib.hid (fun x y W hx hy => refSameRecords_eq L x y W hx hy (fun r => (sameRB_iff r r).2 rfl))
  have B0 := Lib.hid (Below.refl w.heap.size w)
  clear hp hz hE
  generalize S l = s at *
  go_enter Tryz.func6, Tryz.ntmps6
  by_cases h7 : 70000 < z
  · have t1 : decide ((70000 : Int) < (z : Int)) = true := decide_eq_true (by omega)
    have t1' : decide (70000 < z) = true := decide_eq_true h7
    clear h7 HP HR cM
    go_wp2_with fail
    refine (cA.out w (HE.out.after B0.out)).mono ?_
    rintro e w1 ⟨rfl, hb1⟩
    have BF := Lib.hid (B0.out.trans (hb1.mono B0.out.size))
    clear hb1 cA
    go_wp2
    first | exact HQ.out _ _ ⟨rfl, BF.out⟩ | (go_ret; exact HQ.out _ _ ⟨rfl, BF.out⟩)
  have t1 : decide ((70000 : Int) < (z : Int)) = false := decide_eq_false (by omega)
  have t1' : decide (70000 < z) = false := decide_eq_false h7
  have c1 := Lib.hid (HP.out (by omega) w HE.out)
  have c2 := Lib.hid (HR.out (by omega))
  clear h7 HP HR B0
  go_wp2_with fail
  refine c1.out.mono ?_
  rintro e w2 ⟨v2, rfl, hn2, hb2⟩
  have B2 := Lib.hid hb2
  have H2 := Lib.hid hn2.here
  obtain ⟨a2, d2, rfl, -, -⟩ := hn2.here.length
  clear hn2 hb2 c1
  go_wp2_with fail
  refine (c2.out w2).mono ?_
  rintro e w3 ⟨v3, rfl, hn3, hb3⟩
  have B3 := Lib.hid (B2.out.trans (hb3.mono B2.out.size))
  have H3 := Lib.hid hn3.here
  have H23 := Lib.hid (H2.out.after hb3)
  obtain ⟨a3, d3, rfl, -, -⟩ := hn3.here.length
  clear hn3 hb3 c2 H2
  go_wp2_with fail
  refine (cM.out _ _ w3 H23.out H3.out).mono ?_
  rintro e w4 ⟨rfl, hb4⟩
  have B4 := Lib.hid (B3.out.trans (hb4.mono B3.out.size))
  clear hb4 H23 H3 cM
  go_wp2_with fail
  refine (cA.out w4 (HE.out.after B4.out)).mono ?_
  rintro e w5 ⟨rfl, hb5⟩
  have BF := Lib.hid (B4.out.trans (hb5.mono B4.out.size))
  clear hb5 cA
  go_wp2
  first | exact HQ.out _ _ ⟨rfl, BF.out⟩ | (go_ret; exact HQ.out _ _ ⟨rfl, BF.out⟩)
end

section
open Go.RowKit Go.PlainAid
set_option maxHeartbeats 16000000 in
set_option maxRecDepth 100000 in
theorem lawPrints_any (r : Rec) (u : Value) (w : World) (hE : Env w) (hu : FL u r.fields w) (hlz : r.lang.length ≤ maxLen) :
    Calls Tryz.prog 3 #[RV r u] w fun e w' => e = .returned (.bool true) ∧ Below w.heap.size w w' := by
  obtain ⟨Q, hQ⟩ : ∃ Q, (fun (e : Ending) (w' : World) => e = .returned (.bool true) ∧ Below w.heap.size w w') = Q := ⟨_, rfl⟩
  rw [hQ]
  have HQ : RowKit.Hid (∀ e w', (e = .returned (.bool true) ∧ Below w.heap.size w w') → Q e w') := by rw [← hQ]; exact fun _ _ h => h
  clear hQ
  have cA := Lib.hid (fun W hW => lalive11_any W hW)
  obtain ⟨sb, hsb⟩ : ∃ b, smallRB r = b := ⟨_, rfl⟩
  have cS := fun W hW => refSmall_any r u W hW sb hsb
  obtain ⟨s, er, hs⟩ : ∃ s er, prnX r = (s, er) := ⟨_, _, rfl⟩
  have cE := fun (h : okZ r) W hE hW => pPrint11_any r u W hE hW hlz h s er hs
  have cR := fun (h : okZ r) W hW => refPrint11_any r u W hW h s er hs
  have HOk : RowKit.Hid (sb = true → okZ r) := fun h => small11_hz r (hsb.trans h)
  have HU := Lib.hid hu
  obtain ⟨ua, uc, hue, -, -⟩ := hu.length
  subst hue
  obtain ⟨un, hun⟩ : ∃ n, r.fields.length = n := ⟨_, rfl⟩
  rw [hun] at HU cS cE cR ⊢
  unfold RV at cS cE cR ⊢
  obtain ⟨W0, hW0⟩ : ∃ W0, w.alloc (.cells #[.int .i64 r.id, .int .i64 r.ver, .int .i64 r.kind, .string (S r.lang), .slice ua un uc] 24) = W0 := ⟨_, rfl⟩
  have b0 : Below w.heap.size w W0 := by rw [← hW0]; exact (Below.refl w.heap.size w).alloc (Nat.le_refl _) _
  have hR0 : W0.heap[w.heap.size]? = some (.cells #[.int .i64 r.id, .int .i64 r.ver, .int .i64 r.kind, .string (S r.lang), .slice ua un uc] 24 (0, 0)) := by rw [← hW0]; exact heap_alloc_new w _
  have hlt0 : w.heap.size < W0.heap.size := by rw [← hW0]; simp
  have HR := Lib.hid (fun (W : World) (h : Below W0.heap.size W0 W) => rcells ((h.block w.heap.size hlt0).trans hR0))
  have HUw := Lib.hid (fun (W : World) (h : Below W0.heap.size W0 W) => (HU.out.after b0).after h)
  have HEw := Lib.hid (fun (W : World) (h : Below W0.heap.size W0 W) => (hE.after b0).after (h.mono (Nat.le_refl _)))
  have B0 := Lib.hid b0
  have HW0 := Lib.hid hW0
  replace cS := Lib.hid cS
  replace cE := Lib.hid cE
  replace cR := Lib.hid cR
  clear hW0 hR0 b0 hlt0 HU hu hun hE hs hsb hlz
  generalize S s = st at *
  go_enter Tryz.func3, Tryz.ntmps3
  go_upto_region 1 with fail
  rw [HW0.out]
  clear HW0
  obtain ⟨⟨r0, r1, r2, r3, r4⟩, -⟩ := HR.out W0 (Below.refl _ _)
  go_wp2_with fail
  refine (cS.out W0 (HUw.out W0 (Below.refl _ _))).mono ?_
  rintro e w1 ⟨rfl, hb1⟩
  have B1 := Lib.hid hb1
  clear hb1 cS r0 r1 r2 r3 r4
  cases sb with
  | false =>
    clear HOk cE cR
    go_wp2_with fail
    refine (cA.out w1 (HEw.out w1 B1.out)).mono ?_
    rintro e wz ⟨rfl, hbz⟩
    have BF := Lib.hid (B0.out.trans ((B1.out.trans (hbz.mono B1.out.size)).mono B0.out.size))
    clear hbz cA
    go_wp2
    first | exact HQ.out _ _ ⟨rfl, BF.out⟩ | (go_ret; exact HQ.out _ _ ⟨rfl, BF.out⟩)
  | true =>
    have hv := HOk.out rfl
    have c1 := Lib.hid (cE.out hv w1 (HEw.out w1 B1.out) (HUw.out w1 B1.out))
    have c2 := Lib.hid (fun W h => cR.out hv W h)
    clear HOk hv cE cR
    obtain ⟨⟨r0, r1, r2, r3, r4⟩, -⟩ := HR.out w1 B1.out
    go_wp2_with fail
    refine c1.out.mono ?_
    rintro e w2 ⟨rfl, hb2⟩
    have B2 := Lib.hid (B1.out.trans (hb2.mono B1.out.size))
    clear hb2 r0 r1 r2 r3 r4 c1
    obtain ⟨⟨r0, r1, r2, r3, r4⟩, -⟩ := HR.out w2 B2.out
    go_wp2_with fail
    refine (c2.out w2 (HUw.out w2 B2.out)).mono ?_
    rintro e w3 ⟨rfl, hb3⟩
    have B3 := Lib.hid (B2.out.trans (hb3.mono B2.out.size))
    clear hb3 r0 r1 r2 r3 r4 c2
    go_wp2_with fail
    refine (cA.out w3 (HEw.out w3 B3.out)).mono ?_
    rintro e wz ⟨rfl, hbz⟩
    have BF := Lib.hid (B0.out.trans ((B3.out.trans (hbz.mono B3.out.size)).mono B0.out.size))
    clear hbz cA
    go_wp2
    first | exact HQ.out _ _ ⟨rfl, BF.out⟩ | (go_ret; exact HQ.out _ _ ⟨rfl, BF.out⟩)
end

end Go.Proofs.YtnfallkeicehiaaGreatDoor
