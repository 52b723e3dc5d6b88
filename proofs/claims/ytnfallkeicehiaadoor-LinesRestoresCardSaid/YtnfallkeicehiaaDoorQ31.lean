/- Merged: Am11, LA11, LD11. -/
import Derived.Test.YtnfallkeicehiaaDoorQ30
namespace Go.Proofs.YtnfallkeicehiaaDoor

section
open Go.RowKit Go.PlainAid
set_option maxHeartbeats 16000000 in
set_option maxRecDepth 100000 in
theorem lalive11_any (w : World) (hE : Env w) :
    Calls Tryd.prog 7 #[] w fun e w' => e = .returned (.bool true) ∧ Below w.heap.size w w' := by
  obtain ⟨Q, hQ⟩ : ∃ Q, (fun (e : Ending) (w' : World) => e = .returned (.bool true) ∧ Below w.heap.size w w') = Q := ⟨_, rfl⟩
  rw [hQ]
  have HQ : RowKit.Hid (∀ e w', (e = .returned (.bool true) ∧ Below w.heap.size w w') → Q e w') := by rw [← hQ]; exact fun _ _ h => h
  clear hQ
  obtain ⟨N, hN⟩ : ∃ N, w.heap.size = N := ⟨_, rfl⟩
  obtain ⟨Wa, hWa⟩ : ∃ W, w.alloc (.cells #[.int .u8 97, .string ⟨#[68, 111, 103, 115]⟩] 45) = W := ⟨_, rfl⟩
  obtain ⟨Wb, hWb⟩ : ∃ W, Wa.alloc (.cells #[.string ⟨#[50, 52, 53]⟩, .string ⟨#[49, 48]⟩, .slice (some ⟨w.heap.size, 0, none⟩) 1 1, .int .i64 0] 43) = W := ⟨_, rfl⟩
  obtain ⟨W0, hW0⟩ : ∃ W, Wb.alloc (.cells #[.int .i64 1, .int .i64 3, .int .i64 1, .string ⟨#[101, 110, 103]⟩, .slice (some ⟨w.heap.size + 1, 0, none⟩) 1 1] 24) = W := ⟨_, rfl⟩
  have hsa : Wa.heap.size = w.heap.size + 1 := by rw [← hWa]; simp
  have hsb : Wb.heap.size = w.heap.size + 2 := by rw [← hWb]; simp [hsa]
  have ba : Below w.heap.size w Wa := by rw [← hWa]; exact (Below.refl _ _).alloc (Nat.le_refl _) _
  have bb : Below Wa.heap.size Wa Wb := by rw [← hWb]; exact (Below.refl _ _).alloc (Nat.le_refl _) _
  have b0 : Below Wb.heap.size Wb W0 := by rw [← hW0]; exact (Below.refl _ _).alloc (Nat.le_refl _) _
  have h1 : Wa.heap[w.heap.size]? = some (.cells #[.int .u8 97, .string ⟨#[68, 111, 103, 115]⟩] 45 (0, 0)) := by rw [← hWa]; exact heap_alloc_new w _
  have h2 : Wb.heap[w.heap.size + 1]? = some (.cells #[.string ⟨#[50, 52, 53]⟩, .string ⟨#[49, 48]⟩, .slice (some ⟨w.heap.size, 0, none⟩) 1 1, .int .i64 0] 43 (0, 0)) := by
    rw [← hWb, ← hsa]; exact heap_alloc_new Wa _
  have h3 : W0.heap[w.heap.size + 1 + 1]? = some (.cells #[.int .i64 1, .int .i64 3, .int .i64 1, .string ⟨#[101, 110, 103]⟩, .slice (some ⟨w.heap.size + 1, 0, none⟩) 1 1] 24 (0, 0)) := by
    rw [← hW0, show w.heap.size + 1 + 1 = Wb.heap.size by omega]; exact heap_alloc_new Wb _
  have hq : QL (.slice (some ⟨w.heap.size, 0, none⟩) 1 1) [(97, [68, 111, 103, 115])] Wa := by
    refine ⟨_, 1, rfl, Nat.le_refl _, by unfold maxLen; omega, (fun h => by cases h), fun i hi => ?_⟩
    have : i = 0 := by simp at hi; omega
    subst this
    exact ⟨w.heap.size, 0, rfl, by omega, by rw [Lib.cell_of_heap h1]; rfl, by rw [Lib.cell_of_heap h1]; rfl⟩
  have hqb := (hq.after bb).after b0
  have h2b := (b0.block _ (by omega)).trans h2
  have hf : FL (.slice (some ⟨w.heap.size + 1, 0, none⟩) 1 1) al1R.fields W0 := by
    refine ⟨_, 1, rfl, Nat.le_refl _, by unfold maxLen; omega, (fun h => by cases h), fun i hi => ?_⟩
    have : i = 0 := by
      have : i < 1 := hi
      omega
    subst this
    exact ⟨w.heap.size + 1, 0, .slice (some ⟨w.heap.size, 0, none⟩) 1 1, rfl, by have := b0.size; omega, by rw [Lib.cell_of_heap h2b]; rfl, by rw [Lib.cell_of_heap h2b]; rfl, by rw [Lib.cell_of_heap h2b]; rfl, by rw [Lib.cell_of_heap h2b]; rfl, hqb⟩
  have B0 := Lib.hid (ba.trans ((bb.trans (b0.mono bb.size)).mono ba.size))
  have cP : RowKit.Hid (Calls Tryd.prog 8 #[.agg #[.int .i64 1, .int .i64 3, .int .i64 1, .string ⟨#[101, 110, 103]⟩, .slice (some ⟨w.heap.size + 1, 0, none⟩) 1 1]] W0 fun e w' => e = .returned (.tuple #[.string ⟨#[61, 49, 32, 51, 32, 98, 111, 111, 107, 32, 101, 110, 103, 10, 50, 52, 53, 32, 49, 48, 32, 36, 97, 68, 111, 103, 115, 10, 10]⟩, .int .i64 0]) ∧ Below W0.heap.size W0 w') :=
    pPrint11_any al1R _ W0 (hE.after B0.out) hf (by decide) (fun i hi j hj => by
      have h : i = 0 := by have : i < 1 := hi; omega
      subst h
      have h : j = 0 := by have : j < 1 := hj; omega
      subst h
      decide) al1S 0 al1_prn
  have cA : RowKit.Hid (∀ W, Env W → Calls Tryd.prog 9 #[.string ⟨#[61, 49, 32, 51, 32, 98, 111, 111, 107, 32, 101, 110, 103, 10, 50, 52, 53, 32, 49, 48, 32, 36, 97, 68, 111, 103, 115, 10]⟩] W fun e w' => ∃ a c, e = .returned (.tuple #[.agg #[.int .i64 0, .int .i64 0, .int .i64 0, .string ⟨#[]⟩, .slice a 0 c], .int .i64 3, .int .i64 3]) ∧ Below W.heap.size W w') := by
    intro W hW
    refine (pParse11_any _ (by decide) rec0 3 3 al1_a W hW).mono ?_
    rintro e w' ⟨u, rfl, hn, hb⟩
    obtain ⟨a, c, rfl, -, -⟩ := hn.here.length
    exact ⟨a, c, rfl, hb⟩
  have cB : RowKit.Hid (∀ W, Env W → Calls Tryd.prog 9 #[.string ⟨#[61, 49, 32, 51, 32, 98, 111, 111, 107, 32, 101, 110, 103, 10, 50, 52, 53, 32, 49, 48, 32, 36, 97, 68, 111, 103, 115]⟩] W fun e w' => ∃ a c, e = .returned (.tuple #[.agg #[.int .i64 0, .int .i64 0, .int .i64 0, .string ⟨#[]⟩, .slice a 0 c], .int .i64 2, .int .i64 3]) ∧ Below W.heap.size W w') := by
    intro W hW
    refine (pParse11_any _ (by decide) rec0 2 3 al1_b W hW).mono ?_
    rintro e w' ⟨u, rfl, hn, hb⟩
    obtain ⟨a, c, rfl, -, -⟩ := hn.here.length
    exact ⟨a, c, rfl, hb⟩
  have cC : RowKit.Hid (∀ W, Env W → Calls Tryd.prog 9 #[.string ⟨#[61, 49, 32, 51, 32, 98, 111, 111, 107, 32, 101, 110, 103, 10, 10, 120]⟩] W fun e w' => ∃ a c, e = .returned (.tuple #[.agg #[.int .i64 0, .int .i64 0, .int .i64 0, .string ⟨#[]⟩, .slice a 0 c], .int .i64 3, .int .i64 3]) ∧ Below W.heap.size W w') := by
    intro W hW
    refine (pParse11_any _ (by decide) rec0 3 3 al1_c W hW).mono ?_
    rintro e w' ⟨u, rfl, hn, hb⟩
    obtain ⟨a, c, rfl, -, -⟩ := hn.here.length
    exact ⟨a, c, rfl, hb⟩
  have cD : RowKit.Hid (∀ W, Env W → Calls Tryd.prog 9 #[.string ⟨#[61, 48, 49, 32, 51, 32, 98, 111, 111, 107, 32, 101, 110, 103, 10, 10]⟩] W fun e w' => ∃ a c, e = .returned (.tuple #[.agg #[.int .i64 0, .int .i64 0, .int .i64 0, .string ⟨#[]⟩, .slice a 0 c], .int .i64 1, .int .i64 3]) ∧ Below W.heap.size W w') := by
    intro W hW
    refine (pParse11_any _ (by decide) rec0 1 3 al1_d W hW).mono ?_
    rintro e w' ⟨u, rfl, hn, hb⟩
    obtain ⟨a, c, rfl, -, -⟩ := hn.here.length
    exact ⟨a, c, rfl, hb⟩
  have cT : RowKit.Hid (∀ W, Env W → Calls Tryd.prog 11 #[.string (⟨#[61, 49, 32, 51, 32, 98, 111, 111, 107, 32, 101, 110, 103, 10, 50, 52, 53, 32, 49, 48, 32, 36, 97, 68, 111, 103, 115, 10, 10]⟩ ++ ⟨#[61, 49, 32, 51, 32, 98, 111, 111, 107, 32, 101, 110, 103, 10, 50, 52, 53, 32, 49, 48, 32, 36, 97, 68, 111, 103, 115, 10, 10]⟩)] W fun e w' => ∃ a c, e = .returned (.tuple #[.slice a 2 c, .int .i64 0, .int .i64 0]) ∧ Below W.heap.size W w') := by
    intro W hW
    have c := pParseAll_any (al1S ++ al1S) (by decide) _ 0 0 al1_two W hW
    rw [← S_append] at c
    refine Calls.mono (show Calls _ _ _ _ _ from c) ?_
    rintro e w' ⟨v, rfl, hn, hb⟩
    obtain ⟨a, c, rfl, -, -⟩ := hn.here.length
    exact ⟨a, c, rfl, hb⟩
  have cU : RowKit.Hid (∀ W, Env W → Calls Tryd.prog 11 #[.string (⟨#[61, 49, 32, 51, 32, 98, 111, 111, 107, 32, 101, 110, 103, 10, 50, 52, 53, 32, 49, 48, 32, 36, 97, 68, 111, 103, 115, 10, 10]⟩ ++ ⟨#[61, 49]⟩)] W fun e w' => ∃ a c, e = .returned (.tuple #[.slice a 0 c, .int .i64 4, .int .i64 3]) ∧ Below W.heap.size W w') := by
    intro W hW
    have c := pParseAll_any (al1S ++ [61, 49]) (by decide) _ 4 3 al1_cut W hW
    rw [← S_append] at c
    refine Calls.mono (show Calls _ _ _ _ _ from c) ?_
    rintro e w' ⟨v, rfl, hn, hb⟩
    obtain ⟨a, c, rfl, -, -⟩ := hn.here.length
    exact ⟨a, c, rfl, hb⟩
  have HW : RowKit.Hid (((w.alloc (.cells #[.int .u8 97, .string ⟨#[68, 111, 103, 115]⟩] 45)).alloc (.cells #[.string ⟨#[50, 52, 53]⟩, .string ⟨#[49, 48]⟩, .slice (some ⟨w.heap.size, 0, none⟩) 1 1, .int .i64 0] 43)).alloc (.cells #[.int .i64 1, .int .i64 3, .int .i64 1, .string ⟨#[101, 110, 103]⟩, .slice (some ⟨w.heap.size + 1, 0, none⟩) 1 1] 24) = W0) := by
    unfold RowKit.Hid
    rw [hWa, hWb, hW0]
  have H3 := Lib.hid h3
  have HE := Lib.hid hE
  clear hWa hWb hW0 hsa hsb ba bb b0 h1 h2 h3 hq hqb h2b hf hE hN N
  go_enter Tryd.func7, Tryd.ntmps7
  obtain ⟨⟨r0, r1, r2, r3, r4⟩, -⟩ := rcells H3.out
  go_upto_region 2 with fail
  rw [HW.out]
  clear HW
  go_wp2_with fail
  refine cP.out.mono ?_
  rintro e w1 ⟨rfl, hb1⟩
  have B1 := Lib.hid (B0.out.trans (hb1.mono B0.out.size))
  clear hb1 r0 r1 r2 r3 r4 cP H3
  go_wp2_with fail
  refine (cA.out w1 (HE.out.after B1.out)).mono ?_
  rintro e w2 ⟨a2, p2, rfl, hb2⟩
  have hA2 := (Below.refl w2.heap.size w2).alloc (Nat.le_refl _) (.cells #[.int .i64 0, .int .i64 0, .int .i64 0, .string ⟨#[]⟩, .slice a2 0 p2] 24)
  obtain ⟨V2, hV2⟩ : ∃ W, w2.alloc (.cells #[.int .i64 0, .int .i64 0, .int .i64 0, .string ⟨#[]⟩, .slice a2 0 p2] 24) = W := ⟨_, rfl⟩
  rw [hV2] at hA2
  have B2 := Lib.hid (B1.out.trans ((hb2.trans (hA2.mono hb2.size)).mono B1.out.size))
  have HV2 := Lib.hid hV2
  clear hb2 hA2 hV2 cA
  go_upto_region 6 with fail
  rw [HV2.out]
  go_wp2_with fail
  refine (cB.out V2 (HE.out.after B2.out)).mono ?_
  rintro e w3 ⟨a3, p3, rfl, hb3⟩
  have hA3 := (Below.refl w3.heap.size w3).alloc (Nat.le_refl _) (.cells #[.int .i64 0, .int .i64 0, .int .i64 0, .string ⟨#[]⟩, .slice a3 0 p3] 24)
  obtain ⟨V3, hV3⟩ : ∃ W, w3.alloc (.cells #[.int .i64 0, .int .i64 0, .int .i64 0, .string ⟨#[]⟩, .slice a3 0 p3] 24) = W := ⟨_, rfl⟩
  rw [hV3] at hA3
  have B3 := Lib.hid (B2.out.trans ((hb3.trans (hA3.mono hb3.size)).mono B2.out.size))
  have HV3 := Lib.hid hV3
  clear hb3 hA3 hV3 cB
  go_upto_region 7 with fail
  rw [HV3.out]
  go_wp2_with fail
  refine (cC.out V3 (HE.out.after B3.out)).mono ?_
  rintro e w4 ⟨a4, p4, rfl, hb4⟩
  have hA4 := (Below.refl w4.heap.size w4).alloc (Nat.le_refl _) (.cells #[.int .i64 0, .int .i64 0, .int .i64 0, .string ⟨#[]⟩, .slice a4 0 p4] 24)
  obtain ⟨V4, hV4⟩ : ∃ W, w4.alloc (.cells #[.int .i64 0, .int .i64 0, .int .i64 0, .string ⟨#[]⟩, .slice a4 0 p4] 24) = W := ⟨_, rfl⟩
  rw [hV4] at hA4
  have B4 := Lib.hid (B3.out.trans ((hb4.trans (hA4.mono hb4.size)).mono B3.out.size))
  have HV4 := Lib.hid hV4
  clear hb4 hA4 hV4 cC
  go_upto_region 8 with fail
  rw [HV4.out]
  go_wp2_with fail
  refine (cD.out V4 (HE.out.after B4.out)).mono ?_
  rintro e w5 ⟨a5, p5, rfl, hb5⟩
  have hA5 := (Below.refl w5.heap.size w5).alloc (Nat.le_refl _) (.cells #[.int .i64 0, .int .i64 0, .int .i64 0, .string ⟨#[]⟩, .slice a5 0 p5] 24)
  obtain ⟨V5, hV5⟩ : ∃ W, w5.alloc (.cells #[.int .i64 0, .int .i64 0, .int .i64 0, .string ⟨#[]⟩, .slice a5 0 p5] 24) = W := ⟨_, rfl⟩
  rw [hV5] at hA5
  have B5 := Lib.hid (B4.out.trans ((hb5.trans (hA5.mono hb5.size)).mono B4.out.size))
  have HV5 := Lib.hid hV5
  clear hb5 hA5 hV5 cD
  go_upto_region 9 with fail
  rw [HV5.out]
  go_wp2_with fail
  refine (cT.out V5 (HE.out.after B5.out)).mono ?_
  rintro e w6 ⟨a6, p6, rfl, hb6⟩
  have B6 := Lib.hid (B5.out.trans (hb6.mono B5.out.size))
  clear hb6 cT
  go_wp2_with fail
  refine (cU.out w6 (HE.out.after B6.out)).mono ?_
  rintro e w7 ⟨a7, p7, rfl, hb7⟩
  have B7 := Lib.hid (B6.out.trans (hb7.mono B6.out.size))
  clear hb7 cU
  go_wp2
  first | exact HQ.out _ _ ⟨rfl, B7.out⟩ | (go_ret; exact HQ.out _ _ ⟨rfl, B7.out⟩)
end

section
open Go.RowKit Go.PlainAid
theorem getD11_le (L : List Sub) (n : Nat) (h : ∀ s ∈ L, s.2.length ≤ n) (i : Nat) : (L.getD i sub0).2.length ≤ n := by
  rw [List.getD_eq_getElem?_getD]
  rcases Nat.lt_or_ge i L.length with h1 | h1
  · rw [List.getElem?_eq_getElem h1]
    exact h _ (List.getElem_mem h1)
  · rw [List.getElem?_eq_none h1]
    exact Nat.zero_le _
theorem small11F (f : Fld) (h : smallFB f = true) : f.subs.length ≤ 20 ∧ ∀ i, (f.subs.getD i sub0).2.length ≤ 300 := by
  unfold smallFB at h
  rw [Bool.and_eq_true, decide_eq_true_iff, List.all_eq_true] at h
  exact ⟨h.1, getD11_le _ _ (fun s hs => of_decide_eq_true (h.2 s hs))⟩
theorem small11R (r : Rec) (h : smallRB r = true) : r.fields.length ≤ 70 ∧ ∀ f ∈ r.fields, f.subs.length ≤ 20 ∧ ∀ i, (f.subs.getD i sub0).2.length ≤ 300 := by
  unfold smallRB at h
  rw [Bool.and_eq_true, decide_eq_true_iff, List.all_eq_true] at h
  exact ⟨h.1, fun f hf => small11F f (h.2 f hf)⟩
theorem mem11_at (L : List Fld) (i : Nat) (h : i < L.length) : L.getD i fd0 ∈ L := by
  rw [List.getD_eq_getElem?_getD, List.getElem?_eq_getElem h]
  exact List.getElem_mem h
theorem small11_hz (r : Rec) (h : smallRB r = true) : ∀ i, i < r.fields.length → ∀ j, j < (r.fields.getD i fd0).subs.length → ((r.fields.getD i fd0).subs.getD j sub0).2.length ≤ 1000000 :=
  fun i hi j _ => Nat.le_trans (((small11R r h).2 _ (mem11_at _ i hi)).2 j) (by decide)

theorem small11_ok {L : List Rec} (h : ∀ i, i < L.length → smallRB (L.getD i rec0) = true) : ∀ r ∈ L, okZ r := by
  intro r hr
  obtain ⟨i, hi, rfl⟩ := List.mem_iff_getElem.1 hr
  have := small11_hz _ (h i hi)
  rw [List.getD_eq_getElem?_getD, List.getElem?_eq_getElem hi] at this
  exact this
end

section
open Go.RowKit Go.PlainAid
theorem line_most (f : Fld) (h : rightI f = 0) : (lineL f).length ≤ 10000 := by
  obtain ⟨htag, _, _, hn16, hsub, ha0, ha1⟩ := right_facts f h
  have h3 := tagB_len _ htag
  have hb := bodyL_le f.subs (fun i hi => (subE_zero _ (hsub i hi)).2.2.2)
  have hd := dec_len 3 f.auth.toNat (by omega)
  have ha : (authP f.auth).length ≤ 10 := by
    unfold authP
    split
    · simp
    · simp [padL]
      omega
  have hm : ∀ c, (markB c).length = 1 := fun c => by unfold markB; split <;> rfl
  unfold lineL headL
  simp only [List.length_append, List.length_cons, List.length_nil, hm]
  omega
theorem bodyF_most : ∀ (F : List Fld), (∀ f ∈ F, rightI f = 0) → (bodyF F).length ≤ 10001 * F.length
  | [], _ => by simp [bodyF]
  | f :: F, h => by
    have h1 := line_most f (h f (by simp))
    have h2 := bodyF_most F (fun g hg => h g (by simp [hg]))
    have e : (bodyF (f :: F)).length = (lineL f).length + 1 + (bodyF F).length := by simp [bodyF]; omega
    rw [e, List.length_cons, Nat.mul_add]
    omega
theorem text_most (r : Rec) (h : rightRI r = 0) : (textX r).length ≤ 1000000 := by
  have h1 := hdr_max r h
  obtain ⟨_, _, _, _, _, _, _, a8, a9⟩ := right_rec r h
  have h2 := bodyF_most r.fields a9
  unfold textX
  simp only [List.length_cons, List.length_append, List.length_nil]
  omega
set_option maxHeartbeats 16000000 in
set_option maxRecDepth 100000 in
theorem lawRestores_any (r : Rec) (u : Value) (w : World) (hE : Env w) (hu : FL u r.fields w) (hlz : r.lang.length ≤ maxLen) :
    Calls Tryd.prog 3 #[RV r u] w fun e w' => e = .returned (.bool true) ∧ Below w.heap.size w w' := by
  obtain ⟨Q, hQ⟩ : ∃ Q, (fun (e : Ending) (w' : World) => e = .returned (.bool true) ∧ Below w.heap.size w w') = Q := ⟨_, rfl⟩
  rw [hQ]
  have HQ : RowKit.Hid (∀ e w', (e = .returned (.bool true) ∧ Below w.heap.size w w') → Q e w') := by rw [← hQ]; exact fun _ _ h => h
  clear hQ
  have cA := Lib.hid (fun W hW => lalive11_any W hW)
  obtain ⟨sb, hsb⟩ : ∃ b, smallRB r = b := ⟨_, rfl⟩
  have cS := fun W hW => refSmall_any r u W hW sb hsb
  obtain ⟨s, er, hs⟩ : ∃ s er, prnX r = (s, er) := ⟨_, _, rfl⟩
  have cE := fun (h : okZ r) W hE hW => pPrint11_any r u W hE hW hlz h s er hs
  have HOk : RowKit.Hid (sb = true → okZ r) := fun h => small11_hz r (hsb.trans h)
  have HNo : RowKit.Hid (er ≠ 0 → s = []) := by
    intro h
    have := prn_no r (by rw [hs]; exact h)
    rw [hs] at this
    exact this
  have HPar : RowKit.Hid (er = 0 → ∀ W, Env W → Calls Tryd.prog 9 #[.string (S s)] W fun e w' => ∃ u, e = .returned (.tuple #[RV r u, .int .i64 0, .int .i64 0]) ∧ New W.heap.size (FL u r.fields) w' ∧ Below W.heap.size W w') := by
    intro h W hW
    obtain ⟨p1, p2⟩ := prn_ok r (by rw [hs]; exact h)
    rw [hs] at p2
    have p2 : s = textX r := p2
    rw [p2]
    exact pParse11_any _ (text_most r p1) r 0 0 (par_back r p1) W hW
  have HSm := fun x y W h1 h2 => refSame08_any r r x y W h1 h2 true ((sameRB_iff r r).2 rfl)
  have HU := Lib.hid hu
  obtain ⟨ua, uc, hue, -, -⟩ := hu.length
  subst hue
  obtain ⟨un, hun⟩ : ∃ n, r.fields.length = n := ⟨_, rfl⟩
  rw [hun] at HU cS cE ⊢
  unfold RV at cS cE HSm ⊢
  obtain ⟨W0, hW0⟩ : ∃ W0, w.alloc (.cells #[.int .i64 r.id, .int .i64 r.ver, .int .i64 r.kind, .string (S r.lang), .slice ua un uc] 24) = W0 := ⟨_, rfl⟩
  have b0 : Below w.heap.size w W0 := by rw [← hW0]; exact (Below.refl w.heap.size w).alloc (Nat.le_refl _) _
  have hR0 : W0.heap[w.heap.size]? = some (.cells #[.int .i64 r.id, .int .i64 r.ver, .int .i64 r.kind, .string (S r.lang), .slice ua un uc] 24 (0, 0)) := by rw [← hW0]; exact heap_alloc_new w _
  have hlt0 : w.heap.size < W0.heap.size := by rw [← hW0]; simp
  have HR := Lib.hid (fun (W : World) (h : Below W0.heap.size W0 W) => rcells ((h.block w.heap.size hlt0).trans hR0))
  have HUw := Lib.hid (fun (W : World) (h : Below W0.heap.size W0 W) => (HU.out.after b0).after h)
  have HEw := Lib.hid (fun (W : World) (h : Below W0.heap.size W0 W) => (hE.after b0).after (h.mono (Nat.le_refl _)))
  have B0 := Lib.hid b0
  have HW0 := Lib.hid hW0
  replace cS := Lib.hid cS
  replace cE := Lib.hid cE
  replace HSm := Lib.hid HSm
  unfold RV at HPar
  have HUn := Lib.hid hun
  clear hW0 hR0 b0 hlt0 HU hu hun hE hs hsb hlz
  obtain ⟨st, hst⟩ : ∃ x, S s = x := ⟨_, rfl⟩
  rw [hst] at cE HPar
  have HNo2 : RowKit.Hid (er ≠ 0 → st = (⟨#[]⟩ : ByteArray)) := by
    intro h
    rw [← hst, HNo.out h]
    rfl
  clear hst HNo
  go_enter Tryd.func3, Tryd.ntmps3
  go_upto_region 1 with fail
  rw [HW0.out]
  clear HW0
  obtain ⟨⟨r0, r1, r2, r3, r4⟩, -⟩ := HR.out W0 (Below.refl _ _)
  go_wp2_with fail
  refine (cS.out W0 (HUw.out W0 (Below.refl _ _))).mono ?_
  rintro e w1 ⟨rfl, hb1⟩
  have B1 := Lib.hid hb1
  clear hb1 cS r0 r1 r2 r3 r4
  cases sb with
  | false =>
    clear HOk cE HPar HSm HNo2
    go_wp2_with fail
    refine (cA.out w1 (HEw.out w1 B1.out)).mono ?_
    rintro e wz ⟨rfl, hbz⟩
    have BF := Lib.hid (B0.out.trans ((B1.out.trans (hbz.mono B1.out.size)).mono B0.out.size))
    clear hbz cA
    go_wp2
    first | exact HQ.out _ _ ⟨rfl, BF.out⟩ | (go_ret; exact HQ.out _ _ ⟨rfl, BF.out⟩)
  | true =>
    have c1 := Lib.hid (cE.out (HOk.out rfl) w1 (HEw.out w1 B1.out) (HUw.out w1 B1.out))
    clear HOk cE
    obtain ⟨⟨r0, r1, r2, r3, r4⟩, -⟩ := HR.out w1 B1.out
    go_wp2_with fail
    refine c1.out.mono ?_
    rintro e w2 ⟨rfl, hb2⟩
    have B2 := Lib.hid (B1.out.trans (hb2.mono B1.out.size))
    clear hb2 r0 r1 r2 r3 r4 c1
    by_cases h0 : er = 0
    · subst h0
      have c2 := Lib.hid (HPar.out rfl w2 (HEw.out w2 B2.out))
      clear HPar HNo2
      go_wp2_with fail
      refine c2.out.mono ?_
      rintro e w3 ⟨v, rfl, hn, hb3⟩
      obtain ⟨va, vc, rfl, -, -⟩ := hn.here.length
      rw [HUn.out] at hn ⊢
      have hA := (Below.refl w3.heap.size w3).alloc (Nat.le_refl _) (.cells #[.int .i64 r.id, .int .i64 r.ver, .int .i64 r.kind, .string (S r.lang), .slice va un vc] 24)
      have hbx := heap_alloc_new w3 (.cells #[.int .i64 r.id, .int .i64 r.ver, .int .i64 r.kind, .string (S r.lang), .slice va un vc] 24)
      have hF3 := hn.here.after hA
      obtain ⟨W3, hW3⟩ : ∃ W, w3.alloc (.cells #[.int .i64 r.id, .int .i64 r.ver, .int .i64 r.kind, .string (S r.lang), .slice va un vc] 24) = W := ⟨_, rfl⟩
      rw [hW3] at hA hbx hF3
      obtain ⟨b3, hb3'⟩ : ∃ b, w3.heap.size = b := ⟨_, rfl⟩
      rw [hb3'] at hbx
      have B3 := Lib.hid (B2.out.trans ((hb3.trans (hA.mono hb3.size)).mono B2.out.size))
      have c3 := Lib.hid (HSm.out _ _ W3 (HUw.out W3 B3.out) hF3)
      obtain ⟨⟨r0, r1, r2, r3, r4⟩, -⟩ := HR.out W3 B3.out
      obtain ⟨⟨y0, y1, y2, y3, y4⟩, -⟩ := rcells hbx
      have HW3 := Lib.hid hW3
      have HB3 := Lib.hid hb3'
      clear hn hb3 hA hbx hF3 hW3 hb3' c2 HSm HUn
      go_upto_region 7 with fail
      rw [HW3.out, HB3.out]
      go_wp2_with fail
      refine c3.out.mono ?_
      rintro e w4 ⟨rfl, hb4⟩
      have B4 := Lib.hid (B3.out.trans (hb4.mono B3.out.size))
      clear hb4 c3 r0 r1 r2 r3 r4 y0 y1 y2 y3 y4
      go_wp2_with fail
      refine (cA.out w4 (HEw.out w4 B4.out)).mono ?_
      rintro e wz ⟨rfl, hbz⟩
      have BF := Lib.hid (B0.out.trans ((B4.out.trans (hbz.mono B4.out.size)).mono B0.out.size))
      clear hbz cA
      go_wp2
      first | exact HQ.out _ _ ⟨rfl, BF.out⟩ | (go_ret; exact HQ.out _ _ ⟨rfl, BF.out⟩)
    · have t0 : (er != 0) = true := by simpa using h0
      rw [HNo2.out h0]
      clear h0 HPar HNo2 HSm HUn
      go_wp2_with fail
      refine (cA.out w2 (HEw.out w2 B2.out)).mono ?_
      rintro e wz ⟨rfl, hbz⟩
      have BF := Lib.hid (B0.out.trans ((B2.out.trans (hbz.mono B2.out.size)).mono B0.out.size))
      clear hbz cA
      go_wp2
      first | exact HQ.out _ _ ⟨rfl, BF.out⟩ | (go_ret; exact HQ.out _ _ ⟨rfl, BF.out⟩)
end

end Go.Proofs.YtnfallkeicehiaaDoor
