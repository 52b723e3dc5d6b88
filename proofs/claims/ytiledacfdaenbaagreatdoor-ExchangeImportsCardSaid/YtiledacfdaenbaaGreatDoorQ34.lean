/- Merged: LC10, Al10, Am10. -/
import Derived.Test.YtiledacfdaenbaaGreatDoorQ33
import Derived.Test.YtiledacfdaenbaaGreatDoorQ31
namespace Go.Proofs.YtiledacfdaenbaaGreatDoor

section
open Go.RowKit Go.PlainAid

end

section
open Go.RowKit Go.PlainAid
def ex1 : Rec := ⟨7, 3, 1, [101, 110, 103], [⟨[50, 52, 53], [49, 48], [(97, [68, 111, 103, 115])], 0⟩]⟩
def ex2 : Rec := ⟨0, 3, 1, [101, 110, 103], []⟩
def ex1s : List UInt8 := [48, 48, 48, 53, 49, 110, 98, 51, 101, 110, 103, 48, 48, 48, 51, 55, 48, 48, 48, 55, 52, 53, 48, 48, 50, 52, 53, 48, 48, 49, 51, 48, 48, 48, 48, 48, 30, 49, 48, 48, 48, 48, 48, 31, 97, 68, 111, 103, 115, 30, 29]
theorem ex1_right : rightRI ex1 = 0 := by decide +kernel
theorem ex2_right : rightRI ex2 = 0 := by decide +kernel
theorem pad51 : padI 51 5 = [48, 48, 48, 53, 49] := by decide +kernel
theorem ex1_enc : encX ex1 = (ex1s, 0) := by decide +kernel
theorem ex2_enc : ∃ s, encX ex2 = (s, 0) ∧ s.length = 26 := ⟨formX ex2, by decide +kernel, by decide +kernel⟩
theorem imp_nil : impR [] = ([], -1, 0) := by
  unfold impR
  rw [splitF_nil]
  rfl
theorem spl_bad : splR [48, 48, 48, 50, 53] = ([], 3) := by
  unfold splR
  rw [splitF_bad _ (by simp) (by unfold badF; exact .inl (by decide +kernel))]
end

section
open Go.RowKit Go.PlainAid
set_option maxHeartbeats 16000000 in
set_option maxRecDepth 100000 in
theorem lalive_any (w : World) (hE : Env w) :
    Calls Tryz.prog 4 #[] w fun e w' => e = .returned (.bool true) ∧ Below w.heap.size w w' := by
  obtain ⟨Q, hQ⟩ : ∃ Q, (fun (e : Ending) (w' : World) => e = .returned (.bool true) ∧ Below w.heap.size w w') = Q := ⟨_, rfl⟩
  rw [hQ]
  have HQ : RowKit.Hid (∀ e w', (e = .returned (.bool true) ∧ Below w.heap.size w w') → Q e w') := by rw [← hQ]; exact fun _ _ h => h
  clear hQ
  obtain ⟨N, hN⟩ : ∃ N, w.heap.size = N := ⟨_, rfl⟩
  obtain ⟨Wa, hWa⟩ : ∃ W, w.alloc (.cells #[.int .u8 97, .string ⟨#[68, 111, 103, 115]⟩] 34) = W := ⟨_, rfl⟩
  obtain ⟨Wb, hWb⟩ : ∃ W, Wa.alloc (.cells #[.string ⟨#[50, 52, 53]⟩, .string ⟨#[49, 48]⟩, .slice (some ⟨w.heap.size, 0, none⟩) 1 1, .int .i64 0] 37) = W := ⟨_, rfl⟩
  obtain ⟨W0, hW0⟩ : ∃ W, Wb.alloc (.cells #[.int .i64 7, .int .i64 3, .int .i64 1, .string ⟨#[101, 110, 103]⟩, .slice (some ⟨w.heap.size + 1, 0, none⟩) 1 1] 40) = W := ⟨_, rfl⟩
  have hsa : Wa.heap.size = w.heap.size + 1 := by rw [← hWa]; simp
  have hsb : Wb.heap.size = w.heap.size + 2 := by rw [← hWb]; simp [hsa]
  have ba : Below w.heap.size w Wa := by rw [← hWa]; exact (Below.refl _ _).alloc (Nat.le_refl _) _
  have bb : Below Wa.heap.size Wa Wb := by rw [← hWb]; exact (Below.refl _ _).alloc (Nat.le_refl _) _
  have b0 : Below Wb.heap.size Wb W0 := by rw [← hW0]; exact (Below.refl _ _).alloc (Nat.le_refl _) _
  have h1 : Wa.heap[w.heap.size]? = some (.cells #[.int .u8 97, .string ⟨#[68, 111, 103, 115]⟩] 34 (0, 0)) := by rw [← hWa]; exact heap_alloc_new w _
  have h2 : Wb.heap[w.heap.size + 1]? = some (.cells #[.string ⟨#[50, 52, 53]⟩, .string ⟨#[49, 48]⟩, .slice (some ⟨w.heap.size, 0, none⟩) 1 1, .int .i64 0] 37 (0, 0)) := by
    rw [← hWb, ← hsa]; exact heap_alloc_new Wa _
  have h3 : W0.heap[w.heap.size + 1 + 1]? = some (.cells #[.int .i64 7, .int .i64 3, .int .i64 1, .string ⟨#[101, 110, 103]⟩, .slice (some ⟨w.heap.size + 1, 0, none⟩) 1 1] 40 (0, 0)) := by
    rw [← hW0, show w.heap.size + 1 + 1 = Wb.heap.size by omega]; exact heap_alloc_new Wb _
  have hq : QL (.slice (some ⟨w.heap.size, 0, none⟩) 1 1) [(97, [68, 111, 103, 115])] Wa := by
    refine ⟨_, 1, rfl, Nat.le_refl _, by unfold maxLen; omega, (fun h => by cases h), fun i hi => ?_⟩
    have : i = 0 := by simp at hi; omega
    subst this
    exact ⟨w.heap.size, 0, rfl, by omega, by rw [Lib.cell_of_heap h1]; rfl, by rw [Lib.cell_of_heap h1]; rfl⟩
  have hqb := (hq.after bb).after b0
  have h2b := (b0.block _ (by omega)).trans h2
  have hf : FL (.slice (some ⟨w.heap.size + 1, 0, none⟩) 1 1) ex1.fields W0 := by
    refine ⟨_, 1, rfl, Nat.le_refl _, by unfold maxLen; omega, (fun h => by cases h), fun i hi => ?_⟩
    have : i = 0 := by
      have : i < 1 := hi
      omega
    subst this
    exact ⟨w.heap.size + 1, 0, .slice (some ⟨w.heap.size, 0, none⟩) 1 1, rfl, by have := b0.size; omega, by rw [Lib.cell_of_heap h2b]; rfl, by rw [Lib.cell_of_heap h2b]; rfl, by rw [Lib.cell_of_heap h2b]; rfl, by rw [Lib.cell_of_heap h2b]; rfl, hqb⟩
  have B0 := Lib.hid (ba.trans ((bb.trans (b0.mono bb.size)).mono ba.size))
  have cE1 : RowKit.Hid (Calls Tryz.prog 11 #[.agg #[.int .i64 7, .int .i64 3, .int .i64 1, .string ⟨#[101, 110, 103]⟩, .slice (some ⟨w.heap.size + 1, 0, none⟩) 1 1]] W0 fun e w' => e = .returned (.tuple #[.string ⟨#[48, 48, 48, 53, 49, 110, 98, 51, 101, 110, 103, 48, 48, 48, 51, 55, 48, 48, 48, 55, 52, 53, 48, 48, 50, 52, 53, 48, 48, 49, 51, 48, 48, 48, 48, 48, 30, 49, 48, 48, 48, 48, 48, 31, 97, 68, 111, 103, 115, 30, 29]⟩, .int .i64 0]) ∧ Below W0.heap.size W0 w') := by
    have c := pEncode_any ex1 _ W0 (hE.after B0.out) hf (by decide) (fun i hi j hj => by
      have h : i = 0 := by have : i < 1 := hi; omega
      subst h
      have h : j = 0 := by have : j < 1 := hj; omega
      subst h
      decide)
    rw [ex1_enc] at c
    exact c
  obtain ⟨s2, hs2, hl2⟩ := ex2_enc
  have cE2 : RowKit.Hid (∀ W, Env W → Calls Tryz.prog 11 #[.agg #[.int .i64 0, .int .i64 3, .int .i64 1, .string ⟨#[101, 110, 103]⟩, .slice none 0 0]] W fun e w' => e = .returned (.tuple #[.string (S s2), .int .i64 0]) ∧ Below W.heap.size W w') := by
    intro W hW
    have c := pEncode_any ex2 (.slice none 0 0) W hW ⟨none, 0, rfl, Nat.le_refl _, Nat.zero_le _, fun _ => rfl, fun i hi => by cases hi⟩ (by decide) (fun i hi => by cases hi)
    rw [hs2] at c
    exact c
  have cI : RowKit.Hid (∀ W, Env W → Calls Tryz.prog 8 #[.string ⟨#[]⟩] W fun e w' => ∃ v, e = .returned (.tuple #[v, .int .i64 (-1), .int .i64 0]) ∧ New W.heap.size (RL v []) w' ∧ Below W.heap.size W w') := fun W hW => pImport_any [] (by decide) [] (-1) 0 imp_nil W hW
  have cS : RowKit.Hid (∀ W, Calls Tryz.prog 5 #[.string ⟨#[48, 48, 48, 50, 53]⟩] W fun e w' => ∃ v, e = .returned (.tuple #[v, .int .i64 3]) ∧ New W.heap.size (BL v []) w' ∧ Below W.heap.size W w') := fun W => pSplit_any [48, 48, 48, 50, 53] (by decide) [] 3 spl_bad W
  have hz2 := S_size s2
  rw [hl2] at hz2
  have HW : RowKit.Hid (((w.alloc (.cells #[.int .u8 97, .string ⟨#[68, 111, 103, 115]⟩] 34)).alloc (.cells #[.string ⟨#[50, 52, 53]⟩, .string ⟨#[49, 48]⟩, .slice (some ⟨w.heap.size, 0, none⟩) 1 1, .int .i64 0] 37)).alloc (.cells #[.int .i64 7, .int .i64 3, .int .i64 1, .string ⟨#[101, 110, 103]⟩, .slice (some ⟨w.heap.size + 1, 0, none⟩) 1 1] 40) = W0) := by
    unfold RowKit.Hid
    rw [hWa, hWb, hW0]
  have H3 := Lib.hid h3
  have hlt : w.heap.size + 1 + 1 < W0.heap.size := (Array.getElem?_eq_some_iff.1 h3).1
  have HE := Lib.hid hE
  clear hWa hWb hW0 hsa hsb ba bb b0 h1 h2 h3 hq hqb h2b hf hE hN N
  go_enter Tryz.func4, Tryz.ntmps4
  obtain ⟨⟨r0, r1, r2, r3, r4⟩, -⟩ := rcells H3.out
  clear hs2 hl2
  go_upto_region 2 with fail
  rw [HW.out]
  clear HW
  go_wp2_with fail
  refine cE1.out.mono ?_
  rintro e w1 ⟨rfl, hb1⟩
  have h3b := (hb1.block _ hlt).trans H3.out
  have B1 := Lib.hid (B0.out.trans (hb1.mono B0.out.size))
  clear hb1 r0 r1 r2 r3 r4 cE1
  obtain ⟨⟨r0, r1, r2, r3, r4⟩, f0, f1, f2, f3, f4⟩ := rcells h3b
  have h4 := rset4 (rset0 h3b (.int .i64 0)) (.slice none 0 0)
  have B2 := Lib.hid ((B1.out.setCell (p := ⟨w.heap.size + 1 + 1, 0, none⟩) (by show w.heap.size ≤ w.heap.size + 1 + 1; omega) (.int .i64 0)).setCell (p := ⟨w.heap.size + 1 + 1, 4, none⟩) (by show w.heap.size ≤ w.heap.size + 1 + 1; omega) (.slice none 0 0))
  obtain ⟨W3, hW3⟩ : ∃ W, (w1.setCell ⟨w.heap.size + 1 + 1, 0, none⟩ (.int .i64 0)).setCell ⟨w.heap.size + 1 + 1, 4, none⟩ (.slice none 0 0) = W := ⟨_, rfl⟩
  rw [hW3] at h4 B2
  have H4 := Lib.hid h4
  have HW3 := Lib.hid hW3
  clear h3b h4 hW3
  go_upto_region 7 with fail
  rw [HW3.out]
  clear r0 r1 r2 r3 r4 f0 f1 f2 f3 f4 HW3
  obtain ⟨⟨r0, r1, r2, r3, r4⟩, -⟩ := rcells H4.out
  go_wp2_with fail
  refine (cE2.out W3 (HE.out.after B2.out)).mono ?_
  rintro e w4 ⟨rfl, hb4⟩
  have B4 := Lib.hid (B2.out.trans (hb4.mono B2.out.size))
  clear hb4 r0 r1 r2 r3 r4 cE2
  go_wp2_with fail
  refine (cI.out w4 (HE.out.after B4.out)).mono ?_
  rintro e w5 ⟨v5, rfl, hn5, hb5⟩
  obtain ⟨a5, c5, rfl, -, -⟩ := hn5.here.length
  have B5 := Lib.hid (B4.out.trans (hb5.mono B4.out.size))
  clear hb5 hn5 cI
  go_wp2_with fail
  refine (cS.out w5).mono ?_
  rintro e w6 ⟨v6, rfl, hn6, hb6⟩
  have B6 := Lib.hid (B5.out.trans (hb6.mono B5.out.size))
  clear hb6 hn6 cS
  go_wp2
  exact HQ.out _ _ ⟨rfl, B6.out⟩
end

end Go.Proofs.YtiledacfdaenbaaGreatDoor
