/- The chapter's examples of layer 3, as the statements' function alive asks them: it returns true. -/
import Derived.Test.YtdcmfncocehbhaaDoorDQ03
import Derived.Test.YtdcmfncocehbhaaDoorLaw03P
namespace Go.Proofs.YtdcmfncocehbhaaDoor
open Go.RowKit Go.PlainAid

theorem refParse_all (s : ByteArray) (n e : Int) (h : parI s = (n, e)) (w : World) :
    Calls Tryd.prog 22 #[.string s] w fun e' w' => e' = .returned (.tuple #[.int .i64 n, .int .i64 e]) ∧ Below w.heap.size w w' := by
  by_cases h0 : s.size = 10
  · rcases first_bad (fitsAt s) 10 with hg | ⟨j, hj, hg, hb⟩
    · unfold parI at h
      rw [if_pos ⟨h0, (all_ten _).2 hg⟩] at h
      exact (refParse_any s h0 10 (by omega) hg (by omega) n e h w).mono fun e' w' hh => ⟨hh.1 rfl, hh.2.2⟩
    · unfold parI at h
      rw [if_neg (fun hh => by rw [(all_ten _).1 hh.2 j hj] at hb; cases hb)] at h
      simp only [Prod.mk.injEq] at h
      obtain ⟨rfl, rfl⟩ := h
      exact (refParse_any s h0 j (by omega) hg (fun _ => hb) _ _ rfl w).mono fun e' w' hh => ⟨hh.2.1 hj, hh.2.2⟩
  · unfold parI at h
    rw [if_neg (fun hh => h0 hh.1)] at h
    simp only [Prod.mk.injEq] at h
    obtain ⟨rfl, rfl⟩ := h
    exact refParse_size s h0 w

theorem parI_fmt {n y m d : Nat} (h : IsDate n y m d) : parI (fmtS y m d) = ((n : Int), 0) := by
  unfold parI
  rw [if_pos ⟨fmt_size y m d, (all_ten _).2 (fmt_fits y m d)⟩]
  exact fmt_ofI h

theorem day30 : IsDate 30 1900 1 31 := ⟨by decide, by decide, by decide, by decide, by decide, by decide, by decide +kernel⟩
theorem day0 : IsDate 0 1900 1 1 := ⟨by decide, by decide, by decide, by decide, by decide, by decide, by decide +kernel⟩
theorem day58 : IsDate 58 (22801 / 12) (22801 % 12 + 1) (capD (22801 / 12) (22801 % 12 + 1) 31) := ⟨by decide, by decide, by decide, by decide, by decide, by decide, by decide +kernel⟩
theorem dayNov : IsDate 46340 2026 11 16 := ⟨by decide, by decide, by decide, by decide, by decide, by decide, by decide +kernel⟩
theorem fmtNov : fmtS 2026 11 16 = ⟨#[50, 48, 50, 54, 45, 49, 49, 45, 49, 54]⟩ := by decide +kernel

set_option maxHeartbeats 8000000 in
theorem alive_any (w : World) (hT : Tab w) :
    Calls Tryd.prog 12 #[] w fun e w' => e = .returned (.bool true) ∧ Below w.heap.size w w' := by
  have A0 := Lib.hid (fun W (hW : Below w.heap.size w W) => datOf_any 2026 11 16 46340 0 (by decide +kernel) W (hT.on hW))
  have A1 := Lib.hid (fun W (hW : Below w.heap.size w W) => datOf_any 2000 2 29 36583 0 (by decide +kernel) W (hT.on hW))
  have A2 := Lib.hid (fun W (hW : Below w.heap.size w W) => datOf_any 1900 2 29 0 2 (by decide +kernel) W (hT.on hW))
  have A3 := Lib.hid (fun W (hW : Below w.heap.size w W) => datMonths_in day30 1 22801 (by decide) (by decide) day58 W (hT.on hW))
  have A4 := Lib.hid (fun W (hW : Below w.heap.size w W) => datMonths_off day0 (-1) (by decide) W (hT.on hW))
  have A5 := Lib.hid (fun W (hW : Below w.heap.size w W) => datParse_all ⟨#[50, 49, 57, 57, 45, 49, 50, 45, 51, 49]⟩ 109572 0 (by decide +kernel) W (hT.on hW))
  have A6 := Lib.hid (fun W (hW : Below w.heap.size w W) => datParse_all ⟨#[50, 48, 50, 54, 45, 48, 50, 45, 51, 48]⟩ 0 2 (by decide +kernel) W (hT.on hW))
  have A7 := Lib.hid (fun W (hW : Below w.heap.size w W) => datParse_all ⟨#[50, 48, 50, 54, 45, 50, 45, 51]⟩ 0 3 (by decide +kernel) W (hT.on hW))
  have A8 := Lib.hid (fun W (hW : Below w.heap.size w W) => datFormat_ok dayNov W (hT.on hW))
  rw [fmtNov] at A8
  have A9 := Lib.hid (fun W => datWeekday_any 46340 0 (by decide) W)
  have b0 := Below.refl w.heap.size w
  go_enter Tryd.func12, Tryd.ntmps12
  go_wp2_with fail
  refine (A0.out _ (by assumption)).mono ?_
  rintro e w1 ⟨rfl, c0⟩
  have b1 := b0.trans (c0.mono b0.size)
  clear b0 c0
  go_wp2_with fail
  refine (A1.out _ (by assumption)).mono ?_
  rintro e w2 ⟨rfl, c1⟩
  have b2 := b1.trans (c1.mono b1.size)
  clear b1 c1
  go_wp2_with fail
  refine (A2.out _ (by assumption)).mono ?_
  rintro e w3 ⟨rfl, c2⟩
  have b3 := b2.trans (c2.mono b2.size)
  clear b2 c2
  go_wp2_with fail
  refine (A3.out _ (by assumption)).mono ?_
  rintro e w4 ⟨rfl, c3⟩
  have b4 := b3.trans (c3.mono b3.size)
  clear b3 c3
  go_wp2_with fail
  refine (A4.out _ (by assumption)).mono ?_
  rintro e w5 ⟨rfl, c4⟩
  have b5 := b4.trans (c4.mono b4.size)
  clear b4 c4
  go_wp2_with fail
  refine (A5.out _ (by assumption)).mono ?_
  rintro e w6 ⟨rfl, c5⟩
  have b6 := b5.trans (c5.mono b5.size)
  clear b5 c5
  go_wp2_with fail
  refine (A6.out _ (by assumption)).mono ?_
  rintro e w7 ⟨rfl, c6⟩
  have b7 := b6.trans (c6.mono b6.size)
  clear b6 c6
  go_wp2_with fail
  refine (A7.out _ (by assumption)).mono ?_
  rintro e w8 ⟨rfl, c7⟩
  have b8 := b7.trans (c7.mono b7.size)
  clear b7 c7
  go_wp2_with fail
  refine (A8.out _ (by assumption)).mono ?_
  rintro e w9 ⟨rfl, c8⟩
  have b9 := b8.trans (c8.mono b8.size)
  clear b8 c8
  go_wp2_with fail
  refine (A9.out _).mono ?_
  rintro e w10 ⟨rfl, rfl⟩
  go_wp2
  go_ret
  exact ⟨rfl, b9⟩
end Go.Proofs.YtdcmfncocehbhaaDoor
