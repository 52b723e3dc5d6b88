/- Package date: twoDigits, Format. -/
import Derived.Test.YtdcmfncocehbhaaDoorDC03
namespace Go.Proofs.YtdcmfncocehbhaaDoor
open Go.RowKit

set_option maxHeartbeats 4000000 in
theorem datTwo_any (n : Nat) (h : n < 100) (w : World) :
    Calls Tryd.prog 34 #[.int .i64 (n : Int)] w fun e w' => e = .returned (.string (digS n 2)) ∧ w' = w := by
  have c1 := Lib.hid (fun W => Tryd.strconv_Itoa_small n h W)
  by_cases h1 : n < 10
  · have hd := dec_lo n h1
    have d1 : decide ((n : Int) < 10) = true := by simp; omega
    have hz : (digS n 2).size = 2 := digS_size n 2
    rw [← hd] at hz
    have hs : ((⟨(Lib.decDigits n).toArray⟩ : ByteArray)).size = 1 := by rw [dec1 n h1]; rfl
    generalize (⟨(Lib.decDigits n).toArray⟩ : ByteArray) = t at *
    have HD := Lib.hid hd
    clear hd hz
    go_enter Tryd.func34, Tryd.ntmps34
    go_wp2_with fail
    refine (c1.out _).mono ?_
    rintro e w1 ⟨rfl, rfl⟩
    go_wp2
    go_ret
    rw [← HD.out]
    exact ⟨rfl, rfl⟩
  · have hd := dec_hi n h1 h
    have d1 : decide ((n : Int) < 10) = false := by simp; omega
    rw [hd] at c1
    clear hd
    go_enter Tryd.func34, Tryd.ntmps34
    go_wp2_with fail
    refine (c1.out _).mono ?_
    rintro e w1 ⟨rfl, rfl⟩
    go_wp2
    go_ret
    exact ⟨rfl, rfl⟩

theorem datFormat_bad (n : Int) (h : ¬ (0 ≤ n ∧ n ≤ 109572)) (w : World) :
    Calls Tryd.prog 23 #[.int .i64 n] w fun e w' => e = .returned (.string ⟨#[]⟩) ∧ Below w.heap.size w w' := by
  have c1 := Lib.hid (fun W => datParts_bad n h W)
  go_enter Tryd.func23, Tryd.ntmps23
  go_wp2_with fail
  refine (c1.out _).mono ?_
  rintro e w1 ⟨rfl, b1⟩
  go_wp2
  go_ret
  exact ⟨rfl, b1⟩

set_option maxHeartbeats 8000000 in
theorem datFormat_ok {n y m d : Nat} (h : IsDate n y m d) (w : World) (hT : Tab w) :
    Calls Tryd.prog 23 #[.int .i64 (n : Int)] w fun e w' => e = .returned (.string (fmtS y m d)) ∧ Below w.heap.size w w' := by
  have hy0 := h.y0
  have hy1 := h.y1
  have hm1 := h.m1
  have hd1 := h.d1
  have hl : mlen y m ≤ 31 := by unfold mlen; have := mdays_pos (leap y) m; omega
  have c1 := Lib.hid (datParts_ok h w hT)
  have c2 := Lib.hid (fun W (hW : Below w.heap.size w W) => itoa_any y (by omega) W (hT.on hW))
  rw [dec_year y (by omega) (by omega)] at c2
  have c3 := Lib.hid (fun W => datTwo_any m (by omega) W)
  have c4 := Lib.hid (fun W => datTwo_any d (by omega) W)
  have s1 := digS_size y 4
  have s2 := digS_size m 2
  have s3 := digS_size d 2
  unfold fmtS
  generalize digS y 4 = a at *
  generalize digS m 2 = b at *
  generalize digS d 2 = c at *
  clear h hd1 hl hT
  go_enter Tryd.func23, Tryd.ntmps23
  go_wp2_with fail
  refine c1.out.mono ?_
  rintro e w1 ⟨rfl, b1⟩
  go_wp2_with fail
  refine (c2.out _ b1).mono ?_
  rintro e w2 ⟨rfl, b2⟩
  have hb2 := b1.trans (b2.mono b1.size)
  clear b2
  go_wp2_with fail
  refine (c3.out _).mono ?_
  rintro e w3 ⟨rfl, rfl⟩
  go_wp2_with fail
  refine (c4.out _).mono ?_
  rintro e w4 ⟨rfl, rfl⟩
  go_wp2
  go_ret
  exact ⟨rfl, hb2⟩
end Go.Proofs.YtdcmfncocehbhaaDoor
