/- Merged: RFold, RLetter. -/
import Derived.Test.YtjfbbpppdlaapaaDoorQ15
import Derived.Test.YtjfbbpppdlaapaaDoorQ17
import Derived.Test.YtjfbbpppdlaapaaDoorQ07
import Derived.Test.YtjfbbpppdlaapaaDoorQ01
namespace Go.Proofs.YtjfbbpppdlaapaaDoor

section
open Go.RowKit
theorem foldL_len_take' (cs : List Nat) (j : Nat) : (foldL (cs.take j)).length ≤ 2 * j := by
  have h1 := fold_len (cs.take j)
  have h2 : (cs.take j).length ≤ j := List.length_take_le _ _
  omega

set_option maxHeartbeats 4000000 in
theorem refFoldL_any (cs : List Nat) (h : OKs cs) (s t : ByteArray) (hs : s = T cs) (hz : s.size ≤ 1000000) (ht : T (foldL cs) = t) (w : World) :
    Calls Tryd.prog 58 #[.string s] w fun e w' => e = .returned (.string t) ∧ Below w.heap.size w w' := by
  subst hs
  have hll := len_le cs
  have HTT := Lib.hid ht
  clear ht
  have HH := Lib.hid h
  clear h
  go_enter Tryd.func58, Tryd.ntmps58
  go_wp2
  go_loopw [3, 4] (fun o i wr => ∃ k : Nat, k ≤ cs.length ∧ o = .string (T (foldL (cs.take k))) ∧ i = .int .i64 (off cs k) ∧ Below w.heap.size w wr) (fun _ i _ => (T cs).size - (intOf i).toNat)
  case atStart => exact ⟨0, Nat.zero_le _, rfl, by rw [off_zero]; rfl, Below.refl _ _⟩
  case round =>
    obtain ⟨k, hk, rfl, rfl, hbw⟩ := hrel
    have hsz := hbw.size
    have hole := off_le cs k
    by_cases hlt : k < cs.length
    · have hol := off_lt cs k hlt
      have hoj := off_inj cs k (k + 1) (by omega) (by omega)
      have hole2 := off_le cs (k + 1)
      have hoj2 : off cs k ≤ off cs (k + 1) := by omega
      have HD := Lib.hid (fun W => decode_refT cs HH.out hz k hlt W)
      have HSz := Lib.hid (fun W => size_refT cs HH.out hz k hlt W)
      have hwp := wid_pos cs[k]
      have hok := okc_le (OKs_get HH.out hlt)
      have HOS := Lib.hid (off_succ cs k hlt)
      have HCT := Lib.hid (cut_T cs k hlt)
      have HS := Lib.hid (foldL_take cs k hlt)
      have hl1 := foldL_len_take' cs k
      have hb1 := T_bound (foldL (cs.take k))
      have hb2 := T_bound [cs[k]]
      generalize cs[k] = c at HD HSz hwp HOS hok HS HCT hb2
      have hb3 := T_bound (ff c)
      have hfl := ff_len c
      simp only [List.length_singleton] at hb2
      have s1 : (T (foldL (cs.take k))).size ≤ 8000000 := by omega
      have s2 : (T [c]).size ≤ 4 := by omega
      have s3 : (T (ff c)).size ≤ 8 := by omega
      clear hb1 hb2 hb3 hfl
      have HSUM : RowKit.Hid ((off cs k : Int) + (wid c : Int) = (off cs (k + 1) : Int)) := by unfold RowKit.Hid; have := HOS.out; omega
      by_cases hne : ff c = []
      · have HF : RowKit.Hid (foldc c = [c]) := by unfold RowKit.Hid; rw [ff_fold, if_pos hne]
        have HA := Lib.hid (T_append (foldL (cs.take k)) [c])
        have cF := fun W => refFold_any c (by omega) W
        rw [hne] at cF
        rw [show T [] = ⟨#[]⟩ from rfl] at cF
        have HCF := Lib.hid cF
        clear cF hne s3
        go_wp2_with fail
        refine (HD.out _).mono ?_
        rintro e w1 ⟨rfl, b1⟩
        go_wp2_with fail
        refine (HSz.out _).mono ?_
        rintro e w2 ⟨rfl, b2⟩
        have b3 := (hbw.trans (b1.mono hsz)).trans (b2.mono (Nat.le_trans hsz b1.size))
        clear b1 b2
        go_wp2_with fail
        refine (HCF.out _).mono ?_
        rintro e w3 ⟨rfl, rfl⟩
        have ew : (off cs k : Int) + (wid c : Int) = (off cs (k + 1) : Int) := HSUM.out
        rw [← HCT.out] at s2
        go_wp2
        go_roundw
        case rel =>
          refine ⟨k + 1, by omega, ?_, ?_, b3⟩
          · rw [HS.out, HF.out, HCT.out, HA.out]
          · first | rfl | go_num
        case measure => simp [intOf]; omega
      · have HF : RowKit.Hid (foldc c = ff c) := by unfold RowKit.Hid; rw [ff_fold, if_neg hne]
        have HA := Lib.hid (T_append (foldL (cs.take k)) (ff c))
        obtain ⟨f1, f2⟩ := T_facts _ hne
        have HCF := Lib.hid (fun W => refFold_any c (by omega) W)
        clear hne
        go_wp2_with fail
        refine (HD.out _).mono ?_
        rintro e w1 ⟨rfl, b1⟩
        go_wp2_with fail
        refine (HSz.out _).mono ?_
        rintro e w2 ⟨rfl, b2⟩
        have b3 := (hbw.trans (b1.mono hsz)).trans (b2.mono (Nat.le_trans hsz b1.size))
        clear b1 b2
        go_wp2_with fail
        refine (HCF.out _).mono ?_
        rintro e w3 ⟨rfl, rfl⟩
        have ew : (off cs k : Int) + (wid c : Int) = (off cs (k + 1) : Int) := HSUM.out
        go_wp2
        go_roundw
        case rel =>
          refine ⟨k + 1, by omega, ?_, ?_, b3⟩
          · rw [HS.out, HF.out, HA.out]
          · first | rfl | go_num
        case measure => simp [intOf]; omega
    · obtain rfl : k = cs.length := by omega
      have hof := T_off cs
      have hnl : ¬ (off cs cs.length < (T cs).size) := by omega
      clear hof
      have htl : cs.take cs.length = cs := List.take_length
      rw [htl]
      clear htl
      go_wp2
      go_ret
      refine ⟨?_, hbw⟩
      rw [← HTT.out]
      rfl
end

section
open Go.RowKit
set_option maxHeartbeats 1000000 in
theorem refLetter_any (c : Nat) (hc : c ≤ 1114111) (b : Bool) (hb : letterc c = b) (w : World) :
    Calls Tryd.prog 59 #[.int .i64 (c : Int)] w fun e w' => e = .returned (.bool b) ∧ w = w' := by
  have H := Lib.hid hb
  clear hb
  by_cases h6 : 256 ≤ c
  · obtain rfl : b = true := by have := H.out; rw [← this]; simp [letterc, h6]
    have d1 : decide ((97 : Int) ≤ (c : Int)) = true := by simp; omega
    have d2 : decide ((c : Int) ≤ 122) = false := by simp; omega
    have d3 : decide ((48 : Int) ≤ (c : Int)) = true := by simp; omega
    have d4 : decide ((c : Int) ≤ 57) = false := by simp; omega
    have d5 : decide ((256 : Int) ≤ (c : Int)) = true := by simp; omega
    clear H h6
    go_enter Tryd.func59, Tryd.ntmps59
    go_wp2
    go_ret
    exact ⟨rfl, rfl⟩
  · have d5 : decide ((256 : Int) ≤ (c : Int)) = false := by simp; omega
    by_cases h1 : 97 ≤ c
    · have d1 : decide ((97 : Int) ≤ (c : Int)) = true := by simp; omega
      by_cases h2 : c ≤ 122
      · obtain rfl : b = true := by have := H.out; rw [← this]; simp [letterc, h1, h2]
        have d2 : decide ((c : Int) ≤ 122) = true := by simp; omega
        clear H h1 h2 h6
        go_enter Tryd.func59, Tryd.ntmps59
        go_wp2
        go_ret
        exact ⟨rfl, rfl⟩
      · obtain rfl : b = false := by have := H.out; rw [← this]; simp [letterc, h2]; omega
        have d2 : decide ((c : Int) ≤ 122) = false := by simp; omega
        have d3 : decide ((48 : Int) ≤ (c : Int)) = true := by simp; omega
        have d4 : decide ((c : Int) ≤ 57) = false := by simp; omega
        clear H h1 h2 h6
        go_enter Tryd.func59, Tryd.ntmps59
        go_wp2
        go_ret
        exact ⟨rfl, rfl⟩
    · have d1 : decide ((97 : Int) ≤ (c : Int)) = false := by simp; omega
      by_cases h3 : 48 ≤ c
      · have d3 : decide ((48 : Int) ≤ (c : Int)) = true := by simp; omega
        by_cases h4 : c ≤ 57
        · obtain rfl : b = true := by have := H.out; rw [← this]; simp [letterc, h3, h4]
          have d4 : decide ((c : Int) ≤ 57) = true := by simp; omega
          clear H h1 h3 h4 h6
          go_enter Tryd.func59, Tryd.ntmps59
          go_wp2
          go_ret
          exact ⟨rfl, rfl⟩
        · obtain rfl : b = false := by have := H.out; rw [← this]; simp [letterc, h4]; omega
          have d4 : decide ((c : Int) ≤ 57) = false := by simp; omega
          clear H h1 h3 h4 h6
          go_enter Tryd.func59, Tryd.ntmps59
          go_wp2
          go_ret
          exact ⟨rfl, rfl⟩
      · obtain rfl : b = false := by have := H.out; rw [← this]; simp [letterc]; omega
        have d3 : decide ((48 : Int) ≤ (c : Int)) = false := by simp; omega
        clear H h1 h3 h6
        go_enter Tryd.func59, Tryd.ntmps59
        go_wp2
        go_ret
        exact ⟨rfl, rfl⟩
end

end Go.Proofs.YtjfbbpppdlaapaaDoor
