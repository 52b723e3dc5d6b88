/- The statement TextStays, walked: it returns true for every string. -/
import Derived.Test.YtfbmjfdfbokfdaaDoorLists
namespace Go.Proofs.YtfbmjfdfbokfdaaDoor
open Go.RowKit

theorem cleanL_len (cs : List Nat) : (cleanL cs).length ≤ 2 * cs.length := cleanRun_len cs

set_option maxHeartbeats 4000000 in
theorem stays_any (s : ByteArray) (hs : s.size ≤ 9223372036854775807) (w : World) (hE : Env w) :
    Calls Tryd.prog 7 #[.string s] w fun e w' => e = .returned (.bool true) ∧ Below w.heap.size w w' := by
  have h3 := hE.1
  have HE := Lib.hid hE
  clear hE
  by_cases hbig : 1000 < s.size
  · have d1 : decide ((1000 : Int) < (s.size : Int)) = true := by simp; omega
    go_enter Tryd.func7, Tryd.ntmps7
    go_wp2_with fail
    refine (alive_any _ HE.out).mono ?_
    rintro e w1 ⟨rfl, b1⟩
    go_wp2
    go_ret
    exact ⟨rfl, b1⟩
  · have d1 : decide ((1000 : Int) < (s.size : Int)) = false := by simp; omega
    cases hv : validT s.data.toList
    · have HV := Lib.hid hv
      clear hv
      go_enter Tryd.func7, Tryd.ntmps7
      go_wp2_with fail
      refine (alive_any _ HE.out).mono ?_
      rintro e w1 ⟨rfl, b1⟩
      go_wp2_with fail
      refine (valid_is _ false HV.out (by omega) _ (HE.out.after b1)).mono ?_
      rintro e w2 ⟨rfl, b2'⟩
      have b2 := b1.trans (b2'.mono b1.size)
      clear b2' b1
      go_wp2
      go_ret
      exact ⟨rfl, b2⟩
    · have HV := Lib.hid hv
      obtain ⟨cs, hok, rfl⟩ := text_of hv
      clear hv
      have hlen := len_le cs
      have hl9 : cs.length ≤ 1000 := by omega
      have HO := Lib.hid hok
      have HC := Lib.hid (clean_OK cs hok)
      have HF := Lib.hid (fold_OK cs hok)
      have HW := Lib.hid (join_OK _ (W_OK cs hok))
      clear hok
      have hcl := cleanL_len cs
      have hfl := fold_len cs
      have htl := W_total cs
      have hjl := join_total (W cs)
      have hwl := len_total (W cs)
      have hcs := T_bound (cleanL cs)
      have hfs := T_bound (foldL cs)
      have HC2 := Lib.hid (clean_twice cs)
      have HF2 := Lib.hid (fold_twice cs)
      have HWC := Lib.hid (W_clean cs)
      have HWF := Lib.hid (W_fold cs)
      have HWJ := Lib.hid (W_join cs)
      generalize hc : cleanL cs = c at hcl hcs HC HC2 HWC
      generalize hf : foldL cs = f at hfl hfs HF HF2 HWF
      generalize hw0 : W cs = ws at htl hjl hwl HW HWC HWF HWJ
      have Hc := Lib.hid hc
      have Hf := Lib.hid hf
      have Hw := Lib.hid hw0
      clear hc hf hw0
      go_enter Tryd.func7, Tryd.ntmps7
      go_wp2_with fail
      refine (alive_any _ HE.out).mono ?_
      rintro e w1 ⟨rfl, b1⟩
      go_wp2_with fail
      refine (valid_is _ true HV.out (by omega) _ (HE.out.after b1)).mono ?_
      rintro e w2 ⟨rfl, b2'⟩
      have b2 := b1.trans (b2'.mono b1.size)
      clear b2' b1
      go_wp2_with fail
      refine (clean_is _ (T c) cs HO.out rfl (by omega) (by rw [Hc.out]) _).mono ?_
      rintro e w3 ⟨rfl, b3'⟩
      have b3 := b2.trans (b3'.mono b2.size)
      clear b3' b2
      go_wp2_with fail
      refine (fold_is _ (T f) cs HO.out rfl (by omega) (by rw [Hf.out]) _ (HE.out.after b3)).mono ?_
      rintro e w4 ⟨rfl, b4'⟩
      have b4 := b3.trans (b4'.mono b3.size)
      clear b4' b3
      go_wp2_with fail
      refine (clean_is _ (T c) c HC.out rfl (by omega) (by rw [HC2.out]) _).mono ?_
      rintro e w5 ⟨rfl, b5'⟩
      have b5 := b4.trans (b5'.mono b4.size)
      clear b5' b4
      go_wp2_with fail
      refine (fold_is _ (T f) f HF.out rfl (by omega) (by rw [HF2.out]) _ (HE.out.after b5)).mono ?_
      rintro e w6 ⟨rfl, b6'⟩
      have b6 := b5.trans (b6'.mono b5.size)
      clear b6' b5
      go_wp2_with fail
      refine (valid_is _ true (validT_T c HC.out) (by omega) _ (HE.out.after b6)).mono ?_
      rintro e w7 ⟨rfl, b7'⟩
      have b7 := b6.trans (b7'.mono b6.size)
      clear b7' b6
      go_wp2_with fail
      refine (valid_is _ true (validT_T f HF.out) (by omega) _ (HE.out.after b7)).mono ?_
      rintro e w8 ⟨rfl, b8'⟩
      have b8 := b7.trans (b8'.mono b7.size)
      clear b8' b7
      go_wp2_with fail
      refine (words_any cs HO.out _ rfl (by omega) _ (HE.out.after b8)).mono ?_
      rintro e w9 ⟨v, rfl, hS, b9'⟩
      rw [Hw.out] at hS
      have HS := Lib.hid hS
      have b9 := b8.trans (b9'.mono b8.size)
      clear b9' b8 hS
      go_wp2_with fail
      refine (words_any c HC.out _ rfl (by omega) _ (HE.out.after b9)).mono ?_
      rintro e w10 ⟨v2, rfl, hS2, b10'⟩
      rw [HWC.out] at hS2
      have HS1 := Lib.hid (HS.out.after b10')
      have HS2 := Lib.hid hS2
      have b10 := b9.trans (b10'.mono b9.size)
      clear b10' b9 hS2 HS
      go_wp2_with fail
      refine (texts_same _ _ _ _ ws (by omega) _ HS2.out HS1.out).mono ?_
      rintro e w11 ⟨rfl, b11'⟩
      have HS3 := Lib.hid (HS1.out.after b11')
      have b11 := b10.trans (b11'.mono b10.size)
      clear b11' b10 HS1 HS2
      go_wp2_with fail
      refine (words_any f HF.out _ rfl (by omega) _ (HE.out.after b11)).mono ?_
      rintro e w12 ⟨v3, rfl, hS4, b12'⟩
      rw [HWF.out] at hS4
      have HS5 := Lib.hid (HS3.out.after b12')
      have HS4 := Lib.hid hS4
      have b12 := b11.trans (b12'.mono b11.size)
      clear b12' b11 hS4 HS3
      go_wp2_with fail
      refine (texts_same _ _ _ _ ws (by omega) _ HS4.out HS5.out).mono ?_
      rintro e w13 ⟨rfl, b13'⟩
      have HS6 := Lib.hid (HS5.out.after b13')
      have b13 := b12.trans (b13'.mono b12.size)
      clear b13' b12 HS4 HS5
      go_wp2_with fail
      refine (join_any _ _ ws (by omega) _ HS6.out).mono ?_
      rintro e w14 ⟨rfl, rfl⟩
      go_wp2_with fail
      refine (words_any (joinL ws) HW.out _ rfl (by omega) _ (HE.out.after b13)).mono ?_
      rintro e w15 ⟨v4, rfl, hS7, b15'⟩
      rw [HWJ.out] at hS7
      have HS8 := Lib.hid (HS6.out.after b15')
      have HS7 := Lib.hid hS7
      have b15 := b13.trans (b15'.mono b13.size)
      clear b15' b13 hS7 HS6
      go_wp2_with fail
      refine (texts_same _ _ _ _ ws (by omega) _ HS7.out HS8.out).mono ?_
      rintro e w16 ⟨rfl, b16'⟩
      have b16 := b15.trans (b16'.mono b15.size)
      clear b16' b15
      go_wp2
      go_ret
      exact ⟨rfl, b16⟩
end Go.Proofs.YtfbmjfdfbokfdaaDoor
