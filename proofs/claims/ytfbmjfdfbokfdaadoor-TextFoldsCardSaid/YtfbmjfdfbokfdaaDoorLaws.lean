/- The statements TextValid, TextClips, TextCleans and TextFolds, walked: each returns true for every input. -/
import Derived.Test.YtfbmjfdfbokfdaaDoorRefD
namespace Go.Proofs.YtfbmjfdfbokfdaaDoor
open Go.RowKit

set_option maxHeartbeats 4000000 in
theorem validLaw_any (s : ByteArray) (hs : s.size ≤ 9223372036854775807) (w : World) (hE : Env w) :
    Calls Tryd.prog 3 #[.string s] w fun e w' => e = .returned (.bool true) ∧ Below w.heap.size w w' := by
  have HE := Lib.hid hE
  clear hE
  by_cases hbig : 1000 < s.size
  · have d1 : decide ((1000 : Int) < (s.size : Int)) = true := by simp; omega
    go_enter Tryd.func3, Tryd.ntmps3
    go_wp2_with fail
    refine (alive_any _ HE.out).mono ?_
    rintro e w1 ⟨rfl, b1⟩
    go_wp2
    go_ret
    exact ⟨rfl, b1⟩
  · have d1 : decide ((1000 : Int) < (s.size : Int)) = false := by simp; omega
    have cV := fun W (hW : Env W) => valid_any s hs W hW
    have cR := fun W => refValid_any s (by omega) W
    generalize validT s.data.toList = V at cV cR
    have HV := Lib.hid cV
    have HR := Lib.hid cR
    clear cV cR
    cases V
    all_goals
      go_enter Tryd.func3, Tryd.ntmps3
      go_wp2_with fail
      refine (alive_any _ HE.out).mono ?_
      rintro e w1 ⟨rfl, b1⟩
      go_wp2_with fail
      refine (HV.out _ (HE.out.after b1)).mono ?_
      rintro e w2 ⟨rfl, b2'⟩
      have b2 := b1.trans (b2'.mono b1.size)
      clear b2' b1
      go_wp2_with fail
      refine (HR.out _).mono ?_
      rintro e w3 ⟨rfl, b3'⟩
      have b3 := b2.trans (b3'.mono b2.size)
      clear b3' b2
      go_wp2
      go_ret
      exact ⟨rfl, b3⟩

set_option maxHeartbeats 4000000 in
theorem clips_any (s : ByteArray) (hs : s.size ≤ 9223372036854775807) (n : Int) (hn0 : -9223372036854775808 ≤ n) (hn1 : n ≤ 9223372036854775807) (w : World) (hE : Env w) :
    Calls Tryd.prog 4 #[.string s, .int .i64 n] w fun e w' => e = .returned (.bool true) ∧ Below w.heap.size w w' := by
  have HE := Lib.hid hE
  clear hE
  by_cases hbig : 1000 < s.size
  · have d1 : decide ((1000 : Int) < (s.size : Int)) = true := by simp; omega
    clear hs
    go_enter Tryd.func4, Tryd.ntmps4
    go_wp2_with fail
    refine (alive_any _ HE.out).mono ?_
    rintro e w1 ⟨rfl, b1⟩
    go_wp2
    go_ret
    exact ⟨rfl, b1⟩
  · have d1 : decide ((1000 : Int) < (s.size : Int)) = false := by simp; omega
    clear hs
    have cR := fun W => refValid_any s (by omega) W
    cases hv : validT s.data.toList
    · rw [hv] at cR
      have HR := Lib.hid cR
      clear cR hv
      go_enter Tryd.func4, Tryd.ntmps4
      go_wp2_with fail
      refine (alive_any _ HE.out).mono ?_
      rintro e w1 ⟨rfl, b1⟩
      go_wp2_with fail
      refine (HR.out _).mono ?_
      rintro e w2 ⟨rfl, b2'⟩
      have b2 := b1.trans (b2'.mono b1.size)
      clear b2' b1
      go_wp2
      go_ret
      exact ⟨rfl, b2⟩
    · rw [hv] at cR
      have HR := Lib.hid cR
      clear cR
      obtain ⟨cs, hok, rfl⟩ := text_of hv
      clear hv
      have hlen := len_le cs
      have hl9 : cs.length ≤ 1000 := by omega
      have HO := Lib.hid hok
      clear hok
      have HX := Lib.hid (Eq.refl (T (cs.take n.toNat)))
      generalize hd : T (cs.take n.toNat) = t at HX
      have HD := Lib.hid hd
      clear hd
      go_enter Tryd.func4, Tryd.ntmps4
      go_wp2_with fail
      refine (alive_any _ HE.out).mono ?_
      rintro e w1 ⟨rfl, b1⟩
      go_wp2_with fail
      refine (HR.out _).mono ?_
      rintro e w2 ⟨rfl, b2'⟩
      have b2 := b1.trans (b2'.mono b1.size)
      clear b2' b1
      go_wp2_with fail
      refine (runes_int _ cs HO.out rfl (by omega) cs.length rfl _).mono ?_
      rintro e w3 ⟨rfl, b3'⟩
      have b3 := b2.trans (b3'.mono b2.size)
      clear b3' b2
      go_wp2_with fail
      refine (refRunes_any cs HO.out _ rfl (by omega) cs.length rfl _).mono ?_
      rintro e w4 ⟨rfl, b4'⟩
      have b4 := b3.trans (b4'.mono b3.size)
      clear b4' b3
      go_wp2_with fail
      refine (clip_is _ t cs HO.out rfl n hn0 hn1 HD.out _).mono ?_
      rintro e w5 ⟨rfl, b5'⟩
      have b5 := b4.trans (b5'.mono b4.size)
      clear b5' b4
      go_wp2_with fail
      refine (refClip_any cs HO.out _ t rfl (by omega) n hn0 hn1 HD.out _).mono ?_
      rintro e w6 ⟨rfl, b6'⟩
      have b6 := b5.trans (b6'.mono b5.size)
      clear b6' b5
      go_wp2
      go_ret
      exact ⟨rfl, b6⟩

set_option maxHeartbeats 4000000 in
theorem cleans_any (s : ByteArray) (hs : s.size ≤ 9223372036854775807) (w : World) (hE : Env w) :
    Calls Tryd.prog 5 #[.string s] w fun e w' => e = .returned (.bool true) ∧ Below w.heap.size w w' := by
  have HE := Lib.hid hE
  clear hE
  by_cases hbig : 1000 < s.size
  · have d1 : decide ((1000 : Int) < (s.size : Int)) = true := by simp; omega
    clear hs
    go_enter Tryd.func5, Tryd.ntmps5
    go_wp2_with fail
    refine (alive_any _ HE.out).mono ?_
    rintro e w1 ⟨rfl, b1⟩
    go_wp2
    go_ret
    exact ⟨rfl, b1⟩
  · have d1 : decide ((1000 : Int) < (s.size : Int)) = false := by simp; omega
    clear hs
    have cR := fun W => refValid_any s (by omega) W
    cases hv : validT s.data.toList
    · rw [hv] at cR
      have HR := Lib.hid cR
      clear cR hv
      go_enter Tryd.func5, Tryd.ntmps5
      go_wp2_with fail
      refine (alive_any _ HE.out).mono ?_
      rintro e w1 ⟨rfl, b1⟩
      go_wp2_with fail
      refine (HR.out _).mono ?_
      rintro e w2 ⟨rfl, b2'⟩
      have b2 := b1.trans (b2'.mono b1.size)
      clear b2' b1
      go_wp2
      go_ret
      exact ⟨rfl, b2⟩
    · rw [hv] at cR
      have HR := Lib.hid cR
      clear cR
      obtain ⟨cs, hok, rfl⟩ := text_of hv
      clear hv
      have hlen := len_le cs
      have hl9 : cs.length ≤ 1000 := by omega
      have HO := Lib.hid hok
      clear hok
      generalize hd : T (cleanL cs) = t
      have HD := Lib.hid hd
      clear hd
      cases hb : cs.all blankc
      all_goals
        have HB := Lib.hid hb
        clear hb
        go_enter Tryd.func5, Tryd.ntmps5
        go_wp2_with fail
        refine (alive_any _ HE.out).mono ?_
        rintro e w1 ⟨rfl, b1⟩
        go_wp2_with fail
        refine (HR.out _).mono ?_
        rintro e w2 ⟨rfl, b2'⟩
        have b2 := b1.trans (b2'.mono b1.size)
        clear b2' b1
        go_wp2_with fail
        refine (clean_is _ t cs HO.out rfl (by omega) HD.out _).mono ?_
        rintro e w3 ⟨rfl, b3'⟩
        have b3 := b2.trans (b3'.mono b2.size)
        clear b3' b2
        go_wp2_with fail
        refine (refClean_any cs HO.out _ t rfl (by omega) HD.out _).mono ?_
        rintro e w4 ⟨rfl, b4'⟩
        have b4 := b3.trans (b4'.mono b3.size)
        clear b4' b3
        go_wp2_with fail
        refine (space_is _ cs HO.out rfl _ HB.out _).mono ?_
        rintro e w5 ⟨rfl, b5'⟩
        have b5 := b4.trans (b5'.mono b4.size)
        clear b5' b4
        go_wp2_with fail
        refine (refSpace_any cs HO.out _ rfl (by omega) _ HB.out _).mono ?_
        rintro e w6 ⟨rfl, b6'⟩
        have b6 := b5.trans (b6'.mono b5.size)
        clear b6' b5
        go_wp2
        go_ret
        exact ⟨rfl, b6⟩

set_option maxHeartbeats 4000000 in
theorem folds_any (s : ByteArray) (hs : s.size ≤ 9223372036854775807) (w : World) (hE : Env w) :
    Calls Tryd.prog 6 #[.string s] w fun e w' => e = .returned (.bool true) ∧ Below w.heap.size w w' := by
  have HE := Lib.hid hE
  clear hE
  by_cases hbig : 1000 < s.size
  · have d1 : decide ((1000 : Int) < (s.size : Int)) = true := by simp; omega
    clear hs
    go_enter Tryd.func6, Tryd.ntmps6
    go_wp2_with fail
    refine (alive_any _ HE.out).mono ?_
    rintro e w1 ⟨rfl, b1⟩
    go_wp2
    go_ret
    exact ⟨rfl, b1⟩
  · have d1 : decide ((1000 : Int) < (s.size : Int)) = false := by simp; omega
    clear hs
    have cR := fun W => refValid_any s (by omega) W
    cases hv : validT s.data.toList
    · rw [hv] at cR
      have HR := Lib.hid cR
      clear cR hv
      go_enter Tryd.func6, Tryd.ntmps6
      go_wp2_with fail
      refine (alive_any _ HE.out).mono ?_
      rintro e w1 ⟨rfl, b1⟩
      go_wp2_with fail
      refine (HR.out _).mono ?_
      rintro e w2 ⟨rfl, b2'⟩
      have b2 := b1.trans (b2'.mono b1.size)
      clear b2' b1
      go_wp2
      go_ret
      exact ⟨rfl, b2⟩
    · rw [hv] at cR
      have HR := Lib.hid cR
      clear cR
      obtain ⟨cs, hok, rfl⟩ := text_of hv
      clear hv
      have hlen := len_le cs
      have hl9 : cs.length ≤ 1000 := by omega
      have HO := Lib.hid hok
      clear hok
      generalize hd : T (foldL cs) = t
      have HD := Lib.hid hd
      clear hd
      have HWT := Lib.hid (W_total cs)
      have HWL := Lib.hid (len_total (W cs))
      go_enter Tryd.func6, Tryd.ntmps6
      go_wp2_with fail
      refine (alive_any _ HE.out).mono ?_
      rintro e w1 ⟨rfl, b1⟩
      go_wp2_with fail
      refine (HR.out _).mono ?_
      rintro e w2 ⟨rfl, b2'⟩
      have b2 := b1.trans (b2'.mono b1.size)
      clear b2' b1
      go_wp2_with fail
      refine (fold_is _ t cs HO.out rfl (by omega) HD.out _ (HE.out.after b2)).mono ?_
      rintro e w3 ⟨rfl, b3'⟩
      have b3 := b2.trans (b3'.mono b2.size)
      clear b3' b2
      go_wp2_with fail
      refine (refFoldL_any cs HO.out _ t rfl (by omega) HD.out _).mono ?_
      rintro e w4 ⟨rfl, b4'⟩
      have b4 := b3.trans (b4'.mono b3.size)
      clear b4' b3
      go_wp2_with fail
      refine (words_any cs HO.out _ rfl (by omega) _ (HE.out.after b4)).mono ?_
      rintro e w5 ⟨v, rfl, hS, b5'⟩
      have HS := Lib.hid hS
      have b5 := b4.trans (b5'.mono b4.size)
      clear b5' b4 hS
      go_wp2_with fail
      refine (refWords_any cs HO.out _ rfl (by omega) _).mono ?_
      rintro e w6 ⟨v2, rfl, hS2, b6'⟩
      have HS1 := Lib.hid (HS.out.after b6')
      have HS2 := Lib.hid hS2
      have b6 := b5.trans (b6'.mono b5.size)
      clear b6' b5 hS2 HS
      go_wp2_with fail
      refine (texts_same _ _ _ _ (W cs) (by have h1 := HWT.out; have h2 := HWL.out; omega) _ HS1.out HS2.out).mono ?_
      rintro e w7 ⟨rfl, b7'⟩
      have b7 := b6.trans (b7'.mono b6.size)
      clear b7' b6
      go_wp2
      go_ret
      exact ⟨rfl, b7⟩
end Go.Proofs.YtfbmjfdfbokfdaaDoor
