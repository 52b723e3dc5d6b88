/- Merged: RBlank, RClean, RFoldC, RFold, RLetter. -/
import Derived.Test.YthjdopnoophigaaGreatDoorQ08
import Derived.Test.YthjdopnoophigaaGreatDoorQ14
import Derived.Test.YthjdopnoophigaaGreatDoorQ13
import Derived.Test.YthjdopnoophigaaGreatDoorQ01
namespace Go.Proofs.YthjdopnoophigaaGreatDoor

section
open Go.RowKit
set_option maxHeartbeats 1000000 in
theorem refBlank_any (c : Nat) (hc : c ≤ 1114111) (b : Bool) (hb : blankc c = b) (w : World) :
    Calls Tryz.prog 132 #[.int .i64 (c : Int)] w fun e w' => e = .returned (.bool b) ∧ w = w' := by
  have H := Lib.hid hb
  clear hb
  by_cases h1 : c = 32
  · subst h1
    obtain rfl : b = true := by have := H.out; rw [← this]; rfl
    clear H
    go_enter Tryz.func132, Tryz.ntmps132
    go_wp2
    go_ret
    exact ⟨rfl, rfl⟩
  · have e1 : ((c : Int) == 32) = false := by simp; omega
    by_cases h2 : c = 160
    · subst h2
      obtain rfl : b = true := by have := H.out; rw [← this]; rfl
      clear H e1 h1
      go_enter Tryz.func132, Tryz.ntmps132
      go_wp2
      go_ret
      exact ⟨rfl, rfl⟩
    · obtain rfl : b = false := by have := H.out; rw [← this]; simp [blankc, h1, h2]
      have e2 : ((c : Int) == 160) = false := by simp; omega
      clear H h1 h2
      go_enter Tryz.func132, Tryz.ntmps132
      go_wp2
      go_ret
      exact ⟨rfl, rfl⟩
end

section
open Go.RowKit
set_option maxHeartbeats 4000000 in
theorem refClean_any (cs : List Nat) (h : OKs cs) (s t : ByteArray) (hs : s = T cs) (hz : s.size ≤ 1000000) (ht : T (cleanL cs) = t) (w : World) :
    Calls Tryz.prog 97 #[.string s] w fun e w' => e = .returned (.string t) ∧ Below w.heap.size w w' := by
  subst hs
  have hll := len_le cs
  have HTT := Lib.hid ht
  clear ht
  have HH := Lib.hid h
  clear h
  have t32 : (⟨#[32]⟩ : ByteArray) = T [32] := by kernel_rfl
  go_enter Tryz.func97, Tryz.ntmps97
  go_wp2
  go_loopw [3, 4, 5] (fun o g i wr => ∃ k : Nat, k ≤ cs.length ∧ o = .string (T (cleanRun (cs.take k)).1) ∧ g = .bool (cleanRun (cs.take k)).2 ∧ i = .int .i64 (off cs k) ∧ Below w.heap.size w wr) (fun _ _ i _ => (T cs).size - (intOf i).toNat)
  case atStart => exact ⟨0, Nat.zero_le _, rfl, rfl, by rw [off_zero]; rfl, Below.refl _ _⟩
  case round =>
    obtain ⟨k, hk, rfl, rfl, rfl, hbw⟩ := hrel
    have hsz := hbw.size
    have hole := off_le cs k
    by_cases hlt : k < cs.length
    · have hol := off_lt cs k hlt
      have hoj := off_inj cs k (k + 1) (by omega) (by omega)
      have hole2 := off_le cs (k + 1)
      have hoj2 : off cs k ≤ off cs (k + 1) := by omega
      have cD := fun W => decode_refT cs HH.out hz k hlt W
      have cS := fun W => size_refT cs HH.out hz k hlt W
      have HD := Lib.hid cD
      have HSz := Lib.hid cS
      clear cD cS
      have hwp := wid_pos cs[k]
      have hok := okc_le (OKs_get HH.out hlt)
      have HOS := Lib.hid (off_succ cs k hlt)
      have HCT := Lib.hid (cut_T cs k hlt)
      have HS := Lib.hid (cleanRun_take cs k hlt)
      have hl1 := cleanRun_len (cs.take k)
      have hl3 : (cs.take k).length ≤ k := List.length_take_le _ _
      have hb1 := T_bound (cleanRun (cs.take k)).1
      have hb2 := T_bound [cs[k]]
      generalize cs[k] = c at HD HSz hwp HOS hok HS HCT hb2
      obtain ⟨out, gap, hst⟩ : ∃ out gap, cleanRun (cs.take k) = (out, gap) := ⟨_, _, rfl⟩
      rw [hst] at HS hl1 hb1
      rw [hst]
      clear hst
      simp only [List.length_singleton] at hl1 hb1 hb2
      have s1 : (T out).size ≤ 8000000 := by omega
      have s2 : (T [c]).size ≤ 4 := by omega
      have s3 : (T [32]).size ≤ 1 := by decide
      clear hb1 hb2
      have hsum : off cs k + wid c = off cs (k + 1) := HOS.out.symm
      have HSUM : RowKit.Hid ((off cs k : Int) + (wid c : Int) = (off cs (k + 1) : Int)) := by unfold RowKit.Hid; omega
      clear hsum
      cases hb : blankc c
      · have HB := Lib.hid hb
        clear hb
        have e3 : T out ++ T [c] = T (out ++ [c]) := T_append _ _
        have HE3 := Lib.hid e3
        have HE4 := Lib.hid (T_append out [32])
        have HE5 := Lib.hid (T_append (out ++ [32]) [c])
        clear e3
        cases gap
        · go_wp2_with fail
          refine (HD.out _).mono ?_
          rintro e w1 ⟨rfl, b1⟩
          go_wp2_with fail
          refine (HSz.out _).mono ?_
          rintro e w2 ⟨rfl, b2⟩
          have b3 := (hbw.trans (b1.mono hsz)).trans (b2.mono (Nat.le_trans hsz b1.size))
          clear b1 b2
          go_wp2_with fail
          refine (refBlank_any c (by omega) false HB.out _).mono ?_
          rintro e w3 ⟨rfl, rfl⟩
          have ew : (off cs k : Int) + (wid c : Int) = (off cs (k + 1) : Int) := HSUM.out
          rw [← HCT.out] at s2
          go_wp2
          go_roundw
          case rel =>
            refine ⟨k + 1, by omega, ?_, ?_, ?_, b3⟩
            · rw [HS.out, HCT.out, HE3.out]; simp [cleanStep, HB.out]
            · rw [HS.out]; simp [cleanStep, HB.out]
            · first | rfl | go_num
          case measure => simp [intOf]; omega
        · by_cases hne : out = []
          · subst hne
            have e0 : T [] = ⟨#[]⟩ := rfl
            rw [e0]
            rw [e0] at HE3 s1
            go_wp2_with fail
            refine (HD.out _).mono ?_
            rintro e w1 ⟨rfl, b1⟩
            go_wp2_with fail
            refine (HSz.out _).mono ?_
            rintro e w2 ⟨rfl, b2⟩
            have b3 := (hbw.trans (b1.mono hsz)).trans (b2.mono (Nat.le_trans hsz b1.size))
            clear b1 b2
            go_wp2_with fail
            refine (refBlank_any c (by omega) false HB.out _).mono ?_
            rintro e w3 ⟨rfl, rfl⟩
            have ew : (off cs k : Int) + (wid c : Int) = (off cs (k + 1) : Int) := HSUM.out
            rw [← HCT.out] at s2
            clear e0
            go_wp2
            go_roundw
            case rel =>
              refine ⟨k + 1, by omega, ?_, ?_, ?_, b3⟩
              · rw [HS.out, HCT.out, HE3.out]; simp [cleanStep, HB.out]
              · rw [HS.out]; simp [cleanStep, HB.out]
              · first | rfl | go_num
            case measure => simp [intOf]; omega
          · obtain ⟨f1, f2⟩ := T_facts _ hne
            have HNE := Lib.hid hne
            clear hne
            rw [t32]
            go_wp2_with fail
            refine (HD.out _).mono ?_
            rintro e w1 ⟨rfl, b1⟩
            go_wp2_with fail
            refine (HSz.out _).mono ?_
            rintro e w2 ⟨rfl, b2⟩
            have b3 := (hbw.trans (b1.mono hsz)).trans (b2.mono (Nat.le_trans hsz b1.size))
            clear b1 b2
            go_wp2_with fail
            refine (refBlank_any c (by omega) false HB.out _).mono ?_
            rintro e w3 ⟨rfl, rfl⟩
            have ew : (off cs k : Int) + (wid c : Int) = (off cs (k + 1) : Int) := HSUM.out
            rw [← HCT.out] at s2
            go_wp2
            go_roundw
            case rel =>
              refine ⟨k + 1, by omega, ?_, ?_, ?_, b3⟩
              · rw [HS.out, HCT.out, HE4.out, HE5.out]; simp [cleanStep, HB.out, HNE.out]
              · rw [HS.out]; simp [cleanStep, HB.out]
              · first | rfl | go_num
            case measure => simp [intOf]; omega
      · have HB := Lib.hid hb
        clear hb
        go_wp2_with fail
        refine (HD.out _).mono ?_
        rintro e w1 ⟨rfl, b1⟩
        go_wp2_with fail
        refine (HSz.out _).mono ?_
        rintro e w2 ⟨rfl, b2⟩
        have b3 := (hbw.trans (b1.mono hsz)).trans (b2.mono (Nat.le_trans hsz b1.size))
        clear b1 b2
        go_wp2_with fail
        refine (refBlank_any c (by omega) true HB.out _).mono ?_
        rintro e w3 ⟨rfl, rfl⟩
        have ew : (off cs k : Int) + (wid c : Int) = (off cs (k + 1) : Int) := HSUM.out
        go_wp2
        go_roundw
        case rel =>
          refine ⟨k + 1, by omega, ?_, ?_, ?_, b3⟩
          · rw [HS.out]; simp [cleanStep, HB.out]
          · rw [HS.out]; simp [cleanStep, HB.out]
          · first | rfl | go_num
        case measure => simp [intOf]; omega
    · obtain rfl : k = cs.length := by omega
      have hof := T_off cs
      have hnl : ¬ (off cs cs.length < (T cs).size) := by omega
      clear hof
      have htl : cs.take cs.length = cs := List.take_length
      rw [htl]
      clear htl
      go_wp2
      go_ret
      refine ⟨?_, hbw⟩
      rw [← HTT.out]
      rfl
end

section
open Go.RowKit
/-- What the reference's fold returns: nothing for a character that stays. -/
def ff (c : Nat) : List Nat := if 65 ≤ c ∧ c ≤ 90 then [c + 32] else if c < 192 ∨ 255 < c ∨ c = 215 ∨ c = 247 then [] else accL.getD (c - 192) []

theorem ff_fold (c : Nat) : foldc c = if ff c = [] then [c] else ff c := by
  by_cases h : c < 256
  · have : ∀ i : Fin 256, foldc i.val = if ff i.val = [] then [i.val] else ff i.val := by decide +kernel
    exact this ⟨c, h⟩
  · have e1 : foldc c = [c] := by unfold foldc; rw [if_neg (by omega), if_neg (by omega)]
    have e2 : ff c = [] := by unfold ff; rw [if_neg (by omega), if_pos (by omega)]
    rw [e1, e2]; rfl

theorem ret_string {a b : ByteArray} (h : a = b) : Ending.returned (.string a) = .returned (.string b) := by rw [h]

theorem accL_len : ∀ i : Fin 64, (accL.getD i.val []).length ≤ 2 := by decide

theorem ff_len (c : Nat) : (ff c).length ≤ 2 := by
  unfold ff
  split
  · simp
  · split
    · simp
    · have := accL_len ⟨c - 192, by omega⟩
      exact this
end

section
open Go.RowKit
theorem foldL_len_take' (cs : List Nat) (j : Nat) : (foldL (cs.take j)).length ≤ 2 * j := by
  have h1 := fold_len (cs.take j)
  have h2 : (cs.take j).length ≤ j := List.length_take_le _ _
  omega
end

section
open Go.RowKit

end

end Go.Proofs.YthjdopnoophigaaGreatDoor
