/- Merged: RSizeT, RBlank, RClean. -/
import Derived.Test.YtmcolapcmjdoeaaGreatDoorQ13
import Derived.Test.YtmcolapcmjdoeaaGreatDoorQ06
import Derived.Test.YtmcolapcmjdoeaaGreatDoorQ10
namespace Go.Proofs.YtmcolapcmjdoeaaGreatDoor

section
open Go.RowKit
theorem size_refT (cs : List Nat) (h : OKs cs) (hz : (T cs).size ≤ 1000000) (k : Nat) (hk : k < cs.length) (w : World) :
    Calls Tryz.prog 83 #[.string (T cs), .int .i64 (off cs k)] w fun e w' => e = .returned (.int .i64 (wid cs[k])) ∧ Below w.heap.size w w' := by
  have := size_ref (T cs) (off cs k) (off_lt cs k hk) hz w
  rw [refDec_T cs h k hk] at this
  have hw := wid_pos cs[k]
  rw [show max ((cs[k], wid cs[k]) : Nat × Nat).2 1 = wid cs[k] from by simp only; omega] at this
  exact this
end

section
open Go.RowKit
set_option maxHeartbeats 1000000 in
theorem refBlank_any (c : Nat) (hc : c ≤ 1114111) (b : Bool) (hb : blankc c = b) (w : World) :
    Calls Tryz.prog 84 #[.int .i64 (c : Int)] w fun e w' => e = .returned (.bool b) ∧ w = w' := by
  have H := Lib.hid hb
  clear hb
  by_cases h1 : c = 32
  · subst h1
    obtain rfl : b = true := by have := H.out; rw [← this]; rfl
    clear H
    go_enter Tryz.func84, Tryz.ntmps84
    go_wp2
    go_ret
    exact ⟨rfl, rfl⟩
  · have e1 : ((c : Int) == 32) = false := by simp; omega
    by_cases h2 : c = 160
    · subst h2
      obtain rfl : b = true := by have := H.out; rw [← this]; rfl
      clear H e1 h1
      go_enter Tryz.func84, Tryz.ntmps84
      go_wp2
      go_ret
      exact ⟨rfl, rfl⟩
    · obtain rfl : b = false := by have := H.out; rw [← this]; simp [blankc, h1, h2]
      have e2 : ((c : Int) == 160) = false := by simp; omega
      clear H h1 h2
      go_enter Tryz.func84, Tryz.ntmps84
      go_wp2
      go_ret
      exact ⟨rfl, rfl⟩
end

section
open Go.RowKit
set_option maxHeartbeats 4000000 in
theorem refClean_any (cs : List Nat) (h : OKs cs) (s t : ByteArray) (hs : s = T cs) (hz : s.size ≤ 1000000) (ht : T (cleanL cs) = t) (w : World) :
    Calls Tryz.prog 59 #[.string s] w fun e w' => e = .returned (.string t) ∧ Below w.heap.size w w' := by
  subst hs
  have hll := len_le cs
  have HTT := Lib.hid ht
  clear ht
  have HH := Lib.hid h
  clear h
  have t32 : (⟨#[32]⟩ : ByteArray) = T [32] := by kernel_rfl
  go_enter Tryz.func59, Tryz.ntmps59
  go_wp2
  go_loopw [3, 4, 5] (fun o g i wr => ∃ k : Nat, k ≤ cs.length ∧ o = .string (T (cleanRun (cs.take k)).1) ∧ g = .bool (cleanRun (cs.take k)).2 ∧ i = .int .i64 (off cs k) ∧ Below w.heap.size w wr) (fun _ _ i _ => (T cs).size - (intOf i).toNat)
  case atStart => exact ⟨0, Nat.zero_le _, rfl, rfl, by rw [off_zero]; rfl, Below.refl _ _⟩
  case round =>
    obtain ⟨k, hk, rfl, rfl, rfl, hbw⟩ := hrel
    have hsz := hbw.size
    have hole := off_le cs k
    by_cases hlt : k < cs.length
    · have hol := off_lt cs k hlt
      have hoj := off_inj cs k (k + 1) (by omega) (by omega)
      have hole2 := off_le cs (k + 1)
      have hoj2 : off cs k ≤ off cs (k + 1) := by omega
      have cD := fun W => decode_refT cs HH.out hz k hlt W
      have cS := fun W => size_refT cs HH.out hz k hlt W
      have HD := Lib.hid cD
      have HSz := Lib.hid cS
      clear cD cS
      have hwp := wid_pos cs[k]
      have hok := okc_le (OKs_get HH.out hlt)
      have HOS := Lib.hid (off_succ cs k hlt)
      have HCT := Lib.hid (cut_T cs k hlt)
      have HS := Lib.hid (cleanRun_take cs k hlt)
      have hl1 := cleanRun_len (cs.take k)
      have hl3 : (cs.take k).length ≤ k := List.length_take_le _ _
      have hb1 := T_bound (cleanRun (cs.take k)).1
      have hb2 := T_bound [cs[k]]
      generalize cs[k] = c at HD HSz hwp HOS hok HS HCT hb2
      obtain ⟨out, gap, hst⟩ : ∃ out gap, cleanRun (cs.take k) = (out, gap) := ⟨_, _, rfl⟩
      rw [hst] at HS hl1 hb1
      rw [hst]
      clear hst
      simp only [List.length_singleton] at hl1 hb1 hb2
      have s1 : (T out).size ≤ 8000000 := by omega
      have s2 : (T [c]).size ≤ 4 := by omega
      have s3 : (T [32]).size ≤ 1 := by decide
      clear hb1 hb2
      have hsum : off cs k + wid c = off cs (k + 1) := HOS.out.symm
      have HSUM : RowKit.Hid ((off cs k : Int) + (wid c : Int) = (off cs (k + 1) : Int)) := by unfold RowKit.Hid; omega
      clear hsum
      cases hb : blankc c
      · have HB := Lib.hid hb
        clear hb
        have e3 : T out ++ T [c] = T (out ++ [c]) := T_append _ _
        have HE3 := Lib.hid e3
        have HE4 := Lib.hid (T_append out [32])
        have HE5 := Lib.hid (T_append (out ++ [32]) [c])
        clear e3
        cases gap
        · go_wp2_with fail
          refine (HD.out _).mono ?_
          rintro e w1 ⟨rfl, b1⟩
          go_wp2_with fail
          refine (HSz.out _).mono ?_
          rintro e w2 ⟨rfl, b2⟩
          have b3 := (hbw.trans (b1.mono hsz)).trans (b2.mono (Nat.le_trans hsz b1.size))
          clear b1 b2
          go_wp2_with fail
          refine (refBlank_any c (by omega) false HB.out _).mono ?_
          rintro e w3 ⟨rfl, rfl⟩
          have ew : (off cs k : Int) + (wid c : Int) = (off cs (k + 1) : Int) := HSUM.out
          rw [← HCT.out] at s2
          go_wp2
          go_roundw
          case rel =>
            refine ⟨k + 1, by omega, ?_, ?_, ?_, b3⟩
            · rw [HS.out, HCT.out, HE3.out]; simp [cleanStep, HB.out]
            · rw [HS.out]; simp [cleanStep, HB.out]
            · first | rfl | go_num
          case measure => simp [intOf]; omega
        · by_cases hne : out = []
          · subst hne
            have e0 : T [] = ⟨#[]⟩ := rfl
            rw [e0]
            rw [e0] at HE3 s1
            go_wp2_with fail
            refine (HD.out _).mono ?_
            rintro e w1 ⟨rfl, b1⟩
            go_wp2_with fail
            refine (HSz.out _).mono ?_
            rintro e w2 ⟨rfl, b2⟩
            have b3 := (hbw.trans (b1.mono hsz)).trans (b2.mono (Nat.le_trans hsz b1.size))
            clear b1 b2
            go_wp2_with fail
            refine (refBlank_any c (by omega) false HB.out _).mono ?_
            rintro e w3 ⟨rfl, rfl⟩
            have ew : (off cs k : Int) + (wid c : Int) = (off cs (k + 1) : Int) := HSUM.out
            rw [← HCT.out] at s2
            clear e0
            go_wp2
            go_roundw
            case rel =>
              refine ⟨k + 1, by omega, ?_, ?_, ?_, b3⟩
              · rw [HS.out, HCT.out, HE3.out]; simp [cleanStep, HB.out]
              · rw [HS.out]; simp [cleanStep, HB.out]
              · first | rfl | go_num
            case measure => simp [intOf]; omega
          · obtain ⟨f1, f2⟩ := T_facts _ hne
            have HNE := Lib.hid hne
            clear hne
            rw [t32]
            go_wp2_with fail
            refine (HD.out _).mono ?_
            rintro e w1 ⟨rfl, b1⟩
            go_wp2_with fail
            refine (HSz.out _).mono ?_
            rintro e w2 ⟨rfl, b2⟩
            have b3 := (hbw.trans (b1.mono hsz)).trans (b2.mono (Nat.le_trans hsz b1.size))
            clear b1 b2
            go_wp2_with fail
            refine (refBlank_any c (by omega) false HB.out _).mono ?_
            rintro e w3 ⟨rfl, rfl⟩
            have ew : (off cs k : Int) + (wid c : Int) = (off cs (k + 1) : Int) := HSUM.out
            rw [← HCT.out] at s2
            go_wp2
            go_roundw
            case rel =>
              refine ⟨k + 1, by omega, ?_, ?_, ?_, b3⟩
              · rw [HS.out, HCT.out, HE4.out, HE5.out]; simp [cleanStep, HB.out, HNE.out]
              · rw [HS.out]; simp [cleanStep, HB.out]
              · first | rfl | go_num
            case measure => simp [intOf]; omega
      · have HB := Lib.hid hb
        clear hb
        go_wp2_with fail
        refine (HD.out _).mono ?_
        rintro e w1 ⟨rfl, b1⟩
        go_wp2_with fail
        refine (HSz.out _).mono ?_
        rintro e w2 ⟨rfl, b2⟩
        have b3 := (hbw.trans (b1.mono hsz)).trans (b2.mono (Nat.le_trans hsz b1.size))
        clear b1 b2
        go_wp2_with fail
        refine (refBlank_any c (by omega) true HB.out _).mono ?_
        rintro e w3 ⟨rfl, rfl⟩
        have ew : (off cs k : Int) + (wid c : Int) = (off cs (k + 1) : Int) := HSUM.out
        go_wp2
        go_roundw
        case rel =>
          refine ⟨k + 1, by omega, ?_, ?_, ?_, b3⟩
          · rw [HS.out]; simp [cleanStep, HB.out]
          · rw [HS.out]; simp [cleanStep, HB.out]
          · first | rfl | go_num
        case measure => simp [intOf]; omega
    · obtain rfl : k = cs.length := by omega
      have hof := T_off cs
      have hnl : ¬ (off cs cs.length < (T cs).size) := by omega
      clear hof
      have htl : cs.take cs.length = cs := List.take_length
      rw [htl]
      clear htl
      go_wp2
      go_ret
      refine ⟨?_, hbw⟩
      rw [← HTT.out]
      rfl
end

end Go.Proofs.YtmcolapcmjdoeaaGreatDoor
