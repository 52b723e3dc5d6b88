/- Merged: RFold, RLetter, RWords. -/
import Derived.Test.YtmcolapcmjdoeaaGreatDoorQ14
import Derived.Test.YtmcolapcmjdoeaaGreatDoorQ15
import Derived.Test.YtmcolapcmjdoeaaGreatDoorQ10
import Derived.Test.YtmcolapcmjdoeaaGreatDoorQ06
namespace Go.Proofs.YtmcolapcmjdoeaaGreatDoor

section
open Go.RowKit
theorem foldL_len_take' (cs : List Nat) (j : Nat) : (foldL (cs.take j)).length ≤ 2 * j := by
  have h1 := fold_len (cs.take j)
  have h2 : (cs.take j).length ≤ j := List.length_take_le _ _
  omega

set_option maxHeartbeats 4000000 in
theorem refFoldL_any (cs : List Nat) (h : OKs cs) (s t : ByteArray) (hs : s = T cs) (hz : s.size ≤ 1000000) (ht : T (foldL cs) = t) (w : World) :
    Calls Tryz.prog 94 #[.string s] w fun e w' => e = .returned (.string t) ∧ Below w.heap.size w w' := by
  subst hs
  have hll := len_le cs
  have HTT := Lib.hid ht
  clear ht
  have HH := Lib.hid h
  clear h
  go_enter Tryz.func94, Tryz.ntmps94
  go_wp2
  go_loopw [3, 4] (fun o i wr => ∃ k : Nat, k ≤ cs.length ∧ o = .string (T (foldL (cs.take k))) ∧ i = .int .i64 (off cs k) ∧ Below w.heap.size w wr) (fun _ i _ => (T cs).size - (intOf i).toNat)
  case atStart => exact ⟨0, Nat.zero_le _, rfl, by rw [off_zero]; rfl, Below.refl _ _⟩
  case round =>
    obtain ⟨k, hk, rfl, rfl, hbw⟩ := hrel
    have hsz := hbw.size
    have hole := off_le cs k
    by_cases hlt : k < cs.length
    · have hol := off_lt cs k hlt
      have hoj := off_inj cs k (k + 1) (by omega) (by omega)
      have hole2 := off_le cs (k + 1)
      have hoj2 : off cs k ≤ off cs (k + 1) := by omega
      have HD := Lib.hid (fun W => decode_refT cs HH.out hz k hlt W)
      have HSz := Lib.hid (fun W => size_refT cs HH.out hz k hlt W)
      have hwp := wid_pos cs[k]
      have hok := okc_le (OKs_get HH.out hlt)
      have HOS := Lib.hid (off_succ cs k hlt)
      have HCT := Lib.hid (cut_T cs k hlt)
      have HS := Lib.hid (foldL_take cs k hlt)
      have hl1 := foldL_len_take' cs k
      have hb1 := T_bound (foldL (cs.take k))
      have hb2 := T_bound [cs[k]]
      generalize cs[k] = c at HD HSz hwp HOS hok HS HCT hb2
      have hb3 := T_bound (ff c)
      have hfl := ff_len c
      simp only [List.length_singleton] at hb2
      have s1 : (T (foldL (cs.take k))).size ≤ 8000000 := by omega
      have s2 : (T [c]).size ≤ 4 := by omega
      have s3 : (T (ff c)).size ≤ 8 := by omega
      clear hb1 hb2 hb3 hfl
      have HSUM : RowKit.Hid ((off cs k : Int) + (wid c : Int) = (off cs (k + 1) : Int)) := by unfold RowKit.Hid; have := HOS.out; omega
      by_cases hne : ff c = []
      · have HF : RowKit.Hid (foldc c = [c]) := by unfold RowKit.Hid; rw [ff_fold, if_pos hne]
        have HA := Lib.hid (T_append (foldL (cs.take k)) [c])
        have cF := fun W => refFold_any c (by omega) W
        rw [hne] at cF
        rw [show T [] = ⟨#[]⟩ from rfl] at cF
        have HCF := Lib.hid cF
        clear cF hne s3
        go_wp2_with fail
        refine (HD.out _).mono ?_
        rintro e w1 ⟨rfl, b1⟩
        go_wp2_with fail
        refine (HSz.out _).mono ?_
        rintro e w2 ⟨rfl, b2⟩
        have b3 := (hbw.trans (b1.mono hsz)).trans (b2.mono (Nat.le_trans hsz b1.size))
        clear b1 b2
        go_wp2_with fail
        refine (HCF.out _).mono ?_
        rintro e w3 ⟨rfl, rfl⟩
        have ew : (off cs k : Int) + (wid c : Int) = (off cs (k + 1) : Int) := HSUM.out
        rw [← HCT.out] at s2
        go_wp2
        go_roundw
        case rel =>
          refine ⟨k + 1, by omega, ?_, ?_, b3⟩
          · rw [HS.out, HF.out, HCT.out, HA.out]
          · first | rfl | go_num
        case measure => simp [intOf]; omega
      · have HF : RowKit.Hid (foldc c = ff c) := by unfold RowKit.Hid; rw [ff_fold, if_neg hne]
        have HA := Lib.hid (T_append (foldL (cs.take k)) (ff c))
        obtain ⟨f1, f2⟩ := T_facts _ hne
        have HCF := Lib.hid (fun W => refFold_any c (by omega) W)
        clear hne
        go_wp2_with fail
        refine (HD.out _).mono ?_
        rintro e w1 ⟨rfl, b1⟩
        go_wp2_with fail
        refine (HSz.out _).mono ?_
        rintro e w2 ⟨rfl, b2⟩
        have b3 := (hbw.trans (b1.mono hsz)).trans (b2.mono (Nat.le_trans hsz b1.size))
        clear b1 b2
        go_wp2_with fail
        refine (HCF.out _).mono ?_
        rintro e w3 ⟨rfl, rfl⟩
        have ew : (off cs k : Int) + (wid c : Int) = (off cs (k + 1) : Int) := HSUM.out
        go_wp2
        go_roundw
        case rel =>
          refine ⟨k + 1, by omega, ?_, ?_, b3⟩
          · rw [HS.out, HF.out, HA.out]
          · first | rfl | go_num
        case measure => simp [intOf]; omega
    · obtain rfl : k = cs.length := by omega
      have hof := T_off cs
      have hnl : ¬ (off cs cs.length < (T cs).size) := by omega
      clear hof
      have htl : cs.take cs.length = cs := List.take_length
      rw [htl]
      clear htl
      go_wp2
      go_ret
      refine ⟨?_, hbw⟩
      rw [← HTT.out]
      rfl
end

section
open Go.RowKit
set_option maxHeartbeats 1000000 in
theorem refLetter_any (c : Nat) (hc : c ≤ 1114111) (b : Bool) (hb : letterc c = b) (w : World) :
    Calls Tryz.prog 95 #[.int .i64 (c : Int)] w fun e w' => e = .returned (.bool b) ∧ w = w' := by
  have H := Lib.hid hb
  clear hb
  by_cases h6 : 256 ≤ c
  · obtain rfl : b = true := by have := H.out; rw [← this]; simp [letterc, h6]
    have d1 : decide ((97 : Int) ≤ (c : Int)) = true := by simp; omega
    have d2 : decide ((c : Int) ≤ 122) = false := by simp; omega
    have d3 : decide ((48 : Int) ≤ (c : Int)) = true := by simp; omega
    have d4 : decide ((c : Int) ≤ 57) = false := by simp; omega
    have d5 : decide ((256 : Int) ≤ (c : Int)) = true := by simp; omega
    clear H h6
    go_enter Tryz.func95, Tryz.ntmps95
    go_wp2
    go_ret
    exact ⟨rfl, rfl⟩
  · have d5 : decide ((256 : Int) ≤ (c : Int)) = false := by simp; omega
    by_cases h1 : 97 ≤ c
    · have d1 : decide ((97 : Int) ≤ (c : Int)) = true := by simp; omega
      by_cases h2 : c ≤ 122
      · obtain rfl : b = true := by have := H.out; rw [← this]; simp [letterc, h1, h2]
        have d2 : decide ((c : Int) ≤ 122) = true := by simp; omega
        clear H h1 h2 h6
        go_enter Tryz.func95, Tryz.ntmps95
        go_wp2
        go_ret
        exact ⟨rfl, rfl⟩
      · obtain rfl : b = false := by have := H.out; rw [← this]; simp [letterc, h2]; omega
        have d2 : decide ((c : Int) ≤ 122) = false := by simp; omega
        have d3 : decide ((48 : Int) ≤ (c : Int)) = true := by simp; omega
        have d4 : decide ((c : Int) ≤ 57) = false := by simp; omega
        clear H h1 h2 h6
        go_enter Tryz.func95, Tryz.ntmps95
        go_wp2
        go_ret
        exact ⟨rfl, rfl⟩
    · have d1 : decide ((97 : Int) ≤ (c : Int)) = false := by simp; omega
      by_cases h3 : 48 ≤ c
      · have d3 : decide ((48 : Int) ≤ (c : Int)) = true := by simp; omega
        by_cases h4 : c ≤ 57
        · obtain rfl : b = true := by have := H.out; rw [← this]; simp [letterc, h3, h4]
          have d4 : decide ((c : Int) ≤ 57) = true := by simp; omega
          clear H h1 h3 h4 h6
          go_enter Tryz.func95, Tryz.ntmps95
          go_wp2
          go_ret
          exact ⟨rfl, rfl⟩
        · obtain rfl : b = false := by have := H.out; rw [← this]; simp [letterc, h4]; omega
          have d4 : decide ((c : Int) ≤ 57) = false := by simp; omega
          clear H h1 h3 h4 h6
          go_enter Tryz.func95, Tryz.ntmps95
          go_wp2
          go_ret
          exact ⟨rfl, rfl⟩
      · obtain rfl : b = false := by have := H.out; rw [← this]; simp [letterc]; omega
        have d3 : decide ((48 : Int) ≤ (c : Int)) = false := by simp; omega
        clear H h1 h3 h6
        go_enter Tryz.func95, Tryz.ntmps95
        go_wp2
        go_ret
        exact ⟨rfl, rfl⟩
end

section
open Go.RowKit
/-- What the loop of the reference's Words has at place k. -/
def RAt (fs : List Nat) (k B : Nat) (v wd : Value) (w : World) : Prop := Strs B v (wst (fs.take k)).1 w ∧ wd = .string (T (wst (fs.take k)).2)

set_option maxHeartbeats 8000000 in
theorem refWords_any (cs : List Nat) (h : OKs cs) (s : ByteArray) (hs : s = T cs) (hz : cs.length ≤ 10000) (w : World) :
    Calls Tryz.prog 71 #[.string s] w fun e w' => ∃ v, e = .returned v ∧ Strs w.heap.size v (W cs) w' ∧ Below w.heap.size w w' := by
  have hsz0 : s.size ≤ 1000000 := by subst hs; have := T_bound cs; omega
  have cF := refFoldL_any cs h s _ hs hsz0 rfl w
  clear hs hsz0
  have hF := fold_OK cs h
  have hfl := fold_len cs
  have eW : W cs = (flush (wst (foldL cs))).1 := rfl
  rw [eW]
  clear eW
  generalize foldL cs = fs at cF hF hfl
  have hTz : (T fs).size ≤ 1000000 := by have := T_bound fs; omega
  have HF := Lib.hid hF
  clear hF h
  obtain ⟨i0, hi, hz0, hz1, hz2⟩ := info_parts infoStr
  go_enter Tryz.func71, Tryz.ntmps71
  go_wp2_with fail
  refine cF.mono ?_
  rintro e w1 ⟨rfl, hb⟩
  clear cF
  have hB1 := hb.size
  go_wp2
  go_loopw [3, 4, 5] (fun v wd i wr => ∃ k : Nat, k ≤ fs.length ∧ RAt fs k w.heap.size v wd wr ∧ i = .int .i64 (off fs k) ∧ Below w.heap.size w wr) (fun _ _ i _ => (T fs).size - (intOf i).toNat)
  case atStart => exact ⟨0, Nat.zero_le _, ⟨World.ownsRow_nil _ _ _ _, rfl⟩, by rw [off_zero]; rfl, hb⟩
  case round =>
    obtain ⟨k, hk, ⟨hown, rfl⟩, rfl, hbw⟩ := hrel
    have hsz := hbw.size
    have hole := off_le fs k
    have hwt := wst_total (fs.take k)
    have hwl := len_total (wst (fs.take k)).1
    have hl3 : (fs.take k).length ≤ k := List.length_take_le _ _
    by_cases hlt : k < fs.length
    · have hol := off_lt fs k hlt
      have hoj := off_inj fs k (k + 1) (by omega) (by omega)
      have hole2 := off_le fs (k + 1)
      have hoj2 : off fs k ≤ off fs (k + 1) := by omega
      have HD := Lib.hid (fun W => decode_refT fs HF.out hTz k hlt W)
      have HSz := Lib.hid (fun W => size_refT fs HF.out hTz k hlt W)
      have hwp := wid_pos fs[k]
      have hok := okc_le (OKs_get HF.out hlt)
      have HOS := Lib.hid (off_succ fs k hlt)
      have HCT := Lib.hid (cut_T fs k hlt)
      have HS := Lib.hid (wst_take fs k hlt)
      have hb2 := T_bound [fs[k]]
      have hb1 := T_bound (wst (fs.take k)).2
      generalize fs[k] = c at HD HSz hwp HOS hok HS HCT hb2
      have HSUM : RowKit.Hid ((off fs k : Int) + (wid c : Int) = (off fs (k + 1) : Int)) := by unfold RowKit.Hid; have := HOS.out; omega
      obtain ⟨ws, cur, hst⟩ : ∃ ws cur, wst (fs.take k) = (ws, cur) := ⟨_, _, rfl⟩
      rw [hst] at hown hwt hwl HS hb1
      rw [hst]
      clear hst
      simp only [List.length_singleton] at hown hwt hwl hb1 hb2
      have s1 : (T cur).size ≤ 8000000 := by omega
      have s2 : (T [c]).size ≤ 4 := by omega
      have hwn : ws.length ≤ 20000 := by omega
      clear hb1 hb2 hwt hwl
      have HOwn := Lib.hid hown
      clear hown
      cases hl : letterc c
      · have HL := Lib.hid hl
        clear hl
        have HS2 : RowKit.Hid (wst (fs.take (k + 1)) = flush (ws, cur)) := by
          unfold RowKit.Hid
          rw [HS.out]; unfold wstep; rw [HL.out]; rfl
        by_cases hne : cur = []
        · subst hne
          have HS3 : RowKit.Hid (wst (fs.take (k + 1)) = (ws, [])) := by unfold RowKit.Hid; rw [HS2.out]; rfl
          clear HS2 HS
          rw [show T [] = ⟨#[]⟩ from rfl]
          go_wp2_with fail
          refine (HD.out _).mono ?_
          rintro e w2 ⟨rfl, b1⟩
          go_wp2_with fail
          refine (HSz.out _).mono ?_
          rintro e w3 ⟨rfl, b2⟩
          have b3 := (hbw.trans (b1.mono hsz)).trans (b2.mono (Nat.le_trans hsz b1.size))
          have HO2 := Lib.hid ((HOwn.out.after b1).after b2)
          clear b1 b2
          go_wp2_with fail
          refine (refLetter_any c (by omega) false HL.out _).mono ?_
          rintro e w4 ⟨rfl, rfl⟩
          have ew : (off fs k : Int) + (wid c : Int) = (off fs (k + 1) : Int) := HSUM.out
          go_wp2
          go_roundw
          case rel =>
            refine ⟨k + 1, by omega, ⟨?_, ?_⟩, ?_, b3⟩
            · rw [HS3.out]; exact HO2.out
            · rw [HS3.out]; rfl
            · first | rfl | go_num
          case measure => simp [intOf]; omega
        · have HS3 : RowKit.Hid (wst (fs.take (k + 1)) = (ws ++ [cur], [])) := by unfold RowKit.Hid; rw [HS2.out]; unfold flush; rw [if_neg hne]
          clear HS2 HS
          obtain ⟨f1, f2⟩ := T_facts _ hne
          clear hne
          go_wp2_with fail
          refine (HD.out _).mono ?_
          rintro e w2 ⟨rfl, b1⟩
          go_wp2_with fail
          refine (HSz.out _).mono ?_
          rintro e w3 ⟨rfl, b2⟩
          have b3 := (hbw.trans (b1.mono hsz)).trans (b2.mono (Nat.le_trans hsz b1.size))
          have hO2 := (HOwn.out.after b1).after b2
          clear b1 b2
          go_wp2_with fail
          refine (refLetter_any c (by omega) false HL.out _).mono ?_
          rintro e w4 ⟨rfl, rfl⟩
          have ew : (off fs k : Int) + (wid c : Int) = (off fs (k + 1) : Int) := HSUM.out
          have hs3 := b3.size
          go_wp2_with (at_builtin; refine wpList_append_own _ rfl _ _ 28 rfl w.heap.size 9 i0 (.string ⟨#[]⟩) 1 16 Tryz.underlying28 hi hz0 hz1 hz2 rfl (by decide) _ _ _ rfl (hO2.alloc _) ⟨w3.heap.size, 0, none⟩ 1 1 [.string (T cur)] rfl rfl ?c1 ?c2 ?c3 ?c4 ?c5 ?_)
          case c1 =>
            intro i u hi'
            match i, hi' with
            | 0, hi' => simp at hi'; subst hi'; simp [Addr.add]
          case c2 => intro u hu; simp at hu; subst hu; rfl
          case c3 => unfold maxLen; omega
          case c4 => omega
          case c5 => simp; omega
          intro v' w5 hown' hgrow _
          have hbw5 := (b3.alloc (by omega) (.cells #[.string (T cur)] 9)).grown hgrow (by simp; omega) (fun k' hk' => (hO2.lt _ hk').1)
          go_wp2
          go_roundw
          case rel =>
            refine ⟨k + 1, by omega, ⟨?_, ?_⟩, ?_, hbw5⟩
            · rw [HS3.out]
              have e1 : (ws ++ [cur]).length = ws.length + 1 := by simp
              have e2 : (ws ++ [cur]).map strV = ws.map strV ++ [.string (T cur)] := by simp [strV]
              show w5.ownsRow _ _ _ _ (ws ++ [cur]).length ((ws ++ [cur]).map strV)
              rw [e1, e2]
              exact hown'
            · rw [HS3.out]; rfl
            · first | rfl | go_num
          case measure => simp [intOf]; omega
      · have HL := Lib.hid hl
        clear hl
        have HS3 : RowKit.Hid (wst (fs.take (k + 1)) = (ws, cur ++ [c])) := by
          unfold RowKit.Hid
          rw [HS.out]; unfold wstep; rw [HL.out]; rfl
        clear HS
        have HA := Lib.hid (T_append cur [c])
        go_wp2_with fail
        refine (HD.out _).mono ?_
        rintro e w2 ⟨rfl, b1⟩
        go_wp2_with fail
        refine (HSz.out _).mono ?_
        rintro e w3 ⟨rfl, b2⟩
        have b3 := (hbw.trans (b1.mono hsz)).trans (b2.mono (Nat.le_trans hsz b1.size))
        have HO2 := Lib.hid ((HOwn.out.after b1).after b2)
        clear b1 b2
        go_wp2_with fail
        refine (refLetter_any c (by omega) true HL.out _).mono ?_
        rintro e w4 ⟨rfl, rfl⟩
        have ew : (off fs k : Int) + (wid c : Int) = (off fs (k + 1) : Int) := HSUM.out
        rw [← HCT.out] at s2
        go_wp2
        go_roundw
        case rel =>
          refine ⟨k + 1, by omega, ⟨?_, ?_⟩, ?_, b3⟩
          · rw [HS3.out]; exact HO2.out
          · rw [HS3.out, HCT.out, HA.out]
          · first | rfl | go_num
        case measure => simp [intOf]; omega
    · obtain rfl : k = fs.length := by omega
      have hof := T_off fs
      have hnl : ¬ (off fs fs.length < (T fs).size) := by omega
      clear hof
      have htl : fs.take fs.length = fs := List.take_length
      rw [htl] at hown hwt hwl
      rw [htl]
      clear htl
      obtain ⟨ws, cur, hst⟩ : ∃ ws cur, wst fs = (ws, cur) := ⟨_, _, rfl⟩
      rw [hst] at hown hwt hwl
      rw [hst]
      have HST := Lib.hid hst
      clear hst
      simp only at hown hwt hwl
      have hwn : ws.length ≤ 20000 := by omega
      clear hwt hwl
      by_cases hne : cur = []
      · subst hne
        rw [show T [] = ⟨#[]⟩ from rfl]
        have HOwn := Lib.hid hown
        clear hown
        go_wp2
        go_ret
        refine ⟨_, rfl, ?_, hbw⟩
        rw [HST.out]
        exact HOwn.out
      · have HNE := Lib.hid hne
        obtain ⟨f1, f2⟩ := T_facts _ hne
        clear hne
        go_wp2_with (at_builtin; refine wpList_append_own _ rfl _ _ 28 rfl w.heap.size 9 i0 (.string ⟨#[]⟩) 1 16 Tryz.underlying28 hi hz0 hz1 hz2 rfl (by decide) _ _ _ rfl (hown.alloc _) ⟨wr.heap.size, 0, none⟩ 1 1 [.string (T cur)] rfl rfl ?c1 ?c2 ?c3 ?c4 ?c5 ?_)
        case c1 =>
          intro i u hi'
          match i, hi' with
          | 0, hi' => simp at hi'; subst hi'; simp [Addr.add]
        case c2 => intro u hu; simp at hu; subst hu; rfl
        case c3 => unfold maxLen; omega
        case c4 => omega
        case c5 => simp; omega
        intro v' w5 hown' hgrow _
        have hbw5 := (hbw.alloc (by omega) (.cells #[.string (T cur)] 9)).grown hgrow (by simp; omega) (fun k' hk' => (hown.lt _ hk').1)
        go_wp2
        go_ret
        refine ⟨_, rfl, ?_, hbw5⟩
        have eF : (flush (ws, cur)).1 = ws ++ [cur] := by unfold flush; rw [if_neg HNE.out]
        rw [HST.out, eF]
        have e1 : (ws ++ [cur]).length = ws.length + 1 := by simp
        have e2 : (ws ++ [cur]).map strV = ws.map strV ++ [.string (T cur)] := by simp [strV]
        show w5.ownsRow _ _ _ _ (ws ++ [cur]).length ((ws ++ [cur]).map strV)
        rw [e1, e2]
        exact hown'
end

end Go.Proofs.YtmcolapcmjdoeaaGreatDoor
