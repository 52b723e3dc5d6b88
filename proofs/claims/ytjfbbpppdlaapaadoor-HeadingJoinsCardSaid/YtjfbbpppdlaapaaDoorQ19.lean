/- Merged: RWords, RValid. -/
import Derived.Test.YtjfbbpppdlaapaaDoorQ18
import Derived.Test.YtjfbbpppdlaapaaDoorQ07
import Derived.Test.YtjfbbpppdlaapaaDoorQ14
namespace Go.Proofs.YtjfbbpppdlaapaaDoor

section
open Go.RowKit
/-- What the loop of the reference's Words has at place k. -/
def RAt (fs : List Nat) (k B : Nat) (v wd : Value) (w : World) : Prop := Strs B v (wst (fs.take k)).1 w ∧ wd = .string (T (wst (fs.take k)).2)

set_option maxHeartbeats 8000000 in
theorem refWords_any (cs : List Nat) (h : OKs cs) (s : ByteArray) (hs : s = T cs) (hz : cs.length ≤ 10000) (w : World) :
    Calls Tryd.prog 37 #[.string s] w fun e w' => ∃ v, e = .returned v ∧ Strs w.heap.size v (W cs) w' ∧ Below w.heap.size w w' := by
  have hsz0 : s.size ≤ 1000000 := by subst hs; have := T_bound cs; omega
  have cF := refFoldL_any cs h s _ hs hsz0 rfl w
  clear hs hsz0
  have hF := fold_OK cs h
  have hfl := fold_len cs
  have eW : W cs = (flush (wst (foldL cs))).1 := rfl
  rw [eW]
  clear eW
  generalize foldL cs = fs at cF hF hfl
  have hTz : (T fs).size ≤ 1000000 := by have := T_bound fs; omega
  have HF := Lib.hid hF
  clear hF h
  obtain ⟨i0, hi, hz0, hz1, hz2⟩ := info_parts infoStr
  go_enter Tryd.func37, Tryd.ntmps37
  go_wp2_with fail
  refine cF.mono ?_
  rintro e w1 ⟨rfl, hb⟩
  clear cF
  have hB1 := hb.size
  go_wp2
  go_loopw [3, 4, 5] (fun v wd i wr => ∃ k : Nat, k ≤ fs.length ∧ RAt fs k w.heap.size v wd wr ∧ i = .int .i64 (off fs k) ∧ Below w.heap.size w wr) (fun _ _ i _ => (T fs).size - (intOf i).toNat)
  case atStart => exact ⟨0, Nat.zero_le _, ⟨World.ownsRow_nil _ _ _ _, rfl⟩, by rw [off_zero]; rfl, hb⟩
  case round =>
    obtain ⟨k, hk, ⟨hown, rfl⟩, rfl, hbw⟩ := hrel
    have hsz := hbw.size
    have hole := off_le fs k
    have hwt := wst_total (fs.take k)
    have hwl := len_total (wst (fs.take k)).1
    have hl3 : (fs.take k).length ≤ k := List.length_take_le _ _
    by_cases hlt : k < fs.length
    · have hol := off_lt fs k hlt
      have hoj := off_inj fs k (k + 1) (by omega) (by omega)
      have hole2 := off_le fs (k + 1)
      have hoj2 : off fs k ≤ off fs (k + 1) := by omega
      have HD := Lib.hid (fun W => decode_refT fs HF.out hTz k hlt W)
      have HSz := Lib.hid (fun W => size_refT fs HF.out hTz k hlt W)
      have hwp := wid_pos fs[k]
      have hok := okc_le (OKs_get HF.out hlt)
      have HOS := Lib.hid (off_succ fs k hlt)
      have HCT := Lib.hid (cut_T fs k hlt)
      have HS := Lib.hid (wst_take fs k hlt)
      have hb2 := T_bound [fs[k]]
      have hb1 := T_bound (wst (fs.take k)).2
      generalize fs[k] = c at HD HSz hwp HOS hok HS HCT hb2
      have HSUM : RowKit.Hid ((off fs k : Int) + (wid c : Int) = (off fs (k + 1) : Int)) := by unfold RowKit.Hid; have := HOS.out; omega
      obtain ⟨ws, cur, hst⟩ : ∃ ws cur, wst (fs.take k) = (ws, cur) := ⟨_, _, rfl⟩
      rw [hst] at hown hwt hwl HS hb1
      rw [hst]
      clear hst
      simp only [List.length_singleton] at hown hwt hwl hb1 hb2
      have s1 : (T cur).size ≤ 8000000 := by omega
      have s2 : (T [c]).size ≤ 4 := by omega
      have hwn : ws.length ≤ 20000 := by omega
      clear hb1 hb2 hwt hwl
      have HOwn := Lib.hid hown
      clear hown
      cases hl : letterc c
      · have HL := Lib.hid hl
        clear hl
        have HS2 : RowKit.Hid (wst (fs.take (k + 1)) = flush (ws, cur)) := by
          unfold RowKit.Hid
          rw [HS.out]; unfold wstep; rw [HL.out]; rfl
        by_cases hne : cur = []
        · subst hne
          have HS3 : RowKit.Hid (wst (fs.take (k + 1)) = (ws, [])) := by unfold RowKit.Hid; rw [HS2.out]; rfl
          clear HS2 HS
          rw [show T [] = ⟨#[]⟩ from rfl]
          go_wp2_with fail
          refine (HD.out _).mono ?_
          rintro e w2 ⟨rfl, b1⟩
          go_wp2_with fail
          refine (HSz.out _).mono ?_
          rintro e w3 ⟨rfl, b2⟩
          have b3 := (hbw.trans (b1.mono hsz)).trans (b2.mono (Nat.le_trans hsz b1.size))
          have HO2 := Lib.hid ((HOwn.out.after b1).after b2)
          clear b1 b2
          go_wp2_with fail
          refine (refLetter_any c (by omega) false HL.out _).mono ?_
          rintro e w4 ⟨rfl, rfl⟩
          have ew : (off fs k : Int) + (wid c : Int) = (off fs (k + 1) : Int) := HSUM.out
          go_wp2
          go_roundw
          case rel =>
            refine ⟨k + 1, by omega, ⟨?_, ?_⟩, ?_, b3⟩
            · rw [HS3.out]; exact HO2.out
            · rw [HS3.out]; rfl
            · first | rfl | go_num
          case measure => simp [intOf]; omega
        · have HS3 : RowKit.Hid (wst (fs.take (k + 1)) = (ws ++ [cur], [])) := by unfold RowKit.Hid; rw [HS2.out]; unfold flush; rw [if_neg hne]
          clear HS2 HS
          obtain ⟨f1, f2⟩ := T_facts _ hne
          clear hne
          go_wp2_with fail
          refine (HD.out _).mono ?_
          rintro e w2 ⟨rfl, b1⟩
          go_wp2_with fail
          refine (HSz.out _).mono ?_
          rintro e w3 ⟨rfl, b2⟩
          have b3 := (hbw.trans (b1.mono hsz)).trans (b2.mono (Nat.le_trans hsz b1.size))
          have hO2 := (HOwn.out.after b1).after b2
          clear b1 b2
          go_wp2_with fail
          refine (refLetter_any c (by omega) false HL.out _).mono ?_
          rintro e w4 ⟨rfl, rfl⟩
          have ew : (off fs k : Int) + (wid c : Int) = (off fs (k + 1) : Int) := HSUM.out
          have hs3 := b3.size
          go_wp2_with (at_builtin; refine wpList_append_own _ rfl _ _ 25 rfl w.heap.size 9 i0 (.string ⟨#[]⟩) 1 16 Tryd.underlying25 hi hz0 hz1 hz2 rfl (by decide) _ _ _ rfl (hO2.alloc _) ⟨w3.heap.size, 0, none⟩ 1 1 [.string (T cur)] rfl rfl ?c1 ?c2 ?c3 ?c4 ?c5 ?_)
          case c1 =>
            intro i u hi'
            match i, hi' with
            | 0, hi' => simp at hi'; subst hi'; simp [Addr.add]
          case c2 => intro u hu; simp at hu; subst hu; rfl
          case c3 => unfold maxLen; omega
          case c4 => omega
          case c5 => simp; omega
          intro v' w5 hown' hgrow _
          have hbw5 := (b3.alloc (by omega) (.cells #[.string (T cur)] 9)).grown hgrow (by simp; omega) (fun k' hk' => (hO2.lt _ hk').1)
          go_wp2
          go_roundw
          case rel =>
            refine ⟨k + 1, by omega, ⟨?_, ?_⟩, ?_, hbw5⟩
            · rw [HS3.out]
              have e1 : (ws ++ [cur]).length = ws.length + 1 := by simp
              have e2 : (ws ++ [cur]).map strV = ws.map strV ++ [.string (T cur)] := by simp [strV]
              show w5.ownsRow _ _ _ _ (ws ++ [cur]).length ((ws ++ [cur]).map strV)
              rw [e1, e2]
              exact hown'
            · rw [HS3.out]; rfl
            · first | rfl | go_num
          case measure => simp [intOf]; omega
      · have HL := Lib.hid hl
        clear hl
        have HS3 : RowKit.Hid (wst (fs.take (k + 1)) = (ws, cur ++ [c])) := by
          unfold RowKit.Hid
          rw [HS.out]; unfold wstep; rw [HL.out]; rfl
        clear HS
        have HA := Lib.hid (T_append cur [c])
        go_wp2_with fail
        refine (HD.out _).mono ?_
        rintro e w2 ⟨rfl, b1⟩
        go_wp2_with fail
        refine (HSz.out _).mono ?_
        rintro e w3 ⟨rfl, b2⟩
        have b3 := (hbw.trans (b1.mono hsz)).trans (b2.mono (Nat.le_trans hsz b1.size))
        have HO2 := Lib.hid ((HOwn.out.after b1).after b2)
        clear b1 b2
        go_wp2_with fail
        refine (refLetter_any c (by omega) true HL.out _).mono ?_
        rintro e w4 ⟨rfl, rfl⟩
        have ew : (off fs k : Int) + (wid c : Int) = (off fs (k + 1) : Int) := HSUM.out
        rw [← HCT.out] at s2
        go_wp2
        go_roundw
        case rel =>
          refine ⟨k + 1, by omega, ⟨?_, ?_⟩, ?_, b3⟩
          · rw [HS3.out]; exact HO2.out
          · rw [HS3.out, HCT.out, HA.out]
          · first | rfl | go_num
        case measure => simp [intOf]; omega
    · obtain rfl : k = fs.length := by omega
      have hof := T_off fs
      have hnl : ¬ (off fs fs.length < (T fs).size) := by omega
      clear hof
      have htl : fs.take fs.length = fs := List.take_length
      rw [htl] at hown hwt hwl
      rw [htl]
      clear htl
      obtain ⟨ws, cur, hst⟩ : ∃ ws cur, wst fs = (ws, cur) := ⟨_, _, rfl⟩
      rw [hst] at hown hwt hwl
      rw [hst]
      have HST := Lib.hid hst
      clear hst
      simp only at hown hwt hwl
      have hwn : ws.length ≤ 20000 := by omega
      clear hwt hwl
      by_cases hne : cur = []
      · subst hne
        rw [show T [] = ⟨#[]⟩ from rfl]
        have HOwn := Lib.hid hown
        clear hown
        go_wp2
        go_ret
        refine ⟨_, rfl, ?_, hbw⟩
        rw [HST.out]
        exact HOwn.out
      · have HNE := Lib.hid hne
        obtain ⟨f1, f2⟩ := T_facts _ hne
        clear hne
        go_wp2_with (at_builtin; refine wpList_append_own _ rfl _ _ 25 rfl w.heap.size 9 i0 (.string ⟨#[]⟩) 1 16 Tryd.underlying25 hi hz0 hz1 hz2 rfl (by decide) _ _ _ rfl (hown.alloc _) ⟨wr.heap.size, 0, none⟩ 1 1 [.string (T cur)] rfl rfl ?c1 ?c2 ?c3 ?c4 ?c5 ?_)
        case c1 =>
          intro i u hi'
          match i, hi' with
          | 0, hi' => simp at hi'; subst hi'; simp [Addr.add]
        case c2 => intro u hu; simp at hu; subst hu; rfl
        case c3 => unfold maxLen; omega
        case c4 => omega
        case c5 => simp; omega
        intro v' w5 hown' hgrow _
        have hbw5 := (hbw.alloc (by omega) (.cells #[.string (T cur)] 9)).grown hgrow (by simp; omega) (fun k' hk' => (hown.lt _ hk').1)
        go_wp2
        go_ret
        refine ⟨_, rfl, ?_, hbw5⟩
        have eF : (flush (ws, cur)).1 = ws ++ [cur] := by unfold flush; rw [if_neg HNE.out]
        rw [HST.out, eF]
        have e1 : (ws ++ [cur]).length = ws.length + 1 := by simp
        have e2 : (ws ++ [cur]).map strV = ws.map strV ++ [.string (T cur)] := by simp [strV]
        show w5.ownsRow _ _ _ _ (ws ++ [cur]).length ((ws ++ [cur]).map strV)
        rw [e1, e2]
        exact hown'
end

section
open Go.RowKit
theorem goodP_allow (p : Nat × Nat) : goodP p ↔ ¬ (p.1 = 65533 ∧ p.2 = 1) ∧ allow p.1 = true := by
  unfold goodP allow
  simp

theorem validT_step (l : List UInt8) (hne : l ≠ []) : validT l = if goodP (Lib.decodeL l) then validT (l.drop (Lib.decodeL l).2) else false := by
  unfold validT
  rw [Lib.validD_step l hne, runes_step l hne, List.all_cons]
  by_cases h1 : (Lib.decodeL l).1 = 65533 ∧ (Lib.decodeL l).2 = 1
  · rw [if_pos h1, if_neg (by rw [goodP_allow]; exact fun h => h.1 h1)]
    rfl
  · rw [if_neg h1]
    cases ha : allow (Lib.decodeL l).1
    · rw [if_neg (by rw [goodP_allow, ha]; exact fun h => absurd h.2 (by simp))]
      simp
    · rw [if_pos ((goodP_allow _).2 ⟨h1, ha⟩)]
      simp

theorem validT_at (s : ByteArray) (p : Nat) (hp : p < s.size) : validT (s.data.toList.drop p) = if goodP (Utf8.decode s p) then validT (s.data.toList.drop (p + (Utf8.decode s p).2)) else false := by
  have hne : s.data.toList.drop p ≠ [] := by
    intro h0
    have := congrArg List.length h0
    rw [List.length_drop, ← Lib.size_eq] at this
    simp at this
    omega
  rw [validT_step _ hne, Lib.decodeL_drop, List.drop_drop]

theorem decode_fits (s : ByteArray) (p : Nat) (hp : p < s.size) : p + (Utf8.decode s p).2 ≤ s.size := by
  have hne : s.data.toList.drop p ≠ [] := by
    intro h0
    have := congrArg List.length h0
    rw [List.length_drop, ← Lib.size_eq] at this
    simp at this
    omega
  have := Lib.decodeL_le _ hne
  rw [Lib.decodeL_drop, List.length_drop, ← Lib.size_eq] at this
  omega

set_option maxHeartbeats 4000000 in
theorem refValid_any (s : ByteArray) (hz : s.size ≤ 1000000) (w : World) :
    Calls Tryd.prog 29 #[.string s] w fun e w' => e = .returned (.bool (validT s.data.toList)) ∧ Below w.heap.size w w' := by
  go_enter Tryd.func29, Tryd.ntmps29
  go_wp2
  go_loopw [3] (fun i wr => ∃ p : Nat, p ≤ s.size ∧ i = .int .i64 p ∧ Below w.heap.size w wr ∧ validT (s.data.toList.drop p) = validT s.data.toList) (fun i _ => s.size - (intOf i).toNat)
  case atStart => exact ⟨0, Nat.zero_le _, rfl, Below.refl _ _, by rw [List.drop_zero]⟩
  case round =>
    obtain ⟨p, hp, rfl, hbw, hall⟩ := hrel
    have HA := Lib.hid hall
    clear hall
    have hsz := hbw.size
    by_cases hlt : p < s.size
    · have cD := decode_ref s p hlt hz wr
      have HV := Lib.hid (validT_at s p hlt)
      have hfit := decode_fits s p hlt
      have hwd := Lib.width_pos s p
      have hpi : (p : Int) < (s.size : Int) := by omega
      by_cases hg : goodP (Utf8.decode s p)
      · have e1 : refDec s p = Utf8.decode s p := by unfold refDec; rw [if_pos hg]
        rw [e1] at cD
        have HG := Lib.hid hg
        clear e1 hg
        generalize Utf8.decode s p = d at cD HV hfit hwd HG
        obtain ⟨c, k⟩ := d
        simp only at cD hfit hwd
        have hk1 : ((k : Int) == 0) = false := by simp; omega
        go_wp2_with fail
        refine cD.mono ?_
        rintro e w1 ⟨rfl, b1⟩
        have b2 := hbw.trans (b1.mono hsz)
        clear b1
        go_wp2
        go_roundw
        case rel =>
          refine ⟨p + k, by omega, by go_num, b2, ?_⟩
          have := HV.out
          rw [if_pos HG.out] at this
          rw [← HA.out, this]
        case measure => simp [intOf]; omega
      · have e1 : refDec s p = (0, 0) := by unfold refDec; rw [if_neg hg]
        rw [e1] at cD
        have HG := Lib.hid hg
        clear e1 hg hfit hwd
        simp only at cD
        go_wp2_with fail
        refine cD.mono ?_
        rintro e w1 ⟨rfl, b1⟩
        have b2 := hbw.trans (b1.mono hsz)
        clear b1
        go_wp2
        go_ret
        refine ⟨?_, b2⟩
        have := HV.out
        rw [if_neg HG.out] at this
        rw [← HA.out, this]
        rfl
    · obtain rfl : p = s.size := by omega
      go_wp2
      go_ret
      refine ⟨?_, hbw⟩
      have := HA.out
      rw [List.drop_eq_nil_of_le (by rw [← Lib.size_eq]; omega)] at this
      rw [← this]
      rfl
end

end Go.Proofs.YtjfbbpppdlaapaaDoor
