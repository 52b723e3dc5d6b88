/- Merged: RWords, RJoin, RClip, R05A. -/
import Derived.Test.YtfjfpefpdlecbaaGreatDoorQ09
import Derived.Test.YtfjfpefpdlecbaaGreatDoorQ08
import Derived.Test.YtfjfpefpdlecbaaGreatDoorQ02
namespace Go.Proofs.YtfjfpefpdlecbaaGreatDoor

section
open Go.RowKit
/-- What the loop of the reference's Words has at place k. -/
def RAt (fs : List Nat) (k B : Nat) (v wd : Value) (w : World) : Prop := Strs B v (wst (fs.take k)).1 w ∧ wd = .string (T (wst (fs.take k)).2)

set_option maxHeartbeats 8000000 in
theorem refWords_any (cs : List Nat) (h : OKs cs) (s : ByteArray) (hs : s = T cs) (hz : cs.length ≤ 10000) (w : World) :
    Calls Tryz.prog 66 #[.string s] w fun e w' => ∃ v, e = .returned v ∧ Strs w.heap.size v (W cs) w' ∧ Below w.heap.size w w' := by
  have hsz0 : s.size ≤ 1000000 := by subst hs; have := T_bound cs; omega
  have cF := refFoldL_any cs h s _ hs hsz0 rfl w
  clear hs hsz0
  have hF := fold_OK cs h
  have hfl := fold_len cs
  have eW : W cs = (flush (wst (foldL cs))).1 := rfl
  rw [eW]
  clear eW
  generalize foldL cs = fs at cF hF hfl
  have hTz : (T fs).size ≤ 1000000 := by have := T_bound fs; omega
  have HF := Lib.hid hF
  clear hF h
  obtain ⟨i0, hi, hz0, hz1, hz2⟩ := info_parts infoStr
  go_enter Tryz.func66, Tryz.ntmps66
  go_wp2_with fail
  refine cF.mono ?_
  rintro e w1 ⟨rfl, hb⟩
  clear cF
  have hB1 := hb.size
  go_wp2
  go_loopw [3, 4, 5] (fun v wd i wr => ∃ k : Nat, k ≤ fs.length ∧ RAt fs k w.heap.size v wd wr ∧ i = .int .i64 (off fs k) ∧ Below w.heap.size w wr) (fun _ _ i _ => (T fs).size - (intOf i).toNat)
  case atStart => exact ⟨0, Nat.zero_le _, ⟨World.ownsRow_nil _ _ _ _, rfl⟩, by rw [off_zero]; rfl, hb⟩
  case round =>
    obtain ⟨k, hk, ⟨hown, rfl⟩, rfl, hbw⟩ := hrel
    have hsz := hbw.size
    have hole := off_le fs k
    have hwt := wst_total (fs.take k)
    have hwl := len_total (wst (fs.take k)).1
    have hl3 : (fs.take k).length ≤ k := List.length_take_le _ _
    by_cases hlt : k < fs.length
    · have hol := off_lt fs k hlt
      have hoj := off_inj fs k (k + 1) (by omega) (by omega)
      have hole2 := off_le fs (k + 1)
      have hoj2 : off fs k ≤ off fs (k + 1) := by omega
      have HD := Lib.hid (fun W => decode_refT fs HF.out hTz k hlt W)
      have HSz := Lib.hid (fun W => size_refT fs HF.out hTz k hlt W)
      have hwp := wid_pos fs[k]
      have hok := okc_le (OKs_get HF.out hlt)
      have HOS := Lib.hid (off_succ fs k hlt)
      have HCT := Lib.hid (cut_T fs k hlt)
      have HS := Lib.hid (wst_take fs k hlt)
      have hb2 := T_bound [fs[k]]
      have hb1 := T_bound (wst (fs.take k)).2
      generalize fs[k] = c at HD HSz hwp HOS hok HS HCT hb2
      have HSUM : RowKit.Hid ((off fs k : Int) + (wid c : Int) = (off fs (k + 1) : Int)) := by unfold RowKit.Hid; have := HOS.out; omega
      obtain ⟨ws, cur, hst⟩ : ∃ ws cur, wst (fs.take k) = (ws, cur) := ⟨_, _, rfl⟩
      rw [hst] at hown hwt hwl HS hb1
      rw [hst]
      clear hst
      simp only [List.length_singleton] at hown hwt hwl hb1 hb2
      have s1 : (T cur).size ≤ 8000000 := by omega
      have s2 : (T [c]).size ≤ 4 := by omega
      have hwn : ws.length ≤ 20000 := by omega
      clear hb1 hb2 hwt hwl
      have HOwn := Lib.hid hown
      clear hown
      cases hl : letterc c
      · have HL := Lib.hid hl
        clear hl
        have HS2 : RowKit.Hid (wst (fs.take (k + 1)) = flush (ws, cur)) := by
          unfold RowKit.Hid
          rw [HS.out]; unfold wstep; rw [HL.out]; rfl
        by_cases hne : cur = []
        · subst hne
          have HS3 : RowKit.Hid (wst (fs.take (k + 1)) = (ws, [])) := by unfold RowKit.Hid; rw [HS2.out]; rfl
          clear HS2 HS
          rw [show T [] = ⟨#[]⟩ from rfl]
          go_wp2_with fail
          refine (HD.out _).mono ?_
          rintro e w2 ⟨rfl, b1⟩
          go_wp2_with fail
          refine (HSz.out _).mono ?_
          rintro e w3 ⟨rfl, b2⟩
          have b3 := (hbw.trans (b1.mono hsz)).trans (b2.mono (Nat.le_trans hsz b1.size))
          have HO2 := Lib.hid ((HOwn.out.after b1).after b2)
          clear b1 b2
          go_wp2_with fail
          refine (refLetter_any c (by omega) false HL.out _).mono ?_
          rintro e w4 ⟨rfl, rfl⟩
          have ew : (off fs k : Int) + (wid c : Int) = (off fs (k + 1) : Int) := HSUM.out
          go_wp2
          go_roundw
          case rel =>
            refine ⟨k + 1, by omega, ⟨?_, ?_⟩, ?_, b3⟩
            · rw [HS3.out]; exact HO2.out
            · rw [HS3.out]; rfl
            · first | rfl | go_num
          case measure => simp [intOf]; omega
        · have HS3 : RowKit.Hid (wst (fs.take (k + 1)) = (ws ++ [cur], [])) := by unfold RowKit.Hid; rw [HS2.out]; unfold flush; rw [if_neg hne]
          clear HS2 HS
          obtain ⟨f1, f2⟩ := T_facts _ hne
          clear hne
          go_wp2_with fail
          refine (HD.out _).mono ?_
          rintro e w2 ⟨rfl, b1⟩
          go_wp2_with fail
          refine (HSz.out _).mono ?_
          rintro e w3 ⟨rfl, b2⟩
          have b3 := (hbw.trans (b1.mono hsz)).trans (b2.mono (Nat.le_trans hsz b1.size))
          have hO2 := (HOwn.out.after b1).after b2
          clear b1 b2
          go_wp2_with fail
          refine (refLetter_any c (by omega) false HL.out _).mono ?_
          rintro e w4 ⟨rfl, rfl⟩
          have ew : (off fs k : Int) + (wid c : Int) = (off fs (k + 1) : Int) := HSUM.out
          have hs3 := b3.size
          go_wp2_with (at_builtin; refine wpList_append_own _ rfl _ _ 36 rfl w.heap.size 9 i0 (.string ⟨#[]⟩) 1 16 Tryz.underlying36 hi hz0 hz1 hz2 rfl (by decide) _ _ _ rfl (hO2.alloc _) ⟨w3.heap.size, 0, none⟩ 1 1 [.string (T cur)] rfl rfl ?c1 ?c2 ?c3 ?c4 ?c5 ?_)
          case c1 =>
            intro i u hi'
            match i, hi' with
            | 0, hi' => simp at hi'; subst hi'; simp [Addr.add]
          case c2 => intro u hu; simp at hu; subst hu; rfl
          case c3 => unfold maxLen; omega
          case c4 => omega
          case c5 => simp; omega
          intro v' w5 hown' hgrow _
          have hbw5 := (b3.alloc (by omega) (.cells #[.string (T cur)] 9)).grown hgrow (by simp; omega) (fun k' hk' => (hO2.lt _ hk').1)
          go_wp2
          go_roundw
          case rel =>
            refine ⟨k + 1, by omega, ⟨?_, ?_⟩, ?_, hbw5⟩
            · rw [HS3.out]
              have e1 : (ws ++ [cur]).length = ws.length + 1 := by simp
              have e2 : (ws ++ [cur]).map strV = ws.map strV ++ [.string (T cur)] := by simp [strV]
              show w5.ownsRow _ _ _ _ (ws ++ [cur]).length ((ws ++ [cur]).map strV)
              rw [e1, e2]
              exact hown'
            · rw [HS3.out]; rfl
            · first | rfl | go_num
          case measure => simp [intOf]; omega
      · have HL := Lib.hid hl
        clear hl
        have HS3 : RowKit.Hid (wst (fs.take (k + 1)) = (ws, cur ++ [c])) := by
          unfold RowKit.Hid
          rw [HS.out]; unfold wstep; rw [HL.out]; rfl
        clear HS
        have HA := Lib.hid (T_append cur [c])
        go_wp2_with fail
        refine (HD.out _).mono ?_
        rintro e w2 ⟨rfl, b1⟩
        go_wp2_with fail
        refine (HSz.out _).mono ?_
        rintro e w3 ⟨rfl, b2⟩
        have b3 := (hbw.trans (b1.mono hsz)).trans (b2.mono (Nat.le_trans hsz b1.size))
        have HO2 := Lib.hid ((HOwn.out.after b1).after b2)
        clear b1 b2
        go_wp2_with fail
        refine (refLetter_any c (by omega) true HL.out _).mono ?_
        rintro e w4 ⟨rfl, rfl⟩
        have ew : (off fs k : Int) + (wid c : Int) = (off fs (k + 1) : Int) := HSUM.out
        rw [← HCT.out] at s2
        go_wp2
        go_roundw
        case rel =>
          refine ⟨k + 1, by omega, ⟨?_, ?_⟩, ?_, b3⟩
          · rw [HS3.out]; exact HO2.out
          · rw [HS3.out, HCT.out, HA.out]
          · first | rfl | go_num
        case measure => simp [intOf]; omega
    · obtain rfl : k = fs.length := by omega
      have hof := T_off fs
      have hnl : ¬ (off fs fs.length < (T fs).size) := by omega
      clear hof
      have htl : fs.take fs.length = fs := List.take_length
      rw [htl] at hown hwt hwl
      rw [htl]
      clear htl
      obtain ⟨ws, cur, hst⟩ : ∃ ws cur, wst fs = (ws, cur) := ⟨_, _, rfl⟩
      rw [hst] at hown hwt hwl
      rw [hst]
      have HST := Lib.hid hst
      clear hst
      simp only at hown hwt hwl
      have hwn : ws.length ≤ 20000 := by omega
      clear hwt hwl
      by_cases hne : cur = []
      · subst hne
        rw [show T [] = ⟨#[]⟩ from rfl]
        have HOwn := Lib.hid hown
        clear hown
        go_wp2
        go_ret
        refine ⟨_, rfl, ?_, hbw⟩
        rw [HST.out]
        exact HOwn.out
      · have HNE := Lib.hid hne
        obtain ⟨f1, f2⟩ := T_facts _ hne
        clear hne
        go_wp2_with (at_builtin; refine wpList_append_own _ rfl _ _ 36 rfl w.heap.size 9 i0 (.string ⟨#[]⟩) 1 16 Tryz.underlying36 hi hz0 hz1 hz2 rfl (by decide) _ _ _ rfl (hown.alloc _) ⟨wr.heap.size, 0, none⟩ 1 1 [.string (T cur)] rfl rfl ?c1 ?c2 ?c3 ?c4 ?c5 ?_)
        case c1 =>
          intro i u hi'
          match i, hi' with
          | 0, hi' => simp at hi'; subst hi'; simp [Addr.add]
        case c2 => intro u hu; simp at hu; subst hu; rfl
        case c3 => unfold maxLen; omega
        case c4 => omega
        case c5 => simp; omega
        intro v' w5 hown' hgrow _
        have hbw5 := (hbw.alloc (by omega) (.cells #[.string (T cur)] 9)).grown hgrow (by simp; omega) (fun k' hk' => (hown.lt _ hk').1)
        go_wp2
        go_ret
        refine ⟨_, rfl, ?_, hbw5⟩
        have eF : (flush (ws, cur)).1 = ws ++ [cur] := by unfold flush; rw [if_neg HNE.out]
        rw [HST.out, eF]
        have e1 : (ws ++ [cur]).length = ws.length + 1 := by simp
        have e2 : (ws ++ [cur]).map strV = ws.map strV ++ [.string (T cur)] := by simp [strV]
        show w5.ownsRow _ _ _ _ (ws ++ [cur]).length ((ws ++ [cur]).map strV)
        rw [e1, e2]
        exact hown'
end

section
open Go.RowKit
theorem total_take (ws : List (List Nat)) (k : Nat) (h : k < ws.length) : total (ws.take (k + 1)) = total (ws.take k) + ws[k].length + 1 := by
  rw [List.take_succ_eq_append_getElem h, total_snoc]

theorem total_take_le (ws : List (List Nat)) (k : Nat) : total (ws.take k) ≤ total ws := by
  have : ws = ws.take k ++ ws.drop k := (List.take_append_drop k ws).symm
  conv => rhs; rw [this]
  unfold total
  rw [List.map_append, List.sum_append]
  omega

theorem join_take (ws : List (List Nat)) (k : Nat) (h : k < ws.length) : joinL (ws.take (k + 1)) = if k = 0 then ws[k] else joinL (ws.take k) ++ [32] ++ ws[k] := by
  rw [List.take_succ_eq_append_getElem h, joinL_snoc]
  by_cases hk : k = 0
  · subst hk; rfl
  · rw [if_neg hk, if_neg]
    intro e
    have := congrArg List.length e
    rw [List.length_take, List.length_nil] at this
    omega

set_option maxHeartbeats 4000000 in
theorem join_any (B : Nat) (v : Value) (ws : List (List Nat)) (ht : total ws ≤ 4000000) (w : World) (hv : Strs B v ws w) :
    Calls Tryz.prog 65 #[v, .string ⟨#[32]⟩] w fun e w' => e = .returned (.string (T (joinL ws))) ∧ w = w' := by
  have hl := len_total ws
  by_cases hne : ws = []
  · subst hne
    obtain ⟨ao, ca, rfl⟩ := hv.form
    clear hv
    have e0 : T (joinL []) = ⟨#[]⟩ := rfl
    rw [e0]
    clear e0
    go_enter Tryz.func65, Tryz.ntmps65
    go_wp2
    go_loop [5, 6] (fun o i => o = .string ⟨#[]⟩ ∧ i = .int .i64 0) (fun _ _ => 0)
    case atStart => exact ⟨rfl, rfl⟩
    case round =>
      obtain ⟨rfl, rfl⟩ := hrel
      go_wp2
      go_ret
      exact ⟨rfl, rfl⟩
  · obtain ⟨ga, ca, rfl, _, hga, hca, hma, hcella⟩ := hv.open hne
    clear hv
    unfold maxLen at hma
    have HA := Lib.hid hcella
    clear hcella
    obtain ⟨N, hN⟩ : ∃ N, ws.length = N := ⟨_, rfl⟩
    have hl2 : N ≤ 4000000 := by omega
    have HT := Lib.hid ht
    clear ht hl
    rw [hN] at hca ⊢
    have HN := Lib.hid hN
    clear hN hne
    have t32 : (⟨#[32]⟩ : ByteArray) = T [32] := by kernel_rfl
    rw [t32]
    clear t32
    go_enter Tryz.func65, Tryz.ntmps65
    go_wp2
    go_loop [5, 6] (fun o i => ∃ k : Nat, k ≤ N ∧ i = .int .i64 k ∧ o = .string (T (joinL (ws.take k)))) (fun _ i => N - (intOf i).toNat)
    case atStart => exact ⟨0, Nat.zero_le _, rfl, rfl⟩
    case round =>
      obtain ⟨k, hk, rfl, rfl⟩ := hrel
      by_cases hlt : k < N
      · have hkw : k < ws.length := by have := HN.out; omega
        have c1 : w.cell? ⟨ga, k, none⟩ = some (.string (T ws[k])) := HA.out k hkw
        have i1 : (0 : Int) ≤ (k : Int) := by omega
        have i2 : (k : Int) < (N : Int) := by omega
        have HJ := Lib.hid (join_take ws k hkw)
        have hb1 := T_bound (joinL (ws.take k))
        have hb2 := T_bound ws[k]
        have hb3 := join_total (ws.take k)
        have hb4 := total_take ws k hkw
        have hb5 := total_take_le ws (k + 1)
        have hb6 : total ws ≤ 4000000 := HT.out
        have hs1 : (T (joinL (ws.take k))).size ≤ 16000000 := by omega
        have hs2 : (T ws[k]).size ≤ 16000000 := by omega
        have hs3 : (T [32]).size ≤ 1 := by decide
        clear hb1 hb2 hb3 hb4 hb5 hb6
        have HA1 := Lib.hid (T_append (joinL (ws.take k)) [32])
        have HA2 := Lib.hid (T_append (joinL (ws.take k) ++ [32]) ws[k])
        have HA3 := Lib.hid (T_append (joinL (ws.take k)) ws[k])
        by_cases hk0 : k = 0
        · have HK := Lib.hid hk0
          have d0 : ¬ (0 < k) := by omega
          clear hk0
          go_wp2
          go_round
          case rel =>
            refine ⟨k + 1, by omega, by go_num, ?_⟩
            have e0 : joinL (ws.take k) = [] := by rw [HK.out]; rfl
            rw [HJ.out, if_pos HK.out, HA3.out, e0]
            rfl
          case measure => simp [intOf]; omega
        · have hkp : 0 < k := by omega
          go_wp2
          go_round
          case rel =>
            refine ⟨k + 1, by omega, by go_num, ?_⟩
            rw [HJ.out, if_neg hk0, ← HA2.out, ← HA1.out]
          case measure => simp [intOf]; omega
      · obtain rfl : k = N := by omega
        have htk : ws.take k = ws := by rw [← HN.out, List.take_length]
        rw [htk]
        clear htk
        go_wp2
        go_ret
        exact ⟨rfl, rfl⟩
end

section
open Go.RowKit
set_option maxHeartbeats 2000000 in
theorem refClip_any (cs : List Nat) (h : OKs cs) (s t : ByteArray) (hs : s = T cs) (hz : s.size ≤ 1000000) (n : Int) (hn0 : -9223372036854775808 ≤ n) (hn1 : n ≤ 9223372036854775807) (ht : T (cs.take n.toNat) = t) (w : World) :
    Calls Tryz.prog 68 #[.string s, .int .i64 n] w fun e w' => e = .returned (.string t) ∧ Below w.heap.size w w' := by
  subst hs
  have hll := len_le cs
  have HTT := Lib.hid ht
  clear ht
  have HH := Lib.hid h
  clear h
  go_enter Tryz.func68, Tryz.ntmps68
  go_wp2
  go_loopw [1, 5] (fun m i wr => ∃ k : Nat, k ≤ cs.length ∧ k ≤ n.toNat ∧ m = .int .i64 (n - k) ∧ i = .int .i64 (off cs k) ∧ Below w.heap.size w wr) (fun m _ _ => (intOf m).toNat)
  case atStart => exact ⟨0, Nat.zero_le _, Nat.zero_le _, by simp, by rw [off_zero]; rfl, Below.refl _ _⟩
  case round =>
    obtain ⟨k, hk, hkn, rfl, rfl, hbw⟩ := hrel
    have hsz := hbw.size
    have hole := off_le cs k
    have HEX := Lib.hid (extract_T0 cs k)
    by_cases hlt : k < cs.length
    · have hol := off_lt cs k hlt
      have cS := size_refT cs HH.out hz k hlt wr
      have hwp := wid_pos cs[k]
      have HOS := Lib.hid (off_succ cs k hlt)
      generalize cs[k] = c at cS hwp HOS
      by_cases hnk : (k : Int) < n
      · have d1 : decide ((0 : Int) < n - (k : Int)) = true := by simp; omega
        go_wp2_with fail
        refine cS.mono ?_
        rintro e w1 ⟨rfl, b1⟩
        have b2 := hbw.trans (b1.mono hsz)
        clear b1
        go_wp2
        go_roundw
        case rel => exact ⟨k + 1, by omega, by omega, by simp; omega, by rw [HOS.out]; go_num, b2⟩
        case measure => simp [intOf]; omega
      · have d1 : decide ((0 : Int) < n - (k : Int)) = false := by simp; omega
        have HKN := Lib.hid hnk
        clear hnk cS
        go_wp2
        go_ret
        refine ⟨?_, hbw⟩
        rw [← HTT.out, HEX.out, show n.toNat = k by have := HKN.out; omega]
        rfl
    · obtain rfl : k = cs.length := by omega
      have hof := T_off cs
      have hnl : ¬ (off cs cs.length < (T cs).size) := by omega
      clear hof
      go_wp2
      go_ret
      refine ⟨?_, hbw⟩
      rw [← HTT.out, HEX.out, List.take_length, List.take_of_length_le (by omega)]
      rfl
end

section
open Go.RowKit Go.PlainAid
theorem all_getD5 (l : List UInt8) (p : UInt8 → Bool) : l.all p = true ↔ ∀ i, i < l.length → p (l.getD i 0) = true := by
  rw [List.all_eq_true]
  constructor
  · intro h i hi
    rw [List.getD_eq_getElem?_getD, List.getElem?_eq_getElem hi]
    exact h _ (List.getElem_mem hi)
  · intro h x hx
    obtain ⟨i, hi, rfl⟩ := List.getElem_of_mem hx
    have := h i hi
    rwa [List.getD_eq_getElem?_getD, List.getElem?_eq_getElem hi] at this

set_option maxHeartbeats 8000000 in
theorem refDigs_any (l : List UInt8) (hz : l.length ≤ 1000000) (b : Bool) (hb : l.all dgB5 = b) (w : World) :
    Calls Tryz.prog 97 #[.string (S l)] w fun e w' => e = .returned (.bool b) ∧ w' = w := by
  have hbt := get_bt (S l)
  obtain ⟨n, hn⟩ : ∃ n, l.length = n := ⟨_, rfl⟩
  have hsz : (S l).size = n := by rw [S_size, hn]
  obtain ⟨j, hj, hg, hbad⟩ : ∃ j, j ≤ n ∧ (∀ i, i < j → dgB5 (l.getD i 0) = true) ∧ (j < n → dgB5 (l.getD j 0) = false) := by
    rcases first_bad (fun i => dgB5 (l.getD i 0)) n with h | ⟨j, hj, h1, h2⟩
    · exact ⟨n, Nat.le_refl _, h, fun h => by omega⟩
    · exact ⟨j, by omega, h1, fun _ => h2⟩
  have hbb : b = decide (j = n) := by
    rw [← hb]
    by_cases h : j = n
    · rw [decide_eq_true h, all_getD5]
      intro i hi
      exact hg i (by omega)
    · rw [decide_eq_false h]
      cases ha : l.all dgB5
      · rfl
      · have := (all_getD5 l dgB5).1 ha j (by omega)
        rw [hbad (by omega)] at this
        cases this
  have HG := Lib.hid hg
  have HB := Lib.hid hbad
  have HBB := Lib.hid hbb
  have hbs := fun i => bt_S l i
  have HBS := Lib.hid hbs
  rw [hn] at hz
  clear hg hbad hbb hbs hn hb
  generalize S l = s at *
  go_enter Tryz.func97, Tryz.ntmps97
  go_wp2
  go_loopw [3] (fun i wr => ∃ k : Nat, k ≤ j ∧ i = .int .i64 (k : Int) ∧ wr = w) (fun i _ => j - (intOf i).toNat)
  case atStart => exact ⟨0, Nat.zero_le _, rfl, rfl⟩
  case round =>
    obtain ⟨k, hk, rfl, rfl⟩ := hrel
    by_cases hkn : k < n
    · have hki : (k : Int) < (n : Int) := by omega
      have hbk := HBS.out k
      by_cases hlt : k < j
      · have hd := (dgB5_iff _).1 (HG.out k hlt)
        have t1 : decide (bt s k < 48) = false := decide_eq_false (by omega)
        have t2 : decide (57 < bt s k) = false := decide_eq_false (by omega)
        clear hbk hd
        go_wp2
        go_roundw
        case rel => exact ⟨k + 1, by omega, by go_num, trivial⟩
        case measure => simp [intOf]; omega
      · obtain rfl : k = j := by omega
        have hd := HB.out hkn
        obtain rfl : b = false := by rw [HBB.out]; exact decide_eq_false (by omega)
        by_cases h0 : bt s k < 48
        · have t1 : decide (bt s k < 48) = true := decide_eq_true h0
          clear hbk hd
          go_wp2
          go_ret
          exact ⟨rfl, rfl⟩
        · have t1 : decide (bt s k < 48) = false := decide_eq_false h0
          have t2 : decide (57 < bt s k) = true := by
            refine decide_eq_true ?_
            rcases Int.lt_or_le 57 (bt s k) with h | h
            · exact h
            · have : dgB5 (l.getD k 0) = true := (dgB5_iff _).2 (by omega)
              rw [this] at hd
              cases hd
          clear hbk hd
          go_wp2
          go_ret
          exact ⟨rfl, rfl⟩
    · obtain rfl : k = n := by omega
      obtain rfl : j = k := by omega
      obtain rfl : b = true := by rw [HBB.out]; exact decide_eq_true rfl
      go_wp2
      go_ret
      exact ⟨rfl, rfl⟩

set_option maxHeartbeats 4000000 in
theorem refdigit5_any (n : Nat) (hn : n ≤ 9) (w : World) :
    Calls Tryz.prog 101 #[.int .i64 (n : Int)] w fun e w' => e = .returned (.string (S [dgt n])) ∧ Below w.heap.size w w' := by
  have hB := (Byt.one w (dgt n)).str
  have hu : u8V (dgt n) = .int .u8 (48 + (n : Int)) := by unfold u8V; rw [dgt_nat n hn]; congr 1
  rw [hu] at hB
  go_enter Tryz.func101, Tryz.ntmps101
  go_wp2
  go_ret
  exact ⟨rfl, (Below.refl _ w).alloc (Nat.le_refl _) _⟩
end

end Go.Proofs.YtfjfpefpdlecbaaGreatDoor
