/- Merged: R15A, RDecT, RSize, RSizeT. -/
import Derived.Test.YtfjfpefpdlecbaaGreatDoorQ07
import Derived.Test.YtfjfpefpdlecbaaGreatDoorQ06
namespace Go.Proofs.YtfjfpefpdlecbaaGreatDoor

section
open Go.RowKit Go.PlainAid
theorem dig_byte (x : UInt8) : dgB5 x = (decide (48 ≤ x.toNat) && decide (x.toNat ≤ 57)) := rfl
set_option maxHeartbeats 8000000 in
theorem refDigits15_any (l : List UInt8) (hl : l.length ≤ 1000000) (w : World) :
    Calls Tryz.prog 69 #[.string (S l)] w fun e w' => e = .returned (.string (S (digits4 l))) ∧ w' = w := by
  obtain ⟨Q, hQ⟩ : ∃ Q, (fun (e : Ending) (w' : World) => e = .returned (.string (S (digits4 l))) ∧ w' = w) = Q := ⟨_, rfl⟩
  rw [hQ]
  obtain ⟨R, hR⟩ : ∃ R, digits4 l = R := ⟨_, rfl⟩
  have HNo : RowKit.Hid (R = [] → Q (.returned (.string ⟨#[]⟩)) w) := by
    intro h
    rw [← hQ, hR, h]
    exact ⟨rfl, rfl⟩
  have HYes : RowKit.Hid (∀ i, R = (l.drop (i - 4)).take 4 → 4 ≤ i → Q (.returned (.string ((S l).extract (i - 4) i))) w) := by
    intro i h h4
    rw [← hQ, hR, h, S_extract, List.drop_take, show i - (i - 4) = 4 by omega]
    exact ⟨rfl, rfl⟩
  obtain ⟨n, hn⟩ : ∃ n, l.length = n := ⟨_, rfl⟩
  have hsz : (S l).size = n := by rw [S_size, hn]
  have hbt := get_bt (S l)
  have HBS := Lib.hid (fun i => bt_S l i)
  have HStart := Lib.hid ((dig_start l).trans hR)
  have HRun := Lib.hid (fun i c h1 h2 => dig_run l i c h1 (by rw [hn]; exact h2))
  have HFound := Lib.hid (fun i h1 h2 => dig_found l i h1 (by rw [hn]; exact h2))
  have HNone := Lib.hid (fun i c h1 h2 => dig_none l i c h1 (by rw [hn]; exact h2))
  have HLast := Lib.hid (fun c (h : c ≤ n) => dig_end l c (by rw [hn]; exact h))
  have hln : n ≤ 1000000 := by rw [← hn]; exact hl
  rw [hn] at HLast
  clear hQ hR hn hl
  go_enter Tryz.func69, Tryz.ntmps69
  go_wp2
  go_loopw [3, 4] (fun s3 s4 wr => ∃ (c i : Nat), s3 = .int .i64 (c : Int) ∧ s4 = .int .i64 (i : Int) ∧ c ≤ i ∧ i ≤ n + 1 ∧ RowKit.Hid ((i ≤ n ∧ digF ((l.drop (i - c)).take c) (l.drop i) = R) ∨ (i = n + 1 ∧ R = [])) ∧ w = wr) (fun _ s4 _ => n + 1 - (intOf s4).toNat)
  case atStart => exact ⟨0, 0, rfl, rfl, Nat.le_refl _, Nat.zero_le _, .inl ⟨Nat.zero_le _, HStart.out⟩, rfl⟩
  case round =>
    obtain ⟨c, i, rfl, rfl, hci, hin, HI, rfl⟩ := hrel
    clear HStart
    have j1 : (0 : Int) ≤ (i : Int) := by omega
    rcases Nat.lt_trichotomy i n with hlt | heq | hgt
    · have HE : RowKit.Hid (digF ((l.drop (i - c)).take c) (l.drop i) = R) := by
        rcases HI.out with h | h
        · exact h.2
        · omega
      have i2 : (i : Int) < (n : Int) := by omega
      have i2' : i < n := hlt
      have i3 : (i : Int) ≤ (n : Int) := by omega
      have hbk := HBS.out i
      have hm := (l.getD i 0).toNat_lt
      obtain ⟨d, hd⟩ : ∃ d, (l.getD i 0).toNat = d := ⟨_, rfl⟩
      have HD : RowKit.Hid (dgB5 (l.getD i 0) = (decide (48 ≤ d) && decide (d ≤ 57))) := by unfold RowKit.Hid; rw [dig_byte, hd]
      rw [hd] at hbk hm
      clear hd HI
      by_cases hdig : 48 ≤ d ∧ d ≤ 57
      · obtain ⟨d1, d2⟩ := hdig
        have HN : RowKit.Hid (digF ((l.drop (i + 1 - (c + 1))).take (c + 1)) (l.drop (i + 1)) = R) := (HRun.out i c hci i2' (by rw [HD.out, decide_eq_true d1, decide_eq_true d2]; rfl)).symm.trans HE.out
        have u1 : decide ((48 : Int) ≤ (d : Int)) = true := decide_eq_true (by omega)
        have u2 : decide ((d : Int) ≤ 57) = true := decide_eq_true (by omega)
        have u1n : decide (48 ≤ d) = true := decide_eq_true d1
        have u2n : decide (d ≤ 57) = true := decide_eq_true d2
        clear HD HE
        go_wp2
        go_roundw
        case rel => exact ⟨c + 1, i + 1, by go_num, by go_num, by omega, by omega, .inl ⟨by omega, HN.out⟩, by first | rfl | trivial⟩
        case measure => simp [intOf]; omega
      · have HDf : RowKit.Hid (dgB5 (l.getD i 0) = false) := by
          unfold RowKit.Hid
          rw [HD.out]
          by_cases g : 48 ≤ d
          · rw [decide_eq_false (show ¬ d ≤ 57 by omega), Bool.and_false]
          · rw [decide_eq_false g, Bool.false_and]
        have u3 : (decide ((48 : Int) ≤ (d : Int)) = false) ∨ (decide ((48 : Int) ≤ (d : Int)) = true ∧ decide ((d : Int) ≤ 57) = false) := by
          by_cases g : 48 ≤ d
          · exact .inr ⟨decide_eq_true (by omega), decide_eq_false (by omega)⟩
          · exact .inl (decide_eq_false (by omega))
        have u3n : (decide (48 ≤ d) = false) ∨ (decide (48 ≤ d) = true ∧ decide (d ≤ 57) = false) := by
          by_cases g : 48 ≤ d
          · exact .inr ⟨decide_eq_true g, decide_eq_false (by omega)⟩
          · exact .inl (decide_eq_false g)
        clear HD hdig
        by_cases h4 : c = 4
        · subst h4
          have HG := Lib.hid (HYes.out i (HE.out.symm.trans (HFound.out i hci i2' HDf.out)) hci)
          clear HDf HE
          obtain ⟨j, hj⟩ : ∃ j, i - 4 = j := ⟨_, rfl⟩
          rw [hj] at HG
          have e4 : (i : Int) - 4 = (j : Int) := by omega
          have e5 : (0 : Int) ≤ (j : Int) := by omega
          have e6 : (j : Int) ≤ (i : Int) := by omega
          have e7 : j ≤ i := by omega
          have e8 : i ≤ n := by omega
          clear hj
          rcases u3 with u3 | ⟨u3, u4⟩
          · go_wp2
            first | exact HG.out | (go_ret; exact HG.out)
          · go_wp2
            first | exact HG.out | (go_ret; exact HG.out)
        · have HN : RowKit.Hid (digF ((l.drop (i + 1 - 0)).take 0) (l.drop (i + 1)) = R) := (HNone.out i c hci i2' HDf.out h4).symm.trans HE.out
          have t4 : ((c : Int) == 4) = false := by simp; omega
          have t4n : decide (c = 4) = false := decide_eq_false h4
          clear HDf HE h4
          rcases u3 with u3 | ⟨u3, u4⟩
          all_goals
            go_wp2
            go_roundw
            case rel => exact ⟨0, i + 1, by first | rfl | go_num, by go_num, by omega, by omega, .inl ⟨by omega, HN.out⟩, by first | rfl | trivial⟩
            case measure => simp [intOf]; omega
    · subst heq
      have HE : RowKit.Hid (digF ((l.drop (i - c)).take c) (l.drop i) = R) := by
        rcases HI.out with h | h
        · exact h.2
        · omega
      have HL : RowKit.Hid ((if c = 4 then (l.drop (i - 4)).take 4 else []) = R) := (HLast.out c hci).symm.trans HE.out
      clear HE HI
      by_cases h4 : c = 4
      · subst h4
        have HG := Lib.hid (HYes.out i (by have := HL.out; rw [if_pos rfl] at this; exact this.symm) hci)
        clear HL
        obtain ⟨j, hj⟩ : ∃ j, i - 4 = j := ⟨_, rfl⟩
        rw [hj] at HG
        have e4 : (i : Int) - 4 = (j : Int) := by omega
        have e5 : (0 : Int) ≤ (j : Int) := by omega
        have e6 : (j : Int) ≤ (i : Int) := by omega
        have e7 : j ≤ i := by omega
        clear hj
        go_wp2
        first | exact HG.out | (go_ret; exact HG.out)
      · have HN : RowKit.Hid (R = []) := by have := HL.out; rw [if_neg h4] at this; exact this.symm
        have t4 : ((c : Int) == 4) = false := by simp; omega
        have t4n : decide (c = 4) = false := decide_eq_false h4
        clear HL h4
        go_wp2
        go_roundw
        case rel => exact ⟨0, i + 1, by first | rfl | go_num, by go_num, by omega, by omega, .inr ⟨rfl, HN.out⟩, by first | rfl | trivial⟩
        case measure => first | (simp [intOf]; omega) | simp [intOf]
    · have HG := Lib.hid (HNo.out (by
        rcases HI.out with h | h
        · omega
        · exact h.2))
      have i4 : (n : Int) < (i : Int) := by omega
      clear HI
      go_wp2
      first | exact HG.out | (go_ret; exact HG.out)
end

section
open Go.RowKit
theorem wid_bad : wid 65533 = 3 := by decide

theorem good_T (c : Nat) (h : okc c) : goodP (c, wid c) := by
  refine ⟨?_, ?_⟩
  · rintro ⟨h1, h2⟩
    simp only at h1 h2
    subst h1
    rw [wid_bad] at h2
    omega
  · unfold okc at h
    simp only
    omega

theorem refDec_T (cs : List Nat) (h : OKs cs) (k : Nat) (hk : k < cs.length) : refDec (T cs) (off cs k) = (cs[k], wid cs[k]) := by
  unfold refDec
  rw [decode_T cs h k hk, if_pos (good_T _ (OKs_get h hk))]

theorem decode_refT (cs : List Nat) (h : OKs cs) (hz : (T cs).size ≤ 1000000) (k : Nat) (hk : k < cs.length) (w : World) :
    Calls Tryz.prog 93 #[.string (T cs), .int .i64 (off cs k)] w fun e w' => e = .returned (.tuple #[.int .i64 (cs[k] : Nat), .int .i64 (wid cs[k])]) ∧ Below w.heap.size w w' := by
  have := decode_ref (T cs) (off cs k) (off_lt cs k hk) hz w
  rw [refDec_T cs h k hk] at this
  exact this
end

section
open Go.RowKit
/-- The width of what decode reads, at least 1. -/
theorem size_ref (s : ByteArray) (i : Nat) (hi : i < s.size) (hz : s.size ≤ 1000000) (w : World) :
    Calls Tryz.prog 94 #[.string s, .int .i64 i] w fun e w' => e = .returned (.int .i64 (max (refDec s i).2 1 : Nat)) ∧ Below w.heap.size w w' := by
  have cD := decode_ref s i hi hz w
  generalize hd : refDec s i = d at cD
  obtain ⟨c, k⟩ := d
  simp only at cD
  clear hd
  by_cases hk : k = 0
  · subst hk
    go_enter Tryz.func94, Tryz.ntmps94
    go_wp2_with fail
    refine cD.mono ?_
    rintro e w1 ⟨rfl, b1⟩
    go_wp2
    go_ret
    exact ⟨rfl, b1⟩
  · have h1 : (1 : Int) ≤ (k : Int) := by omega
    have h2 : max k 1 = k := by omega
    rw [h2]
    clear h2 hk
    have HM : RowKit.Hid (max (k : Int) 1 = (k : Int)) := by unfold RowKit.Hid; omega
    go_enter Tryz.func94, Tryz.ntmps94
    go_wp2_with fail
    refine cD.mono ?_
    rintro e w1 ⟨rfl, b1⟩
    go_wp2
    go_ret
    refine ⟨?_, b1⟩
    first
      | rfl
      | (show Ending.returned (.int .i64 (max (k : Int) 1)) = _; rw [HM.out])
end

section
open Go.RowKit
theorem size_refT (cs : List Nat) (h : OKs cs) (hz : (T cs).size ≤ 1000000) (k : Nat) (hk : k < cs.length) (w : World) :
    Calls Tryz.prog 94 #[.string (T cs), .int .i64 (off cs k)] w fun e w' => e = .returned (.int .i64 (wid cs[k])) ∧ Below w.heap.size w w' := by
  have := size_ref (T cs) (off cs k) (off_lt cs k hk) hz w
  rw [refDec_T cs h k hk] at this
  have hw := wid_pos cs[k]
  rw [show max ((cs[k], wid cs[k]) : Nat × Nat).2 1 = wid cs[k] from by simp only; omega] at this
  exact this
end

end Go.Proofs.YtfjfpefpdlecbaaGreatDoor
