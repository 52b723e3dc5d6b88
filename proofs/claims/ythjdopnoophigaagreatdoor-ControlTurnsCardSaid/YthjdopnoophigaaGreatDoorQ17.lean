/- Merged: R12D, R12E, R12F, PA12, PB12. -/
import Derived.Test.YthjdopnoophigaaGreatDoorQ16
namespace Go.Proofs.YthjdopnoophigaaGreatDoor

section
open Go.RowKit Go.PlainAid
def dateB (l : List UInt8) (i : Nat) : Bool := if i = 4 then decide (l.getD i 0 = 45) else digc (l.getD i 0)
theorem dates_bad (l : List UInt8) (k : Nat) (hk : k < l.length) (h : dateB l k = false) : datesX l = false := by
  unfold datesX
  rw [Bool.and_eq_false_iff]
  right
  rw [Bool.eq_false_iff]
  intro g
  rw [List.all_eq_true] at g
  have := g k (List.mem_range.2 hk)
  unfold dateB at h
  rw [h] at this
  cases this
theorem dates_all (l : List UInt8) (h5 : l.length = 5 ∨ l.length = 9) (h : ∀ j, j < l.length → dateB l j = true) : datesX l = true := by
  unfold datesX
  rw [Bool.and_eq_true, decide_eq_true_iff, List.all_eq_true]
  exact ⟨h5, fun j hj => h j (List.mem_range.1 hj)⟩
set_option maxHeartbeats 8000000 in
theorem refDates_any (l : List UInt8) (hl : l.length ≤ 1000000000) (b : Bool) (hb : datesX l = b) (w : World) :
    Calls Tryz.prog 98 #[.string (S l)] w fun e w' => e = .returned (.bool b) ∧ w' = w := by
  obtain ⟨n, hn⟩ : ∃ n, l.length = n := ⟨_, rfl⟩
  have hsz : (S l).size = n := by rw [S_size, hn]
  have hbt := get_bt (S l)
  have HBS := Lib.hid (fun i => bt_S l i)
  have HBad := Lib.hid (fun k (hk : k < n) h => (dates_bad l k (by rw [hn]; exact hk) h).symm.trans hb)
  have HAll := Lib.hid (fun h5 h => (dates_all l h5 h).symm.trans hb)
  rw [hn] at HAll
  by_cases h5 : n = 5 ∨ n = 9
  · have t5 : ((n : Int) != 5 && (n : Int) != 9) = false := by
      rcases h5 with rfl | rfl <;> decide
    have H5 := Lib.hid h5
    have hn9 : n ≤ 9 := by omega
    clear hb hn hl
    generalize S l = s at *
    go_enter Tryz.func98, Tryz.ntmps98
    go_upto_region 1 with fail
    go_cut [11] from 4 to 11 (fun x wx => x = .bool false ∧ wx = w)
    case first =>
      rcases h5 with rfl | rfl
      all_goals
        go_wp2
        go_meet
        exact ⟨rfl, rfl⟩
    case rest =>
      obtain ⟨rfl, hwx⟩ := hcut
      rw [hwx]
      clear hwx h5 t5
      go_wp2
      go_loopw [3] (fun i wr => ∃ k : Nat, k ≤ n ∧ i = .int .i64 (k : Int) ∧ RowKit.Hid (∀ j, j < k → dateB l j = true) ∧ w = wr) (fun i _ => n - (intOf i).toNat)
      case atStart => exact ⟨0, Nat.zero_le _, rfl, (fun j hj => by omega), rfl⟩
      case round =>
        obtain ⟨k, hk, rfl, HJ, rfl⟩ := hrel
        by_cases hkn : k < n
        · have i1 : (0 : Int) ≤ (k : Int) := by omega
          have i2 : (k : Int) < (n : Int) := by omega
          have i2' : k < n := hkn
          have hbk := HBS.out k
          have hm := (l.getD k 0).toNat_lt
          have HBk := Lib.hid (HBad.out k hkn)
          have HJ2 : RowKit.Hid (dateB l k = true → ∀ j, j < k + 1 → dateB l j = true) := by
            intro h0 j hj
            rcases Nat.lt_or_ge j k with h | h
            · exact HJ.out j h
            · rw [show j = k by omega]; exact h0
          have hd : dateB l k = if k = 4 then decide ((l.getD k 0).toNat = 45) else (decide (48 ≤ (l.getD k 0).toNat) && decide ((l.getD k 0).toNat ≤ 57)) := by
            unfold dateB digc
            by_cases h4 : k = 4
            · rw [if_pos h4, if_pos h4, decide_eq_decide]
              exact ⟨fun h => by rw [h]; rfl, fun h => UInt8.toNat_inj.1 (by rw [h]; rfl)⟩
            · rw [if_neg h4, if_neg h4]
          obtain ⟨c, hc⟩ : ∃ c, (l.getD k 0).toNat = c := ⟨_, rfl⟩
          rw [hc] at hbk hm hd
          have HD := Lib.hid hd
          clear hc hd
          by_cases h4 : k = 4
          · have hd2 := HD.out
            rw [if_pos h4] at hd2
            have t4 : ((k : Int) == 4) = true := by simp; omega
            have t4i : decide ((k : Int) = 4) = true := decide_eq_true (by omega)
            have t4n : decide (k = 4) = true := decide_eq_true h4
            have t4m : ((k : Int) != 4) = false := by simp; omega
            by_cases h45 : c = 45
            · rw [decide_eq_true h45] at hd2
              have hj2 := Lib.hid (HJ2.out hd2)
              have u1 : ((c : Int) != 45) = false := by simp; omega
              clear h4 h45 hd2
              go_wp2
              go_roundw
              case rel => exact ⟨k + 1, by omega, by go_num, hj2.out, by first | rfl | trivial⟩
              case measure => simp [intOf]; omega
            · rw [decide_eq_false h45] at hd2
              have hf := HBk.out hd2
              subst hf
              have u1 : ((c : Int) != 45) = true := by simp; omega
              clear h4 h45 hd2
              go_wp2
              first | exact ⟨rfl, rfl⟩ | (go_ret; exact ⟨rfl, rfl⟩)
          · have hd2 := HD.out
            rw [if_neg h4] at hd2
            have t4 : ((k : Int) == 4) = false := by simp; omega
            have t4i : decide ((k : Int) = 4) = false := decide_eq_false (by omega)
            have t4n : decide (k = 4) = false := decide_eq_false h4
            have t4m : ((k : Int) != 4) = true := by simp; omega
            by_cases h48 : c < 48
            · rw [decide_eq_false (show ¬ 48 ≤ c by omega), Bool.false_and] at hd2
              have hf := HBk.out hd2
              subst hf
              have u1 : decide ((c : Int) < 48) = true := decide_eq_true (by omega)
              have u1n : decide (c < 48) = true := decide_eq_true h48
              clear h4 h48 hd2
              go_wp2
              first | exact ⟨rfl, rfl⟩ | (go_ret; exact ⟨rfl, rfl⟩)
            · have u1 : decide ((c : Int) < 48) = false := decide_eq_false (by omega)
              have u1n : decide (c < 48) = false := decide_eq_false h48
              by_cases h57 : 57 < c
              · rw [decide_eq_false (show ¬ c ≤ 57 by omega), Bool.and_false] at hd2
                have hf := HBk.out hd2
                subst hf
                have u2 : decide ((57 : Int) < (c : Int)) = true := decide_eq_true (by omega)
                have u2n : decide (57 < c) = true := decide_eq_true h57
                clear h4 h48 h57 hd2
                go_wp2
                first | exact ⟨rfl, rfl⟩ | (go_ret; exact ⟨rfl, rfl⟩)
              · rw [decide_eq_true (show 48 ≤ c by omega), decide_eq_true (show c ≤ 57 by omega)] at hd2
                have hj2 := Lib.hid (HJ2.out hd2)
                have u2 : decide ((57 : Int) < (c : Int)) = false := decide_eq_false (by omega)
                have u2n : decide (57 < c) = false := decide_eq_false h57
                clear h4 h48 h57 hd2
                go_wp2
                go_roundw
                case rel => exact ⟨k + 1, by omega, by go_num, hj2.out, by first | rfl | trivial⟩
                case measure => simp [intOf]; omega
        · obtain rfl : k = n := by omega
          have hb2 := HAll.out H5.out HJ.out
          subst hb2
          go_wp2
          first | exact ⟨rfl, rfl⟩ | (go_ret; exact ⟨rfl, rfl⟩)
  · have hf : datesX l = false := by
      unfold datesX
      rw [decide_eq_false (by rw [hn]; exact h5)]
      rfl
    rw [hf] at hb
    subst hb
    have u1 : ((n : Int) != 5) = true := by simp; omega
    have u2 : ((n : Int) != 9) = true := by simp; omega
    clear hn hf h5 hbt HBS HBad HAll
    generalize S l = s at *
    go_enter Tryz.func98, Tryz.ntmps98
    go_wp2
    first | exact ⟨rfl, rfl⟩ | (go_ret; exact ⟨rfl, rfl⟩)
end

section
open Go.RowKit Go.PlainAid
theorem BL.take12 {a : Option Addr} {cap : Nat} {L : List (List UInt8)} {w : World} (h : BL (.slice a L.length cap) L w) (i : Nat) (hi : i ≤ L.length) : BL (.slice a i cap) (L.take i) w := by
  obtain ⟨a', cap', he, h1, h2, h3, h4⟩ := h
  obtain ⟨rfl, -, rfl⟩ := Value.slice.inj he
  have hl : (L.take i).length = i := by rw [List.length_take]; omega
  refine ⟨a, cap, by rw [hl], by rw [hl]; omega, h2, h3, fun k hk => ?_⟩
  rw [hl] at hk
  obtain ⟨g, o, e1, e2, e3⟩ := h4 k (by omega)
  refine ⟨g, o, e1, e2, ?_⟩
  rw [e3, List.getD_eq_getElem?_getD, List.getD_eq_getElem?_getD, List.getElem?_take_of_lt hk]
theorem range_snoc {α : Type} (f : Nat → α) (j : Nat) : (List.range (j + 1)).map f = (List.range j).map f ++ [f j] := by
  rw [List.range_succ, List.map_append]
  rfl
theorem parts_max (l : List UInt8) (h : validT l = true) : ∀ x ∈ partsX l, x.length ≤ 8 * l.length := by
  intro x hx
  obtain ⟨c1, _, rfl, h3⟩ := parts_len l h x hx
  have := enc_le c1
  omega
end

section
open Go.RowKit Go.PlainAid
theorem plain_eq (x : List UInt8) : plainX x = (validT x && (decide (cleanX x = x) && (decide ((splG dd x).length ≤ 1) && (decide (x.getD 0 0 ≠ 45) && decide (x.getD (x.length - 1) 0 ≠ 45))))) := by
  unfold plainX
  simp only [Bool.and_assoc]
theorem ne45 (c : UInt8) : decide (c ≠ 45) = ((c.toNat : Int) != 45) := by
  by_cases h : c = 45
  · subst h
    rfl
  · have : c.toNat ≠ 45 := fun e => h (UInt8.toNat_inj.1 e)
    rw [decide_eq_true h]
    symm
    simp
    omega
theorem join_go (L : List (List UInt8)) (k : Nat) (x : List UInt8) (h : L[k]? = some x) : firstE12 (L.drop k) = if partE x ≠ 0 then partE x else firstE12 (L.drop (k + 1)) := by
  have hk := (List.getElem?_eq_some_iff.1 h).1
  have e : L.drop k = x :: L.drop (k + 1) := by rw [List.drop_eq_getElem_cons hk, (List.getElem?_eq_some_iff.1 h).2]
  rw [e, firstE12]
end

section
open Go.RowKit Go.PlainAid
theorem year_bad (l : List UInt8) (k : Nat) (hk : k < l.length) (h : digc (l.getD k 0) = false) : yearX l = false := by
  unfold yearX
  rw [Bool.and_eq_false_iff]
  right
  rw [Bool.eq_false_iff]
  intro g
  rw [all_getD] at g
  rw [g k hk] at h
  cases h
theorem year_all (l : List UInt8) (h4 : l.length = 4) (h : ∀ j, j < l.length → digc (l.getD j 0) = true) : yearX l = true := by
  unfold yearX
  rw [Bool.and_eq_true, decide_eq_true_iff, all_getD]
  exact ⟨h4, h⟩
set_option maxHeartbeats 8000000 in
theorem year_any (l : List UInt8) (b : Bool) (hb : yearX l = b) (w : World) :
    Calls Tryz.prog 175 #[.string (S l)] w fun e w' => e = .returned (.bool b) ∧ w' = w := by
  obtain ⟨n, hn⟩ : ∃ n, l.length = n := ⟨_, rfl⟩
  have hsz : (S l).size = n := by rw [S_size, hn]
  have hbt := get_bt (S l)
  have HBS := Lib.hid (fun i => bt_S l i)
  have HBad := Lib.hid (fun k (hk : k < n) h => (year_bad l k (by rw [hn]; exact hk) h).symm.trans hb)
  have HAll := Lib.hid (fun h4 h => (year_all l h4 h).symm.trans hb)
  rw [hn] at HAll
  by_cases h4 : n = 4
  · have t4 : ((n : Int) != 4) = false := by simp; omega
    have H4 := Lib.hid h4
    have hn9 : n ≤ 9 := by omega
    clear hb hn h4
    generalize S l = s at *
    go_enter Tryz.func175, Tryz.ntmps175
    go_wp2
    go_loopw [9] (fun i wr => ∃ k : Nat, k ≤ n ∧ i = .int .i64 (k : Int) ∧ RowKit.Hid (∀ j, j < k → digc (l.getD j 0) = true) ∧ w = wr) (fun i _ => n - (intOf i).toNat)
    case atStart => exact ⟨0, Nat.zero_le _, rfl, (fun j hj => by omega), rfl⟩
    case round =>
      obtain ⟨k, hk, rfl, HJ, rfl⟩ := hrel
      by_cases hkn : k < n
      · have i1 : (0 : Int) ≤ (k : Int) := by omega
        have i2 : (k : Int) < (n : Int) := by omega
        have i2' : k < n := hkn
        have hbk := HBS.out k
        have hm := (l.getD k 0).toNat_lt
        have HBk := Lib.hid (HBad.out k hkn)
        have HJ2 : RowKit.Hid (digc (l.getD k 0) = true → ∀ j, j < k + 1 → digc (l.getD j 0) = true) := by
          intro h0 j hj
          rcases Nat.lt_or_ge j k with h | h
          · exact HJ.out j h
          · rw [show j = k by omega]; exact h0
        have hd : digc (l.getD k 0) = (decide (48 ≤ (l.getD k 0).toNat) && decide ((l.getD k 0).toNat ≤ 57)) := rfl
        obtain ⟨c, hc⟩ : ∃ c, (l.getD k 0).toNat = c := ⟨_, rfl⟩
        rw [hc] at hbk hm hd
        have HD := Lib.hid hd
        clear hc hd
        have hd2 := HD.out
        by_cases h48 : c < 48
        · rw [decide_eq_false (show ¬ 48 ≤ c by omega), Bool.false_and] at hd2
          have hf := HBk.out hd2
          subst hf
          have u1 : decide ((c : Int) < 48) = true := decide_eq_true (by omega)
          have u1n : decide (c < 48) = true := decide_eq_true h48
          clear h48 hd2
          go_wp2
          first | exact ⟨rfl, rfl⟩ | (go_ret; exact ⟨rfl, rfl⟩)
        · have u1 : decide ((c : Int) < 48) = false := decide_eq_false (by omega)
          have u1n : decide (c < 48) = false := decide_eq_false h48
          by_cases h57 : 57 < c
          · rw [decide_eq_false (show ¬ c ≤ 57 by omega), Bool.and_false] at hd2
            have hf := HBk.out hd2
            subst hf
            have u2 : decide ((57 : Int) < (c : Int)) = true := decide_eq_true (by omega)
            have u2n : decide (57 < c) = true := decide_eq_true h57
            clear h48 h57 hd2
            go_wp2
            first | exact ⟨rfl, rfl⟩ | (go_ret; exact ⟨rfl, rfl⟩)
          · rw [decide_eq_true (show 48 ≤ c by omega), decide_eq_true (show c ≤ 57 by omega)] at hd2
            have hj2 := Lib.hid (HJ2.out hd2)
            have u2 : decide ((57 : Int) < (c : Int)) = false := decide_eq_false (by omega)
            have u2n : decide (57 < c) = false := decide_eq_false h57
            clear h48 h57 hd2
            go_wp2
            go_roundw
            case rel => exact ⟨k + 1, by omega, by go_num, hj2.out, by first | rfl | trivial⟩
            case measure => simp [intOf]; omega
      · obtain rfl : k = n := by omega
        have hb2 := HAll.out H4.out HJ.out
        subst hb2
        go_wp2
        first | exact ⟨rfl, rfl⟩ | (go_ret; exact ⟨rfl, rfl⟩)
  · have hf : yearX l = false := by
      unfold yearX
      rw [decide_eq_false (by rw [hn]; exact h4)]
      rfl
    rw [hf] at hb
    subst hb
    have u1 : ((n : Int) != 4) = true := by simp; omega
    clear hn hf h4 hbt HBS HBad HAll
    generalize S l = s at *
    go_enter Tryz.func175, Tryz.ntmps175
    go_wp2
    first | exact ⟨rfl, rfl⟩ | (go_ret; exact ⟨rfl, rfl⟩)
set_option maxHeartbeats 8000000 in
theorem dates_any (l : List UInt8) (hl : l.length ≤ 1000000) (r : Bool) (hr : datesX l = r) (w : World) (hE : Env w) :
    Calls Tryz.prog 158 #[.string (S l)] w fun e w' => e = .returned (.bool r) ∧ Below w.heap.size w w' := by
  obtain ⟨a, b, t, hc⟩ : ∃ a b t, Lib.cut l [45] = (a, b, t) := ⟨_, _, _, rfl⟩
  have cC := Lib.hid (cCut l hl a b t hc w hE)
  have hd := (dates_cut l a b t hc).symm.trans hr
  obtain ⟨ya, hya⟩ : ∃ y, yearX a = y := ⟨_, rfl⟩
  obtain ⟨yb, hyb⟩ : ∃ y, yearX b = y := ⟨_, rfl⟩
  have cA := Lib.hid (fun W => year_any a ya hya W)
  have cB := Lib.hid (fun W => year_any b yb hyb W)
  rw [hya, hyb] at hd
  have HD := Lib.hid hd
  have hsf := S_facts b
  have HSF := Lib.hid hsf
  clear hc hr hya hyb hl hd hsf
  generalize S l = s at *
  generalize S a = sa at *
  go_enter Tryz.func158, Tryz.ntmps158
  go_wp2_with fail
  refine cC.out.mono ?_
  rintro e w1 ⟨rfl, hb1⟩
  have B1 := Lib.hid hb1
  clear hb1 cC
  cases t with
  | false =>
    have h : r = false := HD.out.symm
    subst h
    clear HD HSF cA cB
    go_wp2
    first | exact ⟨rfl, B1.out⟩ | (go_ret; exact ⟨rfl, B1.out⟩)
  | true =>
    go_wp2_with fail
    refine (cA.out w1).mono ?_
    rintro e w2 ⟨rfl, hw2⟩
    rw [hw2]
    clear hw2 cA w2
    cases ya with
    | false =>
      have h : r = false := HD.out.symm
      subst h
      clear HD HSF cB
      go_wp2
      first | exact ⟨rfl, B1.out⟩ | (go_ret; exact ⟨rfl, B1.out⟩)
    | true =>
      by_cases h0 : b = []
      · subst h0
        have h : r = true := HD.out.symm
        subst h
        have e0 : S [] = (⟨#[]⟩ : ByteArray) := rfl
        rw [e0] at cB ⊢
        clear HD HSF
        go_wp2
        first | exact ⟨rfl, B1.out⟩ | (go_ret; exact ⟨rfl, B1.out⟩)
      · obtain ⟨s1, s2⟩ := HSF.out h0
        have h : yb = r := by
          have h := HD.out
          rw [Bool.true_and, Bool.true_and, decide_eq_false h0, Bool.false_or] at h
          exact h
        subst h
        clear HD HSF h0
        generalize S b = sb at *
        go_wp2_with fail
        refine (cB.out w1).mono ?_
        rintro e w2 ⟨rfl, hw2⟩
        rw [hw2]
        clear hw2 cB w2
        go_wp2
        first | exact ⟨rfl, B1.out⟩ | (go_ret; exact ⟨rfl, B1.out⟩)
set_option maxHeartbeats 8000000 in
theorem clean12_any (x : List UInt8) (hl : x.length ≤ 1000000) (r : Bool) (hr : cleanB x = r) (w : World) (hE : Env w) :
    Calls Tryz.prog 126 #[.string (S x)] w fun e w' => e = .returned (.bool r) ∧ Below w.heap.size w w' := by
  obtain ⟨v, hv⟩ : ∃ v, validT x = v := ⟨_, rfl⟩
  have cV := Lib.hid (cValid x hl v hv w hE)
  have hq := S_eq12 (cleanX x) x
  have HC := Lib.hid (fun (h : v = true) W => cClean x (by
    obtain ⟨c1, h1, h2⟩ := validT_text x (hv.trans h)
    exact ⟨c1, h1, h2⟩) hl W)
  have hd : (v && decide (cleanX x = x)) = r := by rw [← hv]; exact hr
  have HD := Lib.hid hd
  obtain ⟨y, hy⟩ : ∃ y, cleanX x = y := ⟨_, rfl⟩
  rw [hy] at hq HC HD
  obtain ⟨b1, hbb⟩ : ∃ b, decide (y = x) = b := ⟨_, rfl⟩
  rw [hbb] at hq HD
  clear hv hr hl hd hy hbb
  generalize S x = s at *
  generalize S y = sy at *
  go_enter Tryz.func126, Tryz.ntmps126
  go_wp2_with fail
  refine cV.out.mono ?_
  rintro e w1 ⟨rfl, hb1⟩
  have B1 := Lib.hid hb1
  clear hb1 cV
  cases v with
  | false =>
    have h : r = false := HD.out.symm
    subst h
    clear HD HC hq
    go_wp2
    first | exact ⟨rfl, B1.out⟩ | (go_ret; exact ⟨rfl, B1.out⟩)
  | true =>
    have h : b1 = r := HD.out
    subst h
    go_wp2_with fail
    refine (HC.out (by simp) w1).mono ?_
    rintro e w2 ⟨rfl, hb2⟩
    have B2 := Lib.hid (B1.out.trans (hb2.mono B1.out.size))
    clear hb2 HC HD
    go_wp2
    first | exact ⟨rfl, B2.out⟩ | (go_ret; exact ⟨rfl, B2.out⟩)
theorem sep_eq (x : List UInt8) : sepX x = (decide ((splG dd x).length ≤ 1) && (!decide (x.getD 0 0 = 45) && !decide (x.getD (x.length - 1) 0 = 45))) := by
  unfold sepX
  rw [Bool.and_assoc, decide_not, decide_not]
end

section
open Go.RowKit Go.PlainAid
set_option maxHeartbeats 16000000 in
set_option maxRecDepth 100000 in
theorem parts_any (l : List UInt8) (hv : validT l = true) (hl : l.length ≤ 100000) (w : World) (hE : Env w) :
    Calls Tryz.prog 93 #[.string (S l)] w fun e w' => ∃ v, e = .returned v ∧ BL v (partsX l) w' ∧ Below w.heap.size w w' := by
  obtain ⟨Q, hQ⟩ : ∃ Q, (fun (e : Ending) (w' : World) => ∃ v, e = .returned v ∧ BL v (partsX l) w' ∧ Below w.heap.size w w') = Q := ⟨_, rfl⟩
  rw [hQ]
  have HQ : RowKit.Hid (∀ v W, BL v (partsX l) W → Below w.heap.size w W → Q (.returned v) W) := by rw [← hQ]; exact fun v W h k => ⟨v, rfl, h, k⟩
  clear hQ
  have cS := Lib.hid (cSplit l dd (by decide) (by omega) w hE)
  have hpv : ∀ x ∈ splG dd l, ∃ c1, OKs c1 ∧ x = enc c1 := by
    obtain ⟨cs, hcs, rfl⟩ := validT_text l hv
    exact spl_valid dd dd_ascii _ cs (Nat.le_refl _) hcs
  have hpl := spl_mem dd l.length l (Nat.le_refl _)
  have hpn := spl_len dd l.length l (Nat.le_refl _)
  unfold partsX at HQ
  obtain ⟨P, hP⟩ : ∃ P, splG dd l = P := ⟨_, rfl⟩
  rw [hP] at cS hpv hpl hpn HQ
  have HC := Lib.hid (fun k (hk : k < P.length) W => cClean (P.getD k []) (hpv _ (mem_getD12 P k hk)) (Nat.le_trans (hpl _ (mem_getD12 P k hk)) (by omega)) W)
  have HSt := Lib.hid (fun k (hk : k < P.length) => map_take_snoc cleanX P k hk)
  have edd : S dd = ⟨#[45, 45]⟩ := rfl
  rw [edd] at cS
  obtain ⟨n, hn⟩ : ∃ n, P.length = n := ⟨_, rfl⟩
  rw [hn] at HC HSt hpn cS
  have HN := Lib.hid hn
  have hn9 : n ≤ 100001 := by omega
  clear hP hpv hpl hpn edd hl hv hn hE
  generalize S l = st at *
  go_enter Tryz.func93, Tryz.ntmps93
  go_wp2_with fail
  refine cS.out.mono ?_
  rintro e w1 ⟨gp, cpp, rfl, hr1, hb1⟩
  have HP := Lib.hid hr1
  have HB1 := Lib.hid hb1
  have HR0 := Lib.hid (NR.none w1.heap.size w1)
  have HBw0 := Lib.hid (Below.refl w1.heap.size w1)
  clear hr1 hb1 cS
  go_wp2
  go_loopw [3, 10] (fun v3 v10 wr => ∃ (k : Nat) (D : List (List UInt8)), v10 = .int .i64 (k : Int) ∧ k ≤ n ∧ D.length ≤ k ∧ RowKit.Hid (D = nonE ((P.take k).map cleanX)) ∧ RowKit.Hid (NR w1.heap.size v3 D wr) ∧ RowKit.Hid (Below w1.heap.size w1 wr)) (fun _ v10 _ => n - (intOf v10).toNat)
  case atStart => exact ⟨0, [], rfl, Nat.zero_le _, Nat.le_refl _, rfl, HR0, HBw0⟩
  case round =>
    obtain ⟨k, D, rfl, hk, hdk, HD, HR, HB⟩ := hrel
    clear HR0 HBw0
    by_cases hkn : k < n
    · have i1 : (0 : Int) ≤ (k : Int) := by omega
      have i2 : (k : Int) < (n : Int) := by omega
      obtain ⟨g2, o2, cap2, he, hg, c0⟩ := (HP.out.after HB.out).at12 k (by rw [HN.out]; exact hkn)
      obtain ⟨ha, -, hcp⟩ := Value.slice.inj he
      obtain ⟨rfl, rfl, -⟩ := Addr.mk.inj (Option.some.inj ha)
      subst hcp
      rw [Nat.zero_add] at c0
      clear he ha
      have cC := Lib.hid (HC.out k hkn wr)
      have hst := HSt.out k hkn
      obtain ⟨p, hp⟩ : ∃ p, P.getD k [] = p := ⟨_, rfl⟩
      rw [hp] at c0 cC hst
      obtain ⟨y, hy⟩ : ∃ y, cleanX p = y := ⟨_, rfl⟩
      rw [hy] at cC hst
      have HSt2 := Lib.hid hst
      clear hp hy hst
      generalize S p = sp at *
      go_wp2_with fail
      refine cC.out.mono ?_
      rintro e w2 ⟨rfl, hb2⟩
      have HB2 : RowKit.Hid (Below w1.heap.size w1 w2) := HB.out.trans (hb2.mono HB.out.size)
      have HR2 := Lib.hid (HR.out.after hb2)
      clear hb2 cC c0
      by_cases h0 : y = []
      · subst h0
        have e0 : S [] = (⟨#[]⟩ : ByteArray) := rfl
        rw [e0]
        have HD2 : RowKit.Hid (D = nonE ((P.take (k + 1)).map cleanX)) := by
          unfold RowKit.Hid
          rw [HSt2.out, nonE_snoc, if_pos rfl]
          exact HD.out
        go_wp2
        go_roundw
        case rel => exact ⟨k + 1, D, by go_num, by omega, by omega, HD2, HR2, HB2⟩
        case measure => simp [intOf]; omega
      · obtain ⟨s1, s2⟩ := S_facts y h0
        have HD2 : RowKit.Hid (D ++ [y] = nonE ((P.take (k + 1)).map cleanX)) := by
          unfold RowKit.Hid
          rw [HSt2.out, nonE_snoc, if_neg h0, HD.out]
        have hsz := HB2.out.size
        clear h0
        go_wp2_with (at_builtin; go_loud (refine append_nr _ rfl _ _ rfl w1.heap.size u3 D y rfl HR2.out rfl (by omega) hsz w1.heap.size w1 (Nat.le_refl _) HB2.out ?_))
        intro v2 w3 hr3 hb3
        (try intro _)
        have hl3 : (D ++ [y]).length ≤ k + 1 := by rw [List.length_append]; simp; omega
        have HR3 := Lib.hid hr3
        have HB3 := Lib.hid hb3
        clear hr3 hb3 s1 s2
        go_wp2
        go_roundw
        case rel => exact ⟨k + 1, D ++ [y], by go_num, by omega, hl3, HD2, HR3, HB3⟩
        case measure => simp [intOf]; omega
    · obtain rfl : k = n := by omega
      have hD := HD.out
      have ht : P.take k = P := by rw [← HN.out, List.take_length]
      rw [ht] at hD
      subst hD
      have HRf := Lib.hid HR.out.bl
      have HBf := Lib.hid (HB1.out.trans (HB.out.mono HB1.out.size))
      clear ht HD
      go_wp2
      first | exact HQ.out _ _ HRf.out HBf.out | (go_ret; exact HQ.out _ _ HRf.out HBf.out)
end

end Go.Proofs.YthjdopnoophigaaGreatDoor
