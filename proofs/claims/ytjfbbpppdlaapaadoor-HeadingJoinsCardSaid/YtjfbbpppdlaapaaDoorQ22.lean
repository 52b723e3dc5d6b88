/- Merged: R12D, R12E. -/
import Derived.Test.YtjfbbpppdlaapaaDoorQ21
namespace Go.Proofs.YtjfbbpppdlaapaaDoor

section
open Go.RowKit Go.PlainAid
def dateB (l : List UInt8) (i : Nat) : Bool := if i = 4 then decide (l.getD i 0 = 45) else digc (l.getD i 0)
theorem dates_bad (l : List UInt8) (k : Nat) (hk : k < l.length) (h : dateB l k = false) : datesX l = false := by
  unfold datesX
  rw [Bool.and_eq_false_iff]
  right
  rw [Bool.eq_false_iff]
  intro g
  rw [List.all_eq_true] at g
  have := g k (List.mem_range.2 hk)
  unfold dateB at h
  rw [h] at this
  cases this
theorem dates_all (l : List UInt8) (h5 : l.length = 5 ∨ l.length = 9) (h : ∀ j, j < l.length → dateB l j = true) : datesX l = true := by
  unfold datesX
  rw [Bool.and_eq_true, decide_eq_true_iff, List.all_eq_true]
  exact ⟨h5, fun j hj => h j (List.mem_range.1 hj)⟩
set_option maxHeartbeats 8000000 in
theorem refDates_any (l : List UInt8) (hl : l.length ≤ 1000000000) (b : Bool) (hb : datesX l = b) (w : World) :
    Calls Tryd.prog 44 #[.string (S l)] w fun e w' => e = .returned (.bool b) ∧ w' = w := by
  obtain ⟨n, hn⟩ : ∃ n, l.length = n := ⟨_, rfl⟩
  have hsz : (S l).size = n := by rw [S_size, hn]
  have hbt := get_bt (S l)
  have HBS := Lib.hid (fun i => bt_S l i)
  have HBad := Lib.hid (fun k (hk : k < n) h => (dates_bad l k (by rw [hn]; exact hk) h).symm.trans hb)
  have HAll := Lib.hid (fun h5 h => (dates_all l h5 h).symm.trans hb)
  rw [hn] at HAll
  by_cases h5 : n = 5 ∨ n = 9
  · have t5 : ((n : Int) != 5 && (n : Int) != 9) = false := by
      rcases h5 with rfl | rfl <;> decide
    have H5 := Lib.hid h5
    have hn9 : n ≤ 9 := by omega
    clear hb hn hl
    generalize S l = s at *
    go_enter Tryd.func44, Tryd.ntmps44
    go_upto_region 1 with fail
    go_cut [11] from 4 to 11 (fun x wx => x = .bool false ∧ wx = w)
    case first =>
      rcases h5 with rfl | rfl
      all_goals
        go_wp2
        go_meet
        exact ⟨rfl, rfl⟩
    case rest =>
      obtain ⟨rfl, hwx⟩ := hcut
      rw [hwx]
      clear hwx h5 t5
      go_wp2
      go_loopw [3] (fun i wr => ∃ k : Nat, k ≤ n ∧ i = .int .i64 (k : Int) ∧ RowKit.Hid (∀ j, j < k → dateB l j = true) ∧ w = wr) (fun i _ => n - (intOf i).toNat)
      case atStart => exact ⟨0, Nat.zero_le _, rfl, (fun j hj => by omega), rfl⟩
      case round =>
        obtain ⟨k, hk, rfl, HJ, rfl⟩ := hrel
        by_cases hkn : k < n
        · have i1 : (0 : Int) ≤ (k : Int) := by omega
          have i2 : (k : Int) < (n : Int) := by omega
          have i2' : k < n := hkn
          have hbk := HBS.out k
          have hm := (l.getD k 0).toNat_lt
          have HBk := Lib.hid (HBad.out k hkn)
          have HJ2 : RowKit.Hid (dateB l k = true → ∀ j, j < k + 1 → dateB l j = true) := by
            intro h0 j hj
            rcases Nat.lt_or_ge j k with h | h
            · exact HJ.out j h
            · rw [show j = k by omega]; exact h0
          have hd : dateB l k = if k = 4 then decide ((l.getD k 0).toNat = 45) else (decide (48 ≤ (l.getD k 0).toNat) && decide ((l.getD k 0).toNat ≤ 57)) := by
            unfold dateB digc
            by_cases h4 : k = 4
            · rw [if_pos h4, if_pos h4, decide_eq_decide]
              exact ⟨fun h => by rw [h]; rfl, fun h => UInt8.toNat_inj.1 (by rw [h]; rfl)⟩
            · rw [if_neg h4, if_neg h4]
          obtain ⟨c, hc⟩ : ∃ c, (l.getD k 0).toNat = c := ⟨_, rfl⟩
          rw [hc] at hbk hm hd
          have HD := Lib.hid hd
          clear hc hd
          by_cases h4 : k = 4
          · have hd2 := HD.out
            rw [if_pos h4] at hd2
            have t4 : ((k : Int) == 4) = true := by simp; omega
            have t4i : decide ((k : Int) = 4) = true := decide_eq_true (by omega)
            have t4n : decide (k = 4) = true := decide_eq_true h4
            have t4m : ((k : Int) != 4) = false := by simp; omega
            by_cases h45 : c = 45
            · rw [decide_eq_true h45] at hd2
              have hj2 := Lib.hid (HJ2.out hd2)
              have u1 : ((c : Int) != 45) = false := by simp; omega
              clear h4 h45 hd2
              go_wp2
              go_roundw
              case rel => exact ⟨k + 1, by omega, by go_num, hj2.out, by first | rfl | trivial⟩
              case measure => simp [intOf]; omega
            · rw [decide_eq_false h45] at hd2
              have hf := HBk.out hd2
              subst hf
              have u1 : ((c : Int) != 45) = true := by simp; omega
              clear h4 h45 hd2
              go_wp2
              first | exact ⟨rfl, rfl⟩ | (go_ret; exact ⟨rfl, rfl⟩)
          · have hd2 := HD.out
            rw [if_neg h4] at hd2
            have t4 : ((k : Int) == 4) = false := by simp; omega
            have t4i : decide ((k : Int) = 4) = false := decide_eq_false (by omega)
            have t4n : decide (k = 4) = false := decide_eq_false h4
            have t4m : ((k : Int) != 4) = true := by simp; omega
            by_cases h48 : c < 48
            · rw [decide_eq_false (show ¬ 48 ≤ c by omega), Bool.false_and] at hd2
              have hf := HBk.out hd2
              subst hf
              have u1 : decide ((c : Int) < 48) = true := decide_eq_true (by omega)
              have u1n : decide (c < 48) = true := decide_eq_true h48
              clear h4 h48 hd2
              go_wp2
              first | exact ⟨rfl, rfl⟩ | (go_ret; exact ⟨rfl, rfl⟩)
            · have u1 : decide ((c : Int) < 48) = false := decide_eq_false (by omega)
              have u1n : decide (c < 48) = false := decide_eq_false h48
              by_cases h57 : 57 < c
              · rw [decide_eq_false (show ¬ c ≤ 57 by omega), Bool.and_false] at hd2
                have hf := HBk.out hd2
                subst hf
                have u2 : decide ((57 : Int) < (c : Int)) = true := decide_eq_true (by omega)
                have u2n : decide (57 < c) = true := decide_eq_true h57
                clear h4 h48 h57 hd2
                go_wp2
                first | exact ⟨rfl, rfl⟩ | (go_ret; exact ⟨rfl, rfl⟩)
              · rw [decide_eq_true (show 48 ≤ c by omega), decide_eq_true (show c ≤ 57 by omega)] at hd2
                have hj2 := Lib.hid (HJ2.out hd2)
                have u2 : decide ((57 : Int) < (c : Int)) = false := decide_eq_false (by omega)
                have u2n : decide (57 < c) = false := decide_eq_false h57
                clear h4 h48 h57 hd2
                go_wp2
                go_roundw
                case rel => exact ⟨k + 1, by omega, by go_num, hj2.out, by first | rfl | trivial⟩
                case measure => simp [intOf]; omega
        · obtain rfl : k = n := by omega
          have hb2 := HAll.out H5.out HJ.out
          subst hb2
          go_wp2
          first | exact ⟨rfl, rfl⟩ | (go_ret; exact ⟨rfl, rfl⟩)
  · have hf : datesX l = false := by
      unfold datesX
      rw [decide_eq_false (by rw [hn]; exact h5)]
      rfl
    rw [hf] at hb
    subst hb
    have u1 : ((n : Int) != 5) = true := by simp; omega
    have u2 : ((n : Int) != 9) = true := by simp; omega
    clear hn hf h5 hbt HBS HBad HAll
    generalize S l = s at *
    go_enter Tryd.func44, Tryd.ntmps44
    go_wp2
    first | exact ⟨rfl, rfl⟩ | (go_ret; exact ⟨rfl, rfl⟩)
end

section
open Go.RowKit Go.PlainAid
theorem BL.take12 {a : Option Addr} {cap : Nat} {L : List (List UInt8)} {w : World} (h : BL (.slice a L.length cap) L w) (i : Nat) (hi : i ≤ L.length) : BL (.slice a i cap) (L.take i) w := by
  obtain ⟨a', cap', he, h1, h2, h3, h4⟩ := h
  obtain ⟨rfl, -, rfl⟩ := Value.slice.inj he
  have hl : (L.take i).length = i := by rw [List.length_take]; omega
  refine ⟨a, cap, by rw [hl], by rw [hl]; omega, h2, h3, fun k hk => ?_⟩
  rw [hl] at hk
  obtain ⟨g, o, e1, e2, e3⟩ := h4 k (by omega)
  refine ⟨g, o, e1, e2, ?_⟩
  rw [e3, List.getD_eq_getElem?_getD, List.getD_eq_getElem?_getD, List.getElem?_take_of_lt hk]
theorem range_snoc {α : Type} (f : Nat → α) (j : Nat) : (List.range (j + 1)).map f = (List.range j).map f ++ [f j] := by
  rw [List.range_succ, List.map_append]
  rfl
theorem parts_max (l : List UInt8) (h : validT l = true) : ∀ x ∈ partsX l, x.length ≤ 8 * l.length := by
  intro x hx
  obtain ⟨c1, _, rfl, h3⟩ := parts_len l h x hx
  have := enc_le c1
  omega
set_option maxHeartbeats 16000000 in
set_option maxRecDepth 100000 in
theorem refAbove_any (l : List UInt8) (hv : validT l = true) (hl : l.length ≤ 10000) (w : World) :
    Calls Tryd.prog 24 #[.string (S l)] w fun e w' => ∃ v, e = .returned v ∧ SR w.heap.size v (aboveX l) w' ∧ Below w.heap.size w w' := by
  obtain ⟨Q, hQ⟩ : ∃ Q, (fun (e : Ending) (w' : World) => ∃ v, e = .returned v ∧ SR w.heap.size v (aboveX l) w' ∧ Below w.heap.size w w') = Q := ⟨_, rfl⟩
  rw [hQ]
  have HQ : RowKit.Hid (∀ v W, SR w.heap.size v (aboveX l) W → Below w.heap.size w W → Q (.returned v) W) := by rw [← hQ]; exact fun v W h k => ⟨v, rfl, h, k⟩
  clear hQ
  have cS := Lib.hid (refParts_any l hv (by omega) w)
  have hpl := parts_max l hv
  have hpn : (partsX l).length ≤ 100000 := by
    have h1 := nonE_le ((splG dd l).map cleanX)
    have h2 := spl_len dd l.length l (Nat.le_refl _)
    unfold partsX
    rw [List.length_map] at h1
    omega
  unfold aboveX at HQ
  obtain ⟨P, hP⟩ : ∃ P, partsX l = P := ⟨_, rfl⟩
  rw [hP] at cS hpl hpn HQ
  have HG := Lib.hid (fun i v W h => refGlue_any dd (P.take i) v W h (by decide) 100000 (by decide) (fun x hx => Nat.le_trans (hpl x (List.mem_of_mem_take hx)) (by omega)) (by rw [List.length_take]; omega))
  have edd : S dd = ⟨#[45, 45]⟩ := rfl
  rw [edd] at HG
  obtain ⟨n, hn⟩ : ∃ n, P.length = n := ⟨_, rfl⟩
  rw [hn] at hpn
  have HN := Lib.hid hn
  have HSt := Lib.hid (fun j => range_snoc (fun i => gluX dd (P.take (P.length - 1 - i))) j)
  unfold aboveL at HQ
  rw [hn] at HQ HSt
  clear hP hpl edd hl hv hn
  generalize S l = st at *
  go_enter Tryd.func24, Tryd.ntmps24
  go_wp2_with fail
  refine cS.out.mono ?_
  rintro e w1 ⟨v, rfl, hr1, hb1⟩
  obtain ⟨gp, cpp, rfl⟩ := sr_form hr1
  have HP := Lib.hid hr1.bl
  have HB1 := Lib.hid hb1
  have hrow0 := SR.empty w1
  have hbw0 : Below w1.heap.size w1 (w1.alloc (.cells #[] 9)) := (Below.refl _ _).alloc (Nat.le_refl _) _
  have HR0 := Lib.hid hrow0
  have HBw0 := Lib.hid hbw0
  have hmx : n ≤ cpp := by
    have h2 := HP.out
    obtain ⟨a', c', he, h1, _⟩ := h2
    obtain ⟨-, -, rfl⟩ := Value.slice.inj he
    rw [HN.out] at h1
    exact h1
  rw [HN.out]
  clear hr1 hb1 hrow0 hbw0 cS
  by_cases hn0 : n = 0
  · subst hn0
    have HRf := Lib.hid (HR0.out.mono HB1.out.size)
    have HBf := Lib.hid (HB1.out.trans (HBw0.out.mono HB1.out.size))
    go_wp2
    go_loopw [4, 5] (fun v4 v5 wr => v4 = .slice (some ⟨w1.heap.size, 0, none⟩) 0 0 ∧ v5 = .int .i64 (-1) ∧ wr = w1.alloc (.cells #[] 9)) (fun _ _ _ => 0)
    case atStart => exact ⟨rfl, rfl, rfl⟩
    case round =>
      obtain ⟨rfl, rfl, hw⟩ := hrel
      rw [hw]
      go_wp2
      first | exact HQ.out _ _ HRf.out HBf.out | (go_ret; exact HQ.out _ _ HRf.out HBf.out)
  obtain ⟨n', rfl⟩ : ∃ n', n = n' + 1 := ⟨n - 1, by omega⟩
  have hni : (((n' + 1 : Nat)) : Int) - 1 = (n' : Int) := by omega
  have hnw : wrap64 ((((n' + 1 : Nat)) : Int) - 1) = (n' : Int) := by unfold wrap64; omega
  rw [Nat.add_sub_cancel] at HQ HSt
  go_wp2
  go_loopw [4, 5] (fun v4 v5 wr => ∃ (j k g cp : Nat) (D : List (List UInt8)), v4 = .slice (some ⟨g, 0, none⟩) j cp ∧ v5 = .int .i64 (k : Int) ∧ j + k = n' ∧ D.length = j ∧ RowKit.Hid (D = (List.range j).map fun i => gluX dd (P.take (n' - i))) ∧ RowKit.Hid (SR w1.heap.size (.slice (some ⟨g, 0, none⟩) j cp) D wr) ∧ RowKit.Hid (Below w1.heap.size w1 wr)) (fun _ v5 _ => (intOf v5).toNat)
  case atStart => exact ⟨0, n', _, _, [], rfl, by first | rfl | (rw [hni]) | go_num, by omega, rfl, rfl, HR0, HBw0⟩
  case round =>
    obtain ⟨j, k, g, cp, D, rfl, rfl, hjk, hDd, HD, HR, HB⟩ := hrel
    clear HR0 HBw0
    by_cases hk0 : 0 < k
    · have t1 : decide ((0 : Int) < (k : Int)) = true := decide_eq_true (by omega)
      have t1n : decide (0 < k) = true := decide_eq_true hk0
      have i1 : (0 : Int) ≤ (k : Int) := by omega
      have i2 : (k : Int) ≤ (cpp : Int) := by omega
      have i3 : (k : Int) ≤ ((n' + 1 : Nat) : Int) := by omega
      have hbt := HP.out.after HB.out
      have cG := Lib.hid (HG.out k _ wr (hbt.take12 k (by rw [HN.out]; omega)))
      have hst := HSt.out j
      rw [show n' - j = k by omega] at hst
      obtain ⟨y, hy⟩ : ∃ y, gluX dd (P.take k) = y := ⟨_, rfl⟩
      rw [hy] at cG hst
      have HSt2 := Lib.hid hst
      clear hy hst hbt hnw hni
      go_wp2_with fail
      refine cG.out.mono ?_
      rintro e w3 ⟨rfl, hw3⟩
      rw [hw3]
      clear hw3 cG w3
      have HD2 : RowKit.Hid (D ++ [y] = (List.range (j + 1)).map fun i => gluX dd (P.take (n' - i))) := by
        unfold RowKit.Hid
        rw [HSt2.out, HD.out]
      have hsz := HB.out.size
      go_wp2_with (at_builtin; go_loud (refine append_sr _ rfl _ _ rfl w1.heap.size (.slice (some ⟨g, 0, none⟩) j cp) D y rfl HR.out rfl (by omega) hsz w1.heap.size w1 (Nat.le_refl _) HB.out ?_))
      intro v2 w3 hr3 hb3
      (try intro _)
      obtain ⟨g3, cp3, rfl⟩ := sr_form hr3
      have hl3 : (D ++ [y]).length = j + 1 := by rw [List.length_append, hDd]; rfl
      have HL3 := Lib.hid hl3
      rw [hl3] at hr3 ⊢
      have HR3 := Lib.hid hr3
      have HB3 := Lib.hid hb3
      have HKm : RowKit.Hid (((k - 1 : Nat) : Int) = (k : Int) - 1) := by unfold RowKit.Hid; omega
      clear hr3 hb3 hl3
      go_wp2
      go_roundw
      case rel => exact ⟨j + 1, k - 1, g3, cp3, D ++ [y], by first | rfl | trivial, by first | rfl | (rw [HKm.out]) | go_num, by omega, HL3.out, HD2, HR3, HB3⟩
      case measure => simp [intOf]; omega
    · obtain rfl : k = 0 := by omega
      obtain rfl : j = n' := by omega
      have hD := HD.out
      subst hD
      have HRf := Lib.hid (HR.out.mono HB1.out.size)
      have HBf := Lib.hid (HB1.out.trans (HB.out.mono HB1.out.size))
      clear HD hnw hni
      go_wp2
      first | exact HQ.out _ _ HRf.out HBf.out | (go_ret; exact HQ.out _ _ HRf.out HBf.out)
end

end Go.Proofs.YtjfbbpppdlaapaaDoor
