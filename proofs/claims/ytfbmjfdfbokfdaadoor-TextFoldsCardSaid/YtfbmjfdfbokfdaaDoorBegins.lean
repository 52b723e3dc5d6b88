/- The statement TextBegins, walked: it returns true for every string and every number. -/
import Derived.Test.YtfbmjfdfbokfdaaDoorAlive
namespace Go.Proofs.YtfbmjfdfbokfdaaDoor
open Go.RowKit

theorem space_is (s : ByteArray) (cs : List Nat) (h : OKs cs) (hs : s = T cs) (b : Bool) (hb : cs.all blankc = b) (w : World) :
    Calls Tryd.prog 18 #[.string s] w fun e w' => e = .returned (.bool b) ∧ Below w.heap.size w w' := by
  have := space_any cs h s hs w
  rwa [hb] at this

theorem runes_int (s : ByteArray) (cs : List Nat) (h : OKs cs) (hs : s = T cs) (hz : s.size ≤ 9223372036854775807) (n : Int) (hn : (cs.length : Int) = n) (w : World) :
    Calls Tryd.prog 12 #[.string s] w fun e w' => e = .returned (.int .i64 n) ∧ Below w.heap.size w w' := by
  have := runes_any cs h s hs hz w
  rwa [hn] at this
theorem T_facts (x : List Nat) (h : x ≠ []) : (T x).toList.isEmpty = false ∧ ¬ (T x).toList = [] := by
  have h1 : 0 < (T x).size := by
    rcases Nat.eq_zero_or_pos (T x).size with h0 | h0
    · exact absurd ((T_size_zero x).1 h0) h
    · exact h0
  have h2 : (T x).toList = enc x := by
    rw [← T_list]
    exact ByteArray.toList_eq _
  have h3 : ¬ enc x = [] := by
    intro h0
    rw [T_size, h0] at h1
    exact absurd h1 (by simp)
  rw [h2]
  refine ⟨?_, h3⟩
  cases he : enc x with
  | nil => exact absurd he h3
  | cons _ _ => rfl

set_option maxHeartbeats 4000000 in
theorem begins_any (s : ByteArray) (hs : s.size ≤ 9223372036854775807) (n : Int) (hn0 : -9223372036854775808 ≤ n) (hn1 : n ≤ 9223372036854775807) (w : World) (hE : Env w) :
    Calls Tryd.prog 8 #[.string s, .int .i64 n] w fun e w' => e = .returned (.bool true) ∧ Below w.heap.size w w' := by
  have h3 := hE.1
  have HE := Lib.hid hE
  clear hE
  by_cases hbig : 1000 < s.size
  · have d1 : decide ((1000 : Int) < (s.size : Int)) = true := by simp; omega
    go_enter Tryd.func8, Tryd.ntmps8
    go_wp2_with fail
    refine (alive_any _ HE.out).mono ?_
    rintro e w1 ⟨rfl, b1⟩
    go_wp2
    go_ret
    exact ⟨rfl, b1⟩
  · have d1 : decide ((1000 : Int) < (s.size : Int)) = false := by simp; omega
    cases hv : validT s.data.toList
    · have HV := Lib.hid hv
      clear hv
      go_enter Tryd.func8, Tryd.ntmps8
      go_wp2_with fail
      refine (alive_any _ HE.out).mono ?_
      rintro e w1 ⟨rfl, b1⟩
      go_wp2_with fail
      refine (valid_is _ false HV.out (by omega) _ (HE.out.after b1)).mono ?_
      rintro e w2 ⟨rfl, b2'⟩
      have b2 := b1.trans (b2'.mono b1.size)
      clear b2' b1
      go_wp2
      go_ret
      exact ⟨rfl, b2⟩
    · have HV := Lib.hid hv
      obtain ⟨cs, hok, rfl⟩ := text_of hv
      clear hv
      have hlen := len_le cs
      have hl9 : cs.length ≤ 1000 := by omega
      have HO := Lib.hid hok
      clear hok
      have HO2 := Lib.hid (OKs_take HO.out n.toNat)
      have HX := Lib.hid (extract_T0 cs n.toNat)
      have hoff := off_le cs n.toNat
      have HZ : RowKit.Hid ((T (cs.take n.toNat)).size = off cs n.toNat) := by
        unfold RowKit.Hid; rw [T_size]; rfl
      have hzl : (T (cs.take n.toNat)).size ≤ (T cs).size := by rw [HZ.out]; exact hoff
      have d2 : decide (((T cs).size : Int) < ((T (cs.take n.toNat)).size : Int)) = false := by simp; omega
      have hex : (T cs).extract 0 (T (cs.take n.toNat)).size = T (cs.take n.toNat) := by rw [HZ.out]; exact HX.out
      have HT : RowKit.Hid ((cs.take n.toNat).take n.toNat = cs.take n.toNat) := by
        unfold RowKit.Hid; rw [List.take_take, Nat.min_self]
      have HL := Lib.hid (List.length_take (i := n.toNat) (l := cs))
      generalize hd : cs.take n.toNat = ds at HO2 HX HZ hzl d2 hex HT HL
      have HD := Lib.hid hd
      clear hd
      go_enter Tryd.func8, Tryd.ntmps8
      go_wp2_with fail
      refine (alive_any _ HE.out).mono ?_
      rintro e w1 ⟨rfl, b1⟩
      go_wp2_with fail
      refine (valid_is _ true HV.out (by omega) _ (HE.out.after b1)).mono ?_
      rintro e w2 ⟨rfl, b2'⟩
      have b2 := b1.trans (b2'.mono b1.size)
      clear b2' b1
      go_wp2_with fail
      refine (clip_is _ (T ds) cs HO.out rfl n hn0 hn1 (by rw [HD.out]) _).mono ?_
      rintro e w3 ⟨rfl, b3'⟩
      have b3 := b2.trans (b3'.mono b2.size)
      clear b3' b2
      go_wp2_with fail
      refine (clip_is _ (T ds) ds HO2.out rfl n hn0 hn1 (by rw [HT.out]) _).mono ?_
      rintro e w4 ⟨rfl, b4'⟩
      have b4 := b3.trans (b4'.mono b3.size)
      clear b4' b3
      go_wp2_with fail
      refine (valid_is _ true (validT_T ds HO2.out) (by omega) _ (HE.out.after b4)).mono ?_
      rintro e w5 ⟨rfl, b5'⟩
      have b5 := b4.trans (b5'.mono b4.size)
      clear b5' b4
      by_cases hneg : n < 0
      · have d3 : decide (n < 0) = true := by simp; omega
        have HDL : RowKit.Hid ((ds.length : Int) = 0) := by unfold RowKit.Hid; have := HL.out; omega
        have d4 : decide ((cs.length : Int) < 0) = false := by simp
        clear hneg
        go_wp2_with fail
        refine (runes_int _ cs HO.out rfl (by omega) cs.length rfl _).mono ?_
        rintro e w6 ⟨rfl, b6'⟩
        have b6 := b5.trans (b6'.mono b5.size)
        clear b6' b5
        go_wp2_with fail
        refine (runes_int _ ds HO2.out rfl (by omega) 0 HDL.out _).mono ?_
        rintro e w7 ⟨rfl, b7'⟩
        have b7 := b6.trans (b7'.mono b6.size)
        clear b7' b6
        cases hb : cs.all blankc
        · have HB := Lib.hid hb
          clear hb
          have hne : cleanL cs ≠ [] := by
            intro h0
            rw [(clean_nil cs).1 h0] at HB
            exact absurd HB.out (by simp)
          obtain ⟨f1, f2⟩ := T_facts _ hne
          clear hne
          go_wp2_with fail
          refine (space_is _ cs HO.out rfl false HB.out _).mono ?_
          rintro e w8 ⟨rfl, b8'⟩
          have b8 := b7.trans (b8'.mono b7.size)
          clear b8' b7
          go_wp2_with fail
          refine (clean_any cs HO.out _ rfl (by omega) _).mono ?_
          rintro e w9 ⟨rfl, b9'⟩
          have b9 := b8.trans (b9'.mono b8.size)
          clear b9' b8
          go_wp2
          go_ret
          exact ⟨rfl, b9⟩
        · have HB := Lib.hid hb
          clear hb
          go_wp2_with fail
          refine (space_is _ cs HO.out rfl true HB.out _).mono ?_
          rintro e w8 ⟨rfl, b8'⟩
          have b8 := b7.trans (b8'.mono b7.size)
          clear b8' b7
          go_wp2_with fail
          refine (clean_is _ ⟨#[]⟩ cs HO.out rfl (by omega) (by rw [(clean_nil cs).2 HB.out]; rfl) _).mono ?_
          rintro e w9 ⟨rfl, b9'⟩
          have b9 := b8.trans (b9'.mono b8.size)
          clear b9' b8
          go_wp2
          go_ret
          exact ⟨rfl, b9⟩
      · have d3 : decide (n < 0) = false := by simp; omega
        by_cases hgt : (cs.length : Int) < n
        · have d4 : decide ((cs.length : Int) < n) = true := by simp; omega
          have HDL : RowKit.Hid ((ds.length : Int) = cs.length) := by unfold RowKit.Hid; have := HL.out; omega
          clear hneg hgt
          go_wp2_with fail
          refine (runes_int _ cs HO.out rfl (by omega) cs.length rfl _).mono ?_
          rintro e w6 ⟨rfl, b6'⟩
          have b6a := b5.trans (b6'.mono b5.size)
          clear b6' b5
          go_wp2_with fail
          refine (runes_int _ cs HO.out rfl (by omega) cs.length rfl _).mono ?_
          rintro e w6a ⟨rfl, b6'⟩
          have b6 := b6a.trans (b6'.mono b6a.size)
          clear b6' b6a
          go_wp2_with fail
          refine (runes_int _ ds HO2.out rfl (by omega) cs.length HDL.out _).mono ?_
          rintro e w7 ⟨rfl, b7'⟩
          have b7 := b6.trans (b7'.mono b6.size)
          clear b7' b6
          cases hb : cs.all blankc
          · have HB := Lib.hid hb
            clear hb
            have hne : cleanL cs ≠ [] := by
              intro h0
              rw [(clean_nil cs).1 h0] at HB
              exact absurd HB.out (by simp)
            obtain ⟨f1, f2⟩ := T_facts _ hne
            clear hne
            go_wp2_with fail
            refine (space_is _ cs HO.out rfl false HB.out _).mono ?_
            rintro e w8 ⟨rfl, b8'⟩
            have b8 := b7.trans (b8'.mono b7.size)
            clear b8' b7
            go_wp2_with fail
            refine (clean_any cs HO.out _ rfl (by omega) _).mono ?_
            rintro e w9 ⟨rfl, b9'⟩
            have b9 := b8.trans (b9'.mono b8.size)
            clear b9' b8
            go_wp2
            go_ret
            exact ⟨rfl, b9⟩
          · have HB := Lib.hid hb
            clear hb
            go_wp2_with fail
            refine (space_is _ cs HO.out rfl true HB.out _).mono ?_
            rintro e w8 ⟨rfl, b8'⟩
            have b8 := b7.trans (b8'.mono b7.size)
            clear b8' b7
            go_wp2_with fail
            refine (clean_is _ ⟨#[]⟩ cs HO.out rfl (by omega) (by rw [(clean_nil cs).2 HB.out]; rfl) _).mono ?_
            rintro e w9 ⟨rfl, b9'⟩
            have b9 := b8.trans (b9'.mono b8.size)
            clear b9' b8
            go_wp2
            go_ret
            exact ⟨rfl, b9⟩
        · have d4 : decide ((cs.length : Int) < n) = false := by simp; omega
          have HDL : RowKit.Hid ((ds.length : Int) = n) := by unfold RowKit.Hid; have := HL.out; omega
          clear hneg hgt
          go_wp2_with fail
          refine (runes_int _ cs HO.out rfl (by omega) cs.length rfl _).mono ?_
          rintro e w6 ⟨rfl, b6'⟩
          have b6 := b5.trans (b6'.mono b5.size)
          clear b6' b5
          go_wp2_with fail
          refine (runes_int _ ds HO2.out rfl (by omega) n HDL.out _).mono ?_
          rintro e w7 ⟨rfl, b7'⟩
          have b7 := b6.trans (b7'.mono b6.size)
          clear b7' b6
          cases hb : cs.all blankc
          · have HB := Lib.hid hb
            clear hb
            have hne : cleanL cs ≠ [] := by
              intro h0
              rw [(clean_nil cs).1 h0] at HB
              exact absurd HB.out (by simp)
            obtain ⟨f1, f2⟩ := T_facts _ hne
            clear hne
            go_wp2_with fail
            refine (space_is _ cs HO.out rfl false HB.out _).mono ?_
            rintro e w8 ⟨rfl, b8'⟩
            have b8 := b7.trans (b8'.mono b7.size)
            clear b8' b7
            go_wp2_with fail
            refine (clean_any cs HO.out _ rfl (by omega) _).mono ?_
            rintro e w9 ⟨rfl, b9'⟩
            have b9 := b8.trans (b9'.mono b8.size)
            clear b9' b8
            go_wp2
            go_ret
            exact ⟨rfl, b9⟩
          · have HB := Lib.hid hb
            clear hb
            go_wp2_with fail
            refine (space_is _ cs HO.out rfl true HB.out _).mono ?_
            rintro e w8 ⟨rfl, b8'⟩
            have b8 := b7.trans (b8'.mono b7.size)
            clear b8' b7
            go_wp2_with fail
            refine (clean_is _ ⟨#[]⟩ cs HO.out rfl (by omega) (by rw [(clean_nil cs).2 HB.out]; rfl) _).mono ?_
            rintro e w9 ⟨rfl, b9'⟩
            have b9 := b8.trans (b9'.mono b8.size)
            clear b9' b8
            go_wp2
            go_ret
            exact ⟨rfl, b9⟩
end Go.Proofs.YtfbmjfdfbokfdaaDoor
