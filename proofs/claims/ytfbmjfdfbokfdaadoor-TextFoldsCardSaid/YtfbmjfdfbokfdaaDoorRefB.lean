/- The reference's functions of layer 1 over texts: size, Runes, Clip, blank, letter and fold. -/
import Derived.Test.YtfbmjfdfbokfdaaDoorRefA
import Derived.Test.YtfbmjfdfbokfdaaDoorAlive
import Derived.Test.YtfbmjfdfbokfdaaDoorLists
namespace Go.Proofs.YtfbmjfdfbokfdaaDoor
open Go.RowKit

theorem wid_bad : wid 65533 = 3 := by decide
theorem good_T (c : Nat) (h : okc c) : goodP (c, wid c) := by
  refine ⟨?_, ?_⟩
  · rintro ⟨h1, h2⟩
    simp only at h1 h2
    subst h1
    rw [wid_bad] at h2
    omega
  · unfold okc at h
    simp only
    omega
theorem refDec_T (cs : List Nat) (h : OKs cs) (k : Nat) (hk : k < cs.length) : refDec (T cs) (off cs k) = (cs[k], wid cs[k]) := by
  unfold refDec
  rw [decode_T cs h k hk, if_pos (good_T _ (OKs_get h hk))]
theorem decode_refT (cs : List Nat) (h : OKs cs) (hz : (T cs).size ≤ 1000000) (k : Nat) (hk : k < cs.length) (w : World) :
    Calls Tryd.prog 28 #[.string (T cs), .int .i64 (off cs k)] w fun e w' => e = .returned (.tuple #[.int .i64 (cs[k] : Nat), .int .i64 (wid cs[k])]) ∧ Below w.heap.size w w' := by
  have := decode_ref (T cs) (off cs k) (off_lt cs k hk) hz w
  rw [refDec_T cs h k hk] at this
  exact this
theorem size_refT (cs : List Nat) (h : OKs cs) (hz : (T cs).size ≤ 1000000) (k : Nat) (hk : k < cs.length) (w : World) :
    Calls Tryd.prog 29 #[.string (T cs), .int .i64 (off cs k)] w fun e w' => e = .returned (.int .i64 (wid cs[k])) ∧ Below w.heap.size w w' := by
  have := size_ref (T cs) (off cs k) (off_lt cs k hk) hz w
  rw [refDec_T cs h k hk] at this
  have hw := wid_pos cs[k]
  rw [show max ((cs[k], wid cs[k]) : Nat × Nat).2 1 = wid cs[k] from by simp only; omega] at this
  exact this

set_option maxHeartbeats 1000000 in
theorem refBlank_any (c : Nat) (hc : c ≤ 1114111) (b : Bool) (hb : blankc c = b) (w : World) :
    Calls Tryd.prog 35 #[.int .i64 (c : Int)] w fun e w' => e = .returned (.bool b) ∧ w = w' := by
  have H := Lib.hid hb
  clear hb
  by_cases h1 : c = 32
  · subst h1
    obtain rfl : b = true := by have := H.out; rw [← this]; rfl
    clear H
    go_enter Tryd.func35, Tryd.ntmps35
    go_wp2
    go_ret
    exact ⟨rfl, rfl⟩
  · have e1 : ((c : Int) == 32) = false := by simp; omega
    by_cases h2 : c = 160
    · subst h2
      obtain rfl : b = true := by have := H.out; rw [← this]; rfl
      clear H e1 h1
      go_enter Tryd.func35, Tryd.ntmps35
      go_wp2
      go_ret
      exact ⟨rfl, rfl⟩
    · obtain rfl : b = false := by have := H.out; rw [← this]; simp [blankc, h1, h2]
      have e2 : ((c : Int) == 160) = false := by simp; omega
      clear H h1 h2
      go_enter Tryd.func35, Tryd.ntmps35
      go_wp2
      go_ret
      exact ⟨rfl, rfl⟩


set_option maxHeartbeats 1000000 in
theorem refLetter_any (c : Nat) (hc : c ≤ 1114111) (b : Bool) (hb : letterc c = b) (w : World) :
    Calls Tryd.prog 39 #[.int .i64 (c : Int)] w fun e w' => e = .returned (.bool b) ∧ w = w' := by
  have H := Lib.hid hb
  clear hb
  by_cases h6 : 256 ≤ c
  · obtain rfl : b = true := by have := H.out; rw [← this]; simp [letterc, h6]
    have d1 : decide ((97 : Int) ≤ (c : Int)) = true := by simp; omega
    have d2 : decide ((c : Int) ≤ 122) = false := by simp; omega
    have d3 : decide ((48 : Int) ≤ (c : Int)) = true := by simp; omega
    have d4 : decide ((c : Int) ≤ 57) = false := by simp; omega
    have d5 : decide ((256 : Int) ≤ (c : Int)) = true := by simp; omega
    clear H h6
    go_enter Tryd.func39, Tryd.ntmps39
    go_wp2
    go_ret
    exact ⟨rfl, rfl⟩
  · have d5 : decide ((256 : Int) ≤ (c : Int)) = false := by simp; omega
    by_cases h1 : 97 ≤ c
    · have d1 : decide ((97 : Int) ≤ (c : Int)) = true := by simp; omega
      by_cases h2 : c ≤ 122
      · obtain rfl : b = true := by have := H.out; rw [← this]; simp [letterc, h1, h2]
        have d2 : decide ((c : Int) ≤ 122) = true := by simp; omega
        clear H h1 h2 h6
        go_enter Tryd.func39, Tryd.ntmps39
        go_wp2
        go_ret
        exact ⟨rfl, rfl⟩
      · obtain rfl : b = false := by have := H.out; rw [← this]; simp [letterc, h2]; omega
        have d2 : decide ((c : Int) ≤ 122) = false := by simp; omega
        have d3 : decide ((48 : Int) ≤ (c : Int)) = true := by simp; omega
        have d4 : decide ((c : Int) ≤ 57) = false := by simp; omega
        clear H h1 h2 h6
        go_enter Tryd.func39, Tryd.ntmps39
        go_wp2
        go_ret
        exact ⟨rfl, rfl⟩
    · have d1 : decide ((97 : Int) ≤ (c : Int)) = false := by simp; omega
      by_cases h3 : 48 ≤ c
      · have d3 : decide ((48 : Int) ≤ (c : Int)) = true := by simp; omega
        by_cases h4 : c ≤ 57
        · obtain rfl : b = true := by have := H.out; rw [← this]; simp [letterc, h3, h4]
          have d4 : decide ((c : Int) ≤ 57) = true := by simp; omega
          clear H h1 h3 h4 h6
          go_enter Tryd.func39, Tryd.ntmps39
          go_wp2
          go_ret
          exact ⟨rfl, rfl⟩
        · obtain rfl : b = false := by have := H.out; rw [← this]; simp [letterc, h4]; omega
          have d4 : decide ((c : Int) ≤ 57) = false := by simp; omega
          clear H h1 h3 h4 h6
          go_enter Tryd.func39, Tryd.ntmps39
          go_wp2
          go_ret
          exact ⟨rfl, rfl⟩
      · obtain rfl : b = false := by have := H.out; rw [← this]; simp [letterc]; omega
        have d3 : decide ((48 : Int) ≤ (c : Int)) = false := by simp; omega
        clear H h1 h3 h6
        go_enter Tryd.func39, Tryd.ntmps39
        go_wp2
        go_ret
        exact ⟨rfl, rfl⟩


/-- What the reference's fold returns: nothing for a character that stays. -/
def ff (c : Nat) : List Nat := if 65 ≤ c ∧ c ≤ 90 then [c + 32] else if c < 192 ∨ 255 < c ∨ c = 215 ∨ c = 247 then [] else accL.getD (c - 192) []
theorem ff_fold (c : Nat) : foldc c = if ff c = [] then [c] else ff c := by
  by_cases h : c < 256
  · have : ∀ i : Fin 256, foldc i.val = if ff i.val = [] then [i.val] else ff i.val := by decide +kernel
    exact this ⟨c, h⟩
  · have e1 : foldc c = [c] := by unfold foldc; rw [if_neg (by omega), if_neg (by omega)]
    have e2 : ff c = [] := by unfold ff; rw [if_neg (by omega), if_pos (by omega)]
    rw [e1, e2]; rfl
theorem ret_string {a b : ByteArray} (h : a = b) : Ending.returned (.string a) = .returned (.string b) := by rw [h]

set_option maxHeartbeats 8000000 in
theorem refFold_low (c : Nat) (h : 65 ≤ c ∧ c ≤ 90) (w : World) :
    Calls Tryd.prog 37 #[.int .i64 (c : Int)] w fun e w' => e = .returned (.string (T (ff c))) ∧ w = w' := by
  have hc : c = 65 ∨ c = 66 ∨ c = 67 ∨ c = 68 ∨ c = 69 ∨ c = 70 ∨ c = 71 ∨ c = 72 ∨ c = 73 ∨ c = 74 ∨ c = 75 ∨ c = 76 ∨ c = 77 ∨ c = 78 ∨ c = 79 ∨ c = 80 ∨ c = 81 ∨ c = 82 ∨ c = 83 ∨ c = 84 ∨ c = 85 ∨ c = 86 ∨ c = 87 ∨ c = 88 ∨ c = 89 ∨ c = 90 := by omega
  clear h
  rcases hc with rfl | rfl | rfl | rfl | rfl | rfl | rfl | rfl | rfl | rfl | rfl | rfl | rfl | rfl | rfl | rfl | rfl | rfl | rfl | rfl | rfl | rfl | rfl | rfl | rfl | rfl
  all_goals
    go_enter Tryd.func37, Tryd.ntmps37
    go_wp2
    go_ret
    exact ⟨ret_string (by kernel_rfl), rfl⟩

set_option maxHeartbeats 8000000 in
theorem refFold_high (c : Nat) (h : 192 ≤ c ∧ c ≤ 255) (w : World) :
    Calls Tryd.prog 37 #[.int .i64 (c : Int)] w fun e w' => e = .returned (.string (T (ff c))) ∧ w = w' := by
  have hc : c = 192 ∨ c = 193 ∨ c = 194 ∨ c = 195 ∨ c = 196 ∨ c = 197 ∨ c = 198 ∨ c = 199 ∨ c = 200 ∨ c = 201 ∨ c = 202 ∨ c = 203 ∨ c = 204 ∨ c = 205 ∨ c = 206 ∨ c = 207 ∨ c = 208 ∨ c = 209 ∨ c = 210 ∨ c = 211 ∨ c = 212 ∨ c = 213 ∨ c = 214 ∨ c = 215 ∨ c = 216 ∨ c = 217 ∨ c = 218 ∨ c = 219 ∨ c = 220 ∨ c = 221 ∨ c = 222 ∨ c = 223 ∨ c = 224 ∨ c = 225 ∨ c = 226 ∨ c = 227 ∨ c = 228 ∨ c = 229 ∨ c = 230 ∨ c = 231 ∨ c = 232 ∨ c = 233 ∨ c = 234 ∨ c = 235 ∨ c = 236 ∨ c = 237 ∨ c = 238 ∨ c = 239 ∨ c = 240 ∨ c = 241 ∨ c = 242 ∨ c = 243 ∨ c = 244 ∨ c = 245 ∨ c = 246 ∨ c = 247 ∨ c = 248 ∨ c = 249 ∨ c = 250 ∨ c = 251 ∨ c = 252 ∨ c = 253 ∨ c = 254 ∨ c = 255 := by omega
  clear h
  rcases hc with rfl | rfl | rfl | rfl | rfl | rfl | rfl | rfl | rfl | rfl | rfl | rfl | rfl | rfl | rfl | rfl | rfl | rfl | rfl | rfl | rfl | rfl | rfl | rfl | rfl | rfl | rfl | rfl | rfl | rfl | rfl | rfl | rfl | rfl | rfl | rfl | rfl | rfl | rfl | rfl | rfl | rfl | rfl | rfl | rfl | rfl | rfl | rfl | rfl | rfl | rfl | rfl | rfl | rfl | rfl | rfl | rfl | rfl | rfl | rfl | rfl | rfl | rfl | rfl
  all_goals
    go_enter Tryd.func37, Tryd.ntmps37
    go_wp2
    go_ret
    exact ⟨ret_string (by kernel_rfl), rfl⟩

set_option maxHeartbeats 4000000 in
theorem refFold_none (c : Nat) (hc : c ≤ 1114111) (h : c < 65 ∨ (90 < c ∧ c < 192) ∨ 255 < c) (w : World) :
    Calls Tryd.prog 37 #[.int .i64 (c : Int)] w fun e w' => e = .returned (.string (T (ff c))) ∧ w = w' := by
  have e0 : T (ff c) = ⟨#[]⟩ := by
    unfold ff
    rw [if_neg (by omega), if_pos (by omega)]
    rfl
  rw [e0]
  clear e0
  rcases h with h | ⟨h1, h2⟩ | h
  · have d1 : decide ((65 : Int) ≤ (c : Int)) = false := by simp; omega
    have d2 : decide ((c : Int) < 192) = true := by simp; omega
    go_enter Tryd.func37, Tryd.ntmps37
    go_wp2
    go_ret
    exact ⟨rfl, rfl⟩
  · have d1 : decide ((65 : Int) ≤ (c : Int)) = true := by simp; omega
    have d3 : decide ((c : Int) ≤ 90) = false := by simp; omega
    have d2 : decide ((c : Int) < 192) = true := by simp; omega
    go_enter Tryd.func37, Tryd.ntmps37
    go_wp2
    go_ret
    exact ⟨rfl, rfl⟩
  · have d1 : decide ((65 : Int) ≤ (c : Int)) = true := by simp; omega
    have d3 : decide ((c : Int) ≤ 90) = false := by simp; omega
    have d2 : decide ((c : Int) < 192) = false := by simp; omega
    have d4 : decide ((255 : Int) < (c : Int)) = true := by simp; omega
    go_enter Tryd.func37, Tryd.ntmps37
    go_wp2
    go_ret
    exact ⟨rfl, rfl⟩
theorem refFold_any (c : Nat) (hc : c ≤ 1114111) (w : World) :
    Calls Tryd.prog 37 #[.int .i64 (c : Int)] w fun e w' => e = .returned (.string (T (ff c))) ∧ w = w' := by
  by_cases h1 : 65 ≤ c ∧ c ≤ 90
  · exact refFold_low c h1 w
  by_cases h2 : 192 ≤ c ∧ c ≤ 255
  · exact refFold_high c h2 w
  · exact refFold_none c hc (by omega) w

set_option maxHeartbeats 2000000 in
theorem refRunes_any (cs : List Nat) (h : OKs cs) (s : ByteArray) (hs : s = T cs) (hz : s.size ≤ 1000000) (n : Int) (hn : (cs.length : Int) = n) (w : World) :
    Calls Tryd.prog 13 #[.string s] w fun e w' => e = .returned (.int .i64 n) ∧ Below w.heap.size w w' := by
  subst hs
  have hll := len_le cs
  have HNN := Lib.hid hn
  clear hn
  have HH := Lib.hid h
  clear h
  go_enter Tryd.func13, Tryd.ntmps13
  go_wp2
  go_loopw [3, 4] (fun m i wr => ∃ k : Nat, k ≤ cs.length ∧ m = .int .i64 k ∧ i = .int .i64 (off cs k) ∧ Below w.heap.size w wr) (fun m _ _ => cs.length - (intOf m).toNat)
  case atStart => exact ⟨0, Nat.zero_le _, rfl, by rw [off_zero]; rfl, Below.refl _ _⟩
  case round =>
    obtain ⟨k, hk, rfl, rfl, hbw⟩ := hrel
    have hsz := hbw.size
    by_cases hlt : k < cs.length
    · have hol := off_lt cs k hlt
      have cS := size_refT cs HH.out hz k hlt wr
      have hwp := wid_pos cs[k]
      have HOS := Lib.hid (off_succ cs k hlt)
      generalize cs[k] = c at cS hwp HOS
      go_wp2_with fail
      refine cS.mono ?_
      rintro e w1 ⟨rfl, b1⟩
      have b2 := hbw.trans (b1.mono hsz)
      clear b1
      go_wp2
      go_roundw
      case rel => exact ⟨k + 1, by omega, by go_num, by rw [HOS.out]; go_num, b2⟩
      case measure => simp [intOf]; omega
    · obtain rfl : k = cs.length := by omega
      have hof := T_off cs
      have hnl : ¬ (off cs cs.length < (T cs).size) := by omega
      clear hof
      go_wp2
      go_ret
      refine ⟨?_, hbw⟩
      rw [← HNN.out]
      rfl

set_option maxHeartbeats 2000000 in
theorem refClip_any (cs : List Nat) (h : OKs cs) (s t : ByteArray) (hs : s = T cs) (hz : s.size ≤ 1000000) (n : Int) (hn0 : -9223372036854775808 ≤ n) (hn1 : n ≤ 9223372036854775807) (ht : T (cs.take n.toNat) = t) (w : World) :
    Calls Tryd.prog 15 #[.string s, .int .i64 n] w fun e w' => e = .returned (.string t) ∧ Below w.heap.size w w' := by
  subst hs
  have hll := len_le cs
  have HTT := Lib.hid ht
  clear ht
  have HH := Lib.hid h
  clear h
  go_enter Tryd.func15, Tryd.ntmps15
  go_wp2
  go_loopw [1, 5] (fun m i wr => ∃ k : Nat, k ≤ cs.length ∧ k ≤ n.toNat ∧ m = .int .i64 (n - k) ∧ i = .int .i64 (off cs k) ∧ Below w.heap.size w wr) (fun m _ _ => (intOf m).toNat)
  case atStart => exact ⟨0, Nat.zero_le _, Nat.zero_le _, by simp, by rw [off_zero]; rfl, Below.refl _ _⟩
  case round =>
    obtain ⟨k, hk, hkn, rfl, rfl, hbw⟩ := hrel
    have hsz := hbw.size
    have hole := off_le cs k
    have HEX := Lib.hid (extract_T0 cs k)
    by_cases hlt : k < cs.length
    · have hol := off_lt cs k hlt
      have cS := size_refT cs HH.out hz k hlt wr
      have hwp := wid_pos cs[k]
      have HOS := Lib.hid (off_succ cs k hlt)
      generalize cs[k] = c at cS hwp HOS
      by_cases hnk : (k : Int) < n
      · have d1 : decide ((0 : Int) < n - (k : Int)) = true := by simp; omega
        go_wp2_with fail
        refine cS.mono ?_
        rintro e w1 ⟨rfl, b1⟩
        have b2 := hbw.trans (b1.mono hsz)
        clear b1
        go_wp2
        go_roundw
        case rel => exact ⟨k + 1, by omega, by omega, by simp; omega, by rw [HOS.out]; go_num, b2⟩
        case measure => simp [intOf]; omega
      · have d1 : decide ((0 : Int) < n - (k : Int)) = false := by simp; omega
        have HKN := Lib.hid hnk
        clear hnk cS
        go_wp2
        go_ret
        refine ⟨?_, hbw⟩
        rw [← HTT.out, HEX.out, show n.toNat = k by have := HKN.out; omega]
        rfl
    · obtain rfl : k = cs.length := by omega
      have hof := T_off cs
      have hnl : ¬ (off cs cs.length < (T cs).size) := by omega
      clear hof
      go_wp2
      go_ret
      refine ⟨?_, hbw⟩
      rw [← HTT.out, HEX.out, List.take_length, List.take_of_length_le (by omega)]
      rfl
end Go.Proofs.YtfbmjfdfbokfdaaDoor
