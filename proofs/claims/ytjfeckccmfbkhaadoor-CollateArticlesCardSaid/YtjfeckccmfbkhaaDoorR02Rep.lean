/- libraryref02.replaced and letter, at every language and every character that a text may have. -/
import Derived.Test.YtjfeckccmfbkhaaDoorPlain02
import Derived.Test.YtjfeckccmfbkhaaDoorIter
import Derived.Laws.Concat
namespace Go.Proofs.YtjfeckccmfbkhaaDoor
open Go.RowKit

theorem ret_str {a b : ByteArray} (h : a = b) : Ending.returned (.string a) = .returned (.string b) := by rw [h]
theorem lang_ne (lang : ByteArray) (l : List UInt8) (h : ¬ lang = ⟨l.toArray⟩) : (lang.toList == l) = false := by
  rw [beq_eq_false_iff_ne]
  intro e
  apply h
  rw [ByteArray.toList_eq] at e
  obtain ⟨d⟩ := lang
  obtain ⟨k⟩ := d
  simp only at e
  subst e
  rfl
/-- string(c) of a character that a text may have. -/
theorem encode_ch (c : Nat) (h : okc c) : Utf8.encode (c : Int) = T [c] := by
  have hv : Utf8.valid (c : Int) = true := by
    unfold okc at h
    simp [Utf8.valid]
    omega
  unfold T
  rw [enc_one]
  unfold Utf8.encode
  rw [hv]
  simp only [if_true, Int.toNat_natCast]
  unfold okc at h
  by_cases h1 : c < 128
  · rw [if_pos h1]
    unfold Lib.encodeRune
    rw [Lib.encodeRuneZ_one (by omega) (by omega)]
    simp
  by_cases h2 : c < 2048
  · rw [if_neg h1, if_pos h2]
    unfold Lib.encodeRune
    rw [Lib.encodeRuneZ_two (by omega) (by omega)]
    simp only [List.map_cons, List.map_nil]
    rw [show (192 + (c : Int) / 64).toNat = 192 + c / 64 by omega, show (128 + (c : Int) % 64).toNat = 128 + c % 64 by omega]
  · rw [if_neg h1, if_neg h2, if_pos (by omega)]
    unfold Lib.encodeRune
    rw [Lib.encodeRuneZ_three (by omega)]
    simp only [List.map_cons, List.map_nil]
    rw [show (224 + (c : Int) / 4096).toNat = 224 + c / 4096 by omega, show (128 + (c : Int) / 64 % 64).toNat = 128 + c / 64 % 64 by omega, show (128 + (c : Int) % 64).toNat = 128 + c % 64 by omega]

set_option maxHeartbeats 4000000 in
theorem rep_mark (lang : ByteArray) (c : Nat) (h : 123 ≤ c ∧ c ≤ 126) (w : World) :
    Calls Tryd.prog 36 #[.string lang, .int .i32 (c : Int)] w fun e w' => e = .returned (.string (T ([32]))) ∧ w = w' := by
  obtain ⟨c1, c2⟩ := h
  have d1 : decide ((123 : Int) ≤ (c : Int)) = true := by simp; omega
  have d2 : decide ((c : Int) ≤ 126) = true := by simp; omega
  go_enter Tryd.func36, Tryd.ntmps36
  go_wp2
  go_ret
  exact ⟨ret_str (by kernel_rfl), rfl⟩

set_option maxHeartbeats 4000000 in
theorem rep_ger_in (c : Nat) (h : c = 196 ∨ c = 228 ∨ c = 214 ∨ c = 246 ∨ c = 220 ∨ c = 252) (w : World) :
    Calls Tryd.prog 36 #[.string ger, .int .i32 (c : Int)] w fun e w' => e = .returned (.string (T (rep ger c))) ∧ w = w' := by
  unfold ger
  rcases h with rfl | rfl | rfl | rfl | rfl | rfl
  all_goals
    go_enter Tryd.func36, Tryd.ntmps36
    go_wp2
    go_ret
    exact ⟨ret_str (by kernel_rfl), rfl⟩

set_option maxHeartbeats 4000000 in
theorem rep_swe_in (c : Nat) (h : c = 197 ∨ c = 229 ∨ c = 196 ∨ c = 228 ∨ c = 214 ∨ c = 246) (w : World) :
    Calls Tryd.prog 36 #[.string swe, .int .i32 (c : Int)] w fun e w' => e = .returned (.string (T (rep swe c))) ∧ w = w' := by
  unfold swe
  rcases h with rfl | rfl | rfl | rfl | rfl | rfl
  all_goals
    go_enter Tryd.func36, Tryd.ntmps36
    go_wp2
    go_ret
    exact ⟨ret_str (by kernel_rfl), rfl⟩

set_option maxHeartbeats 4000000 in
theorem rep_spa_in (c : Nat) (h : c = 209 ∨ c = 241) (w : World) :
    Calls Tryd.prog 36 #[.string spa, .int .i32 (c : Int)] w fun e w' => e = .returned (.string (T (rep spa c))) ∧ w = w' := by
  unfold spa
  rcases h with rfl | rfl
  all_goals
    go_enter Tryd.func36, Tryd.ntmps36
    go_wp2
    go_ret
    exact ⟨ret_str (by kernel_rfl), rfl⟩

set_option maxHeartbeats 4000000 in
theorem rep_ger_out (c : Nat) (hc : okc c) (hn : ¬ (123 ≤ c ∧ c ≤ 126)) (k196 : ¬ c = 196) (k228 : ¬ c = 228) (k214 : ¬ c = 214) (k246 : ¬ c = 246) (k220 : ¬ c = 220) (k252 : ¬ c = 252) (w : World) :
    Calls Tryd.prog 36 #[.string ger, .int .i32 (c : Int)] w fun e w' => e = .returned (.string (T ([c]))) ∧ w = w' := by
  have hok : c ≤ 65535 := by unfold okc at hc; omega
  unfold ger
  have n196 : ((c : Int) == 196) = false := by simp; omega
  have n228 : ((c : Int) == 228) = false := by simp; omega
  have n214 : ((c : Int) == 214) = false := by simp; omega
  have n246 : ((c : Int) == 246) = false := by simp; omega
  have n220 : ((c : Int) == 220) = false := by simp; omega
  have n252 : ((c : Int) == 252) = false := by simp; omega
  have HT := Lib.hid (encode_ch c hc)
  by_cases c1 : 123 ≤ c
  · have d1 : decide ((123 : Int) ≤ (c : Int)) = true := by simp; omega
    have d2 : decide ((c : Int) ≤ 126) = false := by simp; omega
    clear hc hn c1
    go_enter Tryd.func36, Tryd.ntmps36
    go_wp2
    go_ret
    refine ⟨?_, rfl⟩
    rw [← HT.out]
    rfl
  · have d1 : decide ((123 : Int) ≤ (c : Int)) = false := by simp; omega
    clear hc hn c1
    go_enter Tryd.func36, Tryd.ntmps36
    go_wp2
    go_ret
    refine ⟨?_, rfl⟩
    rw [← HT.out]
    rfl

set_option maxHeartbeats 4000000 in
theorem rep_swe_out (c : Nat) (hc : okc c) (hn : ¬ (123 ≤ c ∧ c ≤ 126)) (k197 : ¬ c = 197) (k229 : ¬ c = 229) (k196 : ¬ c = 196) (k228 : ¬ c = 228) (k214 : ¬ c = 214) (k246 : ¬ c = 246) (w : World) :
    Calls Tryd.prog 36 #[.string swe, .int .i32 (c : Int)] w fun e w' => e = .returned (.string (T ([c]))) ∧ w = w' := by
  have hok : c ≤ 65535 := by unfold okc at hc; omega
  unfold swe
  have n197 : ((c : Int) == 197) = false := by simp; omega
  have n229 : ((c : Int) == 229) = false := by simp; omega
  have n196 : ((c : Int) == 196) = false := by simp; omega
  have n228 : ((c : Int) == 228) = false := by simp; omega
  have n214 : ((c : Int) == 214) = false := by simp; omega
  have n246 : ((c : Int) == 246) = false := by simp; omega
  have HT := Lib.hid (encode_ch c hc)
  by_cases c1 : 123 ≤ c
  · have d1 : decide ((123 : Int) ≤ (c : Int)) = true := by simp; omega
    have d2 : decide ((c : Int) ≤ 126) = false := by simp; omega
    clear hc hn c1
    go_enter Tryd.func36, Tryd.ntmps36
    go_wp2
    go_ret
    refine ⟨?_, rfl⟩
    rw [← HT.out]
    rfl
  · have d1 : decide ((123 : Int) ≤ (c : Int)) = false := by simp; omega
    clear hc hn c1
    go_enter Tryd.func36, Tryd.ntmps36
    go_wp2
    go_ret
    refine ⟨?_, rfl⟩
    rw [← HT.out]
    rfl

set_option maxHeartbeats 4000000 in
theorem rep_spa_out (c : Nat) (hc : okc c) (hn : ¬ (123 ≤ c ∧ c ≤ 126)) (k209 : ¬ c = 209) (k241 : ¬ c = 241) (w : World) :
    Calls Tryd.prog 36 #[.string spa, .int .i32 (c : Int)] w fun e w' => e = .returned (.string (T ([c]))) ∧ w = w' := by
  have hok : c ≤ 65535 := by unfold okc at hc; omega
  unfold spa
  have n209 : ((c : Int) == 209) = false := by simp; omega
  have n241 : ((c : Int) == 241) = false := by simp; omega
  have HT := Lib.hid (encode_ch c hc)
  by_cases c1 : 123 ≤ c
  · have d1 : decide ((123 : Int) ≤ (c : Int)) = true := by simp; omega
    have d2 : decide ((c : Int) ≤ 126) = false := by simp; omega
    clear hc hn c1
    go_enter Tryd.func36, Tryd.ntmps36
    go_wp2
    go_ret
    refine ⟨?_, rfl⟩
    rw [← HT.out]
    rfl
  · have d1 : decide ((123 : Int) ≤ (c : Int)) = false := by simp; omega
    clear hc hn c1
    go_enter Tryd.func36, Tryd.ntmps36
    go_wp2
    go_ret
    refine ⟨?_, rfl⟩
    rw [← HT.out]
    rfl

set_option maxHeartbeats 4000000 in
theorem rep_other (lang : ByteArray) (h1 : ¬ lang = ger) (h2 : ¬ lang = swe) (h3 : ¬ lang = spa) (c : Nat) (hc : okc c) (hn : ¬ (123 ≤ c ∧ c ≤ 126))  (w : World) :
    Calls Tryd.prog 36 #[.string lang, .int .i32 (c : Int)] w fun e w' => e = .returned (.string (T ([c]))) ∧ w = w' := by
  have hok : c ≤ 65535 := by unfold okc at hc; omega
  have e1 := lang_ne lang [103, 101, 114] h1
  have e2 := lang_ne lang [115, 119, 101] h2
  have e3 := lang_ne lang [115, 112, 97] h3
  clear h1 h2 h3

  have HT := Lib.hid (encode_ch c hc)
  by_cases c1 : 123 ≤ c
  · have d1 : decide ((123 : Int) ≤ (c : Int)) = true := by simp; omega
    have d2 : decide ((c : Int) ≤ 126) = false := by simp; omega
    clear hc hn c1
    go_enter Tryd.func36, Tryd.ntmps36
    go_wp2
    go_ret
    refine ⟨?_, rfl⟩
    rw [← HT.out]
    rfl
  · have d1 : decide ((123 : Int) ≤ (c : Int)) = false := by simp; omega
    clear hc hn c1
    go_enter Tryd.func36, Tryd.ntmps36
    go_wp2
    go_ret
    refine ⟨?_, rfl⟩
    rw [← HT.out]
    rfl

theorem rep_any (lang : ByteArray) (c : Nat) (hc : okc c) (w : World) :
    Calls Tryd.prog 36 #[.string lang, .int .i32 (c : Int)] w fun e w' => e = .returned (.string (T (rep lang c))) ∧ w = w' := by
  by_cases hm : 123 ≤ c ∧ c ≤ 126
  · rw [show rep lang c = [32] by unfold rep; rw [if_pos hm]]
    exact rep_mark lang c hm w
  by_cases h1 : lang = ger
  · subst h1
    by_cases k : c = 196 ∨ c = 228 ∨ c = 214 ∨ c = 246 ∨ c = 220 ∨ c = 252
    · exact rep_ger_in c k w
    · rw [show rep ger c = [c] by unfold rep repGer; rw [if_neg hm, if_pos rfl, if_neg (by omega), if_neg (by omega), if_neg (by omega)]]
      exact rep_ger_out c hc hm (by omega) (by omega) (by omega) (by omega) (by omega) (by omega) w
  by_cases h2 : lang = swe
  · subst h2
    by_cases k : c = 197 ∨ c = 229 ∨ c = 196 ∨ c = 228 ∨ c = 214 ∨ c = 246
    · exact rep_swe_in c k w
    · rw [show rep swe c = [c] by unfold rep repSwe; rw [if_neg hm, if_neg h1, if_pos rfl, if_neg (by omega), if_neg (by omega), if_neg (by omega)]]
      exact rep_swe_out c hc hm (by omega) (by omega) (by omega) (by omega) (by omega) (by omega) w
  by_cases h3 : lang = spa
  · subst h3
    by_cases k : c = 209 ∨ c = 241
    · exact rep_spa_in c k w
    · rw [show rep spa c = [c] by unfold rep repSpa; rw [if_neg hm, if_neg h1, if_neg h2, if_pos rfl, if_neg (by omega)]]
      exact rep_spa_out c hc hm (by omega) (by omega) w
  · rw [show rep lang c = [c] by unfold rep; rw [if_neg hm, if_neg h1, if_neg h2, if_neg h3]]
    exact rep_other lang h1 h2 h3 c hc hm w

theorem let_az (c : Nat) (h1 : 97 ≤ c) (h2 : c ≤ 122) (w : World) : Calls Tryd.prog 37 #[.int .i32 (c : Int)] w fun e w' => e = .returned (.bool true) ∧ w = w' := by
  have d0 : decide ((97 : Int) ≤ (c : Int)) = true := by simp; omega
  have d1 : decide ((c : Int) ≤ 122) = true := by simp; omega
  go_enter Tryd.func37, Tryd.ntmps37
  go_wp2
  go_ret
  exact ⟨rfl, rfl⟩

theorem let_09 (c : Nat) (h1 : 48 ≤ c) (h2 : c ≤ 57) (w : World) : Calls Tryd.prog 37 #[.int .i32 (c : Int)] w fun e w' => e = .returned (.bool true) ∧ w = w' := by
  have d0 : decide ((97 : Int) ≤ (c : Int)) = false := by simp; omega
  have d1 : decide ((48 : Int) ≤ (c : Int)) = true := by simp; omega
  have d2 : decide ((c : Int) ≤ 57) = true := by simp; omega
  go_enter Tryd.func37, Tryd.ntmps37
  go_wp2
  go_ret
  exact ⟨rfl, rfl⟩

theorem let_mark (c : Nat) (h1 : 123 ≤ c) (h2 : c ≤ 126) (w : World) : Calls Tryd.prog 37 #[.int .i32 (c : Int)] w fun e w' => e = .returned (.bool true) ∧ w = w' := by
  have d0 : decide ((97 : Int) ≤ (c : Int)) = true := by simp; omega
  have d1 : decide ((c : Int) ≤ 122) = false := by simp; omega
  have d2 : decide ((48 : Int) ≤ (c : Int)) = true := by simp; omega
  have d3 : decide ((c : Int) ≤ 57) = false := by simp; omega
  have d4 : decide ((123 : Int) ≤ (c : Int)) = true := by simp; omega
  have d5 : decide ((c : Int) ≤ 126) = true := by simp; omega
  go_enter Tryd.func37, Tryd.ntmps37
  go_wp2
  go_ret
  exact ⟨rfl, rfl⟩

theorem let_big (c : Nat) (h1 : 256 ≤ c) (w : World) : Calls Tryd.prog 37 #[.int .i32 (c : Int)] w fun e w' => e = .returned (.bool true) ∧ w = w' := by
  have d0 : decide ((97 : Int) ≤ (c : Int)) = true := by simp; omega
  have d1 : decide ((c : Int) ≤ 122) = false := by simp; omega
  have d2 : decide ((48 : Int) ≤ (c : Int)) = true := by simp; omega
  have d3 : decide ((c : Int) ≤ 57) = false := by simp; omega
  have d4 : decide ((123 : Int) ≤ (c : Int)) = true := by simp; omega
  have d5 : decide ((c : Int) ≤ 126) = false := by simp; omega
  have d6 : decide ((256 : Int) ≤ (c : Int)) = true := by simp; omega
  go_enter Tryd.func37, Tryd.ntmps37
  go_wp2
  go_ret
  exact ⟨rfl, rfl⟩

theorem let_n1 (c : Nat) (h1 : c < 48) (w : World) : Calls Tryd.prog 37 #[.int .i32 (c : Int)] w fun e w' => e = .returned (.bool false) ∧ w = w' := by
  have d0 : decide ((97 : Int) ≤ (c : Int)) = false := by simp; omega
  have d1 : decide ((48 : Int) ≤ (c : Int)) = false := by simp; omega
  have d2 : decide ((123 : Int) ≤ (c : Int)) = false := by simp; omega
  have d3 : decide ((256 : Int) ≤ (c : Int)) = false := by simp; omega
  go_enter Tryd.func37, Tryd.ntmps37
  go_wp2
  go_ret
  exact ⟨rfl, rfl⟩

theorem let_n2 (c : Nat) (h1 : 57 < c) (h2 : c < 97) (w : World) : Calls Tryd.prog 37 #[.int .i32 (c : Int)] w fun e w' => e = .returned (.bool false) ∧ w = w' := by
  have d0 : decide ((97 : Int) ≤ (c : Int)) = false := by simp; omega
  have d1 : decide ((48 : Int) ≤ (c : Int)) = true := by simp; omega
  have d2 : decide ((c : Int) ≤ 57) = false := by simp; omega
  have d3 : decide ((123 : Int) ≤ (c : Int)) = false := by simp; omega
  have d4 : decide ((256 : Int) ≤ (c : Int)) = false := by simp; omega
  go_enter Tryd.func37, Tryd.ntmps37
  go_wp2
  go_ret
  exact ⟨rfl, rfl⟩

theorem let_n3 (c : Nat) (h1 : 126 < c) (h2 : c < 256) (w : World) : Calls Tryd.prog 37 #[.int .i32 (c : Int)] w fun e w' => e = .returned (.bool false) ∧ w = w' := by
  have d0 : decide ((97 : Int) ≤ (c : Int)) = true := by simp; omega
  have d1 : decide ((c : Int) ≤ 122) = false := by simp; omega
  have d2 : decide ((48 : Int) ≤ (c : Int)) = true := by simp; omega
  have d3 : decide ((c : Int) ≤ 57) = false := by simp; omega
  have d4 : decide ((123 : Int) ≤ (c : Int)) = true := by simp; omega
  have d5 : decide ((c : Int) ≤ 126) = false := by simp; omega
  have d6 : decide ((256 : Int) ≤ (c : Int)) = false := by simp; omega
  go_enter Tryd.func37, Tryd.ntmps37
  go_wp2
  go_ret
  exact ⟨rfl, rfl⟩

theorem keyc_any (c : Nat) (b : Bool) (hb : keyc c = b) (w : World) : Calls Tryd.prog 37 #[.int .i32 (c : Int)] w fun e w' => e = .returned (.bool b) ∧ w = w' := by
  have key : keyc c = true ↔ (97 ≤ c ∧ c ≤ 122) ∨ (48 ≤ c ∧ c ≤ 57) ∨ (123 ≤ c ∧ c ≤ 126) ∨ 256 ≤ c := by
    unfold keyc; simp; omega
  cases b
  · have hn : ¬ ((97 ≤ c ∧ c ≤ 122) ∨ (48 ≤ c ∧ c ≤ 57) ∨ (123 ≤ c ∧ c ≤ 126) ∨ 256 ≤ c) := by rw [← key, hb]; simp
    by_cases k1 : c < 48
    · exact let_n1 c k1 w
    by_cases k2 : c < 97
    · exact let_n2 c (by omega) k2 w
    · exact let_n3 c (by omega) (by omega) w
  · rcases key.1 hb with h | h | h | h
    · exact let_az c h.1 h.2 w
    · exact let_09 c h.1 h.2 w
    · exact let_mark c h.1 h.2 w
    · exact let_big c h w
end Go.Proofs.YtjfeckccmfbkhaaDoor
