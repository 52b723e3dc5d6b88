/- The program's letters of a language, its reserved marks and its separators, at every language and every character. -/
import Derived.Test.YtjfeckccmfbkhaaDoorR02Rep
namespace Go.Proofs.YtjfeckccmfbkhaaDoor
open Go.RowKit

def gerS (c : Nat) : List Nat := if c = 196 ∨ c = 228 then [97, 101] else if c = 214 ∨ c = 246 then [111, 101] else if c = 220 ∨ c = 252 then [117, 101] else []
def sweS (c : Nat) : List Nat := if c = 197 ∨ c = 229 then [123] else if c = 196 ∨ c = 228 then [124] else if c = 214 ∨ c = 246 then [125] else []
def spaS (c : Nat) : List Nat := if c = 209 ∨ c = 241 then [110, 126] else []
/-- What a language sorts a letter as, or nothing. -/
def special (lang : ByteArray) (c : Nat) : List Nat := if lang = ger then gerS c else if lang = swe then sweS c else if lang = spa then spaS c else []
def markc (c : Nat) : Bool := decide (123 ≤ c) && decide (c ≤ 126)
theorem special_rep (lang : ByteArray) (c : Nat) (h : markc c = false) : rep lang c = if special lang c = [] then [c] else special lang c := by
  have hm : ¬ (123 ≤ c ∧ c ≤ 126) := by unfold markc at h; simp at h; omega
  unfold rep special repGer repSwe repSpa gerS sweS spaS
  rw [if_neg hm]
  repeat' split
  all_goals first | rfl | simp_all
theorem special_len (lang : ByteArray) (c : Nat) : (special lang c).length ≤ 2 := by
  unfold special gerS sweS spaS
  repeat' split
  all_goals simp
theorem mark_rep (lang : ByteArray) (c : Nat) (h : markc c = true) : rep lang c = [32] := by
  unfold markc at h; simp at h
  unfold rep; rw [if_pos h]

set_option maxHeartbeats 4000000 in
theorem german_any (c : Nat) (w : World) : Calls Tryd.prog 70 #[.int .i32 (c : Int)] w fun e w' => e = .returned (.string (T (gerS c))) ∧ w = w' := by
  by_cases k : c = 196 ∨ c = 228 ∨ c = 214 ∨ c = 246 ∨ c = 220 ∨ c = 252
  · rcases k with rfl | rfl | rfl | rfl | rfl | rfl
    all_goals
      go_enter Tryd.func70, Tryd.ntmps70
      go_wp2
      go_ret
      exact ⟨ret_str (by kernel_rfl), rfl⟩
  · have e0 : gerS c = [] := by unfold gerS; rw [if_neg (by omega)]; rw [if_neg (by omega)]; rw [if_neg (by omega)]
    rw [e0]
    have n196 : ((c : Int) == 196) = false := by simp; omega
    have n228 : ((c : Int) == 228) = false := by simp; omega
    have n214 : ((c : Int) == 214) = false := by simp; omega
    have n246 : ((c : Int) == 246) = false := by simp; omega
    have n220 : ((c : Int) == 220) = false := by simp; omega
    have n252 : ((c : Int) == 252) = false := by simp; omega
    clear k e0
    go_enter Tryd.func70, Tryd.ntmps70
    go_wp2
    go_ret
    exact ⟨ret_str (by kernel_rfl), rfl⟩

set_option maxHeartbeats 4000000 in
theorem swedish_any (c : Nat) (w : World) : Calls Tryd.prog 71 #[.int .i32 (c : Int)] w fun e w' => e = .returned (.string (T (sweS c))) ∧ w = w' := by
  by_cases k : c = 197 ∨ c = 229 ∨ c = 196 ∨ c = 228 ∨ c = 214 ∨ c = 246
  · rcases k with rfl | rfl | rfl | rfl | rfl | rfl
    all_goals
      go_enter Tryd.func71, Tryd.ntmps71
      go_wp2
      go_ret
      exact ⟨ret_str (by kernel_rfl), rfl⟩
  · have e0 : sweS c = [] := by unfold sweS; rw [if_neg (by omega)]; rw [if_neg (by omega)]; rw [if_neg (by omega)]
    rw [e0]
    have n197 : ((c : Int) == 197) = false := by simp; omega
    have n229 : ((c : Int) == 229) = false := by simp; omega
    have n196 : ((c : Int) == 196) = false := by simp; omega
    have n228 : ((c : Int) == 228) = false := by simp; omega
    have n214 : ((c : Int) == 214) = false := by simp; omega
    have n246 : ((c : Int) == 246) = false := by simp; omega
    clear k e0
    go_enter Tryd.func71, Tryd.ntmps71
    go_wp2
    go_ret
    exact ⟨ret_str (by kernel_rfl), rfl⟩

set_option maxHeartbeats 4000000 in
theorem spanish_any (c : Nat) (w : World) : Calls Tryd.prog 72 #[.int .i32 (c : Int)] w fun e w' => e = .returned (.string (T (spaS c))) ∧ w = w' := by
  by_cases k : c = 209 ∨ c = 241
  · rcases k with rfl | rfl
    all_goals
      go_enter Tryd.func72, Tryd.ntmps72
      go_wp2
      go_ret
      exact ⟨ret_str (by kernel_rfl), rfl⟩
  · have e0 : spaS c = [] := by unfold spaS; rw [if_neg (by omega)]
    rw [e0]
    have n209 : ((c : Int) == 209) = false := by simp; omega
    have n241 : ((c : Int) == 241) = false := by simp; omega
    clear k e0
    go_enter Tryd.func72, Tryd.ntmps72
    go_wp2
    go_ret
    exact ⟨ret_str (by kernel_rfl), rfl⟩

set_option maxHeartbeats 4000000 in
theorem repl_ger (c : Nat) (w : World) : Calls Tryd.prog 57 #[.string ger, .int .i32 (c : Int)] w fun e w' => e = .returned (.string (T (gerS c))) ∧ w = w' := by
  have cA := Lib.hid (fun W => german_any c W)
  generalize T (gerS c) = t at cA
  unfold ger
  go_enter Tryd.func57, Tryd.ntmps57
  go_wp2_with fail
  refine (cA.out _).mono ?_
  rintro e w1 ⟨rfl, rfl⟩
  go_wp2
  go_ret
  exact ⟨rfl, rfl⟩

set_option maxHeartbeats 4000000 in
theorem repl_swe (c : Nat) (w : World) : Calls Tryd.prog 57 #[.string swe, .int .i32 (c : Int)] w fun e w' => e = .returned (.string (T (sweS c))) ∧ w = w' := by
  have cA := Lib.hid (fun W => swedish_any c W)
  generalize T (sweS c) = t at cA
  unfold swe
  go_enter Tryd.func57, Tryd.ntmps57
  go_wp2_with fail
  refine (cA.out _).mono ?_
  rintro e w1 ⟨rfl, rfl⟩
  go_wp2
  go_ret
  exact ⟨rfl, rfl⟩

set_option maxHeartbeats 4000000 in
theorem repl_spa (c : Nat) (w : World) : Calls Tryd.prog 57 #[.string spa, .int .i32 (c : Int)] w fun e w' => e = .returned (.string (T (spaS c))) ∧ w = w' := by
  have cA := Lib.hid (fun W => spanish_any c W)
  generalize T (spaS c) = t at cA
  unfold spa
  go_enter Tryd.func57, Tryd.ntmps57
  go_wp2_with fail
  refine (cA.out _).mono ?_
  rintro e w1 ⟨rfl, rfl⟩
  go_wp2
  go_ret
  exact ⟨rfl, rfl⟩

set_option maxHeartbeats 4000000 in
theorem repl_other (lang : ByteArray) (h1 : ¬ lang = ger) (h2 : ¬ lang = swe) (h3 : ¬ lang = spa) (c : Nat) (w : World) : Calls Tryd.prog 57 #[.string lang, .int .i32 (c : Int)] w fun e w' => e = .returned (.string (T [])) ∧ w = w' := by
  have e1 := lang_ne lang [103, 101, 114] h1
  have e2 := lang_ne lang [115, 119, 101] h2
  have e3 := lang_ne lang [115, 112, 97] h3
  clear h1 h2 h3
  go_enter Tryd.func57, Tryd.ntmps57
  go_wp2
  go_ret
  exact ⟨ret_str (by kernel_rfl), rfl⟩
theorem replacement_any (lang : ByteArray) (c : Nat) (w : World) : Calls Tryd.prog 57 #[.string lang, .int .i32 (c : Int)] w fun e w' => e = .returned (.string (T (special lang c))) ∧ w = w' := by
  unfold special
  by_cases h1 : lang = ger
  · rw [if_pos h1]; subst h1; exact repl_ger c w
  rw [if_neg h1]
  by_cases h2 : lang = swe
  · rw [if_pos h2]; subst h2; exact repl_swe c w
  rw [if_neg h2]
  by_cases h3 : lang = spa
  · rw [if_pos h3]; subst h3; exact repl_spa c w
  rw [if_neg h3]
  exact repl_other lang h1 h2 h3 c w

theorem reserved_any (c : Nat) (b : Bool) (hb : markc c = b) (w : World) : Calls Tryd.prog 58 #[.int .i32 (c : Int)] w fun e w' => e = .returned (.bool b) ∧ w = w' := by
  by_cases c1 : 123 ≤ c
  · have d1 : decide ((123 : Int) ≤ (c : Int)) = true := by simp; omega
    by_cases c2 : c ≤ 126
    · have d2 : decide ((c : Int) ≤ 126) = true := by simp; omega
      obtain rfl : b = true := by rw [← hb]; simp [markc]; omega
      clear hb c1 c2
      go_enter Tryd.func58, Tryd.ntmps58
      go_wp2
      go_ret
      exact ⟨rfl, rfl⟩
    · have d2 : decide ((c : Int) ≤ 126) = false := by simp; omega
      obtain rfl : b = false := by rw [← hb]; simp [markc]; omega
      clear hb c1 c2
      go_enter Tryd.func58, Tryd.ntmps58
      go_wp2
      go_ret
      exact ⟨rfl, rfl⟩
  · have d1 : decide ((123 : Int) ≤ (c : Int)) = false := by simp; omega
    obtain rfl : b = false := by rw [← hb]; simp [markc]; omega
    clear hb c1
    go_enter Tryd.func58, Tryd.ntmps58
    go_wp2
    go_ret
    exact ⟨rfl, rfl⟩

theorem uns_az (c : Nat) (h1 : 97 ≤ c) (h2 : c ≤ 122) (w : World) : Calls Tryd.prog 56 #[.int .i32 (c : Int)] w fun e w' => e = .returned (.bool false) ∧ w = w' := by
  have d0 : decide ((97 : Int) ≤ (c : Int)) = true := by simp; omega
  have d1 : decide ((c : Int) ≤ 122) = true := by simp; omega
  go_enter Tryd.func56, Tryd.ntmps56
  go_wp2
  go_ret
  exact ⟨rfl, rfl⟩

theorem uns_09 (c : Nat) (h1 : 48 ≤ c) (h2 : c ≤ 57) (w : World) : Calls Tryd.prog 56 #[.int .i32 (c : Int)] w fun e w' => e = .returned (.bool false) ∧ w = w' := by
  have d0 : decide ((97 : Int) ≤ (c : Int)) = false := by simp; omega
  have d1 : decide ((48 : Int) ≤ (c : Int)) = true := by simp; omega
  have d2 : decide ((c : Int) ≤ 57) = true := by simp; omega
  go_enter Tryd.func56, Tryd.ntmps56
  go_wp2
  go_ret
  exact ⟨rfl, rfl⟩

theorem uns_mark (c : Nat) (h1 : 123 ≤ c) (h2 : c ≤ 126) (w : World) : Calls Tryd.prog 56 #[.int .i32 (c : Int)] w fun e w' => e = .returned (.bool false) ∧ w = w' := by
  have d0 : decide ((97 : Int) ≤ (c : Int)) = true := by simp; omega
  have d1 : decide ((c : Int) ≤ 122) = false := by simp; omega
  have d2 : decide ((48 : Int) ≤ (c : Int)) = true := by simp; omega
  have d3 : decide ((c : Int) ≤ 57) = false := by simp; omega
  have hr := Lib.hid (fun W => reserved_any c true (by simp [markc]; omega) W)
  go_enter Tryd.func56, Tryd.ntmps56
  go_wp2_with fail
  refine (hr.out _).mono ?_
  rintro e w1 ⟨rfl, rfl⟩
  go_wp2
  go_ret
  exact ⟨rfl, rfl⟩

theorem uns_big (c : Nat) (h1 : 256 ≤ c) (w : World) : Calls Tryd.prog 56 #[.int .i32 (c : Int)] w fun e w' => e = .returned (.bool false) ∧ w = w' := by
  have d0 : decide ((97 : Int) ≤ (c : Int)) = true := by simp; omega
  have d1 : decide ((c : Int) ≤ 122) = false := by simp; omega
  have d2 : decide ((48 : Int) ≤ (c : Int)) = true := by simp; omega
  have d3 : decide ((c : Int) ≤ 57) = false := by simp; omega
  have d4 : decide ((256 : Int) ≤ (c : Int)) = true := by simp; omega
  have hr := Lib.hid (fun W => reserved_any c false (by simp [markc]; omega) W)
  go_enter Tryd.func56, Tryd.ntmps56
  go_wp2_with fail
  refine (hr.out _).mono ?_
  rintro e w1 ⟨rfl, rfl⟩
  go_wp2
  go_ret
  exact ⟨rfl, rfl⟩

theorem uns_n1 (c : Nat) (h1 : c < 48) (w : World) : Calls Tryd.prog 56 #[.int .i32 (c : Int)] w fun e w' => e = .returned (.bool true) ∧ w = w' := by
  have d0 : decide ((97 : Int) ≤ (c : Int)) = false := by simp; omega
  have d1 : decide ((48 : Int) ≤ (c : Int)) = false := by simp; omega
  have d2 : decide ((256 : Int) ≤ (c : Int)) = false := by simp; omega
  have hr := Lib.hid (fun W => reserved_any c false (by simp [markc]; omega) W)
  go_enter Tryd.func56, Tryd.ntmps56
  go_wp2_with fail
  refine (hr.out _).mono ?_
  rintro e w1 ⟨rfl, rfl⟩
  go_wp2
  go_ret
  exact ⟨rfl, rfl⟩

theorem uns_n2 (c : Nat) (h1 : 57 < c) (h2 : c < 97) (w : World) : Calls Tryd.prog 56 #[.int .i32 (c : Int)] w fun e w' => e = .returned (.bool true) ∧ w = w' := by
  have d0 : decide ((97 : Int) ≤ (c : Int)) = false := by simp; omega
  have d1 : decide ((48 : Int) ≤ (c : Int)) = true := by simp; omega
  have d2 : decide ((c : Int) ≤ 57) = false := by simp; omega
  have d3 : decide ((256 : Int) ≤ (c : Int)) = false := by simp; omega
  have hr := Lib.hid (fun W => reserved_any c false (by simp [markc]; omega) W)
  go_enter Tryd.func56, Tryd.ntmps56
  go_wp2_with fail
  refine (hr.out _).mono ?_
  rintro e w1 ⟨rfl, rfl⟩
  go_wp2
  go_ret
  exact ⟨rfl, rfl⟩

theorem uns_n3 (c : Nat) (h1 : 126 < c) (h2 : c < 256) (w : World) : Calls Tryd.prog 56 #[.int .i32 (c : Int)] w fun e w' => e = .returned (.bool true) ∧ w = w' := by
  have d0 : decide ((97 : Int) ≤ (c : Int)) = true := by simp; omega
  have d1 : decide ((c : Int) ≤ 122) = false := by simp; omega
  have d2 : decide ((48 : Int) ≤ (c : Int)) = true := by simp; omega
  have d3 : decide ((c : Int) ≤ 57) = false := by simp; omega
  have d4 : decide ((256 : Int) ≤ (c : Int)) = false := by simp; omega
  have hr := Lib.hid (fun W => reserved_any c false (by simp [markc]; omega) W)
  go_enter Tryd.func56, Tryd.ntmps56
  go_wp2_with fail
  refine (hr.out _).mono ?_
  rintro e w1 ⟨rfl, rfl⟩
  go_wp2
  go_ret
  exact ⟨rfl, rfl⟩

theorem unsorted_any (c : Nat) (b : Bool) (hb : (!keyc c) = b) (w : World) : Calls Tryd.prog 56 #[.int .i32 (c : Int)] w fun e w' => e = .returned (.bool b) ∧ w = w' := by
  have key : keyc c = true ↔ (97 ≤ c ∧ c ≤ 122) ∨ (48 ≤ c ∧ c ≤ 57) ∨ (123 ≤ c ∧ c ≤ 126) ∨ 256 ≤ c := by
    unfold keyc; simp; omega
  cases b
  · rcases key.1 (by simpa using hb) with h | h | h | h
    · exact uns_az c h.1 h.2 w
    · exact uns_09 c h.1 h.2 w
    · exact uns_mark c h.1 h.2 w
    · exact uns_big c h w
  · have hn : ¬ ((97 ≤ c ∧ c ≤ 122) ∨ (48 ≤ c ∧ c ≤ 57) ∨ (123 ≤ c ∧ c ≤ 126) ∨ 256 ≤ c) := by rw [← key]; simpa using hb
    by_cases k1 : c < 48
    · exact uns_n1 c k1 w
    by_cases k2 : c < 97
    · exact uns_n2 c (by omega) k2 w
    · exact uns_n3 c (by omega) (by omega) w
end Go.Proofs.YtjfeckccmfbkhaaDoor
