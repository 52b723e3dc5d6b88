/- Merged: RFoldC. -/
import Derived.Test.YtmcolapcmjdoeaaGreatDoorQ02
import Derived.Test.YtmcolapcmjdoeaaGreatDoorQ06
namespace Go.Proofs.YtmcolapcmjdoeaaGreatDoor

section
open Go.RowKit
/-- What the reference's fold returns: nothing for a character that stays. -/
def ff (c : Nat) : List Nat := if 65 ≤ c ∧ c ≤ 90 then [c + 32] else if c < 192 ∨ 255 < c ∨ c = 215 ∨ c = 247 then [] else accL.getD (c - 192) []

theorem ff_fold (c : Nat) : foldc c = if ff c = [] then [c] else ff c := by
  by_cases h : c < 256
  · have : ∀ i : Fin 256, foldc i.val = if ff i.val = [] then [i.val] else ff i.val := by decide +kernel
    exact this ⟨c, h⟩
  · have e1 : foldc c = [c] := by unfold foldc; rw [if_neg (by omega), if_neg (by omega)]
    have e2 : ff c = [] := by unfold ff; rw [if_neg (by omega), if_pos (by omega)]
    rw [e1, e2]; rfl

theorem ret_string {a b : ByteArray} (h : a = b) : Ending.returned (.string a) = .returned (.string b) := by rw [h]

set_option maxHeartbeats 8000000 in
theorem refFold_low (c : Nat) (h : 65 ≤ c ∧ c ≤ 90) (w : World) :
    Calls Tryz.prog 112 #[.int .i64 (c : Int)] w fun e w' => e = .returned (.string (T (ff c))) ∧ w = w' := by
  have hc : c = 65 ∨ c = 66 ∨ c = 67 ∨ c = 68 ∨ c = 69 ∨ c = 70 ∨ c = 71 ∨ c = 72 ∨ c = 73 ∨ c = 74 ∨ c = 75 ∨ c = 76 ∨ c = 77 ∨ c = 78 ∨ c = 79 ∨ c = 80 ∨ c = 81 ∨ c = 82 ∨ c = 83 ∨ c = 84 ∨ c = 85 ∨ c = 86 ∨ c = 87 ∨ c = 88 ∨ c = 89 ∨ c = 90 := by omega
  clear h
  rcases hc with rfl | rfl | rfl | rfl | rfl | rfl | rfl | rfl | rfl | rfl | rfl | rfl | rfl | rfl | rfl | rfl | rfl | rfl | rfl | rfl | rfl | rfl | rfl | rfl | rfl | rfl
  all_goals
    go_enter Tryz.func112, Tryz.ntmps112
    go_wp2
    go_ret
    exact ⟨ret_string (by kernel_rfl), rfl⟩

set_option maxHeartbeats 8000000 in
theorem refFold_high (c : Nat) (h : 192 ≤ c ∧ c ≤ 255) (w : World) :
    Calls Tryz.prog 112 #[.int .i64 (c : Int)] w fun e w' => e = .returned (.string (T (ff c))) ∧ w = w' := by
  have hc : c = 192 ∨ c = 193 ∨ c = 194 ∨ c = 195 ∨ c = 196 ∨ c = 197 ∨ c = 198 ∨ c = 199 ∨ c = 200 ∨ c = 201 ∨ c = 202 ∨ c = 203 ∨ c = 204 ∨ c = 205 ∨ c = 206 ∨ c = 207 ∨ c = 208 ∨ c = 209 ∨ c = 210 ∨ c = 211 ∨ c = 212 ∨ c = 213 ∨ c = 214 ∨ c = 215 ∨ c = 216 ∨ c = 217 ∨ c = 218 ∨ c = 219 ∨ c = 220 ∨ c = 221 ∨ c = 222 ∨ c = 223 ∨ c = 224 ∨ c = 225 ∨ c = 226 ∨ c = 227 ∨ c = 228 ∨ c = 229 ∨ c = 230 ∨ c = 231 ∨ c = 232 ∨ c = 233 ∨ c = 234 ∨ c = 235 ∨ c = 236 ∨ c = 237 ∨ c = 238 ∨ c = 239 ∨ c = 240 ∨ c = 241 ∨ c = 242 ∨ c = 243 ∨ c = 244 ∨ c = 245 ∨ c = 246 ∨ c = 247 ∨ c = 248 ∨ c = 249 ∨ c = 250 ∨ c = 251 ∨ c = 252 ∨ c = 253 ∨ c = 254 ∨ c = 255 := by omega
  clear h
  rcases hc with rfl | rfl | rfl | rfl | rfl | rfl | rfl | rfl | rfl | rfl | rfl | rfl | rfl | rfl | rfl | rfl | rfl | rfl | rfl | rfl | rfl | rfl | rfl | rfl | rfl | rfl | rfl | rfl | rfl | rfl | rfl | rfl | rfl | rfl | rfl | rfl | rfl | rfl | rfl | rfl | rfl | rfl | rfl | rfl | rfl | rfl | rfl | rfl | rfl | rfl | rfl | rfl | rfl | rfl | rfl | rfl | rfl | rfl | rfl | rfl | rfl | rfl | rfl | rfl
  all_goals
    go_enter Tryz.func112, Tryz.ntmps112
    go_wp2
    go_ret
    exact ⟨ret_string (by kernel_rfl), rfl⟩

set_option maxHeartbeats 4000000 in
theorem refFold_none (c : Nat) (hc : c ≤ 1114111) (h : c < 65 ∨ (90 < c ∧ c < 192) ∨ 255 < c) (w : World) :
    Calls Tryz.prog 112 #[.int .i64 (c : Int)] w fun e w' => e = .returned (.string (T (ff c))) ∧ w = w' := by
  have e0 : T (ff c) = ⟨#[]⟩ := by
    unfold ff
    rw [if_neg (by omega), if_pos (by omega)]
    rfl
  rw [e0]
  clear e0
  rcases h with h | ⟨h1, h2⟩ | h
  · have d1 : decide ((65 : Int) ≤ (c : Int)) = false := by simp; omega
    have d2 : decide ((c : Int) < 192) = true := by simp; omega
    go_enter Tryz.func112, Tryz.ntmps112
    go_wp2
    go_ret
    exact ⟨rfl, rfl⟩
  · have d1 : decide ((65 : Int) ≤ (c : Int)) = true := by simp; omega
    have d3 : decide ((c : Int) ≤ 90) = false := by simp; omega
    have d2 : decide ((c : Int) < 192) = true := by simp; omega
    go_enter Tryz.func112, Tryz.ntmps112
    go_wp2
    go_ret
    exact ⟨rfl, rfl⟩
  · have d1 : decide ((65 : Int) ≤ (c : Int)) = true := by simp; omega
    have d3 : decide ((c : Int) ≤ 90) = false := by simp; omega
    have d2 : decide ((c : Int) < 192) = false := by simp; omega
    have d4 : decide ((255 : Int) < (c : Int)) = true := by simp; omega
    go_enter Tryz.func112, Tryz.ntmps112
    go_wp2
    go_ret
    exact ⟨rfl, rfl⟩

theorem refFold_any (c : Nat) (hc : c ≤ 1114111) (w : World) :
    Calls Tryz.prog 112 #[.int .i64 (c : Int)] w fun e w' => e = .returned (.string (T (ff c))) ∧ w = w' := by
  by_cases h1 : 65 ≤ c ∧ c ≤ 90
  · exact refFold_low c h1 w
  by_cases h2 : 192 ≤ c ∧ c ≤ 255
  · exact refFold_high c h2 w
  · exact refFold_none c hc (by omega) w

theorem accL_len : ∀ i : Fin 64, (accL.getD i.val []).length ≤ 2 := by decide

theorem ff_len (c : Nat) : (ff c).length ≤ 2 := by
  unfold ff
  split
  · simp
  · split
    · simp
    · have := accL_len ⟨c - 192, by omega⟩
      exact this
end

end Go.Proofs.YtmcolapcmjdoeaaGreatDoor
