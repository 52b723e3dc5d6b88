/- Merged: RDec, RValid. -/
import Derived.Test.YtnfallkeicehiaaDoorQ04
namespace Go.Proofs.YtnfallkeicehiaaDoor

section
open Go.RowKit Go.PlainAid
/-- A character that was read, and that a text may have. -/
def goodP (p : Nat × Nat) : Prop := ¬ (p.1 = 65533 ∧ p.2 = 1) ∧ ((32 ≤ p.1 ∧ p.1 ≤ 126) ∨ (160 ≤ p.1 ∧ p.1 ≤ 65535))
instance (p : Nat × Nat) : Decidable (goodP p) := by unfold goodP; infer_instance
/-- What decode returns at a place. -/
def refDec (s : ByteArray) (i : Nat) : Nat × Nat := if goodP (Utf8.decode s i) then Utf8.decode s i else (0, 0)

theorem bt_get (s : ByteArray) (k : Nat) : bt s k = ((s.get! k).toNat : Int) := by
  unfold bt
  split
  · rename_i h
    rw [← get_at s k h]; rfl
  · rename_i h
    have : s.get! k = 0 := by
      show s.data[k]! = 0
      rw [getElem!_neg s.data k h]; rfl
    rw [this]; rfl

section
variable (n a b c d : Nat)
theorem key_ascii (h0 : 32 ≤ a) (h1 : a < 127) : Lib.decodeN n a b c d = (a, 1) := by
  unfold Lib.decodeN; rw [if_pos (by omega)]
theorem key_two (hn : 1 < n) (h0 : 194 ≤ a) (h1 : a < 224) (h2 : 128 ≤ b) (h3 : b < 192) : Lib.decodeN n a b c d = ((a - 192) * 64 + b - 128, 2) := by
  unfold Lib.decodeN
  rw [if_neg (by omega), if_pos (by omega), if_pos (by omega)]
  refine Prod.ext ?_ rfl
  simp only; omega
theorem key_three (hn : 2 < n) (h0 : 224 ≤ a) (h1 : a < 240) (h2 : 128 ≤ b) (h3 : b < 192) (h4 : 128 ≤ c) (h5 : c < 192) (h6 : 2048 ≤ (a - 224) * 4096 + (b - 128) * 64 + c - 128) (h7 : (a - 224) * 4096 + (b - 128) * 64 + c - 128 < 55296 ∨ 57343 < (a - 224) * 4096 + (b - 128) * 64 + c - 128) :
    Lib.decodeN n a b c d = ((a - 224) * 4096 + (b - 128) * 64 + c - 128, 3) := by
  unfold Lib.decodeN
  rw [if_neg (by omega), if_neg (by omega), if_pos (by omega), if_pos (by omega)]
  refine Prod.ext ?_ rfl
  simp only; omega
set_option maxHeartbeats 2000000 in
theorem key_not1 (h : a < 32 ∨ (127 ≤ a ∧ a < 194)) : ¬ goodP (Lib.decodeN n a b c d) := by
  unfold Lib.decodeN
  repeat' split
  all_goals first | exact fun h => h.1 ⟨rfl, rfl⟩ | (simp only [goodP]; omega)
set_option maxHeartbeats 2000000 in
theorem key_not2 (h0 : 194 ≤ a) (h1 : a < 224) (h : n ≤ 1 ∨ b < 128 ∨ 192 ≤ b ∨ (a - 192) * 64 + b < 160 + 128) : ¬ goodP (Lib.decodeN n a b c d) := by
  unfold Lib.decodeN
  repeat' split
  all_goals first | exact fun h => h.1 ⟨rfl, rfl⟩ | (simp only [goodP]; omega)
set_option maxHeartbeats 2000000 in
theorem key_not3 (h0 : 224 ≤ a) (h1 : a < 240) (h : n ≤ 2 ∨ b < 128 ∨ 192 ≤ b ∨ c < 128 ∨ 192 ≤ c ∨ (a - 224) * 4096 + (b - 128) * 64 + c < 2048 + 128 ∨ (55296 + 128 ≤ (a - 224) * 4096 + (b - 128) * 64 + c ∧ (a - 224) * 4096 + (b - 128) * 64 + c ≤ 57343 + 128)) (hb : b < 256) (hc : c < 256) : ¬ goodP (Lib.decodeN n a b c d) := by
  unfold Lib.decodeN
  repeat' split
  all_goals first | exact fun h => h.1 ⟨rfl, rfl⟩ | (simp only [goodP]; omega)
set_option maxHeartbeats 2000000 in
theorem key_not4 (h0 : 240 ≤ a) (h1 : a < 256) : ¬ goodP (Lib.decodeN n a b c d) := by
  unfold Lib.decodeN
  repeat' split
  all_goals first | exact fun h => h.1 ⟨rfl, rfl⟩ | (simp only [goodP]; omega)
end
end

section
open Go.RowKit
theorem goodP_allow (p : Nat × Nat) : goodP p ↔ ¬ (p.1 = 65533 ∧ p.2 = 1) ∧ allow p.1 = true := by
  unfold goodP allow
  simp

theorem validT_step (l : List UInt8) (hne : l ≠ []) : validT l = if goodP (Lib.decodeL l) then validT (l.drop (Lib.decodeL l).2) else false := by
  unfold validT
  rw [Lib.validD_step l hne, runes_step l hne, List.all_cons]
  by_cases h1 : (Lib.decodeL l).1 = 65533 ∧ (Lib.decodeL l).2 = 1
  · rw [if_pos h1, if_neg (by rw [goodP_allow]; exact fun h => h.1 h1)]
    rfl
  · rw [if_neg h1]
    cases ha : allow (Lib.decodeL l).1
    · rw [if_neg (by rw [goodP_allow, ha]; exact fun h => absurd h.2 (by simp))]
      simp
    · rw [if_pos ((goodP_allow _).2 ⟨h1, ha⟩)]
      simp

theorem validT_at (s : ByteArray) (p : Nat) (hp : p < s.size) : validT (s.data.toList.drop p) = if goodP (Utf8.decode s p) then validT (s.data.toList.drop (p + (Utf8.decode s p).2)) else false := by
  have hne : s.data.toList.drop p ≠ [] := by
    intro h0
    have := congrArg List.length h0
    rw [List.length_drop, ← Lib.size_eq] at this
    simp at this
    omega
  rw [validT_step _ hne, Lib.decodeL_drop, List.drop_drop]

theorem decode_fits (s : ByteArray) (p : Nat) (hp : p < s.size) : p + (Utf8.decode s p).2 ≤ s.size := by
  have hne : s.data.toList.drop p ≠ [] := by
    intro h0
    have := congrArg List.length h0
    rw [List.length_drop, ← Lib.size_eq] at this
    simp at this
    omega
  have := Lib.decodeL_le _ hne
  rw [Lib.decodeL_drop, List.length_drop, ← Lib.size_eq] at this
  omega
end

end Go.Proofs.YtnfallkeicehiaaDoor
