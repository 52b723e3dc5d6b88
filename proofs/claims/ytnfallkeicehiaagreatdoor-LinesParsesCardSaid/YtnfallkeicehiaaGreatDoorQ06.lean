/- Merged: RDec, RValid. -/
import Derived.Test.YtnfallkeicehiaaGreatDoorQ05
namespace Go.Proofs.YtnfallkeicehiaaGreatDoor

section
open Go.RowKit Go.PlainAid
/-- A character that was read, and that a text may have. -/
def goodP (p : Nat × Nat) : Prop := ¬ (p.1 = 65533 ∧ p.2 = 1) ∧ ((32 ≤ p.1 ∧ p.1 ≤ 126) ∨ (160 ≤ p.1 ∧ p.1 ≤ 65535))
instance (p : Nat × Nat) : Decidable (goodP p) := by unfold goodP; infer_instance
/-- What decode returns at a place. -/
def refDec (s : ByteArray) (i : Nat) : Nat × Nat := if goodP (Utf8.decode s i) then Utf8.decode s i else (0, 0)

theorem bt_get (s : ByteArray) (k : Nat) : bt s k = ((s.get! k).toNat : Int) := by
  unfold bt
  split
  · rename_i h
    rw [← get_at s k h]; rfl
  · rename_i h
    have : s.get! k = 0 := by
      show s.data[k]! = 0
      rw [getElem!_neg s.data k h]; rfl
    rw [this]; rfl

section
variable (n a b c d : Nat)
theorem key_ascii (h0 : 32 ≤ a) (h1 : a < 127) : Lib.decodeN n a b c d = (a, 1) := by
  unfold Lib.decodeN; rw [if_pos (by omega)]
theorem key_two (hn : 1 < n) (h0 : 194 ≤ a) (h1 : a < 224) (h2 : 128 ≤ b) (h3 : b < 192) : Lib.decodeN n a b c d = ((a - 192) * 64 + b - 128, 2) := by
  unfold Lib.decodeN
  rw [if_neg (by omega), if_pos (by omega), if_pos (by omega)]
  refine Prod.ext ?_ rfl
  simp only; omega
theorem key_three (hn : 2 < n) (h0 : 224 ≤ a) (h1 : a < 240) (h2 : 128 ≤ b) (h3 : b < 192) (h4 : 128 ≤ c) (h5 : c < 192) (h6 : 2048 ≤ (a - 224) * 4096 + (b - 128) * 64 + c - 128) (h7 : (a - 224) * 4096 + (b - 128) * 64 + c - 128 < 55296 ∨ 57343 < (a - 224) * 4096 + (b - 128) * 64 + c - 128) :
    Lib.decodeN n a b c d = ((a - 224) * 4096 + (b - 128) * 64 + c - 128, 3) := by
  unfold Lib.decodeN
  rw [if_neg (by omega), if_neg (by omega), if_pos (by omega), if_pos (by omega)]
  refine Prod.ext ?_ rfl
  simp only; omega
set_option maxHeartbeats 2000000 in
theorem key_not1 (h : a < 32 ∨ (127 ≤ a ∧ a < 194)) : ¬ goodP (Lib.decodeN n a b c d) := by
  unfold Lib.decodeN
  repeat' split
  all_goals first | exact fun h => h.1 ⟨rfl, rfl⟩ | (simp only [goodP]; omega)
set_option maxHeartbeats 2000000 in
theorem key_not2 (h0 : 194 ≤ a) (h1 : a < 224) (h : n ≤ 1 ∨ b < 128 ∨ 192 ≤ b ∨ (a - 192) * 64 + b < 160 + 128) : ¬ goodP (Lib.decodeN n a b c d) := by
  unfold Lib.decodeN
  repeat' split
  all_goals first | exact fun h => h.1 ⟨rfl, rfl⟩ | (simp only [goodP]; omega)
set_option maxHeartbeats 2000000 in
theorem key_not3 (h0 : 224 ≤ a) (h1 : a < 240) (h : n ≤ 2 ∨ b < 128 ∨ 192 ≤ b ∨ c < 128 ∨ 192 ≤ c ∨ (a - 224) * 4096 + (b - 128) * 64 + c < 2048 + 128 ∨ (55296 + 128 ≤ (a - 224) * 4096 + (b - 128) * 64 + c ∧ (a - 224) * 4096 + (b - 128) * 64 + c ≤ 57343 + 128)) (hb : b < 256) (hc : c < 256) : ¬ goodP (Lib.decodeN n a b c d) := by
  unfold Lib.decodeN
  repeat' split
  all_goals first | exact fun h => h.1 ⟨rfl, rfl⟩ | (simp only [goodP]; omega)
set_option maxHeartbeats 2000000 in
theorem key_not4 (h0 : 240 ≤ a) (h1 : a < 256) : ¬ goodP (Lib.decodeN n a b c d) := by
  unfold Lib.decodeN
  repeat' split
  all_goals first | exact fun h => h.1 ⟨rfl, rfl⟩ | (simp only [goodP]; omega)
end

set_option maxHeartbeats 4000000 in
theorem decode_ref (s : ByteArray) (i : Nat) (hi : i < s.size) (hz : s.size ≤ 1000000) (w : World) :
    Calls Tryz.prog 77 #[.string s, .int .i64 i] w fun e w' => e = .returned (.tuple #[.int .i64 (refDec s i).1, .int .i64 (refDec s i).2]) ∧ Below w.heap.size w w' := by
  have ea := bt_get s i
  have eb := bt_get s (i + 1)
  have ec := bt_get s (i + 2)
  have ha := (s.get! i).toNat_lt
  have hb := (s.get! (i + 1)).toNat_lt
  have hc := (s.get! (i + 2)).toNat_lt
  have ed := Lib.decode_at s i
  generalize (s.get! i).toNat = a at ea ha ed
  generalize (s.get! (i + 1)).toNat = b at eb hb ed
  generalize (s.get! (i + 2)).toNat = c at ec hc ed
  generalize (s.get! (i + 3)).toNat = d at ed
  have good : ∀ (v k : Nat) (x : Int), (v : Int) = x → Utf8.decode s i = (v, k) → goodP (v, k) → ∀ (e : Ending) (w' : World), (e = .returned (.tuple #[.int .i64 x, .int .i64 (k : Int)]) ∧ Below w.heap.size w w') →
      (e = .returned (.tuple #[.int .i64 (refDec s i).1, .int .i64 (refDec s i).2]) ∧ Below w.heap.size w w') := by
    rintro v k x rfl h1 h2 e w' ⟨rfl, h3⟩
    have : refDec s i = (v, k) := by unfold refDec; rw [h1, if_pos h2]
    rw [this]
    exact ⟨rfl, h3⟩
  have bad : ¬ goodP (Utf8.decode s i) → ∀ (e : Ending) (w' : World), (e = .returned (.tuple #[.int .i64 0, .int .i64 0]) ∧ Below w.heap.size w w') →
      (e = .returned (.tuple #[.int .i64 (refDec s i).1, .int .i64 (refDec s i).2]) ∧ Below w.heap.size w w') := by
    rintro h2 e w' ⟨rfl, h3⟩
    have : refDec s i = (0, 0) := by unfold refDec; rw [if_neg h2]
    rw [this]
    exact ⟨rfl, h3⟩
  have same : ∀ (e : Ending) (w' : World) (v : Value), (e = .returned v ∧ w = w') → (e = .returned v ∧ Below w.heap.size w w') := by
    rintro e w' v ⟨rfl, rfl⟩
    exact ⟨rfl, Below.refl _ _⟩
  by_cases c1 : a < 32
  · refine (dec_n1 s i hi (by omega) w).mono fun e w' h => bad ?_ e w' (same e w' _ h)
    rw [ed]; exact key_not1 _ _ _ _ _ (by omega)
  by_cases c2 : a < 127
  · refine (dec_ascii s i hi (by omega) (by omega) w).mono fun e w' h => good a 1 (bt s i) ea.symm ?_ ?_ e w' (same e w' _ h)
    · rw [ed]; exact key_ascii _ _ _ _ _ (by omega) (by omega)
    · simp only [goodP]; omega
  by_cases c3 : a < 194
  · refine (dec_n2 s i hi (by omega) (by omega) w).mono fun e w' h => bad ?_ e w' (same e w' _ h)
    rw [ed]; exact key_not1 _ _ _ _ _ (by omega)
  by_cases c4 : a < 224
  · by_cases c5 : i + 1 < s.size
    · by_cases c6 : b < 128
      · refine (dec_n4 s i hi hz (by omega) (by omega) c5 (by omega) w).mono fun e w' h => bad ?_ e w' (same e w' _ h)
        rw [ed]; exact key_not2 _ _ _ _ _ (by omega) (by omega) (by omega)
      by_cases c7 : 192 ≤ b
      · refine (dec_n5 s i hi hz (by omega) (by omega) c5 (by omega) w).mono fun e w' h => bad ?_ e w' (same e w' _ h)
        rw [ed]; exact key_not2 _ _ _ _ _ (by omega) (by omega) (by omega)
      by_cases c8 : (a - 192) * 64 + b < 160 + 128
      · refine (dec_n6 s i hi hz (by omega) (by omega) c5 (by omega) (by omega) (by omega) w).mono fun e w' h => bad ?_ e w' (same e w' _ h)
        rw [ed]; exact key_not2 _ _ _ _ _ (by omega) (by omega) (by omega)
      · refine (dec_two s i hi hz (by omega) (by omega) c5 (by omega) (by omega) (by omega) w).mono fun e w' h => good ((a - 192) * 64 + b - 128) 2 _ ?_ ?_ ?_ e w' (same e w' _ h)
        · omega
        · rw [ed]; exact key_two _ _ _ _ _ (by omega) (by omega) (by omega) (by omega) (by omega)
        · simp only [goodP]; omega
    · refine (dec_n3 s i hi hz (by omega) (by omega) (by omega) w).mono fun e w' h => bad ?_ e w' (same e w' _ h)
      rw [ed]; exact key_not2 _ _ _ _ _ (by omega) (by omega) (by omega)
  by_cases c9 : a < 240
  · by_cases c5 : i + 2 < s.size
    · by_cases c6 : b < 128
      · refine (dec_n8 s i hi hz (by omega) (by omega) c5 (by omega) w).mono fun e w' h => bad ?_ e w' (same e w' _ h)
        rw [ed]; exact key_not3 _ _ _ _ _ (by omega) (by omega) (by omega) hb hc
      by_cases c7 : 192 ≤ b
      · refine (dec_n9 s i hi hz (by omega) (by omega) c5 (by omega) w).mono fun e w' h => bad ?_ e w' (same e w' _ h)
        rw [ed]; exact key_not3 _ _ _ _ _ (by omega) (by omega) (by omega) hb hc
      by_cases c8 : c < 128
      · refine (dec_n10 s i hi hz (by omega) (by omega) c5 (by omega) (by omega) (by omega) w).mono fun e w' h => bad ?_ e w' (same e w' _ h)
        rw [ed]; exact key_not3 _ _ _ _ _ (by omega) (by omega) (by omega) hb hc
      by_cases c10 : 192 ≤ c
      · refine (dec_n11 s i hi hz (by omega) (by omega) c5 (by omega) (by omega) (by omega) w).mono fun e w' h => bad ?_ e w' (same e w' _ h)
        rw [ed]; exact key_not3 _ _ _ _ _ (by omega) (by omega) (by omega) hb hc
      by_cases c11 : (a - 224) * 4096 + (b - 128) * 64 + c < 2048 + 128
      · refine (dec_n12 s i hi hz (by omega) (by omega) c5 (by omega) (by omega) (by omega) (by omega) (by omega) w).mono fun e w' h => bad ?_ e w' h
        rw [ed]; exact key_not3 _ _ _ _ _ (by omega) (by omega) (by omega) hb hc
      by_cases c12 : (a - 224) * 4096 + (b - 128) * 64 + c < 55296 + 128
      · refine (dec_three_lo s i hi hz (by omega) (by omega) c5 (by omega) (by omega) (by omega) (by omega) (by omega) (by omega) w).mono fun e w' h => good ((a - 224) * 4096 + (b - 128) * 64 + c - 128) 3 _ ?_ ?_ ?_ e w' h
        · omega
        · rw [ed]; exact key_three _ _ _ _ _ (by omega) (by omega) (by omega) (by omega) (by omega) (by omega) (by omega) (by omega) (by omega)
        · simp only [goodP]; omega
      by_cases c13 : (a - 224) * 4096 + (b - 128) * 64 + c ≤ 57343 + 128
      · refine (dec_n13 s i hi hz (by omega) (by omega) c5 (by omega) (by omega) (by omega) (by omega) (by omega) (by omega) w).mono fun e w' h => bad ?_ e w' h
        rw [ed]; exact key_not3 _ _ _ _ _ (by omega) (by omega) (by omega) hb hc
      · refine (dec_three_hi s i hi hz (by omega) (by omega) c5 (by omega) (by omega) (by omega) (by omega) (by omega) w).mono fun e w' h => good ((a - 224) * 4096 + (b - 128) * 64 + c - 128) 3 _ ?_ ?_ ?_ e w' h
        · omega
        · rw [ed]; exact key_three _ _ _ _ _ (by omega) (by omega) (by omega) (by omega) (by omega) (by omega) (by omega) (by omega) (by omega)
        · simp only [goodP]; omega
    · refine (dec_n7 s i hi hz (by omega) (by omega) (by omega) w).mono fun e w' h => bad ?_ e w' (same e w' _ h)
      rw [ed]; exact key_not3 _ _ _ _ _ (by omega) (by omega) (by omega) hb hc
  · refine (dec_n14 s i hi (by omega) w).mono fun e w' h => bad ?_ e w' (same e w' _ h)
    rw [ed]; exact key_not4 _ _ _ _ _ (by omega) (by omega)
end

section
open Go.RowKit
theorem goodP_allow (p : Nat × Nat) : goodP p ↔ ¬ (p.1 = 65533 ∧ p.2 = 1) ∧ allow p.1 = true := by
  unfold goodP allow
  simp

theorem validT_step (l : List UInt8) (hne : l ≠ []) : validT l = if goodP (Lib.decodeL l) then validT (l.drop (Lib.decodeL l).2) else false := by
  unfold validT
  rw [Lib.validD_step l hne, runes_step l hne, List.all_cons]
  by_cases h1 : (Lib.decodeL l).1 = 65533 ∧ (Lib.decodeL l).2 = 1
  · rw [if_pos h1, if_neg (by rw [goodP_allow]; exact fun h => h.1 h1)]
    rfl
  · rw [if_neg h1]
    cases ha : allow (Lib.decodeL l).1
    · rw [if_neg (by rw [goodP_allow, ha]; exact fun h => absurd h.2 (by simp))]
      simp
    · rw [if_pos ((goodP_allow _).2 ⟨h1, ha⟩)]
      simp

theorem validT_at (s : ByteArray) (p : Nat) (hp : p < s.size) : validT (s.data.toList.drop p) = if goodP (Utf8.decode s p) then validT (s.data.toList.drop (p + (Utf8.decode s p).2)) else false := by
  have hne : s.data.toList.drop p ≠ [] := by
    intro h0
    have := congrArg List.length h0
    rw [List.length_drop, ← Lib.size_eq] at this
    simp at this
    omega
  rw [validT_step _ hne, Lib.decodeL_drop, List.drop_drop]

theorem decode_fits (s : ByteArray) (p : Nat) (hp : p < s.size) : p + (Utf8.decode s p).2 ≤ s.size := by
  have hne : s.data.toList.drop p ≠ [] := by
    intro h0
    have := congrArg List.length h0
    rw [List.length_drop, ← Lib.size_eq] at this
    simp at this
    omega
  have := Lib.decodeL_le _ hne
  rw [Lib.decodeL_drop, List.length_drop, ← Lib.size_eq] at this
  omega

set_option maxHeartbeats 4000000 in
theorem refValid_any (s : ByteArray) (hz : s.size ≤ 1000000) (w : World) :
    Calls Tryz.prog 60 #[.string s] w fun e w' => e = .returned (.bool (validT s.data.toList)) ∧ Below w.heap.size w w' := by
  go_enter Tryz.func60, Tryz.ntmps60
  go_wp2
  go_loopw [3] (fun i wr => ∃ p : Nat, p ≤ s.size ∧ i = .int .i64 p ∧ Below w.heap.size w wr ∧ validT (s.data.toList.drop p) = validT s.data.toList) (fun i _ => s.size - (intOf i).toNat)
  case atStart => exact ⟨0, Nat.zero_le _, rfl, Below.refl _ _, by rw [List.drop_zero]⟩
  case round =>
    obtain ⟨p, hp, rfl, hbw, hall⟩ := hrel
    have HA := Lib.hid hall
    clear hall
    have hsz := hbw.size
    by_cases hlt : p < s.size
    · have cD := decode_ref s p hlt hz wr
      have HV := Lib.hid (validT_at s p hlt)
      have hfit := decode_fits s p hlt
      have hwd := Lib.width_pos s p
      have hpi : (p : Int) < (s.size : Int) := by omega
      by_cases hg : goodP (Utf8.decode s p)
      · have e1 : refDec s p = Utf8.decode s p := by unfold refDec; rw [if_pos hg]
        rw [e1] at cD
        have HG := Lib.hid hg
        clear e1 hg
        generalize Utf8.decode s p = d at cD HV hfit hwd HG
        obtain ⟨c, k⟩ := d
        simp only at cD hfit hwd
        have hk1 : ((k : Int) == 0) = false := by simp; omega
        go_wp2_with fail
        refine cD.mono ?_
        rintro e w1 ⟨rfl, b1⟩
        have b2 := hbw.trans (b1.mono hsz)
        clear b1
        go_wp2
        go_roundw
        case rel =>
          refine ⟨p + k, by omega, by go_num, b2, ?_⟩
          have := HV.out
          rw [if_pos HG.out] at this
          rw [← HA.out, this]
        case measure => simp [intOf]; omega
      · have e1 : refDec s p = (0, 0) := by unfold refDec; rw [if_neg hg]
        rw [e1] at cD
        have HG := Lib.hid hg
        clear e1 hg hfit hwd
        simp only at cD
        go_wp2_with fail
        refine cD.mono ?_
        rintro e w1 ⟨rfl, b1⟩
        have b2 := hbw.trans (b1.mono hsz)
        clear b1
        go_wp2
        go_ret
        refine ⟨?_, b2⟩
        have := HV.out
        rw [if_neg HG.out] at this
        rw [← HA.out, this]
        rfl
    · obtain rfl : p = s.size := by omega
      go_wp2
      go_ret
      refine ⟨?_, hbw⟩
      have := HA.out
      rw [List.drop_eq_nil_of_le (by rw [← Lib.size_eq]; omega)] at this
      rw [← this]
      rfl
end

end Go.Proofs.YtnfallkeicehiaaGreatDoor
