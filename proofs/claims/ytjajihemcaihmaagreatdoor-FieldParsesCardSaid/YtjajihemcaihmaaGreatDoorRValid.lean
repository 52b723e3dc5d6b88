/- libraryref01.Valid at every string -/
import Derived.Test.YtjajihemcaihmaaGreatDoorRDec
namespace Go.Proofs.YtjajihemcaihmaaGreatDoor
open Go.RowKit

theorem goodP_allow (p : Nat × Nat) : goodP p ↔ ¬ (p.1 = 65533 ∧ p.2 = 1) ∧ allow p.1 = true := by
  unfold goodP allow
  simp

theorem validT_step (l : List UInt8) (hne : l ≠ []) : validT l = if goodP (Lib.decodeL l) then validT (l.drop (Lib.decodeL l).2) else false := by
  unfold validT
  rw [Lib.validD_step l hne, runes_step l hne, List.all_cons]
  by_cases h1 : (Lib.decodeL l).1 = 65533 ∧ (Lib.decodeL l).2 = 1
  · rw [if_pos h1, if_neg (by rw [goodP_allow]; exact fun h => h.1 h1)]
    rfl
  · rw [if_neg h1]
    cases ha : allow (Lib.decodeL l).1
    · rw [if_neg (by rw [goodP_allow, ha]; exact fun h => absurd h.2 (by simp))]
      simp
    · rw [if_pos ((goodP_allow _).2 ⟨h1, ha⟩)]
      simp

theorem validT_at (s : ByteArray) (p : Nat) (hp : p < s.size) : validT (s.data.toList.drop p) = if goodP (Utf8.decode s p) then validT (s.data.toList.drop (p + (Utf8.decode s p).2)) else false := by
  have hne : s.data.toList.drop p ≠ [] := by
    intro h0
    have := congrArg List.length h0
    rw [List.length_drop, ← Lib.size_eq] at this
    simp at this
    omega
  rw [validT_step _ hne, Lib.decodeL_drop, List.drop_drop]

theorem decode_fits (s : ByteArray) (p : Nat) (hp : p < s.size) : p + (Utf8.decode s p).2 ≤ s.size := by
  have hne : s.data.toList.drop p ≠ [] := by
    intro h0
    have := congrArg List.length h0
    rw [List.length_drop, ← Lib.size_eq] at this
    simp at this
    omega
  have := Lib.decodeL_le _ hne
  rw [Lib.decodeL_drop, List.length_drop, ← Lib.size_eq] at this
  omega

set_option maxHeartbeats 4000000 in
theorem refValid_any (s : ByteArray) (hz : s.size ≤ 1000000) (w : World) :
    Calls Tryz.prog 55 #[.string s] w fun e w' => e = .returned (.bool (validT s.data.toList)) ∧ Below w.heap.size w w' := by
  go_enter Tryz.func55, Tryz.ntmps55
  go_wp2
  go_loopw [3] (fun i wr => ∃ p : Nat, p ≤ s.size ∧ i = .int .i64 p ∧ Below w.heap.size w wr ∧ validT (s.data.toList.drop p) = validT s.data.toList) (fun i _ => s.size - (intOf i).toNat)
  case atStart => exact ⟨0, Nat.zero_le _, rfl, Below.refl _ _, by rw [List.drop_zero]⟩
  case round =>
    obtain ⟨p, hp, rfl, hbw, hall⟩ := hrel
    have HA := Lib.hid hall
    clear hall
    have hsz := hbw.size
    by_cases hlt : p < s.size
    · have cD := decode_ref s p hlt hz wr
      have HV := Lib.hid (validT_at s p hlt)
      have hfit := decode_fits s p hlt
      have hwd := Lib.width_pos s p
      have hpi : (p : Int) < (s.size : Int) := by omega
      by_cases hg : goodP (Utf8.decode s p)
      · have e1 : refDec s p = Utf8.decode s p := by unfold refDec; rw [if_pos hg]
        rw [e1] at cD
        have HG := Lib.hid hg
        clear e1 hg
        generalize Utf8.decode s p = d at cD HV hfit hwd HG
        obtain ⟨c, k⟩ := d
        simp only at cD hfit hwd
        have hk1 : ((k : Int) == 0) = false := by simp; omega
        go_wp2_with fail
        refine cD.mono ?_
        rintro e w1 ⟨rfl, b1⟩
        have b2 := hbw.trans (b1.mono hsz)
        clear b1
        go_wp2
        go_roundw
        case rel =>
          refine ⟨p + k, by omega, by go_num, b2, ?_⟩
          have := HV.out
          rw [if_pos HG.out] at this
          rw [← HA.out, this]
        case measure => simp [intOf]; omega
      · have e1 : refDec s p = (0, 0) := by unfold refDec; rw [if_neg hg]
        rw [e1] at cD
        have HG := Lib.hid hg
        clear e1 hg hfit hwd
        simp only at cD
        go_wp2_with fail
        refine cD.mono ?_
        rintro e w1 ⟨rfl, b1⟩
        have b2 := hbw.trans (b1.mono hsz)
        clear b1
        go_wp2
        go_ret
        refine ⟨?_, b2⟩
        have := HV.out
        rw [if_neg HG.out] at this
        rw [← HA.out, this]
        rfl
    · obtain rfl : p = s.size := by omega
      go_wp2
      go_ret
      refine ⟨?_, hbw⟩
      have := HA.out
      rw [List.drop_eq_nil_of_le (by rw [← Lib.size_eq]; omega)] at this
      rw [← this]
      rfl

end Go.Proofs.YtjajihemcaihmaaGreatDoor
