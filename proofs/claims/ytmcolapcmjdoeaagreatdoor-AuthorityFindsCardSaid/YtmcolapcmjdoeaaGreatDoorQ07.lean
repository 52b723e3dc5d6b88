/- Merged: TAllowed, Tabs, TValid. -/
import Derived.Test.YtmcolapcmjdoeaaGreatDoorQ06
import Derived.Test.YtmcolapcmjdoeaaGreatDoorQ02
import Derived.Test.YtmcolapcmjdoeaaGreatDoorShelf
namespace Go.Proofs.YtmcolapcmjdoeaaGreatDoor

section
open Go.RowKit
set_option maxHeartbeats 1000000 in
theorem allowed_any (c : Nat) (hc : c ≤ 1114111) (b : Bool) (hb : allow c = b) (w : World) :
    Calls Tryz.prog 114 #[.int .i32 (c : Int)] w fun e w' => e = .returned (.bool b) ∧ w = w' := by
  have H := Lib.hid hb
  clear hb
  by_cases h1 : 32 ≤ c
  · by_cases h2 : c ≤ 126
    · obtain rfl : b = true := by have := H.out; rw [← this]; simp [allow, h1, h2]
      have d1 : decide ((32 : Int) ≤ (c : Int)) = true := by simp; omega
      have d2 : decide ((c : Int) ≤ 126) = true := by simp; omega
      clear H h1 h2
      go_enter Tryz.func114, Tryz.ntmps114
      go_wp2
      go_ret
      exact ⟨rfl, rfl⟩
    · by_cases h3 : 160 ≤ c
      · have d1 : decide ((32 : Int) ≤ (c : Int)) = true := by simp; omega
        have d2 : decide ((c : Int) ≤ 126) = false := by simp; omega
        have d3 : decide ((160 : Int) ≤ (c : Int)) = true := by simp; omega
        by_cases h4 : c ≤ 65535
        · obtain rfl : b = true := by have := H.out; rw [← this]; simp [allow, h3, h4]
          have d4 : decide ((c : Int) ≤ 65535) = true := by simp; omega
          clear H h1 h2 h3 h4
          go_enter Tryz.func114, Tryz.ntmps114
          go_wp2
          go_ret
          exact ⟨rfl, rfl⟩
        · obtain rfl : b = false := by have := H.out; rw [← this]; simp [allow, h2, h4]
          have d4 : decide ((c : Int) ≤ 65535) = false := by simp; omega
          clear H h1 h2 h3 h4
          go_enter Tryz.func114, Tryz.ntmps114
          go_wp2
          go_ret
          exact ⟨rfl, rfl⟩
      · obtain rfl : b = false := by have := H.out; rw [← this]; simp [allow, h2, h3]
        have d1 : decide ((32 : Int) ≤ (c : Int)) = true := by simp; omega
        have d2 : decide ((c : Int) ≤ 126) = false := by simp; omega
        have d3 : decide ((160 : Int) ≤ (c : Int)) = false := by simp; omega
        clear H h1 h2 h3
        go_enter Tryz.func114, Tryz.ntmps114
        go_wp2
        go_ret
        exact ⟨rfl, rfl⟩
  · obtain rfl : b = false := by have := H.out; rw [← this]; simp [allow]; omega
    have d1 : decide ((32 : Int) ≤ (c : Int)) = false := by simp; omega
    have d3 : decide ((160 : Int) ≤ (c : Int)) = false := by simp; omega
    clear H h1
    go_enter Tryz.func114, Tryz.ntmps114
    go_wp2
    go_ret
    exact ⟨rfl, rfl⟩
end

section
open Go.RowKit
/-- The two tables of unicode/utf8 lie in their blocks. -/
def Tabs (w : World) : Prop := (1 < w.heap.size ∧ 2 < w.heap.size) ∧ Lib.Utf8Tabs 1 2 w
theorem Tabs.after {w w' : World} (h : Tabs w) (hb : Below w.heap.size w w') : Tabs w' := by
  obtain ⟨⟨h0, h1⟩, h2, h3⟩ := h
  refine ⟨⟨Nat.lt_of_lt_of_le h0 hb.size, Nat.lt_of_lt_of_le h1 hb.size⟩, fun c hc => ?_, fun i hi => ?_⟩
  · rw [hb.cell (p := ⟨1, c, none⟩) h0]
    exact h2 c hc
  · rw [hb.cell (p := ⟨2, 2 * i, none⟩) h1, hb.cell (p := ⟨2, 2 * i + 1, none⟩) h1]
    exact h3 i hi
end

section
open Go.RowKit
theorem runes_at (s : ByteArray) (p : Nat) (hp : p < s.size) : runes (s.data.toList.drop p) = (Utf8.decode s p).1 :: runes (s.data.toList.drop (p + (Utf8.decode s p).2)) := by
  have hne : s.data.toList.drop p ≠ [] := by
    intro h0
    have := congrArg List.length h0
    rw [List.length_drop, ← Lib.size_eq] at this
    simp at this
    omega
  rw [runes_step _ hne, Lib.decodeL_drop, List.drop_drop]

theorem decode_big (s : ByteArray) (p : Nat) : (Utf8.decode s p).1 ≤ 1114111 := Lib.rune_le s p

set_option maxHeartbeats 2000000 in
theorem valid_any (s : ByteArray) (hz : s.size ≤ 9223372036854775807) (w : World) (hE : Tabs w) :
    Calls Tryz.prog 96 #[.string s] w fun e w' => e = .returned (.bool (validT s.data.toList)) ∧ Below w.heap.size w w' := by
  have cV := Tryz.utf8_ValidString s w hz hE.2
  obtain ⟨V, hV⟩ : ∃ V, Lib.validD s.data.toList = V := ⟨_, rfl⟩
  rw [hV] at cV
  have HV := Lib.hid hV
  clear hV
  cases V
  · go_enter Tryz.func96, Tryz.ntmps96
    go_wp2_with (go_at_call 113; refine cV.mono ?_; rintro e w1 ⟨rfl, hb⟩)
    go_ret
    refine ⟨?_, hb⟩
    have : validT s.data.toList = false := by unfold validT; rw [HV.out]; rfl
    rw [this]
    rfl
  · have eV : validT s.data.toList = (runes s.data.toList).all allow := by unfold validT; rw [HV.out]; rfl
    rw [eV]
    clear eV
    go_enter Tryz.func96, Tryz.ntmps96
    go_wp2_with (go_at_call 113; refine cV.mono ?_; rintro e w1 ⟨rfl, hb⟩)
    clear cV
    have hB1 := hb.size
    go_loopw [] (fun wr => ∃ p : Nat, wr.heap[w1.heap.size]? = some (.stringIter s p) ∧ Below w.heap.size w wr ∧ (runes (s.data.toList.drop p)).all allow = (runes s.data.toList).all allow) (fun wr => s.size - wr.iterPos w1.heap.size)
    case atStart =>
      refine ⟨0, World.iter_heap w1 s 0, hb.alloc hB1 _, ?_⟩
      rw [List.drop_zero]
    case round =>
      obtain ⟨p, hit, hbw, hall⟩ := hrel
      have HA := Lib.hid hall
      clear hall
      by_cases hlt : p < s.size
      · have hnx : ∀ ty, (Instr.next (.pointer (some ⟨w1.heap.size, 0, none⟩)) true ty).run Tryz.prog wr = _ := fun ty => Lib.run_next_any_at wr w1.heap.size s p ty hit hlt
        have hit2 := Lib.iterAt_heap wr w1.heap.size s p (p + (Utf8.decode s p).2) hit
        have hbw2 := Lib.below_iterAt hbw (k := w1.heap.size) (by omega) s (p + (Utf8.decode s p).2)
        have HM := Lib.hid (And.intro (pos_T _ _ _ _ hit) (pos_T _ _ _ _ hit2))
        have hwd := Lib.width_pos s p
        have hbig := decode_big s p
        have HR := Lib.hid (runes_at s p hlt)
        cases hb2 : allow (Utf8.decode s p).1
        · have HB := Lib.hid hb2
          clear hb2
          go_wp2_with (go_at_call 114; refine (allowed_any _ (by omega) false HB.out _).mono ?_; rintro e w' ⟨rfl, rfl⟩)
          go_ret
          refine ⟨?_, hbw2⟩
          have := HA.out
          rw [HR.out, List.all_cons, HB.out, Bool.false_and] at this
          rw [← this]
          rfl
        · have HB := Lib.hid hb2
          clear hb2
          go_wp2_with (go_at_call 114; refine (allowed_any _ (by omega) true HB.out _).mono ?_; rintro e w' ⟨rfl, rfl⟩)
          go_roundw
          case rel =>
            refine ⟨p + (Utf8.decode s p).2, hit2, hbw2, ?_⟩
            have := HA.out
            rw [HR.out, List.all_cons, HB.out, Bool.true_and] at this
            exact this
          case measure => rw [HM.out.1, HM.out.2]; omega
      · have hnx : ∀ ty, (Instr.next (.pointer (some ⟨w1.heap.size, 0, none⟩)) true ty).run Tryz.prog wr = _ := fun ty => Lib.run_next_end_at wr w1.heap.size s p ty hit hlt
        go_wp2
        go_ret
        refine ⟨?_, hbw⟩
        have := HA.out
        rw [List.drop_eq_nil_of_le (by rw [← Lib.size_eq]; omega)] at this
        rw [← this]
        rfl

theorem valid_is (s : ByteArray) (b : Bool) (hb : validT s.data.toList = b) (hz : s.size ≤ 9223372036854775807) (w : World) (hE : Tabs w) :
    Calls Tryz.prog 96 #[.string s] w fun e w' => e = .returned (.bool b) ∧ Below w.heap.size w w' := by
  have := valid_any s hz w hE
  rwa [hb] at this
end

end Go.Proofs.YtmcolapcmjdoeaaGreatDoor
