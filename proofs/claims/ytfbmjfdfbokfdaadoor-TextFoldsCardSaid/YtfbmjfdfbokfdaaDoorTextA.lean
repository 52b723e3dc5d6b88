/- The functions of package text that make no string: a blank, a letter, an allowed character, Runes, Space and Clip, over texts, that is, over strings of characters that a text may have. -/
import Derived.Test.YtfbmjfdfbokfdaaDoorPlain
import Derived.Test.YtfbmjfdfbokfdaaDoorProg
import Derived.Lib.OthersKept
import Derived.Lib.Hide
import Derived.WalkKit
import Derived.WalkLawsBesides
import Derived.BigQuiet
import Derived.Deep.QuietTactic
namespace Go.Proofs.YtfbmjfdfbokfdaaDoor
open Go.RowKit


theorem next_T {P : Program} (w : World) (k : Nat) (cs : List Nat) (h : OKs cs) (j : Nat) (hk : w.heap[k]? = some (.stringIter (T cs) (off cs j))) (hj : j < cs.length) (ty : TypeId) :
    (Instr.next (.pointer (some ⟨k, 0, none⟩)) true ty).run P w = .ok (.tuple #[.bool true, .int .i64 (off cs j), .int .i32 (cs[j] : Nat)]) (w.iterAt k (T cs) (off cs (j + 1))) := by
  have := Lib.run_next_any_at (P := P) w k (T cs) (off cs j) ty hk (off_lt cs j hj)
  rw [decode_T cs h j hj] at this
  rw [this, off_succ cs j hj]
theorem end_T {P : Program} (w : World) (k : Nat) (cs : List Nat) (j : Nat) (hk : w.heap[k]? = some (.stringIter (T cs) (off cs j))) (hj : j = cs.length) (ty : TypeId) :
    (Instr.next (.pointer (some ⟨k, 0, none⟩)) true ty).run P w = .ok (.tuple #[.bool false]) w := by
  refine Lib.run_next_end_at (P := P) w k (T cs) (off cs j) ty hk ?_
  rw [hj, T_off]; omega
theorem pos_T (w : World) (k : Nat) (s : ByteArray) (p : Nat) (hk : w.heap[k]? = some (.stringIter s p)) : w.iterPos k = p := by
  simp [World.iterPos, hk]
theorem okc_le {c : Nat} (h : okc c) : c ≤ 65535 := by unfold okc at h; omega

set_option maxHeartbeats 1000000 in
theorem blank_any (c : Nat) (hc : c ≤ 1114111) (b : Bool) (hb : blankc c = b) (w : World) :
    Calls Tryd.prog 30 #[.int .i32 (c : Int)] w fun e w' => e = .returned (.bool b) ∧ w = w' := by
  have H := Lib.hid hb
  clear hb
  by_cases h1 : c = 32
  · subst h1
    obtain rfl : b = true := by have := H.out; rw [← this]; rfl
    clear H
    go_enter Tryd.func30, Tryd.ntmps30
    go_wp2
    go_ret
    exact ⟨rfl, rfl⟩
  · have e1 : ((c : Int) == 32) = false := by simp; omega
    by_cases h2 : c = 160
    · subst h2
      obtain rfl : b = true := by have := H.out; rw [← this]; rfl
      clear H e1 h1
      go_enter Tryd.func30, Tryd.ntmps30
      go_wp2
      go_ret
      exact ⟨rfl, rfl⟩
    · obtain rfl : b = false := by have := H.out; rw [← this]; simp [blankc, h1, h2]
      have e2 : ((c : Int) == 160) = false := by simp; omega
      clear H h1 h2
      go_enter Tryd.func30, Tryd.ntmps30
      go_wp2
      go_ret
      exact ⟨rfl, rfl⟩

set_option maxHeartbeats 1000000 in
theorem allowed_any (c : Nat) (hc : c ≤ 1114111) (b : Bool) (hb : allow c = b) (w : World) :
    Calls Tryd.prog 27 #[.int .i32 (c : Int)] w fun e w' => e = .returned (.bool b) ∧ w = w' := by
  have H := Lib.hid hb
  clear hb
  by_cases h1 : 32 ≤ c
  · by_cases h2 : c ≤ 126
    · obtain rfl : b = true := by have := H.out; rw [← this]; simp [allow, h1, h2]
      have d1 : decide ((32 : Int) ≤ (c : Int)) = true := by simp; omega
      have d2 : decide ((c : Int) ≤ 126) = true := by simp; omega
      clear H h1 h2
      go_enter Tryd.func27, Tryd.ntmps27
      go_wp2
      go_ret
      exact ⟨rfl, rfl⟩
    · by_cases h3 : 160 ≤ c
      · have d1 : decide ((32 : Int) ≤ (c : Int)) = true := by simp; omega
        have d2 : decide ((c : Int) ≤ 126) = false := by simp; omega
        have d3 : decide ((160 : Int) ≤ (c : Int)) = true := by simp; omega
        by_cases h4 : c ≤ 65535
        · obtain rfl : b = true := by have := H.out; rw [← this]; simp [allow, h3, h4]
          have d4 : decide ((c : Int) ≤ 65535) = true := by simp; omega
          clear H h1 h2 h3 h4
          go_enter Tryd.func27, Tryd.ntmps27
          go_wp2
          go_ret
          exact ⟨rfl, rfl⟩
        · obtain rfl : b = false := by have := H.out; rw [← this]; simp [allow, h2, h4]
          have d4 : decide ((c : Int) ≤ 65535) = false := by simp; omega
          clear H h1 h2 h3 h4
          go_enter Tryd.func27, Tryd.ntmps27
          go_wp2
          go_ret
          exact ⟨rfl, rfl⟩
      · obtain rfl : b = false := by have := H.out; rw [← this]; simp [allow, h2, h3]
        have d1 : decide ((32 : Int) ≤ (c : Int)) = true := by simp; omega
        have d2 : decide ((c : Int) ≤ 126) = false := by simp; omega
        have d3 : decide ((160 : Int) ≤ (c : Int)) = false := by simp; omega
        clear H h1 h2 h3
        go_enter Tryd.func27, Tryd.ntmps27
        go_wp2
        go_ret
        exact ⟨rfl, rfl⟩
  · obtain rfl : b = false := by have := H.out; rw [← this]; simp [allow]; omega
    have d1 : decide ((32 : Int) ≤ (c : Int)) = false := by simp; omega
    have d3 : decide ((160 : Int) ≤ (c : Int)) = false := by simp; omega
    clear H h1
    go_enter Tryd.func27, Tryd.ntmps27
    go_wp2
    go_ret
    exact ⟨rfl, rfl⟩

set_option maxHeartbeats 1000000 in
theorem letter_any (c : Nat) (hc : c ≤ 1114111) (b : Bool) (hb : letterc c = b) (w : World) :
    Calls Tryd.prog 38 #[.int .i32 (c : Int)] w fun e w' => e = .returned (.bool b) ∧ w = w' := by
  have H := Lib.hid hb
  clear hb
  by_cases h6 : 256 ≤ c
  · obtain rfl : b = true := by have := H.out; rw [← this]; simp [letterc, h6]
    have d1 : decide ((97 : Int) ≤ (c : Int)) = true := by simp; omega
    have d2 : decide ((c : Int) ≤ 122) = false := by simp; omega
    have d3 : decide ((48 : Int) ≤ (c : Int)) = true := by simp; omega
    have d4 : decide ((c : Int) ≤ 57) = false := by simp; omega
    have d5 : decide ((256 : Int) ≤ (c : Int)) = true := by simp; omega
    clear H h6
    go_enter Tryd.func38, Tryd.ntmps38
    go_wp2
    go_ret
    exact ⟨rfl, rfl⟩
  · have d5 : decide ((256 : Int) ≤ (c : Int)) = false := by simp; omega
    by_cases h1 : 97 ≤ c
    · have d1 : decide ((97 : Int) ≤ (c : Int)) = true := by simp; omega
      by_cases h2 : c ≤ 122
      · obtain rfl : b = true := by have := H.out; rw [← this]; simp [letterc, h1, h2]
        have d2 : decide ((c : Int) ≤ 122) = true := by simp; omega
        clear H h1 h2 h6
        go_enter Tryd.func38, Tryd.ntmps38
        go_wp2
        go_ret
        exact ⟨rfl, rfl⟩
      · obtain rfl : b = false := by have := H.out; rw [← this]; simp [letterc, h2]; omega
        have d2 : decide ((c : Int) ≤ 122) = false := by simp; omega
        have d3 : decide ((48 : Int) ≤ (c : Int)) = true := by simp; omega
        have d4 : decide ((c : Int) ≤ 57) = false := by simp; omega
        clear H h1 h2 h6
        go_enter Tryd.func38, Tryd.ntmps38
        go_wp2
        go_ret
        exact ⟨rfl, rfl⟩
    · have d1 : decide ((97 : Int) ≤ (c : Int)) = false := by simp; omega
      by_cases h3 : 48 ≤ c
      · have d3 : decide ((48 : Int) ≤ (c : Int)) = true := by simp; omega
        by_cases h4 : c ≤ 57
        · obtain rfl : b = true := by have := H.out; rw [← this]; simp [letterc, h3, h4]
          have d4 : decide ((c : Int) ≤ 57) = true := by simp; omega
          clear H h1 h3 h4 h6
          go_enter Tryd.func38, Tryd.ntmps38
          go_wp2
          go_ret
          exact ⟨rfl, rfl⟩
        · obtain rfl : b = false := by have := H.out; rw [← this]; simp [letterc, h4]; omega
          have d4 : decide ((c : Int) ≤ 57) = false := by simp; omega
          clear H h1 h3 h4 h6
          go_enter Tryd.func38, Tryd.ntmps38
          go_wp2
          go_ret
          exact ⟨rfl, rfl⟩
      · obtain rfl : b = false := by have := H.out; rw [← this]; simp [letterc]; omega
        have d3 : decide ((48 : Int) ≤ (c : Int)) = false := by simp; omega
        clear H h1 h3 h6
        go_enter Tryd.func38, Tryd.ntmps38
        go_wp2
        go_ret
        exact ⟨rfl, rfl⟩

set_option maxHeartbeats 1000000 in
theorem space_any (cs : List Nat) (h : OKs cs) (s : ByteArray) (hs : s = T cs) (w : World) :
    Calls Tryd.prog 18 #[.string s] w fun e w' => e = .returned (.bool (cs.all blankc)) ∧ Below w.heap.size w w' := by
  subst hs
  go_enter Tryd.func18, Tryd.ntmps18
  go_wp2
  go_loopw [] (fun wr => ∃ j : Nat, j ≤ cs.length ∧ wr.heap[w.heap.size]? = some (.stringIter (T cs) (off cs j)) ∧ Below w.heap.size w wr ∧ (cs.take j).all blankc = true) (fun wr => (T cs).size - wr.iterPos w.heap.size)
  case atStart =>
    refine ⟨0, Nat.zero_le _, ?_, (Below.refl _ w).alloc (Nat.le_refl _) _, rfl⟩
    rw [off_zero]
    exact World.iter_heap w (T cs) 0
  case round =>
    obtain ⟨j, hj, hit, hbw, hall⟩ := hrel
    have HA := Lib.hid hall
    clear hall
    by_cases hlt : j < cs.length
    · have hnx : ∀ ty, (Instr.next (.pointer (some ⟨w.heap.size, 0, none⟩)) true ty).run Tryd.prog wr = _ := fun ty => next_T wr w.heap.size cs h j hit hlt ty
      have hit2 := Lib.iterAt_heap wr w.heap.size (T cs) (off cs j) (off cs (j + 1)) hit
      have hbw2 := Lib.below_iterAt hbw (k := w.heap.size) (Nat.le_refl _) (T cs) (off cs (j + 1))
      have hm1 := pos_T _ _ _ _ hit
      have hm2 := pos_T _ _ _ _ hit2
      have hol := off_lt cs j hlt
      have hoj := off_inj cs j (j + 1) (by omega) (by omega)
      have hok := okc_le (OKs_get h hlt)
      have HM := Lib.hid (And.intro hm1 hm2)
      clear hm1 hm2
      cases hb : blankc cs[j]
      · have HB := Lib.hid hb
        clear hb
        go_wp2_with (go_at_call 30; refine (blank_any _ (by omega) false HB.out _).mono ?_; rintro e w' ⟨rfl, rfl⟩)
        go_ret
        refine ⟨?_, hbw2⟩
        have : cs.all blankc = false := by
          rw [List.all_eq_false]
          exact ⟨cs[j], List.getElem_mem hlt, by rw [HB.out]; simp⟩
        rw [this]
        rfl
      · have HB := Lib.hid hb
        clear hb
        go_wp2_with (go_at_call 30; refine (blank_any _ (by omega) true HB.out _).mono ?_; rintro e w' ⟨rfl, rfl⟩)
        go_roundw
        case rel =>
          refine ⟨j + 1, by omega, hit2, hbw2, ?_⟩
          rw [List.take_succ_eq_append_getElem hlt, List.all_append, HA.out]
          simp [HB.out]
        case measure => rw [HM.out.1, HM.out.2]; omega
    · have hje : j = cs.length := by omega
      have hnx : ∀ ty, (Instr.next (.pointer (some ⟨w.heap.size, 0, none⟩)) true ty).run Tryd.prog wr = _ := fun ty => end_T wr w.heap.size cs j hit hje ty
      have HJ := Lib.hid hje
      clear hje
      go_wp2
      go_ret
      refine ⟨?_, hbw⟩
      have := HA.out
      rw [HJ.out, List.take_length] at this
      rw [this]
      rfl

set_option maxHeartbeats 1000000 in
theorem runes_any (cs : List Nat) (h : OKs cs) (s : ByteArray) (hs : s = T cs) (hz : s.size ≤ 9223372036854775807) (w : World) :
    Calls Tryd.prog 12 #[.string s] w fun e w' => e = .returned (.int .i64 cs.length) ∧ Below w.heap.size w w' := by
  subst hs
  have hll := len_le cs
  go_enter Tryd.func12, Tryd.ntmps12
  go_wp2
  go_loopw [3] (fun n wr => ∃ j : Nat, j ≤ cs.length ∧ n = .int .i64 j ∧ wr.heap[w.heap.size]? = some (.stringIter (T cs) (off cs j)) ∧ Below w.heap.size w wr) (fun _ wr => (T cs).size - wr.iterPos w.heap.size)
  case atStart =>
    refine ⟨0, Nat.zero_le _, rfl, ?_, (Below.refl _ w).alloc (Nat.le_refl _) _⟩
    rw [off_zero]
    exact World.iter_heap w (T cs) 0
  case round =>
    obtain ⟨j, hj, rfl, hit, hbw⟩ := hrel
    by_cases hlt : j < cs.length
    · have hnx : ∀ ty, (Instr.next (.pointer (some ⟨w.heap.size, 0, none⟩)) true ty).run Tryd.prog wr = _ := fun ty => next_T wr w.heap.size cs h j hit hlt ty
      have hit2 := Lib.iterAt_heap wr w.heap.size (T cs) (off cs j) (off cs (j + 1)) hit
      have hbw2 := Lib.below_iterAt hbw (k := w.heap.size) (Nat.le_refl _) (T cs) (off cs (j + 1))
      have hm1 := pos_T _ _ _ _ hit
      have hm2 := pos_T _ _ _ _ hit2
      have hol := off_lt cs j hlt
      have hoj := off_inj cs j (j + 1) (by omega) (by omega)
      have HM := Lib.hid (And.intro hm1 hm2)
      clear hm1 hm2
      go_wp2
      go_roundw
      case rel => exact ⟨j + 1, by omega, by go_num, hit2, hbw2⟩
      case measure => rw [HM.out.1, HM.out.2]; omega
    · obtain rfl : j = cs.length := by omega
      have hnx : ∀ ty, (Instr.next (.pointer (some ⟨w.heap.size, 0, none⟩)) true ty).run Tryd.prog wr = _ := fun ty => end_T wr w.heap.size cs _ hit rfl ty
      go_wp2
      go_ret
      exact ⟨rfl, hbw⟩

set_option maxHeartbeats 1000000 in
theorem clip_any (cs : List Nat) (h : OKs cs) (s : ByteArray) (hs : s = T cs) (n : Int) (hn0 : -9223372036854775808 ≤ n) (hn1 : n ≤ 9223372036854775807) (w : World) :
    Calls Tryd.prog 14 #[.string s, .int .i64 n] w fun e w' => e = .returned (.string (T (cs.take n.toNat))) ∧ Below w.heap.size w w' := by
  subst hs
  by_cases hz : n < 1
  · have e0 : T (cs.take n.toNat) = ⟨#[]⟩ := by
      rw [show n.toNat = 0 by omega]; rfl
    rw [e0]
    clear e0
    go_enter Tryd.func14, Tryd.ntmps14
    go_wp2
    go_ret
    exact ⟨rfl, Below.refl _ _⟩
  · have hz' : decide (n < 1) = false := by simp; omega
    go_enter Tryd.func14, Tryd.ntmps14
    go_wp2
    go_loopw [1] (fun m wr => ∃ j : Nat, j ≤ cs.length ∧ (j : Int) ≤ n ∧ m = .int .i64 (n - j) ∧ wr.heap[w.heap.size]? = some (.stringIter (T cs) (off cs j)) ∧ Below w.heap.size w wr) (fun _ wr => (T cs).size - wr.iterPos w.heap.size)
    case atStart =>
      refine ⟨0, Nat.zero_le _, by omega, by simp, ?_, (Below.refl _ w).alloc (Nat.le_refl _) _⟩
      rw [off_zero]
      exact World.iter_heap w (T cs) 0
    case round =>
      obtain ⟨j, hj, hjn, rfl, hit, hbw⟩ := hrel
      by_cases hlt : j < cs.length
      · have hnx : ∀ ty, (Instr.next (.pointer (some ⟨w.heap.size, 0, none⟩)) true ty).run Tryd.prog wr = _ := fun ty => next_T wr w.heap.size cs h j hit hlt ty
        have hit2 := Lib.iterAt_heap wr w.heap.size (T cs) (off cs j) (off cs (j + 1)) hit
        have hbw2 := Lib.below_iterAt hbw (k := w.heap.size) (Nat.le_refl _) (T cs) (off cs (j + 1))
        have hm1 := pos_T _ _ _ _ hit
        have hm2 := pos_T _ _ _ _ hit2
        have hol := off_lt cs j hlt
        have hoj := off_inj cs j (j + 1) (by omega) (by omega)
        have HM := Lib.hid (And.intro hm1 hm2)
        clear hm1 hm2
        by_cases hjn' : (j : Int) = n
        · have e1 : (n - (j : Int) == 0) = true := by simp; omega
          have HN := Lib.hid hjn'
          clear hjn'
          go_wp2
          go_ret
          refine ⟨?_, hbw2⟩
          rw [extract_T0, show n.toNat = j by have := HN.out; omega]
          rfl
        · have e1 : (n - (j : Int) == 0) = false := by simp; omega
          clear hjn'
          have hgt : (j : Int) < n := by
            rcases Int.lt_or_eq_of_le hjn with x | x
            · exact x
            · rw [x] at e1; simp at e1
          go_wp2
          go_roundw
          case rel => exact ⟨j + 1, by omega, by omega, by simp; omega, hit2, hbw2⟩
          case measure => rw [HM.out.1, HM.out.2]; omega
      · obtain rfl : j = cs.length := by omega
        have hnx : ∀ ty, (Instr.next (.pointer (some ⟨w.heap.size, 0, none⟩)) true ty).run Tryd.prog wr = _ := fun ty => end_T wr w.heap.size cs _ hit rfl ty
        go_wp2
        go_ret
        refine ⟨?_, hbw⟩
        rw [List.take_of_length_le (by omega)]
        rfl
end Go.Proofs.YtfbmjfdfbokfdaaDoor
