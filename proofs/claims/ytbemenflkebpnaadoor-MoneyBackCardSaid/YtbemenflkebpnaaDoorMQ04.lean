/- Package money: shaped, Parse, at every text. -/
import Derived.Test.YtbemenflkebpnaaDoorMP04
namespace Go.Proofs.YtbemenflkebpnaaDoor
open Go.RowKit Go.PlainAid

theorem bt_extract (s : ByteArray) (a b i : Nat) (hb : b ≤ s.size) (hi : a + i < b) : bt (s.extract a b) i = bt s (a + i) := by
  have h1 : (s.extract a b).size = b - a := by simp; omega
  unfold bt
  rw [dif_pos (by omega), dif_pos (by omega)]
  congr 2
  exact ByteArray.getElem_extract _

set_option maxHeartbeats 8000000 in
theorem monShaped_head (s : ByteArray) (hs : s.size ≤ 1000000) (h : headM s = false) (w : World) :
    Calls Tryd.prog 25 #[.string s] w fun e w' => e = .returned (.bool false) ∧ w' = w := by
  have hbt := get_bt s
  unfold headM at h
  by_cases h4 : 4 ≤ s.size
  · obtain ⟨K, hK⟩ : ∃ K, s.size = K + 3 := ⟨s.size - 3, by omega⟩
    rw [hK, show K + 3 - 3 = K by omega] at h
    have e0 : (s.size : Int) - 3 = (K : Int) := by omega
    have d0 : decide ((K : Int) < 1) = false := by simp; omega
    have i0 : (0 : Int) ≤ (K : Int) := by omega
    have i1 : (K : Int) < (s.size : Int) := by omega
    have i2 : (0 : Int) < (s.size : Int) := by omega
    have n1 : K < s.size := by omega
    have n2 : 0 < s.size := by omega
    rw [decide_eq_true (show 4 ≤ K + 3 by omega), Bool.true_and] at h
    cases hp : (bt s K == 46)
    · have hp2 : (bt s K != 46) = true := by rw [bne, hp]; rfl
      clear h
      go_enter Tryd.func25, Tryd.ntmps25
      go_wp2
      go_ret
      exact ⟨rfl, rfl⟩
    · have hp2 : (bt s K != 46) = false := by rw [bne, hp]; rfl
      have hp3 : bt s K = 46 := by simpa using hp
      rw [hp, Bool.true_and] at h
      have h' : (decide (4 < K + 3) && bt s 0 == 48) = true := by simpa using h
      rw [Bool.and_eq_true] at h'
      have d1 : decide ((1 : Int) < (K : Int)) = true := by have := of_decide_eq_true h'.1; simp; omega
      have hz : (bt s 0 == 48) = true := h'.2
      have hz2 : bt s 0 = 48 := by simpa using hz
      clear h h'
      go_enter Tryd.func25, Tryd.ntmps25
      go_wp2
      go_ret
      exact ⟨rfl, rfl⟩
  · have d0 : decide ((s.size : Int) - 3 < 1) = true := by simp; omega
    have t0 : (s.size : Int) - 3 < 1 := by omega
    go_enter Tryd.func25, Tryd.ntmps25
    go_wp2
    go_ret
    exact ⟨rfl, rfl⟩

set_option maxHeartbeats 16000000 in
theorem monShaped_body (s : ByteArray) (hs : s.size ≤ 1000000) (h : headM s = true) (K : Nat) (hK : s.size = K + 3) (x y : Bool) (hx : allD (s.extract 0 K) = x) (hy : allD (s.extract (K + 1) (K + 3)) = y) (w : World) :
    Calls Tryd.prog 25 #[.string s] w fun e w' => e = .returned (.bool (x && y)) ∧ w' = w := by
  have hbt := get_bt s
  unfold headM at h
  rw [hK, show K + 3 - 3 = K by omega] at h
  simp only [Bool.and_eq_true] at h
  obtain ⟨⟨h4, hp⟩, hz⟩ := h
  have z1 : (s.extract 0 K).size = K := by simp; omega
  have z2 : (s.extract (K + 1) (K + 3)).size = 2 := by simp; omega
  have c1 := Lib.hid (fun W => monDigits_any (s.extract 0 K) (by omega) W)
  have c2 := Lib.hid (fun W => monDigits_any (s.extract (K + 1) (K + 3)) (by omega) W)
  rw [hx] at c1
  rw [hy] at c2
  have e0 : ((K + 3 : Nat) : Int) - 3 = (K : Int) := by omega
  have d0 : decide ((K : Int) < 1) = false := by have := of_decide_eq_true h4; simp; omega
  have i0 : (0 : Int) ≤ (K : Int) := by omega
  have i1 : (K : Int) < ((K + 3 : Nat) : Int) := by omega
  have i2 : (0 : Int) < ((K + 3 : Nat) : Int) := by omega
  have i3 : (K : Int) ≤ ((K + 3 : Nat) : Int) := by omega
  have i4 : (K : Int) + 1 ≤ ((K + 3 : Nat) : Int) := by omega
  have i5 : (0 : Int) ≤ (K : Int) + 1 := by omega
  have n1 : K < K + 3 := by omega
  have n2 : 0 < K + 3 := by omega
  have hp2 : (bt s K != 46) = false := by rw [bne, hp]; rfl
  have hp3 : bt s K = 46 := by simpa using hp
  have hh : ((bt s 0 == 48) = false) ∨ ((bt s 0 == 48) = true ∧ decide ((1 : Int) < (K : Int)) = false) := by
    cases h1 : (bt s 0 == 48)
    · exact .inl rfl
    · refine .inr ⟨rfl, ?_⟩
      rw [h1, Bool.and_true] at hz
      have : ¬ 4 < K + 3 := by simpa using hz
      exact decide_eq_false (by omega)
  rw [hK] at hs
  clear hz hp h4 z1 z2 hx hy
  rcases hh with d1 | ⟨d1, d2⟩
  · have d3 : ¬ bt s 0 = 48 := by simpa using d1
    cases x
    · go_enter Tryd.func25, Tryd.ntmps25
      go_wp2_with fail
      refine (c1.out _).mono ?_
      rintro e w1 ⟨rfl, rfl⟩
      go_wp2
      go_ret
      exact ⟨rfl, rfl⟩
    · go_enter Tryd.func25, Tryd.ntmps25
      go_wp2_with fail
      refine (c1.out _).mono ?_
      rintro e w1 ⟨rfl, rfl⟩
      go_wp2_with fail
      refine (c2.out _).mono ?_
      rintro e w1 ⟨rfl, rfl⟩
      go_wp2
      go_ret
      exact ⟨rfl, rfl⟩
  · have d3 : bt s 0 = 48 := by simpa using d1
    cases x
    · go_enter Tryd.func25, Tryd.ntmps25
      go_wp2_with fail
      refine (c1.out _).mono ?_
      rintro e w1 ⟨rfl, rfl⟩
      go_wp2
      go_ret
      exact ⟨rfl, rfl⟩
    · go_enter Tryd.func25, Tryd.ntmps25
      go_wp2_with fail
      refine (c1.out _).mono ?_
      rintro e w1 ⟨rfl, rfl⟩
      go_wp2_with fail
      refine (c2.out _).mono ?_
      rintro e w1 ⟨rfl, rfl⟩
      go_wp2
      go_ret
      exact ⟨rfl, rfl⟩

/-- The shape of an amount's text. -/
def shapeM (s : ByteArray) : Bool := headM s && (allD (s.extract 0 (s.size - 3)) && allD (s.extract (s.size - 2) s.size))
theorem headM_size (s : ByteArray) (h : headM s = true) : 4 ≤ s.size := by
  unfold headM at h
  simp only [Bool.and_eq_true] at h
  exact of_decide_eq_true h.1.1
theorem monShaped_any (s : ByteArray) (hs : s.size ≤ 1000000) (b : Bool) (hb : shapeM s = b) (w : World) :
    Calls Tryd.prog 25 #[.string s] w fun e w' => e = .returned (.bool b) ∧ w' = w := by
  subst hb
  unfold shapeM
  cases hh : headM s
  · exact monShaped_head s hs hh w
  · have h4 := headM_size s hh
    obtain ⟨K, hK⟩ : ∃ K, s.size = K + 3 := ⟨s.size - 3, by omega⟩
    rw [hK, show K + 3 - 3 = K by omega, show K + 3 - 2 = K + 1 by omega]
    exact monShaped_body s hs hh K hK _ _ rfl rfl w

/-! The digits around the point are the places that may stand there. -/
theorem allD_iff (s : ByteArray) (a b : Nat) (hab : a ≤ b) (hb : b ≤ s.size) : allD (s.extract a b) = true ↔ ∀ i, a ≤ i → i < b → digAt s i = true := by
  have hz : (s.extract a b).size = b - a := by simp; omega
  unfold allD
  rw [all_size, hz]
  constructor
  · intro h i h1 h2
    have := h (i - a) (by omega)
    unfold digAt at this ⊢
    rw [bt_extract s a b (i - a) hb (by omega), show a + (i - a) = i by omega] at this
    exact this
  · intro h i hi
    have := h (a + i) (by omega) (by omega)
    unfold digAt at this ⊢
    rw [bt_extract s a b i hb (by omega)]
    exact this
theorem shape_all (s : ByteArray) (h : headM s = true) : shapeM s = (List.range s.size).all (okAt s (s.size - 3)) := by
  have h4 := headM_size s h
  obtain ⟨K, hK⟩ : ∃ K, s.size = K + 3 := ⟨s.size - 3, by omega⟩
  unfold shapeM
  rw [h, Bool.true_and, hK, show K + 3 - 3 = K by omega, show K + 3 - 2 = K + 1 by omega, Bool.eq_iff_iff, Bool.and_eq_true, allD_iff s 0 K (by omega) (by omega), allD_iff s (K + 1) (K + 3) (by omega) (by omega), all_size]
  constructor
  · rintro ⟨h1, h2⟩ i hi
    unfold okAt
    rcases Nat.lt_trichotomy i K with h3 | h3 | h3
    · rw [Bool.or_eq_true]; exact .inr (h1 i (Nat.zero_le _) h3)
    · subst h3; simp
    · rw [Bool.or_eq_true]; exact .inr (h2 i (by omega) hi)
  · intro h
    refine ⟨fun i _ hi => ?_, fun i h1 hi => ?_⟩
    · have := h i (by omega)
      unfold okAt at this
      rw [show (i == K) = false by simp; omega, Bool.false_or] at this
      exact this
    · have := h i (by omega)
      unfold okAt at this
      rw [show (i == K) = false by simp; omega, Bool.false_or] at this
      exact this
theorem val_lo (s : ByteArray) (K : Nat) (hK : K ≤ s.size) : ∀ k, k ≤ K → numD (s.extract 0 K) 0 k = valM s K k
  | 0, _ => rfl
  | k + 1, h => by
    simp only [numD, valM]
    rw [if_neg (by omega), val_lo s K hK k (by omega), bt_extract s 0 K k hK (by omega), Nat.zero_add]
theorem val_hi (s : ByteArray) (K : Nat) (hK : K + 3 ≤ s.size) : ∀ k, k ≤ 2 → numD (s.extract (K + 1) (K + 3)) (valM s K K) k = valM s K (K + 1 + k)
  | 0, _ => (if_pos rfl).symm
  | k + 1, h => by
    rw [show K + 1 + (k + 1) = (K + 1 + k) + 1 by omega]
    simp only [numD, valM]
    rw [if_neg (by omega), val_hi s K hK k (by omega), bt_extract s (K + 1) (K + 3) k hK (by omega)]

set_option maxHeartbeats 8000000 in
theorem monParse_no (s : ByteArray) (hs : s.size ≤ 1000000) (h : shapeM s = false) (w : World) :
    Calls Tryd.prog 18 #[.string s] w fun e w' => e = .returned (.tuple #[.int .i64 0, .int .i64 3]) ∧ w' = w := by
  have c1 := Lib.hid (fun W => monShaped_any s hs false h W)
  clear h
  go_enter Tryd.func18, Tryd.ntmps18
  go_wp2_with fail
  refine (c1.out _).mono ?_
  rintro e w1 ⟨rfl, rfl⟩
  go_wp2
  go_ret2
  exact ⟨rfl, rfl⟩

end Go.Proofs.YtbemenflkebpnaaDoor
