/- Package date: Parse, at every text. -/
import Derived.Test.YtdcmfncocehbhaaDoorDP03
namespace Go.Proofs.YtdcmfncocehbhaaDoor
open Go.RowKit Go.PlainAid

theorem all_ten (f : Nat → Bool) : (List.range 10).all f = true ↔ ∀ i, i < 10 → f i = true := by
  rw [List.all_eq_true]
  exact ⟨fun h i hi => h i (List.mem_range.2 hi), fun h i hi => h i (List.mem_range.1 hi)⟩
/-- The day of a text and the error. -/
def parI (s : ByteArray) : Int × Int := if s.size = 10 ∧ (List.range 10).all (fitsAt s) = true then ofI (numAt s 0 4) (numAt s 5 2) (numAt s 8 2) else (0, 3)
theorem first_bad (f : Nat → Bool) : ∀ n, (∀ i, i < n → f i = true) ∨ ∃ j, j < n ∧ (∀ i, i < j → f i = true) ∧ f j = false
  | 0 => .inl fun i hi => by omega
  | n + 1 => by
    rcases first_bad f n with h | ⟨j, hj, h⟩
    · cases hf : f n
      · exact .inr ⟨n, Nat.lt_succ_self n, h, hf⟩
      · exact .inl fun i hi => by
          rcases Nat.lt_or_ge i n with h1 | h1
          · exact h i h1
          · rw [show i = n by omega]; exact hf
    · exact .inr ⟨j, by omega, h⟩

theorem bt_extract (s : ByteArray) (a b i : Nat) (hb : b ≤ s.size) (hi : a + i < b) : bt (s.extract a b) i = bt s (a + i) := by
  have h1 : (s.extract a b).size = b - a := by simp; omega
  unfold bt
  rw [dif_pos (by omega), dif_pos (by omega)]
  congr 2
  exact ByteArray.getElem_extract _
theorem numAt_extract (s : ByteArray) (a b : Nat) (hb : b ≤ s.size) : ∀ k, a + k ≤ b → numAt (s.extract a b) 0 k = numAt s a k
  | 0, _ => rfl
  | k + 1, hk => by
    simp only [numAt]
    rw [numAt_extract s a b hb k (by omega), Nat.zero_add, bt_extract s a b k hb (by omega)]

/-- The number that a text of digits says. -/
def numV (t : ByteArray) : Int := (numAt t 0 t.size : Nat)
theorem Tab.drewN {w : World} (h : Tab w) (n : Nat) : Tab (w.drewN n) := ⟨h.lens, h.pows⟩

theorem fits_digit (s : ByteArray) (i : Nat) (h : fitsAt s i = true) (h4 : i ≠ 4) (h7 : i ≠ 7) : 48 ≤ bt s i ∧ bt s i ≤ 57 := by
  simpa [fitsAt, h4, h7] using h

set_option maxHeartbeats 8000000 in
set_option maxRecDepth 100000 in
theorem datParse_ok (s : ByteArray) (h : s.size = 10) (hg : ∀ i, i < 10 → fitsAt s i = true) (n er : Int) (ho : ofI (numAt s 0 4) (numAt s 5 2) (numAt s 8 2) = (n, er)) (w : World) (hT : Tab w) :
    Calls Tryd.prog 21 #[.string s] w fun e w' => e = .returned (.tuple #[.int .i64 n, .int .i64 er]) ∧ Below w.heap.size w w' := by
  have c1 := Lib.hid (fun W => datShaped_any s h 10 (by omega) hg (by omega) true rfl W)
  have z1 : (s.extract 0 4).size = 4 := by simp; omega
  have z2 : (s.extract 5 7).size = 2 := by simp; omega
  have z3 : (s.extract 8 10).size = 2 := by simp; omega
  have v1 : numV (s.extract 0 4) = (numAt s 0 4 : Nat) := by unfold numV; rw [z1, numAt_extract s 0 4 (by omega) 4 (by omega)]
  have v2 : numV (s.extract 5 7) = (numAt s 5 2 : Nat) := by unfold numV; rw [z2, numAt_extract s 5 7 (by omega) 2 (by omega)]
  have v3 : numV (s.extract 8 10) = (numAt s 8 2 : Nat) := by unfold numV; rw [z3, numAt_extract s 8 10 (by omega) 2 (by omega)]
  rw [← v1, ← v2, ← v3] at ho
  have CO := Lib.hid (fun k => datOf_q _ _ _ _ _ ho (w.drewN k) (hT.drewN k))
  have cn : ∀ t, (t = s.extract 0 4 ∨ t = s.extract 5 7 ∨ t = s.extract 8 10) → ∀ W, Calls Tryd.prog 32 #[.string t] W fun e w' => e = .returned (.int .i64 (numV t)) ∧ w' = W := by
    intro t ht W
    rcases ht with rfl | rfl | rfl
    · exact datNumber_any _ _ rfl (by omega) (fun i hi => by rw [z1] at hi; rw [bt_extract s 0 4 i (by omega) (by omega)]; exact fits_digit s _ (hg _ (by omega)) (by omega) (by omega)) W
    · exact datNumber_any _ _ rfl (by omega) (fun i hi => by rw [z2] at hi; rw [bt_extract s 5 7 i (by omega) (by omega)]; exact fits_digit s _ (hg _ (by omega)) (by omega) (by omega)) W
    · exact datNumber_any _ _ rfl (by omega) (fun i hi => by rw [z3] at hi; rw [bt_extract s 8 10 i (by omega) (by omega)]; exact fits_digit s _ (hg _ (by omega)) (by omega) (by omega)) W
  have CN := Lib.hid cn
  clear cn v1 v2 v3 ho hT z1 z2 z3 hg
  go_enter Tryd.func21, Tryd.ntmps21
  go_wp2_with fail
  refine (c1.out _).mono ?_
  rintro e w1 ⟨rfl, rfl⟩
  clear c1
  go_wp2
  go_quiet (first | (go_at_call 32; exact Calls.quiet_of_same (CN.out _ (by first | exact .inl rfl | exact .inr (.inl rfl) | exact .inr (.inr rfl)) _)) | (go_at_call 10; exact Calls.quiet_of_same (CO.out _)))
  go_wp2
  go_ret2
  exact ⟨rfl, ⟨rfl, rfl, rfl, Nat.le_refl _, fun _ _ => rfl⟩⟩

set_option maxHeartbeats 4000000 in
theorem datParse_no (s : ByteArray) (h : ∀ W, Calls Tryd.prog 31 #[.string s] W fun e w' => e = .returned (.bool false) ∧ w' = W) (w : World) :
    Calls Tryd.prog 21 #[.string s] w fun e w' => e = .returned (.tuple #[.int .i64 0, .int .i64 3]) ∧ Below w.heap.size w w' := by
  have c1 := Lib.hid h
  clear h
  go_enter Tryd.func21, Tryd.ntmps21
  go_wp2_with fail
  refine (c1.out _).mono ?_
  rintro e w1 ⟨rfl, rfl⟩
  go_wp2
  go_ret2
  exact ⟨rfl, Below.refl _ _⟩

theorem datParse_all (s : ByteArray) (n e : Int) (h : parI s = (n, e)) (w : World) (hT : Tab w) :
    Calls Tryd.prog 21 #[.string s] w fun e' w' => e' = .returned (.tuple #[.int .i64 n, .int .i64 e]) ∧ Below w.heap.size w w' := by
  by_cases h0 : s.size = 10
  · rcases first_bad (fitsAt s) 10 with hg | ⟨j, hj, hg, hb⟩
    · unfold parI at h
      rw [if_pos ⟨h0, (all_ten _).2 hg⟩] at h
      exact datParse_ok s h0 hg n e h w hT
    · unfold parI at h
      rw [if_neg (fun hh => by rw [(all_ten _).1 hh.2 j hj] at hb; cases hb)] at h
      simp only [Prod.mk.injEq] at h
      obtain ⟨rfl, rfl⟩ := h
      exact datParse_no s (fun W => datShaped_any s h0 j (by omega) hg (fun _ => hb) false (by simp; omega) W) w
  · unfold parI at h
    rw [if_neg (fun hh => h0 hh.1)] at h
    simp only [Prod.mk.injEq] at h
    obtain ⟨rfl, rfl⟩ := h
    exact datParse_no s (fun W => datShaped_size s h0 W) w
end Go.Proofs.YtdcmfncocehbhaaDoor
