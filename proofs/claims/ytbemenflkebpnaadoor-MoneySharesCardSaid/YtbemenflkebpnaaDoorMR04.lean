/- Package money: Parse, where the text has an amount's shape. -/
import Derived.Test.YtbemenflkebpnaaDoorMQ04
namespace Go.Proofs.YtbemenflkebpnaaDoor
open Go.RowKit Go.PlainAid

set_option maxHeartbeats 16000000 in
set_option maxRecDepth 100000 in
theorem monParse_ok (s : ByteArray) (hs : s.size ≤ 1000000) (K : Nat) (hK : s.size = K + 3) (h : shapeM s = true) (a n : Nat) (ha : numC (s.extract 0 K) 0 K = a) (hn : numC (s.extract (K + 1) (K + 3)) a 2 = n) (x er : Int)
    (hx : (if n ≤ 100000000 then ((n : Int), 0) else (0, 2) : Int × Int) = (x, er)) (w : World) :
    Calls Tryd.prog 18 #[.string s] w fun e w' => e = .returned (.tuple #[.int .i64 x, .int .i64 er]) ∧ Below w.heap.size w w' := by
  have c1 := Lib.hid (fun W => monShaped_any s hs true h W)
  have z1 : (s.extract 0 K).size = K := by simp; omega
  have z2 : (s.extract (K + 1) (K + 3)).size = 2 := by simp; omega
  have hd : allD (s.extract 0 K) = true ∧ allD (s.extract (K + 1) (K + 3)) = true := by
    unfold shapeM at h
    rw [hK, show K + 3 - 3 = K by omega, show K + 3 - 2 = K + 1 by omega] at h
    simp only [Bool.and_eq_true] at h
    exact h.2
  have d1 := (all_size _ _).1 hd.1
  have d2 := (all_size _ _).1 hd.2
  rw [z1] at d1
  rw [z2] at d2
  have ha9 : a ≤ 1000000009 := by rw [← ha]; exact numC_le _ _ (by omega) K d1
  have hn9 : n ≤ 1000000009 := by rw [← hn]; exact numC_le _ _ ha9 2 d2
  obtain ⟨F, hF1, hF2, cn⟩ : ∃ F : Int → ByteArray → Int, F 0 (s.extract 0 K) = (a : Int) ∧ F (F 0 (s.extract 0 K)) (s.extract (K + 1) (K + 3)) = (n : Int) ∧
      ∀ (v : Int) t, ((v = 0 ∧ t = s.extract 0 K) ∨ (v = F 0 (s.extract 0 K) ∧ t = s.extract (K + 1) (K + 3))) → ∀ W, Calls Tryd.prog 26 #[.int .i64 v, .string t] W fun e w' => e = .returned (.int .i64 (F v t)) ∧ w' = W := by
    have e1 : ((numC (s.extract 0 K) (0 : Int).toNat (s.extract 0 K).size : Nat) : Int) = (a : Int) := by rw [z1, show (0 : Int).toNat = 0 from rfl, ha]
    refine ⟨fun v t => (numC t v.toNat t.size : Nat), e1, ?_, ?_⟩
    · show ((numC (s.extract (K + 1) (K + 3)) ((numC (s.extract 0 K) (0 : Int).toNat (s.extract 0 K).size : Nat) : Int).toNat (s.extract (K + 1) (K + 3)).size : Nat) : Int) = (n : Int)
      rw [e1, Int.toNat_natCast, z2, hn]
    · intro v t ht W
      rcases ht with ⟨rfl, rfl⟩ | ⟨rfl, rfl⟩
      · exact monNumber_any _ (by omega) 0 (by omega) hd.1 W
      · show Calls Tryd.prog 26 #[.int .i64 ((numC (s.extract 0 K) (0 : Int).toNat (s.extract 0 K).size : Nat) : Int), .string (s.extract (K + 1) (K + 3))] W fun e w' => e = .returned (.int .i64 (numC (s.extract (K + 1) (K + 3)) ((numC (s.extract 0 K) (0 : Int).toNat (s.extract 0 K).size : Nat) : Int).toNat (s.extract (K + 1) (K + 3)).size : Nat)) ∧ w' = W
        rw [e1, Int.toNat_natCast]
        exact monNumber_any _ (by omega) a ha9 hd.2 W
  have CN := Lib.hid cn
  have HF := Lib.hid hF2
  clear cn d1 d2 hd hF1 hF2 z1 z2
  have e0 : ((K + 3 : Nat) : Int) - 3 = (K : Int) := by omega
  have i0 : (0 : Int) ≤ (K : Int) := by omega
  have i3 : (K : Int) ≤ ((K + 3 : Nat) : Int) := by omega
  have i4 : (K : Int) + 1 ≤ ((K + 3 : Nat) : Int) := by omega
  have i5 : (0 : Int) ≤ (K : Int) + 1 := by omega
  clear ha hn h
  rw [hK] at hs
  have hb0 := Below.refl w.heap.size w
  by_cases hbig : n ≤ 100000000
  · rw [if_pos hbig] at hx
    simp only [Prod.mk.injEq] at hx
    obtain ⟨rfl, rfl⟩ := hx
    have c4 := Lib.hid (fun W => monRight_any (n : Int) true ((rightI_iff _).2 (by omega)) W)
    go_enter Tryd.func18, Tryd.ntmps18
    go_wp2_with fail
    refine (c1.out _).mono ?_
    rintro e w1 ⟨rfl, rfl⟩
    clear c1
    go_wp2
    go_quiet (first | (go_at_call 26; exact Calls.quiet_of_same (CN.out _ _ (by first | exact .inl ⟨rfl, rfl⟩ | exact .inr ⟨rfl, rfl⟩) _)))
    rw [HF.out]
    go_wp2_with fail
    refine (c4.out _).mono ?_
    rintro e w1 ⟨rfl, rfl⟩
    go_wp2
    go_ret2
    exact ⟨rfl, ⟨rfl, rfl, rfl, Nat.le_refl _, fun _ _ => rfl⟩⟩
  · rw [if_neg hbig] at hx
    simp only [Prod.mk.injEq] at hx
    obtain ⟨rfl, rfl⟩ := hx
    have c4 := Lib.hid (fun W => monRight_any (n : Int) false ((rightI_no _).2 (by omega)) W)
    go_enter Tryd.func18, Tryd.ntmps18
    go_wp2_with fail
    refine (c1.out _).mono ?_
    rintro e w1 ⟨rfl, rfl⟩
    clear c1
    go_wp2
    go_quiet (first | (go_at_call 26; exact Calls.quiet_of_same (CN.out _ _ (by first | exact .inl ⟨rfl, rfl⟩ | exact .inr ⟨rfl, rfl⟩) _)))
    rw [HF.out]
    go_wp2_with fail
    refine (c4.out _).mono ?_
    rintro e w1 ⟨rfl, rfl⟩
    go_wp2
    go_ret2
    exact ⟨rfl, ⟨rfl, rfl, rfl, Nat.le_refl _, fun _ _ => rfl⟩⟩
end Go.Proofs.YtbemenflkebpnaaDoor
