/- libraryref04.Parse, at every text. -/
import Derived.Test.YtbemenflkebpnaaDoorR04D
import Derived.PlainAid
namespace Go.Proofs.YtbemenflkebpnaaDoor
open Go.RowKit Go.PlainAid

theorem first_bad (f : Nat → Bool) : ∀ n, (∀ i, i < n → f i = true) ∨ ∃ j, j < n ∧ (∀ i, i < j → f i = true) ∧ f j = false
  | 0 => .inl fun i hi => by omega
  | n + 1 => by
    rcases first_bad f n with h | ⟨j, hj, h⟩
    · cases hf : f n
      · exact .inr ⟨n, Nat.lt_succ_self n, h, hf⟩
      · exact .inl fun i hi => by
          rcases Nat.lt_or_ge i n with h1 | h1
          · exact h i h1
          · rw [show i = n by omega]; exact hf
    · exact .inr ⟨j, by omega, h⟩

/-- Whether a byte may stand at a place of an amount's text, whose point stands at place K. -/
def okAt (s : ByteArray) (K i : Nat) : Bool := i == K || (decide (48 ≤ bt s i) && decide (bt s i ≤ 57))
/-- The number that the first digits say, without the point at place K. -/
def valM (s : ByteArray) (K : Nat) : Nat → Nat
  | 0 => 0
  | k + 1 => if k = K then valM s K k else 10 * valM s K k + (bt s k - 48).toNat
/-- The head of an amount's text is right. -/
def headM (s : ByteArray) : Bool := decide (4 ≤ s.size) && (bt s (s.size - 3) == 46) && !(decide (4 < s.size) && bt s 0 == 48)
/-- The amount of a text and the error. -/
def parM (s : ByteArray) : Int × Int :=
  if headM s = true ∧ (List.range s.size).all (okAt s (s.size - 3)) = true then (if valM s (s.size - 3) s.size ≤ 100000000 then ((valM s (s.size - 3) s.size : Nat), 0) else (0, 2)) else (0, 3)
def capM (v : Nat) : Nat := if 100000000 < v then 100000000 else v
theorem all_size (f : Nat → Bool) (n : Nat) : (List.range n).all f = true ↔ ∀ i, i < n → f i = true := by
  rw [List.all_eq_true]
  exact ⟨fun h i hi => h i (List.mem_range.2 hi), fun h i hi => h i (List.mem_range.1 hi)⟩

set_option maxHeartbeats 4000000 in
theorem refParse_head (s : ByteArray) (hs : s.size ≤ 1000000) (h : headM s = false) (w : World) :
    Calls Tryd.prog 19 #[.string s] w fun e w' => e = .returned (.tuple #[.int .i64 0, .int .i64 3]) ∧ w' = w := by
  have hbt := get_bt s
  unfold headM at h
  by_cases h4 : 4 ≤ s.size
  · obtain ⟨K, hK⟩ : ∃ K, s.size = K + 3 := ⟨s.size - 3, by omega⟩
    rw [hK, show K + 3 - 3 = K by omega] at h
    have e0 : (s.size : Int) - 3 = (K : Int) := by omega
    have d0 : decide ((K : Int) < 1) = false := by simp; omega
    have i0 : (0 : Int) ≤ (K : Int) := by omega
    have i1 : (K : Int) < (s.size : Int) := by omega
    have i2 : (0 : Int) < (s.size : Int) := by omega
    have n1 : K < s.size := by omega
    have n2 : 0 < s.size := by omega
    rw [decide_eq_true (show 4 ≤ K + 3 by omega), Bool.true_and] at h
    cases hp : (bt s K == 46)
    · have hp2 : (bt s K != 46) = true := by rw [bne, hp]; rfl
      clear h
      go_enter Tryd.func19, Tryd.ntmps19
      go_wp2
      go_ret2
      exact ⟨rfl, rfl⟩
    · have hp2 : (bt s K != 46) = false := by rw [bne, hp]; rfl
      have hp3 : bt s K = 46 := by simpa using hp
      rw [hp, Bool.true_and] at h
      have h' : (decide (4 < K + 3) && bt s 0 == 48) = true := by simpa using h
      rw [Bool.and_eq_true] at h'
      have d1 : decide ((1 : Int) < (K : Int)) = true := by have := of_decide_eq_true h'.1; simp; omega
      have hz : (bt s 0 == 48) = true := h'.2
      have hz2 : bt s 0 = 48 := by simpa using hz
      clear h h'
      go_enter Tryd.func19, Tryd.ntmps19
      go_wp2
      go_ret2
      exact ⟨rfl, rfl⟩
  · have d0 : decide ((s.size : Int) - 3 < 1) = true := by simp; omega
    have t0 : (s.size : Int) - 3 < 1 := by omega
    go_enter Tryd.func19, Tryd.ntmps19
    go_wp2
    go_ret2
    exact ⟨rfl, rfl⟩

theorem cap_step (v d : Nat) (hd : d ≤ 9) : (100000000 < capM v * 10 + d ↔ 100000000 < 10 * v + d) ∧ (¬ 100000000 < capM v * 10 + d → capM (10 * v + d) = capM v * 10 + d ∧ ¬ 100000000 < v) := by
  unfold capM
  split <;> constructor <;> (try split) <;> omega
theorem capM_le (v : Nat) : capM v ≤ 100000000 := by unfold capM; split <;> omega
theorem capM_big (v : Nat) (h : 100000000 < v) : capM v = 100000000 := if_pos h

set_option maxHeartbeats 16000000 in
set_option maxRecDepth 100000 in
theorem refParse_body (s : ByteArray) (hs : s.size ≤ 1000000) (h : headM s = true) (K : Nat) (hK : s.size = K + 3) (j : Nat) (hj : j ≤ K + 3) (hg : ∀ i, i < j → okAt s K i = true) (hb : j < K + 3 → okAt s K j = false)
    (x er : Int) (hx : (if valM s K (K + 3) ≤ 100000000 then ((valM s K (K + 3) : Nat), 0) else (0, 2) : Int × Int) = (x, er)) (w : World) :
    Calls Tryd.prog 19 #[.string s] w fun e w' => (j = K + 3 → e = .returned (.tuple #[.int .i64 x, .int .i64 er])) ∧ (j < K + 3 → e = .returned (.tuple #[.int .i64 0, .int .i64 3])) ∧ w' = w := by
  have hbt := get_bt s
  unfold headM at h
  rw [hK, show K + 3 - 3 = K by omega] at h
  simp only [Bool.and_eq_true] at h
  obtain ⟨⟨h4, hp⟩, hz⟩ := h
  have e0 : ((K + 3 : Nat) : Int) - 3 = (K : Int) := by omega
  have d0 : decide ((K : Int) < 1) = false := by have := of_decide_eq_true h4; simp; omega
  have i0 : (0 : Int) ≤ (K : Int) := by omega
  have i1 : (K : Int) < ((K + 3 : Nat) : Int) := by omega
  have i2 : (0 : Int) < ((K + 3 : Nat) : Int) := by omega
  have n1 : K < K + 3 := by omega
  have n2 : 0 < K + 3 := by omega
  have hp2 : (bt s K != 46) = false := by rw [bne, hp]; rfl
  have hp3 : bt s K = 46 := by simpa using hp
  have hh : (decide ((1 : Int) < (K : Int)) = false) ∨ (decide ((1 : Int) < (K : Int)) = true ∧ (bt s 0 == 48) = false) := by
    cases h1 : decide ((1 : Int) < (K : Int))
    · exact .inl rfl
    · refine .inr ⟨rfl, ?_⟩
      have h2 : decide (4 < K + 3) = true := by have := of_decide_eq_true h1; simp; omega
      rw [h2, Bool.true_and] at hz
      simpa using hz
  have HG := Lib.hid hg
  have HB := Lib.hid hb
  have HX := Lib.hid hx
  have HJ := Lib.hid hj
  rw [hK] at hs
  clear hg hb hz hp hx hj h4
  rcases hh with d1 | ⟨d1, d2⟩
  all_goals
    go_enter Tryd.func19, Tryd.ntmps19
    go_wp2
    go_loopw [5, 6, 7] (fun v b i wr => ∃ k : Nat, k ≤ j ∧ i = .int .i64 (k : Int) ∧ v = .int .i64 (capM (valM s K k) : Nat) ∧ b = .bool (decide (100000000 < valM s K k)) ∧ wr = w) (fun _ _ i _ => j - (intOf i).toNat)
    case atStart => exact ⟨0, Nat.zero_le _, rfl, rfl, rfl, rfl⟩
    case round =>
      obtain ⟨k, hk, rfl, rfl, rfl, rfl⟩ := hrel
      by_cases hlt : k < j
      · have hf := HG.out k hlt
        have hkn : k < K + 3 := by have := HJ.out; omega
        have hki : (k : Int) < ((K + 3 : Nat) : Int) := by omega
        by_cases hkK : k = K
        · have HV : RowKit.Hid (valM s K (k + 1) = valM s K k) := if_pos hkK
          subst hkK
          clear hf
          generalize valM s k k = v at *
          go_wp2
          go_roundw
          case rel => exact ⟨k + 1, by omega, by go_num, by rw [HV.out], by rw [HV.out], trivial⟩
          case measure => simp [intOf]; omega
        · have t1 : ((k : Int) == (K : Int)) = false := by simp; omega
          unfold okAt at hf
          rw [show (k == K) = false by simp; omega, Bool.false_or, Bool.and_eq_true] at hf
          obtain ⟨h0, h9⟩ := hf
          have h0 := of_decide_eq_true h0
          have h9 := of_decide_eq_true h9
          obtain ⟨d, hv⟩ : ∃ d : Nat, bt s k = 48 + (d : Int) := ⟨(bt s k - 48).toNat, by omega⟩
          have hd9 : d ≤ 9 := by omega
          have HV : RowKit.Hid (valM s K (k + 1) = 10 * valM s K k + d) := by
            unfold RowKit.Hid
            rw [valM, if_neg hkK, hv]
            omega
          have hc := capM_le (valM s K k)
          obtain ⟨hs1, hs2⟩ := cap_step (valM s K k) d hd9
          generalize valM s K k = v at *
          by_cases hbig : 100000000 < capM v * 10 + d
          · have HB1 : RowKit.Hid (100000000 < 10 * v + d) := hs1.1 hbig
            generalize capM v = c at *
            have t2 : decide ((100000000 : Int) < (c : Int) * 10 + (48 + (d : Int)) - 48) = true := decide_eq_true (by omega)
            have t3 : (100000000 : Int) < (c : Int) * 10 + (48 + (d : Int)) - 48 := by omega
            clear hs1 hs2
            go_wp2
            go_roundw
            case rel => exact ⟨k + 1, by omega, by go_num, by rw [HV.out, capM_big _ HB1.out]; rfl, by rw [HV.out, decide_eq_true HB1.out], trivial⟩
            case measure => simp [intOf]; omega
          · have HB1 := Lib.hid (hs2 hbig).1
            have HB2 : RowKit.Hid (¬ 100000000 < 10 * v + d) := fun h => hbig (hs1.2 h)
            have HB3 := Lib.hid (hs2 hbig).2
            generalize capM v = c at *
            have t2 : decide ((100000000 : Int) < (c : Int) * 10 + (48 + (d : Int)) - 48) = false := decide_eq_false (by omega)
            have t3 : ¬ (100000000 : Int) < (c : Int) * 10 + (48 + (d : Int)) - 48 := by omega
            clear hs1 hs2
            go_wp2
            go_roundw
            case rel => exact ⟨k + 1, by omega, by go_num, by rw [HV.out, HB1.out]; go_num, by rw [HV.out, decide_eq_false HB2.out, decide_eq_false HB3.out], trivial⟩
            case measure => simp [intOf]; omega
      · obtain rfl : k = j := by omega
        by_cases hkn : k < K + 3
        · have hf := HB.out hkn
          have hki : (k : Int) < ((K + 3 : Nat) : Int) := by omega
          have hkK : k ≠ K := by
            intro h
            subst h
            unfold okAt at hf
            simp at hf
          have t1 : ((k : Int) == (K : Int)) = false := by simp; omega
          unfold okAt at hf
          rw [show (k == K) = false by simp; omega, Bool.false_or] at hf
          have hnx : ¬ (k = K + 3) := by omega
          by_cases h1 : bt s k < 48
          · have t2 : decide (bt s k < 48) = true := decide_eq_true h1
            clear hf
            go_wp2
            go_ret2
            first | exact ⟨rfl, rfl⟩ | (refine ⟨?_, ?_, ?_⟩ <;> first | (intro h; omega) | rfl | (intro _; rfl))
          · have t2 : decide (bt s k < 48) = false := decide_eq_false h1
            have t3 : decide (57 < bt s k) = true := by
              rw [decide_eq_true (show 48 ≤ bt s k by omega), Bool.true_and] at hf
              have := of_decide_eq_false hf
              exact decide_eq_true (by omega)
            clear hf
            go_wp2
            go_ret2
            first | exact ⟨rfl, rfl⟩ | (refine ⟨?_, ?_, ?_⟩ <;> first | (intro h; omega) | rfl | (intro _; rfl))
        · obtain rfl : k = K + 3 := by have := HJ.out; omega
          by_cases hbig : 100000000 < valM s K (K + 3)
          · have HX2 : RowKit.Hid (x = 0 ∧ er = 2) := by
              have h := HX.out
              rw [if_neg (by omega)] at h
              simp only [Prod.mk.injEq] at h
              exact ⟨h.1.symm, h.2.symm⟩
            rw [decide_eq_true hbig]
            generalize valM s K (K + 3) = v at *
            clear hbig
            go_wp2
            go_ret2
            rw [HX2.out.1, HX2.out.2]
            first | exact ⟨rfl, rfl⟩ | (refine ⟨?_, ?_, ?_⟩ <;> first | (intro h; omega) | rfl | (intro _; rfl))
          · have HX2 : RowKit.Hid (x = (capM (valM s K (K + 3)) : Nat) ∧ er = 0) := by
              have h := HX.out
              rw [if_pos (by omega)] at h
              simp only [Prod.mk.injEq] at h
              refine ⟨?_, h.2.symm⟩
              rw [← h.1, capM, if_neg hbig]
            rw [decide_eq_false hbig]
            generalize capM (valM s K (K + 3)) = c at *
            clear hbig
            go_wp2
            go_ret2
            rw [HX2.out.1, HX2.out.2]
            first | exact ⟨rfl, rfl⟩ | (refine ⟨?_, ?_, ?_⟩ <;> first | (intro h; omega) | rfl | (intro _; rfl))

theorem refParse_any (s : ByteArray) (hs : s.size ≤ 1000000) (x er : Int) (h : parM s = (x, er)) (w : World) :
    Calls Tryd.prog 19 #[.string s] w fun e w' => e = .returned (.tuple #[.int .i64 x, .int .i64 er]) ∧ w' = w := by
  unfold parM at h
  cases hh : headM s
  · rw [hh, if_neg (fun h => by cases h.1)] at h
    simp only [Prod.mk.injEq] at h
    obtain ⟨rfl, rfl⟩ := h
    exact refParse_head s hs hh w
  · have h4 : 4 ≤ s.size := by
      have h1 := hh
      unfold headM at h1
      simp only [Bool.and_eq_true] at h1
      exact of_decide_eq_true h1.1.1
    obtain ⟨K, hK⟩ : ∃ K, s.size = K + 3 := ⟨s.size - 3, by omega⟩
    rw [hK, show K + 3 - 3 = K by omega] at h
    rcases first_bad (okAt s K) (K + 3) with hg | ⟨j, hj, hg, hb⟩
    · rw [if_pos ⟨hh, (all_size _ _).2 hg⟩] at h
      exact (refParse_body s hs hh K hK (K + 3) (Nat.le_refl _) hg (fun h => by omega) x er h w).mono fun e w' hp => ⟨hp.1 rfl, hp.2.2⟩
    · rw [if_neg (fun h1 => by rw [(all_size _ _).1 h1.2 j hj] at hb; cases hb)] at h
      simp only [Prod.mk.injEq] at h
      obtain ⟨rfl, rfl⟩ := h
      exact (refParse_body s hs hh K hK j (by omega) hg (fun _ => hb) _ _ rfl w).mono fun e w' hp => ⟨hp.2.1 hj, hp.2.2⟩
end Go.Proofs.YtbemenflkebpnaaDoor
