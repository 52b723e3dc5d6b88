/- Plain mathematics of layer 4: amounts, parts by weights. No program is named here. -/
namespace Go.Proofs.YtbemenflkebpnaaDoor

/-- The sum of the first n values. -/
def sumN (f : Nat → Nat) : Nat → Nat
  | 0 => 0
  | n + 1 => sumN f n + f n
/-- How many of the first n places. -/
def cntN (p : Nat → Bool) (n : Nat) : Nat := sumN (fun i => if p i = true then 1 else 0) n
theorem cntN_succ (p : Nat → Bool) (n : Nat) : cntN p (n + 1) = cntN p n + if p n = true then 1 else 0 := rfl
theorem sumN_congr {f g : Nat → Nat} : ∀ n, (∀ i, i < n → f i = g i) → sumN f n = sumN g n
  | 0, _ => rfl
  | n + 1, h => by
    simp only [sumN]
    rw [sumN_congr n (fun i hi => h i (by omega)), h n (by omega)]
theorem sumN_add (f g : Nat → Nat) (n : Nat) : sumN (fun i => f i + g i) n = sumN f n + sumN g n := by
  induction n with
  | zero => rfl
  | succ n ih => simp only [sumN, ih]; omega
theorem sumN_mul (c : Nat) (f : Nat → Nat) (n : Nat) : sumN (fun i => c * f i) n = c * sumN f n := by
  induction n with
  | zero => rfl
  | succ n ih => simp only [sumN, ih, Nat.mul_add]
theorem sumN_le {f g : Nat → Nat} : ∀ n, (∀ i, i < n → f i ≤ g i) → sumN f n ≤ sumN g n
  | 0, _ => Nat.le_refl _
  | n + 1, h => by
    simp only [sumN]
    have := sumN_le n (fun i hi => h i (by omega))
    have := h n (by omega)
    omega
theorem sumN_const (c n : Nat) : sumN (fun _ => c) n = n * c := by
  induction n with
  | zero => simp [sumN]
  | succ n ih => simp only [sumN, ih, Nat.succ_mul]
theorem sumN_at {f : Nat → Nat} : ∀ n i, i < n → f i ≤ sumN f n
  | n + 1, i, h => by
    simp only [sumN]
    rcases Nat.lt_or_ge i n with h1 | h1
    · have := sumN_at (f := f) n i h1
      omega
    · have : i = n := by omega
      subst this
      omega
theorem sumN_lt {f g : Nat → Nat} : ∀ n, (∀ i, i < n → f i ≤ g i) → ∀ k, k < n → f k < g k → sumN f n < sumN g n
  | n + 1, h, k, hk, hl => by
    simp only [sumN]
    have h1 := sumN_le n (fun i hi => h i (by omega))
    have h2 := h n (by omega)
    rcases Nat.lt_or_ge k n with h3 | h3
    · have := sumN_lt n (fun i hi => h i (by omega)) k h3 hl
      omega
    · have : k = n := by omega
      subst this
      omega
theorem cntN_le {p q : Nat → Bool} (n : Nat) (h : ∀ i, i < n → p i = true → q i = true) : cntN p n ≤ cntN q n := by
  refine sumN_le n fun i hi => ?_
  by_cases hp : p i = true
  · rw [if_pos hp, if_pos (h i hi hp)]; exact Nat.le_refl _
  · rw [if_neg hp]; exact Nat.zero_le _
theorem cntN_lt {p q : Nat → Bool} (n : Nat) (h : ∀ i, i < n → p i = true → q i = true) (k : Nat) (hk : k < n) (h1 : p k = false) (h2 : q k = true) : cntN p n < cntN q n := by
  refine sumN_lt n (fun i hi => ?_) k hk ?_
  · by_cases hp : p i = true
    · rw [if_pos hp, if_pos (h i hi hp)]; exact Nat.le_refl _
    · rw [if_neg hp]; exact Nat.zero_le _
  · rw [h1, h2]; decide
theorem cntN_congr {p q : Nat → Bool} (n : Nat) (h : ∀ i, i < n → p i = q i) : cntN p n = cntN q n :=
  sumN_congr n fun i hi => by rw [h i hi]
theorem cntN_some (p : Nat → Bool) : ∀ n, cntN p n < n → ∃ k, k < n ∧ p k = false
  | 0, h => by omega
  | n + 1, h => by
    rw [cntN_succ] at h
    by_cases hp : p n = true
    · rw [if_pos hp] at h
      obtain ⟨k, hk, h1⟩ := cntN_some p n (by omega)
      exact ⟨k, by omega, h1⟩
    · exact ⟨n, by omega, by simpa using hp⟩
theorem cntN_add (p : Nat → Bool) (b : Nat) (hb : p b = false) : ∀ n, b < n → cntN (fun i => p i || i == b) n = cntN p n + 1
  | n + 1, h => by
    rw [cntN_succ, cntN_succ]
    rcases Nat.lt_or_ge b n with h1 | h1
    · rw [cntN_add p b hb n h1]
      have : (n == b) = false := by simp; omega
      rw [this, Bool.or_false]
      omega
    · have : b = n := by omega
      subst this
      have e : cntN (fun i => p i || i == b) b = cntN p b := cntN_congr b fun i hi => by
        have : (i == b) = false := by simp; omega
        rw [this, Bool.or_false]
      rw [e, hb]
      simp

/-- Which of two places comes first: the greater remainder, of equal ones the lower place. -/
def before (r : Nat → Nat) (j i : Nat) : Bool := decide (r i < r j) || (decide (r j = r i) && decide (j < i))
theorem before_iff (r : Nat → Nat) (j i : Nat) : before r j i = true ↔ r i < r j ∨ (r j = r i ∧ j < i) := by simp [before]
theorem before_no (r : Nat → Nat) (j i : Nat) : before r j i = false ↔ ¬ (r i < r j ∨ (r j = r i ∧ j < i)) := by rw [← before_iff]; simp
theorem before_asymm {r : Nat → Nat} {j i : Nat} (h : before r j i = true) : before r i j = false := by
  rw [before_iff] at h
  rw [before_no]
  omega
theorem before_self (r : Nat → Nat) (i : Nat) : before r i i = false := by rw [before_no]; omega
theorem before_total {r : Nat → Nat} {j i : Nat} (hne : j ≠ i) (h : before r j i = false) : before r i j = true := by
  rw [before_no] at h
  rw [before_iff]
  omega
/-- How many places come before one. -/
def rank (r : Nat → Nat) (n i : Nat) : Nat := cntN (fun j => before r j i) n

/-- The first c places in this order. -/
structure Seg (r : Nat → Nat) (n : Nat) (M : Nat → Bool) (c : Nat) : Prop where
  cnt : cntN M n = c
  ini : ∀ j i, j < n → i < n → M j = true → M i = false → before r j i = true
theorem Seg.rank {r : Nat → Nat} {n c : Nat} {M : Nat → Bool} (h : Seg r n M c) (i : Nat) (hi : i < n) : M i = decide (rank r n i < c) := by
  cases hM : M i
  · have : c ≤ Go.Proofs.YtbemenflkebpnaaDoor.rank r n i := by
      rw [← h.cnt]
      exact cntN_le n fun j hj hj1 => h.ini j i hj hi hj1 hM
    symm
    simp
    omega
  · have : Go.Proofs.YtbemenflkebpnaaDoor.rank r n i < c := by
      rw [← h.cnt]
      refine cntN_lt n (fun j hj hj1 => ?_) i hi (before_self r i) hM
      cases hMj : M j
      · have := h.ini i j hi hj hM hMj
        rw [before_asymm this] at hj1
        cases hj1
      · rfl
    symm
    simpa using this
theorem Seg.step {r : Nat → Nat} {n c : Nat} {M : Nat → Bool} (h : Seg r n M c) (b : Nat) (hb : b < n) (hM : M b = false) (hf : ∀ k, k < n → M k = false → before r k b = false) : Seg r n (fun i => M i || i == b) (c + 1) := by
  refine ⟨by rw [cntN_add M b hM n hb, h.cnt], fun j i hj hi h1 h2 => ?_⟩
  simp only [Bool.or_eq_false_iff] at h2
  obtain ⟨h3, h4⟩ := h2
  have hib : i ≠ b := by simpa using h4
  simp only [Bool.or_eq_true] at h1
  rcases h1 with h1 | h1
  · exact h.ini j i hj hi h1 h3
  · have : j = b := by simpa using h1
    subst this
    exact before_total hib (hf i hi h3)
theorem Seg.congr {r : Nat → Nat} {n c : Nat} {M M' : Nat → Bool} (h : Seg r n M c) (e : ∀ i, i < n → M' i = M i) : Seg r n M' c :=
  ⟨by rw [cntN_congr n e, h.cnt], fun j i hj hi h1 h2 => h.ini j i hj hi (by rw [← e j hj]; exact h1) (by rw [← e i hi]; exact h2)⟩
theorem best_of (r : Nat → Nat) (M : Nat → Bool) : ∀ n, (∃ k, k < n ∧ M k = false) → ∃ b, b < n ∧ M b = false ∧ ∀ k, k < n → M k = false → before r k b = false
  | 0, ⟨k, hk, _⟩ => by omega
  | n + 1, ⟨k, hk, hM⟩ => by
    by_cases h : ∃ k, k < n ∧ M k = false
    · obtain ⟨b, hb, hMb, hf⟩ := best_of r M n h
      by_cases h1 : M n = false ∧ before r n b = true
      · refine ⟨n, by omega, h1.1, fun k hk hMk => ?_⟩
        rcases Nat.lt_or_ge k n with h2 | h2
        · have h3 := hf k h2 hMk
          have h4 := h1.2
          rw [before_no] at h3 ⊢
          rw [before_iff] at h4
          omega
        · have : k = n := by omega
          subst this
          exact before_self r k
      · refine ⟨b, by omega, hMb, fun k hk hMk => ?_⟩
        rcases Nat.lt_or_ge k n with h2 | h2
        · exact hf k h2 hMk
        · have : k = n := by omega
          subst this
          cases h3 : before r k b
          · rfl
          · exact absurd ⟨hMk, h3⟩ h1
    · have hkn : k = n := by
        rcases Nat.lt_or_ge k n with h2 | h2
        · exact absurd ⟨k, h2, hM⟩ h
        · omega
      subst hkn
      refine ⟨k, by omega, hM, fun j hj hMj => ?_⟩
      rcases Nat.lt_or_ge j k with h2 | h2
      · exact absurd ⟨j, h2, hMj⟩ h
      · have : j = k := by omega
        subst this
        exact before_self r j
/-- The first c places are those of a rank below c. -/
def marks (r : Nat → Nat) (n c i : Nat) : Bool := decide (rank r n i < c)
theorem seg_zero (r : Nat → Nat) (n : Nat) : Seg r n (marks r n 0) 0 := by
  refine ⟨?_, fun j i _ _ h1 _ => by simp [marks] at h1⟩
  have : cntN (marks r n 0) n = cntN (fun _ => false) n := cntN_congr n fun i _ => by simp [marks]
  rw [this]
  exact (sumN_const 0 n).trans (Nat.mul_zero n)
theorem seg_all (r : Nat → Nat) (n : Nat) : ∀ c, c ≤ n → Seg r n (marks r n c) c
  | 0, _ => seg_zero r n
  | c + 1, h => by
    have h1 := seg_all r n c (by omega)
    obtain ⟨b, hb, hM, hf⟩ := best_of r (marks r n c) n (cntN_some _ n (by rw [h1.cnt]; omega))
    have h2 := h1.step b hb hM hf
    exact h2.congr fun i hi => (h2.rank i hi).symm
/-- One more of the first places. -/
theorem marks_step (r : Nat → Nat) (n c b : Nat) (hc : c < n) (hb : b < n) (hM : marks r n c b = false) (hf : ∀ k, k < n → marks r n c k = false → before r k b = false) (i : Nat) (hi : i < n) :
    marks r n (c + 1) i = (marks r n c i || i == b) := (((seg_all r n c (by omega)).step b hb hM hf).rank i hi).symm
/-- The remainders that are left, -1 where the place has been taken. -/
def restI (r : Nat → Nat) (n c i : Nat) : Int := if marks r n c i = true then -1 else (r i : Int)
theorem greedy (r : Nat → Nat) (n c b : Nat) (hc : c < n) (hb : b < n) (h : ∀ j, j < n → restI r n c j ≤ restI r n c b ∧ (j < b → restI r n c j < restI r n c b)) :
    marks r n c b = false ∧ ∀ i, i < n → marks r n (c + 1) i = (marks r n c i || i == b) := by
  obtain ⟨u, hu, hMu⟩ := cntN_some (marks r n c) n (by rw [(seg_all r n c (by omega)).cnt]; exact hc)
  have hM : marks r n c b = false := by
    cases hM : marks r n c b
    · rfl
    · have := (h u hu).1
      unfold restI at this
      rw [hMu, hM] at this
      simp at this
      omega
  refine ⟨hM, marks_step r n c b hc hb hM fun k hk hMk => ?_⟩
  have := h k hk
  unfold restI at this
  rw [hMk, hM] at this
  simp at this
  rw [before_no]
  omega

/-! Parts by weights. -/
def baseW (t s w : Nat) : Nat := t * w / s
def remW (t s w : Nat) : Nat := t * w % s
def leftN (t n : Nat) (w : Nat → Nat) : Nat := t - sumN (fun i => baseW t (sumN w n) (w i)) n
/-- The part of a place. -/
def share (t n : Nat) (w : Nat → Nat) (i : Nat) : Nat := baseW t (sumN w n) (w i) + if marks (fun j => remW t (sumN w n) (w j)) n (leftN t n w) i = true then 1 else 0

theorem base_sum (t n : Nat) (w : Nat → Nat) : sumN w n * sumN (fun i => baseW t (sumN w n) (w i)) n + sumN (fun i => remW t (sumN w n) (w i)) n = t * sumN w n := by
  rw [← sumN_mul (sumN w n), ← sumN_add, ← sumN_mul t]
  exact sumN_congr n fun i _ => Nat.div_add_mod _ _
theorem left_mul (t n : Nat) (w : Nat → Nat) (hs : 0 < sumN w n) : sumN (fun i => baseW t (sumN w n) (w i)) n ≤ t ∧ leftN t n w * sumN w n = sumN (fun i => remW t (sumN w n) (w i)) n := by
  have h := base_sum t n w
  unfold leftN
  generalize sumN (fun i => baseW t (sumN w n) (w i)) n = b at *
  generalize sumN (fun i => remW t (sumN w n) (w i)) n = r at *
  generalize sumN w n = s at *
  have h1 : b ≤ t := by
    have : s * b ≤ t * s := by omega
    rw [Nat.mul_comm t s] at this
    exact Nat.le_of_mul_le_mul_left this hs
  refine ⟨h1, ?_⟩
  rw [Nat.sub_mul, Nat.mul_comm b s]
  omega
theorem left_lt (t n : Nat) (w : Nat → Nat) (hs : 0 < sumN w n) : leftN t n w < n := by
  have h := (left_mul t n w hs).2
  have hn : 0 < n := by
    rcases Nat.eq_zero_or_pos n with h0 | h0
    · subst h0; simp [sumN] at hs
    · exact h0
  have h2 : sumN (fun i => remW t (sumN w n) (w i)) n < n * sumN w n := by
    have := sumN_lt (f := fun i => remW t (sumN w n) (w i)) (g := fun _ => sumN w n) n (fun i _ => Nat.le_of_lt (Nat.mod_lt _ hs)) 0 hn (Nat.mod_lt _ hs)
    rwa [sumN_const] at this
  rw [← h] at h2
  exact Nat.lt_of_mul_lt_mul_right h2
/-- The parts are the whole. -/
theorem share_sum (t n : Nat) (w : Nat → Nat) (hs : 0 < sumN w n) : sumN (share t n w) n = t := by
  have h1 : sumN (share t n w) n = sumN (fun i => baseW t (sumN w n) (w i)) n + cntN (marks (fun j => remW t (sumN w n) (w j)) n (leftN t n w)) n := sumN_add _ _ n
  rw [h1, (seg_all _ n _ (Nat.le_of_lt (left_lt t n w hs))).cnt]
  have := (left_mul t n w hs).1
  unfold leftN
  omega
/-- Who bears a cent has a remainder. -/
theorem marks_pos (t n : Nat) (w : Nat → Nat) (hs : 0 < sumN w n) (i : Nat) (hi : i < n) (hM : marks (fun j => remW t (sumN w n) (w j)) n (leftN t n w) i = true) : 0 < remW t (sumN w n) (w i) := by
  rcases Nat.eq_zero_or_pos (remW t (sumN w n) (w i)) with h0 | h0
  · exfalso
    have hS := seg_all (fun j => remW t (sumN w n) (w j)) n (leftN t n w) (Nat.le_of_lt (left_lt t n w hs))
    have hl := (left_mul t n w hs).2
    have h1 : sumN (fun i => remW t (sumN w n) (w i)) n < sumN (fun j => sumN w n * if marks (fun j => remW t (sumN w n) (w j)) n (leftN t n w) j = true then 1 else 0) n := by
      refine sumN_lt n (fun j hj => ?_) i hi ?_
      · by_cases hj1 : marks (fun j => remW t (sumN w n) (w j)) n (leftN t n w) j = true
        · rw [if_pos hj1, Nat.mul_one]
          exact Nat.le_of_lt (Nat.mod_lt _ hs)
        · have hj2 := hS.ini i j hi hj hM (by simpa using hj1)
          rw [before_iff] at hj2
          have h3 : remW t (sumN w n) (w j) = 0 := by omega
          rw [h3]
          exact Nat.zero_le _
      · rw [if_pos hM, Nat.mul_one, h0]
        exact hs
    rw [sumN_mul] at h1
    have h2 : sumN (fun j => if marks (fun j => remW t (sumN w n) (w j)) n (leftN t n w) j = true then 1 else 0) n = leftN t n w := hS.cnt
    rw [h2, ← hl, Nat.mul_comm] at h1
    omega
  · exact h0
theorem share_near (t n : Nat) (w : Nat → Nat) (hs : 0 < sumN w n) (i : Nat) (hi : i < n) : share t n w i * sumN w n < t * w i + sumN w n ∧ t * w i < share t n w i * sumN w n + sumN w n := by
  have h1 : sumN w n * baseW t (sumN w n) (w i) + remW t (sumN w n) (w i) = t * w i := Nat.div_add_mod _ _
  have h2 : remW t (sumN w n) (w i) < sumN w n := Nat.mod_lt _ hs
  unfold share
  split
  · rename_i hM
    have h3 := marks_pos t n w hs i hi hM
    generalize sumN w n = s at *
    generalize baseW t s (w i) = b at *
    rw [Nat.add_mul, Nat.mul_comm b s, Nat.one_mul]
    omega
  · generalize sumN w n = s at *
    generalize baseW t s (w i) = b at *
    rw [Nat.add_zero, Nat.mul_comm b s]
    omega
theorem share_zero (t n : Nat) (w : Nat → Nat) (hs : 0 < sumN w n) (i : Nat) (hi : i < n) (h0 : w i = 0) : share t n w i = 0 := by
  unfold share
  have h1 : baseW t (sumN w n) (w i) = 0 := by unfold baseW; rw [h0, Nat.mul_zero, Nat.zero_div]
  have h2 : remW t (sumN w n) (w i) = 0 := by unfold remW; rw [h0, Nat.mul_zero, Nat.zero_mod]
  rw [h1, if_neg (fun hM => by have := marks_pos t n w hs i hi hM; omega)]
theorem share_mono (t n : Nat) (w : Nat → Nat) (hs : 0 < sumN w n) (i k : Nat) (hi : i < n) (hk : k < n) (h : w i < w k) : share t n w i ≤ share t n w k := by
  have h1 : sumN w n * baseW t (sumN w n) (w i) + remW t (sumN w n) (w i) = t * w i := Nat.div_add_mod _ _
  have h2 : sumN w n * baseW t (sumN w n) (w k) + remW t (sumN w n) (w k) = t * w k := Nat.div_add_mod _ _
  have hb : baseW t (sumN w n) (w i) ≤ baseW t (sumN w n) (w k) := Nat.div_le_div_right (Nat.mul_le_mul_left t (Nat.le_of_lt h))
  unfold share
  by_cases hM : marks (fun j => remW t (sumN w n) (w j)) n (leftN t n w) i = true
  · rw [if_pos hM]
    rcases Nat.lt_or_ge (baseW t (sumN w n) (w i)) (baseW t (sumN w n) (w k)) with hl | hl
    · omega
    · have he : baseW t (sumN w n) (w i) = baseW t (sumN w n) (w k) := by omega
      have hpos := marks_pos t n w hs i hi hM
      have ht : 0 < t := by
        rcases Nat.eq_zero_or_pos t with h0 | h0
        · subst h0
          unfold remW at hpos
          rw [Nat.zero_mul, Nat.zero_mod] at hpos
          omega
        · exact h0
      have h5 : t * w i < t * w k := Nat.mul_lt_mul_of_pos_left h ht
      rw [he] at h1
      have h6 : remW t (sumN w n) (w i) < remW t (sumN w n) (w k) := by omega
      have hMk : marks (fun j => remW t (sumN w n) (w j)) n (leftN t n w) k = true := by
        cases hMk : marks (fun j => remW t (sumN w n) (w j)) n (leftN t n w) k
        · have := (seg_all (fun j => remW t (sumN w n) (w j)) n (leftN t n w) (Nat.le_of_lt (left_lt t n w hs))).ini i k hi hk hM hMk
          rw [before_iff] at this
          omega
        · rfl
      rw [if_pos hMk]
      omega
  · rw [if_neg hM]
    omega

/-! Permille. -/
def perm (n r : Nat) : Nat := if 500 < n * r % 1000 ∨ (n * r % 1000 = 500 ∧ n * r / 1000 % 2 = 1) then n * r / 1000 + 1 else n * r / 1000
/-- p/1000, rounded to even. -/
def rnd (p : Nat) : Nat := if 500 < p % 1000 ∨ (p % 1000 = 500 ∧ p / 1000 % 2 = 1) then p / 1000 + 1 else p / 1000
theorem rnd_mono (p q : Nat) (h : p ≤ q) : rnd p ≤ rnd q := by
  unfold rnd
  split <;> split <;> omega
theorem rnd_mul (n : Nat) : rnd (n * 1000) = n := by
  unfold rnd
  split <;> omega
theorem rnd_two (p q n : Nat) (h : p + q = n * 1000) : rnd p + rnd q ≤ n + 1 ∧ n ≤ rnd p + rnd q + 1 := by
  unfold rnd
  split <;> split <;> omega
theorem perm_le (n r : Nat) (h : r ≤ 1000) : perm n r ≤ n := by
  have := rnd_mono (n * r) (n * 1000) (Nat.mul_le_mul_left n h)
  rw [rnd_mul] at this
  exact this
theorem perm_mono (n n' r r' : Nat) (h : n ≤ n') (h' : r ≤ r') : perm n r ≤ perm n' r' := rnd_mono _ _ (Nat.mul_le_mul h h')
theorem perm_two (n r : Nat) (h : r ≤ 1000) : perm n r + perm n (1000 - r) ≤ n + 1 ∧ n ≤ perm n r + perm n (1000 - r) + 1 := by
  refine rnd_two _ _ n ?_
  rw [← Nat.mul_add]
  congr 1
  omega
end Go.Proofs.YtbemenflkebpnaaDoor
