/- Plain mathematics of layer 3: days and dates. No program is named here. -/
namespace Go.Proofs.YtdcmfncocehbhaaDoor

def leap (y : Nat) : Bool := y % 4 == 0 && y != 1900 && y != 2100
/-- The length of month m, 1 to 12, of a year that is a leap year or not. -/
def mdays (l : Bool) (m : Nat) : Nat := if m = 2 then (if l then 29 else 28) else if m = 4 ∨ m = 6 ∨ m = 9 ∨ m = 11 then 30 else 31
def mlen (y m : Nat) : Nat := mdays (leap y) m
def ylen (y : Nat) : Nat := if leap y then 366 else 365
/-- The days of the first k years from 1900 on. -/
def ysum : Nat → Nat
  | 0 => 0
  | k + 1 => ysum k + ylen (1900 + k)
/-- The days of the first k months of a year. -/
def msumL (l : Bool) : Nat → Nat
  | 0 => 0
  | k + 1 => msumL l k + mdays l (k + 1)
def msum (y k : Nat) : Nat := msumL (leap y) k
def maxDay : Nat := 109572

theorem mdays_pos (l : Bool) (m : Nat) : 28 ≤ mdays l m ∧ mdays l m ≤ 31 := by
  unfold mdays
  repeat' split
  all_goals omega
theorem ylen_pos (y : Nat) : 365 ≤ ylen y ∧ ylen y ≤ 366 := by
  unfold ylen
  split <;> omega
theorem msum_year (y : Nat) : msum y 12 = ylen y := by
  unfold msum ylen
  cases leap y <;> rfl
theorem ysum_all : ysum 300 = 109573 := by decide +kernel
theorem ysum_mono (a b : Nat) (h : a ≤ b) : ysum a ≤ ysum b := by
  induction b with
  | zero => rw [Nat.le_zero.1 h]; exact Nat.le_refl _
  | succ b ih =>
    rcases Nat.lt_or_ge a (b + 1) with h1 | h1
    · have := ih (by omega)
      show ysum a ≤ ysum b + ylen (1900 + b)
      omega
    · have : a = b + 1 := by omega
      rw [this]; exact Nat.le_refl _
theorem msumL_mono (l : Bool) (a b : Nat) (h : a ≤ b) : msumL l a ≤ msumL l b := by
  induction b with
  | zero => rw [Nat.le_zero.1 h]; exact Nat.le_refl _
  | succ b ih =>
    rcases Nat.lt_or_ge a (b + 1) with h1 | h1
    · have := ih (by omega)
      show msumL l a ≤ msumL l b + mdays l (b + 1)
      omega
    · have : a = b + 1 := by omega
      rw [this]; exact Nat.le_refl _

/-- Day n is the date y, m, d. -/
structure IsDate (n y m d : Nat) : Prop where
  y0 : 1900 ≤ y
  y1 : y ≤ 2199
  m0 : 1 ≤ m
  m1 : m ≤ 12
  d0 : 1 ≤ d
  d1 : d ≤ mlen y m
  day : n = ysum (y - 1900) + msum y (m - 1) + (d - 1)

theorem msum_lt (y m d : Nat) (m0 : 1 ≤ m) (m1 : m ≤ 12) (d0 : 1 ≤ d) (d1 : d ≤ mlen y m) : msum y (m - 1) + (d - 1) < ylen y := by
  have h1 : msum y m ≤ msum y 12 := msumL_mono _ _ _ m1
  rw [msum_year] at h1
  have h2 : msum y m = msum y (m - 1) + mlen y m := by
    obtain ⟨k, rfl⟩ : ∃ k, m = k + 1 := ⟨m - 1, by omega⟩
    rfl
  omega
theorem IsDate.year {n y m d : Nat} (h : IsDate n y m d) : ysum (y - 1900) ≤ n ∧ n < ysum (y - 1900) + ylen y := by
  have h1 := msum_lt y m d h.m0 h.m1 h.d0 h.d1
  have h2 := h.day
  omega
theorem IsDate.month {n y m d : Nat} (h : IsDate n y m d) : ysum (y - 1900) + msum y (m - 1) ≤ n ∧ n < ysum (y - 1900) + msum y m := by
  have h2 : msum y m = msum y (m - 1) + mlen y m := by
    have := h.m0
    obtain ⟨k, rfl⟩ : ∃ k, m = k + 1 := ⟨m - 1, by omega⟩
    rfl
  have h3 := h.day
  have := h.d0
  have := h.d1
  omega
theorem IsDate.le {n y m d : Nat} (h : IsDate n y m d) : n ≤ maxDay := by
  have h1 := h.year.2
  have h2 : ysum (y - 1900) + ylen y = ysum (y - 1900 + 1) := by
    have := h.y0
    show _ = ysum (y - 1900) + ylen (1900 + (y - 1900))
    rw [show 1900 + (y - 1900) = y by omega]
  have h3 := ysum_mono (y - 1900 + 1) 300 (by have := h.y1; have := h.y0; omega)
  rw [ysum_all] at h3
  unfold maxDay
  omega
theorem ysum_at (y : Nat) (h0 : 1900 ≤ y) : ysum (y - 1900 + 1) = ysum (y - 1900) + ylen y := by
  show ysum (y - 1900) + ylen (1900 + (y - 1900)) = _
  rw [show 1900 + (y - 1900) = y by omega]
theorem year_uniq {n y y' : Nat} (h0 : 1900 ≤ y) (h0' : 1900 ≤ y') (a1 : ysum (y - 1900) ≤ n) (a2 : n < ysum (y - 1900) + ylen y) (b1 : ysum (y' - 1900) ≤ n) (b2 : n < ysum (y' - 1900) + ylen y') : y = y' := by
  rw [← ysum_at y h0] at a2
  rw [← ysum_at y' h0'] at b2
  rcases Nat.lt_trichotomy y y' with h | h | h
  · have := ysum_mono (y - 1900 + 1) (y' - 1900) (by omega)
    omega
  · exact h
  · have := ysum_mono (y' - 1900 + 1) (y - 1900) (by omega)
    omega
theorem month_uniq {l : Bool} {r a b : Nat} (a1 : msumL l a ≤ r) (a2 : r < msumL l (a + 1)) (b1 : msumL l b ≤ r) (b2 : r < msumL l (b + 1)) : a = b := by
  rcases Nat.lt_trichotomy a b with h | h | h
  · have := msumL_mono l (a + 1) b h
    omega
  · exact h
  · have := msumL_mono l (b + 1) a h
    omega
/-- A day has one date. -/
theorem IsDate.uniq {n y m d y' m' d' : Nat} (h : IsDate n y m d) (k : IsDate n y' m' d') : y = y' ∧ m = m' ∧ d = d' := by
  have e := year_uniq h.y0 k.y0 h.year.1 h.year.2 k.year.1 k.year.2
  subst e
  have hm := h.month
  have km := k.month
  have h0 := h.m0
  have k0 := k.m0
  obtain ⟨a, rfl⟩ : ∃ a, m = a + 1 := ⟨m - 1, by omega⟩
  obtain ⟨b, rfl⟩ : ∃ b, m' = b + 1 := ⟨m' - 1, by omega⟩
  simp only [Nat.add_sub_cancel] at hm km
  have e2 : a = b := month_uniq (l := leap y) (r := n - ysum (y - 1900)) (by unfold msum at hm; omega) (by unfold msum at hm; omega) (by unfold msum at km; omega) (by unfold msum at km; omega)
  subst e2
  have hd := h.day
  have kd := k.day
  have := h.d0
  have := k.d0
  refine ⟨rfl, rfl, by omega⟩
theorem find_sum (S : Nat → Nat) (h0 : S 0 = 0) (n : Nat) : ∀ k, n < S k → ∃ j, j < k ∧ S j ≤ n ∧ n < S (j + 1)
  | 0, h => by omega
  | k + 1, h => by
    rcases Nat.lt_or_ge n (S k) with h1 | h1
    · obtain ⟨j, hj, h2⟩ := find_sum S h0 n k h1
      exact ⟨j, by omega, h2⟩
    · exact ⟨k, by omega, h1, h⟩
/-- Every day has a date. -/
theorem date_of (n : Nat) (h : n ≤ maxDay) : ∃ y m d, IsDate n y m d := by
  unfold maxDay at h
  obtain ⟨j, hj, h1, h2⟩ := find_sum ysum rfl n 300 (by rw [ysum_all]; omega)
  have h3 : ysum (j + 1) = ysum j + ylen (1900 + j) := rfl
  obtain ⟨k, hk, h4, h5⟩ := find_sum (msumL (leap (1900 + j))) rfl (n - ysum j) 12 (by
    have := msum_year (1900 + j)
    unfold msum at this
    rw [this]; omega)
  have h6 : msumL (leap (1900 + j)) (k + 1) = msumL (leap (1900 + j)) k + mdays (leap (1900 + j)) (k + 1) := rfl
  refine ⟨1900 + j, k + 1, n - ysum j - msumL (leap (1900 + j)) k + 1, by omega, by omega, by omega, by omega, by omega, ?_, ?_⟩
  · unfold mlen
    omega
  · rw [show 1900 + j - 1900 = j by omega, Nat.add_sub_cancel]
    unfold msum
    omega
/-- The day behind a date. -/
theorem IsDate.next {n y m d : Nat} (h : IsDate n y m d) :
    (d < mlen y m ∧ IsDate (n + 1) y m (d + 1)) ∨ (d = mlen y m ∧ m < 12 ∧ IsDate (n + 1) y (m + 1) 1) ∨ (d = mlen y m ∧ m = 12 ∧ y < 2199 ∧ IsDate (n + 1) (y + 1) 1 1) ∨ (n = maxDay ∧ y = 2199 ∧ m = 12 ∧ d = 31) := by
  have hy0 := h.y0
  have hy1 := h.y1
  have hm0 := h.m0
  have hm1 := h.m1
  have hd0 := h.d0
  have hd1 := h.d1
  have hday := h.day
  have hs : msum y m = msum y (m - 1) + mlen y m := by
    obtain ⟨k, rfl⟩ : ∃ k, m = k + 1 := ⟨m - 1, by omega⟩
    rfl
  rcases Nat.lt_or_ge d (mlen y m) with h1 | h1
  · exact .inl ⟨h1, hy0, hy1, hm0, hm1, by omega, by omega, by omega⟩
  have hd : d = mlen y m := by omega
  rcases Nat.lt_or_ge m 12 with h2 | h2
  · refine .inr (.inl ⟨hd, h2, hy0, hy1, by omega, by omega, by omega, ?_, ?_⟩)
    · have := (mdays_pos (leap y) (m + 1)).1
      unfold mlen; omega
    · rw [Nat.add_sub_cancel, Nat.sub_self]
      omega
  have hm : m = 12 := by omega
  subst hm
  rcases Nat.lt_or_ge y 2199 with h3 | h3
  · refine .inr (.inr (.inl ⟨hd, rfl, h3, by omega, by omega, by omega, by omega, by omega, ?_, ?_⟩))
    · have := (mdays_pos (leap (y + 1)) 1).1
      unfold mlen; omega
    · have e1 := ysum_at y hy0
      have e2 : ysum (y + 1 - 1900) = ysum (y - 1900) + ylen y := by rw [show y + 1 - 1900 = y - 1900 + 1 by omega, e1]
      have e3 := msum_year y
      rw [e2]
      have e4 : msum (y + 1) (1 - 1) = 0 := rfl
      rw [e4]
      omega
  · have hy : y = 2199 := by omega
    subst hy
    have e5 : mlen 2199 12 = 31 := by decide
    have e6 : ysum (2199 - 1900) + msum 2199 (12 - 1) = 109542 := of_decide_eq_true (by decide +kernel)
    refine .inr (.inr (.inr ⟨?_, rfl, rfl, by omega⟩))
    unfold maxDay
    omega
end Go.Proofs.YtdcmfncocehbhaaDoor
