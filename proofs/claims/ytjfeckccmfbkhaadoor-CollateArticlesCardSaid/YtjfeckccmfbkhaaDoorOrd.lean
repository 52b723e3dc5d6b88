/- Plain mathematics of the order of texts: strings byte by byte, entries (key, text), the one sorted list. No program is named here. -/
import Derived.Test.YtjfeckccmfbkhaaDoorPlain02
import Derived.Lib.Bytealg
import Derived.Sort.Statements
namespace Go.Proofs.YtjfeckccmfbkhaaDoor
open Go.Lib Go.Sort

theorem u8_lt (a b : UInt8) : a < b ↔ a.toNat < b.toNat := UInt8.lt_iff_toNat_lt
theorem u8_eq (a b : UInt8) (h1 : ¬ a < b) (h2 : ¬ b < a) : a = b := by
  rw [u8_lt] at h1 h2
  exact UInt8.toNat_inj.1 (by omega)
theorem cb_refl : ∀ a : List UInt8, compareBytes a a = 0
  | [] => rfl
  | a :: as => by
    unfold compareBytes
    rw [if_neg (by rw [u8_lt]; omega), if_neg (by rw [u8_lt]; omega)]
    exact cb_refl as
theorem cb_eq : ∀ a b : List UInt8, compareBytes a b = 0 → a = b
  | [], [], _ => rfl
  | [], _ :: _, h => by simp [compareBytes] at h
  | _ :: _, [], h => by simp [compareBytes] at h
  | a :: as, b :: bs, h => by
    unfold compareBytes at h
    split at h
    · cases h
    · split at h
      · cases h
      · rename_i h1 h2
        rw [u8_eq a b h1 h2, cb_eq as bs h]
theorem cb_anti : ∀ a b : List UInt8, compareBytes b a = - compareBytes a b
  | [], [] => rfl
  | [], _ :: _ => rfl
  | _ :: _, [] => rfl
  | a :: as, b :: bs => by
    unfold compareBytes
    have ih := cb_anti as bs
    simp only [u8_lt]
    split
    · rw [if_neg (by omega)]
    · split
      · rfl
      · exact ih
theorem cb_range : ∀ a b : List UInt8, -1 ≤ compareBytes a b ∧ compareBytes a b ≤ 1
  | [], [] => by decide
  | [], _ :: _ => by constructor <;> (unfold compareBytes; decide)
  | _ :: _, [] => by constructor <;> (unfold compareBytes; decide)
  | a :: as, b :: bs => by
    unfold compareBytes
    split
    · decide
    · split
      · decide
      · exact cb_range as bs
theorem cb_trans : ∀ a b c : List UInt8, compareBytes a b ≤ 0 → compareBytes b c ≤ 0 → compareBytes a c ≤ 0 ∧ (compareBytes a c = 0 → compareBytes a b = 0 ∧ compareBytes b c = 0)
  | [], [], [], _, _ => by simp [compareBytes]
  | [], [], _ :: _, _, _ => by simp [compareBytes]
  | [], _ :: _, [], _, h => by simp [compareBytes] at h
  | [], _ :: _, _ :: _, _, _ => by simp [compareBytes]
  | _ :: _, [], _, h, _ => by simp [compareBytes] at h
  | _ :: _, _ :: _, [], _, h => by simp [compareBytes] at h
  | a :: as, b :: bs, c :: cs, h1, h2 => by
    have ih := cb_trans as bs cs
    unfold compareBytes at h1 h2 ⊢
    simp only [u8_lt] at h1 h2 ⊢
    by_cases hab : a.toNat < b.toNat
    · by_cases hbc : b.toNat < c.toNat
      · rw [if_pos (by omega)]; exact ⟨by decide, fun h => by cases h⟩
      · rw [if_neg hbc] at h2
        by_cases hcb : c.toNat < b.toNat
        · rw [if_pos hcb] at h2; omega
        · rw [if_pos (show a.toNat < c.toNat by omega)]; exact ⟨by decide, fun h => by cases h⟩
    · rw [if_neg hab] at h1
      by_cases hba : b.toNat < a.toNat
      · rw [if_pos hba] at h1; omega
      · rw [if_neg hba] at h1
        by_cases hbc : b.toNat < c.toNat
        · rw [if_pos (show a.toNat < c.toNat by omega)]; exact ⟨by decide, fun h => by cases h⟩
        · rw [if_neg hbc] at h2
          by_cases hcb : c.toNat < b.toNat
          · rw [if_pos hcb] at h2; omega
          · rw [if_neg hcb] at h2
            rw [if_neg (show ¬ a.toNat < c.toNat by omega), if_neg (show ¬ c.toNat < a.toNat by omega), if_neg hab, if_neg hba, if_neg hbc, if_neg hcb]
            exact ih h1 h2
theorem cb_less : ∀ a b : List UInt8, Op.bytesLess a b = decide (compareBytes a b = -1)
  | [], [] => rfl
  | [], _ :: _ => rfl
  | _ :: _, [] => rfl
  | a :: as, b :: bs => by
    have ih := cb_less as bs
    unfold Op.bytesLess compareBytes
    rw [ih]
    by_cases h1 : a < b
    · simp [h1]
    · by_cases h2 : b < a
      · have h3 : a ≠ b := by intro h; subst h; exact h1 h2
        simp [h1, h2, h3]
      · have h3 := u8_eq a b h1 h2
        subst h3
        simp [h1]
theorem cb_beq (a b : List UInt8) : (a == b) = decide (compareBytes a b = 0) := by
  by_cases h : a = b
  · subst h; simp [cb_refl]
  · have : compareBytes a b ≠ 0 := fun h' => h (cb_eq a b h')
    simp [h, this]

/-- Two strings. -/
def cS (x y : ByteArray) : Int := compareBytes x.data.toList y.data.toList
theorem cS_refl (x : ByteArray) : cS x x = 0 := cb_refl _
theorem cS_eq {x y : ByteArray} (h : cS x y = 0) : x = y := by
  have := cb_eq _ _ h
  obtain ⟨⟨x⟩⟩ := x
  obtain ⟨⟨y⟩⟩ := y
  simp only at this
  rw [this]
theorem cS_anti (x y : ByteArray) : cS y x = - cS x y := cb_anti _ _
/-- Two entries: by their keys, and for equal keys by their texts. -/
def cmpE (x y : ByteArray × ByteArray) : Int := if cS x.1 y.1 = 0 then cS x.2 y.2 else cS x.1 y.1
def ltE (x y : ByteArray × ByteArray) : Bool := decide (cmpE x y < 0)
theorem cmpE_range (x y : ByteArray × ByteArray) : -1 ≤ cmpE x y ∧ cmpE x y ≤ 1 := by
  unfold cmpE
  split <;> exact cb_range _ _
theorem cmpE_anti (x y : ByteArray × ByteArray) : cmpE y x = - cmpE x y := by
  unfold cmpE
  have h1 := cS_anti x.1 y.1
  have h2 := cS_anti x.2 y.2
  by_cases h : cS x.1 y.1 = 0
  · rw [if_pos h, if_pos (by omega)]; exact h2
  · rw [if_neg h, if_neg (by omega)]; exact h1
theorem cmpE_eq {x y : ByteArray × ByteArray} (h : cmpE x y = 0) : x = y := by
  unfold cmpE at h
  split at h
  · rename_i h1
    exact Prod.ext (cS_eq h1) (cS_eq h)
  · rename_i h1
    exact absurd h h1
theorem cmpE_refl (x : ByteArray × ByteArray) : cmpE x x = 0 := by
  unfold cmpE
  rw [if_pos (cS_refl _), cS_refl]
theorem cmpE_trans (x y z : ByteArray × ByteArray) (h1 : cmpE x y ≤ 0) (h2 : cmpE y z ≤ 0) : cmpE x z ≤ 0 := by
  unfold cmpE at *
  by_cases a : cS x.1 y.1 = 0
  · rw [if_pos a] at h1
    have e := cS_eq a
    rw [e]
    by_cases b : cS y.1 z.1 = 0
    · rw [if_pos b] at h2 ⊢
      exact (cb_trans _ _ _ h1 h2).1
    · rw [if_neg b] at h2 ⊢
      exact h2
  · rw [if_neg a] at h1
    by_cases b : cS y.1 z.1 = 0
    · rw [if_pos b] at h2
      rw [← cS_eq b, if_neg a]
      exact h1
    · rw [if_neg b] at h2
      have := cb_trans _ _ _ h1 h2
      have hne : cS x.1 z.1 ≠ 0 := fun h0 => a (this.2 h0).1
      rw [if_neg hne]
      exact this.1
theorem ltE_swo : SWO ltE where
  irrefl x := by unfold ltE; rw [cmpE_refl]; rfl
  trans x y z h1 h2 := by
    simp only [ltE, decide_eq_true_eq] at *
    have h3 := cmpE_trans x y z (by omega) (by omega)
    have h4 : cmpE x z ≠ 0 := by
      intro h0
      have e := cmpE_eq h0
      subst e
      have := cmpE_anti x y
      omega
    omega
  ntrans x y z h1 h2 := by
    simp only [ltE, decide_eq_false_iff_not] at *
    have a1 := cmpE_anti x y
    have a2 := cmpE_anti y z
    have a3 := cmpE_anti x z
    have := cmpE_trans z y x (by omega) (by omega)
    omega
theorem ltE_total (x y : ByteArray × ByteArray) (h1 : ltE x y = false) (h2 : ltE y x = false) : x = y := by
  simp only [ltE, decide_eq_false_iff_not] at *
  have := cmpE_anti x y
  exact cmpE_eq (by omega)
theorem nlt_le (x y : ByteArray × ByteArray) : (!ltE y x) = decide (cmpE x y ≤ 0) := by
  have := cmpE_anti x y
  unfold ltE
  by_cases h : cmpE x y ≤ 0
  · rw [decide_eq_true h, decide_eq_false (by omega)]; rfl
  · rw [decide_eq_false h, decide_eq_true (by omega)]; rfl

/-- A text with its key. -/
def ent (lang : ByteArray) (cs : List Nat) : ByteArray × ByteArray := (T (keyL lang cs), T cs)
/-- The entries in order. -/
def srt (l : List (ByteArray × ByteArray)) : List (ByteArray × ByteArray) := l.mergeSort fun x y => !ltE y x
theorem srt_perm (l : List (ByteArray × ByteArray)) : (srt l).Perm l := List.mergeSort_perm _ _
theorem srt_sorted (l : List (ByteArray × ByteArray)) : (srt l).Pairwise fun x y => cmpE x y ≤ 0 := by
  have := List.pairwise_mergeSort (le := fun x y => !ltE y x) (by
    intro a b c h1 h2
    rw [nlt_le] at *
    simp only [decide_eq_true_eq] at *
    exact cmpE_trans a b c h1 h2) (by
    intro a b
    rw [nlt_le, nlt_le]
    have := cmpE_anti a b
    by_cases h : cmpE a b ≤ 0
    · simp [h]
    · have : cmpE b a ≤ 0 := by omega
      simp [this]) l
  refine this.imp ?_
  intro a b h
  rw [nlt_le] at h
  simpa using h
/-- There is one list in order. -/
theorem srt_unique {l m : List (ByteArray × ByteArray)} (hp : m.Perm l) (hs : m.Pairwise fun x y => cmpE x y ≤ 0) : m = srt l := by
  refine List.Perm.eq_of_pairwise (le := fun x y => cmpE x y ≤ 0) ?_ hs (srt_sorted l) (hp.trans (srt_perm l).symm)
  intro a b _ _ h1 h2
  have := cmpE_anti a b
  exact cmpE_eq (by omega)
theorem srt_srt (l : List (ByteArray × ByteArray)) : srt (srt l) = srt l := (srt_unique (List.Perm.refl _) (srt_sorted l)).symm
theorem srt_len (l : List (ByteArray × ByteArray)) : (srt l).length = l.length := (srt_perm l).length_eq
/-- Putting a text into a list in order: behind all that are not greater. -/
def place (out : List (ByteArray × ByteArray)) (x : ByteArray × ByteArray) (k : Nat) : List (ByteArray × ByteArray) := out.take k ++ x :: out.drop k
theorem place_perm (out : List (ByteArray × ByteArray)) (x : ByteArray × ByteArray) (k : Nat) : (place out x k).Perm (x :: out) := by
  unfold place
  have := List.perm_middle (a := x) (l₁ := out.take k) (l₂ := out.drop k)
  rwa [List.take_append_drop] at this
theorem place_sorted (out : List (ByteArray × ByteArray)) (x : ByteArray × ByteArray) (k : Nat) (hs : out.Pairwise fun x y => cmpE x y ≤ 0)
    (h1 : ∀ y ∈ out.take k, cmpE y x ≤ 0) (h2 : ∀ y ∈ out.drop k, cmpE x y ≤ 0) : (place out x k).Pairwise fun x y => cmpE x y ≤ 0 := by
  unfold place
  rw [List.pairwise_append]
  have hs' := hs
  rw [← List.take_append_drop k out, List.pairwise_append] at hs'
  refine ⟨hs'.1, ?_, ?_⟩
  · rw [List.pairwise_cons]
    exact ⟨h2, hs'.2.1⟩
  · intro a ha b hb
    rcases List.mem_cons.1 hb with rfl | hb
    · exact h1 a ha
    · exact hs'.2.2 a ha b hb
theorem place_srt (l : List (ByteArray × ByteArray)) (x : ByteArray × ByteArray) (k : Nat) (hk : k ≤ (srt l).length)
    (h1 : 0 < k → ∀ y, (srt l)[k - 1]? = some y → cmpE y x ≤ 0) (h2 : ∀ i, k ≤ i → ∀ y, (srt l)[i]? = some y → 0 < cmpE y x) : place (srt l) x k = srt (l ++ [x]) := by
  have hs := srt_sorted l
  have hp := srt_perm l
  generalize srt l = out at *
  refine srt_unique ((place_perm out x k).trans ?_) (place_sorted out x k hs ?_ ?_)
  · refine (List.Perm.cons x hp).trans ?_
    have := (List.perm_middle (a := x) (l₁ := l) (l₂ := [])).symm
    simpa using this
  · intro y hy
    obtain ⟨i, hi, rfl⟩ := List.getElem_of_mem hy
    have hi' : i < k := by simp at hi; omega
    have hio : i < out.length := by omega
    rw [List.getElem_take]
    have h0 := h1 (by omega) out[k - 1] (List.getElem?_eq_getElem (by omega))
    by_cases e : i = k - 1
    · subst e; exact h0
    · have := List.pairwise_iff_getElem.1 hs i (k - 1) hio (by omega) (by omega)
      exact cmpE_trans _ _ _ this h0
  · intro y hy
    obtain ⟨i, hi, rfl⟩ := List.getElem_of_mem hy
    simp at hi
    rw [List.getElem_drop]
    have h0 := h2 (k + i) (by omega) out[k + i] (List.getElem?_eq_getElem (by omega))
    have := cmpE_anti x out[k + i]
    omega
end Go.Proofs.YtjfeckccmfbkhaaDoor
