/- libraryref04.Share and Format, each road in one. -/
import Derived.Test.YtbemenflkebpnaaDoorR04T
import Derived.Test.YtbemenflkebpnaaDoorR04P
namespace Go.Proofs.YtbemenflkebpnaaDoor
open Go.RowKit

/-- The error of Share, and the parts. -/
def shareE (t : Int) (l : List Int) : Int := if okS t l = true then 0 else 1
def shareR (t : Int) (l : List Int) : List Int := if okS t l = true then shareL t l else []
theorem shareL_length (t : Int) (l : List Int) : (shareL t l).length = l.length := by simp [shareL]
theorem okS_iff (t : Int) (l : List Int) : okS t l = true ↔ rightI t = true ∧ 1 ≤ l.length ∧ l.length ≤ 16 ∧ (∀ i (h : i < l.length), okW l[i] = true) ∧ sumN (wN l) l.length ≠ 0 := by
  unfold okS
  simp only [Bool.and_eq_true, decide_eq_true_eq]
  rw [all_okW]
  constructor
  · rintro ⟨⟨⟨⟨a, b⟩, c⟩, d⟩, e⟩
    exact ⟨a, b, c, d, e⟩
  · rintro ⟨a, b, c, d, e⟩
    exact ⟨⟨⟨⟨a, b⟩, c⟩, d⟩, e⟩
theorem refShare_any (t : Int) (v : Value) (l : List Int) (w : World) (hv : IL v l w) (hz : l.length ≤ 1000000) :
    Calls Tryd.prog 16 #[.int .i64 t, v] w fun e w' => ∃ v', e = .returned (.tuple #[v', .int .i64 (shareE t l)]) ∧ IL v' (shareR t l) w' ∧ Below w.heap.size w w' := by
  have bad : okS t l = false → shareE t l = 1 ∧ shareR t l = [] := fun h => by unfold shareE shareR; rw [h]; exact ⟨rfl, rfl⟩
  by_cases h1 : rightI t = true ∧ 1 ≤ l.length ∧ l.length ≤ 16
  · obtain ⟨ht, hl, h16⟩ := h1
    rcases all_first l with hg | ⟨j, hj, hg, hb⟩
    · by_cases hs : sumN (wN l) l.length = 0
      · have hno : okS t l = false := by
          cases hk : okS t l
          · rfl
          · exact absurd hs ((okS_iff t l).1 hk).2.2.2.2
        rw [(bad hno).1, (bad hno).2]
        exact (refShare_weights t v l w hv ht hl h16 l.length (Nat.le_refl _) (fun i hi _ => hg i hi) (fun h => absurd h (Nat.lt_irrefl _)) (fun _ => hs)).mono fun e w' ⟨he, hw⟩ => ⟨_, he, IL.nil w', by rw [hw]; exact Below.refl _ _⟩
      · have hok : okS t l = true := (okS_iff t l).2 ⟨ht, hl, h16, hg, hs⟩
        have e1 : shareE t l = 0 := if_pos hok
        have e2 : shareR t l = shareL t l := if_pos hok
        rw [e1, e2]
        have ht2 := (rightI_iff t).1 ht
        obtain ⟨a, rfl⟩ : ∃ a : Nat, t = (a : Int) := ⟨t.toNat, by omega⟩
        exact refShare_ok a v l w hv (by omega) hl h16 hg hs
    · have hno : okS t l = false := by
        cases hk : okS t l
        · rfl
        · have := ((okS_iff t l).1 hk).2.2.2.1 j hj
          rw [hb] at this
          cases this
      rw [(bad hno).1, (bad hno).2]
      exact (refShare_weights t v l w hv ht hl h16 j (Nat.le_of_lt hj) hg (fun _ => hb) (fun h => by omega)).mono fun e w' ⟨he, hw⟩ => ⟨_, he, IL.nil w', by rw [hw]; exact Below.refl _ _⟩
  · have hno : okS t l = false := by
      cases hk : okS t l
      · rfl
      · have := (okS_iff t l).1 hk
        exact absurd ⟨this.1, this.2.1, this.2.2.1⟩ h1
    rw [(bad hno).1, (bad hno).2]
    exact (refShare_head t v l w hv hz h1).mono fun e w' ⟨he, hw⟩ => ⟨_, he, IL.nil w', by rw [hw]; exact Below.refl _ _⟩

/-- The text of a number. -/
def fmtI (n : Int) : ByteArray := if rightI n = true then fmtM n.toNat else ⟨#[]⟩
theorem refFormat_any (n : Int) (s : ByteArray) (h : fmtI n = s) (w : World) :
    Calls Tryd.prog 21 #[.int .i64 n] w fun e w' => e = .returned (.string s) ∧ w' = w := by
  subst h
  unfold fmtI
  by_cases h : rightI n = true
  · rw [if_pos h]
    have h2 := (rightI_iff n).1 h
    obtain ⟨a, rfl⟩ : ∃ a : Nat, n = (a : Int) := ⟨n.toNat, by omega⟩
    exact refFormat_ok a (by omega) w
  · rw [if_neg h]
    exact refFormat_bad n (fun h2 => h ((rightI_iff n).2 h2)) w
end Go.Proofs.YtbemenflkebpnaaDoor
