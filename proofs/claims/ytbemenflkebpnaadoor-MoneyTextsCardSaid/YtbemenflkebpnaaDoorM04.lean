/- Package money: each call in one, at every argument. -/
import Derived.Test.YtbemenflkebpnaaDoorMR04
import Derived.Test.YtbemenflkebpnaaDoorMF04
import Derived.Test.YtbemenflkebpnaaDoorMS04
import Derived.Test.YtbemenflkebpnaaDoorR04U
namespace Go.Proofs.YtbemenflkebpnaaDoor
open Go.RowKit Go.PlainAid

theorem pRight (n : Int) (b : Bool) (hb : rightI n = b) (w : World) :
    Calls Tryd.prog 11 #[.int .i64 n] w fun e w' => e = .returned (.bool b) ∧ Below w.heap.size w w' :=
  (monRight_any n b hb w).mono fun e w' hh => ⟨hh.1, by rw [hh.2]; exact Below.refl _ _⟩
theorem pAdd (a b n e : Int) (h : addI a b = (n, e)) (w : World) :
    Calls Tryd.prog 9 #[.int .i64 a, .int .i64 b] w fun e' w' => e' = .returned (.tuple #[.int .i64 n, .int .i64 e]) ∧ Below w.heap.size w w' :=
  (monAdd_any a b n e h w).mono fun e w' hh => ⟨hh.1, by rw [hh.2]; exact Below.refl _ _⟩
theorem pPerm (n r v : Int) (h : permI n r = v) (w : World) :
    Calls Tryd.prog 13 #[.int .i64 n, .int .i64 r] w fun e w' => e = .returned (.int .i64 v) ∧ Below w.heap.size w w' :=
  (monPerm_any n r v h w).mono fun e w' hh => ⟨hh.1, by rw [hh.2]; exact Below.refl _ _⟩
theorem pFormat (n : Int) (s : ByteArray) (h : fmtI n = s) (w : World) (hT : Tab w) :
    Calls Tryd.prog 20 #[.int .i64 n] w fun e w' => e = .returned (.string s) ∧ Below w.heap.size w w' := by
  subst h
  unfold fmtI
  by_cases h : rightI n = true
  · rw [if_pos h]
    have h2 := (rightI_iff n).1 h
    obtain ⟨a, rfl⟩ : ∃ a : Nat, n = (a : Int) := ⟨n.toNat, by omega⟩
    exact monFormat_ok a (by omega) w hT
  · rw [if_neg h]
    exact (monFormat_bad n (fun h2 => h ((rightI_iff n).2 h2)) w).mono fun e w' hh => ⟨hh.1, by rw [hh.2]; exact Below.refl _ _⟩
theorem pParse (s : ByteArray) (hs : s.size ≤ 1000000) (x er : Int) (h : parM s = (x, er)) (w : World) :
    Calls Tryd.prog 18 #[.string s] w fun e w' => e = .returned (.tuple #[.int .i64 x, .int .i64 er]) ∧ Below w.heap.size w w' := by
  have no : shapeM s = false → ((0 : Int), (3 : Int)) = (x, er) → Calls Tryd.prog 18 #[.string s] w fun e w' => e = .returned (.tuple #[.int .i64 x, .int .i64 er]) ∧ Below w.heap.size w w' := by
    intro h1 h2
    simp only [Prod.mk.injEq] at h2
    obtain ⟨rfl, rfl⟩ := h2
    exact (monParse_no s hs h1 w).mono fun e w' hh => ⟨hh.1, by rw [hh.2]; exact Below.refl _ _⟩
  unfold parM at h
  cases hh : headM s
  · rw [hh, if_neg (fun h => by cases h.1)] at h
    exact no (by unfold shapeM; rw [hh]; rfl) h
  · have hsh := shape_all s hh
    cases ha : (List.range s.size).all (okAt s (s.size - 3))
    · rw [ha, if_neg (fun h => by cases h.2)] at h
      exact no (by rw [hsh, ha]) h
    · rw [hh, ha, if_pos ⟨rfl, rfl⟩] at h
      rw [ha] at hsh
      have h4 := headM_size s hh
      obtain ⟨K, hK⟩ : ∃ K, s.size = K + 3 := ⟨s.size - 3, by omega⟩
      rw [hK, show K + 3 - 3 = K by omega] at h
      have l1 := numC_numD (s.extract 0 K) 0 0 ⟨fun _ => rfl, fun h => by omega⟩ K
      rw [val_lo s K (by omega) K (Nat.le_refl _)] at l1
      have l2 := numC_numD (s.extract (K + 1) (K + 3)) _ _ l1 2
      rw [val_hi s K (by omega) 2 (Nat.le_refl _), show K + 1 + 2 = K + 3 by omega] at l2
      refine monParse_ok s hs K hK hsh _ _ rfl rfl x er ?_ w
      rw [← h]
      by_cases hb : numC (s.extract (K + 1) (K + 3)) (numC (s.extract 0 K) 0 K) 2 ≤ 100000000
      · have := l2.1 hb
        rw [if_pos hb, if_pos (by omega), this]
      · have := l2.2 (by omega)
        rw [if_neg hb, if_neg (by omega)]
theorem pShare (t : Int) (v : Value) (l : List Int) (hz : l.length ≤ 1000000) (w : World) (hv : IL v l w) :
    Calls Tryd.prog 15 #[.int .i64 t, v] w fun e w' => ∃ v', e = .returned (.tuple #[v', .int .i64 (shareE t l)]) ∧ IL v' (shareR t l) w' ∧ Below w.heap.size w w' := by
  unfold shareE shareR
  by_cases h : okS t l = true
  · rw [if_pos h, if_pos h]
    obtain ⟨ht, h1, h16, hg, hs⟩ := (okS_iff t l).1 h
    have ht2 := (rightI_iff t).1 ht
    obtain ⟨a, rfl⟩ : ∃ a : Nat, t = (a : Int) := ⟨t.toNat, by omega⟩
    exact monShare_ok a v l w hv (by omega) h1 h16 hg hs
  · rw [if_neg h, if_neg h]
    exact (monShare_bad t v l w hv hz (by simpa using h)).mono fun e w' ⟨he, hw⟩ => ⟨_, he, IL.nil w', by rw [hw]; exact Below.refl _ _⟩
end Go.Proofs.YtbemenflkebpnaaDoor
