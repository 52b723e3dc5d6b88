/- Layer 6: the consequences, in plain mathematics. No program is walked here. -/
import Derived.Test.YtdaoccmhehekaaaDoorR06H
namespace Go.Proofs.YtdaoccmhehekaaaDoor

theorem getD_setL (m : List (List UInt8)) (i j : Nat) (x : List UInt8) (h : i < m.length) : (m.set i x).getD j [] = if j = i then x else m.getD j [] := by
  rw [List.getD_eq_getElem?_getD, List.getElem?_set]
  by_cases e : i = j
  · rw [if_pos e, if_pos (by omega), if_pos e.symm]
    rfl
  · rw [if_neg e, if_neg (fun h => e h.symm), List.getD_eq_getElem?_getD]
theorem next_set (m : List (List UInt8)) (i : Nat) (d : List UInt8) (h : i < m.length) : nextL (m.set i d) = (nextL m).set (i / 2) (node (m.set i d) (i / 2)) := by
  have hl : (nextL (m.set i d)).length = ((nextL m).set (i / 2) (node (m.set i d) (i / 2))).length := by rw [List.length_set, nextL_length, nextL_length, List.length_set]
  refine list_ext _ _ hl fun j hj => ?_
  rw [nextL_length, List.length_set] at hj
  rw [nextL_at _ j (by rw [List.length_set]; exact hj), getD_setL _ _ _ _ (by rw [nextL_length]; omega)]
  by_cases e : j = i / 2
  · rw [if_pos e, e]
  · rw [if_neg e, nextL_at m j hj]
    unfold node
    rw [List.length_set, getD_setL m i (2 * j) d h, getD_setL m i (2 * j + 1) d h, if_neg (show ¬ 2 * j = i by omega), if_neg (show ¬ 2 * j + 1 = i by omega)]

/-- A proof leads to the root of the list in which the element is put in its place. -/
theorem climb_proof : ∀ f (m : List (List UInt8)) (i : Nat) (d : List UInt8), i < m.length → m.length ≤ f + 1 → climb f d i m.length (proofF f m i) = some (topF f (m.set i d))
  | 0, m, i, d, hi, hf => by
    have hi0 : i = 0 := by omega
    rw [climb, proofF, if_pos rfl, topF, getD_setL _ _ _ _ hi, if_pos hi0.symm]
  | f + 1, m, i, d, hi, hf => by
    by_cases h1 : m.length ≤ 1
    · have hi0 : i = 0 := by omega
      rw [climb_one _ _ _ _ _ h1, proof_one _ _ _ h1, if_pos rfl, top_one _ _ (by rw [List.length_set]; exact h1), getD_setL _ _ _ _ hi, if_pos hi0.symm]
    · have ih := fun d' => climb_proof f (nextL m) (i / 2) d' (by rw [nextL_length]; omega) (by rw [nextL_length]; omega)
      rw [nextL_length] at ih
      rw [climb, if_neg h1, proofF, if_neg h1, topF, List.length_set, if_neg h1, next_set m i d hi]
      by_cases hodd : i % 2 = 1
      · have hn : node (m.set i d) (i / 2) = joinL (m.getD (i - 1) []) d := by
          unfold node
          rw [List.length_set, if_pos (by omega), getD_setL _ _ _ _ hi, getD_setL _ _ _ _ hi, if_neg (by omega), if_pos (by omega), show 2 * (i / 2) = i - 1 by omega]
        rw [if_pos hodd, hn]
        unfold sib
        rw [if_pos hodd]
        rw [if_neg (by simp)]
        exact ih _
      · rw [if_neg hodd]
        by_cases hx : i + 1 < m.length
        · have hn : node (m.set i d) (i / 2) = joinL d (m.getD (i + 1) []) := by
            unfold node
            rw [List.length_set, if_pos (by omega), getD_setL _ _ _ _ hi, getD_setL _ _ _ _ hi, if_pos (by omega), if_neg (by omega), show 2 * (i / 2) + 1 = i + 1 by omega]
          rw [if_pos hx, hn]
          unfold sib
          rw [if_neg hodd, if_pos hx]
          rw [if_neg (by simp)]
          exact ih _
        · have hn : node (m.set i d) (i / 2) = d := by
            unfold node
            rw [List.length_set, if_neg (by omega), getD_setL _ _ _ _ hi, if_pos (by omega)]
          rw [if_neg hx, hn]
          unfold sib
          rw [if_neg hodd, if_neg hx, List.nil_append]
          exact ih _
theorem leaves_set (L : List (List UInt8)) (i : Nat) (x : List UInt8) : leaves (L.set i x) = (leaves L).set i (leafL x) := by
  unfold leaves
  rw [List.map_set]
theorem check_set (L : List (List UInt8)) (hn : L.length ≤ 4096) (i : Nat) (hi : i < L.length) (x : List UInt8) : climb 4096 (leafL x) i L.length (proofL L i) = some (rootL (L.set i x)) := by
  rw [climb_more 4096 L.length _ _ _ _ (by omega) (by omega)]
  have h := climb_proof L.length (leaves L) i (leafL x) (by rw [leaves_length]; exact hi) (by rw [leaves_length]; omega)
  rw [leaves_length] at h
  unfold proofL rootL
  rw [h, List.length_set, if_neg (by omega), leaves_set]
theorem set_self (L : List (List UInt8)) (i : Nat) (hi : i < L.length) : L.set i (L.getD i []) = L := by
  rw [List.getD_eq_getElem?_getD, List.getElem?_eq_getElem hi]
  exact List.set_getElem_self hi
/-- The element itself is accepted. -/
theorem check_own (L : List (List UInt8)) (hn : L.length ≤ 4096) (i : Nat) (hi : i < L.length) : checkB (rootL L) (L.getD i []) (i : Int) (L.length : Int) (proofL L i) = true := by
  unfold checkB
  rw [decide_eq_true (by omega), Bool.true_and, Int.toNat_natCast, Int.toNat_natCast, check_set L hn i hi, set_self L i hi]
  simp
/-- Another one exactly if the root stays. -/
theorem check_other (L : List (List UInt8)) (hn : L.length ≤ 4096) (i : Nat) (hi : i < L.length) (x : List UInt8) : checkB (rootL L) x (i : Int) (L.length : Int) (proofL L i) = decide (rootL (L.set i x) = rootL L) := by
  unfold checkB
  rw [decide_eq_true (by omega), Bool.true_and, Int.toNat_natCast, Int.toNat_natCast, check_set L hn i hi]
  rw [decide_eq_decide, Option.some.injEq]
/-- Two proofs for one place are equally long. -/
theorem climb_len : ∀ f d d' i n p p' r r', climb f d i n p = some r → climb f d' i n p' = some r' → p.length = p'.length
  | 0, d, d', i, n, p, p', r, r', h, h' => by
    rw [climb] at h h'
    by_cases e : p = []
    · by_cases e' : p' = []
      · rw [e, e']
      · rw [if_neg e'] at h'; cases h'
    · rw [if_neg e] at h; cases h
  | f + 1, d, d', i, n, p, p', r, r', h, h' => by
    rw [climb] at h h'
    by_cases h1 : n ≤ 1
    · rw [if_pos h1] at h h'
      by_cases e : p = []
      · by_cases e' : p' = []
        · rw [e, e']
        · rw [if_neg e'] at h'; cases h'
      · rw [if_neg e] at h; cases h
    rw [if_neg h1] at h h'
    have two : ∀ (g : List (List UInt8) → List UInt8) (g' : List (List UInt8) → List UInt8), (if p = [] then none else climb f (g p) (i / 2) ((n + 1) / 2) p.tail) = some r → (if p' = [] then none else climb f (g' p') (i / 2) ((n + 1) / 2) p'.tail) = some r' → p.length = p'.length := by
      intro g g' a a'
      by_cases e : p = []
      · rw [if_pos e] at a; cases a
      by_cases e' : p' = []
      · rw [if_pos e'] at a'; cases a'
      rw [if_neg e] at a
      rw [if_neg e'] at a'
      have := climb_len f _ _ _ _ _ _ _ _ a a'
      cases p with
      | nil => exact absurd rfl e
      | cons x t =>
        cases p' with
        | nil => exact absurd rfl e'
        | cons x' t' => simpa using this
    by_cases ho : i % 2 = 1
    · rw [if_pos ho] at h h'
      exact two (fun p => joinL (p.headD []) d) (fun p => joinL (p.headD []) d') h h'
    · rw [if_neg ho] at h h'
      by_cases hx : i + 1 < n
      · rw [if_pos hx] at h h'
        exact two (fun p => joinL d (p.headD [])) (fun p => joinL d' (p.headD [])) h h'
      · rw [if_neg hx] at h h'
        exact climb_len f _ _ _ _ _ _ _ _ h h'
/-- A proof of another length is not accepted. -/
theorem check_length (L : List (List UInt8)) (hn : L.length ≤ 4096) (i : Nat) (hi : i < L.length) (root x : List UInt8) (p : List (List UInt8)) (hp : p.length ≠ (proofL L i).length) : checkB root x (i : Int) (L.length : Int) p = false := by
  unfold checkB
  rw [Bool.and_eq_false_iff]
  refine .inr (decide_eq_false fun h => ?_)
  rw [Int.toNat_natCast, Int.toNat_natCast] at h
  exact hp (climb_len _ _ _ _ _ _ _ _ _ h (check_set L hn i hi []))
theorem check_place (root x : List UInt8) (i n : Int) (h : ¬ (0 ≤ i ∧ i < n)) (p : List (List UInt8)) : checkB root x i n p = false := by
  unfold checkB
  rw [decide_eq_false (fun k => h ⟨k.2.2.1, k.2.2.2⟩), Bool.false_and]
theorem proofI_in (L : List (List UInt8)) (i : Nat) (hi : i < L.length) : proofI L (i : Int) = (proofL L i, 0) := by
  unfold proofI
  rw [if_pos (by omega), Int.toNat_natCast]
/-- A proof's texts are as long as digests; it is not long. -/
theorem proof_texts : ∀ f m i, A16 m → i < m.length → A16 (proofF f m i) ∧ (proofF f m i).length ≤ f
  | 0, m, i, _, _ => ⟨(fun j hj => by cases hj), Nat.le_refl _⟩
  | f + 1, m, i, h, hi => by
    rw [proofF]
    by_cases h1 : m.length ≤ 1
    · rw [if_pos h1]
      exact ⟨(fun j hj => by cases hj), Nat.zero_le _⟩
    · rw [if_neg h1]
      obtain ⟨h2, h3⟩ := proof_texts f (nextL m) (i / 2) (next_16 m h) (by rw [nextL_length]; omega)
      have hs : (∃ x, sib m i = [x] ∧ x.length = 16) ∨ sib m i = [] := by
        unfold sib
        by_cases ho : i % 2 = 1
        · rw [if_pos ho]
          exact .inl ⟨_, rfl, h _ (by omega)⟩
        · rw [if_neg ho]
          by_cases hx : i + 1 < m.length
          · rw [if_pos hx]
            exact .inl ⟨_, rfl, h _ hx⟩
          · rw [if_neg hx]
            exact .inr rfl
      rcases hs with ⟨x, hx, hx16⟩ | hs
      · rw [hx]
        refine ⟨fun j hj => ?_, by simp; omega⟩
        cases j with
        | zero => simpa using hx16
        | succ j => exact h2 j (by simpa using hj)
      · rw [hs, List.nil_append]
        exact ⟨h2, by omega⟩
theorem proofL_texts (L : List (List UInt8)) (i : Nat) (hi : i < L.length) : A16 (proofL L i) ∧ (proofL L i).length ≤ L.length :=
  proof_texts _ _ _ (leaves_16 L) (by rw [leaves_length]; exact hi)
end Go.Proofs.YtdaoccmhehekaaaDoor
