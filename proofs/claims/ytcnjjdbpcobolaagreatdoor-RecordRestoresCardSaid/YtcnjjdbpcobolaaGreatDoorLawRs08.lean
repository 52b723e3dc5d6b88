/- What Restores needs: plain facts on Insert and Remove, and a record's box that is filled while a slice of fields lies elsewhere. -/
import Derived.Test.YtcnjjdbpcobolaaGreatDoorQ31
import Derived.Test.YtcnjjdbpcobolaaGreatDoorQ34
namespace Go.Proofs.YtcnjjdbpcobolaaGreatDoor
open Go.RowKit Go.PlainAid

theorem mem_insL (L : List Fld) (i : Nat) (f g : Fld) (h : g ∈ insL L i f) : g = f ∨ g ∈ L := by
  unfold insL at h
  rcases List.mem_append.1 h with h | h
  · exact .inr (List.mem_of_mem_take h)
  · rcases List.mem_cons.1 h with h | h
    · exact .inl h
    · exact .inr (List.mem_of_mem_drop h)
theorem mem_remL (L : List Fld) (i : Nat) (g : Fld) (h : g ∈ remL L i) : g ∈ L := by
  unfold remL at h
  rcases List.mem_append.1 h with h | h
  · exact List.mem_of_mem_take h
  · exact List.mem_of_mem_drop h
theorem right_with (r : Rec) (N : List Fld) (h : rightRI r = 0) (hl : N.length ≤ 64) (hN : ∀ f ∈ N, rightI f = 0) : rightRI { r with fields := N } = 0 := by
  unfold rightRI at h ⊢
  dsimp only at h ⊢
  split at h
  · cases h
  split at h
  · cases h
  split at h
  · cases h
  split at h
  · cases h
  split at h
  · cases h
  rw [if_neg ‹_›, if_neg ‹_›, if_neg ‹_›, if_neg ‹_›, if_neg (by omega)]
  exact (firstFE_zero N).2 hN
theorem right_len (r : Rec) (h : rightRI r = 0) : r.fields.length ≤ 64 := by
  unfold rightRI at h
  split at h
  · cases h
  split at h
  · cases h
  split at h
  · cases h
  split at h
  · cases h
  split at h
  · cases h
  omega
theorem right_lang (r : Rec) (h : rightRI r = 0) : r.lang.length ≤ maxLen := by
  have hl : langB r.lang = true := by
    unfold rightRI at h
    split at h
    · cases h
    split at h
    · cases h
    split at h
    · cases h
    split at h
    · cases h
    rename_i hq
    cases h : langB r.lang
    · exact absurd h hq
    · rfl
  unfold langB at hl
  simp only [Bool.and_eq_true, decide_eq_true_eq] at hl
  rw [hl.1.1.1]
  decide
theorem ins_ok (r : Rec) (i : Int) (f : Fld) (q : Rec) (h : insR r i f = (q, 0)) (hr : rightRI r = 0) :
    ∃ k : Nat, i = (k : Int) ∧ k ≤ r.fields.length ∧ q = { r with fields := insL r.fields k f } ∧ rightRI q = 0 ∧ remR q i = (r, 0) := by
  unfold insR at h
  split at h
  · exact absurd (congrArg Prod.snd h) (show ¬ ((2 : Int) = 0) by decide)
  rename_i h1
  split at h
  · rename_i h2; exact absurd (congrArg Prod.snd h) h2
  rename_i h2
  split at h
  · exact absurd (congrArg Prod.snd h) (show ¬ ((13 : Int) = 0) by decide)
  rename_i h3
  obtain ⟨k, rfl⟩ : ∃ k : Nat, i = (k : Int) := ⟨i.toNat, by omega⟩
  have hk : k ≤ r.fields.length := by omega
  have hq : { r with fields := insL r.fields k f } = q := congrArg Prod.fst h
  have hl := insL_len r.fields k f hk
  refine ⟨k, rfl, hk, hq.symm, ?_, ?_⟩
  · rw [← hq]
    exact right_with r _ hr (by omega) fun g hg => by
      rcases mem_insL _ _ _ _ hg with rfl | hg
      · exact Classical.not_not.1 h2
      · exact right_all r hr g hg
  · rw [← hq]
    unfold remR
    dsimp only
    rw [if_neg (by omega)]
    show ({ r with fields := remL (insL r.fields k f) k }, (0 : Int)) = _
    rw [rem_ins _ _ _ hk]
theorem rem_ok (r : Rec) (k : Nat) (hk : k < r.fields.length) (hr : rightRI r = 0) :
    ∃ q, remR r (k : Int) = (q, 0) ∧ rightRI q = 0 ∧ q.fields.length + 1 = r.fields.length ∧ (∀ g ∈ q.fields, g ∈ r.fields) ∧ q.lang = r.lang ∧ insR q (k : Int) (r.fields.getD k fd0) = (r, 0) := by
  have hl := remL_len r.fields k hk
  have h64 := right_len r hr
  refine ⟨{ r with fields := remL r.fields k }, ?_, ?_, hl, fun g hg => mem_remL _ _ _ hg, rfl, ?_⟩
  · unfold remR
    rw [if_neg (by omega)]
    rfl
  · exact right_with r _ hr (by omega) fun g hg => right_all r hr g (mem_remL _ _ _ hg)
  · unfold insR
    dsimp only
    rw [if_neg (by omega), if_neg (by
      rw [Classical.not_not]
      exact right_all r hr _ (by rw [List.getD_eq_getElem?_getD, List.getElem?_eq_getElem hk]; exact List.getElem_mem hk)), if_neg (by omega)]
    show ({ r with fields := insL (remL r.fields k) k (r.fields.getD k fd0) }, (0 : Int)) = _
    rw [ins_rem _ _ hk]

/-- What is no record's box that is still empty. -/
theorem two_ne {W : World} {n g o : Nat} {s t : ByteArray} (hN : W.heap[n]? = some (.cells #[.int .i64 0, .int .i64 0, .int .i64 0, .string ⟨#[]⟩, .slice none 0 0] 24 (0, 0))) (h1 : W.cell? ⟨g, o, none⟩ = some (.string s)) (h2 : W.cell? ⟨g, o + 1, none⟩ = some (.string t)) : g ≠ n := by
  rintro rfl
  rw [Lib.cell_of_heap hN] at h1 h2
  match o, h1, h2 with
  | 0, h1, _ => simp at h1
  | 1, h1, _ => simp at h1
  | 2, h1, _ => simp at h1
  | 3, _, h2 => simp at h2
  | 4, h1, _ => simp at h1
  | o + 5, h1, _ => simp at h1
theorem code_ne {W : World} {n g o : Nat} {x : Int} (hN : W.heap[n]? = some (.cells #[.int .i64 0, .int .i64 0, .int .i64 0, .string ⟨#[]⟩, .slice none 0 0] 24 (0, 0))) (h1 : W.cell? ⟨g, o, none⟩ = some (.int .u8 x)) : g ≠ n := by
  rintro rfl
  rw [Lib.cell_of_heap hN] at h1
  match o, h1 with
  | 0, h1 => simp at h1
  | 1, h1 => simp at h1
  | 2, h1 => simp at h1
  | 3, h1 => simp at h1
  | 4, h1 => simp at h1
  | o + 5, h1 => simp at h1
theorem QL.set5 {v : Value} {L : List Sub} {W : World} {n : Nat} (h : QL v L W) (hN : W.heap[n]? = some (.cells #[.int .i64 0, .int .i64 0, .int .i64 0, .string ⟨#[]⟩, .slice none 0 0] 24 (0, 0))) (x0 x1 x2 x3 x4 : Value) :
    QL v L (((((W.setCell ⟨n, 0, none⟩ x0).setCell ⟨n, 1, none⟩ x1).setCell ⟨n, 2, none⟩ x2).setCell ⟨n, 3, none⟩ x3).setCell ⟨n, 4, none⟩ x4) := by
  obtain ⟨a, cap, rfl, hc, hm, hn, hx⟩ := h
  refine ⟨a, cap, rfl, hc, hm, hn, fun i hi => ?_⟩
  obtain ⟨g, o, rfl, hg, h1, h2⟩ := hx i hi
  have hne := code_ne hN h1
  exact ⟨g, o, rfl, by simpa using hg, set5_ne _ _ _ _ _ hne h1, set5_ne _ _ _ _ _ hne h2⟩
theorem FL.set5 {v : Value} {L : List Fld} {W : World} {n : Nat} (h : FL v L W) (hN : W.heap[n]? = some (.cells #[.int .i64 0, .int .i64 0, .int .i64 0, .string ⟨#[]⟩, .slice none 0 0] 24 (0, 0))) (x0 x1 x2 x3 x4 : Value) :
    FL v L (((((W.setCell ⟨n, 0, none⟩ x0).setCell ⟨n, 1, none⟩ x1).setCell ⟨n, 2, none⟩ x2).setCell ⟨n, 3, none⟩ x3).setCell ⟨n, 4, none⟩ x4) := by
  obtain ⟨a, cap, rfl, hc, hm, hn, hx⟩ := h
  refine ⟨a, cap, rfl, hc, hm, hn, fun i hi => ?_⟩
  obtain ⟨g, o, u, rfl, hg, h0, h1, h2, h3, hq⟩ := hx i hi
  have hne := two_ne hN h0 h1
  exact ⟨g, o, u, rfl, by simpa using hg, set5_ne _ _ _ _ _ hne h0, set5_ne _ _ _ _ _ hne h1, set5_ne _ _ _ _ _ hne h2, set5_ne _ _ _ _ _ hne h3, hq.set5 hN x0 x1 x2 x3 x4⟩
end Go.Proofs.YtcnjjdbpcobolaaGreatDoor
