/- Plain mathematics of the program's way to a key: the runs of characters that stay, with one blank between them. No program is named here. -/
import Derived.Test.YtjfeckccmfbkhaaDoorPlain02
import Derived.Lib.FieldsP
import Derived.Lib.Join
namespace Go.Proofs.YtjfeckccmfbkhaaDoor
open Go.Lib

def kstep (st : List (List Nat) × List Nat) (c : Nat) : List (List Nat) × List Nat := if keyc c then (st.1, st.2 ++ [c]) else flush st
def kst (cs : List Nat) : List (List Nat) × List Nat := cs.foldl kstep ([], [])
def kwords (cs : List Nat) : List (List Nat) := (flush (kst cs)).1
theorem kst_snoc (cs : List Nat) (c : Nat) : kst (cs ++ [c]) = kstep (kst cs) c := by simp [kst]
theorem kst_take (cs : List Nat) (j : Nat) (h : j < cs.length) : kst (cs.take (j + 1)) = kstep (kst (cs.take j)) cs[j] := by
  rw [List.take_succ_eq_append_getElem h, kst_snoc]
theorem kst_ne (cs : List Nat) : ∀ y ∈ (kst cs).1, y ≠ [] := by
  refine snoc_ind (p := fun cs => ∀ y ∈ (kst cs).1, y ≠ []) (by simp [kst]) ?_ cs
  intro l c ih y hy
  rw [kst_snoc] at hy
  unfold kstep at hy
  split at hy
  · exact ih y hy
  · unfold flush at hy
    split at hy
    · exact ih y hy
    · rename_i h1 h2
      simp only [List.mem_append, List.mem_singleton] at hy
      rcases hy with hy | rfl
      · exact ih y hy
      · exact h2
theorem joinL_ne (ws : List (List Nat)) : (∀ y ∈ ws, y ≠ []) → ws ≠ [] → joinL ws ≠ [] := by
  refine snoc_ind2 (p := fun ws => (∀ y ∈ ws, y ≠ []) → ws ≠ [] → joinL ws ≠ []) (fun _ h => absurd rfl h) ?_ ws
  intro l x _ h _
  rw [joinL_snoc]
  have hx := h x (by simp)
  split
  · exact hx
  · simp
theorem joinL_nil : joinL [] = [] := rfl
/-- The key's running is the joining of the runs. -/
theorem keyRun_kst (cs : List Nat) : (keyRun cs).1 = joinL (flush (kst cs)).1 ∧ ((kst cs).2 ≠ [] → (keyRun cs).2 = false) ∧ ((kst cs).2 = [] → (keyRun cs).1 = [] ∨ (keyRun cs).2 = true) := by
  refine snoc_ind (p := fun cs => (keyRun cs).1 = joinL (flush (kst cs)).1 ∧ ((kst cs).2 ≠ [] → (keyRun cs).2 = false) ∧ ((kst cs).2 = [] → (keyRun cs).1 = [] ∨ (keyRun cs).2 = true)) ?_ ?_ cs
  · exact ⟨rfl, fun _ => rfl, fun _ => .inl rfl⟩
  · intro l c ih
    have hne := kst_ne l
    rw [keyRun_snoc, kst_snoc]
    generalize keyRun l = r at ih
    generalize kst l = k at ih hne
    obtain ⟨out, gap⟩ := r
    obtain ⟨ws, cur⟩ := k
    obtain ⟨h1, h2, h3⟩ := ih
    simp only at h1 h2 h3 hne
    unfold keyStep kstep
    split
    · rename_i hk
      by_cases hc : cur = []
      · subst hc
        have e1 : flush (ws, ([] : List Nat)) = (ws, []) := by simp [flush]
        rw [e1] at h1
        have e2 : flush (ws, [] ++ [c]) = (ws ++ [[c]], []) := by simp [flush]
        simp only [List.nil_append] at e2 ⊢
        rw [e2]
        refine ⟨?_, by simp, by simp⟩
        simp only
        rw [joinL_snoc]
        simp only at h1
        by_cases hw : ws = []
        · subst hw
          rw [joinL_nil] at h1
          subst h1
          simp
        · have hj := joinL_ne ws hne hw
          rw [← h1] at hj
          have hg : gap = true := by
            rcases h3 rfl with h | h
            · exact absurd h hj
            · exact h
          rw [if_pos ⟨hg, hj⟩, if_neg hw, h1]
      · have hg := h2 hc
        have e1 : flush (ws, cur) = (ws ++ [cur], []) := by simp [flush, hc]
        have e2 : flush (ws, cur ++ [c]) = (ws ++ [cur ++ [c]], []) := by simp [flush]
        rw [e1] at h1
        rw [e2]
        refine ⟨?_, by simp, by simp⟩
        simp only
        rw [hg, if_neg (by simp), h1]
        simp only
        rw [joinL_snoc, joinL_snoc]
        split <;> simp
    · refine ⟨?_, fun h => absurd (flush_cur _) h, fun _ => .inr rfl⟩
      simp only
      rw [flush_flush]
      exact h1
theorem key_words (cs : List Nat) : (keyRun cs).1 = joinL (kwords cs) := (keyRun_kst cs).1

/-- The pieces between spans, as Go's library finds them, are the runs. -/
theorem spans_T (cs : List Nat) (h : OKs cs) (p : Nat → Bool) (hp : ∀ c ∈ cs, p c = !keyc c) :
    ∀ (m k f : Nat) (st : Option Nat) (acc : List (Nat × Nat)), m + k = cs.length → m ≤ f →
      (acc.map fun x => (T cs).extract x.1 x.2) = (kst (cs.take k)).1.map T →
      ((st = none ∧ (kst (cs.take k)).2 = []) ∨ ∃ i, i < k ∧ st = some (off cs i) ∧ (kst (cs.take k)).2 = (cs.take k).drop i) →
      ∃ acc' st', spansFromP p (T cs) f (off cs k) st acc = (acc', st') ∧ (acc'.map fun x => (T cs).extract x.1 x.2) = (kst cs).1.map T ∧
        ((st' = none ∧ (kst cs).2 = []) ∨ ∃ i, i < cs.length ∧ st' = some (off cs i) ∧ (kst cs).2 = cs.drop i)
  | 0, k, f, st, acc, hm, hf, ha, hs => by
    have hk : k = cs.length := by omega
    subst hk
    rw [List.take_length] at ha hs
    refine ⟨acc, st, spansFromP_end _ _ _ _ _ _ (by rw [T_off]; omega), ha, hs⟩
  | m + 1, k, f, st, acc, hm, hf, ha, hs => by
    obtain ⟨f, rfl⟩ : ∃ g, f = g + 1 := ⟨f - 1, by omega⟩
    have hk : k < cs.length := by omega
    have hlt := off_lt cs k hk
    unfold spansFromP
    rw [if_pos hlt, decode_T cs h k hk]
    have hw := off_succ cs k hk
    simp only
    rw [← hw]
    have hpc := hp cs[k] (List.getElem_mem hk)
    have hst := kst_take cs k hk
    rw [hpc]
    by_cases hkc : keyc cs[k] = true
    · have hst2 : kst (cs.take (k + 1)) = ((kst (cs.take k)).1, (kst (cs.take k)).2 ++ [cs[k]]) := by rw [hst]; simp [kstep, hkc]
      rw [hkc]
      simp only [Bool.not_true, Bool.false_eq_true, if_false]
      rcases hs with ⟨rfl, hc⟩ | ⟨i, hi, rfl, hc⟩
      · refine spans_T cs h p hp m (k + 1) f _ _ (by omega) (by omega) (by rw [hst2]; exact ha) (.inr ⟨k, by omega, rfl, ?_⟩)
        rw [hst2]
        simp only
        rw [hc, List.take_succ_eq_append_getElem hk, List.drop_append_of_le_length (by simp; omega)]
        simp
      · refine spans_T cs h p hp m (k + 1) f _ _ (by omega) (by omega) (by rw [hst2]; exact ha) (.inr ⟨i, by omega, rfl, ?_⟩)
        rw [hst2]
        simp only
        rw [hc, List.take_succ_eq_append_getElem hk, List.drop_append_of_le_length (by simp; omega)]
    · have hst2 : kst (cs.take (k + 1)) = flush (kst (cs.take k)) := by rw [hst]; simp [kstep, hkc]
      have hkf : keyc cs[k] = false := by simpa using hkc
      rw [hkf]
      simp only [Bool.not_false, if_true]
      rcases hs with ⟨rfl, hc⟩ | ⟨i, hi, rfl, hc⟩
      · have e : flush (kst (cs.take k)) = ((kst (cs.take k)).1, []) := by unfold flush; rw [if_pos hc]
        refine spans_T cs h p hp m (k + 1) f _ _ (by omega) (by omega) (by rw [hst2, e]; exact ha) (.inl ⟨rfl, by rw [hst2, e]⟩)
      · have hne : (kst (cs.take k)).2 ≠ [] := by
          rw [hc]
          intro h0
          have := congrArg List.length h0
          simp at this
          omega
        have e : flush (kst (cs.take k)) = ((kst (cs.take k)).1 ++ [(kst (cs.take k)).2], []) := by unfold flush; rw [if_neg hne]
        refine spans_T cs h p hp m (k + 1) f _ _ (by omega) (by omega) ?_ (.inl ⟨rfl, by rw [hst2, e]⟩)
        rw [hst2, e]
        simp only [List.map_append, List.map_cons, List.map_nil]
        rw [ha, extract_T, hc]
theorem extract_end (cs : List Nat) (i : Nat) : (T cs).extract (off cs i) (T cs).size = T (cs.drop i) := by
  rw [← T_off, extract_T, List.take_length]
theorem fields_T (cs : List Nat) (h : OKs cs) (p : Nat → Bool) (hp : ∀ c ∈ cs, p c = !keyc c) : goFieldsP p (T cs) = (kwords cs).map T := by
  obtain ⟨acc, st, e, h1, h2⟩ := spans_T cs h p hp cs.length 0 (T cs).size none [] (by omega) (len_le cs) (by simp [kst]) (.inl ⟨rfl, by simp [kst]⟩)
  rw [off_zero] at e
  unfold goFieldsP spansOfP
  rw [e]
  unfold kwords flush
  rcases h2 with ⟨rfl, hc⟩ | ⟨i, hi, rfl, hc⟩
  · rw [if_pos hc]
    exact h1
  · have hne : (kst cs).2 ≠ [] := by
      rw [hc]
      intro h0
      have := congrArg List.length h0
      simp at this
      omega
    rw [if_neg hne]
    unfold closeSpans
    simp only [List.map_append, List.map_cons, List.map_nil]
    rw [h1, extract_end, hc]
theorem enc_fold (r : List (List Nat)) : ∀ x : List Nat, enc (r.foldl (fun o x => o ++ [32] ++ x) x) = enc x ++ joinTail [32] (r.map enc) := by
  induction r with
  | nil => intro x; simp [joinTail]
  | cons y r ih =>
    intro x
    rw [List.foldl_cons, ih, enc_append, enc_append]
    have e : enc [32] = [32] := by decide
    rw [e]
    simp [joinTail]
theorem join_T (ws : List (List Nat)) : join (ws.map enc) [32] = enc (joinL ws) := by
  cases ws with
  | nil => rfl
  | cons x r =>
    rw [List.map_cons, join_cons]
    unfold joinL
    simp only [List.tail_cons, List.headD_cons]
    rw [enc_fold]
theorem kwords_len (cs : List Nat) : (kwords cs).length ≤ cs.length := by
  have key : ∀ cs : List Nat, (kst cs).1.length + (if (kst cs).2 = [] then 0 else 1) ≤ cs.length := by
    intro cs
    refine snoc_ind (p := fun cs => (kst cs).1.length + (if (kst cs).2 = [] then 0 else 1) ≤ cs.length) (by simp [kst]) ?_ cs
    intro l c ih
    rw [kst_snoc]
    unfold kstep
    split
    · simp only [List.length_append, List.length_singleton]
      split at ih <;> split <;> omega
    · unfold flush
      split
      · rename_i h1 h2
        rw [if_pos h2] at ih
        simp only [List.length_append, List.length_singleton, if_true]
        omega
      · rename_i h1 h2
        rw [if_neg h2] at ih
        simp only [List.length_append, List.length_singleton, if_true]
        omega
  have := key cs
  unfold kwords flush
  split
  · rename_i h; rw [if_pos h] at this; simp only; omega
  · rename_i h; rw [if_neg h] at this; simp only [List.length_append, List.length_singleton]; omega
end Go.Proofs.YtjfeckccmfbkhaaDoor
