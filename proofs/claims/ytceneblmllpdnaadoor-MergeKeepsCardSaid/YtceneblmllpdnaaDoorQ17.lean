/- Merged: PlainB, Tabs, TValid. -/
import Derived.Test.YtceneblmllpdnaaDoorQ04
import Derived.Test.YtceneblmllpdnaaDoorShelf
import Derived.Test.YtceneblmllpdnaaDoorQ16
namespace Go.Proofs.YtceneblmllpdnaaDoor

section
open Go.Lib
/-! ### cleaning -/
def cleanStep (st : List Nat × Bool) (c : Nat) : List Nat × Bool :=
  if blankc c then (st.1, true) else ((if st.2 = true ∧ st.1 ≠ [] then st.1 ++ [32] else st.1) ++ [c], false)
def cleanRun (cs : List Nat) : List Nat × Bool := cs.foldl cleanStep ([], false)
def cleanL (cs : List Nat) : List Nat := (cleanRun cs).1

theorem cleanRun_snoc (cs : List Nat) (c : Nat) : cleanRun (cs ++ [c]) = cleanStep (cleanRun cs) c := by simp [cleanRun]
theorem cleanRun_take (cs : List Nat) (j : Nat) (h : j < cs.length) : cleanRun (cs.take (j + 1)) = cleanStep (cleanRun (cs.take j)) cs[j] := by
  rw [List.take_succ_eq_append_getElem h, cleanRun_snoc]
theorem snoc_ind {p : List Nat → Prop} (h0 : p []) (hs : ∀ l c, p l → p (l ++ [c])) : ∀ l, p l := by
  intro l
  have : ∀ n (l : List Nat), l.length = n → p l := by
    intro n
    induction n with
    | zero => intro l h; rw [List.eq_nil_of_length_eq_zero h]; exact h0
    | succ n ih =>
      intro l h
      have hne : l ≠ [] := by intro e; rw [e] at h; cases h
      rw [← List.dropLast_concat_getLast hne]
      exact hs _ _ (ih _ (by simp [h]))
  exact this _ l rfl
theorem cleanStep_same (out : List Nat) (c : Nat) (g : Bool) (hg : cleanRun out = (out, false)) :
    cleanRun (cleanStep (out, g) c).1 = ((cleanStep (out, g) c).1, false) := by
  unfold cleanStep
  by_cases hb : blankc c = true
  · simp only [hb, if_true]; exact hg
  · have hb' : blankc c = false := by simpa using hb
    simp only [hb', Bool.false_eq_true, if_false]
    by_cases hc : g = true ∧ out ≠ []
    · rw [if_pos hc, cleanRun_snoc, cleanRun_snoc, hg]
      have b32 : blankc 32 = true := rfl
      simp [cleanStep, b32, hb', hc.2]
    · rw [if_neg hc, cleanRun_snoc, hg]
      simp [cleanStep, hb']
theorem cleanRun_out (cs : List Nat) : cleanRun (cleanRun cs).1 = ((cleanRun cs).1, false) := by
  refine snoc_ind (p := fun cs => cleanRun (cleanRun cs).1 = ((cleanRun cs).1, false)) ?_ ?_ cs
  · rfl
  · intro l c ih
    rw [cleanRun_snoc]
    exact cleanStep_same _ c (cleanRun l).2 ih
theorem clean_twice (cs : List Nat) : cleanL (cleanL cs) = cleanL cs := by
  unfold cleanL
  rw [cleanRun_out]
theorem clean_nil (cs : List Nat) : cleanL cs = [] ↔ cs.all blankc = true := by
  unfold cleanL
  refine snoc_ind (p := fun cs => (cleanRun cs).1 = [] ↔ cs.all blankc = true) ?_ ?_ cs
  · simp [cleanRun]
  · intro l c ih
    rw [cleanRun_snoc]
    unfold cleanStep
    by_cases hb : blankc c = true
    · simp only [hb, if_true, List.all_append, List.all_cons, List.all_nil, Bool.and_true]
      exact ih
    · have hb' : blankc c = false := by simpa using hb
      simp [hb']
theorem okc_32 : okc 32 := by decide
theorem clean_OK (cs : List Nat) (h : OKs cs) : OKs (cleanL cs) := by
  unfold cleanL
  refine snoc_ind (p := fun cs => OKs cs → OKs (cleanRun cs).1) ?_ ?_ cs h
  · intro _; exact OKs_nil
  · intro l c ih hl
    obtain ⟨h1, h2⟩ := OKs_append.1 hl
    rw [cleanRun_snoc]
    unfold cleanStep
    by_cases hb : blankc c = true
    · simp only [hb, if_true]; exact ih h1
    · have hb' : blankc c = false := by simpa using hb
      simp only [hb', Bool.false_eq_true, if_false]
      refine OKs_append.2 ⟨?_, h2⟩
      split
      · exact OKs_append.2 ⟨ih h1, by intro x hx; simp at hx; subst hx; exact okc_32⟩
      · exact ih h1
theorem cleanRun_len (cs : List Nat) : (cleanRun cs).1.length ≤ 2 * cs.length := by
  refine snoc_ind (p := fun cs => (cleanRun cs).1.length ≤ 2 * cs.length) ?_ ?_ cs
  · simp [cleanRun]
  · intro l c ih
    rw [cleanRun_snoc]
    unfold cleanStep
    split
    · simp only [List.length_append, List.length_singleton]; omega
    · simp only
      split <;> simp <;> omega

/-! ### folding -/
/-- What folding makes of the characters from 192 to 255. -/
def accL : List (List Nat) := [
  [97], [97], [97], [97], [97], [97], [97, 101], [99], [101], [101], [101], [101], [105], [105], [105], [105],
  [100], [110], [111], [111], [111], [111], [111], [215], [111], [117], [117], [117], [117], [121], [116, 104], [115, 115],
  [97], [97], [97], [97], [97], [97], [97, 101], [99], [101], [101], [101], [101], [105], [105], [105], [105],
  [100], [110], [111], [111], [111], [111], [111], [247], [111], [117], [117], [117], [117], [121], [116, 104], [121]]
def foldc (c : Nat) : List Nat := if 65 ≤ c ∧ c ≤ 90 then [c + 32] else if 192 ≤ c ∧ c ≤ 255 then accL.getD (c - 192) [] else [c]
def foldL (cs : List Nat) : List Nat := cs.flatMap foldc

theorem foldL_append (a b : List Nat) : foldL (a ++ b) = foldL a ++ foldL b := by simp [foldL]
theorem foldL_one (c : Nat) : foldL [c] = foldc c := by simp [foldL]
theorem foldL_cons (c : Nat) (b : List Nat) : foldL (c :: b) = foldc c ++ foldL b := by simp [foldL]
theorem foldL_take (cs : List Nat) (j : Nat) (h : j < cs.length) : foldL (cs.take (j + 1)) = foldL (cs.take j) ++ foldc cs[j] := by
  rw [List.take_succ_eq_append_getElem h, foldL_append, foldL_one]
theorem fold_table : ∀ i : Fin 256, (∀ x ∈ foldc i.val, foldc x = [x]) ∧ (foldc i.val).length ≤ 2 ∧ 1 ≤ (foldc i.val).length ∧ (okc i.val → ∀ x ∈ foldc i.val, okc x) := by decide +kernel
theorem foldc_fix (c : Nat) : ∀ x ∈ foldc c, foldc x = [x] := by
  by_cases h : c < 256
  · exact (fold_table ⟨c, h⟩).1
  · have e : foldc c = [c] := by unfold foldc; rw [if_neg (by omega), if_neg (by omega)]
    intro x hx
    rw [e] at hx
    simp at hx
    subst hx
    exact e
theorem foldc_len (c : Nat) : (foldc c).length ≤ 2 := by
  by_cases h : c < 256
  · exact (fold_table ⟨c, h⟩).2.1
  · have e : foldc c = [c] := by unfold foldc; rw [if_neg (by omega), if_neg (by omega)]
    rw [e]; simp
theorem foldc_OK (c : Nat) (hc : okc c) : OKs (foldc c) := by
  by_cases h : c < 256
  · exact (fold_table ⟨c, h⟩).2.2.2 hc
  · have e : foldc c = [c] := by unfold foldc; rw [if_neg (by omega), if_neg (by omega)]
    rw [e]
    intro x hx
    simp at hx
    subst hx
    exact hc
theorem fold_fix (cs : List Nat) : ∀ x ∈ foldL cs, foldc x = [x] := by
  intro x hx
  unfold foldL at hx
  obtain ⟨c, _, h⟩ := List.mem_flatMap.1 hx
  exact foldc_fix c x h
theorem fold_of_fix : ∀ (l : List Nat), (∀ x ∈ l, foldc x = [x]) → foldL l = l
  | [], _ => rfl
  | c :: l, h => by
    rw [foldL_cons, h c (by simp), fold_of_fix l (fun x hx => h x (by simp [hx]))]
    rfl
theorem fold_twice (cs : List Nat) : foldL (foldL cs) = foldL cs := fold_of_fix _ (fold_fix cs)
theorem fold_OK (cs : List Nat) (h : OKs cs) : OKs (foldL cs) := by
  intro x hx
  unfold foldL at hx
  obtain ⟨c, hc, hx'⟩ := List.mem_flatMap.1 hx
  exact foldc_OK c (h c hc) x hx'
theorem fold_len (cs : List Nat) : (foldL cs).length ≤ 2 * cs.length := by
  induction cs with
  | nil => simp [foldL]
  | cons c cs ih =>
    have := foldc_len c
    rw [foldL_cons, List.length_append, List.length_cons]
    omega

/-! ### words -/
def flush (st : List (List Nat) × List Nat) : List (List Nat) × List Nat := if st.2 = [] then (st.1, []) else (st.1 ++ [st.2], [])
def wstep (st : List (List Nat) × List Nat) (c : Nat) : List (List Nat) × List Nat := if letterc c then (st.1, st.2 ++ [c]) else flush st
def wrun (st : List (List Nat) × List Nat) (cs : List Nat) : List (List Nat) × List Nat := cs.foldl wstep st
def wst (cs : List Nat) : List (List Nat) × List Nat := wrun ([], []) cs
/-- The words of a folded text. -/
def wordsL (cs : List Nat) : List (List Nat) := (flush (wst cs)).1
/-- The words of a text. -/
def W (cs : List Nat) : List (List Nat) := wordsL (foldL cs)

theorem wrun_append (st : List (List Nat) × List Nat) (a b : List Nat) : wrun st (a ++ b) = wrun (wrun st a) b := by simp [wrun]
theorem wrun_one (st : List (List Nat) × List Nat) (c : Nat) : wrun st [c] = wstep st c := rfl
theorem wst_take (cs : List Nat) (j : Nat) (h : j < cs.length) : wst (cs.take (j + 1)) = wstep (wst (cs.take j)) cs[j] := by
  rw [List.take_succ_eq_append_getElem h]
  unfold wst
  rw [wrun_append, wrun_one]
theorem flush_flush (st : List (List Nat) × List Nat) : flush (flush st) = flush st := by
  unfold flush
  by_cases h : st.2 = []
  · simp [h]
  · simp [h]
theorem flush_cur (st : List (List Nat) × List Nat) : (flush st).2 = [] := by
  unfold flush
  split <;> rfl
theorem W_fold (cs : List Nat) : W (foldL cs) = W cs := by unfold W; rw [fold_twice]
theorem blank_fold (c : Nat) (h : blankc c = true) : foldc c = [c] ∧ letterc c = false := by
  unfold blankc at h
  simp at h
  rcases h with rfl | rfl <;> exact ⟨rfl, rfl⟩
theorem W_clean_run (cs : List Nat) : ((cleanRun cs).2 = false → wst (foldL cs) = wst (foldL (cleanRun cs).1)) ∧ ((cleanRun cs).2 = true → wst (foldL cs) = flush (wst (foldL (cleanRun cs).1))) := by
  refine snoc_ind (p := fun cs => ((cleanRun cs).2 = false → wst (foldL cs) = wst (foldL (cleanRun cs).1)) ∧ ((cleanRun cs).2 = true → wst (foldL cs) = flush (wst (foldL (cleanRun cs).1)))) ?_ ?_ cs
  · exact ⟨fun _ => rfl, fun h => by cases h⟩
  · rintro l c ⟨i1, i2⟩
    have hrun : wst (foldL (l ++ [c])) = wrun (wst (foldL l)) (foldc c) := by
      rw [foldL_append, foldL_one]; unfold wst; rw [wrun_append]
    rw [cleanRun_snoc, hrun]
    unfold cleanStep
    by_cases hb : blankc c = true
    · obtain ⟨hf, hl⟩ := blank_fold c hb
      simp only [hb, if_true]
      refine ⟨(fun h => by cases h), fun _ => ?_⟩
      rw [hf, wrun_one]
      unfold wstep
      rw [hl]
      simp only [Bool.false_eq_true, if_false]
      cases hg : (cleanRun l).2
      · rw [i1 hg]
      · rw [i2 hg, flush_flush]
    · have hb' : blankc c = false := by simpa using hb
      simp only [hb', Bool.false_eq_true, if_false]
      refine ⟨fun _ => ?_, fun h => by cases h⟩
      by_cases hc : (cleanRun l).2 = true ∧ (cleanRun l).1 ≠ []
      · rw [if_pos hc, foldL_append, foldL_append, foldL_one, foldL_one, i2 hc.1]
        unfold wst
        rw [wrun_append, wrun_append]
        rfl
      · rw [if_neg hc, foldL_append, foldL_one]
        unfold wst
        rw [wrun_append]
        congr 1
        show wst (foldL l) = wst (foldL (cleanRun l).1)
        cases hg : (cleanRun l).2
        · exact i1 hg
        · have he : (cleanRun l).1 = [] := by
            by_cases h : (cleanRun l).1 = []
            · exact h
            · exact absurd ⟨hg, h⟩ hc
          rw [i2 hg, he]
          rfl
theorem W_clean (cs : List Nat) : W (cleanL cs) = W cs := by
  have := W_clean_run cs
  unfold W wordsL cleanL
  cases hg : (cleanRun cs).2
  · rw [this.1 hg]
  · rw [this.2 hg, flush_flush]

/-! ### words joined by blanks -/
def joinL (ws : List (List Nat)) : List Nat := ws.tail.foldl (fun o x => o ++ [32] ++ x) (ws.headD [])
theorem joinL_snoc (ws : List (List Nat)) (x : List Nat) : joinL (ws ++ [x]) = if ws = [] then x else joinL ws ++ [32] ++ x := by
  cases ws with
  | nil => rfl
  | cons y ys => simp [joinL]
/-- A word: letters, at least one, that folding leaves. -/
def Good (x : List Nat) : Prop := x ≠ [] ∧ (∀ c ∈ x, letterc c = true ∧ foldc c = [c])
theorem wrun_good (ws : List (List Nat)) : ∀ (x cur : List Nat), (∀ c ∈ x, letterc c = true) → wrun (ws, cur) x = (ws, cur ++ x)
  | [], cur, _ => by simp [wrun]
  | c :: x, cur, h => by
    have h1 := h c (by simp)
    show wrun (wstep (ws, cur) c) x = _
    unfold wstep
    rw [h1]
    simp only [if_true]
    rw [wrun_good ws x (cur ++ [c]) (fun d hd => h d (by simp [hd]))]
    simp
theorem snoc_ind2 {p : List (List Nat) → Prop} (h0 : p []) (hs : ∀ l c, p l → p (l ++ [c])) : ∀ l, p l := by
  intro l
  have : ∀ n (l : List (List Nat)), l.length = n → p l := by
    intro n
    induction n with
    | zero => intro l h; rw [List.eq_nil_of_length_eq_zero h]; exact h0
    | succ n ih =>
      intro l h
      have hne : l ≠ [] := by intro e; rw [e] at h; cases h
      rw [← List.dropLast_concat_getLast hne]
      exact hs _ _ (ih _ (by simp [h]))
  exact this _ l rfl
theorem join_fix (ws : List (List Nat)) : (∀ x ∈ ws, Good x) → ∀ c ∈ joinL ws, foldc c = [c] := by
  refine snoc_ind2 (p := fun ws => (∀ x ∈ ws, Good x) → ∀ c ∈ joinL ws, foldc c = [c]) ?_ ?_ ws
  · intro _ c hc; cases hc
  · intro l x ih h c hc
    have hx := h x (by simp)
    rw [joinL_snoc] at hc
    split at hc
    · exact (hx.2 c hc).2
    · simp only [List.mem_append, List.mem_singleton] at hc
      rcases hc with (hc | hc) | hc
      · exact ih (fun y hy => h y (by simp [hy])) c hc
      · subst hc; rfl
      · exact (hx.2 c hc).2
theorem wst_join (ws : List (List Nat)) : ∀ x, (∀ y ∈ ws, Good y) → Good x → wst (joinL (ws ++ [x])) = (ws, x) := by
  refine snoc_ind2 (p := fun ws => ∀ x, (∀ y ∈ ws, Good y) → Good x → wst (joinL (ws ++ [x])) = (ws, x)) ?_ ?_ ws
  · intro x _ hx
    rw [joinL_snoc, if_pos rfl]
    unfold wst
    rw [wrun_good [] x [] (fun c hc => (hx.2 c hc).1)]
    rfl
  · intro l y ih x h hx
    have hy := h y (by simp)
    rw [joinL_snoc, if_neg (by simp)]
    have := ih y (fun z hz => h z (by simp [hz])) hy
    unfold wst at this ⊢
    rw [wrun_append, wrun_append, this, wrun_one]
    have l32 : letterc 32 = false := rfl
    have : wstep (l, y) 32 = (l ++ [y], []) := by
      unfold wstep flush
      rw [l32]
      simp [hy.1]
    rw [this, wrun_good _ x [] (fun c hc => (hx.2 c hc).1)]
    rfl
theorem words_join (ws : List (List Nat)) (h : ∀ y ∈ ws, Good y) : W (joinL ws) = ws := by
  unfold W
  rw [fold_of_fix _ (join_fix ws h)]
  by_cases hne : ws = []
  · subst hne; rfl
  · have hs := List.dropLast_concat_getLast hne
    have := wst_join ws.dropLast (ws.getLast hne) (fun y hy => h y (by rw [← hs]; exact List.mem_append_left _ hy)) (h _ (List.getLast_mem hne))
    rw [hs] at this
    unfold wordsL
    rw [this]
    unfold flush
    simp only
    rw [if_neg (h _ (List.getLast_mem hne)).1]
    exact hs
theorem words_good (fs : List Nat) : (∀ x ∈ fs, foldc x = [x]) → (∀ y ∈ (wst fs).1, Good y) ∧ (∀ c ∈ (wst fs).2, letterc c = true ∧ foldc c = [c]) := by
  refine snoc_ind (p := fun fs => (∀ x ∈ fs, foldc x = [x]) → (∀ y ∈ (wst fs).1, Good y) ∧ (∀ c ∈ (wst fs).2, letterc c = true ∧ foldc c = [c])) ?_ ?_ fs
  · intro _; exact ⟨(fun y hy => by cases hy), (fun c hc => by cases hc)⟩
  · intro l c ih h
    obtain ⟨i1, i2⟩ := ih (fun x hx => h x (by simp [hx]))
    have e : wst (l ++ [c]) = wstep (wst l) c := by unfold wst; rw [wrun_append, wrun_one]
    rw [e]
    unfold wstep
    by_cases hl : letterc c = true
    · rw [if_pos hl]
      refine ⟨i1, fun d hd => ?_⟩
      simp only [List.mem_append, List.mem_singleton] at hd
      rcases hd with hd | hd
      · exact i2 d hd
      · subst hd; exact ⟨hl, h d (by simp)⟩
    · rw [if_neg hl]
      unfold flush
      split
      · exact ⟨i1, fun d hd => by cases hd⟩
      · rename_i hne
        refine ⟨fun y hy => ?_, fun d hd => by cases hd⟩
        simp only [List.mem_append, List.mem_singleton] at hy
        rcases hy with hy | hy
        · exact i1 y hy
        · subst hy; exact ⟨hne, i2⟩
theorem W_good (cs : List Nat) : ∀ y ∈ W cs, Good y := by
  obtain ⟨h1, h2⟩ := words_good (foldL cs) (fold_fix cs)
  intro y hy
  unfold W wordsL flush at hy
  split at hy
  · exact h1 y hy
  · rename_i hne
    simp only [List.mem_append, List.mem_singleton] at hy
    rcases hy with hy | hy
    · exact h1 y hy
    · subst hy; exact ⟨hne, h2⟩
theorem W_join (cs : List Nat) : W (joinL (W cs)) = W cs := words_join _ (W_good cs)

theorem wst_OK (fs : List Nat) : OKs fs → (∀ y ∈ (wst fs).1, OKs y) ∧ OKs (wst fs).2 := by
  refine snoc_ind (p := fun fs => OKs fs → (∀ y ∈ (wst fs).1, OKs y) ∧ OKs (wst fs).2) ?_ ?_ fs
  · intro _; exact ⟨(fun y hy => by cases hy), OKs_nil⟩
  · intro l c ih h
    obtain ⟨h1, h2⟩ := OKs_append.1 h
    obtain ⟨i1, i2⟩ := ih h1
    have e : wst (l ++ [c]) = wstep (wst l) c := by unfold wst; rw [wrun_append, wrun_one]
    rw [e]
    unfold wstep
    split
    · exact ⟨i1, OKs_append.2 ⟨i2, h2⟩⟩
    · unfold flush
      split
      · exact ⟨i1, OKs_nil⟩
      · refine ⟨fun y hy => ?_, OKs_nil⟩
        simp only [List.mem_append, List.mem_singleton] at hy
        rcases hy with hy | hy
        · exact i1 y hy
        · subst hy; exact i2
theorem W_OK (cs : List Nat) (h : OKs cs) : ∀ y ∈ W cs, OKs y := by
  obtain ⟨h1, h2⟩ := wst_OK (foldL cs) (fold_OK cs h)
  intro y hy
  unfold W wordsL flush at hy
  split at hy
  · exact h1 y hy
  · simp only [List.mem_append, List.mem_singleton] at hy
    rcases hy with hy | hy
    · exact h1 y hy
    · subst hy; exact h2
theorem join_OK (ws : List (List Nat)) : (∀ x ∈ ws, OKs x) → OKs (joinL ws) := by
  refine snoc_ind2 (p := fun ws => (∀ x ∈ ws, OKs x) → OKs (joinL ws)) ?_ ?_ ws
  · intro _; exact OKs_nil
  · intro l x ih h
    rw [joinL_snoc]
    split
    · exact h x (by simp)
    · refine OKs_append.2 ⟨OKs_append.2 ⟨ih (fun y hy => h y (by simp [hy])), ?_⟩, h x (by simp)⟩
      intro c hc
      simp at hc
      subst hc
      exact okc_32

/-! ### lengths -/
def total (ws : List (List Nat)) : Nat := (ws.map fun x => x.length + 1).sum
theorem total_snoc (ws : List (List Nat)) (x : List Nat) : total (ws ++ [x]) = total ws + x.length + 1 := by simp [total]; omega
theorem len_total (ws : List (List Nat)) : ws.length ≤ total ws := by
  refine snoc_ind2 (p := fun ws => ws.length ≤ total ws) (by simp [total]) ?_ ws
  intro l x ih
  rw [total_snoc, List.length_append, List.length_singleton]
  omega
theorem join_total (ws : List (List Nat)) : (joinL ws).length ≤ total ws := by
  refine snoc_ind2 (p := fun ws => (joinL ws).length ≤ total ws) (by simp [joinL, total]) ?_ ws
  intro l x ih
  rw [total_snoc, joinL_snoc]
  split
  · omega
  · simp only [List.length_append, List.length_singleton]; omega
theorem wst_total (fs : List Nat) : total (wst fs).1 + (wst fs).2.length ≤ fs.length := by
  refine snoc_ind (p := fun fs => total (wst fs).1 + (wst fs).2.length ≤ fs.length) (by simp [wst, wrun, total]) ?_ fs
  intro l c ih
  have e : wst (l ++ [c]) = wstep (wst l) c := by unfold wst; rw [wrun_append, wrun_one]
  rw [e]
  unfold wstep
  split
  · simp only [List.length_append, List.length_singleton]; omega
  · unfold flush
    split
    · simp only [List.length_append, List.length_singleton, List.length_nil]; omega
    · simp only [total_snoc, List.length_append, List.length_singleton, List.length_nil]; omega
theorem W_total (cs : List Nat) : total (W cs) ≤ 2 * cs.length + 1 := by
  have h1 := wst_total (foldL cs)
  have h2 := fold_len cs
  unfold W wordsL flush
  split
  · simp only; omega
  · simp only [total_snoc]; omega
end

section
open Go.RowKit
/-- The two tables of unicode/utf8 lie in their blocks. -/
def Tabs (w : World) : Prop := (0 < w.heap.size ∧ 1 < w.heap.size) ∧ Lib.Utf8Tabs 0 1 w
theorem Tabs.after {w w' : World} (h : Tabs w) (hb : Below w.heap.size w w') : Tabs w' := by
  obtain ⟨⟨h0, h1⟩, h2, h3⟩ := h
  refine ⟨⟨Nat.lt_of_lt_of_le h0 hb.size, Nat.lt_of_lt_of_le h1 hb.size⟩, fun c hc => ?_, fun i hi => ?_⟩
  · rw [hb.cell (p := ⟨0, c, none⟩) h0]
    exact h2 c hc
  · rw [hb.cell (p := ⟨1, 2 * i, none⟩) h1, hb.cell (p := ⟨1, 2 * i + 1, none⟩) h1]
    exact h3 i hi
end

section
open Go.RowKit
theorem runes_at (s : ByteArray) (p : Nat) (hp : p < s.size) : runes (s.data.toList.drop p) = (Utf8.decode s p).1 :: runes (s.data.toList.drop (p + (Utf8.decode s p).2)) := by
  have hne : s.data.toList.drop p ≠ [] := by
    intro h0
    have := congrArg List.length h0
    rw [List.length_drop, ← Lib.size_eq] at this
    simp at this
    omega
  rw [runes_step _ hne, Lib.decodeL_drop, List.drop_drop]

theorem decode_big (s : ByteArray) (p : Nat) : (Utf8.decode s p).1 ≤ 1114111 := Lib.rune_le s p

set_option maxHeartbeats 2000000 in
theorem valid_any (s : ByteArray) (hz : s.size ≤ 9223372036854775807) (w : World) (hE : Tabs w) :
    Calls Tryd.prog 70 #[.string s] w fun e w' => e = .returned (.bool (validT s.data.toList)) ∧ Below w.heap.size w w' := by
  have cV := Tryd.utf8_ValidString s w hz hE.2
  obtain ⟨V, hV⟩ : ∃ V, Lib.validD s.data.toList = V := ⟨_, rfl⟩
  rw [hV] at cV
  have HV := Lib.hid hV
  clear hV
  cases V
  · go_enter Tryd.func70, Tryd.ntmps70
    go_wp2_with (go_at_call 77; refine cV.mono ?_; rintro e w1 ⟨rfl, hb⟩)
    go_ret
    refine ⟨?_, hb⟩
    have : validT s.data.toList = false := by unfold validT; rw [HV.out]; rfl
    rw [this]
    rfl
  · have eV : validT s.data.toList = (runes s.data.toList).all allow := by unfold validT; rw [HV.out]; rfl
    rw [eV]
    clear eV
    go_enter Tryd.func70, Tryd.ntmps70
    go_wp2_with (go_at_call 77; refine cV.mono ?_; rintro e w1 ⟨rfl, hb⟩)
    clear cV
    have hB1 := hb.size
    go_loopw [] (fun wr => ∃ p : Nat, wr.heap[w1.heap.size]? = some (.stringIter s p) ∧ Below w.heap.size w wr ∧ (runes (s.data.toList.drop p)).all allow = (runes s.data.toList).all allow) (fun wr => s.size - wr.iterPos w1.heap.size)
    case atStart =>
      refine ⟨0, World.iter_heap w1 s 0, hb.alloc hB1 _, ?_⟩
      rw [List.drop_zero]
    case round =>
      obtain ⟨p, hit, hbw, hall⟩ := hrel
      have HA := Lib.hid hall
      clear hall
      by_cases hlt : p < s.size
      · have hnx : ∀ ty, (Instr.next (.pointer (some ⟨w1.heap.size, 0, none⟩)) true ty).run Tryd.prog wr = _ := fun ty => Lib.run_next_any_at wr w1.heap.size s p ty hit hlt
        have hit2 := Lib.iterAt_heap wr w1.heap.size s p (p + (Utf8.decode s p).2) hit
        have hbw2 := Lib.below_iterAt hbw (k := w1.heap.size) (by omega) s (p + (Utf8.decode s p).2)
        have HM := Lib.hid (And.intro (pos_T _ _ _ _ hit) (pos_T _ _ _ _ hit2))
        have hwd := Lib.width_pos s p
        have hbig := decode_big s p
        have HR := Lib.hid (runes_at s p hlt)
        cases hb2 : allow (Utf8.decode s p).1
        · have HB := Lib.hid hb2
          clear hb2
          go_wp2_with (go_at_call 78; refine (allowed_any _ (by omega) false HB.out _).mono ?_; rintro e w' ⟨rfl, rfl⟩)
          go_ret
          refine ⟨?_, hbw2⟩
          have := HA.out
          rw [HR.out, List.all_cons, HB.out, Bool.false_and] at this
          rw [← this]
          rfl
        · have HB := Lib.hid hb2
          clear hb2
          go_wp2_with (go_at_call 78; refine (allowed_any _ (by omega) true HB.out _).mono ?_; rintro e w' ⟨rfl, rfl⟩)
          go_roundw
          case rel =>
            refine ⟨p + (Utf8.decode s p).2, hit2, hbw2, ?_⟩
            have := HA.out
            rw [HR.out, List.all_cons, HB.out, Bool.true_and] at this
            exact this
          case measure => rw [HM.out.1, HM.out.2]; omega
      · have hnx : ∀ ty, (Instr.next (.pointer (some ⟨w1.heap.size, 0, none⟩)) true ty).run Tryd.prog wr = _ := fun ty => Lib.run_next_end_at wr w1.heap.size s p ty hit hlt
        go_wp2
        go_ret
        refine ⟨?_, hbw⟩
        have := HA.out
        rw [List.drop_eq_nil_of_le (by rw [← Lib.size_eq]; omega)] at this
        rw [← this]
        rfl

theorem valid_is (s : ByteArray) (b : Bool) (hb : validT s.data.toList = b) (hz : s.size ≤ 9223372036854775807) (w : World) (hE : Tabs w) :
    Calls Tryd.prog 70 #[.string s] w fun e w' => e = .returned (.bool b) ∧ Below w.heap.size w w' := by
  have := valid_any s hz w hE
  rwa [hb] at this
end

end Go.Proofs.YtceneblmllpdnaaDoor
