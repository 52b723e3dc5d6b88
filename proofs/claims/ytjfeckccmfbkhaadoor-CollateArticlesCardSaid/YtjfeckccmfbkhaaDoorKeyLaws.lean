/- Plain mathematics: separators do not change a key; in English a key is its own key; the order of texts. No program is named here. -/
import Derived.Test.YtjfeckccmfbkhaaDoorPlainK
import Derived.Test.YtjfeckccmfbkhaaDoorOrd
import Derived.Test.YtjfeckccmfbkhaaDoorR02Cmp
namespace Go.Proofs.YtjfeckccmfbkhaaDoor
open Go.Lib

def kF (lang : ByteArray) (cs : List Nat) : List Nat := foldL (repL lang cs)
theorem keyL_words (lang : ByteArray) (cs : List Nat) : keyL lang cs = joinL (kwords (kF lang cs)) := key_words _
theorem kF_append (lang : ByteArray) (a b : List Nat) : kF lang (a ++ b) = kF lang a ++ kF lang b := by unfold kF; rw [repL_append, foldL_append]
theorem rep_sep (lang : ByteArray) (c : Nat) (h : c = 32 ∨ c = 33 ∨ c = 34 ∨ c = 40 ∨ c = 41) : rep lang c = [c] := by
  unfold rep repGer repSwe repSpa
  rw [if_neg (by omega)]
  repeat' split
  all_goals first | rfl | omega
theorem kF_seps (lang : ByteArray) (p : List Nat) (h : ∀ c ∈ p, c = 32 ∨ c = 33 ∨ c = 34 ∨ c = 40 ∨ c = 41) : kF lang p = p := by
  have h1 : repL lang p = p := by
    induction p with
    | nil => rfl
    | cons c p ih =>
      have e : repL lang (c :: p) = rep lang c ++ repL lang p := by simp [repL]
      rw [e, rep_sep lang c (h c (by simp)), ih (fun d hd => h d (by simp [hd]))]
      rfl
  unfold kF
  rw [h1]
  refine fold_of_fix p fun c hc => ?_
  rcases h c hc with rfl | rfl | rfl | rfl | rfl <;> rfl
theorem seps_nokey (p : List Nat) (h : ∀ c ∈ p, c = 32 ∨ c = 33 ∨ c = 34 ∨ c = 40 ∨ c = 41) : ∀ c ∈ p, keyc c = false := by
  intro c hc
  rcases h c hc with rfl | rfl | rfl | rfl | rfl <;> rfl
theorem kst_append (a b : List Nat) : kst (a ++ b) = b.foldl kstep (kst a) := by simp [kst]
theorem nokey_flush (p : List Nat) : ∀ st, (∀ c ∈ p, keyc c = false) → flush (p.foldl kstep st) = flush st := by
  induction p with
  | nil => intro st _; rfl
  | cons c p ih =>
    intro st h
    rw [List.foldl_cons, ih _ (fun d hd => h d (by simp [hd]))]
    unfold kstep
    rw [h c (by simp)]
    exact flush_flush st
theorem nokey_start (p : List Nat) : (∀ c ∈ p, keyc c = false) → p.foldl kstep ([], []) = ([], []) := by
  induction p with
  | nil => intro _; rfl
  | cons c p ih =>
    intro h
    rw [List.foldl_cons]
    have e : kstep (([], []) : List (List Nat) × List Nat) c = ([], []) := by
      unfold kstep
      rw [h c (by simp)]
      rfl
    rw [e]
    exact ih (fun d hd => h d (by simp [hd]))
theorem kwords_around (p x q : List Nat) (hp : ∀ c ∈ p, keyc c = false) (hq : ∀ c ∈ q, keyc c = false) : kwords (p ++ x ++ q) = kwords x := by
  unfold kwords
  rw [kst_append, nokey_flush _ _ hq, kst_append]
  have : kst p = ([], []) := nokey_start p hp
  rw [this]
  rfl
theorem key_around (lang : ByteArray) (p x q : List Nat) (hp : ∀ c ∈ p, c = 32 ∨ c = 33 ∨ c = 34 ∨ c = 40 ∨ c = 41) (hq : ∀ c ∈ q, c = 32 ∨ c = 33 ∨ c = 34 ∨ c = 40 ∨ c = 41) : keyL lang (p ++ x ++ q) = keyL lang x := by
  rw [keyL_words, keyL_words, kF_append, kF_append, kF_seps lang p hp, kF_seps lang q hq, kwords_around _ _ _ (seps_nokey p hp) (seps_nokey q hq)]
theorem key_blanks (lang : ByteArray) (a b : List Nat) : keyL lang (a ++ [32] ++ b) = keyL lang (a ++ [32, 32] ++ b) := by
  have h1 : ∀ c ∈ [32], c = 32 ∨ c = 33 ∨ c = 34 ∨ c = 40 ∨ c = 41 := by decide
  have h2 : ∀ c ∈ [32, 32], c = 32 ∨ c = 33 ∨ c = 34 ∨ c = 40 ∨ c = 41 := by decide
  rw [keyL_words, keyL_words, kF_append, kF_append, kF_append, kF_append, kF_seps lang [32] h1, kF_seps lang [32, 32] h2]
  unfold kwords
  rw [kst_append, kst_append, kst_append (kF lang a ++ [32, 32]), kst_append]
  have e : [32, 32].foldl kstep (kst (kF lang a)) = [32].foldl kstep (kst (kF lang a)) := by
    show kstep (kstep (kst (kF lang a)) 32) 32 = kstep (kst (kF lang a)) 32
    have k32 : keyc 32 = false := rfl
    unfold kstep
    rw [k32]
    simp only [Bool.false_eq_true, if_false]
    exact flush_flush _
  rw [e]

/-! ### In English a key is its own key -/
def stays (c : Nat) : Prop := ¬ (123 ≤ c ∧ c ≤ 126) ∧ foldc c = [c]
theorem rep_eng (c : Nat) (h : ¬ (123 ≤ c ∧ c ≤ 126)) : rep eng c = [c] := by
  unfold rep
  rw [if_neg h, if_neg (by decide), if_neg (by decide), if_neg (by decide)]
theorem fold_marks : ∀ i : Fin 256, ¬ (123 ≤ i.val ∧ i.val ≤ 126) → ∀ x ∈ foldc i.val, ¬ (123 ≤ x ∧ x ≤ 126) := by decide +kernel
theorem kF_stays (cs : List Nat) : ∀ c ∈ kF eng cs, stays c := by
  intro c hc
  refine ⟨?_, fold_fix _ c hc⟩
  unfold kF foldL at hc
  obtain ⟨d, hd, hc⟩ := List.mem_flatMap.1 hc
  unfold repL at hd
  obtain ⟨e, he, hd⟩ := List.mem_flatMap.1 hd
  have hdn : ¬ (123 ≤ d ∧ d ≤ 126) := by
    by_cases hm : 123 ≤ e ∧ e ≤ 126
    · unfold rep at hd
      rw [if_pos hm] at hd
      simp at hd
      omega
    · rw [rep_eng e hm] at hd
      simp at hd
      omega
  by_cases h2 : d < 256
  · exact fold_marks ⟨d, h2⟩ hdn c hc
  · have : foldc d = [d] := by unfold foldc; rw [if_neg (by omega), if_neg (by omega)]
    rw [this] at hc
    simp at hc
    omega
theorem kF_of_stays (p : List Nat) (h : ∀ c ∈ p, stays c) : kF eng p = p := by
  have h1 : repL eng p = p := by
    induction p with
    | nil => rfl
    | cons c p ih =>
      have e : repL eng (c :: p) = rep eng c ++ repL eng p := by simp [repL]
      rw [e, rep_eng c (h c (by simp)).1, ih (fun d hd => h d (by simp [hd]))]
      rfl
  unfold kF
  rw [h1]
  exact fold_of_fix p fun c hc => (h c hc).2
def GoodK (x : List Nat) : Prop := x ≠ [] ∧ ∀ c ∈ x, keyc c = true ∧ stays c
theorem krun_good (ws : List (List Nat)) : ∀ (x cur : List Nat), (∀ c ∈ x, keyc c = true) → x.foldl kstep (ws, cur) = (ws, cur ++ x)
  | [], cur, _ => by simp
  | c :: x, cur, h => by
    have h1 := h c (by simp)
    rw [List.foldl_cons]
    have e : kstep (ws, cur) c = (ws, cur ++ [c]) := by unfold kstep; rw [h1]; rfl
    rw [e, krun_good ws x (cur ++ [c]) (fun d hd => h d (by simp [hd]))]
    simp
theorem kjoin_stays (ws : List (List Nat)) : (∀ x ∈ ws, GoodK x) → ∀ c ∈ joinL ws, stays c := by
  refine snoc_ind2 (p := fun ws => (∀ x ∈ ws, GoodK x) → ∀ c ∈ joinL ws, stays c) ?_ ?_ ws
  · intro _ c hc; cases hc
  · intro l x ih h c hc
    have hx := h x (by simp)
    rw [joinL_snoc] at hc
    split at hc
    · exact (hx.2 c hc).2
    · simp only [List.mem_append, List.mem_singleton] at hc
      rcases hc with (hc | hc) | hc
      · exact ih (fun y hy => h y (by simp [hy])) c hc
      · subst hc; exact ⟨by omega, rfl⟩
      · exact (hx.2 c hc).2
theorem kst_join (ws : List (List Nat)) : ∀ x, (∀ y ∈ ws, GoodK y) → GoodK x → kst (joinL (ws ++ [x])) = (ws, x) := by
  refine snoc_ind2 (p := fun ws => ∀ x, (∀ y ∈ ws, GoodK y) → GoodK x → kst (joinL (ws ++ [x])) = (ws, x)) ?_ ?_ ws
  · intro x _ hx
    rw [joinL_snoc, if_pos rfl]
    unfold kst
    rw [krun_good [] x [] (fun c hc => (hx.2 c hc).1)]
    rfl
  · intro l y ih x h hx
    have hy := h y (by simp)
    rw [joinL_snoc, if_neg (by simp)]
    have := ih y (fun z hz => h z (by simp [hz])) hy
    rw [kst_append, kst_append, this]
    have e : [32].foldl kstep (l, y) = (l ++ [y], []) := by
      show kstep (l, y) 32 = _
      have k32 : keyc 32 = false := rfl
      unfold kstep flush
      rw [k32]
      simp [hy.1]
    rw [e, krun_good _ x [] (fun c hc => (hx.2 c hc).1)]
    rfl
theorem kwords_join (ws : List (List Nat)) (h : ∀ y ∈ ws, GoodK y) : kwords (joinL ws) = ws := by
  by_cases hne : ws = []
  · subst hne; rfl
  · have hs := List.dropLast_concat_getLast hne
    have := kst_join ws.dropLast (ws.getLast hne) (fun y hy => h y (by rw [← hs]; exact List.mem_append_left _ hy)) (h _ (List.getLast_mem hne))
    rw [hs] at this
    unfold kwords
    rw [this]
    unfold flush
    simp only
    rw [if_neg (h _ (List.getLast_mem hne)).1]
    exact hs
theorem kwords_good (fs : List Nat) : (∀ x ∈ fs, stays x) → (∀ y ∈ (kst fs).1, GoodK y) ∧ (∀ c ∈ (kst fs).2, keyc c = true ∧ stays c) := by
  refine snoc_ind (p := fun fs => (∀ x ∈ fs, stays x) → (∀ y ∈ (kst fs).1, GoodK y) ∧ (∀ c ∈ (kst fs).2, keyc c = true ∧ stays c)) ?_ ?_ fs
  · intro _; exact ⟨(fun y hy => by cases hy), (fun c hc => by cases hc)⟩
  · intro l c ih h
    obtain ⟨i1, i2⟩ := ih (fun x hx => h x (by simp [hx]))
    rw [kst_snoc]
    unfold kstep
    by_cases hl : keyc c = true
    · rw [if_pos hl]
      refine ⟨i1, fun d hd => ?_⟩
      simp only [List.mem_append, List.mem_singleton] at hd
      rcases hd with hd | hd
      · exact i2 d hd
      · subst hd; exact ⟨hl, h d (by simp)⟩
    · rw [if_neg hl]
      unfold flush
      split
      · exact ⟨i1, fun d hd => by cases hd⟩
      · rename_i hne
        refine ⟨fun y hy => ?_, fun d hd => by cases hd⟩
        simp only [List.mem_append, List.mem_singleton] at hy
        rcases hy with hy | hy
        · exact i1 y hy
        · subst hy; exact ⟨hne, i2⟩
theorem words_goodK (fs : List Nat) (h : ∀ x ∈ fs, stays x) : ∀ y ∈ kwords fs, GoodK y := by
  obtain ⟨h1, h2⟩ := kwords_good fs h
  intro y hy
  unfold kwords flush at hy
  split at hy
  · exact h1 y hy
  · rename_i hne
    simp only [List.mem_append, List.mem_singleton] at hy
    rcases hy with hy | hy
    · exact h1 y hy
    · subst hy; exact ⟨hne, h2⟩
theorem key_key (cs : List Nat) : keyL eng (keyL eng cs) = keyL eng cs := by
  have hg := words_goodK (kF eng cs) (kF_stays cs)
  rw [keyL_words eng (keyL eng cs), keyL_words eng cs, kF_of_stays _ (kjoin_stays _ hg), kwords_join _ hg]

/-! ### The two ways to compare -/
theorem cmpB_cS (x y : ByteArray) : cmpB x y = cS x y := by
  unfold cmpB cS
  rw [ByteArray.toList_eq, ByteArray.toList_eq, cb_less, cb_beq]
  have := cb_range x.data.toList y.data.toList
  generalize compareBytes x.data.toList y.data.toList = r at *
  by_cases h1 : r = -1
  · subst h1; rfl
  · by_cases h2 : r = 0
    · subst h2; rfl
    · have : r = 1 := by omega
      subst this; rfl
theorem cmpT_cmpE (lang : ByteArray) (ca cb : List Nat) : cmpT lang ca cb = cmpE (ent lang ca) (ent lang cb) := by
  unfold cmpT cmpE ent
  simp only
  rw [cmpB_cS, cmpB_cS]
  have h : ((T (keyL lang ca)).toList == (T (keyL lang cb)).toList) = decide (cS (T (keyL lang ca)) (T (keyL lang cb)) = 0) := by
    rw [ByteArray.toList_eq, ByteArray.toList_eq, cb_beq]; rfl
  rw [h]
  by_cases h0 : cS (T (keyL lang ca)) (T (keyL lang cb)) = 0
  · rw [decide_eq_true h0, if_pos rfl, if_pos h0]
  · rw [decide_eq_false h0, if_neg (by simp), if_neg h0]
theorem str_eq (x y : ByteArray) : (x.toList == y.toList) = decide (x = y) := by
  rw [ByteArray.toList_eq, ByteArray.toList_eq, cb_beq]
  by_cases h : x = y
  · subst h; simp [cb_refl]
  · have : compareBytes x.data.toList y.data.toList ≠ 0 := fun h' => h (cS_eq h')
    simp [h, this]
theorem cmpE_ent_zero (lang : ByteArray) (ca cb : List Nat) (ha : OKs ca) (hb : OKs cb) : cmpE (ent lang ca) (ent lang cb) = 0 ↔ T ca = T cb := by
  constructor
  · intro h
    have := cmpE_eq h
    unfold ent at this
    exact congrArg Prod.snd this
  · intro h
    have h2 : ca = cb := (T_inj ha hb).1 h
    rw [h2, cmpE_refl]
end Go.Proofs.YtjfeckccmfbkhaaDoor
