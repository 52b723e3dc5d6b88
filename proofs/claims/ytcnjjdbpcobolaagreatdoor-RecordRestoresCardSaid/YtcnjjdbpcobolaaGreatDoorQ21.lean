/- Merged: DW08, R08K, Strs. -/
import Derived.Test.YtcnjjdbpcobolaaGreatDoorQ17
import Derived.Test.YtcnjjdbpcobolaaGreatDoorQ11
import Derived.Test.YtcnjjdbpcobolaaGreatDoorQ10
import Derived.Lib.FieldsP
import Derived.Test.YtcnjjdbpcobolaaGreatDoorQ20
import Derived.Test.YtcnjjdbpcobolaaGreatDoorQ06
import Derived.Laws.AppendOwn
namespace Go.Proofs.YtcnjjdbpcobolaaGreatDoor

section
open Go.Lib
def digc (c : Nat) : Bool := decide (48 ≤ c) && decide (c ≤ 57)
theorem digc_iff (c : Nat) : digc c = true ↔ 48 ≤ c ∧ c ≤ 57 := by simp [digc]
def dstep (st : List (List Nat) × List Nat) (c : Nat) : List (List Nat) × List Nat := if digc c then (st.1, st.2 ++ [c]) else flush st
def dst (cs : List Nat) : List (List Nat) × List Nat := cs.foldl dstep ([], [])
def dwords (cs : List Nat) : List (List Nat) := (flush (dst cs)).1
theorem dst_snoc (cs : List Nat) (c : Nat) : dst (cs ++ [c]) = dstep (dst cs) c := by simp [dst]
theorem dst_take (cs : List Nat) (j : Nat) (h : j < cs.length) : dst (cs.take (j + 1)) = dstep (dst (cs.take j)) cs[j] := by
  rw [List.take_succ_eq_append_getElem h, dst_snoc]
/-- The pieces between spans, as Go's library finds them, are the runs. -/
theorem dspans_T (cs : List Nat) (h : OKs cs) (p : Nat → Bool) (hp : ∀ c ∈ cs, p c = !digc c) :
    ∀ (m k f : Nat) (st : Option Nat) (acc : List (Nat × Nat)), m + k = cs.length → m ≤ f →
      (acc.map fun x => (T cs).extract x.1 x.2) = (dst (cs.take k)).1.map T →
      ((st = none ∧ (dst (cs.take k)).2 = []) ∨ ∃ i, i < k ∧ st = some (off cs i) ∧ (dst (cs.take k)).2 = (cs.take k).drop i) →
      ∃ acc' st', spansFromP p (T cs) f (off cs k) st acc = (acc', st') ∧ (acc'.map fun x => (T cs).extract x.1 x.2) = (dst cs).1.map T ∧
        ((st' = none ∧ (dst cs).2 = []) ∨ ∃ i, i < cs.length ∧ st' = some (off cs i) ∧ (dst cs).2 = cs.drop i)
  | 0, k, f, st, acc, hm, hf, ha, hs => by
    have hk : k = cs.length := by omega
    subst hk
    rw [List.take_length] at ha hs
    refine ⟨acc, st, spansFromP_end _ _ _ _ _ _ (by rw [T_off]; omega), ha, hs⟩
  | m + 1, k, f, st, acc, hm, hf, ha, hs => by
    obtain ⟨f, rfl⟩ : ∃ g, f = g + 1 := ⟨f - 1, by omega⟩
    have hk : k < cs.length := by omega
    have hlt := off_lt cs k hk
    unfold spansFromP
    rw [if_pos hlt, decode_T cs h k hk]
    have hw := off_succ cs k hk
    simp only
    rw [← hw]
    have hpc := hp cs[k] (List.getElem_mem hk)
    have hst := dst_take cs k hk
    rw [hpc]
    by_cases hkc : digc cs[k] = true
    · have hst2 : dst (cs.take (k + 1)) = ((dst (cs.take k)).1, (dst (cs.take k)).2 ++ [cs[k]]) := by rw [hst]; simp [dstep, hkc]
      rw [hkc]
      simp only [Bool.not_true, Bool.false_eq_true, if_false]
      rcases hs with ⟨rfl, hc⟩ | ⟨i, hi, rfl, hc⟩
      · refine dspans_T cs h p hp m (k + 1) f _ _ (by omega) (by omega) (by rw [hst2]; exact ha) (.inr ⟨k, by omega, rfl, ?_⟩)
        rw [hst2]
        simp only
        rw [hc, List.take_succ_eq_append_getElem hk, List.drop_append_of_le_length (by simp; omega)]
        simp
      · refine dspans_T cs h p hp m (k + 1) f _ _ (by omega) (by omega) (by rw [hst2]; exact ha) (.inr ⟨i, by omega, rfl, ?_⟩)
        rw [hst2]
        simp only
        rw [hc, List.take_succ_eq_append_getElem hk, List.drop_append_of_le_length (by simp; omega)]
    · have hst2 : dst (cs.take (k + 1)) = flush (dst (cs.take k)) := by rw [hst]; simp [dstep, hkc]
      have hkf : digc cs[k] = false := by simpa using hkc
      rw [hkf]
      simp only [Bool.not_false, if_true]
      rcases hs with ⟨rfl, hc⟩ | ⟨i, hi, rfl, hc⟩
      · have e : flush (dst (cs.take k)) = ((dst (cs.take k)).1, []) := by unfold flush; rw [if_pos hc]
        refine dspans_T cs h p hp m (k + 1) f _ _ (by omega) (by omega) (by rw [hst2, e]; exact ha) (.inl ⟨rfl, by rw [hst2, e]⟩)
      · have hne : (dst (cs.take k)).2 ≠ [] := by
          rw [hc]
          intro h0
          have := congrArg List.length h0
          simp at this
          omega
        have e : flush (dst (cs.take k)) = ((dst (cs.take k)).1 ++ [(dst (cs.take k)).2], []) := by unfold flush; rw [if_neg hne]
        refine dspans_T cs h p hp m (k + 1) f _ _ (by omega) (by omega) ?_ (.inl ⟨rfl, by rw [hst2, e]⟩)
        rw [hst2, e]
        simp only [List.map_append, List.map_cons, List.map_nil]
        rw [ha, extract_T, hc]
theorem dextract_end (cs : List Nat) (i : Nat) : (T cs).extract (off cs i) (T cs).size = T (cs.drop i) := by
  rw [← T_off, extract_T, List.take_length]
theorem dfields_T (cs : List Nat) (h : OKs cs) (p : Nat → Bool) (hp : ∀ c ∈ cs, p c = !digc c) : goFieldsP p (T cs) = (dwords cs).map T := by
  obtain ⟨acc, st, e, h1, h2⟩ := dspans_T cs h p hp cs.length 0 (T cs).size none [] (by omega) (len_le cs) (by simp [dst]) (.inl ⟨rfl, by simp [dst]⟩)
  rw [off_zero] at e
  unfold goFieldsP spansOfP
  rw [e]
  unfold dwords flush
  rcases h2 with ⟨rfl, hc⟩ | ⟨i, hi, rfl, hc⟩
  · rw [if_pos hc]
    exact h1
  · have hne : (dst cs).2 ≠ [] := by
      rw [hc]
      intro h0
      have := congrArg List.length h0
      simp at this
      omega
    rw [if_neg hne]
    unfold closeSpans
    simp only [List.map_append, List.map_cons, List.map_nil]
    rw [h1, dextract_end, hc]
theorem dwords_len (cs : List Nat) : (dwords cs).length ≤ cs.length := by
  have key : ∀ cs : List Nat, (dst cs).1.length + (if (dst cs).2 = [] then 0 else 1) ≤ cs.length := by
    intro cs
    refine snoc_ind (p := fun cs => (dst cs).1.length + (if (dst cs).2 = [] then 0 else 1) ≤ cs.length) (by simp [dst]) ?_ cs
    intro l c ih
    rw [dst_snoc]
    unfold dstep
    split
    · simp only [List.length_append, List.length_singleton]
      split at ih <;> split <;> omega
    · unfold flush
      split
      · rename_i h1 h2
        rw [if_pos h2] at ih
        simp only [List.length_append, List.length_singleton, if_true]
        omega
      · rename_i h1 h2
        rw [if_neg h2] at ih
        simp only [List.length_append, List.length_singleton, if_true]
        omega
  have := key cs
  unfold dwords flush
  split
  · rename_i h; rw [if_pos h] at this; simp only; omega
  · rename_i h; rw [if_neg h] at this; simp only [List.length_append, List.length_singleton]; omega

/-! The year, character by character. -/
def stC (p : Nat × Nat) (c : Nat) : Nat × Nat := (if p.2 + 1 ≤ 4 then p.1 * 10 + (c - 48) else p.1, p.2 + 1)
def runC (w : List Nat) : Nat × Nat := w.foldl stC (0, 0)
theorem runC_snoc (w : List Nat) (c : Nat) : runC (w ++ [c]) = stC (runC w) c := by simp [runC]
theorem runC_len (w : List Nat) : (runC w).2 = w.length := by
  refine snoc_ind (p := fun w => (runC w).2 = w.length) rfl (fun l c ih => ?_) w
  rw [runC_snoc, List.length_append]
  show (runC l).2 + 1 = _
  rw [ih]
  rfl
def yvC (w : List Nat) : Int := yearOK (runC w).1 w.length
def yearC : List Nat → Nat → Nat → Int
  | [], n, d => yearOK n d
  | c :: t, n, d => if digc c = true then yearC t (stC (n, d) c).1 (d + 1) else if yearOK n d ≠ 0 then yearOK n d else yearC t 0 0
theorem yearOK_zero : yearOK 0 0 = 0 := rfl
theorem dfold_pre : ∀ (t : List Nat) (ws : List (List Nat)) (cur : List Nat), ∃ more, (flush (t.foldl dstep (ws, cur))).1 = ws ++ more
  | [], ws, cur => by
    show ∃ more, (flush (ws, cur)).1 = ws ++ more
    unfold flush
    split
    · exact ⟨[], by simp⟩
    · exact ⟨[cur], rfl⟩
  | c :: t, ws, cur => by
    rw [List.foldl_cons]
    unfold dstep
    split
    · exact dfold_pre t ws (cur ++ [c])
    · unfold flush
      split
      · exact dfold_pre t ws []
      · obtain ⟨more, h⟩ := dfold_pre t (ws ++ [cur]) []
        exact ⟨[cur] ++ more, by rw [← List.append_assoc]; exact h⟩
theorem firstI_zero {α : Type} (p : α → Int) : ∀ (L M : List α), (∀ x ∈ L, p x = 0) → firstI p (L ++ M) = firstI p M
  | [], _, _ => rfl
  | a :: t, M, h => by
    rw [List.cons_append, firstI, if_neg (fun g => g (h a (by simp)))]
    exact firstI_zero p t M (fun x hx => h x (List.mem_cons_of_mem _ hx))
theorem yearC_words : ∀ (cs : List Nat) (ws : List (List Nat)) (cur : List Nat), (∀ w ∈ ws, yvC w = 0) → yearC cs (runC cur).1 cur.length = firstI yvC (flush (cs.foldl dstep (ws, cur))).1
  | [], ws, cur, h => by
    show yearOK (runC cur).1 cur.length = firstI yvC (flush (ws, cur)).1
    unfold flush
    split
    · rename_i hc
      have hc : cur = [] := hc
      subst hc
      have := firstI_zero yvC ws [] h
      rw [List.append_nil] at this
      rw [this]
      rfl
    · rw [firstI_zero yvC ws _ h]
      show _ = firstI yvC [cur]
      rw [firstI, firstI]
      unfold yvC
      split
      · rfl
      · rename_i hz
        exact Decidable.not_not.1 hz
  | c :: t, ws, cur, h => by
    rw [List.foldl_cons, yearC]
    by_cases hd : digc c = true
    · rw [if_pos hd]
      have e : dstep (ws, cur) c = (ws, cur ++ [c]) := by simp [dstep, hd]
      have ih := yearC_words t ws (cur ++ [c]) h
      rw [runC_snoc, List.length_append] at ih
      rw [e, ← ih]
      have : runC cur = ((runC cur).1, cur.length) := by rw [← runC_len]
      rw [this]
      rfl
    · rw [if_neg hd]
      by_cases hc : cur = []
      · subst hc
        have e : dstep (ws, []) c = (ws, []) := by simp [dstep, hd, flush]
        rw [e, if_neg (fun g => g rfl)]
        exact yearC_words t ws [] h
      · have e : dstep (ws, cur) c = (ws ++ [cur], []) := by simp [dstep, hd, flush, hc]
        rw [e]
        by_cases hy : yearOK (runC cur).1 cur.length ≠ 0
        · rw [if_pos hy]
          obtain ⟨more, hm⟩ := dfold_pre t (ws ++ [cur]) []
          rw [hm, List.append_assoc, firstI_zero yvC ws _ h]
          show _ = firstI yvC (cur :: more)
          rw [firstI, if_pos (show yvC cur ≠ 0 from hy)]
          rfl
        · rw [if_neg hy]
          exact yearC_words t (ws ++ [cur]) [] (fun w hw => by
            rcases List.mem_append.1 hw with hw | hw
            · exact h w hw
            · obtain rfl : w = cur := by simpa using hw
              exact Decidable.not_not.1 hy)
theorem yearC_all (cs : List Nat) : yearC cs 0 0 = firstI yvC (dwords cs) := yearC_words cs [] [] (fun w hw => by cases hw)
theorem dwords_dig (cs : List Nat) : ∀ w ∈ dwords cs, ∀ c ∈ w, digc c = true := by
  have key : ∀ (cs : List Nat) (ws : List (List Nat)) (cur : List Nat), (∀ w ∈ ws, ∀ c ∈ w, digc c = true) → (∀ c ∈ cur, digc c = true) → ∀ w ∈ (flush (cs.foldl dstep (ws, cur))).1, ∀ c ∈ w, digc c = true := by
    intro cs
    induction cs with
    | nil =>
      intro ws cur h1 h2 w hw
      have hw : w ∈ (flush (ws, cur)).1 := hw
      unfold flush at hw
      split at hw
      · exact h1 w hw
      · rcases List.mem_append.1 hw with hw | hw
        · exact h1 w hw
        · obtain rfl : w = cur := by simpa using hw
          exact h2
    | cons c t ih =>
      intro ws cur h1 h2
      rw [List.foldl_cons]
      unfold dstep
      split
      · rename_i hc
        exact ih ws (cur ++ [c]) h1 (fun d hd => by
          rcases List.mem_append.1 hd with hd | hd
          · exact h2 d hd
          · obtain rfl : d = c := by simpa using hd
            exact hc)
      · unfold flush
        split
        · exact ih ws [] h1 (fun d hd => by cases hd)
        · exact ih (ws ++ [cur]) [] (fun w hw => by
            rcases List.mem_append.1 hw with hw | hw
            · exact h1 w hw
            · obtain rfl : w = cur := by simpa using hw
              exact h2) (fun d hd => by cases hd)
  exact key cs [] [] (fun w hw => by cases hw) (fun c hc => by cases hc)

/-! The bytes of characters. -/
theorem enc_dig (c : Nat) (h : digc c = true) : encodeRune (c : Int) = [UInt8.ofNat c] := by
  rw [digc_iff] at h
  unfold encodeRune
  rw [encodeRuneZ_one (by omega) (by omega)]
  simp
theorem enc_else (c : Nat) (hc : okc c) (h : digc c = false) : encodeRune (c : Int) ≠ [] ∧ ∀ b ∈ encodeRune (c : Int), digB b = false := by
  have h : ¬ (48 ≤ c ∧ c ≤ 57) := fun g => by rw [(digc_iff c).2 g] at h; cases h
  unfold encodeRune
  have one : ∀ z : Int, 0 ≤ z → z < 256 → ¬ (48 ≤ z ∧ z ≤ 57) → digB (z.toNat.toUInt8) = false := by
    intro z h0 h1 h2
    have e0 := toByteNat z h0 h1
    unfold digB
    rw [e0, Bool.and_eq_false_iff]
    by_cases h3 : 48 ≤ z.toNat
    · exact .inr (decide_eq_false (by omega))
    · exact .inl (decide_eq_false h3)
  by_cases h1 : c ≤ 127
  · rw [encodeRuneZ_one (by omega) (by omega)]
    refine ⟨by simp, fun b hb => ?_⟩
    simp only [List.map_cons, List.map_nil, List.mem_singleton] at hb
    subst hb
    exact one _ (by omega) (by omega) (by omega)
  by_cases h2 : c ≤ 2047
  · rw [encodeRuneZ_two (by omega) (by omega)]
    refine ⟨by simp, fun b hb => ?_⟩
    simp only [List.map_cons, List.map_nil, List.mem_cons, List.not_mem_nil, or_false] at hb
    rcases hb with rfl | rfl
    · exact one _ (by omega) (by omega) (by omega)
    · exact one _ (by omega) (by omega) (by omega)
  · rw [encodeRuneZ_three (by unfold okc at hc; omega)]
    refine ⟨by simp, fun b hb => ?_⟩
    unfold okc at hc
    simp only [List.map_cons, List.map_nil, List.mem_cons, List.not_mem_nil, or_false] at hb
    rcases hb with rfl | rfl | rfl
    · exact one _ (by omega) (by omega) (by omega)
    · exact one _ (by omega) (by omega) (by omega)
    · exact one _ (by omega) (by omega) (by omega)
theorem yearB_skip (r : List UInt8) : ∀ (bs : List UInt8) (n d : Nat), bs ≠ [] → (∀ b ∈ bs, digB b = false) → yearB (bs ++ r) n d = if yearOK n d ≠ 0 then yearOK n d else yearB r 0 0
  | [], _, _, h, _ => absurd rfl h
  | b :: t, n, d, _, h => by
    rw [List.cons_append, yearB, if_neg (by rw [h b (by simp)]; decide)]
    by_cases hy : yearOK n d ≠ 0
    · rw [if_pos hy, if_pos hy]
    · rw [if_neg hy, if_neg hy]
      cases t with
      | nil => rfl
      | cons b2 t2 =>
        rw [yearB_skip r (b2 :: t2) 0 0 (by simp) (fun x hx => h x (List.mem_cons_of_mem _ hx)), if_neg (fun g => g rfl)]
theorem yearB_enc : ∀ (cs : List Nat), OKs cs → ∀ n d, yearB (enc cs) n d = yearC cs n d
  | [], _, n, d => rfl
  | c :: t, h, n, d => by
    have hc : okc c := h c (by simp)
    have ht : OKs t := fun x hx => h x (List.mem_cons_of_mem _ hx)
    rw [enc_cons, yearC]
    by_cases hd : digc c = true
    · rw [if_pos hd, enc_dig c hd, List.cons_append, List.nil_append, yearB]
      have h1 := (digc_iff c).1 hd
      have hn : (UInt8.ofNat c).toNat = c := by simp; omega
      rw [if_pos (by rw [digB_iff, hn]; exact h1), yearB_enc t ht]
      unfold digN stC
      rw [hn]
    · have hd' : digc c = false := by simpa using hd
      obtain ⟨h1, h2⟩ := enc_else c hc hd'
      rw [if_neg hd, yearB_skip (enc t) _ n d h1 h2, yearB_enc t ht]
theorem yearB_words (cs : List Nat) (h : OKs cs) : yearB (enc cs) 0 0 = firstI yvC (dwords cs) := by rw [yearB_enc cs h, yearC_all]

/-! A run of digits, as the program looks at it. -/
theorem enc_digs : ∀ (w : List Nat), (∀ c ∈ w, digc c = true) → enc w = w.map UInt8.ofNat
  | [], _ => rfl
  | c :: t, h => by rw [enc_cons, enc_dig c (h c (by simp)), enc_digs t (fun x hx => h x (List.mem_cons_of_mem _ hx))]; rfl
/-- Four digits. -/
theorem four_digs (w : List Nat) (h : ∀ c ∈ w, digc c = true) (hl : w.length = 4) : ∃ a b c d : Nat, (48 ≤ a ∧ a ≤ 57) ∧ (48 ≤ b ∧ b ≤ 57) ∧ (48 ≤ c ∧ c ≤ 57) ∧ (48 ≤ d ∧ d ≤ 57) ∧ enc w = [UInt8.ofNat a, UInt8.ofNat b, UInt8.ofNat c, UInt8.ofNat d] ∧ (runC w).1 = (((a - 48) * 10 + (b - 48)) * 10 + (c - 48)) * 10 + (d - 48) := by
  match w, hl, h with
  | [a, b, c, d], _, h =>
    refine ⟨a, b, c, d, (digc_iff a).1 (h a (by simp)), (digc_iff b).1 (h b (by simp)), (digc_iff c).1 (h c (by simp)), (digc_iff d).1 (h d (by simp)), enc_digs _ h, ?_⟩
    simp [runC, stC]
theorem u8n (a : Nat) (h : a ≤ 57) : (UInt8.ofNat a).toNat = a := by simp; omega
theorem u8_eqn (x y : UInt8) : (x == y) = decide (x.toNat = y.toNat) := by
  rw [Bool.eq_iff_iff, decide_eq_true_iff, UInt8.toNat_inj]
  simp
/-- The program's three tests come to the same year. -/
theorem run_year (w : List Nat) (h : ∀ c ∈ w, digc c = true) (hl : w.length = 4) :
    (Op.bytesLess [49, 48, 48, 48] (enc w) || ([49, 48, 48, 48] : List UInt8) == enc w) = decide (1000 ≤ (runC w).1) ∧ (Op.bytesLess (enc w) [50, 49, 57, 57] || enc w == ([50, 49, 57, 57] : List UInt8)) = decide ((runC w).1 ≤ 2199) ∧ atoiV (enc w) = ((runC w).1 : Int) := by
  obtain ⟨a, b, c, d, ha, hb, hc, hd, he, hr⟩ := four_digs w h hl
  rw [he, hr]
  have na := u8n a ha.2
  have nb := u8n b hb.2
  have nc := u8n c hc.2
  have nd := u8n d hd.2
  have l48 : UInt8.toNat 48 = 48 := rfl
  have l49 : UInt8.toNat 49 = 49 := rfl
  have l50 : UInt8.toNat 50 = 50 := rfl
  have l57 : UInt8.toNat 57 = 57 := rfl
  have hn : ((([] : List UInt8) == ([] : List UInt8)) = true) = True := by simp
  refine ⟨?_, ?_, ?_⟩
  · rw [Bool.eq_iff_iff]
    simp only [Op.bytesLess, List.cons_beq_cons, u8_eqn, UInt8.lt_iff_toNat_lt, na, nb, nc, nd, l48, l49, Bool.or_eq_true, Bool.and_eq_true, decide_eq_true_iff, Bool.false_eq_true, hn, and_false, or_false, and_true]
    constructor
    · intro h; omega
    · intro h; omega
  · rw [Bool.eq_iff_iff]
    simp only [Op.bytesLess, List.cons_beq_cons, u8_eqn, UInt8.lt_iff_toNat_lt, na, nb, nc, nd, l49, l50, l57, Bool.or_eq_true, Bool.and_eq_true, decide_eq_true_iff, Bool.false_eq_true, hn, and_false, or_false, and_true]
    constructor
    · intro h; omega
    · intro h; omega
  · have hm : Lib.parseMag [UInt8.ofNat a, UInt8.ofNat b, UInt8.ofNat c, UInt8.ofNat d] = .ok ((((a - 48) * 10 + (b - 48)) * 10 + (c - 48)) * 10 + (d - 48)) := by
      unfold Lib.parseMag
      rw [if_neg (by simp)]
      rw [Lib.parseUint10, na, if_pos ha, if_neg (by omega), if_neg (by omega), Lib.parseUint10, nb, if_pos hb, if_neg (by omega), if_neg (by omega), Lib.parseUint10, nc, if_pos hc, if_neg (by omega), if_neg (by omega), Lib.parseUint10, nd, if_pos hd, if_neg (by omega), if_neg (by omega), Lib.parseUint10, Nat.zero_mul, Nat.zero_add]
    unfold atoiV Lib.atoiAll
    have n1 : ¬ ((UInt8.ofNat a).toNat = 43 ∨ (UInt8.ofNat a).toNat = 45) := by rw [na]; omega
    have n2 : ¬ (UInt8.ofNat a).toNat = 45 := by rw [na]; omega
    simp only [if_neg n1, hm]
    rw [if_neg (by omega), if_neg (by omega), if_neg n2]
end

section
open Go.RowKit Go.PlainAid
theorem tag_eq (l m : List UInt8) : ((S l).toList == m) = decide (l = m) := by
  have e2 : (S l).toList = l := by rw [ByteArray.toList_eq]; rfl
  rw [e2]
  exact Bool.eq_iff_iff.2 (by simp)
theorem tag_ne (l m : List UInt8) : ((S l).toList != m) = !decide (l = m) := by
  rw [bne, tag_eq]

set_option maxHeartbeats 16000000 in
set_option maxRecDepth 100000 in
theorem refYear_any (r : Rec) (u : Value) (w : World) (hu : FL u r.fields w) (hs : r.fields.length ≤ 100000) (hsub : ∀ f ∈ r.fields, f.subs.length ≤ 1000 ∧ ∀ i, (f.subs.getD i sub0).2.length ≤ 1000) :
    Calls Tryz.prog 32 #[RV r u] w fun e w' => e = .returned (.int .i64 (yearR r.fields)) ∧ Below w.heap.size w w' := by
  obtain ⟨a, cap, rfl, hcap, hmax⟩ := hu.length
  unfold maxLen at hmax
  have hsubk : ∀ k, k < r.fields.length → (r.fields.getD k fd0).subs.length ≤ 1000 ∧ ∀ i, ((r.fields.getD k fd0).subs.getD i sub0).2.length ≤ 1000 := by
    intro k hk
    rw [List.getD_eq_getElem?_getD, List.getElem?_eq_getElem hk]
    exact hsub _ (List.getElem_mem hk)
  have HHit := Lib.hid (firstI_hit fd0 yearF r.fields)
  have HMiss := Lib.hid (firstI_miss fd0 yearF r.fields)
  have cA := Lib.hid (fun (f : Fld) x W hq h => refAll_any f x W hq [99] (by decide) h)
  have cY := Lib.hid (fun l W h => refYear1_any l W h)
  unfold RV
  unfold FV at cA
  have e99 : S [99] = ⟨#[99]⟩ := rfl
  rw [e99] at cA
  obtain ⟨n, hn⟩ : ∃ n, r.fields.length = n := ⟨_, rfl⟩
  have HU := Lib.hid hu
  have HSub := Lib.hid hsubk
  rw [hn] at hcap hs HU HSub HHit HMiss ⊢
  have HN := Lib.hid hn
  obtain ⟨W0, hW0⟩ : ∃ W0, w.alloc (.cells #[.int .i64 r.id, .int .i64 r.ver, .int .i64 r.kind, .string (S r.lang), .slice a n cap] 24) = W0 := ⟨_, rfl⟩
  have b0 : Below w.heap.size w W0 := by rw [← hW0]; exact (Below.refl w.heap.size w).alloc (Nat.le_refl _) _
  have hlt : w.heap.size < W0.heap.size := by rw [← hW0]; simp
  have k4 : W0.cell? ⟨w.heap.size, 4, none⟩ = some (.slice a n cap) := by rw [← hW0]; simp
  have HW0 := Lib.hid hW0
  have HU0 := Lib.hid (HU.out.after b0)
  have HB0 := Lib.hid b0
  clear hn hW0 hu HU hsubk hsub b0
  generalize S r.lang = lg at *
  go_enter Tryz.func32, Tryz.ntmps32
  go_upto_region 1 with fail
  rw [HW0.out]
  go_wp2
  go_loopw [3] (fun i wr => ∃ k : Nat, k ≤ n ∧ i = .int .i64 (k : Int) ∧ RowKit.Hid (∀ j, j < k → yearF (r.fields.getD j fd0) = 0) ∧ Below W0.heap.size W0 wr) (fun i _ => n - (intOf i).toNat)
  case atStart => exact ⟨0, Nat.zero_le _, rfl, (fun j hj => by omega), Below.refl _ _⟩
  case round =>
    obtain ⟨k, hk, rfl, hz, hbw⟩ := hrel
    have j4 := (hbw.cell (p := ⟨w.heap.size, 4, none⟩) hlt).trans k4
    by_cases hkn : k < n
    · obtain ⟨g, o, cap', x, he, hg, c0, c1, c2, c3, hq⟩ := (HU0.out.after hbw).at k (by rw [HN.out]; exact hkn)
      obtain ⟨ha, -, hcp⟩ := Value.slice.inj he
      subst ha hcp
      clear he
      have i1 : (0 : Int) ≤ (k : Int) := by omega
      have i2 : (k : Int) < (n : Int) := by omega
      have HS1 := Lib.hid (HSub.out k hkn)
      have Hbw := Lib.hid hbw
      obtain ⟨f, hf⟩ : ∃ f, r.fields.getD k fd0 = f := ⟨_, rfl⟩
      rw [hf] at c0 c1 c3 hq HS1
      have HNext : RowKit.Hid (yearF f = 0 → ∀ j, j < k + 1 → yearF (r.fields.getD j fd0) = 0) := by
        intro h j hj
        rcases Nat.lt_or_ge j k with h1 | h1
        · exact hz.out j h1
        · obtain rfl : j = k := by omega
          rw [hf]
          exact h
      have HHitk : RowKit.Hid (yearF f ≠ 0 → yearR r.fields = yearF f) := by
        intro h
        have := HHit.out k hkn hz.out
        rw [hf] at this
        exact this h
      clear hf hz
      by_cases hy : ytagB f.tag = true
      · have hyf : yearF f = yearsV f := by unfold yearF; rw [if_pos hy]
        rw [hyf] at HNext HHitk
        have hor : ((S f.tag).toList == [50, 54, 48]) = true ∨ (((S f.tag).toList == [50, 54, 48]) = false ∧ ((S f.tag).toList == [50, 54, 52]) = true) := by
          rw [tag_eq, tag_eq]
          unfold ytagB at hy
          by_cases h1 : f.tag = [50, 54, 48]
          · exact .inl (by simp [h1])
          · have h2 : f.tag = [50, 54, 52] := by simpa [h1] using hy
            exact .inr ⟨by simp [h1], by simp [h2]⟩
        have hle := allL_length f.subs [99]
        have hsm := allL_small f.subs [99] HS1.out.2
        have HHit2 := Lib.hid (firstI_hit [] (fun v => yearB v 0 0) (allL f.subs [99]))
        have HMiss2 := Lib.hid (firstI_miss [] (fun v => yearB v 0 0) (allL f.subs [99]))
        have HPos := Lib.hid (fun v => (yearB_range v 0 0).1)
        have c1' := Lib.hid (cA.out f x wr hq (by have := HS1.out.1; omega))
        have hv : yearsV f = firstI (fun v => yearB v 0 0) (allL f.subs [99]) := rfl
        rw [hv] at HNext HHitk
        have hm0 : (allL f.subs [99]).length ≤ 1000 := Nat.le_trans hle HS1.out.1
        generalize allL f.subs [99] = M at *
        have HSm := Lib.hid hsm
        obtain ⟨ax, nx, cx, hx⟩ : ∃ ax nx cx, x = .slice ax nx cx := by obtain ⟨ax, cx, rfl, _⟩ := hq; exact ⟨_, _, _, rfl⟩
        subst hx
        clear hyf hy hbw hq hle hsm hv HS1
        generalize S f.tag = t0 at *
        generalize S f.ind = t1 at *
        generalize f.auth = t3 at *
        rcases hor with e1 | ⟨e1, e2⟩
        all_goals
          go_wp2_with fail
          refine (c1'.out).mono ?_
          rintro e w2 ⟨v', rfl, h1, h2⟩
          have HB2 := Lib.hid (Hbw.out.trans (h2.mono Hbw.out.size))
          have HBl := Lib.hid h1
          obtain ⟨a2, cap2, rfl, hc2, hm2, _, _⟩ := h1
          unfold maxLen at hm2
          obtain ⟨m, hm⟩ : ∃ m, M.length = m := ⟨_, rfl⟩
          rw [hm] at HHit2 HMiss2 HBl hc2 hm0 ⊢
          have HM := Lib.hid hm
          have HP4 := Lib.hid ((HB2.out.cell (p := ⟨w.heap.size, 4, none⟩) hlt).trans k4)
          clear h2 hm j4 c0 c1 c2 c3
          go_wp2
          go_loopw [5] (fun p wr => ∃ q : Nat, q ≤ m ∧ p = .int .i64 (q : Int) ∧ RowKit.Hid (∀ j, j < q → yearB (M.getD j []) 0 0 = 0) ∧ wr = w2) (fun p _ => m - (intOf p).toNat)
          case atStart => exact ⟨0, Nat.zero_le _, rfl, (fun j hj => by omega), rfl⟩
          case round =>
            obtain ⟨q, hq, rfl, hzz, rfl⟩ := hrel
            by_cases hqm : q < m
            · obtain ⟨_, _, he, _, _, _, hcc⟩ := HBl.out
              obtain ⟨ga, oa, hea, hga, y0⟩ := hcc q (by rw [HM.out]; exact hqm)
              obtain ⟨h1, -, -⟩ := Value.slice.inj he
              rw [← h1] at hea
              subst hea
              clear he hcc h1
              have i3 : (0 : Int) ≤ (q : Int) := by omega
              have i4 : (q : Int) < (m : Int) := by omega
              have HS2 := Lib.hid (HSm.out q)
              have HNx2 : RowKit.Hid (yearB (M.getD q []) 0 0 = 0 → ∀ j, j < q + 1 → yearB (M.getD j []) 0 0 = 0) := by
                intro h j hj
                rcases Nat.lt_or_ge j q with h1 | h1
                · exact hzz.out j h1
                · obtain rfl : j = q := by omega
                  exact h
              have HHq := Lib.hid (HHit2.out q hqm hzz.out)
              have HP := Lib.hid (HPos.out (M.getD q []))
              have cYq := Lib.hid (cY.out (M.getD q []) wr HS2.out)
              have y1 : wr.cell? ⟨ga, oa + q, none⟩ = some (.string (S (M.getD q []))) := y0
              clear y0 hzz
              obtain ⟨yv, hyv⟩ : ∃ yv, yearB (M.getD q []) 0 0 = yv := ⟨_, rfl⟩
              rw [hyv] at HNx2 HHq HP cYq
              clear hyv
              generalize S (M.getD q []) = sq at *
              go_wp2_with fail
              refine (cYq.out).mono ?_
              rintro e w3 ⟨rfl, rfl⟩
              by_cases hp : 0 < yv
              · have e5 : decide ((0 : Int) < yv) = true := decide_eq_true hp
                have hres : yearR r.fields = yv := by
                  have h3 := HHq.out (by omega)
                  rw [HHitk.out (by rw [h3]; omega), h3]
                have HRes := Lib.hid hres
                clear hres
                go_wp2
                go_ret
                rw [HRes.out]
                exact ⟨rfl, HB0.out.trans (HB2.out.mono HB0.out.size)⟩
              · have e5 : decide ((0 : Int) < yv) = false := decide_eq_false hp
                have hy0 : yv = 0 := by have := HP.out; omega
                have HZ2 := Lib.hid (HNx2.out hy0)
                clear hy0 hp
                go_wp2
                go_roundw
                case rel => exact ⟨q + 1, by omega, by go_num, HZ2, trivial⟩
                case measure => simp [intOf]; omega
            · obtain rfl : q = m := by omega
              have HNx := Lib.hid (HNext.out (HMiss2.out hzz.out))
              clear hzz
              go_wp2
              go_roundw
              case rel => exact ⟨k + 1, by omega, by go_num, HNx, HB2.out⟩
              case measure => simp [intOf]; omega
      · have hyf : yearF f = 0 := by unfold yearF; rw [if_neg hy]
        have HNx := Lib.hid (HNext.out hyf)
        have e1 : ((S f.tag).toList == [50, 54, 48]) = false := by
          rw [tag_eq]
          unfold ytagB at hy
          have : ¬ f.tag = [50, 54, 48] := fun h => hy (by rw [h]; rfl)
          simp [this]
        have e2 : ((S f.tag).toList == [50, 54, 52]) = false := by
          rw [tag_eq]
          unfold ytagB at hy
          have : ¬ f.tag = [50, 54, 52] := fun h => hy (by rw [h]; rfl)
          simp [this]
        clear hyf hy hbw HNext HHitk
        generalize S f.tag = t0 at *
        go_wp2
        go_roundw
        case rel => exact ⟨k + 1, by omega, by go_num, HNx, Hbw.out⟩
        case measure => simp [intOf]; omega
    · obtain rfl : k = n := by omega
      have hres : yearR r.fields = 0 := HMiss.out hz.out
      have HRes := Lib.hid hres
      have Fin := Lib.hid (HB0.out.trans (hbw.mono HB0.out.size))
      clear hbw hz hres
      go_wp2
      go_ret
      rw [HRes.out]
      exact ⟨rfl, Fin.out⟩
end

section
open Go.RowKit
def strV (x : List Nat) : Value := .string (T x)

/-- A slice of strings in memory from block B on: these words. -/
abbrev Strs (B : Nat) (v : Value) (ws : List (List Nat)) (w : World) : Prop := w.ownsRow B 9 1 v ws.length (ws.map strV)

theorem infoStr : (Tryz.prog.info? 9).map (fun i => (i.zero, i.size, i.bytes)) = some (some (.string ⟨#[]⟩), 1, 16) := by kernel_rfl

theorem ownsRow_iterAt {w : World} {B e size n : Nat} {v : Value} {xs : List Value} (h : w.ownsRow B e size v n xs) {k : Nat} (hk : k < B) (s : ByteArray) (p : Nat) : (w.iterAt k s p).ownsRow B e size v n xs := by
  refine ⟨h.1, ?_⟩
  rcases h.2 with hn | ⟨g, cap, cur, hv, hb, hg, rest⟩
  · exact .inl hn
  · exact .inr ⟨g, cap, cur, hv, hb, (Lib.iterAt_other w k g s p (by omega)).trans hg, rest⟩

/-- A slice of strings, opened. -/
theorem Strs.open {B : Nat} {v : Value} {ws : List (List Nat)} {w : World} (h : Strs B v ws w) (hne : ws ≠ []) :
    ∃ g cap, v = .slice (some ⟨g, 0, none⟩) ws.length cap ∧ B ≤ g ∧ g < w.heap.size ∧ ws.length ≤ cap ∧ cap ≤ maxLen ∧ ∀ i (hi : i < ws.length), w.cell? ⟨g, i, none⟩ = some (.string (T ws[i])) := by
  rcases h.2 with ⟨_, h0⟩ | ⟨g, cap, cur, rfl, hb, hg, hc, hm, hs, ht⟩
  · exact absurd (List.eq_nil_of_length_eq_zero h0) hne
  · refine ⟨g, cap, rfl, hb, (Array.getElem?_eq_some_iff.1 hg).1, hc, hm, fun i hi => ?_⟩
    have := h.cells (g := g) rfl i (.string (T ws[i])) (by simp [strV, hi])
    have hadd : (⟨g, 0, none⟩ : Addr).add i = ⟨g, i, none⟩ := by unfold Addr.add; split <;> simp_all
    rwa [hadd] at this

theorem Strs.form {B : Nat} {v : Value} {ws : List (List Nat)} {w : World} (h : Strs B v ws w) : ∃ ao cap, v = .slice ao ws.length cap := by
  rcases h.2 with ⟨hv, h0⟩ | ⟨g, cap, cur, hv, _⟩
  · exact ⟨none, 0, by rw [hv, h0]⟩
  · exact ⟨_, _, hv⟩

theorem Strs.below {B B' : Nat} {v : Value} {ws : List (List Nat)} {w w' : World} (h : Strs B v ws w) (hb : Below B' w w') (hB : w.heap.size ≤ B') : Strs B v ws w' := by
  refine ⟨h.1, ?_⟩
  rcases h.2 with hn | ⟨g, cap, cur, hv, hB', hg, rest⟩
  · exact .inl hn
  · have hlt : g < w.heap.size := (Array.getElem?_eq_some_iff.1 hg).1
    exact .inr ⟨g, cap, cur, hv, hB', (hb.block g (by omega)).trans hg, rest⟩

theorem Strs.after {B : Nat} {v : Value} {ws : List (List Nat)} {w w' : World} (h : Strs B v ws w) (hb : Below w.heap.size w w') : Strs B v ws w' := h.below hb (Nat.le_refl _)

theorem cut_T (cs : List Nat) (k : Nat) (hk : k < cs.length) : (T cs).extract (off cs k) (off cs (k + 1)) = T [cs[k]] := by
  rw [extract_T]
  congr 1
  rw [List.take_succ_eq_append_getElem hk, List.drop_append_of_le_length (by rw [List.length_take]; omega), List.drop_eq_nil_of_le (by rw [List.length_take]; omega)]
  rfl

theorem T_append (a b : List Nat) : T a ++ T b = T (a ++ b) := by
  apply eq_T
  rw [ByteArray.data_append, Array.toList_append, T_list, T_list, enc_append]

theorem T_bound (a : List Nat) : (T a).size ≤ 4 * a.length := by rw [T_size]; exact enc_le a

theorem T_facts (x : List Nat) (h : x ≠ []) : (T x).toList.isEmpty = false ∧ ¬ (T x).toList = [] := by
  have h1 : 0 < (T x).size := by
    rcases Nat.eq_zero_or_pos (T x).size with h0 | h0
    · exact absurd ((T_size_zero x).1 h0) h
    · exact h0
  have h2 : (T x).toList = enc x := by
    rw [← T_list]
    exact ByteArray.toList_eq _
  have h3 : ¬ enc x = [] := by
    intro h0
    rw [T_size, h0] at h1
    exact absurd h1 (by simp)
  rw [h2]
  refine ⟨?_, h3⟩
  cases he : enc x with
  | nil => exact absurd he h3
  | cons _ _ => rfl
end

end Go.Proofs.YtcnjjdbpcobolaaGreatDoor
