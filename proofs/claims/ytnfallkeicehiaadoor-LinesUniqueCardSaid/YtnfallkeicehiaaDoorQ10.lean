/- Merged: Plain11, Plain11B, Plain11C. -/
import Derived.Test.YtnfallkeicehiaaDoorQ09
namespace Go.Proofs.YtnfallkeicehiaaDoor

section
/-! Lines. -/
def lnL : List UInt8 → List UInt8
  | [] => []
  | c :: t => if c = 10 then [] else c :: lnL t
def lnE : List UInt8 → Bool
  | [] => false
  | c :: t => if c = 10 then true else lnE t
def lnR : List UInt8 → List UInt8
  | [] => []
  | c :: t => if c = 10 then t else lnR t
theorem ln_yes : ∀ (s : List UInt8), lnE s = true → s = lnL s ++ 10 :: lnR s
  | [], h => by cases h
  | c :: t, h => by
    unfold lnE at h
    unfold lnL lnR
    by_cases hc : c = 10
    · rw [if_pos hc, if_pos hc, hc]; rfl
    · rw [if_neg hc] at h
      rw [if_neg hc, if_neg hc, List.cons_append, ← ln_yes t h]
theorem ln_no : ∀ (s : List UInt8), lnE s = false → lnL s = s ∧ lnR s = []
  | [], _ => ⟨rfl, rfl⟩
  | c :: t, h => by
    unfold lnE at h
    unfold lnL lnR
    by_cases hc : c = 10
    · rw [if_pos hc] at h; cases h
    · rw [if_neg hc] at h
      rw [if_neg hc, if_neg hc, (ln_no t h).1, (ln_no t h).2]
      exact ⟨rfl, rfl⟩
theorem ln_app : ∀ (x t : List UInt8), (∀ b ∈ x, b ≠ 10) → lnL (x ++ 10 :: t) = x ∧ lnR (x ++ 10 :: t) = t ∧ lnE (x ++ 10 :: t) = true
  | [], t, _ => ⟨rfl, rfl, rfl⟩
  | c :: x, t, h => by
    have hc : c ≠ 10 := h c (by simp)
    obtain ⟨h1, h2, h3⟩ := ln_app x t (fun b hb => h b (by simp [hb]))
    rw [List.cons_append, lnL, lnR, lnE, if_neg hc, if_neg hc, if_neg hc, h1, h2, h3]
    exact ⟨rfl, rfl, rfl⟩
theorem ln_len (s : List UInt8) (h : lnE s = true) : (lnL s).length + 1 + (lnR s).length = s.length := by
  have := congrArg List.length (ln_yes s h)
  rw [List.length_append, List.length_cons] at this
  omega

/-! Their bytes. -/
theorem three_mem (l : List UInt8) (h : l.length = 3) : ∀ b ∈ l, b = l.getD 0 0 ∨ b = l.getD 1 0 ∨ b = l.getD 2 0 := by
  match l, h with
  | [x, y, z], _ => intro b hb; simpa using hb
theorem two_mem (l : List UInt8) (h : l.length = 2) : ∀ b ∈ l, b = l.getD 0 0 ∨ b = l.getD 1 0 := by
  match l, h with
  | [x, y], _ => intro b hb; simpa using hb
theorem dec_byte (n : Nat) : ∀ b ∈ Lib.decDigits n, 48 ≤ b.toNat ∧ b.toNat ≤ 57 := fun b hb => (digB_iff b).1 (List.all_eq_true.1 (dec_digits n) b hb)
theorem dbl_byte : ∀ (l : List UInt8), (∀ b ∈ l, 32 ≤ b.toNat) → ∀ b ∈ dblL l, 32 ≤ b.toNat
  | [], _, b, hb => by cases hb
  | x :: t, h, b, hb => by
    have ih := dbl_byte t (fun b hb => h b (by simp [hb]))
    rw [dblL] at hb
    by_cases hx : x = 36
    · rw [if_pos hx] at hb
      rcases List.mem_cons.1 hb with rfl | hb
      · decide
      rcases List.mem_cons.1 hb with rfl | hb
      · decide
      exact ih b hb
    · rw [if_neg hx] at hb
      rcases List.mem_cons.1 hb with rfl | hb
      · exact h b (by simp)
      exact ih b hb
theorem ind_byte (c : UInt8) (h : indB c = true) : ∀ b ∈ markB c, 32 ≤ b.toNat := by
  intro b hb
  unfold markB at hb
  by_cases h32 : c = 32
  · rw [if_pos h32] at hb
    rw [List.mem_singleton.1 hb]; decide
  · rw [if_neg h32] at hb
    rw [List.mem_singleton.1 hb]
    unfold indB at h
    rw [decide_eq_false h32, Bool.false_or] at h
    have := (digB_iff c).1 h
    omega
theorem line_byte (f : Fld) (h : rightI f = 0) : ∀ b ∈ lineL f, 32 ≤ b.toNat := by
  obtain ⟨htag, hind, _, _, hsub, _, _⟩ := right_facts f h
  have h3 := tagB_len _ htag
  have h2 := indsB_len _ hind
  unfold tagB at htag
  unfold indsB at hind
  simp only [Bool.and_eq_true] at htag hind
  intro b hb
  unfold lineL headL at hb
  simp only [List.mem_append, List.mem_cons, List.not_mem_nil, or_false] at hb
  rcases hb with ((hb | hb) | (rfl | ((hb | hb) | rfl))) | hb
  · obtain ⟨⟨⟨⟨_, t0⟩, t1⟩, t2⟩, _⟩ := htag
    rcases three_mem _ h3 b hb with rfl | rfl | rfl
    · have := (digB_iff _).1 t0; omega
    · have := (digB_iff _).1 t1; omega
    · have := (digB_iff _).1 t2; omega
  · unfold authP at hb
    by_cases ha : f.auth = 0
    · rw [if_pos ha] at hb; cases hb
    · rw [if_neg ha] at hb
      rcases List.mem_cons.1 hb with rfl | hb
      · decide
      · unfold padL at hb
        rcases List.mem_append.1 hb with hb | hb
        · rw [(List.mem_replicate.1 hb).2]; decide
        · have := dec_byte _ b hb; omega
  · decide
  · exact ind_byte _ hind.1.2 b hb
  · exact ind_byte _ hind.2 b hb
  · decide
  · unfold bodyL at hb
    obtain ⟨s, hs, hb⟩ := List.mem_flatMap.1 hb
    obtain ⟨i, hi, rfl⟩ := List.mem_iff_getElem.1 hs
    have he := hsub i hi
    rw [List.getD_eq_getElem?_getD, List.getElem?_eq_getElem hi] at he
    obtain ⟨e1, _, e3, _⟩ := subE_zero _ he
    unfold subP at hb
    rcases List.mem_cons.1 hb with rfl | hb
    · decide
    rcases List.mem_cons.1 hb with rfl | hb
    · have := code_byte _ e1
      simp at this ⊢
      omega
    · exact dbl_byte _ (valid_byte _ e3) b hb
theorem line_ten (f : Fld) (h : rightI f = 0) : ∀ b ∈ lineL f, b ≠ 10 := by
  intro b hb e
  have := line_byte f h b hb
  rw [e] at this
  exact absurd this (by decide)
theorem line_ne (f : Fld) : lineL f ≠ [] := by
  unfold lineL headL
  simp

/-! The header. -/
def kindW (k : Int) : List UInt8 := if k = 1 then [98, 111, 111, 107] else if k = 2 then [115, 101, 114, 105, 97, 108] else if k = 3 then [109, 97, 112] else [100, 105, 103, 105, 116, 97, 108]
def midX (v k : Int) : List UInt8 := Lib.decDigits v.toNat ++ 32 :: kindW k
def hdrX (id v k : Int) (lang : List UInt8) : List UInt8 := 61 :: (Lib.decDigits id.toNat ++ 32 :: (midX v k ++ 32 :: lang))
def hdrR (r : Rec) : List UInt8 := hdrX r.id r.ver r.kind r.lang
/-- The number that a text is in decimal, without leading noughts. -/
def numO (l : List UInt8) : Option Nat := if l.length < 1 ∨ 9 < l.length ∨ (l.getD 0 0 = 48 ∧ 1 < l.length) then none else if l.all digB = true then some (valV l) else none
def cands : List (Int × Int) := [(1, 1), (1, 2), (1, 3), (1, 4), (2, 1), (2, 2), (2, 3), (2, 4), (3, 1), (3, 2), (3, 3), (3, 4)]
def blankI (l : List UInt8) : Nat := (l.takeWhile (fun c => c != 32)).length
def hdrO (l : List UInt8) : Option Rec :=
  if blankI l < 2 ∨ l.length < blankI l + 4 ∨ l.getD 0 0 ≠ 61 then none
  else match numO ((l.drop 1).take (blankI l - 1)) with
    | none => none
    | some n => (cands.find? fun c => decide (rightRI ⟨n, c.1, c.2, l.drop (l.length - 3), []⟩ = 0 ∧ hdrX n c.1 c.2 (l.drop (l.length - 3)) = l)).map fun c => ⟨n, c.1, c.2, l.drop (l.length - 3), []⟩
theorem hdrO_sound (l : List UInt8) (r : Rec) (h : hdrO l = some r) : rightRI r = 0 ∧ hdrR r = l ∧ r.fields = [] := by
  unfold hdrO at h
  split at h
  · cases h
  · split at h
    · cases h
    · obtain ⟨c, hc, rfl⟩ := Option.map_eq_some_iff.1 h
      have := List.find?_some hc
      obtain ⟨h1, h2⟩ := of_decide_eq_true this
      exact ⟨h1, h2, rfl⟩
theorem dec_first : ∀ n, 10 ≤ n → (Lib.decDigits n).getD 0 0 ≠ 48 := by
  intro n
  induction n using Nat.strongRecOn with
  | ind n ih =>
    intro h
    rw [decS n (by omega)]
    have hp := dec_pos (n / 10)
    rw [List.getD_eq_getElem?_getD, List.getElem?_append_left hp, ← List.getD_eq_getElem?_getD]
    by_cases h10 : n / 10 < 10
    · rw [dec1 _ h10]
      intro e
      have := congrArg UInt8.toNat e
      have h2 := dgt_nat (n / 10) (by omega)
      have h3 : ([dgt (n / 10)].getD 0 0).toNat = (48 : UInt8).toNat := this
      change (dgt (n / 10)).toNat = 48 at h3
      omega
    · exact ih (n / 10) (by omega) (by omega)
theorem numO_dec (n : Nat) (h : n ≤ 9999) : numO (Lib.decDigits n) = some n := by
  have hp := dec_pos n
  have hl := dec_len 3 n (by omega)
  unfold numO
  rw [if_neg, if_pos (dec_digits n), valV_dec]
  rintro (h1 | h1 | ⟨h1, h2⟩)
  · omega
  · omega
  · by_cases h10 : n < 10
    · rw [dec1 n h10] at h2
      simp at h2
    · exact dec_first n (by omega) h1
theorem mid_inj : ∀ c ∈ cands, ∀ d ∈ cands, midX c.1 c.2 = midX d.1 d.2 → c = d := by decide +kernel
theorem cands_mem (v k : Int) (h1 : 1 ≤ v) (h2 : v ≤ 3) (h3 : 1 ≤ k) (h4 : k ≤ 4) : (v, k) ∈ cands := by
  obtain rfl | rfl | rfl : v = 1 ∨ v = 2 ∨ v = 3 := by omega
  all_goals
    obtain rfl | rfl | rfl | rfl : k = 1 ∨ k = 2 ∨ k = 3 ∨ k = 4 := by omega
    all_goals decide
theorem blank_hdr (id v k : Int) (lang : List UInt8) : blankI (hdrX id v k lang) = 1 + (Lib.decDigits id.toNat).length := by
  have hx : ∀ (x t : List UInt8), (∀ b ∈ x, b ≠ 32) → (List.takeWhile (fun c => c != 32) (x ++ 32 :: t)) = x := by
    intro x t h
    induction x with
    | nil => simp
    | cons c x ih =>
      rw [List.cons_append, List.takeWhile_cons, if_pos (by simpa using h c (by simp)), ih (fun b hb => h b (by simp [hb]))]
  unfold blankI hdrX
  rw [← List.cons_append, hx _ _ (fun b hb => ?_), List.length_cons, Nat.add_comm]
  rcases List.mem_cons.1 hb with rfl | hb
  · decide
  · have := dec_byte _ b hb
    rintro rfl
    exact absurd this.1 (by decide)
theorem hdrO_back (r : Rec) (h : rightRI r = 0) (hf : r.fields = []) : hdrO (hdrR r) = some r := by
  obtain ⟨a1, a2, a3, a4, a5, a6, a7, _, _⟩ := right_rec r h
  have h3 := lang_len _ a7
  have hb := blank_hdr r.id r.ver r.kind r.lang
  have hp := dec_pos r.id.toNat
  have hlen : (hdrR r).length = 1 + ((Lib.decDigits r.id.toNat).length + (1 + ((midX r.ver r.kind).length + (1 + 3)))) := by
    unfold hdrR hdrX
    simp only [List.length_cons, List.length_append, h3]
    omega
  have hlast : (hdrR r).drop ((hdrR r).length - 3) = r.lang := by
    have e : hdrR r = (61 :: (Lib.decDigits r.id.toNat ++ 32 :: (midX r.ver r.kind ++ [32]))) ++ r.lang := by unfold hdrR hdrX; simp
    rw [e, List.length_append, h3, Nat.add_sub_cancel, List.drop_left]
  have hnum : ((hdrR r).drop 1).take (blankI (hdrR r) - 1) = Lib.decDigits r.id.toNat := by
    unfold hdrR
    rw [hb, Nat.add_sub_cancel_left]
    unfold hdrX
    rw [List.drop_one, List.tail_cons, List.take_left]
  unfold hdrO
  rw [if_neg (by
    unfold hdrR at hlen ⊢
    rw [hb]
    rintro (g | g | g)
    · omega
    · omega
    · exact g rfl), hnum, numO_dec _ (by omega), hlast]
  have hid : ((r.id.toNat : Nat) : Int) = r.id := by omega
  show Option.map _ _ = _
  cases hfd : cands.find? fun c => decide (rightRI ⟨((r.id.toNat : Nat) : Int), c.1, c.2, r.lang, []⟩ = 0 ∧ hdrX ((r.id.toNat : Nat) : Int) c.1 c.2 r.lang = hdrR r) with
  | none =>
    have := List.find?_eq_none.1 hfd (r.ver, r.kind) (cands_mem _ _ a3 a4 a5 a6)
    refine absurd (decide_eq_true ⟨?_, ?_⟩) this
    · rw [hid]
      have : (⟨r.id, r.ver, r.kind, r.lang, []⟩ : Rec) = r := by rw [← hf]
      show rightRI ⟨r.id, r.ver, r.kind, r.lang, []⟩ = 0
      rw [this]; exact h
    · rw [hid]; rfl
  | some c =>
    have hsm := List.find?_some hfd
    obtain ⟨_, h2⟩ := of_decide_eq_true hsm
    have hm := List.mem_of_find?_eq_some hfd
    rw [hid] at h2
    unfold hdrR hdrX at h2
    have h4 := List.append_cancel_left (List.cons.inj h2).2
    have h5 := List.append_cancel_right (List.cons.inj h4).2
    have h6 := mid_inj c hm (r.ver, r.kind) (cands_mem _ _ a3 a4 a5 a6) h5
    subst h6
    rw [Option.map_some, hid]
    show some (⟨r.id, r.ver, r.kind, r.lang, []⟩ : Rec) = some r
    rw [← hf]
end

section
def bodyF (F : List Fld) : List UInt8 := F.flatMap fun f => lineL f ++ [10]
def textX (r : Rec) : List UInt8 := hdrR r ++ 10 :: (bodyF r.fields ++ [10])
def prnX (r : Rec) : List UInt8 × Int := if rightRI r ≠ 0 then ([], rightRI r) else (textX r, 0)
/-- The lines of fields: the fields, the text behind, the number of its line, the error. -/
def fldsP (s : List UInt8) (F : List Fld) (k : Nat) : List Fld × List UInt8 × Nat × Int :=
  if lnL s ≠ [] ∧ 64 ≤ F.length then ([], s, k, 4)
  else if _h : lnE s = false then ([], s, k, 3)
  else if lnL s = [] then (F, lnR s, k + 1, 0)
  else match parseO (lnL s) with
    | none => ([], s, k, 3)
    | some f => fldsP (lnR s) (F ++ [f]) (k + 1)
termination_by s.length
decreasing_by
  have := ln_len s (by simpa using _h)
  omega
def oneF (r : Rec) (x : List Fld × List UInt8 × Nat × Int) : Rec × List UInt8 × Nat × Int := if x.2.2.2 ≠ 0 then (rec0, x.2) else (⟨r.id, r.ver, r.kind, r.lang, x.1⟩, x.2)
/-- One record: it, the text behind, the number of its line, the error. -/
def oneP (s : List UInt8) (k : Nat) : Rec × List UInt8 × Nat × Int :=
  match hdrO (lnL s) with
  | none => (rec0, s, k, 3)
  | some r => if lnE s = false then (rec0, s, k, 3) else oneF r (fldsP (lnR s) [] (k + 1))
def parX (s : List UInt8) : Rec × Int × Int :=
  if (oneP s 1).2.2.2 ≠ 0 then (rec0, ((oneP s 1).2.2.1 : Int), (oneP s 1).2.2.2)
  else if (oneP s 1).2.1 ≠ [] then (rec0, ((oneP s 1).2.2.1 : Int), 3) else ((oneP s 1).1, 0, 0)

section
variable (s : List UInt8) (F : List Fld) (k : Nat)
theorem flds_long (h : lnL s ≠ []) (h2 : 64 ≤ F.length) : fldsP s F k = ([], s, k, 4) := by rw [fldsP, if_pos ⟨h, h2⟩]
theorem flds_cut (h : ¬ (lnL s ≠ [] ∧ 64 ≤ F.length)) (h2 : lnE s = false) : fldsP s F k = ([], s, k, 3) := by rw [fldsP, if_neg h, dif_pos h2]
theorem flds_end (h : lnL s = []) (h2 : lnE s = true) : fldsP s F k = (F, lnR s, k + 1, 0) := by
  rw [fldsP, if_neg (fun g => g.1 h), dif_neg (by rw [h2]; decide), if_pos h]
theorem flds_bad (h : lnL s ≠ []) (h3 : F.length < 64) (h2 : lnE s = true) (h4 : parseO (lnL s) = none) : fldsP s F k = ([], s, k, 3) := by
  rw [fldsP, if_neg (fun g => absurd g.2 (by omega)), dif_neg (by rw [h2]; decide), if_neg h, h4]
theorem flds_go (h : lnL s ≠ []) (h3 : F.length < 64) (h2 : lnE s = true) (f : Fld) (h4 : parseO (lnL s) = some f) : fldsP s F k = fldsP (lnR s) (F ++ [f]) (k + 1) := by
  rw [fldsP, if_neg (fun g => absurd g.2 (by omega)), dif_neg (by rw [h2]; decide), if_neg h, h4]
end
theorem body_cons (f : Fld) (F : List Fld) (t : List UInt8) : bodyF (f :: F) ++ t = lineL f ++ 10 :: (bodyF F ++ t) := by
  unfold bodyF
  simp
theorem flds_back : ∀ (G F : List Fld) (t : List UInt8) (k : Nat), (∀ f ∈ G, rightI f = 0) → F.length + G.length ≤ 64 → fldsP (bodyF G ++ 10 :: t) F k = (F ++ G, t, k + G.length + 1, 0)
  | [], F, t, k, _, _ => by
    rw [List.append_nil]
    exact flds_end (10 :: t) F k rfl rfl
  | f :: G, F, t, k, h, hn => by
    have hr := h f (by simp)
    obtain ⟨h1, h2, h3⟩ := ln_app (lineL f) (bodyF G ++ 10 :: t) (line_ten f hr)
    rw [List.length_cons] at hn
    rw [body_cons, flds_go _ F k (by rw [h1]; exact line_ne f) (by omega) h3 f (by rw [h1]; exact parse_back f hr), h2,
      flds_back G (F ++ [f]) t (k + 1) (fun g hg => h g (by simp [hg])) (by rw [List.length_append]; simp; omega)]
    simp only [List.append_assoc, List.cons_append, List.nil_append, List.length_cons]
    rw [show k + 1 + G.length + 1 = k + (G.length + 1) + 1 by omega]
theorem flds_sound : ∀ (n : Nat) (s : List UInt8) (F : List Fld) (k : Nat) (G : List Fld) (t : List UInt8) (m : Nat), s.length ≤ n → F.length ≤ 64 → fldsP s F k = (G, t, m, 0) →
    ∃ H, G = F ++ H ∧ (∀ f ∈ H, rightI f = 0) ∧ G.length ≤ 64 ∧ s = bodyF H ++ 10 :: t ∧ m = k + H.length + 1
  | n, s, F, k, G, t, m, hn, hF, h => by
    by_cases h1 : lnL s ≠ [] ∧ 64 ≤ F.length
    · rw [flds_long s F k h1.1 h1.2] at h
      simp at h
    cases h2 : lnE s
    · rw [flds_cut s F k h1 h2] at h
      simp at h
    by_cases h3 : lnL s = []
    · rw [flds_end s F k h3 h2] at h
      simp only [Prod.mk.injEq, and_true] at h
      obtain ⟨rfl, rfl, rfl⟩ := h
      have := ln_yes s h2
      rw [h3] at this
      exact ⟨[], by simp, (fun f hf => by cases hf), hF, this, by simp⟩
    have h64 : F.length < 64 := by
      rcases Nat.lt_or_ge F.length 64 with g | g
      · exact g
      · exact absurd ⟨h3, g⟩ h1
    cases h4 : parseO (lnL s) with
    | none =>
      rw [flds_bad s F k h3 h64 h2 h4] at h
      simp at h
    | some f =>
      rw [flds_go s F k h3 h64 h2 f h4] at h
      have hl := ln_len s h2
      cases n with
      | zero => omega
      | succ n =>
        obtain ⟨H, e1, e2, e3, e4, e5⟩ := flds_sound n (lnR s) (F ++ [f]) (k + 1) G t m (by omega) (by rw [List.length_append]; simp; omega) h
        obtain ⟨p1, p2⟩ := parse_sound _ _ h4
        refine ⟨f :: H, by rw [e1]; simp, ?_, e3, ?_, by rw [e5, List.length_cons]; omega⟩
        · intro g hg
          rcases List.mem_cons.1 hg with rfl | hg
          · exact p1
          · exact e2 g hg
        · rw [body_cons, p2, ← e4]
          exact ln_yes s h2
theorem right_with (r : Rec) (F : List Fld) (h : rightRI r = 0) (hl : F.length ≤ 64) (hF : ∀ f ∈ F, rightI f = 0) : rightRI ⟨r.id, r.ver, r.kind, r.lang, F⟩ = 0 := by
  obtain ⟨a1, a2, a3, a4, a5, a6, a7, _, _⟩ := right_rec r h
  unfold rightRI
  rw [if_neg (by simp only; omega), if_neg (by simp only; omega), if_neg (by simp only; omega), if_neg (by simp only; rw [a7]; decide), if_neg (by simp only; omega)]
  exact (firstFE_zero _).2 hF
theorem hdr_ten (r : Rec) (h : rightRI r = 0) : ∀ b ∈ hdrR r, b ≠ 10 := by
  obtain ⟨a1, a2, a3, a4, a5, a6, a7, _, _⟩ := right_rec r h
  have h3 := lang_len _ a7
  intro b hb
  unfold hdrR hdrX midX at hb
  simp only [List.mem_append, List.mem_cons, List.cons_append, List.append_assoc] at hb
  rcases hb with rfl | hb | rfl | hb | rfl | hb | rfl | hb
  · decide
  · have := dec_byte _ b hb
    rintro rfl
    exact absurd this.1 (by decide)
  · decide
  · have := dec_byte _ b hb
    rintro rfl
    exact absurd this.1 (by decide)
  · decide
  · have hk : ∀ b ∈ kindW r.kind, b ≠ 10 := by
      unfold kindW
      split
      · decide
      · split
        · decide
        · split <;> decide
    exact hk b hb
  · decide
  · unfold langB at a7
    simp only [Bool.and_eq_true] at a7
    have low : ∀ c, lowB c = true → c ≠ 10 := by
      rintro c h rfl
      exact absurd h (by decide)
    rcases three_mem _ h3 b hb with rfl | rfl | rfl
    · exact low _ a7.1.1.2
    · exact low _ a7.1.2
    · exact low _ a7.2
theorem one_back (r : Rec) (t : List UInt8) (k : Nat) (h : rightRI r = 0) : oneP (textX r ++ t) k = (r, t, k + r.fields.length + 2, 0) := by
  obtain ⟨_, _, _, _, _, _, _, a8, a9⟩ := right_rec r h
  have e : textX r ++ t = hdrR r ++ 10 :: (bodyF r.fields ++ 10 :: t) := by unfold textX; simp
  obtain ⟨h1, h2, h3⟩ := ln_app (hdrR r) (bodyF r.fields ++ 10 :: t) (hdr_ten r h)
  have hb : hdrO (hdrR r) = some ⟨r.id, r.ver, r.kind, r.lang, []⟩ := hdrO_back ⟨r.id, r.ver, r.kind, r.lang, []⟩ (right_with r [] h (by simp) (by simp)) rfl
  unfold oneP
  rw [e, h1, hb]
  simp only
  rw [h3, if_neg (by decide), h2, flds_back r.fields [] t (k + 1) a9 (by simpa using a8)]
  unfold oneF
  rw [if_neg (by simp)]
  simp only [List.nil_append, Prod.mk.injEq, true_and, and_true]
  omega
theorem one_sound (s : List UInt8) (k : Nat) (r : Rec) (t : List UInt8) (m : Nat) (h : oneP s k = (r, t, m, 0)) : rightRI r = 0 ∧ s = textX r ++ t ∧ m = k + r.fields.length + 2 := by
  unfold oneP at h
  cases ho : hdrO (lnL s) with
  | none => rw [ho] at h; simp at h
  | some q =>
    rw [ho] at h
    simp only at h
    cases he : lnE s
    · rw [he, if_pos rfl] at h; simp at h
    rw [he, if_neg (by decide)] at h
    obtain ⟨q1, q2, q3⟩ := hdrO_sound _ _ ho
    obtain ⟨G, t2, m2, e2, hx⟩ : ∃ G t m e, fldsP (lnR s) [] (k + 1) = (G, t, m, e) := ⟨_, _, _, _, rfl⟩
    rw [hx] at h
    unfold oneF at h
    by_cases h0 : e2 = 0
    · subst h0
      rw [if_neg (fun g => g rfl)] at h
      simp only [Prod.mk.injEq, and_true] at h
      obtain ⟨rfl, rfl, rfl⟩ := h
      obtain ⟨H, e1, e2, e3, e4, e5⟩ := flds_sound _ (lnR s) [] (k + 1) G t2 m2 (Nat.le_refl _) (by simp) hx
      rw [List.nil_append] at e1
      subst e1
      refine ⟨right_with q G q1 e3 e2, ?_, ?_⟩
      · have hh : hdrR ⟨q.id, q.ver, q.kind, q.lang, G⟩ = lnL s := q2
        have := ln_yes s he
        unfold textX
        rw [hh]
        simp only [List.append_assoc, List.cons_append, List.nil_append]
        rw [← e4]
        exact this
      · rw [e5]
        show k + 1 + G.length + 1 = k + G.length + 2
        omega
    · rw [if_pos h0] at h
      simp only [Prod.mk.injEq] at h
      exact absurd h.2.2.2 h0
theorem par_back (r : Rec) (h : rightRI r = 0) : parX (textX r) = (r, 0, 0) := by
  have := one_back r [] 1 h
  rw [List.append_nil] at this
  unfold parX
  rw [this, if_neg (fun g => g rfl), if_neg (fun g => g rfl)]
theorem par_sound (s : List UInt8) (r : Rec) (n : Int) (h : parX s = (r, n, 0)) : n = 0 ∧ rightRI r = 0 ∧ textX r = s := by
  unfold parX at h
  obtain ⟨q, t, m, e, hx⟩ : ∃ q t m e, oneP s 1 = (q, t, m, e) := ⟨_, _, _, _, rfl⟩
  rw [hx] at h
  simp only at h
  by_cases h0 : e = 0
  · subst h0
    rw [if_neg (fun g => g rfl)] at h
    by_cases ht : t = []
    · subst ht
      rw [if_neg (fun g => g rfl)] at h
      simp only [Prod.mk.injEq, and_true] at h
      obtain ⟨rfl, rfl⟩ := h
      obtain ⟨h1, h2, _⟩ := one_sound s 1 q [] m hx
      rw [List.append_nil] at h2
      exact ⟨rfl, h1, h2.symm⟩
    · rw [if_pos ht] at h
      simp at h
  · rw [if_pos h0] at h
    simp only [Prod.mk.injEq] at h
    exact absurd h.2.2 h0
end

section
theorem par_bad (s : List UInt8) (r : Rec) (n e : Int) (h : parX s = (r, n, e)) (he : e ≠ 0) : r = rec0 := by
  unfold parX at h
  by_cases h0 : (oneP s 1).2.2.2 ≠ 0
  · rw [if_pos h0] at h
    exact (Prod.mk.inj h).1.symm
  · rw [if_neg h0] at h
    by_cases h1 : (oneP s 1).2.1 ≠ []
    · rw [if_pos h1] at h
      exact (Prod.mk.inj h).1.symm
    · rw [if_neg h1] at h
      simp only [Prod.mk.injEq] at h
      exact absurd h.2.2.symm he
theorem flds_num : ∀ (n : Nat) (s : List UInt8) (F : List Fld) (k : Nat), s.length ≤ n → k ≤ (fldsP s F k).2.2.1
  | n, s, F, k, hn => by
    by_cases h1 : lnL s ≠ [] ∧ 64 ≤ F.length
    · rw [flds_long s F k h1.1 h1.2]; exact Nat.le_refl _
    cases h2 : lnE s
    · rw [flds_cut s F k h1 h2]; exact Nat.le_refl _
    by_cases h3 : lnL s = []
    · rw [flds_end s F k h3 h2]; exact Nat.le_succ _
    have h64 : F.length < 64 := by
      rcases Nat.lt_or_ge F.length 64 with g | g
      · exact g
      · exact absurd ⟨h3, g⟩ h1
    cases h4 : parseO (lnL s) with
    | none => rw [flds_bad s F k h3 h64 h2 h4]; exact Nat.le_refl _
    | some f =>
      rw [flds_go s F k h3 h64 h2 f h4]
      have hl := ln_len s h2
      cases n with
      | zero => omega
      | succ n => exact Nat.le_trans (Nat.le_succ _) (flds_num n (lnR s) (F ++ [f]) (k + 1) (by omega))
theorem one_num (s : List UInt8) (k : Nat) : k ≤ (oneP s k).2.2.1 := by
  unfold oneP
  cases hdrO (lnL s) with
  | none => exact Nat.le_refl _
  | some q =>
    simp only
    split
    · exact Nat.le_refl _
    · have := flds_num _ (lnR s) [] (k + 1) (Nat.le_refl _)
      unfold oneF
      split <;> (simp only; omega)
theorem par_num (s : List UInt8) (r : Rec) (n e : Int) (h : parX s = (r, n, e)) (he : e ≠ 0) : 1 ≤ n := by
  have h1 := one_num s 1
  unfold parX at h
  by_cases h0 : (oneP s 1).2.2.2 ≠ 0
  · rw [if_pos h0] at h
    have := (Prod.mk.inj (Prod.mk.inj h).2).1
    omega
  · rw [if_neg h0] at h
    by_cases h2 : (oneP s 1).2.1 ≠ []
    · rw [if_pos h2] at h
      have := (Prod.mk.inj (Prod.mk.inj h).2).1
      omega
    · rw [if_neg h2] at h
      simp only [Prod.mk.injEq] at h
      exact absurd h.2.2.symm he

def catL : List Rec → List UInt8 × Int
  | [] => ([], 0)
  | r :: t => if (prnX r).2 ≠ 0 then ([], (prnX r).2) else if (catL t).2 ≠ 0 then ([], (catL t).2) else ((prnX r).1 ++ (catL t).1, 0)
def prnA (L : List Rec) : List UInt8 × Int :=
  if 64 < L.length then ([], 13) else if (catL L).2 ≠ 0 then ([], (catL L).2) else if 65536 < (catL L).1.length then ([], 4) else ((catL L).1, 0)
/-- What lies in front, and what comes behind it. -/
def catK (D : List UInt8) (x : List UInt8 × Int) : List UInt8 × Int := if x.2 ≠ 0 then ([], x.2) else (D ++ x.1, x.2)
theorem prn_no (r : Rec) (h : (prnX r).2 ≠ 0) : (prnX r).1 = [] := by
  unfold prnX at h ⊢
  by_cases h0 : rightRI r ≠ 0
  · rw [if_pos h0]
  · rw [if_neg h0] at h
    exact absurd rfl h
theorem prn_of (r : Rec) (h : rightRI r = 0) : prnX r = (textX r, 0) := by
  unfold prnX
  rw [if_neg (fun g => g h)]
theorem prn_ok (r : Rec) (h : (prnX r).2 = 0) : rightRI r = 0 ∧ (prnX r).1 = textX r := by
  unfold prnX at h ⊢
  by_cases h0 : rightRI r ≠ 0
  · rw [if_pos h0] at h
    exact absurd h h0
  · rw [if_neg h0]
    exact ⟨Decidable.not_not.1 h0, rfl⟩
theorem catL_no : ∀ (L : List Rec), (catL L).2 ≠ 0 → (catL L).1 = []
  | [], h => absurd rfl h
  | r :: t, h => by
    unfold catL at h ⊢
    by_cases h0 : (prnX r).2 ≠ 0
    · rw [if_pos h0]
    · rw [if_neg h0] at h ⊢
      by_cases h1 : (catL t).2 ≠ 0
      · rw [if_pos h1]
      · rw [if_neg h1] at h
        exact absurd rfl h
theorem catL_nil (L : List Rec) : catL L = catK [] (catL L) := by
  unfold catK
  by_cases h : (catL L).2 ≠ 0
  · rw [if_pos h, ← catL_no L h]
  · rw [if_neg h, List.nil_append]
theorem catK_cat (D s : List UInt8) (x : List UInt8 × Int) : catK D (catK s x) = catK (D ++ s) x := by
  unfold catK
  by_cases h : x.2 ≠ 0
  · rw [if_pos h, if_pos h, if_pos h]
  · rw [if_neg h, if_neg h, if_neg h, List.append_assoc]
theorem catL_step (L : List Rec) (k : Nat) (r : Rec) (h : L[k]? = some r) :
    catL (L.drop k) = if (prnX r).2 ≠ 0 then ([], (prnX r).2) else catK (prnX r).1 (catL (L.drop (k + 1))) := by
  have hk := (List.getElem?_eq_some_iff.1 h).1
  have e : L.drop k = r :: L.drop (k + 1) := by
    rw [List.drop_eq_getElem_cons hk, (List.getElem?_eq_some_iff.1 h).2]
  rw [e, catL]
  by_cases h0 : (prnX r).2 ≠ 0
  · rw [if_pos h0, if_pos h0]
  · rw [if_neg h0, if_neg h0]
    unfold catK
    by_cases h1 : (catL (L.drop (k + 1))).2 ≠ 0
    · rw [if_pos h1, if_pos h1]
    · rw [if_neg h1, if_neg h1, Decidable.not_not.1 h1]
theorem catL_ok : ∀ (L : List Rec), (catL L).2 = 0 → (∀ r ∈ L, rightRI r = 0) ∧ (catL L).1 = L.flatMap textX
  | [], _ => ⟨fun r hr => (by cases hr), rfl⟩
  | r :: t, h => by
    unfold catL at h ⊢
    by_cases h0 : (prnX r).2 ≠ 0
    · rw [if_pos h0] at h
      exact absurd h h0
    rw [if_neg h0] at h ⊢
    by_cases h1 : (catL t).2 ≠ 0
    · rw [if_pos h1] at h
      exact absurd h h1
    rw [if_neg h1]
    obtain ⟨p1, p2⟩ := prn_ok r (Decidable.not_not.1 h0)
    obtain ⟨q1, q2⟩ := catL_ok t (Decidable.not_not.1 h1)
    refine ⟨fun q hq => ?_, by rw [p2, q2]; rfl⟩
    rcases List.mem_cons.1 hq with rfl | hq
    · exact p1
    · exact q1 q hq
theorem catL_of : ∀ (L : List Rec), (∀ r ∈ L, rightRI r = 0) → catL L = (L.flatMap textX, 0)
  | [], _ => rfl
  | r :: t, h => by
    rw [catL, prn_of r (h r (by simp)), if_neg (fun g => g rfl), catL_of t (fun q hq => h q (by simp [hq])), if_neg (fun g => g rfl)]
    rfl
theorem prnA_no (L : List Rec) (s : List UInt8) (e : Int) (h : prnA L = (s, e)) (he : e ≠ 0) : s = [] := by
  unfold prnA at h
  by_cases h1 : 64 < L.length
  · rw [if_pos h1] at h; exact (Prod.mk.inj h).1.symm
  rw [if_neg h1] at h
  by_cases h2 : (catL L).2 ≠ 0
  · rw [if_pos h2] at h; exact (Prod.mk.inj h).1.symm
  rw [if_neg h2] at h
  by_cases h3 : 65536 < (catL L).1.length
  · rw [if_pos h3] at h; exact (Prod.mk.inj h).1.symm
  rw [if_neg h3] at h
  exact absurd (Prod.mk.inj h).2.symm he
theorem prnA_ok (L : List Rec) (s : List UInt8) (h : prnA L = (s, 0)) : L.length ≤ 64 ∧ (∀ r ∈ L, rightRI r = 0) ∧ s = L.flatMap textX ∧ s.length ≤ 65536 := by
  unfold prnA at h
  by_cases h1 : 64 < L.length
  · rw [if_pos h1] at h; simp at h
  rw [if_neg h1] at h
  by_cases h2 : (catL L).2 ≠ 0
  · rw [if_pos h2] at h; exact absurd (Prod.mk.inj h).2 h2
  rw [if_neg h2] at h
  by_cases h3 : 65536 < (catL L).1.length
  · rw [if_pos h3] at h; simp at h
  rw [if_neg h3] at h
  obtain ⟨q1, q2⟩ := catL_ok L (Decidable.not_not.1 h2)
  have hs := (Prod.mk.inj h).1
  exact ⟨by omega, q1, by rw [← hs, q2], by rw [← hs]; omega⟩
theorem prnA_of (L : List Rec) (h1 : L.length ≤ 64) (h2 : ∀ r ∈ L, rightRI r = 0) (h3 : (L.flatMap textX).length ≤ 65536) : prnA L = (L.flatMap textX, 0) := by
  unfold prnA
  rw [if_neg (by omega), catL_of L h2, if_neg (fun g => g rfl), if_neg (by simp only; omega)]
theorem prnA_join (a b : List Rec) (s t : List UInt8) (ha : prnA a = (s, 0)) (hb : prnA b = (t, 0)) (hn : a.length + b.length ≤ 64) (hl : s.length + t.length ≤ 65536) : prnA (a ++ b) = (s ++ t, 0) := by
  obtain ⟨_, a2, a3, _⟩ := prnA_ok a s ha
  obtain ⟨_, b2, b3, _⟩ := prnA_ok b t hb
  have e : (a ++ b).flatMap textX = s ++ t := by rw [List.flatMap_append, a3, b3]
  rw [← e]
  refine prnA_of _ (by rw [List.length_append]; omega) (fun r hr => ?_) (by rw [e, List.length_append]; exact hl)
  rcases List.mem_append.1 hr with hr | hr
  · exact a2 r hr
  · exact b2 r hr

theorem text_pos (r : Rec) : 0 < (textX r).length := by
  unfold textX
  simp
  omega
theorem one_less (s : List UInt8) (k : Nat) (h : ¬ (oneP s k).2.2.2 ≠ 0) : (oneP s k).2.1.length < s.length := by
  obtain ⟨r, t, m, e, hx⟩ : ∃ r t m e, oneP s k = (r, t, m, e) := ⟨_, _, _, _, rfl⟩
  rw [hx] at h ⊢
  have he : e = 0 := Decidable.not_not.1 h
  subst he
  obtain ⟨_, h2, _⟩ := one_sound s k r t m hx
  have := congrArg List.length h2
  have hp := text_pos r
  rw [List.length_append] at this
  show t.length < s.length
  omega
/-- The records of a text, behind those of L; the number of the line, the error. -/
def allP (s : List UInt8) (L : List Rec) (k : Nat) : List Rec × Int × Int :=
  if s = [] then (L, 0, 0)
  else if 64 ≤ L.length then ([], (k : Int), 13)
  else if _h : (oneP s k).2.2.2 ≠ 0 then ([], ((oneP s k).2.2.1 : Int), (oneP s k).2.2.2)
  else allP (oneP s k).2.1 (L ++ [(oneP s k).1]) (oneP s k).2.2.1
termination_by s.length
decreasing_by exact one_less s k _h
def parA (s : List UInt8) : List Rec × Int × Int := if 65536 < s.length then ([], 0, 4) else allP s [] 1
section
variable (s : List UInt8) (L : List Rec) (k : Nat)
theorem all_end : allP [] L k = (L, 0, 0) := by rw [allP, if_pos rfl]
theorem all_full (h : s ≠ []) (h2 : 64 ≤ L.length) : allP s L k = ([], (k : Int), 13) := by rw [allP, if_neg h, if_pos h2]
theorem all_bad (h : s ≠ []) (h2 : L.length < 64) (r : Rec) (t : List UInt8) (m : Nat) (e : Int) (h3 : oneP s k = (r, t, m, e)) (h4 : e ≠ 0) : allP s L k = ([], (m : Int), e) := by
  rw [allP, if_neg h, if_neg (by omega), dif_pos (by rw [h3]; exact h4), h3]
theorem all_go (h : s ≠ []) (h2 : L.length < 64) (r : Rec) (t : List UInt8) (m : Nat) (h3 : oneP s k = (r, t, m, 0)) : allP s L k = allP t (L ++ [r]) m := by
  rw [allP, if_neg h, if_neg (by omega), dif_neg (by rw [h3]; exact fun g => g rfl), h3]
end
theorem all_back : ∀ (G L : List Rec) (k : Nat), (∀ r ∈ G, rightRI r = 0) → L.length + G.length ≤ 64 → allP (G.flatMap textX) L k = (L ++ G, 0, 0)
  | [], L, k, _, _ => by rw [List.append_nil]; exact all_end L k
  | r :: G, L, k, h, hn => by
    rw [List.length_cons] at hn
    have hp := text_pos r
    have ho := one_back r (G.flatMap textX) k (h r (by simp))
    rw [List.flatMap_cons, all_go _ L k (by
      intro e
      have := congrArg List.length e
      rw [List.length_append] at this
      simp at this
      rw [this.1] at hp
      simp at hp) (by omega) r _ _ ho, all_back G (L ++ [r]) _ (fun q hq => h q (by simp [hq])) (by rw [List.length_append]; simp; omega)]
    simp
theorem all_sound : ∀ (n : Nat) (s : List UInt8) (L : List Rec) (k : Nat) (G : List Rec) (m : Int), s.length ≤ n → L.length ≤ 64 → allP s L k = (G, m, 0) →
    ∃ H, G = L ++ H ∧ (∀ r ∈ H, rightRI r = 0) ∧ G.length ≤ 64 ∧ s = H.flatMap textX ∧ m = 0
  | n, s, L, k, G, m, hn, hL, h => by
    by_cases h0 : s = []
    · subst h0
      rw [all_end] at h
      obtain ⟨rfl, h2⟩ := Prod.mk.inj h
      exact ⟨[], by simp, (fun r hr => by cases hr), hL, rfl, (Prod.mk.inj h2).1.symm⟩
    by_cases h1 : 64 ≤ L.length
    · rw [all_full s L k h0 h1] at h
      simp at h
    obtain ⟨r, t, m2, e, hx⟩ : ∃ r t m e, oneP s k = (r, t, m, e) := ⟨_, _, _, _, rfl⟩
    by_cases he : e = 0
    · subst he
      rw [all_go s L k h0 (by omega) r t m2 hx] at h
      obtain ⟨p1, p2, _⟩ := one_sound s k r t m2 hx
      have hp := text_pos r
      have hl := congrArg List.length p2
      rw [List.length_append] at hl
      cases n with
      | zero => omega
      | succ n =>
        obtain ⟨H, e1, e2, e3, e4, e5⟩ := all_sound n t (L ++ [r]) m2 G m (by omega) (by rw [List.length_append]; simp; omega) h
        refine ⟨r :: H, by rw [e1]; simp, fun q hq => ?_, e3, by rw [p2, e4, List.flatMap_cons], e5⟩
        rcases List.mem_cons.1 hq with rfl | hq
        · exact p1
        · exact e2 q hq
    · rw [all_bad s L k h0 (by omega) r t m2 e hx he] at h
      simp only [Prod.mk.injEq] at h
      exact absurd h.2.2 he
theorem all_no : ∀ (n : Nat) (s : List UInt8) (L : List Rec) (k : Nat), s.length ≤ n → (allP s L k).2.2 ≠ 0 → (allP s L k).1 = []
  | n, s, L, k, hn, h => by
    by_cases h0 : s = []
    · subst h0
      rw [all_end] at h
      exact absurd rfl h
    by_cases h1 : 64 ≤ L.length
    · rw [all_full s L k h0 h1]
    obtain ⟨r, t, m2, e, hx⟩ : ∃ r t m e, oneP s k = (r, t, m, e) := ⟨_, _, _, _, rfl⟩
    by_cases he : e = 0
    · subst he
      rw [all_go s L k h0 (by omega) r t m2 hx] at h ⊢
      obtain ⟨_, p2, _⟩ := one_sound s k r t m2 hx
      have hp := text_pos r
      have hl := congrArg List.length p2
      rw [List.length_append] at hl
      cases n with
      | zero => omega
      | succ n => exact all_no n t (L ++ [r]) m2 (by omega) h
    · rw [all_bad s L k h0 (by omega) r t m2 e hx he]
theorem parA_back (L : List Rec) (s : List UInt8) (h : prnA L = (s, 0)) : parA s = (L, 0, 0) := by
  obtain ⟨h1, h2, rfl, h4⟩ := prnA_ok L s h
  unfold parA
  rw [if_neg (by omega), all_back L [] 1 h2 (by simpa using h1), List.nil_append]
theorem parA_sound (s : List UInt8) (L : List Rec) (n : Int) (h : parA s = (L, n, 0)) : n = 0 ∧ prnA L = (s, 0) := by
  unfold parA at h
  by_cases h0 : 65536 < s.length
  · rw [if_pos h0] at h
    simp at h
  rw [if_neg h0] at h
  obtain ⟨H, e1, e2, e3, e4, e5⟩ := all_sound _ s [] 1 L n (Nat.le_refl _) (by simp) h
  rw [List.nil_append] at e1
  subst e1
  exact ⟨e5, by rw [e4]; exact prnA_of L e3 e2 (by rw [← e4]; omega)⟩
theorem parA_no (s : List UInt8) (L : List Rec) (n e : Int) (h : parA s = (L, n, e)) (he : e ≠ 0) : L = [] := by
  unfold parA at h
  by_cases h0 : 65536 < s.length
  · rw [if_pos h0] at h
    exact (Prod.mk.inj h).1.symm
  rw [if_neg h0] at h
  have := all_no _ s [] 1 (Nat.le_refl _) (by rw [h]; exact he)
  rw [h] at this
  exact this
end

end Go.Proofs.YtnfallkeicehiaaDoor
