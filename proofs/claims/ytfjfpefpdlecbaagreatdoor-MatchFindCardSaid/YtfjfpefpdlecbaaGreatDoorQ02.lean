/- Merged: Plain12, Plain12B, Plain05, Plain07. -/
import Derived.Test.YtfjfpefpdlecbaaGreatDoorQ01
namespace Go.Proofs.YtfjfpefpdlecbaaGreatDoor

section
open Go.Lib
/-! Dividing. -/
/-- What lies in front of the first piece. -/
def addH (x : List UInt8) : List (List UInt8) → List (List UInt8)
  | [] => [x]
  | p :: r => (x ++ p) :: r
theorem addH_nil (L : List (List UInt8)) (h : L ≠ []) : addH [] L = L := by
  cases L with
  | nil => exact absurd rfl h
  | cons p r => rfl
theorem addH_app (x y : List UInt8) (L : List (List UInt8)) : addH x (addH y L) = addH (x ++ y) L := by
  cases L with
  | nil => rfl
  | cons p r =>
    show (x ++ (y ++ p)) :: r = (x ++ y ++ p) :: r
    rw [List.append_assoc]
theorem addH_ne (x : List UInt8) (L : List (List UInt8)) : addH x L ≠ [] := by
  cases L <;> simp [addH]
/-- The pieces of a text between the separators, from left to right. -/
def splG (sep : List UInt8) (l : List UInt8) : List (List UInt8) :=
  match l with
  | [] => [[]]
  | c :: t => if _h : sep ≠ [] ∧ sep.isPrefixOf (c :: t) = true then [] :: splG sep ((c :: t).drop sep.length) else addH [c] (splG sep t)
termination_by l.length
decreasing_by
  · have := List.length_pos_iff.2 _h.1
    rw [List.length_drop, List.length_cons]
    omega
  · simp
section
variable (sep : List UInt8)
theorem spl_nil : splG sep [] = [[]] := by rw [splG]
theorem spl_hit (l : List UInt8) (h0 : sep ≠ []) (h : sep.isPrefixOf l = true) : splG sep l = [] :: splG sep (l.drop sep.length) := by
  cases l with
  | nil =>
    cases sep with
    | nil => exact absurd rfl h0
    | cons a s => simp at h
  | cons c t => rw [splG, dif_pos ⟨h0, h⟩]
theorem spl_miss (c : UInt8) (t : List UInt8) (h : sep.isPrefixOf (c :: t) = false) : splG sep (c :: t) = addH [c] (splG sep t) := by
  rw [splG, dif_neg (fun g => by rw [h] at g; exact absurd g.2 (by decide))]
end
theorem spl_ne (sep : List UInt8) : ∀ (n : Nat) (l : List UInt8), l.length ≤ n → splG sep l ≠ []
  | _, [], _ => by rw [spl_nil]; simp
  | 0, c :: t, h => by simp at h
  | n + 1, c :: t, h => by
    rw [splG]
    split
    · simp
    · exact addH_ne _ _
theorem pre_len {p l : List UInt8} (h : p.isPrefixOf l = true) : p.length ≤ l.length := by
  have := List.isPrefixOf_iff_prefix.1 h
  exact this.length_le
theorem spl_short (sep : List UInt8) : ∀ (l : List UInt8), l.length < sep.length → splG sep l = [l]
  | [], _ => spl_nil sep
  | c :: t, h => by
    rw [spl_miss sep c t (by
      cases e : sep.isPrefixOf (c :: t) with
      | false => rfl
      | true => have := pre_len e; omega), spl_short sep t (by simp at h; omega)]
    rfl
/-- Joining. -/
def gluX (sep : List UInt8) : List (List UInt8) → List UInt8
  | [] => []
  | [x] => x
  | x :: y :: r => x ++ sep ++ gluX sep (y :: r)
theorem glu_cons (sep x : List UInt8) (L : List (List UInt8)) (h : L ≠ []) : gluX sep (x :: L) = x ++ sep ++ gluX sep L := by
  cases L with
  | nil => exact absurd rfl h
  | cons y r => rfl
theorem glu_snoc (sep : List UInt8) : ∀ (L : List (List UInt8)) (x : List UInt8), gluX sep (L ++ [x]) = if L = [] then x else gluX sep L ++ sep ++ x
  | [], x => rfl
  | [y], x => by
    rw [if_neg (by simp)]
    rfl
  | y :: z :: r, x => by
    have ih := glu_snoc sep (z :: r) x
    rw [if_neg (by simp)] at ih ⊢
    rw [List.cons_append, glu_cons sep y ((z :: r) ++ [x]) (by simp), ih, glu_cons sep y (z :: r) (by simp)]
    simp only [List.append_assoc]
theorem glu_addH (sep x : List UInt8) (L : List (List UInt8)) (h : L ≠ []) : gluX sep (addH x L) = x ++ gluX sep L := by
  match L, h with
  | [p], _ => rfl
  | p :: q :: r, _ =>
    show gluX sep ((x ++ p) :: q :: r) = _
    rw [glu_cons sep (x ++ p) (q :: r) (by simp), glu_cons sep p (q :: r) (by simp)]
    simp only [List.append_assoc]
/-- The pieces joined are the text. -/
theorem glu_spl (sep : List UInt8) : ∀ (n : Nat) (l : List UInt8), l.length ≤ n → gluX sep (splG sep l) = l
  | _, [], _ => by rw [spl_nil]; rfl
  | 0, c :: t, h => by simp at h
  | n + 1, c :: t, h => by
    by_cases h0 : sep ≠ [] ∧ sep.isPrefixOf (c :: t) = true
    · obtain ⟨r, hr⟩ := List.isPrefixOf_iff_prefix.1 h0.2
      have hp := List.length_pos_iff.2 h0.1
      have hd : (c :: t).drop sep.length = r := by rw [← hr, List.drop_left]
      have hl : r.length ≤ n := by
        have := congrArg List.length hr
        rw [List.length_append] at this
        simp only [List.length_cons] at this h
        omega
      rw [spl_hit sep _ h0.1 h0.2, hd, glu_cons sep [] _ (spl_ne sep n r hl), glu_spl sep n r hl]
      rw [← hr]; rfl
    · have hl : t.length ≤ n := by simpa using h
      have hm : ¬ (sep ≠ [] ∧ sep.isPrefixOf (c :: t) = true) := h0
      rw [splG, dif_neg hm, glu_addH sep [c] _ (spl_ne sep n t hl), glu_spl sep n t hl]
      rfl
/-! A separator of two bytes. -/
theorem pre_two (a b : UInt8) (l : List UInt8) : [a, b].isPrefixOf l = true ↔ ∃ t, l = a :: b :: t := by
  rw [List.isPrefixOf_iff_prefix]
  constructor
  · rintro ⟨t, rfl⟩; exact ⟨t, rfl⟩
  · rintro ⟨t, rfl⟩; exact ⟨t, rfl⟩
/-- A piece that holds no separator and does not end with the separator's first byte, the separator behind it. -/
theorem spl_app (a b : UInt8) : ∀ (x t : List UInt8), splG [a, b] x = [x] → (∀ h : x ≠ [], x.getLast h ≠ a) → splG [a, b] (x ++ a :: b :: t) = x :: splG [a, b] t
  | [], t, _, _ => by
    rw [List.nil_append, spl_hit [a, b] _ (by simp) ((pre_two a b _).2 ⟨t, rfl⟩)]
    rfl
  | c :: x, t, h, hl => by
    have hm : [a, b].isPrefixOf (c :: x) = false := by
      cases e : [a, b].isPrefixOf (c :: x) with
      | false => rfl
      | true =>
        rw [spl_hit [a, b] _ (by simp) e] at h
        simp at h
    have hx : splG [a, b] x = [x] := by
      rw [spl_miss [a, b] c x hm] at h
      cases e : splG [a, b] x with
      | nil => exact absurd e (spl_ne _ _ x (Nat.le_refl _))
      | cons p r =>
        rw [e] at h
        simp only [addH, List.cons.injEq, List.cons_append, List.nil_append, true_and] at h
        rw [h.1, h.2]
    have hm2 : [a, b].isPrefixOf (c :: (x ++ a :: b :: t)) = false := by
      cases e : [a, b].isPrefixOf (c :: (x ++ a :: b :: t)) with
      | false => rfl
      | true =>
        obtain ⟨u, hu⟩ := (pre_two a b _).1 e
        cases x with
        | nil =>
          simp only [List.nil_append, List.cons.injEq] at hu
          have := hl (by simp)
          simp only [List.getLast_singleton] at this
          exact absurd hu.1 this
        | cons d y =>
          simp only [List.cons_append, List.cons.injEq] at hu
          have : [a, b].isPrefixOf (c :: d :: y) = true := (pre_two a b _).2 ⟨y, by rw [hu.1, hu.2.1]⟩
          rw [this] at hm
          cases hm
    have ih := spl_app a b x t hx (fun hne => by
      have := hl (by simp)
      rwa [List.getLast_cons hne] at this)
    rw [List.cons_append, spl_miss [a, b] c _ hm2, ih]
    rfl
/-- Joined pieces are divided into themselves. -/
theorem spl_glu (a b : UInt8) : ∀ (L : List (List UInt8)), L ≠ [] → (∀ x ∈ L, splG [a, b] x = [x] ∧ ∀ h : x ≠ [], x.getLast h ≠ a) → splG [a, b] (gluX [a, b] L) = L
  | [], h, _ => absurd rfl h
  | [x], _, h => (h x (by simp)).1
  | x :: y :: r, _, h => by
    have hx := h x (by simp)
    have ih := spl_glu a b (y :: r) (by simp) (fun z hz => h z (by simp [hz]))
    show splG [a, b] (x ++ [a, b] ++ gluX [a, b] (y :: r)) = _
    rw [List.append_assoc]
    show splG [a, b] (x ++ a :: b :: gluX [a, b] (y :: r)) = _
    rw [spl_app a b x _ hx.1 hx.2, ih]
/-- No piece holds a separator where the text holds none of its bytes. -/
theorem spl_none (a b : UInt8) : ∀ (x : List UInt8), (∀ c ∈ x, c ≠ a) → splG [a, b] x = [x]
  | [], _ => spl_nil _
  | c :: x, h => by
    have hm : [a, b].isPrefixOf (c :: x) = false := by
      cases e : [a, b].isPrefixOf (c :: x) with
      | false => rfl
      | true =>
        obtain ⟨u, hu⟩ := (pre_two a b _).1 e
        exact absurd (List.cons.inj hu).1 (h c (by simp))
    rw [spl_miss [a, b] c x hm, spl_none a b x (fun d hd => h d (by simp [hd]))]
    rfl
/-! Pieces of texts. -/
theorem enc_head (c : Nat) (h : okc c) (x t : List UInt8) (b : UInt8) (hb : b.toNat < 128) (e : encodeRune (c : Int) = x ++ b :: t) : x = [] ∧ t = [] ∧ c = b.toNat := by
  unfold encodeRune at e
  by_cases h1 : c ≤ 127
  · rw [encodeRuneZ_one (by omega) (by omega)] at e
    simp only [List.map_cons, List.map_nil] at e
    cases x with
    | nil =>
      simp only [List.nil_append, List.cons.injEq] at e
      refine ⟨rfl, e.2.symm, ?_⟩
      have := congrArg UInt8.toNat e.1
      rw [toByteNat _ (by omega) (by omega)] at this
      omega
    | cons y z =>
      simp at e
  · exfalso
    have hall : ∀ d ∈ (encodeRuneZ (c : Int)).map (fun z => z.toNat.toUInt8), 128 ≤ d.toNat := by
      by_cases h2 : c ≤ 2047
      · rw [encodeRuneZ_two (by omega) (by omega)]
        have e0 := toByteNat (192 + (c : Int) / 64) (by omega) (by omega)
        have e1 := toByteNat (128 + (c : Int) % 64) (by omega) (by omega)
        intro d hd
        simp only [List.map_cons, List.map_nil, List.mem_cons, List.not_mem_nil, or_false] at hd
        rcases hd with rfl | rfl
        · rw [e0]; omega
        · rw [e1]; omega
      · rw [encodeRuneZ_three (by unfold okc at h; omega)]
        have e0 := toByteNat (224 + (c : Int) / 4096) (by omega) (by unfold okc at h; omega)
        have e1 := toByteNat (128 + (c : Int) / 64 % 64) (by omega) (by omega)
        have e2 := toByteNat (128 + (c : Int) % 64) (by omega) (by omega)
        intro d hd
        simp only [List.map_cons, List.map_nil, List.mem_cons, List.not_mem_nil, or_false] at hd
        rcases hd with rfl | rfl | rfl
        · rw [e0]; omega
        · rw [e1]; omega
        · rw [e2]; omega
    have := hall b (by rw [e]; simp)
    omega
/-- A byte of one character parts a text's characters. -/
theorem enc_part : ∀ (cs : List Nat), OKs cs → ∀ (x t : List UInt8) (b : UInt8), b.toNat < 128 → enc cs = x ++ b :: t → ∃ c1 c2, cs = c1 ++ b.toNat :: c2 ∧ x = enc c1 ∧ t = enc c2
  | [], _, x, t, b, _, e => by
    rw [enc_nil] at e
    simp at e
  | c :: cs, h, x, t, b, hb, e => by
    obtain ⟨h1, h2⟩ := OKs_cons.1 h
    rw [enc_cons] at e
    have hrest : ∀ a' : List UInt8, x = encodeRune (c : Int) ++ a' → enc cs = a' ++ b :: t → ∃ c1 c2, c :: cs = c1 ++ b.toNat :: c2 ∧ x = enc c1 ∧ t = enc c2 := by
      intro a' e1 e2
      obtain ⟨c1, c2, h3, h4, h5⟩ := enc_part cs h2 a' t b hb e2
      exact ⟨c :: c1, c2, by rw [h3]; rfl, by rw [enc_cons, e1, h4], h5⟩
    rcases List.append_eq_append_iff.1 e with ⟨a', e1, e2⟩ | ⟨c', e1, e2⟩
    · exact hrest a' e1 e2
    · cases c' with
      | nil => exact hrest [] (by rw [List.append_nil] at e1 ⊢; exact e1.symm) e2.symm
      | cons d c'' =>
        rw [List.cons_append] at e2
        obtain ⟨rfl, e3⟩ := List.cons.inj e2
        obtain ⟨rfl, rfl, rfl⟩ := enc_head c h1 x c'' b hb e1
        exact ⟨[], cs, rfl, rfl, by simpa using e3⟩
end

section
open Go.Lib
/-! Words joined by blanks. -/
theorem join_mem (ws : List (List Nat)) : ∀ c ∈ joinL ws, (∃ x ∈ ws, c ∈ x) ∨ c = 32 := by
  refine snoc_ind2 (p := fun ws => ∀ c ∈ joinL ws, (∃ x ∈ ws, c ∈ x) ∨ c = 32) ?_ ?_ ws
  · intro c hc; cases hc
  · intro l x ih c hc
    rw [joinL_snoc] at hc
    by_cases h : l = []
    · rw [if_pos h] at hc
      exact .inl ⟨x, by simp, hc⟩
    · rw [if_neg h] at hc
      simp only [List.mem_append, List.mem_singleton] at hc
      rcases hc with (hc | hc) | hc
      · rcases ih c hc with ⟨y, hy, hy2⟩ | hy
        · exact .inl ⟨y, by simp [hy], hy2⟩
        · exact .inr hy
      · exact .inr hc
      · exact .inl ⟨x, by simp, hc⟩
theorem clean_word : ∀ (x : List Nat), (∀ c ∈ x, blankc c = false) → ∀ (out : List Nat), x.foldl cleanStep (out, false) = (out ++ x, false)
  | [], _, out => by simp
  | c :: x, h, out => by
    have hc := h c (by simp)
    have e : cleanStep (out, false) c = (out ++ [c], false) := by
      unfold cleanStep
      rw [hc]
      simp
    rw [List.foldl_cons, e, clean_word x (fun d hd => h d (by simp [hd]))]
    simp
theorem clean_next (x : List Nat) (h0 : x ≠ []) (h : ∀ c ∈ x, blankc c = false) (out : List Nat) (ho : out ≠ []) : x.foldl cleanStep (out, true) = (out ++ [32] ++ x, false) := by
  cases x with
  | nil => exact absurd rfl h0
  | cons c x =>
    have hc := h c (by simp)
    have e : cleanStep (out, true) c = (out ++ [32] ++ [c], false) := by
      unfold cleanStep
      rw [hc]
      simp [ho]
    rw [List.foldl_cons, e, clean_word x (fun d hd => h d (by simp [hd]))]
    simp
theorem join_ne (ws : List (List Nat)) (h : ∀ x ∈ ws, x ≠ []) (h0 : ws ≠ []) : joinL ws ≠ [] := by
  have := List.dropLast_concat_getLast h0
  rw [← this, joinL_snoc]
  have hx := h (ws.getLast h0) (List.getLast_mem h0)
  split
  · exact hx
  · simp
theorem clean_join (ws : List (List Nat)) : (∀ x ∈ ws, x ≠ [] ∧ ∀ c ∈ x, blankc c = false) → cleanRun (joinL ws) = (joinL ws, false) := by
  refine snoc_ind2 (p := fun ws => (∀ x ∈ ws, x ≠ [] ∧ ∀ c ∈ x, blankc c = false) → cleanRun (joinL ws) = (joinL ws, false)) ?_ ?_ ws
  · intro _; rfl
  · intro l x ih h
    have hx := h x (by simp)
    have hl := ih (fun y hy => h y (by simp [hy]))
    rw [joinL_snoc]
    by_cases h0 : l = []
    · rw [if_pos h0]
      unfold cleanRun
      have := clean_word x hx.2 []
      simpa using this
    · rw [if_neg h0]
      have hne := join_ne l (fun y hy => (h y (by simp [hy])).1) h0
      unfold cleanRun at hl ⊢
      rw [List.foldl_append, List.foldl_append, hl]
      have e : [32].foldl cleanStep (joinL l, false) = (joinL l, true) := by
        simp [cleanStep, blankc]
      rw [e, clean_next x hx.1 hx.2 _ hne]
theorem letter_blank (c : Nat) (h : letterc c = true) : blankc c = false ∧ c ≠ 45 := by
  unfold letterc at h
  unfold blankc
  simp only [Bool.or_eq_true, Bool.and_eq_true, decide_eq_true_eq] at h
  constructor
  · simp only [Bool.or_eq_false_iff, beq_eq_false_iff_ne]
    omega
  · omega
theorem W_words (cs : List Nat) : ∀ x ∈ W cs, x ≠ [] ∧ ∀ c ∈ x, blankc c = false :=
  fun x hx => ⟨(W_good cs x hx).1, fun c hc => (letter_blank c ((W_good cs x hx).2 c hc).1).1⟩
theorem clean_W (cs : List Nat) : cleanL (joinL (W cs)) = joinL (W cs) := by
  unfold cleanL
  rw [clean_join _ (W_words cs)]
theorem W_no (cs : List Nat) : ∀ c ∈ joinL (W cs), c ≠ 45 := by
  intro c hc
  rcases join_mem _ c hc with ⟨x, hx, hcx⟩ | rfl
  · exact (letter_blank c ((W_good cs x hx).2 c hcx).1).2
  · decide

/-! Parts and norms. -/
def dd : List UInt8 := [45, 45]
def cb : List UInt8 := [44, 32]
def cleanX (l : List UInt8) : List UInt8 := enc (cleanL (runes l))
def wordX (l : List UInt8) : List UInt8 := enc (joinL (W (runes l)))
def nonE (L : List (List UInt8)) : List (List UInt8) := L.filter fun x => decide (x ≠ [])
def partsX (l : List UInt8) : List (List UInt8) := nonE ((splG dd l).map cleanX)
def normL (l : List UInt8) : List (List UInt8) := nonE ((partsX l).map wordX)
def normX (l : List UInt8) : List UInt8 := gluX dd (normL l)
def sameX (a b : List UInt8) : Bool := decide (normX a ≠ []) && decide (normX a = normX b)
theorem nonE_mem {L : List (List UInt8)} {x : List UInt8} (h : x ∈ nonE L) : x ∈ L ∧ x ≠ [] := by
  unfold nonE at h
  simpa using h
theorem nonE_all (L : List (List UInt8)) (h : ∀ x ∈ L, x ≠ []) : nonE L = L := by
  unfold nonE
  rw [List.filter_eq_self]
  intro x hx
  exact decide_eq_true (h x hx)
theorem cleanX_enc (cs : List Nat) (h : OKs cs) : cleanX (enc cs) = enc (cleanL cs) := by unfold cleanX; rw [runes_enc cs h]
theorem wordX_enc (cs : List Nat) (h : OKs cs) : wordX (enc cs) = enc (joinL (W cs)) := by unfold wordX; rw [runes_enc cs h]
/-- The pieces of a text are texts. -/
theorem spl_valid (sep : List UInt8) (hs : ∀ b ∈ sep, b.toNat < 128) : ∀ (n : Nat) (cs : List Nat), (enc cs).length ≤ n → OKs cs → ∀ x ∈ splG sep (enc cs), ∃ c1, OKs c1 ∧ x = enc c1
  | _, [], _, _ => by
    rw [enc_nil, spl_nil]
    intro x hx
    rw [List.mem_singleton.1 hx]
    exact ⟨[], OKs_nil, rfl⟩
  | 0, c :: cs, hn, _ => by
    have := (wid_pos c).1
    unfold wid at this
    rw [enc_cons, List.length_append] at hn
    omega
  | n + 1, c :: cs, hn, h => by
    by_cases h0 : sep ≠ [] ∧ sep.isPrefixOf (enc (c :: cs)) = true
    · have hrest : ∀ (sp : List UInt8), (∀ b ∈ sp, b.toNat < 128) → ∀ (ds : List Nat), OKs ds → ∀ r, sp ++ r = enc ds → ∃ e, OKs e ∧ r = enc e := by
        intro sp
        induction sp with
        | nil => intro _ ds hd r hr; exact ⟨ds, hd, hr⟩
        | cons b sp ih =>
          intro hb ds hd r hr
          obtain ⟨c1, c2, e1, e2, e3⟩ := enc_part ds hd [] (sp ++ r) b (hb b (by simp)) hr.symm
          have hc2 : OKs c2 := by
            rw [e1] at hd
            exact (OKs_cons.1 ((OKs_append.1 hd).2)).2
          exact ih (fun d hd => hb d (by simp [hd])) c2 hc2 r e3
      obtain ⟨r, hr⟩ := List.isPrefixOf_iff_prefix.1 h0.2
      obtain ⟨e, he, rfl⟩ := hrest sep hs (c :: cs) h r hr
      have hd : (enc (c :: cs)).drop sep.length = enc e := by rw [← hr, List.drop_left]
      have hp := List.length_pos_iff.2 h0.1
      have hl : (enc e).length ≤ n := by
        have := congrArg List.length hr
        rw [List.length_append] at this
        omega
      rw [spl_hit sep _ h0.1 h0.2, hd]
      intro x hx
      rcases List.mem_cons.1 hx with rfl | hx
      · exact ⟨[], OKs_nil, rfl⟩
      · exact spl_valid sep hs n e hl he x hx
    · -- the first character belongs to the first piece
      obtain ⟨h1, h2⟩ := OKs_cons.1 h
      have hw := (wid_pos c).1
      have hkey : ∀ (y t : List UInt8), (∀ u v, y = u ++ v → v ≠ [] → sep ≠ [] → sep.isPrefixOf (v ++ t) = false) → splG sep (y ++ t) = addH y (splG sep t) := by
        intro y
        induction y with
        | nil => intro t _; rw [List.nil_append, addH_nil _ (spl_ne sep _ t (Nat.le_refl _))]
        | cons d y ih =>
          intro t hy
          rw [List.cons_append]
          by_cases hse : sep = []
          · subst hse
            rw [splG, dif_neg (fun g => g.1 rfl), ih t (fun u v e hv hs => absurd rfl hs), addH_app]
            rfl
          · rw [spl_miss sep d (y ++ t) (hy [] (d :: y) rfl (by simp) hse), ih t (fun u v e hv hs => hy (d :: u) v (by rw [e]; rfl) hv hs), addH_app]
            rfl
      have hpc : splG sep (enc (c :: cs)) = addH (encodeRune (c : Int)) (splG sep (enc cs)) := by
        rw [enc_cons]
        refine hkey _ _ (fun u v e hv hse => ?_)
        cases hp : sep.isPrefixOf (v ++ enc cs) with
        | false => rfl
        | true =>
          exfalso
          cases u with
          | nil =>
            rw [List.nil_append] at e
            rw [← e, ← enc_cons] at hp
            exact h0 ⟨hse, hp⟩
          | cons d u =>
            -- the separator's first byte is no byte behind the first of a character
            obtain ⟨b, sp, rfl⟩ : ∃ b sp, sep = b :: sp := by
              cases sep with
              | nil => exact absurd rfl hse
              | cons b sp => exact ⟨b, sp, rfl⟩
            obtain ⟨w, v2, rfl⟩ : ∃ w v2, v = w :: v2 := by
              cases v with
              | nil => exact absurd rfl hv
              | cons w v2 => exact ⟨w, v2, rfl⟩
            obtain ⟨r, hr⟩ := List.isPrefixOf_iff_prefix.1 hp
            simp only [List.cons_append, List.cons.injEq] at hr
            have := enc_head c h1 (d :: u) v2 w (by rw [← hr.1]; exact hs b (by simp)) e
            exact absurd this.1 (by simp)
      rw [hpc]
      have hl : (enc cs).length ≤ n := by
        unfold wid at hw
        rw [enc_cons, List.length_append] at hn
        omega
      have ih := spl_valid sep hs n cs hl h2
      cases e : splG sep (enc cs) with
      | nil => exact absurd e (spl_ne sep _ _ (Nat.le_refl _))
      | cons p r =>
        rw [e] at ih
        intro x hx
        rcases List.mem_cons.1 hx with rfl | hx
        · obtain ⟨c1, hc1, rfl⟩ := ih p (by simp)
          exact ⟨c :: c1, OKs_cons.2 ⟨h1, hc1⟩, (enc_cons c c1).symm⟩
        · exact ih x (by simp [hx])
theorem dd_ascii : ∀ b ∈ dd, b.toNat < 128 := by decide
theorem cb_ascii : ∀ b ∈ cb, b.toNat < 128 := by decide
theorem parts_valid (l : List UInt8) (h : validT l = true) : ∀ x ∈ partsX l, ∃ c1, OKs c1 ∧ x = enc c1 ∧ c1 ≠ [] ∧ cleanL c1 = c1 := by
  obtain ⟨cs, hcs, rfl⟩ := validT_text l h
  intro x hx
  obtain ⟨hx, hne⟩ := nonE_mem hx
  obtain ⟨y, hy, rfl⟩ := List.mem_map.1 hx
  obtain ⟨c1, hc1, rfl⟩ := spl_valid dd dd_ascii _ cs (Nat.le_refl _) hcs y hy
  rw [cleanX_enc c1 hc1] at hne ⊢
  exact ⟨cleanL c1, clean_OK c1 hc1, rfl, (fun e => hne (by rw [e]; rfl)), clean_twice c1⟩
theorem norm_words (l : List UInt8) (h : validT l = true) : ∀ x ∈ normL l, ∃ cs, OKs cs ∧ x = enc (joinL (W cs)) ∧ x ≠ [] := by
  intro x hx
  obtain ⟨hx, hne⟩ := nonE_mem hx
  obtain ⟨y, hy, rfl⟩ := List.mem_map.1 hx
  obtain ⟨c1, hc1, rfl, _, _⟩ := parts_valid l h y hy
  rw [wordX_enc c1 hc1] at hne ⊢
  exact ⟨c1, hc1, rfl, hne⟩
theorem enc_no (cs : List Nat) (h : OKs cs) (b : UInt8) (hb : b.toNat < 128) (hn : ∀ c ∈ cs, c ≠ b.toNat) : ∀ d ∈ enc cs, d ≠ b := by
  rintro d hd rfl
  obtain ⟨x, t, e⟩ := List.append_of_mem hd
  obtain ⟨c1, c2, e1, _, _⟩ := enc_part cs h x t d hb e
  exact hn d.toNat (by rw [e1]; simp) rfl
theorem parts_norm (l : List UInt8) (h : validT l = true) : partsX (normX l) = normL l := by
  have hw := norm_words l h
  unfold normX
  by_cases h0 : normL l = []
  · rw [h0]
    unfold partsX
    rw [show gluX dd [] = [] from rfl, spl_nil]
    rfl
  · have hs : splG dd (gluX dd (normL l)) = normL l := by
      refine spl_glu 45 45 _ h0 (fun x hx => ?_)
      obtain ⟨cs, hcs, rfl, _⟩ := hw x hx
      have hno := enc_no (joinL (W cs)) (join_OK _ (W_OK cs hcs)) 45 (by decide) (W_no cs)
      exact ⟨spl_none 45 45 _ hno, fun hne => hno _ (List.getLast_mem hne)⟩
    unfold partsX
    rw [hs]
    have hc : (normL l).map cleanX = normL l := by
      conv => rhs; rw [← List.map_id (normL l)]
      refine List.map_congr_left (fun x hx => ?_)
      obtain ⟨cs, hcs, rfl, _⟩ := hw x hx
      rw [cleanX_enc _ (join_OK _ (W_OK cs hcs)), clean_W]
      rfl
    rw [hc]
    exact nonE_all _ (fun x hx => by obtain ⟨_, _, _, hne⟩ := hw x hx; exact hne)
theorem norm_again (l : List UInt8) (h : validT l = true) : normX (normX l) = normX l := by
  have hw := norm_words l h
  have hl : normL (normX l) = normL l := by
    unfold normL
    rw [parts_norm l h]
    have hc : (normL l).map wordX = normL l := by
      conv => rhs; rw [← List.map_id (normL l)]
      refine List.map_congr_left (fun x hx => ?_)
      obtain ⟨cs, hcs, rfl, _⟩ := hw x hx
      rw [wordX_enc _ (join_OK _ (W_OK cs hcs)), W_join]
      rfl
    rw [hc]
    exact nonE_all _ (fun x hx => by obtain ⟨_, _, _, hne⟩ := hw x hx; exact hne)
  unfold normX at hl ⊢
  rw [hl]
theorem same_again (l : List UInt8) (h : validT l = true) : sameX l (normX l) = decide (normX l ≠ []) := by
  unfold sameX
  rw [norm_again l h, decide_eq_true rfl, Bool.and_true]
end

section
def addN (f : Nat → Nat) : Nat → Nat
  | 0 => 0
  | n + 1 => addN f n + f n
theorem addN_congr {f g : Nat → Nat} : ∀ n, (∀ i, i < n → f i = g i) → addN f n = addN g n
  | 0, _ => rfl
  | n + 1, h => by
    simp only [addN]
    rw [addN_congr n (fun i hi => h i (by omega)), h n (by omega)]
theorem addN_le (f : Nat → Nat) (c : Nat) : ∀ n, (∀ i, i < n → f i ≤ c) → addN f n ≤ n * c
  | 0, _ => by simp [addN]
  | n + 1, h => by
    have := addN_le f c n (fun i hi => h i (by omega))
    have := h n (by omega)
    simp only [addN, Nat.succ_mul]
    omega
theorem addN_front (f : Nat → Nat) (n : Nat) : addN f (n + 1) = f 0 + addN (fun i => f (i + 1)) n := by
  induction n with
  | zero => simp [addN]
  | succ n ih => rw [addN, ih, addN]; omega

/-- Whether a byte is a digit. -/
def dgB5 (x : UInt8) : Bool := decide (48 ≤ x.toNat) && decide (x.toNat ≤ 57)
/-- The digit at a place. -/
def dv (l : List UInt8) (i : Nat) : Nat := (l.getD i 0).toNat - 48
theorem dgB5_iff (x : UInt8) : dgB5 x = true ↔ 48 ≤ x.toNat ∧ x.toNat ≤ 57 := by simp [dgB5]
theorem dv_le (l : List UInt8) (i : Nat) (h : dgB5 (l.getD i 0) = true) : dv l i ≤ 9 ∧ (l.getD i 0).toNat = 48 + dv l i := by
  rw [dgB5_iff] at h
  unfold dv
  omega
/-- The sum of the digits of a digit's double. -/
def dbl (d : Nat) : Nat := 2 * d / 10 + 2 * d % 10
theorem dbl_le (d : Nat) (h : d ≤ 9) : dbl d ≤ 9 := by unfold dbl; omega
def lw (i d : Nat) : Nat := if i % 2 = 0 then dbl d else d
theorem lw_le (i d : Nat) (h : d ≤ 9) : lw i d ≤ 9 := by
  unfold lw
  split
  · exact dbl_le d h
  · exact h
/-- The sum that the check digit completes. -/
def luhnS (l : List UInt8) : Nat := addN (fun i => lw i (dv l (l.length - 1 - i))) l.length
def comp (s : Nat) : Nat := (10 - s % 10) % 10
def luhnC (l : List UInt8) : Nat := comp (luhnS l)
theorem comp_le (s : Nat) : comp s ≤ 9 := by unfold comp; omega
/-- The alternating sum; the weighted sum. -/
def altS (l : List UInt8) : Nat := addN (fun i => if i % 2 = 1 then 3 * dv l i else dv l i) l.length
def wd (x : UInt8) : Nat := if x = 88 then 10 else x.toNat - 48
def wS (l : List UInt8) : Nat := addN (fun i => wd (l.getD i 0) * (l.length - i)) l.length
/-- Digits, of which the last one can be X. -/
def endedB (l : List UInt8) : Bool := decide (1 ≤ l.length) && (l.take (l.length - 1)).all dgB5 && (dgB5 (l.getD (l.length - 1) 0) || decide (l.getD (l.length - 1) 0 = 88))
def keep (x : UInt8) : Bool := decide (x ≠ 45) && decide (x ≠ 32)
def removed (l : List UInt8) : List UInt8 := l.filter keep
/-- The last k digits of a number. -/
def digU (n : Nat) : Nat → List UInt8
  | 0 => []
  | k + 1 => dgt (n / 10 ^ k % 10) :: digU n k
theorem digU_length (n k : Nat) : (digU n k).length = k := by
  induction k with
  | zero => rfl
  | succ k ih => simp [digU, ih]
/-- The barcode. -/
def mkB (k n : Nat) : List UInt8 := dgt k :: digU n 12
def mkL (k n : Nat) : List UInt8 := mkB k n ++ [dgt (luhnC (mkB k n))]
/-- The number that digits say. -/
def valL5 (l : List UInt8) (a : Nat) : Nat → Nat
  | 0 => 0
  | k + 1 => valL5 l a k * 10 + dv l (a + k)

def luhnI (l : List UInt8) : Int × Int := if 1 ≤ l.length ∧ l.length ≤ 20 ∧ l.all dgB5 = true then ((luhnC l : Nat), 0) else (0, 3)
def makeI (k n : Int) : List UInt8 × Int := if k = 2 ∨ k = 3 then (if 0 ≤ n ∧ n ≤ 9999 then (mkL k.toNat n.toNat, 0) else ([], 2)) else ([], 1)
def formB5 (l : List UInt8) : Bool := decide (l.length = 14) && l.all dgB5 && (decide (l.getD 0 0 = 50) || decide (l.getD 0 0 = 51))
def parseI (l : List UInt8) : Int × Int × Int :=
  if formB5 l = true then (if luhnC (l.take 13) = dv l 13 then (if valL5 l 1 12 ≤ 9999 then ((dv l 0 : Nat), (valL5 l 1 12 : Nat), 0) else (0, 0, 2)) else (0, 0, 5)) else (0, 0, 3)
def isbnT (t : List UInt8) : List UInt8 × Int :=
  if t.length = 13 ∧ t.all dgB5 = true ∧ (t.take 3 = [57, 55, 56] ∨ t.take 3 = [57, 55, 57]) then (if altS t % 10 = 0 then (t, 0) else ([], 5))
  else if t.length = 10 ∧ endedB t = true then (if wS t % 11 = 0 then ([57, 55, 56] ++ t.take 9 ++ [dgt (comp (altS ([57, 55, 56] ++ t.take 9)))], 0) else ([], 5)) else ([], 3)
def isbnI (l : List UInt8) : List UInt8 × Int := isbnT (removed l)
def issnT (t : List UInt8) : List UInt8 × Int :=
  if t.length = 8 ∧ endedB t = true then (if wS t % 11 = 0 then (t.take 4 ++ [45] ++ t.drop 4, 0) else ([], 5)) else ([], 3)
def issnI (l : List UInt8) : List UInt8 × Int := issnT (if l.length = 9 ∧ l.getD 4 0 = 45 then l.take 4 ++ l.drop 5 else l)
end

section
def digB (x : UInt8) : Bool := decide (48 ≤ x.toNat) && decide (x.toNat ≤ 57)
theorem digB_iff (x : UInt8) : digB x = true ↔ 48 ≤ x.toNat ∧ x.toNat ≤ 57 := by simp [digB]
def codeB (x : UInt8) : Bool := digB x || (decide (97 ≤ x.toNat) && decide (x.toNat ≤ 122))
/-- Three digits, from 010 on. -/
def tagB (l : List UInt8) : Bool := decide (l.length = 3) && digB (l.getD 0 0) && digB (l.getD 1 0) && digB (l.getD 2 0) && !(decide (l.getD 0 0 = 48) && decide (l.getD 1 0 = 48))
abbrev Sub := UInt8 × List UInt8
structure Fld where
  tag : List UInt8
  ind : List UInt8
  subs : List Sub
  auth : Int
def sub0 : Sub := (0, [])
/-- The values of the subfields that a code picks. -/
def inB (c : UInt8) (codes : List UInt8) : Bool := codes.any (fun x => decide (x = c)) || decide (codes = [])
def allL (subs : List Sub) (codes : List UInt8) : List (List UInt8) := (subs.filter fun s => inB s.1 codes).map (·.2)
theorem allL_snoc (L : List Sub) (codes : List UInt8) (k : Nat) (h : k < L.length) : allL (L.take (k + 1)) codes = allL (L.take k) codes ++ (if inB (L.getD k sub0).1 codes = true then [(L.getD k sub0).2] else []) := by
  rw [List.take_succ_eq_append_getElem h, List.getD_eq_getElem?_getD, List.getElem?_eq_getElem h]
  unfold allL
  rw [List.filter_append, List.map_append]
  congr 1
  show _ = if inB L[k].1 codes = true then [L[k].2] else []
  by_cases hi : inB L[k].1 codes = true
  · rw [if_pos hi]; simp [hi]
  · rw [if_neg hi]; simp [hi]
theorem allL_length (L : List Sub) (codes : List UInt8) : (allL L codes).length ≤ L.length := by
  unfold allL
  rw [List.length_map]
  exact List.length_filter_le _ _
def getL : List Sub → UInt8 → List UInt8 × Bool
  | [], _ => ([], false)
  | s :: t, c => if s.1 = c then (s.2, true) else getL t c
theorem getL_hit : ∀ (L : List Sub) (c : UInt8) (k : Nat), k < L.length → (∀ j, j < k → (L.getD j sub0).1 ≠ c) → (L.getD k sub0).1 = c → getL L c = ((L.getD k sub0).2, true)
  | [], _, _, hk, _, _ => by cases hk
  | s :: t, c, 0, _, _, he => by
    have he : s.1 = c := he
    rw [getL, if_pos he]
    rfl
  | s :: t, c, k + 1, hk, h, he => by
    have h0 : ¬ s.1 = c := h 0 (Nat.succ_pos k)
    rw [getL, if_neg h0]
    exact getL_hit t c k (by simpa using hk) (fun j hj => h (j + 1) (by omega)) he
theorem getL_miss : ∀ (L : List Sub) (c : UInt8), (∀ j, j < L.length → (L.getD j sub0).1 ≠ c) → getL L c = ([], false)
  | [], _, _ => rfl
  | s :: t, c, h => by
    have h0 : ¬ s.1 = c := h 0 (by simp)
    rw [getL, if_neg h0]
    exact getL_miss t c (fun j hj => h (j + 1) (by simpa using hj))
def setL (subs : List Sub) (c : UInt8) (v : List UInt8) : List Sub :=
  if v = [] then subs.filter fun s => decide (s.1 ≠ c)
  else match subs.findIdx? (fun s => decide (s.1 = c)) with
    | some i => subs.set i (c, v)
    | none => subs ++ [(c, v)]
end

end Go.Proofs.YtfjfpefpdlecbaaGreatDoor
