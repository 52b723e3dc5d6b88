/- Merged: Plain12, Plain12B, Plain12C, Plain13, AL13. -/
import Derived.Test.YthjdopnoophigaaGreatDoorQ01
namespace Go.Proofs.YthjdopnoophigaaGreatDoor

section
open Go.Lib
/-! Dividing. -/
/-- What lies in front of the first piece. -/
def addH (x : List UInt8) : List (List UInt8) → List (List UInt8)
  | [] => [x]
  | p :: r => (x ++ p) :: r
theorem addH_nil (L : List (List UInt8)) (h : L ≠ []) : addH [] L = L := by
  cases L with
  | nil => exact absurd rfl h
  | cons p r => rfl
theorem addH_app (x y : List UInt8) (L : List (List UInt8)) : addH x (addH y L) = addH (x ++ y) L := by
  cases L with
  | nil => rfl
  | cons p r =>
    show (x ++ (y ++ p)) :: r = (x ++ y ++ p) :: r
    rw [List.append_assoc]
theorem addH_ne (x : List UInt8) (L : List (List UInt8)) : addH x L ≠ [] := by
  cases L <;> simp [addH]
/-- The pieces of a text between the separators, from left to right. -/
def splG (sep : List UInt8) (l : List UInt8) : List (List UInt8) :=
  match l with
  | [] => [[]]
  | c :: t => if _h : sep ≠ [] ∧ sep.isPrefixOf (c :: t) = true then [] :: splG sep ((c :: t).drop sep.length) else addH [c] (splG sep t)
termination_by l.length
decreasing_by
  · have := List.length_pos_iff.2 _h.1
    rw [List.length_drop, List.length_cons]
    omega
  · simp
section
variable (sep : List UInt8)
theorem spl_nil : splG sep [] = [[]] := by rw [splG]
theorem spl_hit (l : List UInt8) (h0 : sep ≠ []) (h : sep.isPrefixOf l = true) : splG sep l = [] :: splG sep (l.drop sep.length) := by
  cases l with
  | nil =>
    cases sep with
    | nil => exact absurd rfl h0
    | cons a s => simp at h
  | cons c t => rw [splG, dif_pos ⟨h0, h⟩]
theorem spl_miss (c : UInt8) (t : List UInt8) (h : sep.isPrefixOf (c :: t) = false) : splG sep (c :: t) = addH [c] (splG sep t) := by
  rw [splG, dif_neg (fun g => by rw [h] at g; exact absurd g.2 (by decide))]
end
theorem spl_ne (sep : List UInt8) : ∀ (n : Nat) (l : List UInt8), l.length ≤ n → splG sep l ≠ []
  | _, [], _ => by rw [spl_nil]; simp
  | 0, c :: t, h => by simp at h
  | n + 1, c :: t, h => by
    rw [splG]
    split
    · simp
    · exact addH_ne _ _
theorem pre_len {p l : List UInt8} (h : p.isPrefixOf l = true) : p.length ≤ l.length := by
  have := List.isPrefixOf_iff_prefix.1 h
  exact this.length_le
theorem spl_short (sep : List UInt8) : ∀ (l : List UInt8), l.length < sep.length → splG sep l = [l]
  | [], _ => spl_nil sep
  | c :: t, h => by
    rw [spl_miss sep c t (by
      cases e : sep.isPrefixOf (c :: t) with
      | false => rfl
      | true => have := pre_len e; omega), spl_short sep t (by simp at h; omega)]
    rfl
/-- Joining. -/
def gluX (sep : List UInt8) : List (List UInt8) → List UInt8
  | [] => []
  | [x] => x
  | x :: y :: r => x ++ sep ++ gluX sep (y :: r)
theorem glu_cons (sep x : List UInt8) (L : List (List UInt8)) (h : L ≠ []) : gluX sep (x :: L) = x ++ sep ++ gluX sep L := by
  cases L with
  | nil => exact absurd rfl h
  | cons y r => rfl
theorem glu_snoc (sep : List UInt8) : ∀ (L : List (List UInt8)) (x : List UInt8), gluX sep (L ++ [x]) = if L = [] then x else gluX sep L ++ sep ++ x
  | [], x => rfl
  | [y], x => by
    rw [if_neg (by simp)]
    rfl
  | y :: z :: r, x => by
    have ih := glu_snoc sep (z :: r) x
    rw [if_neg (by simp)] at ih ⊢
    rw [List.cons_append, glu_cons sep y ((z :: r) ++ [x]) (by simp), ih, glu_cons sep y (z :: r) (by simp)]
    simp only [List.append_assoc]
theorem glu_addH (sep x : List UInt8) (L : List (List UInt8)) (h : L ≠ []) : gluX sep (addH x L) = x ++ gluX sep L := by
  match L, h with
  | [p], _ => rfl
  | p :: q :: r, _ =>
    show gluX sep ((x ++ p) :: q :: r) = _
    rw [glu_cons sep (x ++ p) (q :: r) (by simp), glu_cons sep p (q :: r) (by simp)]
    simp only [List.append_assoc]
/-- The pieces joined are the text. -/
theorem glu_spl (sep : List UInt8) : ∀ (n : Nat) (l : List UInt8), l.length ≤ n → gluX sep (splG sep l) = l
  | _, [], _ => by rw [spl_nil]; rfl
  | 0, c :: t, h => by simp at h
  | n + 1, c :: t, h => by
    by_cases h0 : sep ≠ [] ∧ sep.isPrefixOf (c :: t) = true
    · obtain ⟨r, hr⟩ := List.isPrefixOf_iff_prefix.1 h0.2
      have hp := List.length_pos_iff.2 h0.1
      have hd : (c :: t).drop sep.length = r := by rw [← hr, List.drop_left]
      have hl : r.length ≤ n := by
        have := congrArg List.length hr
        rw [List.length_append] at this
        simp only [List.length_cons] at this h
        omega
      rw [spl_hit sep _ h0.1 h0.2, hd, glu_cons sep [] _ (spl_ne sep n r hl), glu_spl sep n r hl]
      rw [← hr]; rfl
    · have hl : t.length ≤ n := by simpa using h
      have hm : ¬ (sep ≠ [] ∧ sep.isPrefixOf (c :: t) = true) := h0
      rw [splG, dif_neg hm, glu_addH sep [c] _ (spl_ne sep n t hl), glu_spl sep n t hl]
      rfl
/-! A separator of two bytes. -/
theorem pre_two (a b : UInt8) (l : List UInt8) : [a, b].isPrefixOf l = true ↔ ∃ t, l = a :: b :: t := by
  rw [List.isPrefixOf_iff_prefix]
  constructor
  · rintro ⟨t, rfl⟩; exact ⟨t, rfl⟩
  · rintro ⟨t, rfl⟩; exact ⟨t, rfl⟩
/-- A piece that holds no separator and does not end with the separator's first byte, the separator behind it. -/
theorem spl_app (a b : UInt8) : ∀ (x t : List UInt8), splG [a, b] x = [x] → (∀ h : x ≠ [], x.getLast h ≠ a) → splG [a, b] (x ++ a :: b :: t) = x :: splG [a, b] t
  | [], t, _, _ => by
    rw [List.nil_append, spl_hit [a, b] _ (by simp) ((pre_two a b _).2 ⟨t, rfl⟩)]
    rfl
  | c :: x, t, h, hl => by
    have hm : [a, b].isPrefixOf (c :: x) = false := by
      cases e : [a, b].isPrefixOf (c :: x) with
      | false => rfl
      | true =>
        rw [spl_hit [a, b] _ (by simp) e] at h
        simp at h
    have hx : splG [a, b] x = [x] := by
      rw [spl_miss [a, b] c x hm] at h
      cases e : splG [a, b] x with
      | nil => exact absurd e (spl_ne _ _ x (Nat.le_refl _))
      | cons p r =>
        rw [e] at h
        simp only [addH, List.cons.injEq, List.cons_append, List.nil_append, true_and] at h
        rw [h.1, h.2]
    have hm2 : [a, b].isPrefixOf (c :: (x ++ a :: b :: t)) = false := by
      cases e : [a, b].isPrefixOf (c :: (x ++ a :: b :: t)) with
      | false => rfl
      | true =>
        obtain ⟨u, hu⟩ := (pre_two a b _).1 e
        cases x with
        | nil =>
          simp only [List.nil_append, List.cons.injEq] at hu
          have := hl (by simp)
          simp only [List.getLast_singleton] at this
          exact absurd hu.1 this
        | cons d y =>
          simp only [List.cons_append, List.cons.injEq] at hu
          have : [a, b].isPrefixOf (c :: d :: y) = true := (pre_two a b _).2 ⟨y, by rw [hu.1, hu.2.1]⟩
          rw [this] at hm
          cases hm
    have ih := spl_app a b x t hx (fun hne => by
      have := hl (by simp)
      rwa [List.getLast_cons hne] at this)
    rw [List.cons_append, spl_miss [a, b] c _ hm2, ih]
    rfl
/-- Joined pieces are divided into themselves. -/
theorem spl_glu (a b : UInt8) : ∀ (L : List (List UInt8)), L ≠ [] → (∀ x ∈ L, splG [a, b] x = [x] ∧ ∀ h : x ≠ [], x.getLast h ≠ a) → splG [a, b] (gluX [a, b] L) = L
  | [], h, _ => absurd rfl h
  | [x], _, h => (h x (by simp)).1
  | x :: y :: r, _, h => by
    have hx := h x (by simp)
    have ih := spl_glu a b (y :: r) (by simp) (fun z hz => h z (by simp [hz]))
    show splG [a, b] (x ++ [a, b] ++ gluX [a, b] (y :: r)) = _
    rw [List.append_assoc]
    show splG [a, b] (x ++ a :: b :: gluX [a, b] (y :: r)) = _
    rw [spl_app a b x _ hx.1 hx.2, ih]
/-- No piece holds a separator where the text holds none of its bytes. -/
theorem spl_none (a b : UInt8) : ∀ (x : List UInt8), (∀ c ∈ x, c ≠ a) → splG [a, b] x = [x]
  | [], _ => spl_nil _
  | c :: x, h => by
    have hm : [a, b].isPrefixOf (c :: x) = false := by
      cases e : [a, b].isPrefixOf (c :: x) with
      | false => rfl
      | true =>
        obtain ⟨u, hu⟩ := (pre_two a b _).1 e
        exact absurd (List.cons.inj hu).1 (h c (by simp))
    rw [spl_miss [a, b] c x hm, spl_none a b x (fun d hd => h d (by simp [hd]))]
    rfl
/-! Pieces of texts. -/
theorem enc_head (c : Nat) (h : okc c) (x t : List UInt8) (b : UInt8) (hb : b.toNat < 128) (e : encodeRune (c : Int) = x ++ b :: t) : x = [] ∧ t = [] ∧ c = b.toNat := by
  unfold encodeRune at e
  by_cases h1 : c ≤ 127
  · rw [encodeRuneZ_one (by omega) (by omega)] at e
    simp only [List.map_cons, List.map_nil] at e
    cases x with
    | nil =>
      simp only [List.nil_append, List.cons.injEq] at e
      refine ⟨rfl, e.2.symm, ?_⟩
      have := congrArg UInt8.toNat e.1
      rw [toByteNat _ (by omega) (by omega)] at this
      omega
    | cons y z =>
      simp at e
  · exfalso
    have hall : ∀ d ∈ (encodeRuneZ (c : Int)).map (fun z => z.toNat.toUInt8), 128 ≤ d.toNat := by
      by_cases h2 : c ≤ 2047
      · rw [encodeRuneZ_two (by omega) (by omega)]
        have e0 := toByteNat (192 + (c : Int) / 64) (by omega) (by omega)
        have e1 := toByteNat (128 + (c : Int) % 64) (by omega) (by omega)
        intro d hd
        simp only [List.map_cons, List.map_nil, List.mem_cons, List.not_mem_nil, or_false] at hd
        rcases hd with rfl | rfl
        · rw [e0]; omega
        · rw [e1]; omega
      · rw [encodeRuneZ_three (by unfold okc at h; omega)]
        have e0 := toByteNat (224 + (c : Int) / 4096) (by omega) (by unfold okc at h; omega)
        have e1 := toByteNat (128 + (c : Int) / 64 % 64) (by omega) (by omega)
        have e2 := toByteNat (128 + (c : Int) % 64) (by omega) (by omega)
        intro d hd
        simp only [List.map_cons, List.map_nil, List.mem_cons, List.not_mem_nil, or_false] at hd
        rcases hd with rfl | rfl | rfl
        · rw [e0]; omega
        · rw [e1]; omega
        · rw [e2]; omega
    have := hall b (by rw [e]; simp)
    omega
/-- A byte of one character parts a text's characters. -/
theorem enc_part : ∀ (cs : List Nat), OKs cs → ∀ (x t : List UInt8) (b : UInt8), b.toNat < 128 → enc cs = x ++ b :: t → ∃ c1 c2, cs = c1 ++ b.toNat :: c2 ∧ x = enc c1 ∧ t = enc c2
  | [], _, x, t, b, _, e => by
    rw [enc_nil] at e
    simp at e
  | c :: cs, h, x, t, b, hb, e => by
    obtain ⟨h1, h2⟩ := OKs_cons.1 h
    rw [enc_cons] at e
    have hrest : ∀ a' : List UInt8, x = encodeRune (c : Int) ++ a' → enc cs = a' ++ b :: t → ∃ c1 c2, c :: cs = c1 ++ b.toNat :: c2 ∧ x = enc c1 ∧ t = enc c2 := by
      intro a' e1 e2
      obtain ⟨c1, c2, h3, h4, h5⟩ := enc_part cs h2 a' t b hb e2
      exact ⟨c :: c1, c2, by rw [h3]; rfl, by rw [enc_cons, e1, h4], h5⟩
    rcases List.append_eq_append_iff.1 e with ⟨a', e1, e2⟩ | ⟨c', e1, e2⟩
    · exact hrest a' e1 e2
    · cases c' with
      | nil => exact hrest [] (by rw [List.append_nil] at e1 ⊢; exact e1.symm) e2.symm
      | cons d c'' =>
        rw [List.cons_append] at e2
        obtain ⟨rfl, e3⟩ := List.cons.inj e2
        obtain ⟨rfl, rfl, rfl⟩ := enc_head c h1 x c'' b hb e1
        exact ⟨[], cs, rfl, rfl, by simpa using e3⟩
end

section
open Go.Lib
/-! Words joined by blanks. -/
theorem join_mem (ws : List (List Nat)) : ∀ c ∈ joinL ws, (∃ x ∈ ws, c ∈ x) ∨ c = 32 := by
  refine snoc_ind2 (p := fun ws => ∀ c ∈ joinL ws, (∃ x ∈ ws, c ∈ x) ∨ c = 32) ?_ ?_ ws
  · intro c hc; cases hc
  · intro l x ih c hc
    rw [joinL_snoc] at hc
    by_cases h : l = []
    · rw [if_pos h] at hc
      exact .inl ⟨x, by simp, hc⟩
    · rw [if_neg h] at hc
      simp only [List.mem_append, List.mem_singleton] at hc
      rcases hc with (hc | hc) | hc
      · rcases ih c hc with ⟨y, hy, hy2⟩ | hy
        · exact .inl ⟨y, by simp [hy], hy2⟩
        · exact .inr hy
      · exact .inr hc
      · exact .inl ⟨x, by simp, hc⟩
theorem clean_word : ∀ (x : List Nat), (∀ c ∈ x, blankc c = false) → ∀ (out : List Nat), x.foldl cleanStep (out, false) = (out ++ x, false)
  | [], _, out => by simp
  | c :: x, h, out => by
    have hc := h c (by simp)
    have e : cleanStep (out, false) c = (out ++ [c], false) := by
      unfold cleanStep
      rw [hc]
      simp
    rw [List.foldl_cons, e, clean_word x (fun d hd => h d (by simp [hd]))]
    simp
theorem clean_next (x : List Nat) (h0 : x ≠ []) (h : ∀ c ∈ x, blankc c = false) (out : List Nat) (ho : out ≠ []) : x.foldl cleanStep (out, true) = (out ++ [32] ++ x, false) := by
  cases x with
  | nil => exact absurd rfl h0
  | cons c x =>
    have hc := h c (by simp)
    have e : cleanStep (out, true) c = (out ++ [32] ++ [c], false) := by
      unfold cleanStep
      rw [hc]
      simp [ho]
    rw [List.foldl_cons, e, clean_word x (fun d hd => h d (by simp [hd]))]
    simp
theorem join_ne (ws : List (List Nat)) (h : ∀ x ∈ ws, x ≠ []) (h0 : ws ≠ []) : joinL ws ≠ [] := by
  have := List.dropLast_concat_getLast h0
  rw [← this, joinL_snoc]
  have hx := h (ws.getLast h0) (List.getLast_mem h0)
  split
  · exact hx
  · simp
theorem clean_join (ws : List (List Nat)) : (∀ x ∈ ws, x ≠ [] ∧ ∀ c ∈ x, blankc c = false) → cleanRun (joinL ws) = (joinL ws, false) := by
  refine snoc_ind2 (p := fun ws => (∀ x ∈ ws, x ≠ [] ∧ ∀ c ∈ x, blankc c = false) → cleanRun (joinL ws) = (joinL ws, false)) ?_ ?_ ws
  · intro _; rfl
  · intro l x ih h
    have hx := h x (by simp)
    have hl := ih (fun y hy => h y (by simp [hy]))
    rw [joinL_snoc]
    by_cases h0 : l = []
    · rw [if_pos h0]
      unfold cleanRun
      have := clean_word x hx.2 []
      simpa using this
    · rw [if_neg h0]
      have hne := join_ne l (fun y hy => (h y (by simp [hy])).1) h0
      unfold cleanRun at hl ⊢
      rw [List.foldl_append, List.foldl_append, hl]
      have e : [32].foldl cleanStep (joinL l, false) = (joinL l, true) := by
        simp [cleanStep, blankc]
      rw [e, clean_next x hx.1 hx.2 _ hne]
theorem letter_blank (c : Nat) (h : letterc c = true) : blankc c = false ∧ c ≠ 45 := by
  unfold letterc at h
  unfold blankc
  simp only [Bool.or_eq_true, Bool.and_eq_true, decide_eq_true_eq] at h
  constructor
  · simp only [Bool.or_eq_false_iff, beq_eq_false_iff_ne]
    omega
  · omega
theorem W_words (cs : List Nat) : ∀ x ∈ W cs, x ≠ [] ∧ ∀ c ∈ x, blankc c = false :=
  fun x hx => ⟨(W_good cs x hx).1, fun c hc => (letter_blank c ((W_good cs x hx).2 c hc).1).1⟩
theorem clean_W (cs : List Nat) : cleanL (joinL (W cs)) = joinL (W cs) := by
  unfold cleanL
  rw [clean_join _ (W_words cs)]
theorem W_no (cs : List Nat) : ∀ c ∈ joinL (W cs), c ≠ 45 := by
  intro c hc
  rcases join_mem _ c hc with ⟨x, hx, hcx⟩ | rfl
  · exact (letter_blank c ((W_good cs x hx).2 c hcx).1).2
  · decide

/-! Parts and norms. -/
def dd : List UInt8 := [45, 45]
def cb : List UInt8 := [44, 32]
def cleanX (l : List UInt8) : List UInt8 := enc (cleanL (runes l))
def wordX (l : List UInt8) : List UInt8 := enc (joinL (W (runes l)))
def nonE (L : List (List UInt8)) : List (List UInt8) := L.filter fun x => decide (x ≠ [])
def partsX (l : List UInt8) : List (List UInt8) := nonE ((splG dd l).map cleanX)
def normL (l : List UInt8) : List (List UInt8) := nonE ((partsX l).map wordX)
def normX (l : List UInt8) : List UInt8 := gluX dd (normL l)
def sameX (a b : List UInt8) : Bool := decide (normX a ≠ []) && decide (normX a = normX b)
theorem nonE_mem {L : List (List UInt8)} {x : List UInt8} (h : x ∈ nonE L) : x ∈ L ∧ x ≠ [] := by
  unfold nonE at h
  simpa using h
theorem nonE_all (L : List (List UInt8)) (h : ∀ x ∈ L, x ≠ []) : nonE L = L := by
  unfold nonE
  rw [List.filter_eq_self]
  intro x hx
  exact decide_eq_true (h x hx)
theorem cleanX_enc (cs : List Nat) (h : OKs cs) : cleanX (enc cs) = enc (cleanL cs) := by unfold cleanX; rw [runes_enc cs h]
theorem wordX_enc (cs : List Nat) (h : OKs cs) : wordX (enc cs) = enc (joinL (W cs)) := by unfold wordX; rw [runes_enc cs h]
/-- The pieces of a text are texts. -/
theorem spl_valid (sep : List UInt8) (hs : ∀ b ∈ sep, b.toNat < 128) : ∀ (n : Nat) (cs : List Nat), (enc cs).length ≤ n → OKs cs → ∀ x ∈ splG sep (enc cs), ∃ c1, OKs c1 ∧ x = enc c1
  | _, [], _, _ => by
    rw [enc_nil, spl_nil]
    intro x hx
    rw [List.mem_singleton.1 hx]
    exact ⟨[], OKs_nil, rfl⟩
  | 0, c :: cs, hn, _ => by
    have := (wid_pos c).1
    unfold wid at this
    rw [enc_cons, List.length_append] at hn
    omega
  | n + 1, c :: cs, hn, h => by
    by_cases h0 : sep ≠ [] ∧ sep.isPrefixOf (enc (c :: cs)) = true
    · have hrest : ∀ (sp : List UInt8), (∀ b ∈ sp, b.toNat < 128) → ∀ (ds : List Nat), OKs ds → ∀ r, sp ++ r = enc ds → ∃ e, OKs e ∧ r = enc e := by
        intro sp
        induction sp with
        | nil => intro _ ds hd r hr; exact ⟨ds, hd, hr⟩
        | cons b sp ih =>
          intro hb ds hd r hr
          obtain ⟨c1, c2, e1, e2, e3⟩ := enc_part ds hd [] (sp ++ r) b (hb b (by simp)) hr.symm
          have hc2 : OKs c2 := by
            rw [e1] at hd
            exact (OKs_cons.1 ((OKs_append.1 hd).2)).2
          exact ih (fun d hd => hb d (by simp [hd])) c2 hc2 r e3
      obtain ⟨r, hr⟩ := List.isPrefixOf_iff_prefix.1 h0.2
      obtain ⟨e, he, rfl⟩ := hrest sep hs (c :: cs) h r hr
      have hd : (enc (c :: cs)).drop sep.length = enc e := by rw [← hr, List.drop_left]
      have hp := List.length_pos_iff.2 h0.1
      have hl : (enc e).length ≤ n := by
        have := congrArg List.length hr
        rw [List.length_append] at this
        omega
      rw [spl_hit sep _ h0.1 h0.2, hd]
      intro x hx
      rcases List.mem_cons.1 hx with rfl | hx
      · exact ⟨[], OKs_nil, rfl⟩
      · exact spl_valid sep hs n e hl he x hx
    · -- the first character belongs to the first piece
      obtain ⟨h1, h2⟩ := OKs_cons.1 h
      have hw := (wid_pos c).1
      have hkey : ∀ (y t : List UInt8), (∀ u v, y = u ++ v → v ≠ [] → sep ≠ [] → sep.isPrefixOf (v ++ t) = false) → splG sep (y ++ t) = addH y (splG sep t) := by
        intro y
        induction y with
        | nil => intro t _; rw [List.nil_append, addH_nil _ (spl_ne sep _ t (Nat.le_refl _))]
        | cons d y ih =>
          intro t hy
          rw [List.cons_append]
          by_cases hse : sep = []
          · subst hse
            rw [splG, dif_neg (fun g => g.1 rfl), ih t (fun u v e hv hs => absurd rfl hs), addH_app]
            rfl
          · rw [spl_miss sep d (y ++ t) (hy [] (d :: y) rfl (by simp) hse), ih t (fun u v e hv hs => hy (d :: u) v (by rw [e]; rfl) hv hs), addH_app]
            rfl
      have hpc : splG sep (enc (c :: cs)) = addH (encodeRune (c : Int)) (splG sep (enc cs)) := by
        rw [enc_cons]
        refine hkey _ _ (fun u v e hv hse => ?_)
        cases hp : sep.isPrefixOf (v ++ enc cs) with
        | false => rfl
        | true =>
          exfalso
          cases u with
          | nil =>
            rw [List.nil_append] at e
            rw [← e, ← enc_cons] at hp
            exact h0 ⟨hse, hp⟩
          | cons d u =>
            -- the separator's first byte is no byte behind the first of a character
            obtain ⟨b, sp, rfl⟩ : ∃ b sp, sep = b :: sp := by
              cases sep with
              | nil => exact absurd rfl hse
              | cons b sp => exact ⟨b, sp, rfl⟩
            obtain ⟨w, v2, rfl⟩ : ∃ w v2, v = w :: v2 := by
              cases v with
              | nil => exact absurd rfl hv
              | cons w v2 => exact ⟨w, v2, rfl⟩
            obtain ⟨r, hr⟩ := List.isPrefixOf_iff_prefix.1 hp
            simp only [List.cons_append, List.cons.injEq] at hr
            have := enc_head c h1 (d :: u) v2 w (by rw [← hr.1]; exact hs b (by simp)) e
            exact absurd this.1 (by simp)
      rw [hpc]
      have hl : (enc cs).length ≤ n := by
        unfold wid at hw
        rw [enc_cons, List.length_append] at hn
        omega
      have ih := spl_valid sep hs n cs hl h2
      cases e : splG sep (enc cs) with
      | nil => exact absurd e (spl_ne sep _ _ (Nat.le_refl _))
      | cons p r =>
        rw [e] at ih
        intro x hx
        rcases List.mem_cons.1 hx with rfl | hx
        · obtain ⟨c1, hc1, rfl⟩ := ih p (by simp)
          exact ⟨c :: c1, OKs_cons.2 ⟨h1, hc1⟩, (enc_cons c c1).symm⟩
        · exact ih x (by simp [hx])
theorem dd_ascii : ∀ b ∈ dd, b.toNat < 128 := by decide
theorem cb_ascii : ∀ b ∈ cb, b.toNat < 128 := by decide
theorem parts_valid (l : List UInt8) (h : validT l = true) : ∀ x ∈ partsX l, ∃ c1, OKs c1 ∧ x = enc c1 ∧ c1 ≠ [] ∧ cleanL c1 = c1 := by
  obtain ⟨cs, hcs, rfl⟩ := validT_text l h
  intro x hx
  obtain ⟨hx, hne⟩ := nonE_mem hx
  obtain ⟨y, hy, rfl⟩ := List.mem_map.1 hx
  obtain ⟨c1, hc1, rfl⟩ := spl_valid dd dd_ascii _ cs (Nat.le_refl _) hcs y hy
  rw [cleanX_enc c1 hc1] at hne ⊢
  exact ⟨cleanL c1, clean_OK c1 hc1, rfl, (fun e => hne (by rw [e]; rfl)), clean_twice c1⟩
theorem norm_words (l : List UInt8) (h : validT l = true) : ∀ x ∈ normL l, ∃ cs, OKs cs ∧ x = enc (joinL (W cs)) ∧ x ≠ [] := by
  intro x hx
  obtain ⟨hx, hne⟩ := nonE_mem hx
  obtain ⟨y, hy, rfl⟩ := List.mem_map.1 hx
  obtain ⟨c1, hc1, rfl, _, _⟩ := parts_valid l h y hy
  rw [wordX_enc c1 hc1] at hne ⊢
  exact ⟨c1, hc1, rfl, hne⟩
theorem enc_no (cs : List Nat) (h : OKs cs) (b : UInt8) (hb : b.toNat < 128) (hn : ∀ c ∈ cs, c ≠ b.toNat) : ∀ d ∈ enc cs, d ≠ b := by
  rintro d hd rfl
  obtain ⟨x, t, e⟩ := List.append_of_mem hd
  obtain ⟨c1, c2, e1, _, _⟩ := enc_part cs h x t d hb e
  exact hn d.toNat (by rw [e1]; simp) rfl
theorem parts_norm (l : List UInt8) (h : validT l = true) : partsX (normX l) = normL l := by
  have hw := norm_words l h
  unfold normX
  by_cases h0 : normL l = []
  · rw [h0]
    unfold partsX
    rw [show gluX dd [] = [] from rfl, spl_nil]
    rfl
  · have hs : splG dd (gluX dd (normL l)) = normL l := by
      refine spl_glu 45 45 _ h0 (fun x hx => ?_)
      obtain ⟨cs, hcs, rfl, _⟩ := hw x hx
      have hno := enc_no (joinL (W cs)) (join_OK _ (W_OK cs hcs)) 45 (by decide) (W_no cs)
      exact ⟨spl_none 45 45 _ hno, fun hne => hno _ (List.getLast_mem hne)⟩
    unfold partsX
    rw [hs]
    have hc : (normL l).map cleanX = normL l := by
      conv => rhs; rw [← List.map_id (normL l)]
      refine List.map_congr_left (fun x hx => ?_)
      obtain ⟨cs, hcs, rfl, _⟩ := hw x hx
      rw [cleanX_enc _ (join_OK _ (W_OK cs hcs)), clean_W]
      rfl
    rw [hc]
    exact nonE_all _ (fun x hx => by obtain ⟨_, _, _, hne⟩ := hw x hx; exact hne)
theorem norm_again (l : List UInt8) (h : validT l = true) : normX (normX l) = normX l := by
  have hw := norm_words l h
  have hl : normL (normX l) = normL l := by
    unfold normL
    rw [parts_norm l h]
    have hc : (normL l).map wordX = normL l := by
      conv => rhs; rw [← List.map_id (normL l)]
      refine List.map_congr_left (fun x hx => ?_)
      obtain ⟨cs, hcs, rfl, _⟩ := hw x hx
      rw [wordX_enc _ (join_OK _ (W_OK cs hcs)), W_join]
      rfl
    rw [hc]
    exact nonE_all _ (fun x hx => by obtain ⟨_, _, _, hne⟩ := hw x hx; exact hne)
  unfold normX at hl ⊢
  rw [hl]
theorem same_again (l : List UInt8) (h : validT l = true) : sameX l (normX l) = decide (normX l ≠ []) := by
  unfold sameX
  rw [norm_again l h, decide_eq_true rfl, Bool.and_true]
end

section
open Go.Lib
/-! Join. -/
/-- Can this, which is not empty, be a part? -/
def plainX (x : List UInt8) : Bool := validT x && decide (cleanX x = x) && decide ((splG dd x).length ≤ 1) && decide (x.getD 0 0 ≠ 45) && decide (x.getD (x.length - 1) 0 ≠ 45)
def partE (x : List UInt8) : Int := if x = [] then 8 else if plainX x = false then 3 else 0
/-- The first error. -/
def firstE12 : List (List UInt8) → Int
  | [] => 0
  | x :: t => if partE x ≠ 0 then partE x else firstE12 t
def joinX (L : List (List UInt8)) : List UInt8 × Int :=
  if L.length = 0 then ([], 8) else if 4 < L.length then ([], 4) else if firstE12 L ≠ 0 then ([], firstE12 L) else if 200 < (gluX dd L).length then ([], 4) else (gluX dd L, 0)
theorem firstE_all : ∀ (L : List (List UInt8)), firstE12 L = 0 → ∀ x ∈ L, partE x = 0
  | [], _, x, hx => by cases hx
  | y :: t, h, x, hx => by
    rw [firstE12] at h
    by_cases h0 : partE y ≠ 0
    · rw [if_pos h0] at h; exact absurd h h0
    · rw [if_neg h0] at h
      rcases List.mem_cons.1 hx with rfl | hx
      · exact Decidable.not_not.1 h0
      · exact firstE_all t h x hx
theorem partE_ok (x : List UInt8) (h : partE x = 0) : x ≠ [] ∧ plainX x = true := by
  unfold partE at h
  by_cases h0 : x = []
  · rw [if_pos h0] at h; cases h
  rw [if_neg h0] at h
  cases e : plainX x with
  | true => exact ⟨h0, rfl⟩
  | false => rw [e] at h; cases h
theorem spl_one (sep x : List UInt8) (h : (splG sep x).length ≤ 1) : splG sep x = [x] := by
  have hg := glu_spl sep x.length x (Nat.le_refl _)
  have hn := spl_ne sep x.length x (Nat.le_refl _)
  match e : splG sep x with
  | [] => exact absurd e hn
  | [y] => rw [e] at hg; rw [show y = x from hg]
  | y :: z :: r => rw [e] at h; simp at h
theorem last_getD (x : List UInt8) (h : x ≠ []) : x.getLast h = x.getD (x.length - 1) 0 := by
  have hp := List.length_pos_iff.2 h
  rw [List.getLast_eq_getElem, List.getD_eq_getElem?_getD, List.getElem?_eq_getElem (by omega)]
  rfl
theorem plain_facts (x : List UInt8) (h : plainX x = true) : validT x = true ∧ cleanX x = x ∧ splG dd x = [x] ∧ ∀ hx : x ≠ [], x.getLast hx ≠ 45 := by
  unfold plainX at h
  simp only [Bool.and_eq_true, decide_eq_true_eq] at h
  exact ⟨h.1.1.1.1, h.1.1.1.2, spl_one dd x h.1.1.2, fun hx => by rw [last_getD x hx]; exact h.2⟩
theorem join_ok (L : List (List UInt8)) (s : List UInt8) (h : joinX L = (s, 0)) : L ≠ [] ∧ (∀ x ∈ L, x ≠ [] ∧ plainX x = true) ∧ s = gluX dd L ∧ s.length ≤ 200 := by
  unfold joinX at h
  by_cases h1 : L.length = 0
  · rw [if_pos h1] at h; simp at h
  rw [if_neg h1] at h
  by_cases h2 : 4 < L.length
  · rw [if_pos h2] at h; simp at h
  rw [if_neg h2] at h
  by_cases h3 : firstE12 L ≠ 0
  · rw [if_pos h3] at h; exact absurd (Prod.mk.inj h).2 h3
  rw [if_neg h3] at h
  by_cases h4 : 200 < (gluX dd L).length
  · rw [if_pos h4] at h; simp at h
  rw [if_neg h4] at h
  obtain ⟨rfl, _⟩ := Prod.mk.inj h
  exact ⟨fun e => h1 (by rw [e]; rfl), fun x hx => partE_ok x (firstE_all L (Decidable.not_not.1 h3) x hx), rfl, by omega⟩
theorem join_no (L : List (List UInt8)) (s : List UInt8) (e : Int) (h : joinX L = (s, e)) (he : e ≠ 0) : s = [] := by
  unfold joinX at h
  by_cases h1 : L.length = 0
  · rw [if_pos h1] at h; exact (Prod.mk.inj h).1.symm
  rw [if_neg h1] at h
  by_cases h2 : 4 < L.length
  · rw [if_pos h2] at h; exact (Prod.mk.inj h).1.symm
  rw [if_neg h2] at h
  by_cases h3 : firstE12 L ≠ 0
  · rw [if_pos h3] at h; exact (Prod.mk.inj h).1.symm
  rw [if_neg h3] at h
  by_cases h4 : 200 < (gluX dd L).length
  · rw [if_pos h4] at h; exact (Prod.mk.inj h).1.symm
  rw [if_neg h4] at h
  exact absurd (Prod.mk.inj h).2.symm he
theorem spl_join (L : List (List UInt8)) (h0 : L ≠ []) (h : ∀ x ∈ L, x ≠ [] ∧ plainX x = true) : splG dd (gluX dd L) = L :=
  spl_glu 45 45 L h0 (fun x hx => by
    obtain ⟨_, _, h3, h4⟩ := plain_facts x (h x hx).2
    exact ⟨h3, h4⟩)
theorem parts_join (L : List (List UInt8)) (s : List UInt8) (h : joinX L = (s, 0)) : partsX s = L := by
  obtain ⟨h0, h1, rfl, _⟩ := join_ok L s h
  unfold partsX
  rw [spl_join L h0 h1]
  have hc : L.map cleanX = L := by
    conv => rhs; rw [← List.map_id L]
    exact List.map_congr_left (fun x hx => (plain_facts x (h1 x hx).2).2.1)
  rw [hc]
  exact nonE_all _ (fun x hx => (h1 x hx).1)
/-- Valid pieces joined are valid. -/
theorem glu_valid (sep : List UInt8) (hs : validT sep = true) : ∀ (L : List (List UInt8)), (∀ x ∈ L, validT x = true) → validT (gluX sep L) = true
  | [], _ => (by decide : validT [] = true)
  | [x], h => h x (by simp)
  | x :: y :: r, h => by
    have ih := glu_valid sep hs (y :: r) (fun z hz => h z (by simp [hz]))
    obtain ⟨a, ha, h1⟩ := validT_text _ (h x (by simp))
    obtain ⟨b, hb, h2⟩ := validT_text _ hs
    obtain ⟨c, hc, h3⟩ := validT_text _ ih
    show validT (x ++ sep ++ gluX sep (y :: r)) = true
    rw [h3, h1, h2, ← enc_append, ← enc_append]
    exact validT_enc _ (OKs_append.2 ⟨OKs_append.2 ⟨ha, hb⟩, hc⟩)
theorem dd_valid : validT dd = true := by decide +kernel
theorem join_valid (L : List (List UInt8)) (s : List UInt8) (h : joinX L = (s, 0)) : validT s = true := by
  obtain ⟨_, h1, rfl, _⟩ := join_ok L s h
  exact glu_valid dd dd_valid L (fun x hx => (plain_facts x (h1 x hx).2).1)

/-! Above. -/
def aboveL (P : List (List UInt8)) : List (List UInt8) := (List.range (P.length - 1)).map fun i => gluX dd (P.take (P.length - 1 - i))
def aboveX (l : List UInt8) : List (List UInt8) := aboveL (partsX l)
theorem above_len (l : List UInt8) : (aboveX l).length = (partsX l).length - 1 := by
  unfold aboveX aboveL
  rw [List.length_map, List.length_range]

/-! Names. -/
abbrev Nm := List UInt8 × List UInt8 × List UInt8
def nm0 : Nm := ([], [], [])
def digc (c : UInt8) : Bool := decide (48 ≤ c.toNat) && decide (c.toNat ≤ 57)
def datesX (l : List UInt8) : Bool := decide (l.length = 5 ∨ l.length = 9) && (List.range l.length).all fun i => if i = 4 then decide (l.getD i 0 = 45) else digc (l.getD i 0)
def pieceX (x : List UInt8) : Bool := decide (x ≠ []) && decide (cleanX x = x) && decide ((splG [44] x).length ≤ 1)
def nameL (L : List (List UInt8)) : Option Nm := match L with
  | [a] => some (a, [], [])
  | [a, b] => if datesX b = true then some (a, [], b) else some (a, b, [])
  | [a, b, c] => if datesX c = true then some (a, b, c) else none
  | _ => none
def nameO (s : List UInt8) : Option Nm := if validT s = false then none else if (splG cb s).all pieceX = false then none else nameL (splG cb s)
def nameX (s : List UInt8) : Nm × Int := match nameO s with
  | some n => (n, 0)
  | none => (nm0, 3)
def textN (n : Nm) : List UInt8 := (n.1 ++ if n.2.1 = [] then [] else cb ++ n.2.1) ++ if n.2.2 = [] then [] else cb ++ n.2.2
def textX12 (n : Nm) : List UInt8 × Int := if nameX (textN n) = (n, 0) then (textN n, 0) else ([], 3)
theorem piece_ne (x : List UInt8) (h : pieceX x = true) : x ≠ [] := by
  unfold pieceX at h
  simp only [Bool.and_eq_true, decide_eq_true_eq] at h
  exact h.1.1
theorem dates_ne (x : List UInt8) (h : datesX x = true) : x ≠ [] := by
  rintro rfl
  revert h
  decide
theorem name_text (s : List UInt8) (n : Nm) (h : nameO s = some n) : textN n = s := by
  unfold nameO at h
  split at h
  · cases h
  split at h
  · cases h
  rename_i h1 h2
  have hall : (splG cb s).all pieceX = true := by simpa using h2
  rw [List.all_eq_true] at hall
  have hg := glu_spl cb s.length s (Nat.le_refl _)
  revert h hall hg
  generalize splG cb s = L
  intro h hall hg
  unfold nameL at h
  split at h
  · rename_i a
    have hg : a = s := hg
    obtain rfl := Option.some.inj h
    unfold textN
    simpa using hg
  · rename_i a b
    have hb := piece_ne b (hall b (by simp))
    have hg : a ++ cb ++ b = s := hg
    split at h
    · obtain rfl := Option.some.inj h
      unfold textN
      simp only [if_true, if_neg hb, List.append_nil, ← hg, List.append_assoc]
    · obtain rfl := Option.some.inj h
      unfold textN
      simp only [if_true, if_neg hb, List.append_nil, ← hg, List.append_assoc]
  · rename_i a b c
    have hb := piece_ne b (hall b (by simp))
    have hc := piece_ne c (hall c (by simp))
    have hg : a ++ cb ++ (b ++ cb ++ c) = s := hg
    split at h
    · obtain rfl := Option.some.inj h
      unfold textN
      simp only [if_neg hb, if_neg hc, ← hg, List.append_assoc]
    · cases h
  · cases h
theorem name_some (s : List UInt8) (n : Nm) (h : nameX s = (n, 0)) : nameO s = some n := by
  unfold nameX at h
  cases e : nameO s with
  | none => rw [e] at h; simp at h
  | some m => rw [e] at h; rw [(Prod.mk.inj h).1]
theorem name_back (s : List UInt8) (n : Nm) (h : nameX s = (n, 0)) : textX12 n = (s, 0) := by
  have ht := name_text s n (name_some s n h)
  unfold textX12
  rw [ht, if_pos h]
theorem name_no (s : List UInt8) (n : Nm) (e : Int) (h : nameX s = (n, e)) (he : e ≠ 0) : n = nm0 := by
  unfold nameX at h
  cases e2 : nameO s with
  | none => rw [e2] at h; exact (Prod.mk.inj h).1.symm
  | some m => rw [e2] at h; exact absurd (Prod.mk.inj h).2.symm he
end

section
structure Au where
  id : Int
  kind : Int
  heading : List UInt8
  see : List (List UInt8)
  above : List Int
deriving DecidableEq
def au0 : Au := ⟨0, 0, [], [], []⟩
def hdsX (a : Au) : List (List UInt8) := a.heading :: a.see
/-- The first error of a heading of a kind. -/
def hdE (kind : Int) (x : List UInt8) : Int :=
  if validT x = false ∨ cleanX x ≠ x ∨ normX x = [] ∨ (kind = 3 ∧ gluX dd (partsX x) ≠ x) then 3 else if 200 < x.length ∨ 4 < (partsX x).length then 4 else 0
def firstI (L : List Int) : Int := (L.find? fun e => e != 0).getD 0
/-- The first error of an authority by itself. -/
def shapeI (a : Au) : Int :=
  if a.kind < 1 ∨ 4 < a.kind then 1 else if firstI ((hdsX a).map (hdE a.kind)) ≠ 0 then firstI ((hdsX a).map (hdE a.kind)) else if 8 < a.see.length then 13 else 0
def keysA (a : Au) : List (Int × List UInt8) := (hdsX a).map fun h => (a.kind, normX h)
def keysX (l : List Au) : List (Int × List UInt8) := l.flatMap keysA
def getA (l : List Au) (id : Int) : Option Au := l.find? fun a => a.id == id
def insI : List Int → Int → List Int
  | [], n => [n]
  | x :: r, n => if n < x then n :: x :: r else x :: insI r n
def putI (l : List Int) (n : Int) : List Int := if n ∈ l then l else insI l n
def roundA (l : List Au) (id : Int) (out : List Int) : List Int := l.foldl (fun out a => if a.id ≠ id ∧ a.id ∉ out then out else a.above.foldl putI out) out
def iterA (l : List Au) (id : Int) : Nat → List Int
  | 0 => []
  | k + 1 => roundA l id (iterA l id k)
/-- All above an authority. -/
def aboveA (l : List Au) (id : Int) : List Int := iterA l id (l.length + 1)
/-- All below an authority. -/
def belowA (l : List Au) (id : Int) : List Int := l.foldl (fun out a => if id ∈ aboveA l a.id then putI out a.id else out) []
def ascI : List Int → Bool
  | x :: y :: r => decide (x < y) && ascI (y :: r)
  | _ => true
/-- The first error of an authority's place among the others, from the one before it on. -/
def oneI (before : Option Int) (a : Au) : Int :=
  if a.id < 1 ∨ 9999 < a.id then 2 else if (match before with | some b => decide (a.id ≤ b) | none => false) = true then 7 else shapeI a
def onesI : Option Int → List Au → Int
  | _, [] => 0
  | b, a :: r => if oneI b a ≠ 0 then oneI b a else onesI (some a.id) r
def abvE (l : List Au) (a : Au) : Int :=
  if 4 < a.above.length then 13 else if ascI a.above = false then 7 else if (a.above.all fun n => match getA l n with | some x => decide (x.kind = a.kind) | none => false) = false then 9 else 0
/-- The first error of an authority file. -/
def rightA (l : List Au) : Int :=
  if 64 < l.length then 13 else if onesI none l ≠ 0 then onesI none l else if ¬ (keysX l).Nodup then 7 else
    if firstI (l.map (abvE l)) ≠ 0 then firstI (l.map (abvE l)) else if (l.any fun a => decide (a.id ∈ aboveA l a.id)) = true then 11 else 0
def findK (n : List UInt8) (L : List (List UInt8)) : Option Nat := L.findIdx? fun h => normX h == n
def findRd (l : List Au) (kind : Int) (n : List UInt8) : Int × Bool × Bool := match l with
  | [] => (0, false, false)
  | a :: r => if a.kind = kind then match findK n (hdsX a) with
      | some k => (a.id, decide (k = 0), true)
      | none => findRd r kind n
    else findRd r kind n
/-- The authority that has a heading. -/
def findA (l : List Au) (kind : Int) (h : List UInt8) : Int × Bool × Bool := if normX h = [] then (0, false, false) else findRd l kind (normX h)
def checkA (l : List Au) : List Au × Int := if rightA l = 0 then (l, 0) else ([], rightA l)
def insA : List Au → Au → List Au
  | [], a => [a]
  | x :: r, a => if a.id < x.id then a :: x :: r else x :: insA r a
def addA (l : List Au) (a : Au) : List Au × Int := if (getA l a.id).isSome = true then ([], 7) else checkA (insA l a)
def withA (l : List Au) (a : Au) : List Au := l.map fun x => if x.id = a.id then a else x
def woutA (l : List Au) (id : Int) : List Au := l.filter fun x => decide (x.id ≠ id)
def renA (l : List Au) (id : Int) (h : List UInt8) : List Au × Int := match getA l id with
  | none => ([], 9)
  | some a => checkA (withA l { a with heading := h, see := (a.see.filter fun s => decide (normX s ≠ normX h)) ++ (if normX a.heading ≠ normX h then [a.heading] else []) })
def turnA (into gone : Int) (x : Au) : Au := { x with above := x.above.foldl (fun out n => if (if n = gone then into else n) ≠ x.id then putI out (if n = gone then into else n) else out) [] }
def mergeA (l : List Au) (into gone : Int) : List Au × Int := match getA l into, getA l gone with
  | some a, some b => if into = gone ∨ a.kind ≠ b.kind then ([], 1) else checkA ((woutA (withA l { a with see := a.see ++ hdsX b }) gone).map (turnA into gone))
  | _, _ => ([], 9)
def remA (l : List Au) (id : Int) : List Au × Int := match getA l id with
  | none => ([], 9)
  | some _ => if (l.any fun a => decide (id ∈ a.above)) = true then ([], 10) else (woutA l id, 0)
def setA (l : List Au) (id : Int) (above : List Int) : List Au × Int := match getA l id with
  | none => ([], 9)
  | some a => checkA (withA l { a with above := above })
def smallA (l : List Au) : Bool := decide (l.length ≤ 30) && l.all fun a => decide ((hdsX a).length ≤ 12) && decide (a.above.length ≤ 8) && (hdsX a).all fun h => decide (h.length ≤ 260)

/-! The examples. -/
def animals : List Au := [⟨1, 3, [65, 110, 105, 109, 97, 108, 115], [], []⟩, ⟨2, 3, [68, 111, 103, 115], [[72, 111, 117, 110, 100, 115]], [1]⟩]
theorem an_right : rightA animals = 0 := by decide +kernel
theorem an_find : findA animals 3 [104, 111, 117, 110, 100, 115] = (2, false, true) := by decide +kernel
theorem an_find2 : findA animals 3 [68, 79, 71, 83] = (2, true, true) := by decide +kernel
theorem an_ren : renA animals 2 [72, 111, 117, 110, 100, 115] = ([⟨1, 3, [65, 110, 105, 109, 97, 108, 115], [], []⟩, ⟨2, 3, [72, 111, 117, 110, 100, 115], [[68, 111, 103, 115]], [1]⟩], 0) := by decide +kernel
theorem an_rem : remA animals 1 = ([], 10) := by decide +kernel
theorem an_set : setA animals 1 [2] = ([], 11) := by decide +kernel
theorem an_add : addA animals ⟨3, 3, [100, 111, 103, 115], [], []⟩ = ([], 7) := by decide +kernel
theorem an_above : aboveA animals 2 = [1] := by decide +kernel
theorem an_below : belowA animals 1 = [2] := by decide +kernel
end

section
open Go.RowKit Go.PlainAid
/-- An authority's value, with the values of its two slices. -/
def AV (a : Au) (s t : Value) : Value := .agg #[.int .i64 a.id, .int .i64 a.kind, .string (S a.heading), s, t]
/-- The two slices of an authority. -/
def AN (a : Au) (s t : Value) (w : World) : Prop := BL s a.see w ∧ IL t a.above w
theorem AN.after {a : Au} {s t : Value} {w w' : World} (h : AN a s t w) (hb : Below w.heap.size w w') : AN a s t w' := ⟨h.1.after hb, h.2.after hb⟩
/-- A slice of these authorities. -/
def AL (v : Value) (L : List Au) (w : World) : Prop :=
  ∃ a cap, v = .slice a L.length cap ∧ L.length ≤ cap ∧ cap ≤ maxLen ∧ (a = none → cap = 0) ∧ ∀ i, i < L.length → ∃ g o s t, a = some ⟨g, o, none⟩ ∧ g < w.heap.size ∧
    w.cell? ⟨g, o + i * 5, none⟩ = some (.int .i64 (L.getD i au0).id) ∧ w.cell? ⟨g, o + i * 5 + 1, none⟩ = some (.int .i64 (L.getD i au0).kind) ∧ w.cell? ⟨g, o + i * 5 + 2, none⟩ = some (.string (S (L.getD i au0).heading)) ∧
    w.cell? ⟨g, o + i * 5 + 3, none⟩ = some s ∧ w.cell? ⟨g, o + i * 5 + 4, none⟩ = some t ∧ AN (L.getD i au0) s t w
theorem AL.nil (w : World) : AL (.slice none 0 0) [] w := ⟨none, 0, rfl, Nat.le_refl _, Nat.zero_le _, fun _ => rfl, fun i hi => by cases hi⟩
theorem AL.after {v : Value} {L : List Au} {w w' : World} (h : AL v L w) (hb : Below w.heap.size w w') : AL v L w' := by
  obtain ⟨a, cap, rfl, hc, hm, hn, hx⟩ := h
  refine ⟨a, cap, rfl, hc, hm, hn, fun i hi => ?_⟩
  obtain ⟨g, o, s, t, rfl, hg, h0, h1, h2, h3, h4, hq⟩ := hx i hi
  exact ⟨g, o, s, t, rfl, Nat.lt_of_lt_of_le hg hb.size, (hb.cell (p := ⟨g, o + i * 5, none⟩) hg).trans h0, (hb.cell (p := ⟨g, o + i * 5 + 1, none⟩) hg).trans h1,
    (hb.cell (p := ⟨g, o + i * 5 + 2, none⟩) hg).trans h2, (hb.cell (p := ⟨g, o + i * 5 + 3, none⟩) hg).trans h3, (hb.cell (p := ⟨g, o + i * 5 + 4, none⟩) hg).trans h4, hq.after hb⟩
theorem AL.length {v : Value} {L : List Au} {w : World} (h : AL v L w) : ∃ a cap, v = .slice a L.length cap ∧ L.length ≤ cap ∧ cap ≤ maxLen := by
  obtain ⟨a, cap, h1, h2, h3, _⟩ := h
  exact ⟨a, cap, h1, h2, h3⟩
theorem AL.at {v : Value} {L : List Au} {w : World} (h : AL v L w) (k : Nat) (hk : k < L.length) : ∃ g o cap s t, v = .slice (some ⟨g, o, none⟩) L.length cap ∧ g < w.heap.size ∧
    w.cell? ⟨g, o + k * 5, none⟩ = some (.int .i64 (L.getD k au0).id) ∧ w.cell? ⟨g, o + k * 5 + 1, none⟩ = some (.int .i64 (L.getD k au0).kind) ∧ w.cell? ⟨g, o + k * 5 + 2, none⟩ = some (.string (S (L.getD k au0).heading)) ∧
    w.cell? ⟨g, o + k * 5 + 3, none⟩ = some s ∧ w.cell? ⟨g, o + k * 5 + 4, none⟩ = some t ∧ AN (L.getD k au0) s t w := by
  obtain ⟨a, cap, rfl, hc, hm, hn, hx⟩ := h
  obtain ⟨g, o, s, t, rfl, hh⟩ := hx k hk
  exact ⟨g, o, cap, s, t, rfl, hh⟩
end

end Go.Proofs.YthjdopnoophigaaGreatDoor
