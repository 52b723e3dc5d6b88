/- Merged: Plain12E. -/
import Derived.Test.YtmcolapcmjdoeaaGreatDoorQ03
import Derived.Lib.Split
import Derived.Lib.IndexMore
import Derived.Lib.Join
import Derived.Lib.Strings
namespace Go.Proofs.YtmcolapcmjdoeaaGreatDoor

section
theorem spl_index (sep : List UInt8) (h0 : sep ≠ []) : ∀ s : List UInt8, (Lib.index s sep = -1 → splG sep s = [s]) ∧ ∀ i : Nat, Lib.index s sep = (i : Int) → splG sep s = s.take i :: splG sep (s.drop (i + sep.length))
  | [] => by
    have he : sep.isEmpty = false := by cases sep <;> simp_all
    refine ⟨fun _ => spl_nil sep, fun i h => ?_⟩
    rw [Lib.index, he] at h
    (simp at h <;> omega)
  | c :: t => by
    by_cases hp : sep.isPrefixOf (c :: t) = true
    · refine ⟨fun h => ?_, fun i h => ?_⟩
      · rw [Lib.index, if_pos hp] at h
        omega
      · rw [Lib.index, if_pos hp] at h
        obtain rfl : i = 0 := by omega
        rw [spl_hit sep _ h0 hp, Nat.zero_add]
        rfl
    · have hp' : sep.isPrefixOf (c :: t) = false := Bool.eq_false_iff.2 hp
      obtain ⟨ih1, ih2⟩ := spl_index sep h0 t
      rw [spl_miss sep c t hp']
      by_cases hm : Lib.index t sep = -1
      · refine ⟨fun _ => by rw [ih1 hm]; rfl, fun i h => ?_⟩
        rw [Lib.index, hp', hm] at h
        (simp at h <;> omega)
      · have hge := Lib.index_ge t sep
        obtain ⟨k, hk⟩ : ∃ k : Nat, Lib.index t sep = (k : Int) := ⟨(Lib.index t sep).toNat, by omega⟩
        have hne : ((k : Int) == -1) = false := by rw [beq_eq_false_iff_ne]; omega
        refine ⟨fun h => ?_, fun i h => ?_⟩
        · rw [Lib.index, hp', hk, hne] at h
          (simp at h <;> omega)
        · rw [Lib.index, hp', hk, hne] at h
          obtain rfl : i = k + 1 := by
            (simp at h <;> omega)
          rw [ih2 k hk, show k + 1 + sep.length = (k + sep.length) + 1 by omega]
          rfl
theorem spl_cases (sep : List UInt8) (h0 : sep ≠ []) (s : List UInt8) : ((Lib.index s sep == -1) = true ∧ splG sep s = [s]) ∨ ((Lib.index s sep == -1) = false ∧ 0 ≤ Lib.index s sep ∧ splG sep s = s.take (Lib.index s sep).toNat :: splG sep (s.drop ((Lib.index s sep).toNat + sep.length))) := by
  have hge := Lib.index_ge s sep
  obtain ⟨h1, h2⟩ := spl_index sep h0 s
  by_cases hm : Lib.index s sep = -1
  · exact .inl ⟨beq_iff_eq.2 hm, h1 hm⟩
  · exact .inr ⟨beq_eq_false_iff_ne.2 hm, by omega, h2 _ (by omega)⟩
/-- Cut at the first k instances. -/
theorem splitK_all (sep : List UInt8) (h0 : sep ≠ []) : ∀ (k : Nat) (s : List UInt8), (splG sep s).length ≤ k + 1 → Lib.splitK sep 0 k s = splG sep s
  | 0, s, h => by
    have hne := spl_ne sep s.length s (Nat.le_refl _)
    rcases spl_cases sep h0 s with ⟨_, e⟩ | ⟨_, _, e⟩
    · rw [e]; rfl
    · rw [e] at h
      have := spl_ne sep _ (s.drop ((Lib.index s sep).toNat + sep.length)) (Nat.le_refl _)
      have := List.length_pos_iff.2 this
      simp only [List.length_cons] at h
      omega
  | k + 1, s, h => by
    rw [Lib.splitK]
    rcases spl_cases sep h0 s with ⟨m, e⟩ | ⟨m, _, e⟩
    · rw [if_pos m, e]
    · rw [m]
      rw [if_neg (by decide), e, Nat.add_zero, splitK_all sep h0 k]
      rw [e] at h
      simp only [List.length_cons] at h
      omega
theorem splitK_len (sep : List UInt8) (h0 : sep ≠ []) : ∀ (k : Nat) (s : List UInt8), k + 1 < (splG sep s).length → (Lib.splitK sep 0 k s).length = k + 1
  | 0, s, _ => rfl
  | k + 1, s, h => by
    rw [Lib.splitK]
    rcases spl_cases sep h0 s with ⟨m, e⟩ | ⟨m, _, e⟩
    · rw [e] at h
      simp at h
    · rw [m]
      rw [e] at h
      simp only [List.length_cons] at h
      rw [if_neg (by decide), List.length_cons, splitK_len sep h0 k _ (by omega)]
theorem countFrom_spl (sep : List UInt8) (h0 : sep ≠ []) : ∀ (n : Nat) (s : List UInt8), s.length < n → (splG sep s).length = Lib.countFrom sep n s + 1
  | 0, s, h => by omega
  | n + 1, s, h => by
    rw [Lib.countFrom]
    rcases spl_cases sep h0 s with ⟨m, e⟩ | ⟨m, hi, e⟩
    · rw [if_pos m, e]; rfl
    · have hr := Lib.index_room s sep hi
      have hl := List.length_pos_iff.2 h0
      rw [m, if_neg (by decide), e, List.length_cons, countFrom_spl sep h0 n _ (by rw [List.length_drop]; omega)]
      omega
/-- What strings.Split returns. -/
theorem split_spl (sep : List UInt8) (h0 : sep ≠ []) (s : List UInt8) : Lib.split s sep = splG sep s := by
  unfold Lib.split
  refine splitK_all sep h0 _ s ?_
  rw [countFrom_spl sep h0 (s.length + 1) s (by omega)]
  exact Nat.le_refl _
/-- What strings.SplitN returns. -/
theorem splitN_spl (sep : List UInt8) (h0 : sep ≠ []) (s : List UInt8) (n : Nat) (hn : 1 ≤ n) (hs : (splG sep s).length ≤ s.length + 1) :
    ((splG sep s).length ≤ n → Lib.splitN s sep n = splG sep s) ∧ (n < (splG sep s).length → (Lib.splitN s sep n).length = n) := by
  unfold Lib.splitN
  refine ⟨fun h => splitK_all sep h0 _ s (by omega), fun h => ?_⟩
  rw [show min n (s.length + 1) - 1 = n - 1 by omega, splitK_len sep h0 (n - 1) s (by omega)]
  omega
theorem contains_spl (sep : List UInt8) (h0 : sep ≠ []) (s : List UInt8) : Lib.contains s sep = !decide ((splG sep s).length ≤ 1) := by
  unfold Lib.contains
  rcases spl_cases sep h0 s with ⟨m, e⟩ | ⟨m, hi, e⟩
  · have := beq_iff_eq.1 m
    rw [e, this]; simp
  · have hne := List.length_pos_iff.2 (spl_ne sep _ (s.drop ((Lib.index s sep).toNat + sep.length)) (Nat.le_refl _))
    rw [decide_eq_true hi, e, decide_eq_false (by rw [List.length_cons]; omega)]
    rfl
theorem join_glu (sep : List UInt8) (L : List (List UInt8)) : Lib.join L sep = gluX sep L := by
  unfold Lib.join
  induction L with
  | nil => rfl
  | cons x t ih =>
    cases t with
    | nil => simp [gluX, List.intercalate]
    | cons y t =>
      rw [glu_cons sep x (y :: t) (by simp), ← ih]
      simp [List.intercalate, List.intersperse, List.append_assoc]
theorem prefix_one (c : UInt8) (h : c ≠ 0) (s : List UInt8) : Lib.hasPrefix s [c] = decide (s.getD 0 0 = c) := by
  unfold Lib.hasPrefix
  cases s with
  | nil => simp [Ne.symm h]
  | cons d t =>
    simp only [List.isPrefixOf, List.getD_cons_zero, Bool.and_true]
    by_cases e : c = d
    · subst e; simp
    · simp [e, Ne.symm e]
theorem suffix_one (c : UInt8) (h : c ≠ 0) (s : List UInt8) : Lib.hasSuffix s [c] = decide (s.getD (s.length - 1) 0 = c) := by
  unfold Lib.hasSuffix
  rcases List.eq_nil_or_concat s with rfl | ⟨t, d, rfl⟩
  · simp [List.isSuffixOf, Ne.symm h]
  · rw [List.concat_eq_append]
    have e2 : (t ++ [d]).getD ((t ++ [d]).length - 1) 0 = d := by simp [List.getD_eq_getElem?_getD]
    rw [e2]
    by_cases e : d = c
    · subst e
      rw [decide_eq_true rfl, List.isSuffixOf_iff_suffix]
      exact ⟨t, rfl⟩
    · rw [decide_eq_false e, Bool.eq_false_iff]
      intro g
      obtain ⟨r, hr⟩ := List.isSuffixOf_iff_suffix.1 g
      have := (List.append_inj' hr rfl).2
      simp at this
      exact e this.symm
/-! Dates. -/
def yearX (l : List UInt8) : Bool := decide (l.length = 4) && l.all digc
theorem index_one (c : UInt8) : ∀ l : List UInt8, (Lib.index l [c] = -1 → ∀ x ∈ l, x ≠ c) ∧ ∀ i : Nat, Lib.index l [c] = (i : Int) → ∃ a b, l = a ++ c :: b ∧ a.length = i ∧ ∀ x ∈ a, x ≠ c
  | [] => ⟨fun _ x hx => (by cases hx), fun i h => by
      rw [show Lib.index [] [c] = -1 from rfl] at h
      omega⟩
  | d :: t => by
    obtain ⟨ih1, ih2⟩ := index_one c t
    by_cases e : c = d
    · subst e
      have hp : [c].isPrefixOf (c :: t) = true := by simp [List.isPrefixOf]
      rw [Lib.index, if_pos hp]
      refine ⟨fun h => by omega, fun i h => ⟨[], t, rfl, ?_, fun x hx => by cases hx⟩⟩
      show 0 = i
      omega
    · have hp : [c].isPrefixOf (d :: t) = false := by simp [List.isPrefixOf, e]
      rw [Lib.index, hp]
      have hge := Lib.index_ge t [c]
      by_cases hm : Lib.index t [c] = -1
      · rw [hm]
        refine ⟨fun _ x hx => ?_, fun i h => (by simp at h <;> omega)⟩
        rcases List.mem_cons.1 hx with rfl | hx
        · exact Ne.symm e
        · exact ih1 hm x hx
      · obtain ⟨k, hk⟩ : ∃ k : Nat, Lib.index t [c] = (k : Int) := ⟨(Lib.index t [c]).toNat, by omega⟩
        have hne : ((k : Int) == -1) = false := by rw [beq_eq_false_iff_ne]; omega
        rw [hk, hne]
        refine ⟨fun h => (by simp at h <;> omega), fun i h => ?_⟩
        obtain ⟨a, b, rfl, ha, hx⟩ := ih2 k hk
        refine ⟨d :: a, b, rfl, by simp at h; rw [List.length_cons]; omega, fun x hx2 => ?_⟩
        rcases List.mem_cons.1 hx2 with rfl | hx2
        · exact Ne.symm e
        · exact hx x hx2
theorem cut_data (c : UInt8) (l a b : List UInt8) (t : Bool) (h : Lib.cut l [c] = (a, b, t)) : (t = true ∧ l = a ++ c :: b ∧ ∀ x ∈ a, x ≠ c) ∨ (t = false ∧ ∀ x ∈ l, x ≠ c) := by
  have hge := Lib.index_ge l [c]
  obtain ⟨h1, h2⟩ := index_one c l
  unfold Lib.cut at h
  by_cases hm : Lib.index l [c] = -1
  · rw [hm, if_neg (by omega)] at h
    obtain ⟨-, h⟩ := Prod.mk.inj h
    obtain ⟨-, rfl⟩ := Prod.mk.inj h
    exact .inr ⟨rfl, h1 hm⟩
  · obtain ⟨k, hk⟩ : ∃ k : Nat, Lib.index l [c] = (k : Int) := ⟨(Lib.index l [c]).toNat, by omega⟩
    obtain ⟨x, y, rfl, hl, hx⟩ := h2 k hk
    rw [hk, if_pos (by omega)] at h
    obtain ⟨ha, h⟩ := Prod.mk.inj h
    obtain ⟨hb, rfl⟩ := Prod.mk.inj h
    rw [Int.toNat_natCast, ← hl] at ha hb
    rw [List.take_left] at ha
    subst ha
    have e : x ++ c :: y = (x ++ [c]) ++ y := by simp
    rw [e, show x.length + [c].length = (x ++ [c]).length by simp, List.drop_left] at hb
    subst hb
    exact .inl ⟨rfl, rfl, hx⟩
theorem getD_mid (a b : List UInt8) (c : UInt8) (i : Nat) : (a ++ c :: b).getD i 0 = if i < a.length then a.getD i 0 else if i = a.length then c else b.getD (i - a.length - 1) 0 := by
  by_cases h : i < a.length
  · rw [if_pos h, List.getD_eq_getElem?_getD, List.getElem?_append_left h, ← List.getD_eq_getElem?_getD]
  · rw [if_neg h, List.getD_eq_getElem?_getD, List.getElem?_append_right (by omega), ← List.getD_eq_getElem?_getD]
    by_cases e : i = a.length
    · rw [if_pos e, e, Nat.sub_self]; rfl
    · rw [if_neg e]
      obtain ⟨j, hj⟩ : ∃ j, i - a.length = j + 1 := ⟨i - a.length - 1, by omega⟩
      rw [hj]
      rfl
theorem all_getD (p : UInt8 → Bool) (l : List UInt8) : l.all p = true ↔ ∀ i, i < l.length → p (l.getD i 0) = true := by
  rw [List.all_eq_true]
  constructor
  · intro h i hi
    rw [List.getD_eq_getElem?_getD, List.getElem?_eq_getElem hi]
    exact h _ (List.getElem_mem hi)
  · intro h x hx
    obtain ⟨j, hj, rfl⟩ := List.mem_iff_getElem.1 hx
    have := h j hj
    rwa [List.getD_eq_getElem?_getD, List.getElem?_eq_getElem hj] at this
theorem dates_iff (l : List UInt8) : datesX l = true ↔ (l.length = 5 ∨ l.length = 9) ∧ ∀ i, i < l.length → if i = 4 then l.getD i 0 = 45 else digc (l.getD i 0) = true := by
  unfold datesX
  rw [Bool.and_eq_true, decide_eq_true_iff, List.all_eq_true]
  refine and_congr Iff.rfl ⟨fun h i hi => ?_, fun h i hi => ?_⟩
  · have := h i (List.mem_range.2 hi)
    by_cases e : i = 4
    · rw [if_pos e] at this ⊢
      exact of_decide_eq_true this
    · rw [if_neg e] at this ⊢
      exact this
  · have := h i (List.mem_range.1 hi)
    by_cases e : i = 4
    · rw [if_pos e] at this ⊢
      exact decide_eq_true this
    · rw [if_neg e] at this ⊢
      exact this
theorem dates_cut (l a b : List UInt8) (t : Bool) (h : Lib.cut l [45] = (a, b, t)) : datesX l = (t && (yearX a && (decide (b = []) || yearX b))) := by
  have hd45 : digc 45 = false := by decide
  rcases cut_data 45 l a b t h with ⟨rfl, rfl, hx⟩ | ⟨rfl, hx⟩
  · rw [Bool.true_and, Bool.eq_iff_iff, dates_iff]
    have hL : (a ++ 45 :: b).length = a.length + b.length + 1 := by simp; omega
    rw [hL]
    constructor
    · rintro ⟨hl, hi⟩
      have ha : a.length = 4 := by
        have h1 := hi a.length (by omega)
        rw [getD_mid, if_neg (Nat.lt_irrefl _), if_pos rfl] at h1
        by_cases e : a.length = 4
        · exact e
        · rw [if_neg e, hd45] at h1
          cases h1
      have hya : yearX a = true := by
        unfold yearX
        rw [Bool.and_eq_true, decide_eq_true_iff, all_getD]
        refine ⟨ha, fun i hi2 => ?_⟩
        have h1 := hi i (by omega)
        rw [if_neg (by omega), getD_mid, if_pos hi2] at h1
        exact h1
      rw [hya, Bool.true_and, Bool.or_eq_true, decide_eq_true_iff]
      by_cases hb : b = []
      · exact .inl hb
      · refine .inr ?_
        have := List.length_pos_iff.2 hb
        unfold yearX
        rw [Bool.and_eq_true, decide_eq_true_iff, all_getD]
        refine ⟨by omega, fun i hi2 => ?_⟩
        have h1 := hi (i + 5) (by omega)
        rw [if_neg (by omega), getD_mid, if_neg (by omega), if_neg (by omega), show i + 5 - a.length - 1 = i by omega] at h1
        exact h1
    · intro h
      rw [Bool.and_eq_true, Bool.or_eq_true, decide_eq_true_iff] at h
      obtain ⟨h1, h2⟩ := h
      unfold yearX at h1
      rw [Bool.and_eq_true, decide_eq_true_iff, all_getD] at h1
      have hb : (b = [] ∨ b.length = 4) ∧ ∀ i, i < b.length → digc (b.getD i 0) = true := by
        rcases h2 with rfl | h2
        · exact ⟨.inl rfl, fun i hi => by cases hi⟩
        · unfold yearX at h2
          rw [Bool.and_eq_true, decide_eq_true_iff, all_getD] at h2
          exact ⟨.inr h2.1, h2.2⟩
      have hbl : b.length = 0 ∨ b.length = 4 := by
        rcases hb.1 with rfl | h
        · exact .inl rfl
        · exact .inr h
      refine ⟨by omega, fun i hi => ?_⟩
      rw [getD_mid]
      by_cases e : i = 4
      · rw [if_pos e, if_neg (by omega), if_pos (by omega)]
      · rw [if_neg e]
        by_cases g : i < a.length
        · rw [if_pos g]
          exact h1.2 i g
        · rw [if_neg g, if_neg (by omega)]
          exact hb.2 _ (by omega)
  · rw [Bool.false_and, Bool.eq_false_iff]
    intro hd
    obtain ⟨hl, hi⟩ := (dates_iff l).1 hd
    have h4 := hi 4 (by omega)
    rw [if_pos rfl, List.getD_eq_getElem?_getD, List.getElem?_eq_getElem (show 4 < l.length by omega)] at h4
    exact hx _ (List.getElem_mem _) h4
/-! Names and parts as the program checks them. -/
def cleanB (x : List UInt8) : Bool := validT x && decide (cleanX x = x)
def okP (x : List UInt8) : Bool := !(decide (x = []) || (!cleanB x || !decide ((splG [44] x).length ≤ 1)))
theorem okP_eq (x : List UInt8) : okP x = (validT x && pieceX x) := by
  unfold okP cleanB pieceX
  by_cases h1 : x = [] <;> by_cases h2 : cleanX x = x <;> by_cases h3 : (splG [44] x).length ≤ 1 <;> cases validT x <;> simp [h1, h2, h3]
theorem nameO_prog (s : List UInt8) : nameO s = if (splG cb s).all okP = true then nameL (splG cb s) else none := by
  unfold nameO
  by_cases hv : validT s = true
  · rw [if_neg (by rw [hv]; decide)]
    have e : (splG cb s).all okP = (splG cb s).all pieceX := by
      rw [Bool.eq_iff_iff, List.all_eq_true, List.all_eq_true]
      obtain ⟨cs, hcs, rfl⟩ := validT_text s hv
      refine forall_congr' fun x => forall_congr' fun hx => ?_
      obtain ⟨c1, h1, rfl⟩ := spl_valid cb cb_ascii _ cs (Nat.le_refl _) hcs x hx
      rw [okP_eq, validT_enc c1 h1, Bool.true_and]
    rw [e]
    cases (splG cb s).all pieceX <;> simp
  · rw [if_pos (Bool.eq_false_iff.2 hv)]
    rw [if_neg]
    intro h
    rw [List.all_eq_true] at h
    apply hv
    rw [← glu_spl cb s.length s (Nat.le_refl _)]
    refine glu_valid cb (by decide +kernel) _ fun x hx => ?_
    have := h x hx
    rw [okP_eq, Bool.and_eq_true] at this
    exact this.1
def sepX (x : List UInt8) : Bool := decide ((splG dd x).length ≤ 1) && decide (x.getD 0 0 ≠ 45) && decide (x.getD (x.length - 1) 0 ≠ 45)
theorem plain_prog (x : List UInt8) : plainX x = (cleanB x && sepX x) := by
  unfold plainX cleanB sepX
  simp only [Bool.and_assoc]
theorem partE_prog (x : List UInt8) (h : x ≠ []) : partE x = if (!cleanB x || !sepX x) = true then 3 else 0 := by
  unfold partE
  rw [if_neg h, plain_prog]
  cases cleanB x <;> cases sepX x <;> rfl
end

end Go.Proofs.YtmcolapcmjdoeaaGreatDoor
