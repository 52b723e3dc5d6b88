/- Merged: PL07, TAllowed, PlainB. -/
import Derived.Test.YtnfallkeicehiaaDoorQ09
import Derived.Test.YtnfallkeicehiaaDoorQ07
import Derived.Lib.ReplaceLaws
import Derived.Lib.Replace
import Derived.Lib.CountLaws
import Derived.Lib.IndexMore
import Derived.Lib.IndexLaws
import Derived.Lib.AtoiAll
import Derived.Lib.Join
import Derived.Lib.Strings
import Derived.Test.YtnfallkeicehiaaDoorQ04
namespace Go.Proofs.YtnfallkeicehiaaDoor

section
/-! strings.ReplaceAll. -/
theorem rep_hit (old new l : List UInt8) (h0 : old ≠ []) (h : old.isPrefixOf l = true) : Lib.replaceK old new (Lib.count l old) l = new ++ Lib.replaceK old new (Lib.count (l.drop old.length) old) (l.drop old.length) := by
  have hi : Lib.index l old = ((0 : Nat) : Int) := by
    cases l with
    | nil =>
      cases old with
      | nil => exact absurd rfl h0
      | cons _ _ => simp at h
    | cons b t => rw [Lib.index, if_pos h]; rfl
  rw [Lib.count_hit h0 hi, Nat.add_comm 1, Lib.replaceK_hit _ _ _ _ 0 hi, List.take_zero, List.nil_append, Nat.zero_add]
theorem rep_miss (old new l : List UInt8) (b : UInt8) (h0 : old ≠ []) (h : old.isPrefixOf (b :: l) = false) : Lib.replaceK old new (Lib.count (b :: l) old) (b :: l) = b :: Lib.replaceK old new (Lib.count l old) l := by
  have hn : ¬ (old.isPrefixOf (b :: l) = true) := by rw [h]; intro h; cases h
  rcases Int.lt_or_le (Lib.index l old) 0 with hneg | hp
  · have hm : Lib.index l old = -1 := by have := Lib.index_ge l old; omega
    have hi : Lib.index (b :: l) old = -1 := by
      rw [Lib.index, if_neg hn, hm]
      rfl
    rw [Lib.count_miss hm, Lib.count_miss hi]
    rfl
  · obtain ⟨i, hm⟩ : ∃ i : Nat, Lib.index l old = i := ⟨(Lib.index l old).toNat, by omega⟩
    have hi : Lib.index (b :: l) old = ((i + 1 : Nat) : Int) := by
      rw [Lib.index, if_neg hn, hm, if_neg]
      · rfl
      · intro h
        have := beq_iff_eq.1 h
        omega
    rw [Lib.count_hit h0 hm, Lib.count_hit h0 hi, Nat.add_comm 1, Nat.add_comm 1, Lib.replaceK_hit _ _ _ _ i hm, Lib.replaceK_hit _ _ _ _ (i + 1) hi]
    rw [show i + 1 + old.length = (i + old.length) + 1 by omega, List.take_succ_cons, List.drop_succ_cons, List.cons_append, List.cons_append]
theorem rep_nil (old new : List UInt8) (h0 : old ≠ []) : Lib.replaceK old new (Lib.count [] old) [] = [] := by
  have : Lib.index [] old = -1 := by
    rw [Lib.index, if_neg]
    cases old with
    | nil => exact absurd rfl h0
    | cons _ _ => simp
  rw [Lib.count_miss this]
  rfl
theorem rep_all (old new l : List UInt8) (hne : old ≠ new) : Lib.replaceAll l old new = Lib.replaceK old new (Lib.count l old) l := by
  unfold Lib.replaceAll Lib.replace Lib.replaceNum
  rw [if_neg, if_pos (Or.inl (by decide))]
  intro h
  exact hne (beq_iff_eq.1 h)
/-- One byte by a text. -/
def subL (c : UInt8) (d : List UInt8) (l : List UInt8) : List UInt8 := l.flatMap fun x => if x = c then d else [x]
theorem one_prefix (c b : UInt8) (l : List UInt8) : [c].isPrefixOf (b :: l) = decide (b = c) := by
  show (c == b && _) = _
  rw [show ([] : List UInt8).isPrefixOf l = true from by cases l <;> rfl, Bool.and_true]
  rw [Bool.eq_iff_iff, beq_iff_eq, decide_eq_true_iff]
  exact eq_comm
theorem sub_K (c : UInt8) (d : List UInt8) : ∀ l : List UInt8, Lib.replaceK [c] d (Lib.count l [c]) l = subL c d l
  | [] => rep_nil _ _ (by simp)
  | b :: l => by
    have ih := sub_K c d l
    unfold subL at ih ⊢
    rw [List.flatMap_cons]
    by_cases h : b = c
    · rw [rep_hit [c] d (b :: l) (by simp) (by rw [one_prefix]; exact decide_eq_true h), if_pos h]
      show d ++ Lib.replaceK [c] d (Lib.count l [c]) l = _
      rw [ih]
    · rw [rep_miss [c] d l b (by simp) (by rw [one_prefix]; exact decide_eq_false h), if_neg h, ih]
      rfl
theorem sub_all (c : UInt8) (d l : List UInt8) (hne : [c] ≠ d) : Lib.replaceAll l [c] d = subL c d l := by rw [rep_all _ _ _ hne, sub_K]
theorem sub_dbl : ∀ l : List UInt8, subL 36 [36, 36] l = dblL l
  | [] => rfl
  | x :: t => by
    have ih := sub_dbl t
    unfold subL at ih ⊢
    rw [List.flatMap_cons, ih, dblL]
    split <;> rfl
theorem sub_un : ∀ l : List UInt8, subL 35 [32] l = l.map unB
  | [] => rfl
  | x :: t => by
    have ih := sub_un t
    unfold subL at ih ⊢
    rw [List.flatMap_cons, ih, List.map_cons]
    unfold unB
    split <;> rfl
theorem sub_mark (a b : UInt8) : subL 32 [35] [a, b] = markB a ++ markB b := by
  unfold subL markB
  simp
/-- All bytes but the blanks are digits: of two bytes, each is a blank or a digit. -/
theorem sub_inds (a b : UInt8) : (subL 32 [] [a, b]).all digB = (indB a && indB b) := by
  have one : ∀ x : UInt8, (if x = 32 then ([] : List UInt8) else [x]).all digB = indB x := by
    intro x
    unfold indB
    by_cases h : x = 32
    · rw [if_pos h]; simp [h]
    · rw [if_neg h]; simp [h]
  show ((if a = 32 then ([] : List UInt8) else [a]) ++ ((if b = 32 then ([] : List UInt8) else [b]) ++ [])).all digB = _
  rw [List.append_nil, List.all_append, one a, one b]
theorem two_36 (x : UInt8) (l : List UInt8) (h : x ≠ 36) : [36, 36].isPrefixOf (x :: l) = false := by
  show ((36 : UInt8) == x && _) = false
  rw [beq_eq_false_iff_ne.2 (fun e => h e.symm), Bool.false_and]
theorem halve_K : ∀ v : List UInt8, Lib.replaceK [36, 36] [36] (Lib.count (dblL v) [36, 36]) (dblL v) = v
  | [] => rep_nil _ _ (by simp)
  | x :: t => by
    have ih := halve_K t
    rw [dblL]
    by_cases h : x = 36
    · rw [if_pos h, rep_hit [36, 36] [36] (36 :: 36 :: dblL t) (by simp) (by simp)]
      show [36] ++ Lib.replaceK [36, 36] [36] (Lib.count (dblL t) [36, 36]) (dblL t) = _
      rw [ih, h]
      rfl
    · rw [if_neg h, rep_miss [36, 36] [36] (dblL t) x (by simp) (two_36 x _ h), ih]
/-- Two dollars by one. -/
def halveL (l : List UInt8) : List UInt8 := Lib.replaceAll l [36, 36] [36]
theorem halve_dbl (v : List UInt8) : halveL (dblL v) = v := by
  unfold halveL
  rw [rep_all _ _ _ (by simp), halve_K]

/-! strings.Cut at a byte. -/
theorem index_one (c : UInt8) : ∀ l : List UInt8, c ∉ l → Lib.index l [c] = -1
  | [], _ => rfl
  | b :: l, h => by
    have hb : ¬ ([c].isPrefixOf (b :: l) = true) := by
      rw [one_prefix]
      simp only [List.mem_cons, not_or] at h
      rw [decide_eq_true_iff]
      exact fun e => h.1 e.symm
    rw [Lib.index, if_neg hb, index_one c l (fun h' => h (List.mem_cons_of_mem _ h'))]
    rfl
theorem index_at (c : UInt8) : ∀ (a r : List UInt8), c ∉ a → Lib.index (a ++ c :: r) [c] = (a.length : Int)
  | [], r, _ => by
    show Lib.index (c :: r) [c] = 0
    rw [Lib.index, if_pos (by rw [one_prefix]; simp)]
  | b :: a, r, h => by
    have hb : ¬ ([c].isPrefixOf (b :: (a ++ c :: r)) = true) := by
      rw [one_prefix]
      simp only [List.mem_cons, not_or] at h
      rw [decide_eq_true_iff]
      exact fun e => h.1 e.symm
    show Lib.index (b :: (a ++ c :: r)) [c] = _
    rw [Lib.index, if_neg hb, index_at c a r (fun h' => h (List.mem_cons_of_mem _ h')), if_neg]
    · simp
    · intro h
      have := beq_iff_eq.1 h
      omega
theorem cut_at (c : UInt8) (a r : List UInt8) (h : c ∉ a) : Lib.cut (a ++ c :: r) [c] = (a, r, true) := by
  unfold Lib.cut
  rw [index_at c a r h, if_pos (by omega)]
  simp
theorem cut_none (c : UInt8) (l : List UInt8) (h : c ∉ l) : Lib.cut l [c] = (l, [], false) := by
  unfold Lib.cut
  rw [index_one c l h, if_neg (by omega)]
theorem cut_le (l sep : List UInt8) : (Lib.cut l sep).1.length ≤ l.length ∧ (Lib.cut l sep).2.1.length ≤ l.length := by
  unfold Lib.cut
  split
  · simp; omega
  · simp

/-! strings.IndexByte. -/
theorem index_in (c : UInt8) (l : List UInt8) : decide (0 ≤ Lib.indexByte l c) = l.any (fun x => decide (x = c)) := by
  induction l with
  | nil => rfl
  | cons b l ih =>
    have hg := Lib.indexByte_ge l c
    rw [Lib.indexByte, List.any_cons]
    by_cases h : b = c
    · rw [if_pos (by rw [h]; simp), decide_eq_true h, Bool.true_or]
      rfl
    · rw [if_neg (by simpa using h), decide_eq_false h, Bool.false_or, ← ih]
      by_cases h1 : Lib.indexByte l c = -1
      · rw [if_pos (by rw [h1]; rfl), h1]
      · rw [if_neg (by simpa using h1), decide_eq_decide]
        omega

/-! strconv.Atoi. -/
/-- The number beside the error. -/
def atoiV (l : List UInt8) : Int := match Lib.atoiAll l with
  | .ok v => v
  | .range => Lib.atoiSat l
  | _ => 0
theorem parse_dec : ∀ (n : Nat) (r : List UInt8), n ≤ 99999 → Lib.parseUint10 0 (Lib.decDigits n ++ r) = Lib.parseUint10 n r := by
  intro n
  induction n using Nat.strongRecOn with
  | ind n ih =>
    intro r hn
    by_cases h : n < 10
    · rw [dec1 n h]
      show Lib.parseUint10 0 (dgt n :: r) = _
      rw [Lib.parseUint10, dgt_nat n (by omega), if_pos ⟨by omega, by omega⟩, if_neg (by omega), if_neg (by omega)]
      congr 1
      omega
    · rw [decS n h, List.append_assoc, ih (n / 10) (by omega) _ (by omega)]
      show Lib.parseUint10 (n / 10) (dgt (n % 10) :: r) = _
      rw [Lib.parseUint10, dgt_nat _ (by omega), if_pos ⟨by omega, by omega⟩, if_neg (by omega), if_neg (by omega)]
      congr 1
      omega
theorem dec_head : ∀ n : Nat, ∃ c t, Lib.decDigits n = c :: t ∧ 48 ≤ c.toNat ∧ c.toNat ≤ 57 := by
  intro n
  induction n using Nat.strongRecOn with
  | ind n ih =>
    by_cases h : n < 10
    · exact ⟨dgt n, [], dec1 n h, by rw [dgt_nat n (by omega)]; omega, by rw [dgt_nat n (by omega)]; omega⟩
    · obtain ⟨c, t, e, h1, h2⟩ := ih (n / 10) (by omega)
      exact ⟨c, t ++ [dgt (n % 10)], by rw [decS n h, e]; rfl, h1, h2⟩
theorem atoi_dec (n : Nat) (hn : n ≤ 99999) : atoiV (Lib.decDigits n) = (n : Int) := by
  obtain ⟨c, t, e, h1, h2⟩ := dec_head n
  have hp := parse_dec n [] hn
  rw [List.append_nil] at hp
  unfold atoiV Lib.atoiAll
  rw [e] at hp ⊢
  have hm : Lib.parseMag (c :: t) = .ok n := by
    unfold Lib.parseMag
    rw [if_neg (by simp), hp]
    rfl
  have n1 : ¬ (c.toNat = 43 ∨ c.toNat = 45) := by omega
  simp only [if_neg n1, hm]
  rw [if_neg (by omega), if_neg (by omega), if_neg (by omega)]
theorem atoi_nil : atoiV [] = 0 := rfl

/-! strings.Join. -/
theorem join_K (L : List (List UInt8)) : ∀ k, k ≤ L.length → joinK [32] L k = Lib.join (L.take k) [32]
  | 0, _ => by rw [List.take_zero]; rfl
  | k + 1, h => by
    have hk : k < L.length := by omega
    have e : L.take (k + 1) = L.take k ++ [L[k]] := List.take_succ_eq_append_getElem hk
    have eg : L.getD k [] = L[k] := by rw [List.getD_eq_getElem?_getD, List.getElem?_eq_getElem hk]; rfl
    rw [joinK]
    by_cases h0 : k = 0
    · subst h0
      rw [if_pos rfl, e, List.take_zero, List.nil_append, Lib.join_one, eg]
    · rw [if_neg h0, join_K L k (by omega), e, eg]
      obtain ⟨x, r, hx⟩ : ∃ x r, L.take k = x :: r := by
        cases hL : L.take k with
        | nil =>
          have := congrArg List.length hL
          rw [List.length_take, List.length_nil] at this
          omega
        | cons x r => exact ⟨x, r, rfl⟩
      rw [hx, List.cons_append, Lib.join_cons, Lib.join_cons]
      unfold Lib.joinTail
      simp
theorem join_plain (L : List (List UInt8)) : Lib.join L [32] = joinK [32] L L.length := by
  have := join_K L L.length (Nat.le_refl _)
  rw [List.take_length] at this
  exact this.symm

/-! The field that the program reads off a line. -/
/-- How long the value is with which this begins. -/
def vlen : List UInt8 → Nat
  | [] => 0
  | [c] => if c = 36 then 0 else 1
  | c :: d :: t => if c = 36 then (if d = 36 then vlen t + 2 else 0) else vlen (d :: t) + 1
theorem vlen_le : ∀ l : List UInt8, vlen l ≤ l.length
  | [] => Nat.le_refl _
  | [c] => by rw [vlen]; split <;> simp
  | c :: d :: t => by
    have h1 := vlen_le (d :: t)
    have h2 := vlen_le t
    rw [vlen]
    split
    · split
      · simp; omega
      · simp
    · simp at h1 ⊢; omega
theorem vlen_other (c : UInt8) (l : List UInt8) (h : c ≠ 36) : vlen (c :: l) = vlen l + 1 := by
  cases l with
  | nil =>
    show vlen [c] = 1
    unfold vlen
    rw [if_neg h]
  | cons d t => rw [vlen, if_neg h]
theorem vlen_two (t : List UInt8) : vlen (36 :: 36 :: t) = vlen t + 2 := by rw [vlen, if_pos rfl, if_pos rfl]
theorem vlen_end (l : List UInt8) (h : l = [] ∨ l = [36] ∨ ∃ d t, l = 36 :: d :: t ∧ d ≠ 36) : vlen l = 0 := by
  rcases h with rfl | rfl | ⟨d, t, rfl, h⟩
  · rfl
  · rw [vlen, if_pos rfl]
  · rw [vlen, if_pos rfl, if_neg h]
theorem vlen_dbl : ∀ (v r : List UInt8), (r = [] ∨ ∃ d t, r = 36 :: d :: t ∧ d ≠ 36) → vlen (dblL v ++ r) = (dblL v).length
  | [], r, h => vlen_end r (by rcases h with h | h; exact .inl h; exact .inr (.inr h))
  | x :: t, r, h => by
    rw [dblL]
    by_cases hx : x = 36
    · rw [if_pos hx, List.cons_append, List.cons_append, vlen_two, vlen_dbl t r h]
      simp
    · rw [if_neg hx, List.cons_append, vlen_other x _ hx, vlen_dbl t r h]
      simp
/-- The subfields, at most k of them. -/
def subsK : Nat → List UInt8 → List Sub
  | 0, _ => []
  | _ + 1, [] => []
  | _ + 1, [_] => []
  | k + 1, _ :: c :: r => (c, halveL (r.take (vlen r))) :: subsK k (r.drop (vlen r))
theorem subs_K : ∀ (L : List Sub) (k : Nat), L.length ≤ k → (∀ i, i < L.length → codeB (L.getD i sub0).1 = true) → subsK k (bodyL L) = L
  | [], 0, _, _ => rfl
  | [], k + 1, _, _ => rfl
  | s :: t, 0, h, _ => by simp at h
  | s :: t, k + 1, hk, h => by
    have e : bodyL (s :: t) = 36 :: s.1 :: (dblL s.2 ++ bodyL t) := by simp [bodyL, subP]
    have ht : ∀ i, i < t.length → codeB (t.getD i sub0).1 = true := fun i hi => h (i + 1) (by simpa using hi)
    rw [e, subsK, vlen_dbl s.2 _ (body_form t ht), List.take_left, List.drop_left, halve_dbl, subs_K t k (by simpa using hk) ht]
def readP (s : List UInt8) : Fld :=
  ⟨(Lib.cut (Lib.cut s [32]).1 [64]).1, (Lib.cut (Lib.cut s [32]).2.1 [32]).1.map unB, subsK 17 (Lib.cut (Lib.cut s [32]).2.1 [32]).2.1, atoiV (Lib.cut (Lib.cut s [32]).1 [64]).2.1⟩
theorem digs_not (l : List UInt8) (c : UInt8) (hc : digB c = false) (h : ∀ i, i < l.length → digB (l.getD i 0) = true) : c ∉ l := by
  intro hm
  obtain ⟨i, hi, he⟩ := List.getElem_of_mem hm
  have := h i hi
  rw [List.getD_eq_getElem?_getD, List.getElem?_eq_getElem hi] at this
  simp only [Option.getD_some, he, hc] at this
  cases this
theorem dec_digs (n : Nat) : ∀ x, x ∈ Lib.decDigits n → digB x = true := by
  induction n using Nat.strongRecOn with
  | ind n ih =>
    intro x hx
    by_cases h : n < 10
    · rw [dec1 n h] at hx
      simp only [List.mem_singleton] at hx
      rw [hx]
      exact dig_of n h
    · rw [decS n h, List.mem_append, List.mem_singleton] at hx
      rcases hx with hx | hx
      · exact ih (n / 10) (by omega) x hx
      · rw [hx]
        exact dig_of _ (Nat.mod_lt _ (by decide))
theorem readP_line (f : Fld) (h : rightI f = 0) : readP (lineL f) = f := by
  obtain ⟨htag, hind, hn1, hn16, hsub, ha0, ha1⟩ := right_facts f h
  have hcode : ∀ i, i < f.subs.length → codeB (f.subs.getD i sub0).1 = true := fun i hi => (subE_zero _ (hsub i hi)).1
  have h3 := tagB_len _ htag
  have h2 := indsB_len _ hind
  obtain ⟨tag, ind, subs, au⟩ := f
  have htd : ∀ x, x ∈ tag → digB x = true := by
    match tag, h3 with
    | [t0, t1, t2], _ =>
      unfold tagB at htag
      simp only [Bool.and_eq_true] at htag
      obtain ⟨⟨⟨⟨_, g0⟩, g1⟩, g2⟩, _⟩ := htag
      intro x hx
      simp only [List.mem_cons, List.not_mem_nil, or_false] at hx
      rcases hx with rfl | rfl | rfl
      · exact g0
      · exact g1
      · exact g2
  have nott : ∀ c : UInt8, digB c = false → c ∉ tag := fun c hc hm => by
    have := htd c hm
    rw [hc] at this
    cases this
  match ind, h2 with
  | [i0, i1], _ =>
    have hi0 : indB i0 = true := by
      unfold indsB at hind
      simp only [Bool.and_eq_true] at hind
      exact hind.1.2
    have hi1 : indB i1 = true := by
      unfold indsB at hind
      simp only [Bool.and_eq_true] at hind
      exact hind.2
    obtain ⟨d0, m0, n0, u0⟩ := mark_form i0 hi0
    obtain ⟨d1, m1, n1, u1⟩ := mark_form i1 hi1
    have e : lineL ⟨tag, [i0, i1], subs, au⟩ = (tag ++ authP au) ++ 32 :: ([d0, d1] ++ 32 :: bodyL subs) := by
      unfold lineL headL
      show tag ++ authP au ++ 32 :: (markB i0 ++ markB i1 ++ [32]) ++ bodyL subs = _
      rw [m0, m1]
      simp
    have hap : 32 ∉ authP au ∧ Lib.cut (tag ++ authP au) [64] = (tag, (if au = 0 then [] else Lib.decDigits au.toNat), !decide (au = 0)) := by
      unfold authP
      by_cases hz : au = 0
      · rw [if_pos hz, if_pos hz, List.append_nil, decide_eq_true hz]
        exact ⟨by simp, cut_none 64 tag (nott 64 (by decide))⟩
      · have hp := dec_pos au.toNat
        have ep : padL 1 (Lib.decDigits au.toNat) = Lib.decDigits au.toNat := by
          unfold padL
          rw [show 1 - (Lib.decDigits au.toNat).length = 0 by omega]
          rfl
        rw [if_neg hz, if_neg hz, ep, decide_eq_false hz]
        refine ⟨?_, cut_at 64 tag _ (nott 64 (by decide))⟩
        intro hm
        rcases List.mem_cons.1 hm with h | h
        · revert h; decide
        · have := dec_digs _ _ h
          revert this
          decide
    have hc1 : Lib.cut (lineL ⟨tag, [i0, i1], subs, au⟩) [32] = (tag ++ authP au, [d0, d1] ++ 32 :: bodyL subs, true) := by
      rw [e]
      refine cut_at 32 _ _ ?_
      rw [List.mem_append, not_or]
      exact ⟨nott 32 (by decide), hap.1⟩
    have hc2 : Lib.cut ([d0, d1] ++ 32 :: bodyL subs) [32] = ([d0, d1], bodyL subs, true) := by
      refine cut_at 32 _ _ ?_
      simp only [List.mem_cons, List.not_mem_nil, or_false, not_or]
      exact ⟨fun h => n0 h.symm, fun h => n1 h.symm⟩
    unfold readP
    rw [hc1]
    simp only [hc2, hap.2]
    rw [subs_K subs 17 (by simp only at hn16; omega) hcode]
    have hau : atoiV (if au = 0 then [] else Lib.decDigits au.toNat) = au := by
      by_cases hz : au = 0
      · rw [if_pos hz, hz]; rfl
      · simp only at ha0 ha1
        rw [if_neg hz, atoi_dec _ (by omega), Int.toNat_of_nonneg ha0]
    rw [hau]
    simp only [List.map_cons, List.map_nil, u0, u1]
theorem readP_none (s : List UInt8) (h : ¬ (rightI (readP s) = 0 ∧ lineL (readP s) = s)) : parseO s = none := by
  cases hp : parseO s with
  | none => rfl
  | some g =>
    obtain ⟨h1, h2⟩ := parse_sound s g hp
    have := readP_line g h1
    rw [h2] at this
    rw [this] at h
    exact absurd ⟨h1, h2⟩ h
theorem readP_some (s : List UInt8) (h : rightI (readP s) = 0 ∧ lineL (readP s) = s) : parseO s = some (readP s) := by
  have := parse_back (readP s) h.1
  rwa [h.2] at this
end

section
open Go.RowKit
set_option maxHeartbeats 1000000 in
theorem allowed_any (c : Nat) (hc : c ≤ 1114111) (b : Bool) (hb : allow c = b) (w : World) :
    Calls Tryd.prog 61 #[.int .i32 (c : Int)] w fun e w' => e = .returned (.bool b) ∧ w = w' := by
  have H := Lib.hid hb
  clear hb
  by_cases h1 : 32 ≤ c
  · by_cases h2 : c ≤ 126
    · obtain rfl : b = true := by have := H.out; rw [← this]; simp [allow, h1, h2]
      have d1 : decide ((32 : Int) ≤ (c : Int)) = true := by simp; omega
      have d2 : decide ((c : Int) ≤ 126) = true := by simp; omega
      clear H h1 h2
      go_enter Tryd.func61, Tryd.ntmps61
      go_wp2
      go_ret
      exact ⟨rfl, rfl⟩
    · by_cases h3 : 160 ≤ c
      · have d1 : decide ((32 : Int) ≤ (c : Int)) = true := by simp; omega
        have d2 : decide ((c : Int) ≤ 126) = false := by simp; omega
        have d3 : decide ((160 : Int) ≤ (c : Int)) = true := by simp; omega
        by_cases h4 : c ≤ 65535
        · obtain rfl : b = true := by have := H.out; rw [← this]; simp [allow, h3, h4]
          have d4 : decide ((c : Int) ≤ 65535) = true := by simp; omega
          clear H h1 h2 h3 h4
          go_enter Tryd.func61, Tryd.ntmps61
          go_wp2
          go_ret
          exact ⟨rfl, rfl⟩
        · obtain rfl : b = false := by have := H.out; rw [← this]; simp [allow, h2, h4]
          have d4 : decide ((c : Int) ≤ 65535) = false := by simp; omega
          clear H h1 h2 h3 h4
          go_enter Tryd.func61, Tryd.ntmps61
          go_wp2
          go_ret
          exact ⟨rfl, rfl⟩
      · obtain rfl : b = false := by have := H.out; rw [← this]; simp [allow, h2, h3]
        have d1 : decide ((32 : Int) ≤ (c : Int)) = true := by simp; omega
        have d2 : decide ((c : Int) ≤ 126) = false := by simp; omega
        have d3 : decide ((160 : Int) ≤ (c : Int)) = false := by simp; omega
        clear H h1 h2 h3
        go_enter Tryd.func61, Tryd.ntmps61
        go_wp2
        go_ret
        exact ⟨rfl, rfl⟩
  · obtain rfl : b = false := by have := H.out; rw [← this]; simp [allow]; omega
    have d1 : decide ((32 : Int) ≤ (c : Int)) = false := by simp; omega
    have d3 : decide ((160 : Int) ≤ (c : Int)) = false := by simp; omega
    clear H h1
    go_enter Tryd.func61, Tryd.ntmps61
    go_wp2
    go_ret
    exact ⟨rfl, rfl⟩
end

section
open Go.Lib
/-! ### cleaning -/
def cleanStep (st : List Nat × Bool) (c : Nat) : List Nat × Bool :=
  if blankc c then (st.1, true) else ((if st.2 = true ∧ st.1 ≠ [] then st.1 ++ [32] else st.1) ++ [c], false)
def cleanRun (cs : List Nat) : List Nat × Bool := cs.foldl cleanStep ([], false)
def cleanL (cs : List Nat) : List Nat := (cleanRun cs).1

theorem cleanRun_snoc (cs : List Nat) (c : Nat) : cleanRun (cs ++ [c]) = cleanStep (cleanRun cs) c := by simp [cleanRun]
theorem cleanRun_take (cs : List Nat) (j : Nat) (h : j < cs.length) : cleanRun (cs.take (j + 1)) = cleanStep (cleanRun (cs.take j)) cs[j] := by
  rw [List.take_succ_eq_append_getElem h, cleanRun_snoc]
theorem snoc_ind {p : List Nat → Prop} (h0 : p []) (hs : ∀ l c, p l → p (l ++ [c])) : ∀ l, p l := by
  intro l
  have : ∀ n (l : List Nat), l.length = n → p l := by
    intro n
    induction n with
    | zero => intro l h; rw [List.eq_nil_of_length_eq_zero h]; exact h0
    | succ n ih =>
      intro l h
      have hne : l ≠ [] := by intro e; rw [e] at h; cases h
      rw [← List.dropLast_concat_getLast hne]
      exact hs _ _ (ih _ (by simp [h]))
  exact this _ l rfl
theorem cleanStep_same (out : List Nat) (c : Nat) (g : Bool) (hg : cleanRun out = (out, false)) :
    cleanRun (cleanStep (out, g) c).1 = ((cleanStep (out, g) c).1, false) := by
  unfold cleanStep
  by_cases hb : blankc c = true
  · simp only [hb, if_true]; exact hg
  · have hb' : blankc c = false := by simpa using hb
    simp only [hb', Bool.false_eq_true, if_false]
    by_cases hc : g = true ∧ out ≠ []
    · rw [if_pos hc, cleanRun_snoc, cleanRun_snoc, hg]
      have b32 : blankc 32 = true := rfl
      simp [cleanStep, b32, hb', hc.2]
    · rw [if_neg hc, cleanRun_snoc, hg]
      simp [cleanStep, hb']
theorem cleanRun_out (cs : List Nat) : cleanRun (cleanRun cs).1 = ((cleanRun cs).1, false) := by
  refine snoc_ind (p := fun cs => cleanRun (cleanRun cs).1 = ((cleanRun cs).1, false)) ?_ ?_ cs
  · rfl
  · intro l c ih
    rw [cleanRun_snoc]
    exact cleanStep_same _ c (cleanRun l).2 ih
theorem clean_twice (cs : List Nat) : cleanL (cleanL cs) = cleanL cs := by
  unfold cleanL
  rw [cleanRun_out]
theorem clean_nil (cs : List Nat) : cleanL cs = [] ↔ cs.all blankc = true := by
  unfold cleanL
  refine snoc_ind (p := fun cs => (cleanRun cs).1 = [] ↔ cs.all blankc = true) ?_ ?_ cs
  · simp [cleanRun]
  · intro l c ih
    rw [cleanRun_snoc]
    unfold cleanStep
    by_cases hb : blankc c = true
    · simp only [hb, if_true, List.all_append, List.all_cons, List.all_nil, Bool.and_true]
      exact ih
    · have hb' : blankc c = false := by simpa using hb
      simp [hb']
theorem okc_32 : okc 32 := by decide
theorem clean_OK (cs : List Nat) (h : OKs cs) : OKs (cleanL cs) := by
  unfold cleanL
  refine snoc_ind (p := fun cs => OKs cs → OKs (cleanRun cs).1) ?_ ?_ cs h
  · intro _; exact OKs_nil
  · intro l c ih hl
    obtain ⟨h1, h2⟩ := OKs_append.1 hl
    rw [cleanRun_snoc]
    unfold cleanStep
    by_cases hb : blankc c = true
    · simp only [hb, if_true]; exact ih h1
    · have hb' : blankc c = false := by simpa using hb
      simp only [hb', Bool.false_eq_true, if_false]
      refine OKs_append.2 ⟨?_, h2⟩
      split
      · exact OKs_append.2 ⟨ih h1, by intro x hx; simp at hx; subst hx; exact okc_32⟩
      · exact ih h1
theorem cleanRun_len (cs : List Nat) : (cleanRun cs).1.length ≤ 2 * cs.length := by
  refine snoc_ind (p := fun cs => (cleanRun cs).1.length ≤ 2 * cs.length) ?_ ?_ cs
  · simp [cleanRun]
  · intro l c ih
    rw [cleanRun_snoc]
    unfold cleanStep
    split
    · simp only [List.length_append, List.length_singleton]; omega
    · simp only
      split <;> simp <;> omega

/-! ### folding -/
/-- What folding makes of the characters from 192 to 255. -/
def accL : List (List Nat) := [
  [97], [97], [97], [97], [97], [97], [97, 101], [99], [101], [101], [101], [101], [105], [105], [105], [105],
  [100], [110], [111], [111], [111], [111], [111], [215], [111], [117], [117], [117], [117], [121], [116, 104], [115, 115],
  [97], [97], [97], [97], [97], [97], [97, 101], [99], [101], [101], [101], [101], [105], [105], [105], [105],
  [100], [110], [111], [111], [111], [111], [111], [247], [111], [117], [117], [117], [117], [121], [116, 104], [121]]
def foldc (c : Nat) : List Nat := if 65 ≤ c ∧ c ≤ 90 then [c + 32] else if 192 ≤ c ∧ c ≤ 255 then accL.getD (c - 192) [] else [c]
def foldL (cs : List Nat) : List Nat := cs.flatMap foldc

theorem foldL_append (a b : List Nat) : foldL (a ++ b) = foldL a ++ foldL b := by simp [foldL]
theorem foldL_one (c : Nat) : foldL [c] = foldc c := by simp [foldL]
theorem foldL_cons (c : Nat) (b : List Nat) : foldL (c :: b) = foldc c ++ foldL b := by simp [foldL]
theorem foldL_take (cs : List Nat) (j : Nat) (h : j < cs.length) : foldL (cs.take (j + 1)) = foldL (cs.take j) ++ foldc cs[j] := by
  rw [List.take_succ_eq_append_getElem h, foldL_append, foldL_one]
theorem fold_table : ∀ i : Fin 256, (∀ x ∈ foldc i.val, foldc x = [x]) ∧ (foldc i.val).length ≤ 2 ∧ 1 ≤ (foldc i.val).length ∧ (okc i.val → ∀ x ∈ foldc i.val, okc x) := by decide +kernel
theorem foldc_fix (c : Nat) : ∀ x ∈ foldc c, foldc x = [x] := by
  by_cases h : c < 256
  · exact (fold_table ⟨c, h⟩).1
  · have e : foldc c = [c] := by unfold foldc; rw [if_neg (by omega), if_neg (by omega)]
    intro x hx
    rw [e] at hx
    simp at hx
    subst hx
    exact e
theorem foldc_len (c : Nat) : (foldc c).length ≤ 2 := by
  by_cases h : c < 256
  · exact (fold_table ⟨c, h⟩).2.1
  · have e : foldc c = [c] := by unfold foldc; rw [if_neg (by omega), if_neg (by omega)]
    rw [e]; simp
theorem foldc_OK (c : Nat) (hc : okc c) : OKs (foldc c) := by
  by_cases h : c < 256
  · exact (fold_table ⟨c, h⟩).2.2.2 hc
  · have e : foldc c = [c] := by unfold foldc; rw [if_neg (by omega), if_neg (by omega)]
    rw [e]
    intro x hx
    simp at hx
    subst hx
    exact hc
theorem fold_fix (cs : List Nat) : ∀ x ∈ foldL cs, foldc x = [x] := by
  intro x hx
  unfold foldL at hx
  obtain ⟨c, _, h⟩ := List.mem_flatMap.1 hx
  exact foldc_fix c x h
theorem fold_of_fix : ∀ (l : List Nat), (∀ x ∈ l, foldc x = [x]) → foldL l = l
  | [], _ => rfl
  | c :: l, h => by
    rw [foldL_cons, h c (by simp), fold_of_fix l (fun x hx => h x (by simp [hx]))]
    rfl
theorem fold_twice (cs : List Nat) : foldL (foldL cs) = foldL cs := fold_of_fix _ (fold_fix cs)
theorem fold_OK (cs : List Nat) (h : OKs cs) : OKs (foldL cs) := by
  intro x hx
  unfold foldL at hx
  obtain ⟨c, hc, hx'⟩ := List.mem_flatMap.1 hx
  exact foldc_OK c (h c hc) x hx'
theorem fold_len (cs : List Nat) : (foldL cs).length ≤ 2 * cs.length := by
  induction cs with
  | nil => simp [foldL]
  | cons c cs ih =>
    have := foldc_len c
    rw [foldL_cons, List.length_append, List.length_cons]
    omega

/-! ### words -/
def flush (st : List (List Nat) × List Nat) : List (List Nat) × List Nat := if st.2 = [] then (st.1, []) else (st.1 ++ [st.2], [])
def wstep (st : List (List Nat) × List Nat) (c : Nat) : List (List Nat) × List Nat := if letterc c then (st.1, st.2 ++ [c]) else flush st
def wrun (st : List (List Nat) × List Nat) (cs : List Nat) : List (List Nat) × List Nat := cs.foldl wstep st
def wst (cs : List Nat) : List (List Nat) × List Nat := wrun ([], []) cs
/-- The words of a folded text. -/
def wordsL (cs : List Nat) : List (List Nat) := (flush (wst cs)).1
/-- The words of a text. -/
def W (cs : List Nat) : List (List Nat) := wordsL (foldL cs)

theorem wrun_append (st : List (List Nat) × List Nat) (a b : List Nat) : wrun st (a ++ b) = wrun (wrun st a) b := by simp [wrun]
theorem wrun_one (st : List (List Nat) × List Nat) (c : Nat) : wrun st [c] = wstep st c := rfl
theorem wst_take (cs : List Nat) (j : Nat) (h : j < cs.length) : wst (cs.take (j + 1)) = wstep (wst (cs.take j)) cs[j] := by
  rw [List.take_succ_eq_append_getElem h]
  unfold wst
  rw [wrun_append, wrun_one]
theorem flush_flush (st : List (List Nat) × List Nat) : flush (flush st) = flush st := by
  unfold flush
  by_cases h : st.2 = []
  · simp [h]
  · simp [h]
theorem flush_cur (st : List (List Nat) × List Nat) : (flush st).2 = [] := by
  unfold flush
  split <;> rfl
theorem W_fold (cs : List Nat) : W (foldL cs) = W cs := by unfold W; rw [fold_twice]
theorem blank_fold (c : Nat) (h : blankc c = true) : foldc c = [c] ∧ letterc c = false := by
  unfold blankc at h
  simp at h
  rcases h with rfl | rfl <;> exact ⟨rfl, rfl⟩
theorem W_clean_run (cs : List Nat) : ((cleanRun cs).2 = false → wst (foldL cs) = wst (foldL (cleanRun cs).1)) ∧ ((cleanRun cs).2 = true → wst (foldL cs) = flush (wst (foldL (cleanRun cs).1))) := by
  refine snoc_ind (p := fun cs => ((cleanRun cs).2 = false → wst (foldL cs) = wst (foldL (cleanRun cs).1)) ∧ ((cleanRun cs).2 = true → wst (foldL cs) = flush (wst (foldL (cleanRun cs).1)))) ?_ ?_ cs
  · exact ⟨fun _ => rfl, fun h => by cases h⟩
  · rintro l c ⟨i1, i2⟩
    have hrun : wst (foldL (l ++ [c])) = wrun (wst (foldL l)) (foldc c) := by
      rw [foldL_append, foldL_one]; unfold wst; rw [wrun_append]
    rw [cleanRun_snoc, hrun]
    unfold cleanStep
    by_cases hb : blankc c = true
    · obtain ⟨hf, hl⟩ := blank_fold c hb
      simp only [hb, if_true]
      refine ⟨(fun h => by cases h), fun _ => ?_⟩
      rw [hf, wrun_one]
      unfold wstep
      rw [hl]
      simp only [Bool.false_eq_true, if_false]
      cases hg : (cleanRun l).2
      · rw [i1 hg]
      · rw [i2 hg, flush_flush]
    · have hb' : blankc c = false := by simpa using hb
      simp only [hb', Bool.false_eq_true, if_false]
      refine ⟨fun _ => ?_, fun h => by cases h⟩
      by_cases hc : (cleanRun l).2 = true ∧ (cleanRun l).1 ≠ []
      · rw [if_pos hc, foldL_append, foldL_append, foldL_one, foldL_one, i2 hc.1]
        unfold wst
        rw [wrun_append, wrun_append]
        rfl
      · rw [if_neg hc, foldL_append, foldL_one]
        unfold wst
        rw [wrun_append]
        congr 1
        show wst (foldL l) = wst (foldL (cleanRun l).1)
        cases hg : (cleanRun l).2
        · exact i1 hg
        · have he : (cleanRun l).1 = [] := by
            by_cases h : (cleanRun l).1 = []
            · exact h
            · exact absurd ⟨hg, h⟩ hc
          rw [i2 hg, he]
          rfl
theorem W_clean (cs : List Nat) : W (cleanL cs) = W cs := by
  have := W_clean_run cs
  unfold W wordsL cleanL
  cases hg : (cleanRun cs).2
  · rw [this.1 hg]
  · rw [this.2 hg, flush_flush]

/-! ### words joined by blanks -/
def joinL (ws : List (List Nat)) : List Nat := ws.tail.foldl (fun o x => o ++ [32] ++ x) (ws.headD [])
theorem joinL_snoc (ws : List (List Nat)) (x : List Nat) : joinL (ws ++ [x]) = if ws = [] then x else joinL ws ++ [32] ++ x := by
  cases ws with
  | nil => rfl
  | cons y ys => simp [joinL]
/-- A word: letters, at least one, that folding leaves. -/
def Good (x : List Nat) : Prop := x ≠ [] ∧ (∀ c ∈ x, letterc c = true ∧ foldc c = [c])
theorem wrun_good (ws : List (List Nat)) : ∀ (x cur : List Nat), (∀ c ∈ x, letterc c = true) → wrun (ws, cur) x = (ws, cur ++ x)
  | [], cur, _ => by simp [wrun]
  | c :: x, cur, h => by
    have h1 := h c (by simp)
    show wrun (wstep (ws, cur) c) x = _
    unfold wstep
    rw [h1]
    simp only [if_true]
    rw [wrun_good ws x (cur ++ [c]) (fun d hd => h d (by simp [hd]))]
    simp
theorem snoc_ind2 {p : List (List Nat) → Prop} (h0 : p []) (hs : ∀ l c, p l → p (l ++ [c])) : ∀ l, p l := by
  intro l
  have : ∀ n (l : List (List Nat)), l.length = n → p l := by
    intro n
    induction n with
    | zero => intro l h; rw [List.eq_nil_of_length_eq_zero h]; exact h0
    | succ n ih =>
      intro l h
      have hne : l ≠ [] := by intro e; rw [e] at h; cases h
      rw [← List.dropLast_concat_getLast hne]
      exact hs _ _ (ih _ (by simp [h]))
  exact this _ l rfl
theorem join_fix (ws : List (List Nat)) : (∀ x ∈ ws, Good x) → ∀ c ∈ joinL ws, foldc c = [c] := by
  refine snoc_ind2 (p := fun ws => (∀ x ∈ ws, Good x) → ∀ c ∈ joinL ws, foldc c = [c]) ?_ ?_ ws
  · intro _ c hc; cases hc
  · intro l x ih h c hc
    have hx := h x (by simp)
    rw [joinL_snoc] at hc
    split at hc
    · exact (hx.2 c hc).2
    · simp only [List.mem_append, List.mem_singleton] at hc
      rcases hc with (hc | hc) | hc
      · exact ih (fun y hy => h y (by simp [hy])) c hc
      · subst hc; rfl
      · exact (hx.2 c hc).2
theorem wst_join (ws : List (List Nat)) : ∀ x, (∀ y ∈ ws, Good y) → Good x → wst (joinL (ws ++ [x])) = (ws, x) := by
  refine snoc_ind2 (p := fun ws => ∀ x, (∀ y ∈ ws, Good y) → Good x → wst (joinL (ws ++ [x])) = (ws, x)) ?_ ?_ ws
  · intro x _ hx
    rw [joinL_snoc, if_pos rfl]
    unfold wst
    rw [wrun_good [] x [] (fun c hc => (hx.2 c hc).1)]
    rfl
  · intro l y ih x h hx
    have hy := h y (by simp)
    rw [joinL_snoc, if_neg (by simp)]
    have := ih y (fun z hz => h z (by simp [hz])) hy
    unfold wst at this ⊢
    rw [wrun_append, wrun_append, this, wrun_one]
    have l32 : letterc 32 = false := rfl
    have : wstep (l, y) 32 = (l ++ [y], []) := by
      unfold wstep flush
      rw [l32]
      simp [hy.1]
    rw [this, wrun_good _ x [] (fun c hc => (hx.2 c hc).1)]
    rfl
theorem words_join (ws : List (List Nat)) (h : ∀ y ∈ ws, Good y) : W (joinL ws) = ws := by
  unfold W
  rw [fold_of_fix _ (join_fix ws h)]
  by_cases hne : ws = []
  · subst hne; rfl
  · have hs := List.dropLast_concat_getLast hne
    have := wst_join ws.dropLast (ws.getLast hne) (fun y hy => h y (by rw [← hs]; exact List.mem_append_left _ hy)) (h _ (List.getLast_mem hne))
    rw [hs] at this
    unfold wordsL
    rw [this]
    unfold flush
    simp only
    rw [if_neg (h _ (List.getLast_mem hne)).1]
    exact hs
theorem words_good (fs : List Nat) : (∀ x ∈ fs, foldc x = [x]) → (∀ y ∈ (wst fs).1, Good y) ∧ (∀ c ∈ (wst fs).2, letterc c = true ∧ foldc c = [c]) := by
  refine snoc_ind (p := fun fs => (∀ x ∈ fs, foldc x = [x]) → (∀ y ∈ (wst fs).1, Good y) ∧ (∀ c ∈ (wst fs).2, letterc c = true ∧ foldc c = [c])) ?_ ?_ fs
  · intro _; exact ⟨(fun y hy => by cases hy), (fun c hc => by cases hc)⟩
  · intro l c ih h
    obtain ⟨i1, i2⟩ := ih (fun x hx => h x (by simp [hx]))
    have e : wst (l ++ [c]) = wstep (wst l) c := by unfold wst; rw [wrun_append, wrun_one]
    rw [e]
    unfold wstep
    by_cases hl : letterc c = true
    · rw [if_pos hl]
      refine ⟨i1, fun d hd => ?_⟩
      simp only [List.mem_append, List.mem_singleton] at hd
      rcases hd with hd | hd
      · exact i2 d hd
      · subst hd; exact ⟨hl, h d (by simp)⟩
    · rw [if_neg hl]
      unfold flush
      split
      · exact ⟨i1, fun d hd => by cases hd⟩
      · rename_i hne
        refine ⟨fun y hy => ?_, fun d hd => by cases hd⟩
        simp only [List.mem_append, List.mem_singleton] at hy
        rcases hy with hy | hy
        · exact i1 y hy
        · subst hy; exact ⟨hne, i2⟩
theorem W_good (cs : List Nat) : ∀ y ∈ W cs, Good y := by
  obtain ⟨h1, h2⟩ := words_good (foldL cs) (fold_fix cs)
  intro y hy
  unfold W wordsL flush at hy
  split at hy
  · exact h1 y hy
  · rename_i hne
    simp only [List.mem_append, List.mem_singleton] at hy
    rcases hy with hy | hy
    · exact h1 y hy
    · subst hy; exact ⟨hne, h2⟩
theorem W_join (cs : List Nat) : W (joinL (W cs)) = W cs := words_join _ (W_good cs)

theorem wst_OK (fs : List Nat) : OKs fs → (∀ y ∈ (wst fs).1, OKs y) ∧ OKs (wst fs).2 := by
  refine snoc_ind (p := fun fs => OKs fs → (∀ y ∈ (wst fs).1, OKs y) ∧ OKs (wst fs).2) ?_ ?_ fs
  · intro _; exact ⟨(fun y hy => by cases hy), OKs_nil⟩
  · intro l c ih h
    obtain ⟨h1, h2⟩ := OKs_append.1 h
    obtain ⟨i1, i2⟩ := ih h1
    have e : wst (l ++ [c]) = wstep (wst l) c := by unfold wst; rw [wrun_append, wrun_one]
    rw [e]
    unfold wstep
    split
    · exact ⟨i1, OKs_append.2 ⟨i2, h2⟩⟩
    · unfold flush
      split
      · exact ⟨i1, OKs_nil⟩
      · refine ⟨fun y hy => ?_, OKs_nil⟩
        simp only [List.mem_append, List.mem_singleton] at hy
        rcases hy with hy | hy
        · exact i1 y hy
        · subst hy; exact i2
theorem W_OK (cs : List Nat) (h : OKs cs) : ∀ y ∈ W cs, OKs y := by
  obtain ⟨h1, h2⟩ := wst_OK (foldL cs) (fold_OK cs h)
  intro y hy
  unfold W wordsL flush at hy
  split at hy
  · exact h1 y hy
  · simp only [List.mem_append, List.mem_singleton] at hy
    rcases hy with hy | hy
    · exact h1 y hy
    · subst hy; exact h2
theorem join_OK (ws : List (List Nat)) : (∀ x ∈ ws, OKs x) → OKs (joinL ws) := by
  refine snoc_ind2 (p := fun ws => (∀ x ∈ ws, OKs x) → OKs (joinL ws)) ?_ ?_ ws
  · intro _; exact OKs_nil
  · intro l x ih h
    rw [joinL_snoc]
    split
    · exact h x (by simp)
    · refine OKs_append.2 ⟨OKs_append.2 ⟨ih (fun y hy => h y (by simp [hy])), ?_⟩, h x (by simp)⟩
      intro c hc
      simp at hc
      subst hc
      exact okc_32

/-! ### lengths -/
def total (ws : List (List Nat)) : Nat := (ws.map fun x => x.length + 1).sum
theorem total_snoc (ws : List (List Nat)) (x : List Nat) : total (ws ++ [x]) = total ws + x.length + 1 := by simp [total]; omega
theorem len_total (ws : List (List Nat)) : ws.length ≤ total ws := by
  refine snoc_ind2 (p := fun ws => ws.length ≤ total ws) (by simp [total]) ?_ ws
  intro l x ih
  rw [total_snoc, List.length_append, List.length_singleton]
  omega
theorem join_total (ws : List (List Nat)) : (joinL ws).length ≤ total ws := by
  refine snoc_ind2 (p := fun ws => (joinL ws).length ≤ total ws) (by simp [joinL, total]) ?_ ws
  intro l x ih
  rw [total_snoc, joinL_snoc]
  split
  · omega
  · simp only [List.length_append, List.length_singleton]; omega
theorem wst_total (fs : List Nat) : total (wst fs).1 + (wst fs).2.length ≤ fs.length := by
  refine snoc_ind (p := fun fs => total (wst fs).1 + (wst fs).2.length ≤ fs.length) (by simp [wst, wrun, total]) ?_ fs
  intro l c ih
  have e : wst (l ++ [c]) = wstep (wst l) c := by unfold wst; rw [wrun_append, wrun_one]
  rw [e]
  unfold wstep
  split
  · simp only [List.length_append, List.length_singleton]; omega
  · unfold flush
    split
    · simp only [List.length_append, List.length_singleton, List.length_nil]; omega
    · simp only [total_snoc, List.length_append, List.length_singleton, List.length_nil]; omega
theorem W_total (cs : List Nat) : total (W cs) ≤ 2 * cs.length + 1 := by
  have h1 := wst_total (foldL cs)
  have h2 := fold_len cs
  unfold W wordsL flush
  split
  · simp only; omega
  · simp only [total_snoc]; omega
end

end Go.Proofs.YtnfallkeicehiaaDoor
