/- Merged: PL07, Env07, FE07, KB14, R08C. -/
import Derived.Test.YthjdopnoophigaaGreatDoorQ22
import Derived.Test.YthjdopnoophigaaGreatDoorQ10
import Derived.Lib.ReplaceLaws
import Derived.Lib.Replace
import Derived.Lib.CountLaws
import Derived.Lib.IndexMore
import Derived.Lib.IndexLaws
import Derived.Lib.AtoiAll
import Derived.Lib.Join
import Derived.Lib.Strings
import Derived.Test.YthjdopnoophigaaGreatDoorShelf
import Derived.Test.YthjdopnoophigaaGreatDoorQ16
import Derived.Lib.ConvBytes
import Derived.Test.YthjdopnoophigaaGreatDoorQ20
import Derived.Test.YthjdopnoophigaaGreatDoorQ21
namespace Go.Proofs.YthjdopnoophigaaGreatDoor

section
/-! strings.ReplaceAll. -/
theorem rep_hit (old new l : List UInt8) (h0 : old ≠ []) (h : old.isPrefixOf l = true) : Lib.replaceK old new (Lib.count l old) l = new ++ Lib.replaceK old new (Lib.count (l.drop old.length) old) (l.drop old.length) := by
  have hi : Lib.index l old = ((0 : Nat) : Int) := by
    cases l with
    | nil =>
      cases old with
      | nil => exact absurd rfl h0
      | cons _ _ => simp at h
    | cons b t => rw [Lib.index, if_pos h]; rfl
  rw [Lib.count_hit h0 hi, Nat.add_comm 1, Lib.replaceK_hit _ _ _ _ 0 hi, List.take_zero, List.nil_append, Nat.zero_add]
theorem rep_miss (old new l : List UInt8) (b : UInt8) (h0 : old ≠ []) (h : old.isPrefixOf (b :: l) = false) : Lib.replaceK old new (Lib.count (b :: l) old) (b :: l) = b :: Lib.replaceK old new (Lib.count l old) l := by
  have hn : ¬ (old.isPrefixOf (b :: l) = true) := by rw [h]; intro h; cases h
  rcases Int.lt_or_le (Lib.index l old) 0 with hneg | hp
  · have hm : Lib.index l old = -1 := by have := Lib.index_ge l old; omega
    have hi : Lib.index (b :: l) old = -1 := by
      rw [Lib.index, if_neg hn, hm]
      rfl
    rw [Lib.count_miss hm, Lib.count_miss hi]
    rfl
  · obtain ⟨i, hm⟩ : ∃ i : Nat, Lib.index l old = i := ⟨(Lib.index l old).toNat, by omega⟩
    have hi : Lib.index (b :: l) old = ((i + 1 : Nat) : Int) := by
      rw [Lib.index, if_neg hn, hm, if_neg]
      · rfl
      · intro h
        have := beq_iff_eq.1 h
        omega
    rw [Lib.count_hit h0 hm, Lib.count_hit h0 hi, Nat.add_comm 1, Nat.add_comm 1, Lib.replaceK_hit _ _ _ _ i hm, Lib.replaceK_hit _ _ _ _ (i + 1) hi]
    rw [show i + 1 + old.length = (i + old.length) + 1 by omega, List.take_succ_cons, List.drop_succ_cons, List.cons_append, List.cons_append]
theorem rep_nil (old new : List UInt8) (h0 : old ≠ []) : Lib.replaceK old new (Lib.count [] old) [] = [] := by
  have : Lib.index [] old = -1 := by
    rw [Lib.index, if_neg]
    cases old with
    | nil => exact absurd rfl h0
    | cons _ _ => simp
  rw [Lib.count_miss this]
  rfl
theorem rep_all (old new l : List UInt8) (hne : old ≠ new) : Lib.replaceAll l old new = Lib.replaceK old new (Lib.count l old) l := by
  unfold Lib.replaceAll Lib.replace Lib.replaceNum
  rw [if_neg, if_pos (Or.inl (by decide))]
  intro h
  exact hne (beq_iff_eq.1 h)
/-- One byte by a text. -/
def subL (c : UInt8) (d : List UInt8) (l : List UInt8) : List UInt8 := l.flatMap fun x => if x = c then d else [x]
theorem one_prefix (c b : UInt8) (l : List UInt8) : [c].isPrefixOf (b :: l) = decide (b = c) := by
  show (c == b && _) = _
  rw [show ([] : List UInt8).isPrefixOf l = true from by cases l <;> rfl, Bool.and_true]
  rw [Bool.eq_iff_iff, beq_iff_eq, decide_eq_true_iff]
  exact eq_comm
theorem sub_K (c : UInt8) (d : List UInt8) : ∀ l : List UInt8, Lib.replaceK [c] d (Lib.count l [c]) l = subL c d l
  | [] => rep_nil _ _ (by simp)
  | b :: l => by
    have ih := sub_K c d l
    unfold subL at ih ⊢
    rw [List.flatMap_cons]
    by_cases h : b = c
    · rw [rep_hit [c] d (b :: l) (by simp) (by rw [one_prefix]; exact decide_eq_true h), if_pos h]
      show d ++ Lib.replaceK [c] d (Lib.count l [c]) l = _
      rw [ih]
    · rw [rep_miss [c] d l b (by simp) (by rw [one_prefix]; exact decide_eq_false h), if_neg h, ih]
      rfl
theorem sub_all (c : UInt8) (d l : List UInt8) (hne : [c] ≠ d) : Lib.replaceAll l [c] d = subL c d l := by rw [rep_all _ _ _ hne, sub_K]
theorem sub_dbl : ∀ l : List UInt8, subL 36 [36, 36] l = dblL l
  | [] => rfl
  | x :: t => by
    have ih := sub_dbl t
    unfold subL at ih ⊢
    rw [List.flatMap_cons, ih, dblL]
    split <;> rfl
theorem sub_un : ∀ l : List UInt8, subL 35 [32] l = l.map unB
  | [] => rfl
  | x :: t => by
    have ih := sub_un t
    unfold subL at ih ⊢
    rw [List.flatMap_cons, ih, List.map_cons]
    unfold unB
    split <;> rfl
theorem sub_mark (a b : UInt8) : subL 32 [35] [a, b] = markB a ++ markB b := by
  unfold subL markB
  simp
/-- All bytes but the blanks are digits: of two bytes, each is a blank or a digit. -/
theorem sub_inds (a b : UInt8) : (subL 32 [] [a, b]).all digB = (indB a && indB b) := by
  have one : ∀ x : UInt8, (if x = 32 then ([] : List UInt8) else [x]).all digB = indB x := by
    intro x
    unfold indB
    by_cases h : x = 32
    · rw [if_pos h]; simp [h]
    · rw [if_neg h]; simp [h]
  show ((if a = 32 then ([] : List UInt8) else [a]) ++ ((if b = 32 then ([] : List UInt8) else [b]) ++ [])).all digB = _
  rw [List.append_nil, List.all_append, one a, one b]
theorem two_36 (x : UInt8) (l : List UInt8) (h : x ≠ 36) : [36, 36].isPrefixOf (x :: l) = false := by
  show ((36 : UInt8) == x && _) = false
  rw [beq_eq_false_iff_ne.2 (fun e => h e.symm), Bool.false_and]
theorem halve_K : ∀ v : List UInt8, Lib.replaceK [36, 36] [36] (Lib.count (dblL v) [36, 36]) (dblL v) = v
  | [] => rep_nil _ _ (by simp)
  | x :: t => by
    have ih := halve_K t
    rw [dblL]
    by_cases h : x = 36
    · rw [if_pos h, rep_hit [36, 36] [36] (36 :: 36 :: dblL t) (by simp) (by simp)]
      show [36] ++ Lib.replaceK [36, 36] [36] (Lib.count (dblL t) [36, 36]) (dblL t) = _
      rw [ih, h]
      rfl
    · rw [if_neg h, rep_miss [36, 36] [36] (dblL t) x (by simp) (two_36 x _ h), ih]
/-- Two dollars by one. -/
def halveL (l : List UInt8) : List UInt8 := Lib.replaceAll l [36, 36] [36]
theorem halve_dbl (v : List UInt8) : halveL (dblL v) = v := by
  unfold halveL
  rw [rep_all _ _ _ (by simp), halve_K]

/-! strings.Cut at a byte. -/
theorem index_one7 (c : UInt8) : ∀ l : List UInt8, c ∉ l → Lib.index l [c] = -1
  | [], _ => rfl
  | b :: l, h => by
    have hb : ¬ ([c].isPrefixOf (b :: l) = true) := by
      rw [one_prefix]
      simp only [List.mem_cons, not_or] at h
      rw [decide_eq_true_iff]
      exact fun e => h.1 e.symm
    rw [Lib.index, if_neg hb, index_one7 c l (fun h' => h (List.mem_cons_of_mem _ h'))]
    rfl
theorem index_at (c : UInt8) : ∀ (a r : List UInt8), c ∉ a → Lib.index (a ++ c :: r) [c] = (a.length : Int)
  | [], r, _ => by
    show Lib.index (c :: r) [c] = 0
    rw [Lib.index, if_pos (by rw [one_prefix]; simp)]
  | b :: a, r, h => by
    have hb : ¬ ([c].isPrefixOf (b :: (a ++ c :: r)) = true) := by
      rw [one_prefix]
      simp only [List.mem_cons, not_or] at h
      rw [decide_eq_true_iff]
      exact fun e => h.1 e.symm
    show Lib.index (b :: (a ++ c :: r)) [c] = _
    rw [Lib.index, if_neg hb, index_at c a r (fun h' => h (List.mem_cons_of_mem _ h')), if_neg]
    · simp
    · intro h
      have := beq_iff_eq.1 h
      omega
theorem cut_at (c : UInt8) (a r : List UInt8) (h : c ∉ a) : Lib.cut (a ++ c :: r) [c] = (a, r, true) := by
  unfold Lib.cut
  rw [index_at c a r h, if_pos (by omega)]
  simp
theorem cut_none (c : UInt8) (l : List UInt8) (h : c ∉ l) : Lib.cut l [c] = (l, [], false) := by
  unfold Lib.cut
  rw [index_one7 c l h, if_neg (by omega)]
theorem cut_le (l sep : List UInt8) : (Lib.cut l sep).1.length ≤ l.length ∧ (Lib.cut l sep).2.1.length ≤ l.length := by
  unfold Lib.cut
  split
  · simp; omega
  · simp

/-! strings.IndexByte. -/
theorem index_in (c : UInt8) (l : List UInt8) : decide (0 ≤ Lib.indexByte l c) = l.any (fun x => decide (x = c)) := by
  induction l with
  | nil => rfl
  | cons b l ih =>
    have hg := Lib.indexByte_ge l c
    rw [Lib.indexByte, List.any_cons]
    by_cases h : b = c
    · rw [if_pos (by rw [h]; simp), decide_eq_true h, Bool.true_or]
      rfl
    · rw [if_neg (by simpa using h), decide_eq_false h, Bool.false_or, ← ih]
      by_cases h1 : Lib.indexByte l c = -1
      · rw [if_pos (by rw [h1]; rfl), h1]
      · rw [if_neg (by simpa using h1), decide_eq_decide]
        omega

/-! strconv.Atoi. -/
/-- The number beside the error. -/
def atoiV (l : List UInt8) : Int := match Lib.atoiAll l with
  | .ok v => v
  | .range => Lib.atoiSat l
  | _ => 0
theorem parse_dec : ∀ (n : Nat) (r : List UInt8), n ≤ 99999 → Lib.parseUint10 0 (Lib.decDigits n ++ r) = Lib.parseUint10 n r := by
  intro n
  induction n using Nat.strongRecOn with
  | ind n ih =>
    intro r hn
    by_cases h : n < 10
    · rw [dec1 n h]
      show Lib.parseUint10 0 (dgt n :: r) = _
      rw [Lib.parseUint10, dgt_nat n (by omega), if_pos ⟨by omega, by omega⟩, if_neg (by omega), if_neg (by omega)]
      congr 1
      omega
    · rw [decS n h, List.append_assoc, ih (n / 10) (by omega) _ (by omega)]
      show Lib.parseUint10 (n / 10) (dgt (n % 10) :: r) = _
      rw [Lib.parseUint10, dgt_nat _ (by omega), if_pos ⟨by omega, by omega⟩, if_neg (by omega), if_neg (by omega)]
      congr 1
      omega
theorem dec_head : ∀ n : Nat, ∃ c t, Lib.decDigits n = c :: t ∧ 48 ≤ c.toNat ∧ c.toNat ≤ 57 := by
  intro n
  induction n using Nat.strongRecOn with
  | ind n ih =>
    by_cases h : n < 10
    · exact ⟨dgt n, [], dec1 n h, by rw [dgt_nat n (by omega)]; omega, by rw [dgt_nat n (by omega)]; omega⟩
    · obtain ⟨c, t, e, h1, h2⟩ := ih (n / 10) (by omega)
      exact ⟨c, t ++ [dgt (n % 10)], by rw [decS n h, e]; rfl, h1, h2⟩
theorem atoi_dec (n : Nat) (hn : n ≤ 99999) : atoiV (Lib.decDigits n) = (n : Int) := by
  obtain ⟨c, t, e, h1, h2⟩ := dec_head n
  have hp := parse_dec n [] hn
  rw [List.append_nil] at hp
  unfold atoiV Lib.atoiAll
  rw [e] at hp ⊢
  have hm : Lib.parseMag (c :: t) = .ok n := by
    unfold Lib.parseMag
    rw [if_neg (by simp), hp]
    rfl
  have n1 : ¬ (c.toNat = 43 ∨ c.toNat = 45) := by omega
  simp only [if_neg n1, hm]
  rw [if_neg (by omega), if_neg (by omega), if_neg (by omega)]
theorem atoi_nil : atoiV [] = 0 := rfl

/-! strings.Join. -/
theorem join_K (L : List (List UInt8)) : ∀ k, k ≤ L.length → joinK [32] L k = Lib.join (L.take k) [32]
  | 0, _ => by rw [List.take_zero]; rfl
  | k + 1, h => by
    have hk : k < L.length := by omega
    have e : L.take (k + 1) = L.take k ++ [L[k]] := List.take_succ_eq_append_getElem hk
    have eg : L.getD k [] = L[k] := by rw [List.getD_eq_getElem?_getD, List.getElem?_eq_getElem hk]; rfl
    rw [joinK]
    by_cases h0 : k = 0
    · subst h0
      rw [if_pos rfl, e, List.take_zero, List.nil_append, Lib.join_one, eg]
    · rw [if_neg h0, join_K L k (by omega), e, eg]
      obtain ⟨x, r, hx⟩ : ∃ x r, L.take k = x :: r := by
        cases hL : L.take k with
        | nil =>
          have := congrArg List.length hL
          rw [List.length_take, List.length_nil] at this
          omega
        | cons x r => exact ⟨x, r, rfl⟩
      rw [hx, List.cons_append, Lib.join_cons, Lib.join_cons]
      unfold Lib.joinTail
      simp
theorem join_plain (L : List (List UInt8)) : Lib.join L [32] = joinK [32] L L.length := by
  have := join_K L L.length (Nat.le_refl _)
  rw [List.take_length] at this
  exact this.symm

/-! The field that the program reads off a line. -/
/-- How long the value is with which this begins. -/
def vlen : List UInt8 → Nat
  | [] => 0
  | [c] => if c = 36 then 0 else 1
  | c :: d :: t => if c = 36 then (if d = 36 then vlen t + 2 else 0) else vlen (d :: t) + 1
theorem vlen_le : ∀ l : List UInt8, vlen l ≤ l.length
  | [] => Nat.le_refl _
  | [c] => by rw [vlen]; split <;> simp
  | c :: d :: t => by
    have h1 := vlen_le (d :: t)
    have h2 := vlen_le t
    rw [vlen]
    split
    · split
      · simp; omega
      · simp
    · simp at h1 ⊢; omega
theorem vlen_other (c : UInt8) (l : List UInt8) (h : c ≠ 36) : vlen (c :: l) = vlen l + 1 := by
  cases l with
  | nil =>
    show vlen [c] = 1
    unfold vlen
    rw [if_neg h]
  | cons d t => rw [vlen, if_neg h]
theorem vlen_two (t : List UInt8) : vlen (36 :: 36 :: t) = vlen t + 2 := by rw [vlen, if_pos rfl, if_pos rfl]
theorem vlen_end (l : List UInt8) (h : l = [] ∨ l = [36] ∨ ∃ d t, l = 36 :: d :: t ∧ d ≠ 36) : vlen l = 0 := by
  rcases h with rfl | rfl | ⟨d, t, rfl, h⟩
  · rfl
  · rw [vlen, if_pos rfl]
  · rw [vlen, if_pos rfl, if_neg h]
theorem vlen_dbl : ∀ (v r : List UInt8), (r = [] ∨ ∃ d t, r = 36 :: d :: t ∧ d ≠ 36) → vlen (dblL v ++ r) = (dblL v).length
  | [], r, h => vlen_end r (by rcases h with h | h; exact .inl h; exact .inr (.inr h))
  | x :: t, r, h => by
    rw [dblL]
    by_cases hx : x = 36
    · rw [if_pos hx, List.cons_append, List.cons_append, vlen_two, vlen_dbl t r h]
      simp
    · rw [if_neg hx, List.cons_append, vlen_other x _ hx, vlen_dbl t r h]
      simp
/-- The subfields, at most k of them. -/
def subsK : Nat → List UInt8 → List Sub
  | 0, _ => []
  | _ + 1, [] => []
  | _ + 1, [_] => []
  | k + 1, _ :: c :: r => (c, halveL (r.take (vlen r))) :: subsK k (r.drop (vlen r))
theorem subs_K : ∀ (L : List Sub) (k : Nat), L.length ≤ k → (∀ i, i < L.length → codeB (L.getD i sub0).1 = true) → subsK k (bodyL L) = L
  | [], 0, _, _ => rfl
  | [], k + 1, _, _ => rfl
  | s :: t, 0, h, _ => by simp at h
  | s :: t, k + 1, hk, h => by
    have e : bodyL (s :: t) = 36 :: s.1 :: (dblL s.2 ++ bodyL t) := by simp [bodyL, subP]
    have ht : ∀ i, i < t.length → codeB (t.getD i sub0).1 = true := fun i hi => h (i + 1) (by simpa using hi)
    rw [e, subsK, vlen_dbl s.2 _ (body_form t ht), List.take_left, List.drop_left, halve_dbl, subs_K t k (by simpa using hk) ht]
def readP (s : List UInt8) : Fld :=
  ⟨(Lib.cut (Lib.cut s [32]).1 [64]).1, (Lib.cut (Lib.cut s [32]).2.1 [32]).1.map unB, subsK 17 (Lib.cut (Lib.cut s [32]).2.1 [32]).2.1, atoiV (Lib.cut (Lib.cut s [32]).1 [64]).2.1⟩
theorem digs_not (l : List UInt8) (c : UInt8) (hc : digB c = false) (h : ∀ i, i < l.length → digB (l.getD i 0) = true) : c ∉ l := by
  intro hm
  obtain ⟨i, hi, he⟩ := List.getElem_of_mem hm
  have := h i hi
  rw [List.getD_eq_getElem?_getD, List.getElem?_eq_getElem hi] at this
  simp only [Option.getD_some, he, hc] at this
  cases this
theorem dec_digs (n : Nat) : ∀ x, x ∈ Lib.decDigits n → digB x = true := by
  induction n using Nat.strongRecOn with
  | ind n ih =>
    intro x hx
    by_cases h : n < 10
    · rw [dec1 n h] at hx
      simp only [List.mem_singleton] at hx
      rw [hx]
      exact dig_of n h
    · rw [decS n h, List.mem_append, List.mem_singleton] at hx
      rcases hx with hx | hx
      · exact ih (n / 10) (by omega) x hx
      · rw [hx]
        exact dig_of _ (Nat.mod_lt _ (by decide))
theorem readP_line (f : Fld) (h : rightI f = 0) : readP (lineL f) = f := by
  obtain ⟨htag, hind, hn1, hn16, hsub, ha0, ha1⟩ := right_facts f h
  have hcode : ∀ i, i < f.subs.length → codeB (f.subs.getD i sub0).1 = true := fun i hi => (subE_zero _ (hsub i hi)).1
  have h3 := tagB_len _ htag
  have h2 := indsB_len _ hind
  obtain ⟨tag, ind, subs, au⟩ := f
  have htd : ∀ x, x ∈ tag → digB x = true := by
    match tag, h3 with
    | [t0, t1, t2], _ =>
      unfold tagB at htag
      simp only [Bool.and_eq_true] at htag
      obtain ⟨⟨⟨⟨_, g0⟩, g1⟩, g2⟩, _⟩ := htag
      intro x hx
      simp only [List.mem_cons, List.not_mem_nil, or_false] at hx
      rcases hx with rfl | rfl | rfl
      · exact g0
      · exact g1
      · exact g2
  have nott : ∀ c : UInt8, digB c = false → c ∉ tag := fun c hc hm => by
    have := htd c hm
    rw [hc] at this
    cases this
  match ind, h2 with
  | [i0, i1], _ =>
    have hi0 : indB i0 = true := by
      unfold indsB at hind
      simp only [Bool.and_eq_true] at hind
      exact hind.1.2
    have hi1 : indB i1 = true := by
      unfold indsB at hind
      simp only [Bool.and_eq_true] at hind
      exact hind.2
    obtain ⟨d0, m0, n0, u0⟩ := mark_form i0 hi0
    obtain ⟨d1, m1, n1, u1⟩ := mark_form i1 hi1
    have e : lineL ⟨tag, [i0, i1], subs, au⟩ = (tag ++ authP au) ++ 32 :: ([d0, d1] ++ 32 :: bodyL subs) := by
      unfold lineL headL
      show tag ++ authP au ++ 32 :: (markB i0 ++ markB i1 ++ [32]) ++ bodyL subs = _
      rw [m0, m1]
      simp
    have hap : 32 ∉ authP au ∧ Lib.cut (tag ++ authP au) [64] = (tag, (if au = 0 then [] else Lib.decDigits au.toNat), !decide (au = 0)) := by
      unfold authP
      by_cases hz : au = 0
      · rw [if_pos hz, if_pos hz, List.append_nil, decide_eq_true hz]
        exact ⟨by simp, cut_none 64 tag (nott 64 (by decide))⟩
      · have hp := dec_pos au.toNat
        have ep : padL 1 (Lib.decDigits au.toNat) = Lib.decDigits au.toNat := by
          unfold padL
          rw [show 1 - (Lib.decDigits au.toNat).length = 0 by omega]
          rfl
        rw [if_neg hz, if_neg hz, ep, decide_eq_false hz]
        refine ⟨?_, cut_at 64 tag _ (nott 64 (by decide))⟩
        intro hm
        rcases List.mem_cons.1 hm with h | h
        · revert h; decide
        · have := dec_digs _ _ h
          revert this
          decide
    have hc1 : Lib.cut (lineL ⟨tag, [i0, i1], subs, au⟩) [32] = (tag ++ authP au, [d0, d1] ++ 32 :: bodyL subs, true) := by
      rw [e]
      refine cut_at 32 _ _ ?_
      rw [List.mem_append, not_or]
      exact ⟨nott 32 (by decide), hap.1⟩
    have hc2 : Lib.cut ([d0, d1] ++ 32 :: bodyL subs) [32] = ([d0, d1], bodyL subs, true) := by
      refine cut_at 32 _ _ ?_
      simp only [List.mem_cons, List.not_mem_nil, or_false, not_or]
      exact ⟨fun h => n0 h.symm, fun h => n1 h.symm⟩
    unfold readP
    rw [hc1]
    simp only [hc2, hap.2]
    rw [subs_K subs 17 (by simp only at hn16; omega) hcode]
    have hau : atoiV (if au = 0 then [] else Lib.decDigits au.toNat) = au := by
      by_cases hz : au = 0
      · rw [if_pos hz, hz]; rfl
      · simp only at ha0 ha1
        rw [if_neg hz, atoi_dec _ (by omega), Int.toNat_of_nonneg ha0]
    rw [hau]
    simp only [List.map_cons, List.map_nil, u0, u1]
theorem readP_none (s : List UInt8) (h : ¬ (rightI (readP s) = 0 ∧ lineL (readP s) = s)) : parseO s = none := by
  cases hp : parseO s with
  | none => rfl
  | some g =>
    obtain ⟨h1, h2⟩ := parse_sound s g hp
    have := readP_line g h1
    rw [h2] at this
    rw [this] at h
    exact absurd ⟨h1, h2⟩ h
theorem readP_some (s : List UInt8) (h : rightI (readP s) = 0 ∧ lineL (readP s) = s) : parseO s = some (readP s) := by
  have := parse_back (readP s) h.1
  rwa [h.2] at this
end

section
open Go.RowKit
theorem Grow_below (w : World) (k : Nat) (os : Array Obj) : Below w.heap.size w (Sort.grow (w.drewN k) os) :=
  ⟨rfl, rfl, rfl, by simp [Sort.grow], fun i hi => Sort.heap_grow_old (w.drewN k) os hi⟩
/-- strconv.Itoa at a number that is not negative. -/
theorem cItoa (n : Nat) (h : n ≤ 99999) (w : World) (hE : Env w) :
    Calls Tryz.prog 57 #[.int .i64 (n : Int)] w fun e w' => e = .returned (.string (S (Lib.decDigits n))) ∧ Below w.heap.size w w' :=
  (Tryz.strconv_Itoa (n : Int) (by omega) (by omega) w hE.pows).mono fun e w' hh => by
    obtain ⟨he, k, os, rfl⟩ := hh
    refine ⟨?_, Grow_below w k os⟩
    rw [he, Lib.itoa, if_neg (by omega), Int.toNat_natCast]
    rfl
theorem count_le' (l d : List UInt8) : Lib.countB (S l) (S d) ≤ l.length + 1 := Lib.count_le l d
theorem cReplace (l old new r : List UInt8) (h0 : 1 ≤ old.length) (h2 : new.length ≤ 2) (hz : l.length ≤ 1000000) (hr : Lib.replaceAll l old new = r) (w : World) (hE : Env w) :
    Calls Tryz.prog 58 #[.string (S l), .string (S old), .string (S new)] w fun e w' => e = .returned (.string (S r)) ∧ Below w.heap.size w w' := by
  obtain ⟨m, hm⟩ := hE.most
  have hc := count_le' l old
  have hmul : Lib.countB (S l) (S old) * (S new).size ≤ (l.length + 1) * 2 := Nat.mul_le_mul hc (by rw [S_size]; exact h2)
  have h := Tryz.strings_ReplaceAll (S l) (S old) (S new) m w (by rw [S_size]; omega) hm (by rw [S_size]; exact h0) (by rw [S_size l]; omega)
  rw [show (S l).data.toList = l from rfl, show (S old).data.toList = old from rfl, show (S new).data.toList = new from rfl, hr] at h
  exact h
/-- A blank by nothing. -/
theorem cStrike (l : List UInt8) (hz : l.length ≤ 1000000) (w : World) (hE : Env w) :
    Calls Tryz.prog 58 #[.string (S l), .string ⟨#[32]⟩, .string ⟨#[]⟩] w fun e w' => e = .returned (.string (S (subL 32 [] l))) ∧ Below w.heap.size w w' :=
  cReplace l [32] [] _ (by simp) (by simp) hz (sub_all 32 [] l (by simp)) w hE
/-- A blank by a mark. -/
theorem cMark (l : List UInt8) (hz : l.length ≤ 1000000) (w : World) (hE : Env w) :
    Calls Tryz.prog 58 #[.string (S l), .string ⟨#[32]⟩, .string ⟨#[35]⟩] w fun e w' => e = .returned (.string (S (subL 32 [35] l))) ∧ Below w.heap.size w w' :=
  cReplace l [32] [35] _ (by simp) (by simp) hz (sub_all 32 [35] l (by simp)) w hE
/-- A mark by a blank. -/
theorem cUnmark (l : List UInt8) (hz : l.length ≤ 1000000) (w : World) (hE : Env w) :
    Calls Tryz.prog 58 #[.string (S l), .string ⟨#[35]⟩, .string ⟨#[32]⟩] w fun e w' => e = .returned (.string (S (l.map unB))) ∧ Below w.heap.size w w' :=
  cReplace l [35] [32] _ (by simp) (by simp) hz ((sub_all 35 [32] l (by simp)).trans (sub_un l)) w hE
/-- A dollar by two. -/
theorem cDouble (l : List UInt8) (hz : l.length ≤ 1000000) (w : World) (hE : Env w) :
    Calls Tryz.prog 58 #[.string (S l), .string ⟨#[36]⟩, .string ⟨#[36, 36]⟩] w fun e w' => e = .returned (.string (S (dblL l))) ∧ Below w.heap.size w w' :=
  cReplace l [36] [36, 36] _ (by simp) (by simp) hz ((sub_all 36 [36, 36] l (by simp)).trans (sub_dbl l)) w hE
/-- Two dollars by one. -/
theorem cHalve (l : List UInt8) (hz : l.length ≤ 1000000) (w : World) (hE : Env w) :
    Calls Tryz.prog 58 #[.string (S l), .string ⟨#[36, 36]⟩, .string ⟨#[36]⟩] w fun e w' => e = .returned (.string (S (halveL l))) ∧ Below w.heap.size w w' :=
  cReplace l [36, 36] [36] _ (by simp) (by simp) hz rfl w hE
/-- strings.IndexByte. -/
theorem cIndex (l : List UInt8) (c : UInt8) (w : World) :
    Calls Tryz.prog 33 #[.string (S l), .int .u8 (c.toNat : Int)] w fun e w' => e = .returned (.int .i64 (Lib.indexByte l c)) ∧ w' = w := by
  have h := Tryz.strings_IndexByte (S l) (c.toNat : Int) w
  have e : ((c.toNat : Int)).toNat.toUInt8 = c := by simp
  rw [e] at h
  exact h
theorem joinK_small (L : List (List UInt8)) (hL : ∀ i, (L.getD i []).length ≤ 1000000) (hn : L.length ≤ 1000) : (joinK [32] L L.length).length ≤ 2000000000 := by
  have := joinK_le [32] L (by simp) hL L.length
  have h2 : L.length * 1001000 ≤ 1000 * 1001000 := Nat.mul_le_mul_right _ hn
  omega
/-- strings.Join with a blank. -/
theorem kJoin (v : Value) (L : List (List UInt8)) (w : World) (hv : BL v L w) (hL : ∀ i, (L.getD i []).length ≤ 1000000) (hn : L.length ≤ 1000) :
    Calls Tryz.prog 53 #[v, .string ⟨#[32]⟩] w fun e w' => e = .returned (.string (S (joinK [32] L L.length))) ∧ Below w.heap.size w w' := by
  have hjs := joinK_small L hL hn
  obtain ⟨a, cap, rfl, hcap, hmax, hn0, hcell⟩ := hv
  by_cases h0 : L.length = 0
  · have : L = [] := List.eq_nil_of_length_eq_zero h0
    subst this
    refine (Tryz.strings_Join_none a cap ⟨#[32]⟩ w).mono fun e w' hh => ?_
    obtain ⟨he, rfl⟩ := hh
    exact ⟨he, Below.refl _ _⟩
  · obtain ⟨g, o, rfl, hg, _⟩ := hcell 0 (by omega)
    have hmap : (L.map S).map (·.data.toList) = L := by
      rw [List.map_map]
      conv => rhs; rw [← List.map_id L]
      exact List.map_congr_left fun x _ => rfl
    have h := Tryz.strings_Join g o cap (L.map S) ⟨#[32]⟩ w (fun j x hx => by
      have hj : j < L.length := by
        have := (List.getElem?_eq_some_iff.1 hx).1
        rwa [List.length_map] at this
      obtain ⟨g', o', he, _, hc⟩ := hcell j hj
      simp only [Option.some.injEq, Addr.mk.injEq] at he
      obtain ⟨rfl, rfl, _⟩ := he
      rw [hc]
      rw [List.getElem?_map, List.getElem?_eq_getElem hj] at hx
      simp only [Option.map_some, Option.some.injEq] at hx
      rw [← hx, List.getD_eq_getElem?_getD, List.getElem?_eq_getElem hj]
      rfl) hg (by rw [List.length_map]; omega) (by rw [List.length_map]; exact hcap) (by
        rw [hmap, show (⟨#[32]⟩ : ByteArray).data.toList = [32] from rfl, join_plain]
        omega)
    rw [List.length_map, hmap, show (⟨#[32]⟩ : ByteArray).data.toList = [32] from rfl, join_plain] at h
    exact h
end

section
open Go.RowKit Go.PlainAid
/-- A function value that looks for codes. -/
def CA (codes : List UInt8) (v : Value) (W : World) : Prop :=
  ∃ b, v = .func (.func 84) #[] #[.pointer (some ⟨b, 0, none⟩)] ∧ b < W.heap.size ∧ W.cell? ⟨b, 0, none⟩ = some (.string (S codes))
theorem CA.after {c : List UInt8} {v : Value} {W W' : World} (h : CA c v W) (hb : Below W.heap.size W W') : CA c v W' := by
  obtain ⟨b, rfl, h1, h2⟩ := h
  exact ⟨b, rfl, Nat.lt_of_lt_of_le h1 hb.size, (hb.cell (p := ⟨b, 0, none⟩) h1).trans h2⟩

set_option maxHeartbeats 4000000 in
theorem allIn_any (codes : List UInt8) (s : Sub) (b : Nat) (w : World) (hb : b < w.heap.size) (hc : w.cell? ⟨b, 0, none⟩ = some (.string (S codes))) (r : Bool) (hr : inB s.1 codes = r) :
    Calls Tryz.prog 84 #[.agg #[.int .u8 (s.1.toNat : Int), .string (S s.2)], .pointer (some ⟨b, 0, none⟩)] w fun e w' => e = .returned (.bool r) ∧ Below w.heap.size w w' := by
  have b0 := (Below.refl w.heap.size w).alloc (Nat.le_refl _) (.cells #[.int .u8 (s.1.toNat : Int), .string (S s.2)] 48)
  have hc' := (b0.cell (p := ⟨b, 0, none⟩) hb).trans hc
  have hne : b ≠ w.heap.size := Nat.ne_of_lt hb
  by_cases h0 : codes = []
  · subst h0
    obtain rfl : r = true := by rw [← hr]; unfold inB; simp
    have hE : (S []).toList.isEmpty = true := by rw [ByteArray.toList_eq]; rfl
    have hE2 : (S []).toList = [] := by rw [ByteArray.toList_eq]; rfl
    clear hr hc
    generalize S [] = cs at *
    generalize ((s.1.toNat : Nat) : Int) = x at *
    generalize S s.2 = t at *
    go_enter Tryz.func84, Tryz.ntmps84
    go_wp2
    go_ret
    exact ⟨rfl, b0⟩
  · obtain ⟨hE, hE2⟩ := S_facts codes h0
    have cI := Lib.hid (fun W => cIndex codes s.1 W)
    have hrr : decide (0 ≤ Lib.indexByte codes s.1) = r := by
      rw [index_in, ← hr]
      unfold inB
      rw [decide_eq_false h0, Bool.or_false]
    clear hr hc h0
    generalize Lib.indexByte codes s.1 = ix at *
    generalize S codes = cs at *
    generalize ((s.1.toNat : Nat) : Int) = x at *
    generalize S s.2 = t at *
    go_enter Tryz.func84, Tryz.ntmps84
    go_wp2_with fail
    refine (cI.out _).mono ?_
    rintro e w1 ⟨rfl, rfl⟩
    go_wp2
    go_ret
    exact ⟨rfl, b0⟩

set_option maxHeartbeats 8000000 in
set_option maxRecDepth 100000 in
theorem values_any (f : Fld) (u fv : Value) (w : World) (hu : QL u f.subs w) (codes : List UInt8) (hf : CA codes fv w) (hs : f.subs.length ≤ 100000) :
    Calls Tryz.prog 83 #[FV f u, fv] w fun e w' => ∃ v', e = .returned v' ∧ BL v' (allL f.subs codes) w' ∧ Below w.heap.size w w' := by
  obtain ⟨a, cap, rfl, hcap, hmax, _, hcell⟩ := hu
  obtain ⟨bc, rfl, hbc, hbcell⟩ := hf
  unfold maxLen at hmax
  unfold FV
  obtain ⟨n, hn⟩ : ∃ n, f.subs.length = n := ⟨_, rfl⟩
  have HCell := Lib.hid hcell
  rw [hn] at hcap hs ⊢
  have HN := Lib.hid hn
  clear hcell hn
  obtain ⟨W0, hW0⟩ : ∃ W0, w.alloc (.cells #[.string (S f.tag), .string (S f.ind), .slice a n cap, .int .i64 f.auth] 24) = W0 := ⟨_, rfl⟩
  have b0 : Below w.heap.size w W0 := by rw [← hW0]; exact (Below.refl w.heap.size w).alloc (Nat.le_refl _) _
  have k2 : W0.cell? ⟨w.heap.size, 2, none⟩ = some (.slice a n cap) := by rw [← hW0]; simp
  have hbc0 : bc < W0.heap.size := Nat.lt_of_lt_of_le hbc b0.size
  have hbcell0 := (b0.cell (p := ⟨bc, 0, none⟩) hbc).trans hbcell
  have cI := Lib.hid (fun (s : Sub) (W : World) (h : Below W0.heap.size W0 W) r hr => allIn_any codes s bc W (Nat.lt_of_lt_of_le hbc0 h.size) ((h.cell (p := ⟨bc, 0, none⟩) hbc0).trans hbcell0) r hr)
  clear hbcell hbcell0
  obtain ⟨i0, hi, hz0, hz1, hz2⟩ := info_string
  have HZ0 := Lib.hid hz0
  have HZ1 := Lib.hid hz1
  have HZ2 := Lib.hid hz2
  have HI := Lib.hid hi
  clear hi hz0 hz1 hz2
  have HW0 := Lib.hid hW0
  clear hW0
  go_enter Tryz.func83, Tryz.ntmps83
  go_wp2
  rw [HW0.out]
  go_loopw [5, 11] (fun v i wr => ∃ k : Nat, k ≤ n ∧ i = .int .i64 (k : Int) ∧ wr.ownsRow W0.heap.size 9 1 v (allL (f.subs.take k) codes).length ((allL (f.subs.take k) codes).map strB) ∧ Below W0.heap.size W0 wr) (fun _ i _ => n - (intOf i).toNat)
  case atStart => exact ⟨0, Nat.zero_le _, rfl, World.ownsRow_nil _ _ _ _, Below.refl _ _⟩
  case round =>
    obtain ⟨k, hk, rfl, hown, hbw⟩ := hrel
    by_cases hkn : k < n
    · obtain ⟨g, o, rfl, hg, c1, c2⟩ := HCell.out k (by rw [HN.out]; exact hkn)
      have hg0 : g < W0.heap.size := Nat.lt_of_lt_of_le hg b0.size
      have c1 : wr.cell? ⟨g, o + k * 2, none⟩ = some (.int .u8 ((f.subs.getD k sub0).1.toNat : Int)) := ((hbw.cell (p := ⟨g, o + k * 2, none⟩) hg0).trans (b0.cell (p := ⟨g, o + k * 2, none⟩) hg)).trans c1
      have c2 : wr.cell? ⟨g, o + k * 2 + 1, none⟩ = some (.string (S (f.subs.getD k sub0).2)) := ((hbw.cell (p := ⟨g, o + k * 2 + 1, none⟩) hg0).trans (b0.cell (p := ⟨g, o + k * 2 + 1, none⟩) hg)).trans c2
      have i1 : (0 : Int) ≤ (k : Int) := by omega
      have i2 : (k : Int) < (n : Int) := by omega
      have hsn := allL_snoc f.subs codes k (by rw [HN.out]; exact hkn)
      have hll : (allL (f.subs.take k) codes).length ≤ k := Nat.le_trans (allL_length _ _) (by rw [List.length_take]; omega)
      have hsz := hbw.size
      have cI2 := Lib.hid (fun W h r hr => cI.out (f.subs.getD k sub0) W h r hr)
      generalize allL (f.subs.take k) codes = M at hown hsn hll
      generalize f.subs.getD k sub0 = sb at c1 c2 hsn cI2
      have ha := hbw.alloc hsz (.cells #[.int .u8 (sb.1.toNat : Int), .string (S sb.2)] 48)
      have hown1 := hown.alloc (.cells #[.int .u8 (sb.1.toNat : Int), .string (S sb.2)] 48)
      obtain ⟨wa, hwa⟩ : ∃ wa, wr.alloc (.cells #[.int .u8 (sb.1.toNat : Int), .string (S sb.2)] 48) = wa := ⟨_, rfl⟩
      have hbx : wa.cell? ⟨wr.heap.size, 0, none⟩ = some (.int .u8 (sb.1.toNat : Int)) ∧ wa.cell? ⟨wr.heap.size, 1, none⟩ = some (.string (S sb.2)) ∧ wr.heap.size < wa.heap.size := by rw [← hwa]; simp
      rw [hwa] at ha hown1
      have HWA := Lib.hid hwa
      have HA := Lib.hid ha
      have HBX := Lib.hid hbx
      have HOwn1 := Lib.hid hown1
      clear hwa ha hbx hown hown1
      cases hin : inB sb.1 codes
      · have cC := cI2.out wa HA.out false hin
        rw [hin, if_neg (fun h => by cases h), List.append_nil] at hsn
        have HS := Lib.hid hsn
        clear hsn hin hbw
        generalize ((sb.1.toNat : Nat) : Int) = y at *
        generalize S sb.2 = x at *
        go_wp2_with fail
        rw [HWA.out]
        refine cC.mono ?_
        rintro e w5 ⟨rfl, hb5⟩
        have hb6 := HA.out.trans (hb5.mono HA.out.size)
        have hown5 := own_after HOwn1.out hb5
        go_wp2
        go_roundw
        case rel => exact ⟨k + 1, by omega, by go_num, by rw [HS.out]; exact hown5, hb6⟩
        case measure => simp [intOf]; omega
      · have cC := cI2.out wa HA.out true hin
        rw [hin, if_pos rfl] at hsn
        have HS := Lib.hid hsn
        obtain ⟨m, hm⟩ : ∃ m, M.length = m := ⟨_, rfl⟩
        obtain ⟨val, hval⟩ : ∃ val, sb.2 = val := ⟨_, rfl⟩
        rw [hval] at cC HS HBX HWA
        have HM := Lib.hid hm
        rw [hm] at hll
        clear hsn hin hbw hm
        rw [hval] at c2
        clear hval
        generalize ((sb.1.toNat : Nat) : Int) = y at *
        go_wp2_with fail
        rw [HWA.out]
        refine cC.mono ?_
        rintro e w5 ⟨rfl, hb5⟩
        have hb6 := HA.out.trans (hb5.mono HA.out.size)
        have hown5 := own_after HOwn1.out hb5
        rw [HM.out] at hown5
        have hown2 := hown5.alloc (.cells #[strB val] 9)
        have e1 := (hb5.cell (p := ⟨wr.heap.size, 1, none⟩) HBX.out.2.2).trans HBX.out.2.1
        have hsz6 := hb6.size
        clear hb5 hown5 c1 c2
        go_wp2_with (at_builtin; refine wpList_append_own _ rfl _ _ 54 rfl W0.heap.size 9 i0 (.string ⟨#[]⟩) 1 16 Tryz.underlying54 HI.out HZ0.out HZ1.out HZ2.out rfl (by decide) _ _ _ rfl hown2 ⟨w5.heap.size, 0, none⟩ 1 1 [strB val] rfl rfl (cells_one _ _ _) (by intro u hu; simp at hu; subst hu; rfl) (by unfold maxLen; omega) (by omega) (by simp; omega) ?_; intro v3 w3 hown3 hgrow3 hnil3)
        go_roundw
        case rel =>
          refine ⟨k + 1, by omega, by go_num, ?_, (hb6.alloc hsz6 _).grown hgrow3 (by simp; omega) (fun j hj => (hown2.lt j hj).1)⟩
          rw [HS.out, List.length_append, HM.out, List.map_append]
          exact hown3
        case measure => simp [intOf]; omega
    · obtain rfl : k = n := by omega
      have hT : f.subs.take k = f.subs := by rw [← HN.out, List.take_length]
      rw [hT] at hown
      have hbl := BL.of_row hown
      have HBL := Lib.hid hbl
      have Fin := Lib.hid (b0.trans (hbw.mono b0.size))
      clear hown hbw hbl hT
      go_wp2
      go_ret
      exact ⟨_, rfl, HBL.out, Fin.out⟩

set_option maxHeartbeats 4000000 in
theorem fAll_any (f : Fld) (u : Value) (w : World) (hu : QL u f.subs w) (codes : List UInt8) (hs : f.subs.length ≤ 100000) :
    Calls Tryz.prog 54 #[FV f u, .string (S codes)] w fun e w' => ∃ v', e = .returned v' ∧ BL v' (allL f.subs codes) w' ∧ Below w.heap.size w w' := by
  have b1 := (Below.refl w.heap.size w).alloc (Nat.le_refl _) (.cells #[.string (S f.tag), .string (S f.ind), u, .int .i64 f.auth] 24)
  have b2 := b1.alloc b1.size (.cells #[.string (S codes)] 9)
  obtain ⟨a, cap, rfl, _, _⟩ := hu.length
  obtain ⟨W0, hW0⟩ : ∃ W0, (w.alloc (.cells #[.string (S f.tag), .string (S f.ind), .slice a f.subs.length cap, .int .i64 f.auth] 24)).alloc (.cells #[.string (S codes)] 9) = W0 := ⟨_, rfl⟩
  have k0 : W0.cell? ⟨w.heap.size, 0, none⟩ = some (.string (S f.tag)) := by rw [← hW0]; simp
  have k1 : W0.cell? ⟨w.heap.size, 1, none⟩ = some (.string (S f.ind)) := by rw [← hW0]; simp
  have k2 : W0.cell? ⟨w.heap.size, 2, none⟩ = some (.slice a f.subs.length cap) := by rw [← hW0]; simp
  have k3 : W0.cell? ⟨w.heap.size, 3, none⟩ = some (.int .i64 f.auth) := by rw [← hW0]; simp
  have hca : CA codes (.func (.func 84) #[] #[.pointer (some ⟨w.heap.size + 1, 0, none⟩)]) W0 := by
    rw [← hW0]
    exact ⟨w.heap.size + 1, rfl, by simp, by simp⟩
  rw [hW0] at b2
  have cV := values_any f _ _ W0 (hu.after b2) codes hca hs
  unfold FV at cV ⊢
  have HW0 := Lib.hid hW0
  clear hW0 hca b1 hu
  generalize f.subs.length = n at *
  go_enter Tryz.func54, Tryz.ntmps54
  go_wp2_with fail
  rw [HW0.out]
  refine cV.mono ?_
  rintro e w1 ⟨v', rfl, h1, h2⟩
  have b3 := b2.trans (h2.mono b2.size)
  go_wp2
  go_ret
  exact ⟨_, rfl, h1, b3⟩

set_option maxHeartbeats 4000000 in
theorem fPlain_any (f : Fld) (u : Value) (w : World) (hu : QL u f.subs w) (codes : List UInt8) (hs : f.subs.length ≤ 1000) (hL : ∀ i, ((allL f.subs codes).getD i []).length ≤ 1000000) :
    Calls Tryz.prog 79 #[FV f u, .string (S codes)] w fun e w' => e = .returned (.string (S (plainL f.subs codes))) ∧ Below w.heap.size w w' := by
  have b0 : Below w.heap.size w (w.alloc (.cells #[.string (S f.tag), .string (S f.ind), u, .int .i64 f.auth] 24)) := (Below.refl w.heap.size w).alloc (Nat.le_refl _) _
  have cA := Lib.hid (fAll_any f u _ (hu.after b0) codes (by omega))
  have hl := allL_length f.subs codes
  have cJ := Lib.hid (fun v W hv => kJoin v (allL f.subs codes) W hv hL (by omega))
  have HB0 := Lib.hid b0
  clear hl b0
  unfold plainL
  unfold FV at cA ⊢
  obtain ⟨a, cap, rfl, _, _⟩ := hu.length
  generalize f.subs.length = n at *
  generalize S codes = cs at *
  go_enter Tryz.func79, Tryz.ntmps79
  go_wp2_with fail
  refine (cA.out).mono ?_
  rintro e w1 ⟨v', rfl, h1, h2⟩
  have b3 := HB0.out.trans (h2.mono HB0.out.size)
  clear h2
  go_wp2_with fail
  refine (cJ.out _ _ h1).mono ?_
  rintro e w2 ⟨rfl, h2⟩
  have b4 := b3.trans (h2.mono b3.size)
  go_wp2
  go_ret
  exact ⟨rfl, b4⟩
end

section
open Go.RowKit Go.PlainAid
set_option maxHeartbeats 8000000 in
set_option maxRecDepth 100000 in
theorem person_any (f : Fld) (u : Value) (w : World) (hu : QL u f.subs w) (hk : okF f) :
    Calls Tryz.prog 51 #[FV f u] w fun e w' => e = .returned (.string (S (headK 1 f.subs))) ∧ Below w.heap.size w w' := by
  have b0 : Below w.heap.size w (w.alloc (.cells #[.string (S f.tag), .string (S f.ind), u, .int .i64 f.auth] 24)) := (Below.refl w.heap.size w).alloc (Nat.le_refl _) _
  obtain ⟨h1, h2⟩ := hk
  have hz1 := plain_le f.subs [97] h1 h2
  have hz2 := getL_le 100 f.subs h2
  have cP := Lib.hid (fPlain_any f u _ (hu.after b0) [97] h1 (okF_getD _ (okF_all f.subs [97] h1 h2).2))
  obtain ⟨d, ok, hd⟩ : ∃ d ok, getL f.subs 100 = (d, ok) := ⟨_, _, rfl⟩
  have cG := Lib.hid (fun (W : World) (hb : Below w.heap.size w W) => fGet_any f u W (hu.after hb) 100 d ok hd)
  have eH : headK 1 f.subs = plainL f.subs [97] ++ (if ok = true then cb ++ d else []) := by
    unfold headK
    rw [if_pos rfl, hd]
  rw [eH]
  obtain ⟨Q, hQ⟩ : ∃ Q, (fun (e : Ending) (w' : World) => e = .returned (.string (S (plainL f.subs [97] ++ if ok = true then cb ++ d else []))) ∧ Below w.heap.size w w') = Q := ⟨_, rfl⟩
  rw [hQ]
  have HQ : RowKit.Hid (∀ W, Below w.heap.size w W → (ok = true → Q (.returned (.string (S (plainL f.subs [97]) ++ (⟨#[44, 32]⟩ ++ S d)))) W) ∧ (ok = false → Q (.returned (.string (S (plainL f.subs [97])))) W)) := by
    rw [← hQ]
    refine fun W hW => ⟨fun h => ⟨?_, hW⟩, fun h => ⟨?_, hW⟩⟩
    · rw [if_pos h, ← S_append, ← S_append]
      rfl
    · rw [if_neg (by rw [h]; decide), List.append_nil]
  clear hQ
  rw [hd] at hz2
  change d.length ≤ 10000 at hz2
  clear eH hd
  generalize plainL f.subs [97] = pl at *
  have HB0 := Lib.hid b0
  have HBx := Lib.hid (fun (W : World) (h : Below (w.alloc (.cells #[.string (S f.tag), .string (S f.ind), u, .int .i64 f.auth] 24)).heap.size (w.alloc (.cells #[.string (S f.tag), .string (S f.ind), u, .int .i64 f.auth] 24)) W) => (h.block w.heap.size (by simp)).trans (heap_alloc_new w (.cells #[.string (S f.tag), .string (S f.ind), u, .int .i64 f.auth] 24)))
  unfold FV at *
  obtain ⟨a, cap, rfl, _, _⟩ := hu.length
  clear hu b0 h1 h2
  generalize f.subs.length = n at *
  have ea : S [97] = (⟨#[97]⟩ : ByteArray) := rfl
  have e100 : ((100 : UInt8).toNat : Int) = 100 := rfl
  rw [ea] at cP
  rw [e100] at cG
  generalize S f.tag = t0 at *
  generalize S f.ind = t1 at *
  generalize f.auth = t3 at *
  go_enter Tryz.func51, Tryz.ntmps51
  go_wp2_with fail
  refine cP.out.mono ?_
  rintro e w1 ⟨rfl, hb1⟩
  have HB1 := Lib.hid (HB0.out.trans (hb1.mono HB0.out.size))
  have c1 := Lib.hid (cG.out w1 HB1.out)
  obtain ⟨⟨x0, x1, x2, x3⟩, -⟩ := fcells4 (HBx.out w1 hb1)
  clear hb1 cP cG HBx
  go_wp2_with fail
  refine c1.out.mono ?_
  rintro e w2 ⟨rfl, hb2⟩
  have HB2 := Lib.hid (HB1.out.trans (hb2.mono HB1.out.size))
  clear hb2 c1
  have s1 := S_size pl
  have s2 := S_size d
  cases ok
  · have hgood := Lib.hid (HQ.out w2 HB2.out).2
    clear HQ
    go_wp2
    first | exact hgood.out (by simp) | (go_ret; exact hgood.out (by simp))
  · have hgood := Lib.hid (HQ.out w2 HB2.out).1
    clear HQ
    go_wp2
    first | exact hgood.out (by simp) | (go_ret; exact hgood.out (by simp))

set_option maxHeartbeats 8000000 in
set_option maxRecDepth 100000 in
theorem pHeading_any (f : Fld) (u : Value) (w : World) (hS : ST w) (hu : QL u f.subs w) (hk : okF f) :
    Calls Tryz.prog 26 #[FV f u] w fun e w' => e = .returned (.string (S (headX f))) ∧ Below w.heap.size w w' := by
  have b0 : Below w.heap.size w (w.alloc (.cells #[.string (S f.tag), .string (S f.ind), u, .int .i64 f.auth] 24)) := (Below.refl w.heap.size w).alloc (Nat.le_refl _) _
  have cK := Lib.hid (fun W hS => pKind_any f.tag W hS)
  have hS0 := hS.after b0
  obtain ⟨h1, h2⟩ := hk
  have cP := Lib.hid (fun (W : World) (hb : Below w.heap.size w W) => person_any f u W (hu.after hb) ⟨h1, h2⟩)
  have cG := Lib.hid (fun (W : World) (hb : Below w.heap.size w W) r b h => fGet_any f u W (hu.after hb) 97 r b h)
  have cA := Lib.hid (fun (W : World) (hb : Below w.heap.size w W) => fAll_any f u W (hu.after hb) [97, 120, 121, 122] (by omega))
  have cJ := Lib.hid (fun v (W : World) (hv : BL v (allL f.subs [97, 120, 121, 122]) W) => cJoin dd v _ W hv (by decide) 10000 (by decide) (okF_all f.subs _ h1 h2).2 (Nat.le_trans (okF_all f.subs _ h1 h2).1 (by decide)))
  have hr := kindX_range f.tag
  have eX : headX f = headK (kindX f.tag) f.subs := rfl
  rw [eX]
  obtain ⟨kd, hkd⟩ : ∃ kd, kindX f.tag = kd := ⟨_, rfl⟩
  rw [hkd] at cK hr ⊢
  have HB0 := Lib.hid b0
  have HBx := Lib.hid (fun (W : World) (h : Below (w.alloc (.cells #[.string (S f.tag), .string (S f.ind), u, .int .i64 f.auth] 24)).heap.size (w.alloc (.cells #[.string (S f.tag), .string (S f.ind), u, .int .i64 f.auth] 24)) W) => (h.block w.heap.size (by simp)).trans (heap_alloc_new w (.cells #[.string (S f.tag), .string (S f.ind), u, .int .i64 f.auth] 24)))
  have c0 := Lib.hid (cK.out _ hS0)
  clear b0 hS hS0 cK eX hkd
  have HR := Lib.hid (fun r b (h : getL f.subs 97 = (r, b)) => h)
  have HL := Lib.hid h2
  unfold FV at *
  obtain ⟨a, cap, rfl, _, _⟩ := hu.length
  have e97 : ((97 : UInt8).toNat : Int) = 97 := rfl
  have eA : S [97, 120, 121, 122] = (⟨#[97, 120, 121, 122]⟩ : ByteArray) := rfl
  have eD : S dd = (⟨#[45, 45]⟩ : ByteArray) := rfl
  rw [e97] at cG
  rw [eA] at cA
  rw [eD] at cJ
  clear e97 eA eD hu
  obtain ⟨r, b, hrb⟩ : ∃ r b, getL f.subs 97 = (r, b) := ⟨_, _, rfl⟩
  have cG2 := Lib.hid (fun W hb => cG.out W hb r b hrb)
  have HH := Lib.hid (show (getL f.subs 97).1 = r by rw [hrb])
  clear cG hrb HR
  generalize hsb : f.subs = sb at *
  clear hsb
  generalize sb.length = n at *
  generalize S f.tag = t0 at *
  generalize S f.ind = t1 at *
  generalize f.auth = t3 at *
  obtain ⟨Q, hQ⟩ : ∃ Q, (fun (e : Ending) (w' : World) => e = .returned (.string (S (headK kd sb))) ∧ Below w.heap.size w w') = Q := ⟨_, rfl⟩
  rw [hQ]
  have HQ : RowKit.Hid (∀ W, Below w.heap.size w W → Q (.returned (.string (S (headK kd sb)))) W) := by
    rw [← hQ]
    exact fun W hW => ⟨rfl, hW⟩
  clear hQ
  go_enter Tryz.func26, Tryz.ntmps26
  go_wp2_with fail
  refine c0.out.mono ?_
  rintro e w1 ⟨rfl, hb1⟩
  have HB1 := Lib.hid (HB0.out.trans (hb1.mono HB0.out.size))
  obtain ⟨⟨x0, x1, x2, x3⟩, -⟩ := fcells4 (HBx.out w1 hb1)
  clear hb1 c0 HB0 HBx
  have hcases : kd = 0 ∨ kd = 1 ∨ kd = 2 ∨ kd = 3 ∨ kd = 4 := by omega
  rcases hcases with rfl | rfl | rfl | rfl | rfl
  · have hq := HQ.out
    rw [show headK 0 sb = [] from rfl] at hq
    have HG := Lib.hid (hq w1 HB1.out)
    clear cP cG2 cA cJ hq HQ
    go_wp2
    first | exact HG.out | (go_ret; exact HG.out)
  · have c1 := Lib.hid (cP.out w1 HB1.out)
    have HG := Lib.hid HQ.out
    clear cP cG2 cA cJ HQ
    go_wp2_with fail
    refine c1.out.mono ?_
    rintro e w2 ⟨rfl, hb2⟩
    have HB2 := Lib.hid (HB1.out.trans (hb2.mono HB1.out.size))
    clear hb2 c1
    have hg := Lib.hid (HG.out w2 HB2.out)
    clear HG
    go_wp2
    first | exact hg.out | (go_ret; exact hg.out)
  · have c1 := Lib.hid (cG2.out w1 HB1.out)
    have hq := HQ.out
    rw [show headK 2 sb = r from HH.out] at hq
    have HG := Lib.hid hq
    clear cP cG2 cA cJ hq HQ
    go_wp2_with fail
    refine c1.out.mono ?_
    rintro e w2 ⟨rfl, hb2⟩
    have HB2 := Lib.hid (HB1.out.trans (hb2.mono HB1.out.size))
    clear hb2 c1
    have hg := Lib.hid (HG.out w2 HB2.out)
    clear HG
    go_wp2
    first | exact hg.out | (go_ret; exact hg.out)
  · have c1 := Lib.hid (cA.out w1 HB1.out)
    have hq := HQ.out
    rw [show headK 3 sb = gluX dd (allL sb [97, 120, 121, 122]) from rfl] at hq
    have HG := Lib.hid hq
    clear cP cG2 cA hq HQ
    go_wp2_with fail
    refine c1.out.mono ?_
    rintro e w2 ⟨v, rfl, hv, hb2⟩
    have HB2 := Lib.hid (HB1.out.trans (hb2.mono HB1.out.size))
    have c2 := Lib.hid (cJ.out v w2 hv)
    clear hb2 c1 hv cJ
    go_wp2_with fail
    refine c2.out.mono ?_
    rintro e w3 ⟨rfl, hb3⟩
    have HB3 := Lib.hid (HB2.out.trans (hb3.mono HB2.out.size))
    clear hb3 c2
    have hg := Lib.hid (HG.out w3 HB3.out)
    clear HG
    go_wp2
    first | exact hg.out | (go_ret; exact hg.out)
  · have c1 := Lib.hid (cG2.out w1 HB1.out)
    have hq := HQ.out
    rw [show headK 4 sb = r from HH.out] at hq
    have HG := Lib.hid hq
    clear cP cG2 cA cJ hq HQ
    go_wp2_with fail
    refine c1.out.mono ?_
    rintro e w2 ⟨rfl, hb2⟩
    have HB2 := Lib.hid (HB1.out.trans (hb2.mono HB1.out.size))
    clear hb2 c1
    have hg := Lib.hid (HG.out w2 HB2.out)
    clear HG
    go_wp2
    first | exact hg.out | (go_ret; exact hg.out)
end

section
open Go.RowKit Go.PlainAid

end

end Go.Proofs.YthjdopnoophigaaGreatDoor
